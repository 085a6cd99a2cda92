/- One struct more behind a row of the call's own. Conditions: none. -/
import Derived.Test.YtjlpmhjnfgmmcaaGen
import Derived.Maps.AppendAt
set_option maxRecDepth 100000
namespace Go.Proofs.Ytjlpmhjnfgmmcaa
open Go.RowKit Go.Maps Go.Sort

/-- an append of one element whose cells were laid just ahead -/
theorem push_row {P : Program} {t e : TypeId} {z : Value} {size by' : Nat} (ht : P.underlying t = some (.slice e)) (hinfo : (P.info? e).map (fun i => (i.zero, i.size, i.bytes)) = some (some z, size, by')) (hzs : z.cells.size = size) (hsz : 0 < size)
    {w : World} {B : Nat} {v : Value} {n : Nat} {xs : List Value} (hown : w.ownsRow B e size v n xs) (hB : B ≤ w.heap.size) (news : List Value) (hl : news.length = size) (h1 : ∀ u ∈ news, u.oneCell' = true) (hbytes : (n + 1) * by' ≤ 140737488355328) (hn : n + 1 ≤ 9223372036854775807) :
    ∃ v' w', (∀ ty, (Builtin.append_ #[t, t] ty #[v, .slice (some ⟨w.heap.size, 0, none⟩) 1 1]).run P (w.alloc (.cells news.toArray e)) = .ok v' w') ∧
      w'.ownsRow B e size v' (n + 1) (xs ++ news) ∧ w.grownBy w' v.ownBlock ∧ (v'.ownBlock = v.ownBlock ∨ v'.ownBlock = some (w.heap.size + 1)) := by
  obtain ⟨i, hi, hz0, hz1, hz2⟩ := info_parts hinfo
  have hown' : (w.alloc (.cells news.toArray e)).ownsRow B e size v n xs := hown.alloc _
  have hnew : ∀ j u, news[j]? = some u → (w.alloc (.cells news.toArray e)).cell? ((⟨w.heap.size, 0, none⟩ : Addr).add j) = some u := fun j u hj => by
    rw [Addr.add_at, Nat.zero_add, cell_of_row _ _ _ _ _ _ (heap_alloc_new w _)]
    simpa using hj
  obtain ⟨v', w', hr, h2, h3, _, h5⟩ := run_append_own_at (P := P) (w := w.alloc (.cells news.toArray e)) B t 0 e i z size by' ht hi hz0 hz1 hz2 hzs hsz v n xs hown' ⟨w.heap.size, 0, none⟩ 1 1 news (by omega) hnew h1 (by unfold maxLen; omega) hbytes (by simp; omega)
  refine ⟨v', w', fun ty => hr, h2, (World.grownBy_alloc w _ v.ownBlock).andThen h3 (fun j hj => .inr hj), ?_⟩
  rcases h5 with h5 | h5
  · exact .inl h5
  · exact .inr (by simpa using h5)
end Go.Proofs.Ytjlpmhjnfgmmcaa
