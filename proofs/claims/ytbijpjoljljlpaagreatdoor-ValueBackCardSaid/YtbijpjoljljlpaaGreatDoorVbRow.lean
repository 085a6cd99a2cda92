/- Rows of values in memory: what they hold, a value more. Conditions: fewer than 2^40 values. -/
import Derived.Test.YtbijpjoljljlpaaGreatDoorVbPlain
import Derived.Test.YtbijpjoljljlpaaGreatDoorOpenStructs
set_option maxRecDepth 100000
namespace Go.Proofs.YtbijpjoljljlpaaGreatDoor
open Go.RowKit Go.Maps Go.Sort Go.Lib

def encV (x : VV) : List Value := [.int .i64 x.k, .int .i64 x.n, .string x.s]
def flatC (l : List VV) : List Value := l.flatMap encV
theorem flatC_snoc (l : List VV) (x : VV) : flatC (l ++ [x]) = flatC l ++ encV x := by simp [flatC]
theorem flatC_at : ∀ (l : List VV) (i : Nat) (x : VV), l[i]? = some x → (flatC l)[i * 3]? = some (.int .i64 x.k) ∧ (flatC l)[i * 3 + 1]? = some (.int .i64 x.n) ∧ (flatC l)[i * 3 + 2]? = some (.string x.s)
  | [], i, x, h => by simp at h
  | q :: r, 0, x, h => by
    simp at h
    subst h
    simp [flatC, encV]
  | q :: r, i + 1, x, h => by
    have := flatC_at r i x (by simpa using h)
    unfold flatC at this ⊢
    rw [List.flatMap_cons, show (i + 1) * 3 = i * 3 + 3 by omega, show i * 3 + 3 + 1 = (i * 3 + 1) + 3 by omega, show i * 3 + 3 + 2 = (i * 3 + 2) + 3 by omega]
    exact this
/-- a slice holds these values -/
def HoldsV (w : World) (v : Value) (l : List VV) : Prop :=
  ∃ a c, v = .slice a l.length c ∧ l.length ≤ c ∧ ((a = none ∧ l = [] ∧ c = 0) ∨ ∃ ad : Addr, a = some ad ∧ ∀ i x, l[i]? = some x →
    w.cell? (ad.add (i * 3)) = some (.int .i64 x.k) ∧ w.cell? ⟨(ad.add (i * 3)).block, (ad.add (i * 3)).off + 1, none⟩ = some (.int .i64 x.n) ∧ w.cell? ⟨(ad.add (i * 3)).block, (ad.add (i * 3)).off + 2, none⟩ = some (.string x.s))
theorem HoldsV.kept {w w' : World} {v : Value} {l : List VV} (h : HoldsV w v l) (hc : ∀ (a : Addr) u, w.cell? a = some u → w'.cell? a = some u) : HoldsV w' v l := by
  obtain ⟨a, c, h1, h2, h3⟩ := h
  refine ⟨a, c, h1, h2, ?_⟩
  rcases h3 with h3 | ⟨ad, h3, h4⟩
  · exact .inl h3
  · exact .inr ⟨ad, h3, fun i x hx => ⟨hc _ _ (h4 i x hx).1, hc _ _ (h4 i x hx).2.1, hc _ _ (h4 i x hx).2.2⟩⟩
theorem HoldsV.below {w w' : World} {v : Value} {l : List VV} (h : HoldsV w v l) (hb : Below w.heap.size w w') : HoldsV w' v l :=
  h.kept fun a u ha => by rw [hb.cell (World.block_lt_of_cell? w a ha)]; exact ha
theorem HoldsV.form {w : World} {v : Value} {l : List VV} (h : HoldsV w v l) : ∃ a c, v = .slice a l.length c ∧ l.length ≤ c := by
  obtain ⟨a, c, h1, h2, _⟩ := h
  exact ⟨a, c, h1, h2⟩
theorem HoldsV.at_ {w : World} {a : Option Addr} {n c : Nat} {l : List VV} (h : HoldsV w (.slice a n c) l) {i : Nat} {x : VV} (hx : l[i]? = some x) : ∃ ad : Addr, a = some ad ∧ w.cell? (ad.add (i * 3)) = some (.int .i64 x.k) ∧ w.cell? ⟨(ad.add (i * 3)).block, (ad.add (i * 3)).off + 1, none⟩ = some (.int .i64 x.n) ∧ w.cell? ⟨(ad.add (i * 3)).block, (ad.add (i * 3)).off + 2, none⟩ = some (.string x.s) := by
  obtain ⟨a', c', h1, _, h3⟩ := h
  cases h1
  rcases h3 with ⟨_, e, _⟩ | ⟨ad, h3, h4⟩
  · subst e; simp at hx
  · exact ⟨ad, h3, h4 i x hx⟩
theorem holdsV_nil (w : World) : HoldsV w (.slice none 0 0) [] := ⟨none, 0, rfl, Nat.le_refl _, .inl ⟨rfl, rfl, rfl⟩⟩
theorem holdsV_of_owns {w : World} {B : Nat} {v : Value} {l : List VV} (h : w.ownsRow B 25 3 v l.length (flatC l)) : HoldsV w v l := by
  obtain ⟨a, c, rfl, hc, _⟩ := ownsRow_form h
  rcases h.2 with ⟨e, hn⟩ | ⟨g, cap, cur, e, _, hg, _⟩
  · simp at e
    obtain ⟨rfl, e2, rfl⟩ := e
    exact ⟨_, _, rfl, hc, .inl ⟨rfl, e2, rfl⟩⟩
  · simp at e
    obtain ⟨rfl, rfl⟩ := e
    refine ⟨_, _, rfl, hc, .inr ⟨_, rfl, fun i x hx => ?_⟩⟩
    have hcell := h.cells (g := g) rfl
    obtain ⟨a0, a1, a2⟩ := flatC_at l i x hx
    have h0 := hcell _ _ a0
    have h1 := hcell _ _ a1
    have h2 := hcell _ _ a2
    simp only [Addr.add_at, Nat.zero_add] at h0 h1 h2 ⊢
    exact ⟨h0, h1, h2⟩
theorem info_value : (Tryz.prog.info? 25).map (fun i => (i.zero, i.size, i.bytes)) = some (some (.agg #[.int .i64 0, .int .i64 0, .string ⟨#[]⟩]), 3, 32) := by kernel_rfl
/-- a value more, behind a row of the call's own -/
theorem app_value {w : World} {B : Nat} {v : Value} {l : List VV} (hown : w.ownsRow B 25 3 v l.length (flatC l)) (hB : B ≤ w.heap.size) (x : VV) (hl : l.length ≤ 1000000000000) :
    ∃ v' w', (∀ ty, (Builtin.append_ #[22, 22] ty #[v, .slice (some ⟨w.heap.size, 0, none⟩) 1 1]).run Tryz.prog (w.alloc (.cells #[.int .i64 x.k, .int .i64 x.n, .string x.s] 25)) = .ok v' w') ∧
      w'.ownsRow B 25 3 v' (l ++ [x]).length (flatC (l ++ [x])) ∧ w.grownBy w' v.ownBlock := by
  obtain ⟨i, hi, hz0, hz1, hz2⟩ := info_parts info_value
  have hown' : (w.alloc (.cells #[.int .i64 x.k, .int .i64 x.n, .string x.s] 25)).ownsRow B 25 3 v l.length (flatC l) := hown.alloc _
  obtain ⟨v', w', hr, h2, h3, h4⟩ := run_append_own (P := Tryz.prog) (w := w.alloc (.cells #[.int .i64 x.k, .int .i64 x.n, .string x.s] 25)) B 22 0 25 i (.agg #[.int .i64 0, .int .i64 0, .string ⟨#[]⟩]) 3 32 Tryz.underlying22 hi hz0 hz1 hz2 rfl (by omega) v l.length (flatC l) hown'
    ⟨w.heap.size, 0, none⟩ 1 1 [.int .i64 x.k, .int .i64 x.n, .string x.s] rfl (fun j u' hj => by
      rw [Addr.add_at, Nat.zero_add, cell_of_row _ _ _ _ _ _ (heap_alloc_new w _)]
      simpa using hj) (fun u' hu' => by simp at hu'; rcases hu' with rfl | rfl | rfl <;> rfl) (by unfold maxLen; omega) (by omega) (by simp; omega)
  refine ⟨v', w', fun ty => hr, ?_, (World.grownBy_alloc w _ v.ownBlock).andThen h3 (fun j hj => .inr hj)⟩
  rw [flatC_snoc, List.length_append]
  exact h2
end Go.Proofs.YtbijpjoljljlpaaGreatDoor
