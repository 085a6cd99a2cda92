/- What a sketch of the reference is in memory; its rows of counters. Conditions: none. -/
import Derived.Test.YtkmonecolkamjaaHeavySk
set_option maxRecDepth 100000
namespace Go.Proofs.Ytkmonecolkamjaa
open Go.RowKit Go.Maps Go.Sort

theorem ownsRow_rebase2 {w : World} {A B : Nat} {e : TypeId} {size : Nat} {v : Value} {n : Nat} {xs : List Value} (h : w.ownsRow A e size v n xs) (hb : ∀ g, v.ownBlock = some g → B ≤ g) : w.ownsRow B e size v n xs := by
  refine ⟨h.1, ?_⟩
  rcases h.2 with h2 | ⟨g, cap, cur, rfl, _, r⟩
  · exact .inl h2
  · exact .inr ⟨g, cap, cur, rfl, hb g rfl, r⟩

/-- a row of the reference's counters -/
def RowC (B : Nat) (v : Value) (L : CL) (w : World) : Prop := w.ownsRow B 70 2 v L.length (flatP L)
theorem RowC.rowP {w : World} {B g n c : Nat} {L : CL} (h : RowC B (.slice (some ⟨g, 0, none⟩) n c) L w) : RowP w g L := by
  have hc := h.cells (g := g) rfl
  have hf : ∀ o, w.frozen? ⟨g, o, none⟩ = false := fun o => by
    rcases h.2 with ⟨e, _⟩ | ⟨g', cap, cur, e, _, hg, _⟩
    · simp at e
    · simp at e
      obtain ⟨rfl, _⟩ := e
      exact free_of_row hg o
  refine ⟨fun j hj => ?_, (h.lt g rfl).2⟩
  rw [size_flatK] at hj
  have hj' : j / 2 < L.length := by simp at hj; omega
  obtain ⟨p, hp, e2⟩ : ∃ p, L[j / 2]? = some p ∧ L.toArray[j / 2]! = p := ⟨L[j / 2], List.getElem?_eq_getElem hj', by rw [getElem!_pos _ _ (by simpa using hj')]; simp⟩
  obtain ⟨a0, a1⟩ := flatP_at L (j / 2) _ hp
  refine ⟨?_, by rw [Nat.zero_add]; exact hf j⟩
  rw [get_flatK _ _ _ _ hj, e2, Nat.zero_add]
  rcases (by omega : j % 2 = 0 ∨ j % 2 = 1) with e | e
  · rw [e]
    have := hc (j / 2 * 2) _ a0
    rw [Addr.add_at, Nat.zero_add, show j / 2 * 2 = j by omega] at this
    exact this
  · rw [e]
    have := hc (j / 2 * 2 + 1) _ a1
    rw [Addr.add_at, Nat.zero_add, show j / 2 * 2 + 1 = j by omega] at this
    exact this
theorem RowC.form {w : World} {B : Nat} {v : Value} {L : CL} (h : RowC B v L w) : (v = .slice none 0 0 ∧ L = []) ∨ ∃ g c, v = .slice (some ⟨g, 0, none⟩) L.length c ∧ L.length ≤ c ∧ c ≤ maxLen ∧ B ≤ g ∧ g < w.heap.size := by
  rcases h.2 with ⟨e, e2⟩ | ⟨g, cap, cur, e, hB, hg, h1, h2, _⟩
  · exact .inl ⟨e, List.eq_nil_of_length_eq_zero e2⟩
  · exact .inr ⟨g, cap, e, h1, h2, hB, lt_of_heap hg⟩
theorem RowC.form2 {w : World} {B : Nat} {v : Value} {L : CL} (h : RowC B v L w) : ∃ a c, v = .slice a L.length c ∧ L.length ≤ c ∧ c ≤ maxLen := by
  rcases h.form with ⟨e, e2⟩ | ⟨g, c, e, h1, h2, _⟩
  · exact ⟨none, 0, by rw [e, e2]; rfl, by rw [e2]; exact Nat.le_refl _, Nat.zero_le _⟩
  · exact ⟨_, c, e, h1, h2⟩
theorem RowC.of_block {w w' : World} {B : Nat} {v : Value} {L : CL} (h : RowC B v L w) (hb : ∀ g, v.ownBlock = some g → w'.heap[g]? = w.heap[g]?) : RowC B v L w' := ownsRow_of_block h hb
theorem RowC.below {w w' : World} {B : Nat} {v : Value} {L : CL} (h : RowC B v L w) (hb : Below w.heap.size w w') : RowC B v L w' := ownsRow_below h hb
theorem RowC.nil (B : Nat) (w : World) : RowC B (.slice none 0 0) [] w := by simpa [RowC, flatP] using World.ownsRow_nil w B 70 2

/-- a row of the call's own -/
def OwnC (w : World) (L : CL) (v : Value) (W : World) : Prop := RowC w.heap.size v L W ∧ Below w.heap.size w W
theorem OwnC.below {w W W' : World} {L : CL} {v : Value} (h : OwnC w L v W) (hb : Below W.heap.size W W') : OwnC w L v W' := ⟨h.1.below hb, h.2.trans (hb.mono h.2.size)⟩
theorem OwnC.alloc {w W : World} {L : CL} {v : Value} (h : OwnC w L v W) (o : Obj) : OwnC w L v (W.alloc o) := h.below ((Below.refl _ W).alloc (Nat.le_refl _) o)

theorem info_rctr : (Try.prog.info? 70).map (fun i => (i.zero, i.size, i.bytes)) = some (some (.agg #[.int .i64 0, .int .i64 0]), 2, 16) := by kernel_rfl
/-- where a row lies behind an append -/
theorem append_where {P : Program} {w : World} (B : Nat) (t ty e : TypeId) (i : TypeInfo) (z : Value) (ht : P.underlying t = some (.slice e)) (hi : P.info? e = some i) (hz : i.zero = some z) (hsize : i.size = 2) (hby : i.bytes = 16)
    (v : Value) (n : Nat) (xs : List Value) (hown : w.ownsRow B e 2 v n xs) (a : Addr) (m c : Nat) (hm : 0 < m) (news : List Value) (hl : news.length = m * 2) (hnews : ∀ j u, news[j]? = some u → w.cell? (a.add j) = some u) (h1 : ∀ u ∈ news, u.oneCell' = true)
    (hb : (n + m) * 16 ≤ 140737488355328) {v' : Value} {w' : World} (hr : (Builtin.append_ #[t, t] ty #[v, .slice (some a) m c]).run P w = .ok v' w') : v'.ownBlock = v.ownBlock ∨ v'.ownBlock = some w.heap.size := by
  have hl1 : news.length = m * i.size := by rw [hsize]; exact hl
  have hbb : (n + m) * i.bytes ≤ 140737488355328 := by rw [hby]; exact hb
  rcases hown.2 with ⟨rfl, rfl⟩ | ⟨g, cap, cur, rfl, _, hg, hnc, hcm, hcs, htake⟩
  · have hr2 := run_append_nil (P := P) w t ty e i z ht hi hz a m c news hl1 hnews (by omega) (by omega) (by have hb := hbb; rw [Nat.zero_add] at hb; omega)
    rw [hr2] at hr
    simp only [Result.ok.injEq] at hr
    exact .inr (by rw [← hr.1]; rfl)
  · by_cases hroom : n + m ≤ cap
    · have hr2 := run_append_room (P := P) w t ty e i ht hi g n cap cur hg a m c news hl1 hnews h1 hroom (by rw [hsize, hl, hcs]; omega)
      rw [hr2] at hr
      simp only [Result.ok.injEq] at hr
      exact .inl (by rw [← hr.1]; rfl)
    · have holds : ∀ j u, xs[j]? = some u → w.cell? ((⟨g, 0, none⟩ : Addr).add j) = some u := hown.cells (g := g) rfl
      have hr2 := run_append_grow (P := P) w t ty e i z ht hi hz ⟨g, 0, none⟩ n cap xs (by rw [hsize]; exact hown.1) holds a m c news hl1 hnews (by omega) (by omega) (growslice_fits (by omega) hbb)
      rw [hr2] at hr
      simp only [Result.ok.injEq] at hr
      exact .inr (by rw [← hr.1]; rfl)
theorem OwnC.push {w W : World} {xs : CL} {v : Value} (h : OwnC w xs v W) (x c : Int) (hl : xs.length ≤ 1000000) :
    ∃ g k w', (∀ ty, (Builtin.append_ #[63, 63] ty #[v, .slice (some ⟨W.heap.size, 0, none⟩) 1 1]).run Try.prog (W.alloc (.cells #[.int .i64 x, .int .i64 c] 70)) = .ok (.slice (some ⟨g, 0, none⟩) (xs.length + 1) k) w') ∧
      OwnC w (xs ++ [(x, c)]) (.slice (some ⟨g, 0, none⟩) (xs.length + 1) k) w' ∧ W.grownBy w' v.ownBlock ∧ (v.ownBlock = some g ∨ W.heap.size ≤ g) := by
  obtain ⟨i, hi, hz0, hz1, hz2⟩ := info_parts info_rctr
  have hown' : (W.alloc (.cells #[.int .i64 x, .int .i64 c] 70)).ownsRow w.heap.size 70 2 v xs.length (flatP xs) := h.1.alloc _
  have hB := h.2.size
  have hnew : ∀ j u, [Value.int .i64 x, .int .i64 c][j]? = some u → (W.alloc (.cells #[.int .i64 x, .int .i64 c] 70)).cell? ((⟨W.heap.size, 0, none⟩ : Addr).add j) = some u := fun j u hj => by
    rw [Addr.add_at, Nat.zero_add, cell_of_row _ _ _ _ _ _ (heap_alloc_new W _)]
    simpa using hj
  have hone : ∀ u ∈ [Value.int .i64 x, .int .i64 c], u.oneCell' = true := fun u hu => by simp at hu; rcases hu with rfl | rfl <;> rfl
  obtain ⟨v', w', hr, h2, h3, h4⟩ := run_append_own (P := Try.prog) (w := W.alloc (.cells #[.int .i64 x, .int .i64 c] 70)) w.heap.size 63 0 70 i (.agg #[.int .i64 0, .int .i64 0]) 2 16 Try.underlying63 hi hz0 hz1 hz2 rfl (by omega) v xs.length (flatP xs) hown'
    ⟨W.heap.size, 0, none⟩ 1 1 [.int .i64 x, .int .i64 c] rfl hnew hone (by unfold maxLen; omega) (by omega) (by simp; omega)
  have hw := append_where (P := Try.prog) w.heap.size 63 0 70 i _ Try.underlying63 hi hz0 hz1 hz2 v xs.length (flatP xs) hown' ⟨W.heap.size, 0, none⟩ 1 1 (by omega) [.int .i64 x, .int .i64 c] rfl hnew hone (by omega) hr
  have hgr := (World.grownBy_alloc W (.cells #[.int .i64 x, .int .i64 c] 70) v.ownBlock).andThen h3 (fun j hj => .inr hj)
  have h5 : RowC w.heap.size v' (xs ++ [(x, c)]) w' := by
    unfold RowC
    rw [flatP_snoc, List.length_append]
    exact h2
  rcases h5.form with ⟨_, e⟩ | ⟨g, k, e, _⟩
  · simp at e
  · rw [List.length_append] at e
    subst e
    refine ⟨g, k, w', fun ty => hr, ⟨h5, h.2.trans (below_grown hgr hB (fun y hy => ownsRow_ge h.1 y hy))⟩, hgr, ?_⟩
    rcases hw with e | e
    · exact .inl e.symm
    · refine .inr ?_
      have e' : g = W.heap.size + 1 := by simpa [Value.ownBlock] using e
      omega

/-- a sketch of the reference in memory, whatever it counts -/
structure RkAt (T : Tags) (i : Nat) (w : World) (p m n : Nat) (v : Value) (L : CL) : Prop where
  head : w.heap[p]? = some (.cells #[.int .i64 m, v, .int .i64 n] 65 (0, 0))
  tp : T p = some i
  row : RowC 0 v L w
  tr : ∀ g, v.ownBlock = some g → T g = none
  asc : Asc L
  inI : ∀ p ∈ L, InI p.1 ∧ InI p.2
def RL (p m n : Nat) (L : CL) : Thing := fun T i w => ∃ v, RkAt T i w p m n v L
def RK (p : Nat) (V : HV) : Thing := fun T i w => RL p V.m V.n V.L T i w ∧ V.Good
theorem RL.framed (p m n : Nat) (L : CL) : Framed (RL p m n L) := by
  rintro T T' i w w' ⟨v, h⟩ hT hw
  have hl : ∀ g, v.ownBlock = some g → g < w.heap.size := fun g hg => (h.row.lt g hg).2
  exact ⟨v, {
    head := (hw p (lt_of_heap h.head) (.inr h.tp)).trans h.head
    tp := (hT p (lt_of_heap h.head)).trans h.tp
    row := h.row.of_block fun g hg => hw g (hl g hg) (.inl (h.tr g hg))
    tr := fun g hg => (hT g (hl g hg)).trans (h.tr g hg)
    asc := h.asc
    inI := h.inI }⟩
theorem RK.framed (p : Nat) (V : HV) : Framed (RK p V) := fun T T' i w w' h hT hw => ⟨RL.framed p V.m V.n V.L T T' i w w' h.1 hT hw, h.2⟩
section
variable {T : Tags} {i : Nat} {w : World} {p m n : Nat} {v : Value} {L : CL}
theorem RkAt.cells (h : RkAt T i w p m n v L) : w.cell? ⟨p, 0, none⟩ = some (.int .i64 m) ∧ w.cell? ⟨p, 1, none⟩ = some v ∧ w.cell? ⟨p, 2, none⟩ = some (.int .i64 n) ∧ ∀ j, w.frozen? ⟨p, j, none⟩ = false :=
  ⟨by rw [cell_of_row _ _ _ _ _ _ h.head]; rfl, by rw [cell_of_row _ _ _ _ _ _ h.head]; rfl, by rw [cell_of_row _ _ _ _ _ _ h.head]; rfl, free_of_row h.head⟩
theorem RkAt.below {w' : World} (h : RkAt T i w p m n v L) (hb : Below w.heap.size w w') : RkAt T i w' p m n v L :=
  ⟨(hb.block p (lt_of_heap h.head)).trans h.head, h.tp, h.row.below hb, h.tr, h.asc, h.inI⟩
/-- another list in its place -/
theorem RkAt.put (h : RkAt T i w p m n v L) {w1 W : World} {v' : Value} {L' : CL} (hb : Below w.heap.size w w1) (ho : OwnC w1 L' v' W) (hA : Asc L') (hI : ∀ p ∈ L', InI p.1 ∧ InI p.2) :
    Goes T i w (RL p m n L') (W.setCell ⟨p, 1, none⟩ v') := by
  have hs := hb.size
  have hpl := lt_of_heap h.head
  have hB : Below w.heap.size w W := hb.trans (ho.2.mono hs)
  have hge : ∀ g, v'.ownBlock = some g → w.heap.size ≤ g := fun g hg => Nat.le_trans hs (ownsRow_ge ho.1 g hg)
  have hT' : ∀ k, k < w.heap.size → (T.one w.heap.size none) k = T k := fun k hk => by simp [Tags.one, hk]
  refine ⟨T.one w.heap.size none, T.one_next w none, (Else.of_below hB).setCell (.inl h.tp) v', v', {
    head := by rw [heap_set ((hB.block p hpl).trans h.head)]; rfl
    tp := (hT' p hpl).trans h.tp
    row := RowC.of_block (ownsRow_rebase2 ho.1 fun _ _ => Nat.zero_le _) fun g hg => Below.heap_setCell _ _ _ _ (fun e => by have := hge g hg; simp only at e; omega)
    tr := fun g hg => by unfold Tags.one; rw [if_neg (by have := hge g hg; omega)]
    asc := hA
    inI := hI }⟩
theorem RkAt.set_n (h : RkAt T i w p m n v L) (n' : Nat) : RkAt T i (w.setCell ⟨p, 2, none⟩ (.int .i64 n')) p m n' v L :=
  ⟨heap_set h.head _, h.tp, h.row.of_block fun g hg => Below.heap_setCell _ _ _ _ (fun e => by
    have h1 := h.tr g hg
    have e' : g = p := e
    rw [e', h.tp] at h1; cases h1), h.tr, h.asc, h.inI⟩
end
end Go.Proofs.Ytkmonecolkamjaa
