/- Plain mathematics of HeavyFew and HeavyBounds: what a sketch's counts say of the numbers that were inserted. Conditions: none. -/
import Derived.Test.YtkmonecolkamjaaHeavyMerge
set_option maxRecDepth 100000
namespace Go.Proofs.Ytkmonecolkamjaa
open Go.RowKit Go.Maps Go.Sort

/-- how often x stands in a list -/
def times (l : List Int) (x : Int) : Nat := l.countP fun y => decide (y = x)
theorem times_snoc (l : List Int) (x y : Int) : times (l ++ [y]) x = times l x + if y = x then 1 else 0 := by
  unfold times
  rw [List.countP_append]
  congr 1
  by_cases h : y = x <;> simp [h]
theorem times_append (a b : List Int) (x : Int) : times (a ++ b) x = times a x + times b x := by unfold times; rw [List.countP_append]
theorem times_le (l : List Int) (x : Int) : times l x ≤ l.length := List.countP_le_length

def insAll (V : HV) (l : List Int) : HV := l.foldl HV.ins V
theorem insAll_snoc (V : HV) (l : List Int) (x : Int) : insAll V (l ++ [x]) = (insAll V l).ins x := by simp [insAll]
theorem asc_less {k : Int} {L : CL} (h : Asc L) : Asc (less k L) := List.Pairwise.filter _ (asc_subL h)
theorem asc_ins {V : HV} (h : Asc V.L) (x : Int) : Asc (V.ins x).L := by
  unfold HV.ins
  split
  · exact h
  · show Asc (if _ then _ else _)
    split
    · exact asc_putL h _ _
    · exact asc_less h

/-- m counters for numbers below m: counted exactly -/
structure FewAt (m : Nat) (V : HV) (l : List Int) : Prop where
  em : V.m = m
  en : V.n = l.length
  asc : Asc V.L
  pos : ∀ p ∈ V.L, 1 ≤ p.2
  ct : ∀ x, cnt V.L x = (times l x : Int)
  sub : ∀ p ∈ V.L, 0 ≤ p.1 ∧ p.1 < (m : Int)
  tot : total V.L = (l.length : Int)
theorem FewAt.start (m : Nat) : FewAt m (HV.none_ m) [] := ⟨rfl, rfl, List.Pairwise.nil, (fun p hp => by cases hp), fun x => rfl, (fun p hp => by cases hp), rfl⟩
theorem few_room {m : Nat} {L : CL} (hA : Asc L) (hs : ∀ p ∈ L, 0 ≤ p.1 ∧ p.1 < (m : Int)) {x : Int} (h0 : 0 ≤ x) (h1 : x < (m : Int)) (hx : ∀ p ∈ L, p.1 ≠ x) : L.length < m := by
  have hn : (x :: L.map Prod.fst).Nodup := by
    refine List.nodup_cons.2 ⟨fun h => ?_, ?_⟩
    · obtain ⟨p, hp, e⟩ := List.mem_map.1 h
      exact hx p hp e
    · exact List.pairwise_map.2 (List.Pairwise.imp (fun {a b} h => by omega) hA)
  have := nodup_len (x :: L.map Prod.fst) ((List.range m).map (fun n : Nat => (n : Int))) hn fun y hy => by
    rcases List.mem_cons.1 hy with rfl | hy
    · exact List.mem_map.2 ⟨y.toNat, by simp; omega, by omega⟩
    · obtain ⟨p, hp, rfl⟩ := List.mem_map.1 hy
      have := hs p hp
      exact List.mem_map.2 ⟨p.1.toNat, by simp; omega, by omega⟩
  simp at this
  omega
theorem FewAt.step {m : Nat} {V : HV} {l : List Int} (h : FewAt m V l) (hl : l.length < 1125899906842624) {x : Int} (h0 : 0 ≤ x) (h1 : x < (m : Int)) : FewAt m (V.ins x) (l ++ [x]) := by
  have e : V.ins x = ⟨V.m, V.n + 1, putL x (cnt V.L x + 1) V.L⟩ := by
    unfold HV.ins
    rw [if_neg (by rw [h.en]; omega), if_pos]
    by_cases hc : 0 < cnt V.L x
    · exact .inl hc
    · refine .inr ?_
      rw [h.em]
      refine few_room h.asc h.sub h0 h1 fun p hp g => hc ?_
      subst g
      rw [cnt_mem h.asc (id := p.1) (c := p.2) hp]
      have := h.pos p hp; omega
  rw [e]
  have c0 := cnt_nonneg h.pos x
  refine ⟨h.em, by simp [h.en], asc_putL h.asc _ _, fun p hp => ?_, fun y => ?_, fun p hp => ?_, ?_⟩
  · rcases putL_sub hp with rfl | hp
    · show 1 ≤ cnt V.L x + 1; omega
    · exact h.pos p hp
  · show cnt (putL x (cnt V.L x + 1) V.L) y = _
    rw [cnt_putL h.asc, times_snoc, h.ct, h.ct]
    by_cases g : y = x
    · subst g; simp
    · rw [if_neg g, if_neg (fun e => g e.symm)]; simp
  · rcases putL_sub hp with rfl | hp
    · exact ⟨h0, h1⟩
    · exact h.sub p hp
  · show total (putL x (cnt V.L x + 1) V.L) = _
    rw [total_putL h.asc, h.tot]; simp; omega
theorem insAll_take (V : HV) (l : List Int) {k : Nat} (hk : k < l.length) : insAll V (l.take (k + 1)) = (insAll V (l.take k)).ins l[k] := by
  rw [List.take_succ_eq_append_getElem hk, insAll_snoc]
theorem FewAt.all {m : Nat} (l : List Int) (hl : l.length < 1125899906842624) (hx : ∀ x ∈ l, 0 ≤ x ∧ x < (m : Int)) : ∀ k, k ≤ l.length → FewAt m (insAll (HV.none_ m) (l.take k)) (l.take k)
  | 0, _ => by rw [List.take_zero]; exact FewAt.start m
  | k + 1, h => by
    have ih := FewAt.all l hl hx k (by omega)
    rw [insAll_take _ _ (by omega), List.take_succ_eq_append_getElem (by omega)]
    have := hx l[k] (List.getElem_mem _)
    exact ih.step (by simp; omega) this.1 this.2
theorem total_take_succ {L : CL} {j : Nat} {p : Int × Int} (h : L[j]? = some p) : total (L.take (j + 1)) = total (L.take j) + p.2 := by
  obtain ⟨hj, e⟩ := List.getElem?_eq_some_iff.1 h
  rw [List.take_succ_eq_append_getElem hj, e, total_append]
  simp [total]
end Go.Proofs.Ytkmonecolkamjaa
