/- Plain mathematics of HeavyBounds: how far a count may lie below how often a number came. Conditions: none. -/
import Derived.Test.YtkmonecolkamjaaHeavyFewPlain
import Derived.Test.YtkmonecolkamjaaHeavySide
set_option maxRecDepth 100000
namespace Go.Proofs.Ytkmonecolkamjaa
open Go.RowKit Go.Maps Go.Sort

theorem less_sub {k : Int} {L : CL} {p : Int × Int} (h : p ∈ less k L) : ∃ q ∈ L, q.1 = p.1 := by
  obtain ⟨q, hq, e⟩ := List.mem_map.1 (List.mem_filter.1 h).1
  exact ⟨q, hq, by rw [← e]⟩
theorem cnt_less {k : Int} {L : CL} (hA : Asc L) (hk : 0 ≤ k) (y : Int) : cnt (less k L) y = if cnt L y - k ≤ 0 then 0 else cnt L y - k := by
  induction L with
  | nil => show (0 : Int) = if (0 : Int) - k ≤ 0 then 0 else 0 - k; rw [if_pos (by omega)]
  | cons p r ih =>
    have ih := ih (asc_tail hA)
    have hn : p.1 = y → cnt (less k r) y = 0 := fun e => cnt_none fun q hq g => by
      obtain ⟨s, hs, e2⟩ := less_sub hq
      have := asc_head hA s hs
      omega
    rw [less_cons]
    show _ = if (if p.1 = y then p.2 else cnt r y) - k ≤ 0 then 0 else (if p.1 = y then p.2 else cnt r y) - k
    by_cases e : p.1 = y
    · rw [if_pos e]
      split
      · exact hn e
      · show (if p.1 = y then p.2 - k else cnt (less k r) y) = _
        rw [if_pos e]
    · rw [if_neg e]
      split
      · exact ih
      · show (if p.1 = y then p.2 - k else cnt (less k r) y) = _
        rw [if_neg e]; exact ih
theorem perm_sum {A B : List Int} (h : A.Perm B) : A.sum = B.sum := by
  induction h with
  | nil => rfl
  | cons x _ ih => simp [ih]
  | swap x y l => simp; omega
  | trans _ _ a b => exact a.trans b
/-- what each counter loses -/
def lost (c : Int) (p : Int × Int) : Int := if p.2 - c ≤ 0 then p.2 else c
theorem total_lost (c : Int) : ∀ L : CL, total L = total (less c L) + (L.map (lost c)).sum
  | [] => rfl
  | p :: r => by
    have ih := total_lost c r
    rw [total_cons, less_cons, List.map_cons, List.sum_cons, ih]
    unfold lost
    split
    · omega
    · rw [total_cons]; simp; omega
theorem sum_ge {c : Int} : ∀ (L : CL), (∀ p ∈ L, c ≤ lost c p) → (L.length : Int) * c ≤ (L.map (lost c)).sum
  | [], _ => by simp
  | p :: r, h => by
    have ih := sum_ge r fun q hq => h q (List.mem_cons_of_mem _ hq)
    have := h p (List.mem_cons_self ..)
    rw [List.map_cons, List.sum_cons, List.length_cons, Int.natCast_add, Int.add_mul]
    simp; omega
theorem sum_nonneg' {c : Int} (hc : 0 ≤ c) : ∀ (L : CL), (∀ p ∈ L, 1 ≤ p.2) → 0 ≤ (L.map (lost c)).sum
  | [], _ => by simp
  | p :: r, h => by
    have ih := sum_nonneg' hc r fun q hq => h q (List.mem_cons_of_mem _ hq)
    have := h p (List.mem_cons_self ..)
    rw [List.map_cons, List.sum_cons]
    unfold lost at ih ⊢
    split <;> omega
theorem total_less_one {L : CL} (h : ∀ p ∈ L, 1 ≤ p.2) : total (less 1 L) + (L.length : Int) ≤ total L := by
  have h1 := total_lost 1 L
  have h2 := sum_ge (c := 1) L fun p hp => by have := h p hp; unfold lost; split <;> omega
  omega
theorem total_less_rank {A R : CL} (h : Ranked A R) (hp : ∀ p ∈ A, 1 ≤ p.2) {m : Nat} {q : Int × Int} (hq : R[m]? = some q) : total (less q.2 A) + ((m : Int) + 1) * q.2 ≤ total A := by
  obtain ⟨hm, e⟩ := List.getElem?_eq_some_iff.1 hq
  have h1 := total_lost q.2 A
  have h2 : (A.map (lost q.2)).sum = (R.map (lost q.2)).sum := perm_sum (h.perm.symm.map _)
  have hq1 : 1 ≤ q.2 := hp q (h.perm.mem_iff.1 (List.mem_of_getElem? hq))
  have h3 : (R.map (lost q.2)).sum = ((R.take (m + 1)).map (lost q.2)).sum + ((R.drop (m + 1)).map (lost q.2)).sum := by
    rw [← List.sum_append, ← List.map_append, List.take_append_drop]
  have h4 := sum_nonneg' (c := q.2) (by omega) (R.drop (m + 1)) fun p hp' => hp p (h.perm.mem_iff.1 (List.mem_of_mem_drop hp'))
  have h5 := sum_ge (c := q.2) (R.take (m + 1)) fun p hp' => by
    obtain ⟨i, hi, rfl⟩ := List.mem_iff_getElem.1 hp'
    have hi' : i ≤ m := by simp at hi; omega
    rw [List.getElem_take]
    have hle : q.2 ≤ (R[i]'(by omega)).2 := by
      rcases Nat.lt_or_ge i m with g | g
      · have := List.pairwise_iff_getElem.1 h.order i m (by omega) hm g
        rw [e, ltTop_no] at this
        omega
      · have : i = m := by omega
        subst this
        rw [e]; exact Int.le_refl _
    unfold lost
    split <;> omega
  have h6 : (R.take (m + 1)).length = m + 1 := by simp; omega
  rw [h6, Int.natCast_add] at h5
  simp only [Int.natCast_one] at h5
  omega

/-- a count is at most how often a number came; and how far below -/
structure Bd (V : HV) (F : Int → Nat) : Prop where
  asc : Asc V.L
  pos : ∀ p ∈ V.L, 1 ≤ p.2
  lo : ∀ x, cnt V.L x ≤ F x
  err : ∃ e : Nat, (∀ x, (F x : Int) ≤ cnt V.L x + e) ∧ ((V.m : Int) + 1) * e + total V.L ≤ V.n
theorem Bd.start (m : Nat) : Bd (HV.none_ m) (times []) := ⟨List.Pairwise.nil, (fun p hp => by cases hp), fun x => Int.le_refl _, 0, fun x => Int.le_refl _, by simp [HV.none_, total]⟩
theorem Bd.step {V : HV} {l : List Int} (h : Bd V (times l)) (hG : V.Good) (hn : V.n < 1125899906842624) (x : Int) : Bd (V.ins x) (times (l ++ [x])) := by
  obtain ⟨e, he1, he2⟩ := h.err
  have hc0 := cnt_nonneg h.pos
  have hG' := hG.ins h.asc x
  have hA' := asc_ins h.asc x
  have hval : V.ins x = ⟨V.m, V.n + 1, if 0 < cnt V.L x ∨ V.L.length < V.m then putL x (cnt V.L x + 1) V.L else less 1 V.L⟩ := by unfold HV.ins; rw [if_neg (by omega)]
  by_cases hc : 0 < cnt V.L x ∨ V.L.length < V.m
  · rw [if_pos hc] at hval
    rw [hval] at hG' hA' ⊢
    refine ⟨hA', hG'.pos, fun y => ?_, e, fun y => ?_, ?_⟩
    · show cnt (putL x (cnt V.L x + 1) V.L) y ≤ _
      rw [cnt_putL h.asc, times_snoc]
      have := h.lo y
      by_cases g : y = x
      · subst g; simp; omega
      · rw [if_neg g, if_neg (fun e => g e.symm)]; simpa using this
    · show _ ≤ cnt (putL x (cnt V.L x + 1) V.L) y + _
      rw [cnt_putL h.asc, times_snoc]
      have := he1 y
      by_cases g : y = x
      · subst g; simp; omega
      · rw [if_neg g, if_neg (fun e => g e.symm)]; simpa using this
    · show ((V.m : Int) + 1) * e + total (putL x (cnt V.L x + 1) V.L) ≤ ((V.n + 1 : Nat) : Int)
      rw [total_putL h.asc]; omega
  · rw [if_neg hc] at hval
    rw [hval] at hG' hA' ⊢
    have hx0 : cnt V.L x = 0 := by have := hc0 x; omega
    have hlen : V.L.length = V.m := by have := hG.len; omega
    refine ⟨hA', hG'.pos, fun y => ?_, e + 1, fun y => ?_, ?_⟩
    · show cnt (less 1 V.L) y ≤ _
      rw [cnt_less h.asc (by omega), times_snoc]
      have := h.lo y
      have := hc0 y
      split <;> omega
    · show _ ≤ cnt (less 1 V.L) y + _
      rw [cnt_less h.asc (by omega), times_snoc]
      have := he1 y
      have := hc0 y
      by_cases g : x = y
      · subst g
        rw [hx0] at this ⊢
        simp; omega
      · rw [if_neg g]
        split <;> (simp; omega)
    · show ((V.m : Int) + 1) * ((e + 1 : Nat) : Int) + total (less 1 V.L) ≤ ((V.n + 1 : Nat) : Int)
      have := total_less_one h.pos
      rw [hlen] at this
      rw [Int.natCast_add, Int.mul_add]
      simp; omega
theorem Bd.merge {V U V' : HV} {F G : Int → Nat} (h : Bd V F) (h' : Bd U G) (hm : U.m = V.m) (hM : MergeP V U V') : Bd V' (fun x => F x + G x) := by
  obtain ⟨e, he1, he2⟩ := h.err
  obtain ⟨e', he1', he2'⟩ := h'.err
  obtain ⟨m1, m2, m3⟩ := hM
  rw [hm] at he2'
  have hA := asc_addL h.asc U.L
  have pos := addL_pos h.pos U.L h'.pos
  have tot := addL_total h.asc U.L
  have ct : ∀ x, cnt (addL V.L U.L) x = cnt V.L x + cnt U.L x := fun x => addL_cnt h.asc x U.L h'.asc
  rcases m3 with ⟨_, b⟩ | ⟨_, R, q, hR, hq, b⟩
  · refine ⟨by rw [b]; exact hA, by rw [b]; exact pos, fun x => ?_, e + e', fun x => ?_, ?_⟩
    · rw [b, ct]; have := h.lo x; have := h'.lo x; simp; omega
    · rw [b, ct]; have := he1 x; have := he1' x; simp; omega
    · rw [b, tot, m1, m2, Int.natCast_add, Int.mul_add]; simp; omega
  · have hq1 : 1 ≤ q.2 := pos q (hR.perm.mem_iff.1 (List.mem_of_getElem? hq))
    have hr := total_less_rank hR pos hq
    obtain ⟨c, hc⟩ : ∃ c : Nat, q.2 = (c : Int) := ⟨q.2.toNat, by omega⟩
    rw [hc] at b hr
    have cl : ∀ x, cnt (less (c : Int) (addL V.L U.L)) x = if cnt V.L x + cnt U.L x - c ≤ 0 then 0 else cnt V.L x + cnt U.L x - c := fun x => by rw [cnt_less hA (by omega), ct]
    refine ⟨by rw [b]; exact asc_less hA, by rw [b]; exact less_pos, fun x => ?_, e + e' + c, fun x => ?_, ?_⟩
    · rw [b, cl]; have := h.lo x; have := h'.lo x; have := cnt_nonneg h.pos x; have := cnt_nonneg h'.pos x
      simp; split <;> omega
    · rw [b, cl]; have := he1 x; have := he1' x
      simp; split <;> omega
    · rw [b, m1, m2, Int.natCast_add, Int.natCast_add, Int.mul_add, Int.mul_add]
      rw [tot] at hr
      simp; omega
theorem ins_n (V : HV) (x : Int) (h : V.n < 1125899906842624) : (V.ins x).n = V.n + 1 := by unfold HV.ins; rw [if_neg (by omega)]
theorem Bd.all {m : Nat} (h1 : 1 ≤ m) (h2 : m ≤ 64) (l : List Int) (hl : l.length ≤ 1000) : ∀ k, k ≤ l.length → Bd (insAll (HV.none_ m) (l.take k)) (times (l.take k)) ∧ (insAll (HV.none_ m) (l.take k)).Good ∧ (insAll (HV.none_ m) (l.take k)).n = k ∧ (insAll (HV.none_ m) (l.take k)).m = m
  | 0, _ => by rw [List.take_zero]; exact ⟨Bd.start m, good_none h1 h2, rfl, rfl⟩
  | k + 1, h => by
    obtain ⟨a, b, c, d⟩ := Bd.all h1 h2 l hl k (by omega)
    rw [insAll_take _ _ (by omega), List.take_succ_eq_append_getElem (by omega)]
    exact ⟨a.step b (by omega) _, b.ins a.asc _, by rw [ins_n _ _ (by omega), c], by rw [HV.ins_m, d]⟩
theorem Bd.bound {V : HV} {F : Int → Nat} (h : Bd V F) (x : Int) : (F x : Int) ≤ cnt V.L x + ((V.n / (V.m + 1) : Nat) : Int) := by
  obtain ⟨e, he1, he2⟩ := h.err
  have ht := total_nonneg h.pos
  have h1 : e * (V.m + 1) ≤ V.n := by
    have : ((V.m : Int) + 1) * e ≤ V.n := by omega
    have h2 : ((e * (V.m + 1) : Nat) : Int) = ((V.m : Int) + 1) * e := by
      rw [Int.natCast_mul, Int.mul_comm]; simp
    omega
  have h2 : e ≤ V.n / (V.m + 1) := (Nat.le_div_iff_mul_le (by omega)).2 h1
  have := he1 x
  omega
end Go.Proofs.Ytkmonecolkamjaa
