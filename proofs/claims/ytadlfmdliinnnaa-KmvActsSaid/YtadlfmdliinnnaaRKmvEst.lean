/- Contract of the reference's Estimate: the middle answer. Conditions: a sketch that was made. -/
import Derived.Test.YtadlfmdliinnnaaKmvEst
import Derived.Test.YtadlfmdliinnnaaRKmvAns
set_option maxRecDepth 100000
namespace Go.Proofs.Ytadlfmdliinnnaa
open Go.RowKit

def cntB (A : List Nat) (x : Nat) : Nat := A.countP (fun y => decide (y < x))
def cntA (A : List Nat) (x : Nat) : Nat := A.countP (fun y => decide (y = x))
/-- is x in the middle? -/
def isMid (A : List Nat) (x : Nat) : Prop := cntB A x ≤ A.length / 2 ∧ A.length / 2 < cntB A x + cntA A x
theorem sortI_up (A : List Nat) : (sortI A).Pairwise (fun a b => a ≤ b) := by
  have h := List.pairwise_mergeSort (le := fun x y : Int => decide (x ≤ y)) (fun a b c h1 h2 => by simp at h1 h2 ⊢; omega) (fun a b => by simp; omega) (A.map fun n : Nat => (n : Int))
  exact h.imp (by simp)
theorem sortI_perm (A : List Nat) : (sortI A).Perm (A.map fun n : Nat => (n : Int)) := List.mergeSort_perm _ _
theorem cntB_sort (A : List Nat) (x : Nat) : cntB A x = (sortI A).countP (fun y => decide (y < (x : Int))) := by
  rw [(sortI_perm A).countP_eq, List.countP_map]
  unfold cntB
  congr 1
  funext y
  simp
theorem cntA_sort (A : List Nat) (x : Nat) : cntA A x = (sortI A).countP (fun y => decide (y = (x : Int))) := by
  rw [(sortI_perm A).countP_eq, List.countP_map]
  unfold cntA
  congr 1
  funext y
  simp
  omega
theorem cnt_le (s : List Int) (x : Int) : s.countP (fun y => decide (y ≤ x)) = s.countP (fun y => decide (y < x)) + s.countP (fun y => decide (y = x)) := by
  induction s with
  | nil => rfl
  | cons a s ih =>
    simp only [List.countP_cons, ih]
    by_cases h1 : a < x
    · have h2 : ¬ a = x := by omega
      have h3 : a ≤ x := by omega
      simp [h1, h2, h3]; omega
    · by_cases h2 : a = x
      · simp [h2]; omega
      · have h3 : ¬ a ≤ x := by omega
        simp [h1, h2, h3]
theorem cnt_take {s : List Int} {h : Nat} (p : Int → Bool) (hp : ∀ y ∈ s.drop h, p y = false) : s.countP p ≤ h := by
  rw [← List.take_append_drop h s, List.countP_append]
  have h1 : (s.drop h).countP p = 0 := List.countP_eq_zero.2 (fun y hy => by rw [hp y hy]; simp)
  have h2 : (s.take h).countP p ≤ (s.take h).length := List.countP_le_length
  rw [List.length_take] at h2
  omega
theorem cnt_take_ge {s : List Int} {h : Nat} (hl : h < s.length) (p : Int → Bool) (hp : ∀ y ∈ s.take (h + 1), p y = true) : h + 1 ≤ s.countP p := by
  rw [← List.take_append_drop (h + 1) s, List.countP_append]
  have h1 : (s.take (h + 1)).countP p = (s.take (h + 1)).length := List.countP_eq_length.2 hp
  rw [h1, List.length_take]
  omega
theorem up_drop {s : List Int} (hu : s.Pairwise (fun a b => a ≤ b)) {h : Nat} (hl : h < s.length) : ∀ y ∈ s.drop h, s[h] ≤ y := by
  intro y hy
  rw [List.drop_eq_getElem_cons hl] at hy
  rcases List.mem_cons.1 hy with rfl | hy
  · exact Int.le_refl _
  · obtain ⟨k, hk, rfl⟩ := List.getElem_of_mem hy
    rw [List.length_drop] at hk
    rw [List.getElem_drop]
    exact List.pairwise_iff_getElem.1 hu h (h + 1 + k) hl (by omega) (by omega)
theorem up_take {s : List Int} (hu : s.Pairwise (fun a b => a ≤ b)) {h : Nat} (hl : h < s.length) : ∀ y ∈ s.take (h + 1), y ≤ s[h] := by
  intro y hy
  obtain ⟨k, hk, rfl⟩ := List.getElem_of_mem hy
  rw [List.length_take] at hk
  rw [List.getElem_take]
  by_cases e : k = h
  · subst e; exact Int.le_refl _
  · exact List.pairwise_iff_getElem.1 hu k h (by omega) hl (by omega)
theorem midOf_at {A : List Nat} (h0 : 0 < A.length) : ∃ hk : A.length / 2 < (sortI A).length, midOf A = (sortI A)[A.length / 2] := by
  have hk : A.length / 2 < (sortI A).length := by rw [sortI_len]; omega
  refine ⟨hk, ?_⟩
  unfold midOf
  rw [List.getD_eq_getElem?_getD, List.getElem?_eq_getElem hk]
  rfl
/-- who is in the middle by counts is the middle one -/
theorem isMid_mid {A : List Nat} {x : Nat} (h0 : 0 < A.length) (h : isMid A x) : midOf A = (x : Int) := by
  obtain ⟨hk, e⟩ := midOf_at h0
  obtain ⟨h1, h2⟩ := h
  rw [cntB_sort] at h1
  rw [cntB_sort, cntA_sort, ← cnt_le] at h2
  have hu := sortI_up A
  rw [e]
  rcases Int.lt_trichotomy (sortI A)[A.length / 2] x with g | g | g
  · exfalso
    have := cnt_take_ge hk (fun y => decide (y < (x : Int))) (fun y hy => by
      have := up_take hu hk y hy
      simp only [decide_eq_true_eq]; omega)
    omega
  · exact g
  · exfalso
    have := cnt_take (s := sortI A) (h := A.length / 2) (fun y => decide (y ≤ (x : Int))) (fun y hy => by
      have := up_drop hu hk y hy
      simp only [decide_eq_false_iff_not]; omega)
    omega
/-- there is one -/
theorem exists_mid {A : List Nat} (h0 : 0 < A.length) : ∃ i, ∃ hi : i < A.length, isMid A A[i] := by
  obtain ⟨hk, e⟩ := midOf_at h0
  have hu := sortI_up A
  have hm : (sortI A)[A.length / 2] ∈ A.map fun n : Nat => (n : Int) := (sortI_perm A).mem_iff.1 (List.getElem_mem hk)
  obtain ⟨x, hx, hxe⟩ := List.mem_map.1 hm
  obtain ⟨i, hi, rfl⟩ := List.getElem_of_mem hx
  refine ⟨i, hi, ?_, ?_⟩
  · rw [cntB_sort]
    refine cnt_take _ (fun y hy => ?_)
    have := up_drop hu hk y hy
    simp only [decide_eq_false_iff_not]; omega
  · rw [cntB_sort, cntA_sort, ← cnt_le]
    have := cnt_take_ge hk (fun y => decide (y ≤ ((A[i] : Nat) : Int))) (fun y hy => by
      have := up_take hu hk y hy
      simp only [decide_eq_true_eq]; omega)
    omega
theorem cntB_next (A : List Nat) (x r : Nat) (h : r < A.length) : cntB (A.take (r + 1)) x = cntB (A.take r) x + if A[r] < x then 1 else 0 := by
  unfold cntB
  rw [List.take_succ_eq_append_getElem h, List.countP_append, List.countP_singleton]
  simp
theorem cntA_next (A : List Nat) (x r : Nat) (h : r < A.length) : cntA (A.take (r + 1)) x = cntA (A.take r) x + if A[r] = x then 1 else 0 := by
  unfold cntA
  rw [List.take_succ_eq_append_getElem h, List.countP_append, List.countP_singleton]
  simp
theorem cnt_small (A : List Nat) (x r : Nat) : cntB (A.take r) x ≤ r ∧ cntA (A.take r) x ≤ r := by
  have h1 : cntB (A.take r) x ≤ (A.take r).length := List.countP_le_length
  have h2 : cntA (A.take r) x ≤ (A.take r).length := List.countP_le_length
  rw [List.length_take] at h1 h2
  omega
end Go.Proofs.Ytadlfmdliinnnaa
namespace Go.Proofs.Ytadlfmdliinnnaa
open Go.RowKit Go.Maps Go.Sort

theorem ints_at {l : List Nat} {k : Nat} (h : k < l.length) : (ints l)[k]? = some (.int .i64 (l[k] : Int)) := by simp [ints, h]
set_option maxHeartbeats 6400000 in
theorem restimate_any {T : Tags} {i : Nat} {w : World} {p : Nat} {V : SkV} (h : RSk p V T i w) :
    Calls Try.prog 41 #[.pointer (some ⟨p, 0, none⟩)] w fun e w' => e = .returned (.int .i64 (midOf V.answers)) ∧ Below w.heap.size w w' := by
  have K := ranswers_any h
  obtain ⟨_, _, _, _, _, g⟩ := h
  have h1 := g.good.set.n1
  have h7 := g.good.set.n7
  have hl := g.good.len
  clear g
  have hA := V.answers_len
  generalize V.answers = A at *
  have hn1 : 0 < A.length := by omega
  have hn7 : A.length ≤ 7 := by omega
  have HEX : Hid (∃ i, i < A.length ∧ isMid A (A.getD i 0)) := Lib.hid (by
    obtain ⟨i, hi, hm⟩ := exists_mid hn1
    exact ⟨i, hi, by rw [getD_at hi]; exact hm⟩)
  have HMID := Lib.hid (fun x (hx : isMid A x) => isMid_mid hn1 hx)
  clear h1 h7 hl hA
  go_enter Try.func41, Try.ntmps41
  go_wp2_with fail
  refine K.mono ?_
  rintro e w1 ⟨v, rfl, ho, hb⟩
  obtain ⟨a, c, rfl, _, _⟩ := ownsRow_form ho
  have HH := Lib.hid (Holds.of_row (by rw [ints_len]; exact ho))
  have HB := Lib.hid hb
  clear K ho hb
  generalize hN : A.length = N at *
  have HN := Lib.hid hN
  clear hN
  go_wp2_with fail
  go_loopw [4, 5, 6, 8, 13] (fun _ _ _ _ k wr => ∃ m : Nat, k = .int .i64 m ∧ m ≤ N ∧ wr = w1 ∧ Hid (∀ r, r < m → ¬ isMid A (A.getD r 0))) (fun _ _ _ _ k _ => N - (intOf k).toNat)
  case atStart => exact ⟨0, rfl, Nat.zero_le _, rfl, Lib.hid (fun r hr => by omega)⟩
  case round =>
    obtain ⟨m, rfl, hm, rfl, HR⟩ := hrel
    by_cases hlt : m < N
    · have hmA : m < A.length := by rw [HN.out]; exact hlt
      obtain ⟨ad, rfl⟩ := HH.out.ptr (by omega)
      have e0 := HH.out.cell (ints_at hmA)
      have HLT := Lib.hid (fun (hno : ¬ isMid A A[m]) => show ∀ r, r < m + 1 → ¬ isMid A (A.getD r 0) from fun r h => by
        by_cases e : r = m
        · subst e; rw [getD_at hmA]; exact hno
        · exact HR.out r (by omega))
      have HC := Lib.hid (fun r (hr : r < A.length) => HH.out.cell (ints_at hr))
      have b0 : (0 : Int) ≤ (m : Int) := by omega
      have b1 : (m : Int) < (N : Int) := by omega
      have HM : Hid (isMid A A[m] ↔ (cntB A A[m] ≤ N / 2 ∧ N / 2 < cntB A A[m] + cntA A A[m])) := Lib.hid (by unfold isMid; rw [HN.out])
      generalize A[m] = y at *
      clear HR
      go_wp2_with fail
      go_loopw [5, 6, 8, 18] (fun be al _ k wq => ∃ r : Nat, k = .int .i64 r ∧ r ≤ N ∧ be = .int .i64 (cntB (A.take r) y : Int) ∧ al = .int .i64 (cntA (A.take r) y : Int) ∧ wq = wr) (fun _ _ _ k _ => N - (intOf k).toNat)
      case atStart => exact ⟨0, rfl, Nat.zero_le _, rfl, rfl, rfl⟩
      case round =>
        obtain ⟨r, rfl, hr, rfl, rfl, rfl⟩ := hrel
        by_cases hrn : r < N
        · have hrA : r < A.length := by rw [HN.out]; exact hrn
          have e1 := HC.out r hrA
          have h1 := cntB_next A y r hrA
          have h2 := cntA_next A y r hrA
          obtain ⟨s1, s2⟩ := cnt_small A y r
          have q0 : (0 : Int) ≤ (r : Int) := by omega
          have q1 : (r : Int) < (N : Int) := by omega
          generalize A[r] = x at *
          rcases Nat.lt_trichotomy x y with g | g | g
          · rw [if_pos g] at h1
            rw [if_neg (by omega)] at h2
            have t1 : decide (x < y) = true := decide_eq_true g
            have t2 : ((x : Int) == (y : Int)) = false := by rw [beq_eq_false_iff_ne]; omega
            have H1 := Lib.hid h1
            have H2 := Lib.hid h2
            clear h1 h2 g
            generalize cntB (A.take r) y = nb at *
            generalize cntA (A.take r) y = na at *
            go_wp2_with fail
            go_roundw
            case rel => exact ⟨r + 1, by go_num, by omega, by rw [H1.out]; go_num, by rw [H2.out]; go_num, trivial⟩
            case measure => simp [intOf]; omega
          · subst g
            rw [if_neg (by omega)] at h1
            rw [if_pos rfl] at h2
            have t1 : decide (x < x) = false := decide_eq_false (by omega)
            have t2 : ((x : Int) == (x : Int)) = true := by simp
            have H1 := Lib.hid h1
            have H2 := Lib.hid h2
            clear h1 h2
            generalize cntB (A.take r) x = nb at *
            generalize cntA (A.take r) x = na at *
            go_wp2_with fail
            go_roundw
            case rel => exact ⟨r + 1, by go_num, by omega, by rw [H1.out]; go_num, by rw [H2.out]; go_num, trivial⟩
            case measure => simp [intOf]; omega
          · rw [if_neg (by omega)] at h1
            rw [if_neg (by omega)] at h2
            have t1 : decide (x < y) = false := decide_eq_false (by omega)
            have t2 : ((x : Int) == (y : Int)) = false := by rw [beq_eq_false_iff_ne]; omega
            have H1 := Lib.hid h1
            have H2 := Lib.hid h2
            clear h1 h2 g
            generalize cntB (A.take r) y = nb at *
            generalize cntA (A.take r) y = na at *
            go_wp2_with fail
            go_roundw
            case rel => exact ⟨r + 1, by go_num, by omega, by rw [H1.out]; go_num, by rw [H2.out]; go_num, trivial⟩
            case measure => simp [intOf]; omega
        · have hre : r = N := by omega
          obtain ⟨s1, s2⟩ := cnt_small A y r
          have eA : A.take r = A := by rw [hre, ← HN.out, List.take_length]
          have HCL : Hid (wr.cell? (ad.add m) = some (.int .i64 (y : Int))) := Lib.hid e0
          rw [eA] at s1 s2 ⊢
          obtain ⟨hf, hhf⟩ : ∃ hf, hf = N / 2 := ⟨_, rfl⟩
          have eh : (N : Int) / 2 = (hf : Int) := by omega
          rw [← hhf] at HM
          generalize cntB A y = nb at *
          generalize cntA A y = na at *
          have HBO := Lib.hid HB.out
          have nb7 : nb ≤ 7 := by omega
          have na7 : na ≤ 7 := by omega
          have hf7 : hf ≤ 7 := by omega
          by_cases hmid : nb ≤ hf ∧ hf < nb + na
          · have HV := Lib.hid (HMID.out y (HM.out.2 hmid))
            have t1 : decide (nb ≤ hf) = true := decide_eq_true hmid.1
            have t2 : decide ((hf : Int) < (nb : Int) + (na : Int)) = true := decide_eq_true (by omega)
            clear hmid HM HLT HC eA hhf s1 s2 hre
            go_wp2_with fail
            go_ret
            refine ⟨?_, HBO.out⟩
            rw [HV.out]
            rfl
          · have HNO : Hid (∀ r, r < m + 1 → ¬ isMid A (A.getD r 0)) := Lib.hid (HLT.out (fun h => hmid (HM.out.1 h)))
            clear HM HLT HC eA hhf s1 s2 hre HMID
            by_cases g1 : nb ≤ hf
            · have t1 : decide (nb ≤ hf) = true := decide_eq_true g1
              have t2 : decide ((hf : Int) < (nb : Int) + (na : Int)) = false := decide_eq_false (by omega)
              clear hmid g1
              go_wp2_with fail
              go_roundw
              case rel => exact ⟨m + 1, by go_num, by omega, trivial, HNO⟩
              case measure => simp [intOf]; omega
            · have t1 : decide (nb ≤ hf) = false := decide_eq_false g1
              clear hmid g1
              go_wp2_with fail
              go_roundw
              case rel => exact ⟨m + 1, by go_num, by omega, trivial, HNO⟩
              case measure => simp [intOf]; omega
    · exfalso
      obtain ⟨r, hr, hmr⟩ := HEX.out
      exact HR.out r (by omega) hmr
end Go.Proofs.Ytadlfmdliinnnaa
