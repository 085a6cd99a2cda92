/- The walk of WideBack, whole. Conditions: none. -/
import Derived.Test.YtnljlbdecknbpaaWideZ
set_option maxRecDepth 100000
namespace Go.Proofs.Ytnljlbdecknbpaa
open Go.RowKit

theorem cmp_neg (A B : Int) : cmpW B A = -cmpW A B ∧ cmpW (A - B) 0 = cmpW A B ∧ IntKind.i64.wrap (cmpW A B) = cmpW A B := by
  rw [IntKind.wrap_i64]
  unfold cmpW
  refine ⟨?_, ?_, ?_⟩ <;> (repeat' split) <;> omega
set_option maxHeartbeats 1600000 in
theorem back_walk (h l h' l' n : Int) (h0 : -9223372036854775808 ≤ h) (h1 : h < 9223372036854775808) (l0 : 0 ≤ l) (l1 : l < 18446744073709551616) (k0 : -9223372036854775808 ≤ h') (k1 : h' < 9223372036854775808) (m0 : 0 ≤ l') (m1 : l' < 18446744073709551616) (n0 : -9223372036854775808 ≤ n) (n1 : n < 9223372036854775808) (w : World) : Calls Try.prog 6 #[.agg #[.int .i64 h, .int .u64 l], .agg #[.int .i64 h', .int .u64 l'], .int .i64 n] w fun e w' => e = .returned (.bool true) ∧ Below w.heap.size w w' := by
  have KP := fun w => print_any h l w h0 h1 l0 l1
  have A1 := fun w => add_any h l h' l' w h0 h1 l0 l1 k0 k1 m0 m1
  have S2 := fun w => sub_any h l h' l' w h0 h1 l0 l1 k0 k1 m0 m1
  have C1 := fun w => cmp_any h l h' l' w l0 l1 m0 m1
  have C2 := fun w => cmp_any h' l' h l w m0 m1 l0 l1
  have KO := fun w => of_any n w n0 n1
  have hn := w_split n
  have KF := fun w => fits_any (hiW n) (loW n) w hn.2.1 hn.2.2
  rw [hn.1] at KF
  have hfn : fit64 n = true := fit64_iff.2 ⟨n0, n1⟩
  unfold int64 at KF
  rw [hfn, if_pos rfl] at KF
  obtain ⟨A, hA⟩ : ∃ A, h * 18446744073709551616 + l = A := ⟨_, rfl⟩
  obtain ⟨B, hB⟩ : ∃ B, h' * 18446744073709551616 + l' = B := ⟨_, rfl⟩
  rw [hA] at KP
  rw [hA, hB] at A1 S2 C1
  rw [hA, hB] at C2
  have hfA : fitW A = true := fit_of hA l0 l1 h0 h1
  have hwA := w_of hA l0 l1
  have KS : ∀ w, Calls Try.prog 24 #[.string ⟨(printL A).toArray⟩] w fun e w' => e = .returned (.tuple #[.agg #[.int .i64 h, .int .u64 l], .bool true]) ∧ Below w.heap.size w w' := fun w => by
    have hl : (printL A).length ≤ 40 := by
      have hd := len39 (n := A.natAbs) (by have := fit_iff.1 hfA; omega)
      rcases Int.lt_or_le A 0 with ha | ha
      · rw [print_neg ha, List.length_cons]; omega
      · rw [print_pos ha]; omega
    have hz : (⟨(printL A).toArray⟩ : ByteArray).size = (printL A).length := by rw [str_size]
    refine (parse_any ⟨(printL A).toArray⟩ (by omega) w).mono ?_
    rintro e w' ⟨N, b, rfl, hb, g1, g2⟩
    cases b with
    | false => exact absurd rfl ((g2 rfl).2 A hfA)
    | true =>
      have hN : A = N := print_inj (g1 rfl).2
      unfold wv
      rw [← hN, hwA.1, hwA.2]
      exact ⟨rfl, hb⟩
  have cn := cmp_neg A B
  rw [cn.1] at C2
  unfold wv at A1 S2 KO
  generalize hiW n = p at KO KF
  generalize loW n = q at KO KF
  by_cases fS : fitW (A - B) = true
  · have hx := w_split (A - B)
    have C3 := fun w => cmp_any (hiW (A - B)) (loW (A - B)) 0 0 w hx.2.1 hx.2.2 (by decide) (by decide)
    rw [hx.1, show (0 : Int) * 18446744073709551616 + 0 = 0 from rfl, cn.2.1] at C3
    unfold ansW at S2
    rw [fS, if_pos rfl] at S2
    generalize hiW (A - B) = R at S2 C3
    generalize loW (A - B) = S at S2 C3
    have KC : ∀ x y x' y' c : Int, (x = h ∧ y = l ∧ x' = h' ∧ y' = l' ∧ c = cmpW A B) ∨ (x = h' ∧ y = l' ∧ x' = h ∧ y' = l ∧ c = -cmpW A B) ∨ (x = R ∧ y = S ∧ x' = 0 ∧ y' = 0 ∧ c = cmpW A B) → ∀ w, Calls Try.prog 15 #[.agg #[.int .i64 x, .int .u64 y], .agg #[.int .i64 x', .int .u64 y']] w fun e w' => e = .returned (.int .i64 c) ∧ Below w.heap.size w w' := fun x y x' y' c hc w => by
      rcases hc with ⟨rfl, rfl, rfl, rfl, rfl⟩ | ⟨rfl, rfl, rfl, rfl, rfl⟩ | ⟨rfl, rfl, rfl, rfl, rfl⟩
      · exact C1 w
      · exact C2 w
      · exact C3 w
    by_cases fA : fitW (A + B) = true
    · have hy := w_split (A + B)
      have hf := fit_hi fA
      have S1 := fun w => sub_any (hiW (A + B)) (loW (A + B)) h' l' w hf.1 hf.2 hy.2.1 hy.2.2 k0 k1 m0 m1
      rw [hy.1, hB, show A + B - B = A by omega] at S1
      unfold wv ansW at S1
      rw [hfA, if_pos rfl, hwA.1, hwA.2] at S1
      unfold ansW at A1
      rw [fA, if_pos rfl] at A1
      exact back_11 w KP KS KO KF A1 S1 S2 KC cn.2.2
    · rw [Bool.eq_false_iff.2 fA] at A1
      exact back_01 w KP KS KO KF A1 S2 KC cn.2.2
  · rw [Bool.eq_false_iff.2 fS] at S2
    have KC : ∀ x y x' y' c : Int, (x = h ∧ y = l ∧ x' = h' ∧ y' = l' ∧ c = cmpW A B) ∨ (x = h' ∧ y = l' ∧ x' = h ∧ y' = l ∧ c = -cmpW A B) → ∀ w, Calls Try.prog 15 #[.agg #[.int .i64 x, .int .u64 y], .agg #[.int .i64 x', .int .u64 y']] w fun e w' => e = .returned (.int .i64 c) ∧ Below w.heap.size w w' := fun x y x' y' c hc w => by
      rcases hc with ⟨rfl, rfl, rfl, rfl, rfl⟩ | ⟨rfl, rfl, rfl, rfl, rfl⟩
      · exact C1 w
      · exact C2 w
    by_cases fA : fitW (A + B) = true
    · have hy := w_split (A + B)
      have hf := fit_hi fA
      have S1 := fun w => sub_any (hiW (A + B)) (loW (A + B)) h' l' w hf.1 hf.2 hy.2.1 hy.2.2 k0 k1 m0 m1
      rw [hy.1, hB, show A + B - B = A by omega] at S1
      unfold wv ansW at S1
      rw [hfA, if_pos rfl, hwA.1, hwA.2] at S1
      unfold ansW at A1
      rw [fA, if_pos rfl] at A1
      exact back_10 w KP KS KO KF A1 S1 S2 KC cn.2.2
    · rw [Bool.eq_false_iff.2 fA] at A1
      exact back_00 w KP KS KO KF A1 S2 KC cn.2.2
end Go.Proofs.Ytnljlbdecknbpaa
