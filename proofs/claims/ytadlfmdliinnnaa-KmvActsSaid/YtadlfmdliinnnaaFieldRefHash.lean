/- Contracts of the reference's Mul and Hash. Conditions: none (each a uint64). -/
import Derived.Test.YtadlfmdliinnnaaFieldHash
set_option maxRecDepth 100000
namespace Go.Proofs.Ytadlfmdliinnnaa
open Go.RowKit

theorem mod_in (s t m k : Nat) : (s + t % m * k) % m = (s + t * k) % m := by
  rw [Nat.add_mod, Nat.mul_mod, Nat.mod_mod, ← Nat.mul_mod, ← Nat.add_mod]
theorem sum_even (s a j K : Nat) (hj : j % 2 = 0) (h : (s + a * j) % 2305843009213693951 = K) : (s + (a + a) % 2305843009213693951 * (j / 2)) % 2305843009213693951 = K := by
  rw [mod_in, ← h]
  have e : (a + a) * (j / 2) = a * j := by rw [← Nat.two_mul, Nat.mul_comm 2, Nat.mul_assoc]; congr 1; omega
  rw [e]
theorem sum_odd (s a j K : Nat) (hj : j % 2 = 1) (h : (s + a * j) % 2305843009213693951 = K) : ((s + a) % 2305843009213693951 + (a + a) % 2305843009213693951 * (j / 2)) % 2305843009213693951 = K := by
  rw [mod_in, Nat.add_mod, Nat.mod_mod, ← Nat.add_mod, ← h]
  have e : (a + a) * (j / 2) = a * (j - 1) := by rw [← Nat.two_mul, Nat.mul_comm 2, Nat.mul_assoc]; congr 1; omega
  have e2 : a * j = a * (j - 1) + a := by rw [← Nat.mul_succ]; congr 1; omega
  rw [e, e2]
  congr 1
  omega
set_option maxHeartbeats 1600000 in
theorem refMul_any (x y : Nat) (w : World) (h1 : x < 18446744073709551616) (h3 : y < 18446744073709551616) : Calls Try.prog 54 #[.int .u64 (x : Int), .int .u64 (y : Int)] w fun e w' => e = .returned (.int .u64 (mulP x y : Int)) ∧ w = w' := by
  have hx : x % 2305843009213693951 < 2305843009213693951 := by omega
  have hy : y % 2305843009213693951 < 2305843009213693951 := by omega
  have HM := Lib.hid (show mulP x y = (x % 2305843009213693951) * (y % 2305843009213693951) % 2305843009213693951 from Nat.mul_mod _ _ _)
  go_enter Try.func54, Try.ntmps54
  go_wp2_with fail
  refine (refOf_any _ _ (by omega)).mono ?_
  rintro e w' ⟨rfl, rfl⟩
  go_wp2_with fail
  refine (refOf_any _ _ (by omega)).mono ?_
  rintro e w' ⟨rfl, rfl⟩
  go_wp2_with fail
  go_loop [0, 1, 5] (fun a b s => ∃ (a' j s' : Nat), a = .int .u64 a' ∧ b = .int .u64 j ∧ s = .int .u64 s' ∧ a' < 2305843009213693951 ∧ j < 2305843009213693951 ∧ s' < 2305843009213693951 ∧ Hid ((s' + a' * j) % 2305843009213693951 = mulP x y)) (fun _ b _ => (intOf b).toNat)
  case atStart => exact ⟨x % 2305843009213693951, y % 2305843009213693951, 0, by go_num, by go_num, rfl, hx, hy, by decide, Lib.hid (by rw [Nat.zero_add]; exact HM.out.symm)⟩
  case round =>
    clear hx hy HM
    obtain ⟨a', j, s', rfl, rfl, rfl, ha, hj, hs, HE⟩ := hrel
    by_cases hj0 : j = 0
    · subst hj0
      have t0 : decide ((0 : Int) < ((0 : Nat) : Int)) = false := rfl
      have HV := Lib.hid (show s' = mulP x y by have := HE.out; rw [Nat.mul_zero, Nat.add_zero, Nat.mod_eq_of_lt hs] at this; exact this)
      clear HE
      go_wp2_with fail
      go_ret
      rw [HV.out]
      exact ⟨rfl, rfl⟩
    · have t0 : decide ((0 : Int) < (j : Int)) = true := decide_eq_true (by omega)
      have hand := and1_u64 j (by omega)
      by_cases h1 : j % 2 = 1
      · have t1 : ((j : Int) % 2 == 1) = true := by rw [beq_iff_eq]; omega
        have HE2 := Lib.hid (sum_odd s' a' j _ h1 HE.out)
        go_wp2_with fail
        refine (refAdd_any _ _ _ (by omega) (by omega)).mono ?_
        rintro e w1 ⟨rfl, rfl⟩
        go_wp2_with fail
        refine (refAdd_any _ _ _ (by omega) (by omega)).mono ?_
        rintro e w1 ⟨rfl, rfl⟩
        go_wp2_with fail
        go_round
        case rel => exact ⟨(a' + a') % 2305843009213693951, j / 2, (s' + a') % 2305843009213693951, by go_num, by go_num, by go_num, by omega, by omega, by omega, HE2⟩
        case measure => simp [intOf]; omega
      · have t1 : ((j : Int) % 2 == 1) = false := by rw [beq_eq_false_iff_ne]; omega
        have HE2 := Lib.hid (sum_even s' a' j _ (by omega) HE.out)
        go_wp2_with fail
        refine (refAdd_any _ _ _ (by omega) (by omega)).mono ?_
        rintro e w1 ⟨rfl, rfl⟩
        go_wp2_with fail
        go_round
        case rel => exact ⟨(a' + a') % 2305843009213693951, j / 2, s', by go_num, by go_num, rfl, by omega, by omega, hs, HE2⟩
        case measure => simp [intOf]; omega


theorem refHash_any (a b x : Nat) (w : World) (h1 : a < 18446744073709551616) (h2 : b < 18446744073709551616) (h3 : x < 18446744073709551616) : Calls Try.prog 36 #[.agg #[.int .u64 (a : Int), .int .u64 (b : Int)], .int .u64 (x : Int)] w fun e w' => e = .returned (.int .u64 (hashP a b x : Int)) ∧ Below w.heap.size w w' := by
  have HM := Lib.hid (hash_math a b x)
  have l1 := mulP_lt a x
  go_enter Try.func36, Try.ntmps36
  go_wp2_with fail
  go_quiet ((first | exact Calls.quiet_of_same ((refMul_any a x _ h1 h3).mono fun _ _ ⟨h, hw⟩ => ⟨h, hw.symm⟩) | exact Calls.quiet_of_same ((refAdd_any _ _ _ (by omega) (by omega)).mono fun _ _ ⟨h, hw⟩ => ⟨h, hw.symm⟩)))
  go_wp2_with fail
  go_ret
  exact ⟨ret_int HM.out, box_n _ _ _ trivial⟩
end Go.Proofs.Ytadlfmdliinnnaa
