/- Contracts of the reference's Mul, Pow and Inverse. Conditions: none (each a uint64). -/
import Derived.Test.YtifngjpgbjjacaaFieldC
set_option maxRecDepth 100000
namespace Go.Proofs.Ytifngjpgbjjacaa
open Go.RowKit

theorem mod_in (s t m k : Nat) : (s + t % m * k) % m = (s + t * k) % m := by
  rw [Nat.add_mod, Nat.mul_mod, Nat.mod_mod, ← Nat.mul_mod, ← Nat.add_mod]
theorem sum_even (s a j K : Nat) (hj : j % 2 = 0) (h : (s + a * j) % 2305843009213693951 = K) : (s + (a + a) % 2305843009213693951 * (j / 2)) % 2305843009213693951 = K := by
  rw [mod_in, ← h]
  have e : (a + a) * (j / 2) = a * j := by rw [← Nat.two_mul, Nat.mul_comm 2, Nat.mul_assoc]; congr 1; omega
  rw [e]
theorem sum_odd (s a j K : Nat) (hj : j % 2 = 1) (h : (s + a * j) % 2305843009213693951 = K) : ((s + a) % 2305843009213693951 + (a + a) % 2305843009213693951 * (j / 2)) % 2305843009213693951 = K := by
  rw [mod_in, Nat.add_mod, Nat.mod_mod, ← Nat.add_mod, ← h]
  have e : (a + a) * (j / 2) = a * (j - 1) := by rw [← Nat.two_mul, Nat.mul_comm 2, Nat.mul_assoc]; congr 1; omega
  have e2 : a * j = a * (j - 1) + a := by rw [← Nat.mul_succ]; congr 1; omega
  rw [e, e2]
  congr 1
  omega
set_option maxHeartbeats 1600000 in
theorem refMul_any (x y : Nat) (w : World) (h1 : x < 18446744073709551616) (h3 : y < 18446744073709551616) : Calls Try.prog 14 #[.int .u64 (x : Int), .int .u64 (y : Int)] w fun e w' => e = .returned (.int .u64 (mulP x y : Int)) ∧ w = w' := by
  have hx : x % 2305843009213693951 < 2305843009213693951 := by omega
  have hy : y % 2305843009213693951 < 2305843009213693951 := by omega
  have HM := Lib.hid (show mulP x y = (x % 2305843009213693951) * (y % 2305843009213693951) % 2305843009213693951 from Nat.mul_mod _ _ _)
  go_enter Try.func14, Try.ntmps14
  go_wp2_with fail
  refine (refOf_any _ _ (by omega)).mono ?_
  rintro e w' ⟨rfl, rfl⟩
  go_wp2_with fail
  refine (refOf_any _ _ (by omega)).mono ?_
  rintro e w' ⟨rfl, rfl⟩
  go_wp2_with fail
  go_loop [0, 1, 5] (fun a b s => ∃ (a' j s' : Nat), a = .int .u64 a' ∧ b = .int .u64 j ∧ s = .int .u64 s' ∧ a' < 2305843009213693951 ∧ j < 2305843009213693951 ∧ s' < 2305843009213693951 ∧ Hid ((s' + a' * j) % 2305843009213693951 = mulP x y)) (fun _ b _ => (intOf b).toNat)
  case atStart => exact ⟨x % 2305843009213693951, y % 2305843009213693951, 0, by go_num, by go_num, rfl, hx, hy, by decide, Lib.hid (by rw [Nat.zero_add]; exact HM.out.symm)⟩
  case round =>
    clear hx hy HM
    obtain ⟨a', j, s', rfl, rfl, rfl, ha, hj, hs, HE⟩ := hrel
    by_cases hj0 : j = 0
    · subst hj0
      have t0 : decide ((0 : Int) < ((0 : Nat) : Int)) = false := rfl
      have HV := Lib.hid (show s' = mulP x y by have := HE.out; rw [Nat.mul_zero, Nat.add_zero, Nat.mod_eq_of_lt hs] at this; exact this)
      clear HE
      go_wp2_with fail
      go_ret
      rw [HV.out]
      exact ⟨rfl, rfl⟩
    · have t0 : decide ((0 : Int) < (j : Int)) = true := decide_eq_true (by omega)
      have hand := and1_u64 j (by omega)
      by_cases h1 : j % 2 = 1
      · have t1 : ((j : Int) % 2 == 1) = true := by rw [beq_iff_eq]; omega
        have HE2 := Lib.hid (sum_odd s' a' j _ h1 HE.out)
        go_wp2_with fail
        refine (refAdd_any _ _ _ (by omega) (by omega)).mono ?_
        rintro e w1 ⟨rfl, rfl⟩
        go_wp2_with fail
        refine (refAdd_any _ _ _ (by omega) (by omega)).mono ?_
        rintro e w1 ⟨rfl, rfl⟩
        go_wp2_with fail
        go_round
        case rel => exact ⟨(a' + a') % 2305843009213693951, j / 2, (s' + a') % 2305843009213693951, by go_num, by go_num, by go_num, by omega, by omega, by omega, HE2⟩
        case measure => simp [intOf]; omega
      · have t1 : ((j : Int) % 2 == 1) = false := by rw [beq_eq_false_iff_ne]; omega
        have HE2 := Lib.hid (sum_even s' a' j _ (by omega) HE.out)
        go_wp2_with fail
        refine (refAdd_any _ _ _ (by omega) (by omega)).mono ?_
        rintro e w1 ⟨rfl, rfl⟩
        go_wp2_with fail
        go_round
        case rel => exact ⟨(a' + a') % 2305843009213693951, j / 2, s', by go_num, by go_num, rfl, by omega, by omega, hs, HE2⟩
        case measure => simp [intOf]; omega

set_option maxHeartbeats 1600000 in
theorem refPow_any (x k : Nat) (w : World) (h1 : x < 18446744073709551616) (h3 : k < 18446744073709551616) : Calls Try.prog 16 #[.int .u64 (x : Int), .int .u64 (k : Int)] w fun e w' => e = .returned (.int .u64 (powP x k : Int)) ∧ w = w' := by
  go_enter Try.func16, Try.ntmps16
  go_wp2_with fail
  go_loop [0, 1, 5] (fun s i p => ∃ (j p' s' : Nat), i = .int .u64 j ∧ p = .int .u64 p' ∧ s = .int .u64 s' ∧ j < 18446744073709551616 ∧ p' < 2305843009213693951 ∧ s' < 18446744073709551616 ∧ Hid (p' * s' ^ j % 2305843009213693951 = powP x k)) (fun _ i _ => (intOf i).toNat)
  case atStart => exact ⟨k, 1, x, rfl, rfl, rfl, h3, by decide, h1, Lib.hid (by rw [Nat.one_mul]; rfl)⟩
  case round =>
    clear h1 h3
    obtain ⟨j, p', s', rfl, rfl, rfl, hj, hp, hs, HE⟩ := hrel
    by_cases hj0 : j = 0
    · subst hj0
      have t0 : decide ((0 : Int) < ((0 : Nat) : Int)) = false := rfl
      have HV := Lib.hid (show p' = powP x k by have := HE.out; rw [Nat.pow_zero, Nat.mul_one, Nat.mod_eq_of_lt hp] at this; exact this)
      clear HE
      go_wp2_with fail
      go_ret
      rw [HV.out]
      exact ⟨rfl, rfl⟩
    · have t0 : decide ((0 : Int) < (j : Int)) = true := decide_eq_true (by omega)
      have hand := and1_u64 j hj
      by_cases h1 : j % 2 = 1
      · have t1 : ((j : Int) % 2 == 1) = true := by rw [beq_iff_eq]; omega
        have HE2 := Lib.hid (step_odd p' s' j _ h1 HE.out)
        have l1 := mulP_lt p' s'
        have l2 := mulP_lt s' s'
        go_wp2_with fail
        refine (refMul_any p' s' _ (by omega) hs).mono ?_
        rintro e w1 ⟨rfl, rfl⟩
        go_wp2_with fail
        refine (refMul_any s' s' _ hs hs).mono ?_
        rintro e w2 ⟨rfl, rfl⟩
        go_wp2_with fail
        go_round
        case rel => exact ⟨j / 2, mulP p' s', mulP s' s', by go_num, rfl, rfl, by omega, l1, by omega, HE2⟩
        case measure => simp [intOf]; omega
      · have t1 : ((j : Int) % 2 == 1) = false := by rw [beq_eq_false_iff_ne]; omega
        have HE2 := Lib.hid (step_even p' s' j _ (by omega) HE.out)
        have l2 := mulP_lt s' s'
        go_wp2_with fail
        refine (refMul_any s' s' _ hs hs).mono ?_
        rintro e w2 ⟨rfl, rfl⟩
        go_wp2_with fail
        go_round
        case rel => exact ⟨j / 2, p', mulP s' s', by go_num, rfl, rfl, by omega, hp, by omega, HE2⟩
        case measure => simp [intOf]; omega
theorem refInverse_any (x : Nat) (w : World) (h1 : x < 18446744073709551616) : Calls Try.prog 19 #[.int .u64 (x : Int)] w fun e w' => e = .returned (.tuple #[.int .u64 (if x % 2305843009213693951 = 0 then 0 else (powP x 2305843009213693949 : Int)), .bool (decide (x % 2305843009213693951 ≠ 0))]) ∧ w = w' := by
  by_cases h0 : x % 2305843009213693951 = 0
  · have t0 : ((x : Int) % 2305843009213693951 == 0) = true := by rw [beq_iff_eq]; omega
    rw [if_pos h0, decide_eq_false (by simpa using h0)]
    clear h0
    go_enter Try.func19, Try.ntmps19
    go_wp2_with fail
    refine (refOf_any _ _ (by omega)).mono ?_
    rintro e w' ⟨rfl, rfl⟩
    go_wp2_with fail
    go_ret2
    exact ⟨rfl, rfl⟩
  · have t0 : ((x : Int) % 2305843009213693951 == 0) = false := by rw [beq_eq_false_iff_ne]; omega
    rw [if_neg h0, decide_eq_true h0]
    clear h0
    go_enter Try.func19, Try.ntmps19
    go_wp2_with fail
    refine (refOf_any _ _ (by omega)).mono ?_
    rintro e w' ⟨rfl, rfl⟩
    go_wp2_with fail
    refine (refPow_any x 2305843009213693949 _ h1 (by decide)).mono ?_
    rintro e w1 ⟨rfl, rfl⟩
    go_wp2_with fail
    go_ret2
    exact ⟨rfl, rfl⟩
end Go.Proofs.Ytifngjpgbjjacaa
