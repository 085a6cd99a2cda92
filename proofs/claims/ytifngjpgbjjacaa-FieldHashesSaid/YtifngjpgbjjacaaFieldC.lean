/- Contracts of field.Mul, field.Pow and field.Inverse over natural numbers. Conditions: none (each a uint64). -/
import Derived.Test.YtifngjpgbjjacaaFieldB
set_option maxRecDepth 100000
namespace Go.Proofs.Ytifngjpgbjjacaa
open Go.RowKit

def mulP (x y : Nat) : Nat := x * y % 2305843009213693951
def powP (x k : Nat) : Nat := x ^ k % 2305843009213693951
theorem mulP_lt (x y : Nat) : mulP x y < 2305843009213693951 := Nat.mod_lt _ (by decide)
theorem powP_lt (x y : Nat) : powP x y < 2305843009213693951 := Nat.mod_lt _ (by decide)
theorem powP_zero (x : Nat) : powP x 0 = 1 := by simp [powP]
theorem mulP_cast (x y : Nat) : ((x : Int) * (y : Int)) % 2305843009213693951 = (mulP x y : Int) := by
  unfold mulP; rw [← Int.natCast_mul]; omega
theorem step_even (p s j K : Nat) (hj : j % 2 = 0) (h : p * s ^ j % 2305843009213693951 = K) : p * (mulP s s) ^ (j / 2) % 2305843009213693951 = K := by
  have e : s ^ j = (s * s) ^ (j / 2) := by rw [← Nat.pow_two, ← Nat.pow_mul]; congr 1; omega
  unfold mulP
  rw [← h, e, Nat.mul_mod, ← Nat.pow_mod, ← Nat.mul_mod]
theorem step_odd (p s j K : Nat) (hj : j % 2 = 1) (h : p * s ^ j % 2305843009213693951 = K) : mulP p s * (mulP s s) ^ (j / 2) % 2305843009213693951 = K := by
  have e : s ^ j = s * (s * s) ^ (j / 2) := by rw [← Nat.pow_two, ← Nat.pow_mul, Nat.mul_comm s, ← Nat.pow_succ]; congr 1; omega
  unfold mulP
  rw [← h, e, ← Nat.mul_assoc, Nat.mul_mod, Nat.mod_mod, ← Nat.pow_mod, ← Nat.mul_mod]

theorem mul_nat (x y : Nat) (w : World) (h1 : x < 18446744073709551616) (h3 : y < 18446744073709551616) : Calls Try.prog 13 #[.int .u64 (x : Int), .int .u64 (y : Int)] w fun e w' => e = .returned (.int .u64 (mulP x y : Int)) ∧ Below w.heap.size w w' :=
  (mul_any x y w (by omega) (by omega) (by omega) (by omega)).mono fun e w' ⟨h, b⟩ => ⟨by rw [h, mulP_cast], b⟩

set_option maxHeartbeats 1600000 in
theorem pow_any (x k : Nat) (w : World) (h1 : x < 18446744073709551616) (h3 : k < 18446744073709551616) : Calls Try.prog 15 #[.int .u64 (x : Int), .int .u64 (k : Int)] w fun e w' => e = .returned (.int .u64 (powP x k : Int)) ∧ Below w.heap.size w w' := by
  go_enter Try.func15, Try.ntmps15
  go_wp2_with fail
  go_step3
  go_wp2_with fail
  go_step3
  go_wp2_with fail
  go_loopw [1, 5, 6] (fun i p s wr => ∃ (j p' s' : Nat), i = .int .u64 j ∧ p = .int .u64 p' ∧ s = .int .u64 s' ∧ j < 18446744073709551616 ∧ p' < 2305843009213693951 ∧ s' < 18446744073709551616 ∧ Hid (p' * s' ^ j % 2305843009213693951 = powP x k) ∧ Below w.heap.size w wr) (fun i _ _ _ => (intOf i).toNat)
  case atStart => exact ⟨k, 1, x, rfl, rfl, rfl, h3, by decide, h1, Lib.hid (by rw [Nat.one_mul]; rfl), Below.refl _ _⟩
  case round =>
    obtain ⟨j, p', s', rfl, rfl, rfl, hj, hp, hs, HE, hb⟩ := hrel
    by_cases hj0 : j = 0
    · subst hj0
      have t0 : (((0 : Nat) : Int) == 0) = true := rfl
      have HV := Lib.hid (show p' = powP x k by have := HE.out; rw [Nat.pow_zero, Nat.mul_one, Nat.mod_eq_of_lt hp] at this; exact this)
      clear HE
      go_wp2_with fail
      rw [Exit.noGoto_ret]
      go_ret
      rw [HV.out]
      exact ⟨rfl, hb⟩
    · have t0 : ((j : Int) == 0) = false := by rw [beq_eq_false_iff_ne]; omega
      have hand := and1_u64 j hj
      by_cases h1 : j % 2 = 1
      · have t1 : ((j : Int) % 2 == 1) = true := by rw [beq_iff_eq]; omega
        have HE2 := Lib.hid (step_odd p' s' j _ h1 HE.out)
        have l1 := mulP_lt p' s'
        have l2 := mulP_lt s' s'
        go_wp2_with fail
        refine (mul_nat p' s' _ (by omega) hs).mono ?_
        rintro e w1 ⟨rfl, hb1⟩
        go_wp2_with fail
        refine (mul_nat s' s' _ hs hs).mono ?_
        rintro e w2 ⟨rfl, hb2⟩
        go_wp2_with fail
        go_roundw
        case rel => exact ⟨j / 2, mulP p' s', mulP s' s', by go_num, rfl, rfl, by omega, l1, by omega, HE2, (hb.trans (hb1.mono hb.size)).trans (hb2.mono (Nat.le_trans hb.size hb1.size))⟩
        case measure => simp [intOf]; omega
      · have t1 : ((j : Int) % 2 == 1) = false := by rw [beq_eq_false_iff_ne]; omega
        have HE2 := Lib.hid (step_even p' s' j _ (by omega) HE.out)
        have l2 := mulP_lt s' s'
        go_wp2_with fail
        refine (mul_nat s' s' _ hs hs).mono ?_
        rintro e w2 ⟨rfl, hb2⟩
        go_wp2_with fail
        go_roundw
        case rel => exact ⟨j / 2, p', mulP s' s', by go_num, rfl, rfl, by omega, hp, by omega, HE2, hb.trans (hb2.mono hb.size)⟩
        case measure => simp [intOf]; omega
theorem inverse_any (x : Nat) (w : World) (h1 : x < 18446744073709551616) : Calls Try.prog 18 #[.int .u64 (x : Int)] w fun e w' => e = .returned (.tuple #[.int .u64 (if x % 2305843009213693951 = 0 then 0 else (powP x 2305843009213693949 : Int)), .bool (decide (x % 2305843009213693951 ≠ 0))]) ∧ Below w.heap.size w w' := by
  by_cases h0 : x % 2305843009213693951 = 0
  · have t0 : ((x : Int) % 2305843009213693951 == 0) = true := by rw [beq_iff_eq]; omega
    rw [if_pos h0, decide_eq_false (by simpa using h0)]
    clear h0
    go_enter Try.func18, Try.ntmps18
    go_wp2_with fail
    refine (of_any _ _ (by omega) (by omega)).mono ?_
    rintro e w' ⟨rfl, rfl⟩
    go_wp2_with fail
    go_ret2
    exact ⟨rfl, Below.refl _ _⟩
  · have t0 : ((x : Int) % 2305843009213693951 == 0) = false := by rw [beq_eq_false_iff_ne]; omega
    rw [if_neg h0, decide_eq_true h0]
    clear h0
    go_enter Try.func18, Try.ntmps18
    go_wp2_with fail
    refine (of_any _ _ (by omega) (by omega)).mono ?_
    rintro e w' ⟨rfl, rfl⟩
    go_wp2_with fail
    refine (pow_any x 2305843009213693949 _ h1 (by decide)).mono ?_
    rintro e w1 ⟨rfl, hb⟩
    go_wp2_with fail
    go_ret2
    exact ⟨rfl, hb⟩
end Go.Proofs.Ytifngjpgbjjacaa
