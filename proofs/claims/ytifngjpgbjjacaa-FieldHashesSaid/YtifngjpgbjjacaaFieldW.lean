/- The walks of FieldSums, FieldDivides and FieldQuotients. Conditions: none (each a uint64). -/
import Derived.Test.YtifngjpgbjjacaaFieldL
import Derived.ProofKit
import Derived.OpenShut
import Derived.ChangeOld
set_option maxRecDepth 100000
namespace Go.Proofs.Ytifngjpgbjjacaa
open Go.RowKit

theorem own : ownKnob Try.prog.godebug = none := by kernel_rfl
theorem laidOut : laidOutB Try.prog = true := by kernel_rfl

set_option maxHeartbeats 1600000 in
theorem sums_walk (a b : Nat) (h1 : a < 18446744073709551616) (h2 : b < 18446744073709551616) (w : World) : Calls Try.prog 3 #[.int .u64 (a : Int), .int .u64 (b : Int)] w fun e w' => e = .returned (.bool true) ∧ Below w.heap.size w w' := by
  go_enter Try.func3, Try.ntmps3
  go_wp2_with fail
  refine (good_any _ _).mono ?_
  rintro e w' ⟨rfl, rfl⟩
  go_wp2_with fail
  refine (of_any _ _ (by omega) (by omega)).mono ?_
  rintro e w' ⟨rfl, rfl⟩
  go_wp2_with fail
  refine (refOf_any _ _ (by omega)).mono ?_
  rintro e w' ⟨rfl, rfl⟩
  go_wp2_with fail
  refine (add_any _ _ _ (by omega) (by omega) (by omega) (by omega)).mono ?_
  rintro e w' ⟨rfl, rfl⟩
  go_wp2_with fail
  refine (refAdd_any _ _ _ (by omega) (by omega)).mono ?_
  rintro e w' ⟨rfl, rfl⟩
  go_wp2_with fail
  refine (mul_nat a b _ h1 h2).mono ?_
  rintro e w1 ⟨rfl, b1⟩
  go_wp2_with fail
  refine (refMul_any a b _ h1 h2).mono ?_
  rintro e w' ⟨rfl, rfl⟩
  go_wp2_with fail
  refine (pow_any a b _ h1 h2).mono ?_
  rintro e w2 ⟨rfl, b2⟩
  go_wp2_with fail
  refine (refPow_any a b _ h1 h2).mono ?_
  rintro e w' ⟨rfl, rfl⟩
  go_wp2_with fail
  refine (lives_any _).mono ?_
  rintro e w3 ⟨rfl, b3⟩
  go_wp2_with fail
  go_ret
  have c1 := b1.trans (b2.mono b1.size)
  exact ⟨rfl, c1.trans (b3.mono c1.size)⟩

set_option maxHeartbeats 1600000 in
theorem divides_walk (a b c : Nat) (h1 : a < 18446744073709551616) (h2 : b < 18446744073709551616) (h3 : c < 18446744073709551616) (w : World) : Calls Try.prog 4 #[.int .u64 (a : Int), .int .u64 (b : Int), .int .u64 (c : Int)] w fun e w' => e = .returned (.bool true) ∧ Below w.heap.size w w' := by
  have C1 := inverse_any a
  have C2 := refInverse_any a
  generalize (if a % 2305843009213693951 = 0 then 0 else (powP a 2305843009213693949 : Int)) = i at C1 C2
  generalize decide (a % 2305843009213693951 ≠ 0) = ok at C1 C2
  have C3 := mulDiv_any a b c
  have C4 := refMulDiv_any a b c
  generalize mdQ a b c = q at C3 C4
  generalize mdB a b c = on at C3 C4
  go_enter Try.func4, Try.ntmps4
  go_wp2_with fail
  refine (C1 _ h1).mono ?_
  rintro e w1 ⟨rfl, b1⟩
  go_wp2_with fail
  refine (C2 _ h1).mono ?_
  rintro e w' ⟨rfl, rfl⟩
  go_wp2_with fail
  refine (C3 _ h1 h2 h3).mono ?_
  rintro e w2 ⟨rfl, n, hn⟩
  have HN := Lib.hid hn
  clear hn
  go_wp2_with fail
  refine (C4 _ h1 h2 h3).mono ?_
  rintro e w' ⟨rfl, rfl⟩
  clear C1 C2 C3 C4
  go_wp2_with fail
  refine (hash_any a b c _ h1 h2 h3).mono ?_
  rintro e w3 ⟨rfl, b3⟩
  go_wp2_with fail
  refine (refHash_any a b c _ h1 h2 h3).mono ?_
  rintro e w4 ⟨rfl, b4⟩
  go_wp2_with fail
  refine (lives_any _).mono ?_
  rintro e w5 ⟨rfl, b5⟩
  go_wp2_with fail
  go_ret
  have c1 := b1.trans ((HN.out ▸ below_drewN w1 n).mono b1.size)
  have c2 := c1.trans (b3.mono c1.size)
  have c3 := c2.trans (b4.mono c2.size)
  exact ⟨rfl, c3.trans (b5.mono c3.size)⟩

theorem quo_math (a b c : Nat) (h1 : a < 2147483648) (h2 : b < 2147483648) : mdQ a b c = (if c = 0 then 0 else a * b / c) ∧ mdB a b c = decide (c ≠ 0) ∧ a * b < 4611686018427387904 := by
  have hle : a * b ≤ 2147483647 * 2147483647 := Nat.mul_le_mul (by omega) (by omega)
  have hz : a * b / 18446744073709551616 = 0 := by omega
  unfold mdQ mdB
  rw [hz]
  refine ⟨?_, ?_, by omega⟩
  · by_cases hc : c = 0
    · subst hc; rfl
    · rw [if_neg (by omega), if_neg hc]
  · by_cases hc : c = 0
    · subst hc; rfl
    · rw [decide_eq_true (by omega), decide_eq_true hc]
set_option maxHeartbeats 1600000 in
theorem quotients_walk (a b c : Nat) (h1 : a < 18446744073709551616) (h2 : b < 18446744073709551616) (h3 : c < 18446744073709551616) (w : World) : Calls Try.prog 7 #[.int .u64 (a : Int), .int .u64 (b : Int), .int .u64 (c : Int)] w fun e w' => e = .returned (.bool true) ∧ Below w.heap.size w w' := by
  obtain ⟨x, hx⟩ : ∃ n : Nat, n = a % 2147483648 := ⟨_, rfl⟩
  obtain ⟨y, hy⟩ : ∃ n : Nat, n = b % 2147483648 := ⟨_, rfl⟩
  have l1 : x < 2147483648 := by omega
  have l2 : y < 2147483648 := by omega
  have ex : (a : Int) % 2147483648 = (x : Int) := by omega
  have ey : (b : Int) % 2147483648 = (y : Int) := by omega
  obtain ⟨m1, m2, m3⟩ := quo_math x y c l1 l2
  have C := mulDiv_any x y c
  rw [m1, m2] at C
  obtain ⟨Z, hZ⟩ : ∃ n : Nat, n = x * y := ⟨_, rfl⟩
  have ez : (x : Int) * (y : Int) = (Z : Int) := by rw [hZ]; simp
  rw [← hZ] at m3 C
  clear hx hy m1 m2 hZ
  by_cases hc : c = 0
  · subst hc
    rw [if_pos rfl, decide_eq_false (by simp)] at C
    have t0 : (((0 : Nat) : Int) == 0) = true := rfl
    go_enter Try.func7, Try.ntmps7
    go_wp2_with fail
    refine (C _ (by omega) (by omega) (by decide)).mono ?_
    rintro e w1 ⟨rfl, n, hn⟩
    have HN := Lib.hid hn
    clear hn C
    go_wp2_with fail
    refine (lives_any _).mono ?_
    rintro e w2 ⟨rfl, b2⟩
    go_wp2_with fail
    go_ret
    have c1 := HN.out ▸ below_drewN w n
    exact ⟨rfl, c1.trans (b2.mono c1.size)⟩
  · rw [if_neg hc, decide_eq_true hc] at C
    have t0 : ((c : Int) == 0) = false := by rw [beq_eq_false_iff_ne]; omega
    obtain ⟨Q, hQ⟩ : ∃ n : Nat, n = Z / c := ⟨_, rfl⟩
    have eq' : IntKind.u64.wrap ((Z : Int) / (c : Int)) = (Q : Int) := by
      have hq : Q ≤ Z := by rw [hQ]; exact Nat.div_le_self _ _
      have e : (Z : Int) / (c : Int) = (Q : Int) := by rw [hQ]; exact (Int.natCast_ediv _ _).symm
      rw [e, IntKind.wrap_u64]; omega
    rw [← hQ] at C
    clear hQ
    go_enter Try.func7, Try.ntmps7
    go_wp2_with fail
    refine (C _ (by omega) (by omega) h3).mono ?_
    rintro e w1 ⟨rfl, n, hn⟩
    have HN := Lib.hid hn
    clear hn C
    go_wp2_with fail
    refine (lives_any _).mono ?_
    rintro e w2 ⟨rfl, b2⟩
    go_wp2_with fail
    go_ret
    have c1 := HN.out ▸ below_drewN w n
    exact ⟨rfl, c1.trans (b2.mono c1.size)⟩
end Go.Proofs.Ytifngjpgbjjacaa
