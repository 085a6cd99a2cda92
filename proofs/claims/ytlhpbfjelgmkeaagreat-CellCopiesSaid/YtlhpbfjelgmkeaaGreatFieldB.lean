/- Contract of field.Mul and of its closure. Conditions: none (each a uint64). -/
import Derived.Test.YtlhpbfjelgmkeaaGreatFieldA
import Derived.Test.YtlhpbfjelgmkeaaGreatOrs
set_option maxRecDepth 100000
namespace Go.Proofs.YtlhpbfjelgmkeaaGreat
open Go.RowKit

set_option maxHeartbeats 800000 in
theorem fold_any (hi lo : Int) (w : World) (a b : Addr) (h0 : 0 ≤ hi) (h1 : hi < 288230376151711744) (h2 : 0 ≤ lo) (h3 : lo < 18446744073709551616) (ha : w.cell? a = some (.int .u64 hi)) (hb : w.cell? b = some (.int .u64 lo)) : Calls Tryz.prog 219 #[.pointer (some a), .pointer (some b)] w fun e w' => e = .returned (.int .u64 (lo % 2305843009213693952 + (hi * 8 + lo / 2305843009213693952))) ∧ w = w' := by
  have hm := mask61 lo h2 h3
  have ho := or_add_u64 3 8 (hi * 8) (lo / 2305843009213693952) (by decide) (by omega) (by omega) (by omega) (by omega) (by omega)
  go_enter Tryz.func219, Tryz.ntmps219
  go_wp2_with fail
  go_ret
  exact ⟨rfl, rfl⟩

theorem two_a (w : World) (u v : Value) (t s : TypeId) : ((w.alloc (.cells #[u] t)).alloc (.cells #[v] s)).cell? ⟨w.heap.size, 0, none⟩ = some u := by go_simp
theorem two_b (w : World) (u v : Value) (t s : TypeId) : ((w.alloc (.cells #[u] t)).alloc (.cells #[v] s)).cell? ⟨w.heap.size + 1, 0, none⟩ = some v := by go_simp
theorem two_below (w : World) (u v : Value) (t s : TypeId) : Below w.heap.size w ((w.alloc (.cells #[u] t)).alloc (.cells #[v] s)) := ((Below.refl _ _).alloc (Nat.le_refl _) _).alloc (by simp) _
theorem mul_math (x y : Int) : ((x % 2305843009213693951) * (y % 2305843009213693951)) % 2305843009213693951 = (x * y) % 2305843009213693951 := by
  rw [Int.mul_emod, Int.emod_emod, Int.emod_emod, ← Int.mul_emod]
theorem mul_lt (x y : Nat) (hx : x < 2305843009213693951) (hy : y < 2305843009213693951) : x * y / 18446744073709551616 < 288230376151711744 := by
  have : x * y ≤ 2305843009213693950 * 2305843009213693950 := Nat.mul_le_mul (by omega) (by omega)
  omega

set_option maxHeartbeats 1600000 in
theorem mul_any (x y : Int) (w : World) (h0 : 0 ≤ x) (h1 : x < 18446744073709551616) (h2 : 0 ≤ y) (h3 : y < 18446744073709551616) : Calls Tryz.prog 215 #[.int .u64 x, .int .u64 y] w fun e w' => e = .returned (.int .u64 ((x * y) % 2305843009213693951)) ∧ Below w.heap.size w w' := by
  have hx0 : 0 ≤ x % 2305843009213693951 := by omega
  have hx1 : x % 2305843009213693951 < 2305843009213693951 := by omega
  have hy0 : 0 ≤ y % 2305843009213693951 := by omega
  have hy1 : y % 2305843009213693951 < 2305843009213693951 := by omega
  have HM := Lib.hid (mul_math x y)
  go_enter Tryz.func215, Tryz.ntmps215
  go_wp2_with fail
  refine (of_any _ _ h0 h1).mono ?_
  rintro e w' ⟨rfl, rfl⟩
  go_wp2_with fail
  refine (of_any _ _ h2 h3).mono ?_
  rintro e w' ⟨rfl, rfl⟩
  generalize x % 2305843009213693951 = X at hx0 hx1 HM ⊢
  generalize y % 2305843009213693951 = Y at hy0 hy1 HM ⊢
  obtain ⟨m, rfl⟩ : ∃ m : Nat, X = (m : Int) := ⟨X.toNat, by omega⟩
  obtain ⟨n, rfl⟩ : ∃ n : Nat, Y = (n : Int) := ⟨Y.toNat, by omega⟩
  have hb := mul_lt m n (by omega) (by omega)
  go_wp2_with fail
  refine (Tryz.bits_Mul64 m n (by omega) (by omega) _).mono ?_
  rintro e w' ⟨rfl, rfl⟩
  obtain ⟨hi, hhi⟩ : ∃ hi : Nat, hi = m * n / 18446744073709551616 := ⟨_, rfl⟩
  obtain ⟨lo, hlo⟩ : ∃ lo : Nat, lo = m * n % 18446744073709551616 := ⟨_, rfl⟩
  rw [← hhi, ← hlo]
  have HS := Lib.hid (show hi * 18446744073709551616 + lo = m * n by omega)
  have hl : lo < 18446744073709551616 := by omega
  rw [← hhi] at hb
  clear hhi hlo
  go_wp2_with fail
  refine (fold_any (hi : Int) (lo : Int) _ _ _ (by omega) (by omega) (by omega) (by omega) (two_a _ _ _ _ _) (two_b _ _ _ _ _)).mono ?_
  rintro e w' ⟨rfl, rfl⟩
  go_wp2_with fail
  refine (of_any _ _ (by omega) (by omega)).mono ?_
  rintro e w' ⟨rfl, rfl⟩
  go_wp2_with fail
  go_ret
  refine ⟨ret_int ?_, ?_⟩
  · rw [← HM.out]
    have e : ((m * n : Nat) : Int) = ((hi * 18446744073709551616 + lo : Nat) : Int) := by rw [HS.out]
    rw [Int.natCast_mul] at e
    rw [e]
    omega
  · exact two_below _ _ _ _ _
end Go.Proofs.YtlhpbfjelgmkeaaGreat
