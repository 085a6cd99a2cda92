/- Contracts of the reference's Times and Divide. Conditions: none (each a uint64). -/
import Derived.Test.YtlhpbfjelgmkeaaGreatDiv64
set_option maxRecDepth 100000
namespace Go.Proofs.YtlhpbfjelgmkeaaGreat
open Go.RowKit

theorem times_split (x y : Nat) : x * y = (x / 4294967296) * (y / 4294967296) * 18446744073709551616 + ((x / 4294967296) * (y % 4294967296) + (x % 4294967296) * (y / 4294967296)) * 4294967296 + (x % 4294967296) * (y % 4294967296) := by
  conv => lhs; rw [kn_split x, kn_split y]
  rw [Nat.add_mul, Nat.mul_add, Nat.mul_add, Nat.mul_right_comm (x / 4294967296) 4294967296 (y / 4294967296 * 4294967296), ← Nat.mul_assoc (x / 4294967296) (y / 4294967296), Nat.mul_right_comm (x / 4294967296) 4294967296 (y % 4294967296), ← Nat.mul_assoc (x % 4294967296)]
  generalize x / 4294967296 * (y / 4294967296) = A
  generalize x / 4294967296 * (y % 4294967296) = B
  generalize x % 4294967296 * (y / 4294967296) = C
  generalize x % 4294967296 * (y % 4294967296) = D
  omega
theorem half_mul {a b : Nat} (ha : a < 4294967296) (hb : b < 4294967296) : a * b ≤ 18446744065119617025 := by
  have : a * b ≤ 4294967295 * 4294967295 := Nat.mul_le_mul (by omega) (by omega)
  omega

/-- one bit more -/
theorem bit_next (N hi lo m : Nat) (hN : N = hi * 18446744073709551616 + lo) (hm : m < 64) : N / 2 ^ m = 2 * (N / 2 ^ (m + 1)) + lo / 2 ^ m % 2 := by
  have e1 : N / 2 ^ (m + 1) = N / 2 ^ m / 2 := by rw [Nat.pow_succ, Nat.div_div_eq_div_mul]
  have e2 : N / 2 ^ m = lo / 2 ^ m + hi * 2 ^ (63 - m) * 2 := by
    have e3 : N = lo + hi * 2 ^ (63 - m) * 2 * 2 ^ m := by
      have : 2 ^ (63 - m) * (2 * 2 ^ m) = 18446744073709551616 := by
        rw [← Nat.pow_succ', ← Nat.pow_add, show 63 - m + (m + 1) = 64 by omega]
      rw [hN, Nat.mul_assoc (hi * _), Nat.mul_assoc hi, this, Nat.add_comm]
    rw [e3, Nat.add_mul_div_right _ _ (Nat.two_pow_pos m)]
  rw [e1, e2]
  generalize lo / 2 ^ m = A
  generalize hi * 2 ^ (63 - m) = B
  omega
theorem div_step (q r c b : Nat) (hr : r < c) (hb : b < 2) (M : Nat) (h1 : M / c = q) (h2 : M % c = r) :
    (c ≤ 2 * r + b → (2 * M + b) / c = 2 * q + 1 ∧ (2 * M + b) % c = 2 * r + b - c) ∧ (2 * r + b < c → (2 * M + b) / c = 2 * q ∧ (2 * M + b) % c = 2 * r + b) := by
  have h := Nat.div_add_mod M c
  rw [h1, h2] at h
  constructor
  · intro hc
    have e : 2 * M + b = (2 * r + b - c) + c * (2 * q + 1) := by
      rw [Nat.mul_add, Nat.mul_left_comm]
      generalize c * q = Z at h ⊢
      omega
    rw [e]
    exact ⟨by rw [Nat.add_mul_div_left _ _ (by omega), Nat.div_eq_of_lt (by omega), Nat.zero_add], by rw [Nat.add_mul_mod_self_left, Nat.mod_eq_of_lt (by omega)]⟩
  · intro hc
    have e : 2 * M + b = (2 * r + b) + c * (2 * q) := by
      rw [Nat.mul_left_comm]
      generalize c * q = Z at h ⊢
      omega
    rw [e]
    exact ⟨by rw [Nat.add_mul_div_left _ _ (by omega), Nat.div_eq_of_lt (by omega), Nat.zero_add], by rw [Nat.add_mul_mod_self_left, Nat.mod_eq_of_lt (by omega)]⟩
theorem div_small (N c m : Nat) (hN : N < c * 18446744073709551616) : N / 2 ^ (m + 1) / c < 9223372036854775808 := by
  have hc : 0 < c := by omega
  refine (Nat.div_lt_iff_lt_mul hc).2 ?_
  have : N / 2 ^ (m + 1) ≤ N / 2 := Nat.div_le_div_left (by rw [Nat.pow_succ]; have := Nat.two_pow_pos m; omega) (by omega)
  omega
end Go.Proofs.YtlhpbfjelgmkeaaGreat
