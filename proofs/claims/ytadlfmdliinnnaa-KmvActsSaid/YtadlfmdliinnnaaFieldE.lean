/- Contracts of the reference's Times and Divide. Conditions: none (each a uint64). -/
import Derived.Test.YtadlfmdliinnnaaDiv64
set_option maxRecDepth 100000
namespace Go.Proofs.Ytadlfmdliinnnaa
open Go.RowKit

theorem times_split (x y : Nat) : x * y = (x / 4294967296) * (y / 4294967296) * 18446744073709551616 + ((x / 4294967296) * (y % 4294967296) + (x % 4294967296) * (y / 4294967296)) * 4294967296 + (x % 4294967296) * (y % 4294967296) := by
  conv => lhs; rw [kn_split x, kn_split y]
  rw [Nat.add_mul, Nat.mul_add, Nat.mul_add, Nat.mul_right_comm (x / 4294967296) 4294967296 (y / 4294967296 * 4294967296), ← Nat.mul_assoc (x / 4294967296) (y / 4294967296), Nat.mul_right_comm (x / 4294967296) 4294967296 (y % 4294967296), ← Nat.mul_assoc (x % 4294967296)]
  generalize x / 4294967296 * (y / 4294967296) = A
  generalize x / 4294967296 * (y % 4294967296) = B
  generalize x % 4294967296 * (y / 4294967296) = C
  generalize x % 4294967296 * (y % 4294967296) = D
  omega
theorem half_mul {a b : Nat} (ha : a < 4294967296) (hb : b < 4294967296) : a * b ≤ 18446744065119617025 := by
  have : a * b ≤ 4294967295 * 4294967295 := Nat.mul_le_mul (by omega) (by omega)
  omega

set_option maxHeartbeats 1600000 in
theorem times_any (x y : Nat) (w : World) (h1 : x < 18446744073709551616) (h2 : y < 18446744073709551616) : Calls Try.prog 67 #[.int .u64 (x : Int), .int .u64 (y : Int)] w fun e w' => e = .returned (.tuple #[.int .u64 ((x * y / 18446744073709551616 : Nat) : Int), .int .u64 ((x * y % 18446744073709551616 : Nat) : Int)]) ∧ w = w' := by
  have HS := times_split x y
  obtain ⟨ah, h3⟩ : ∃ n : Nat, n = x / 4294967296 := ⟨_, rfl⟩
  obtain ⟨al, h4⟩ : ∃ n : Nat, n = x % 4294967296 := ⟨_, rfl⟩
  obtain ⟨bh, h5⟩ : ∃ n : Nat, n = y / 4294967296 := ⟨_, rfl⟩
  obtain ⟨bl, h6⟩ : ∃ n : Nat, n = y % 4294967296 := ⟨_, rfl⟩
  have e1 : (x : Int) / 4294967296 = (ah : Int) := by omega
  have e3 : (y : Int) / 4294967296 = (bh : Int) := by omega
  have e2 : bits .and .u64 (x : Int) 4294967295 = (al : Int) := by rw [mask_u64 32 4294967296 4294967295 _ (by decide) (by decide) (by decide) (by omega) (by omega)]; omega
  have e4 : bits .and .u64 (y : Int) 4294967295 = (bl : Int) := by rw [mask_u64 32 4294967296 4294967295 _ (by decide) (by decide) (by decide) (by omega) (by omega)]; omega
  have b1 : ah < 4294967296 := by omega
  have b2 : al < 4294967296 := by omega
  have b3 : bh < 4294967296 := by omega
  have b4 : bl < 4294967296 := by omega
  rw [← h3, ← h4, ← h5, ← h6] at HS
  obtain ⟨P0, p0⟩ : ∃ n : Nat, n = al * bl := ⟨_, rfl⟩
  obtain ⟨P1, p1⟩ : ∃ n : Nat, n = ah * bl := ⟨_, rfl⟩
  obtain ⟨P2, p2⟩ : ∃ n : Nat, n = al * bh := ⟨_, rfl⟩
  obtain ⟨P3, p3⟩ : ∃ n : Nat, n = ah * bh := ⟨_, rfl⟩
  have c0 : P0 ≤ 18446744065119617025 := p0 ▸ half_mul b2 b4
  have c1 : P1 ≤ 18446744065119617025 := p1 ▸ half_mul b1 b4
  have c2 : P2 ≤ 18446744065119617025 := p2 ▸ half_mul b2 b3
  have c3 : P3 ≤ 18446744065119617025 := p3 ▸ half_mul b1 b3
  have f0 : (al : Int) * (bl : Int) = (P0 : Int) := by rw [p0]; simp
  have f1 : (ah : Int) * (bl : Int) = (P1 : Int) := by rw [p1]; simp
  have f2 : (al : Int) * (bh : Int) = (P2 : Int) := by rw [p2]; simp
  have f3 : (ah : Int) * (bh : Int) = (P3 : Int) := by rw [p3]; simp
  rw [← p0, ← p1, ← p2, ← p3] at HS
  obtain ⟨m1, q1⟩ : ∃ n : Nat, n = P1 + P0 / 4294967296 := ⟨_, rfl⟩
  obtain ⟨m2, q2⟩ : ∃ n : Nat, n = P2 + m1 % 4294967296 := ⟨_, rfl⟩
  have g1 : (P1 : Int) + (P0 : Int) / 4294967296 = (m1 : Int) := by omega
  have g2 : bits .and .u64 (m1 : Int) 4294967295 = (m1 : Int) % 4294967296 := mask_u64 32 4294967296 4294967295 _ (by decide) (by decide) (by decide) (by omega) (by omega)
  have g3 : (P2 : Int) + (m1 : Int) % 4294967296 = (m2 : Int) := by omega
  have g4 : bits .and .u64 (P0 : Int) 4294967295 = (P0 : Int) % 4294967296 := mask_u64 32 4294967296 4294967295 _ (by decide) (by decide) (by decide) (by omega) (by omega)
  have l1 : m1 < 18446744073709551616 := by omega
  have l2 : m2 < 18446744073709551616 := by omega
  have l3 : P3 + m1 / 4294967296 + m2 / 4294967296 < 18446744073709551616 := by
    have : x * y ≤ 18446744073709551615 * 18446744073709551615 := Nat.mul_le_mul (by omega) (by omega)
    omega
  obtain ⟨S, hS⟩ : ∃ n : Nat, n = m2 * 4294967296 % 18446744073709551616 := ⟨_, rfl⟩
  have g5 : IntKind.u64.wrap ((m2 : Int) * 4294967296) = (S : Int) := by rw [IntKind.wrap_u64]; omega
  have g6 : bits .or .u64 (S : Int) ((P0 : Int) % 4294967296) = (S : Int) + (P0 : Int) % 4294967296 := or_add_u64 32 4294967296 _ _ (by decide) (by omega) (by omega) (by omega) (by omega) (by omega)
  have HA := Lib.hid (show P3 + m1 / 4294967296 + m2 / 4294967296 = x * y / 18446744073709551616 by omega)
  have HB := Lib.hid (show S + P0 % 4294967296 = x * y % 18446744073709551616 by omega)
  clear HS h3 h4 h5 h6 p0 p1 p2 p3 q1 q2 hS
  go_enter Try.func67, Try.ntmps67
  go_wp2_with fail
  go_ret2
  rw [← HA.out, ← HB.out]
  exact ⟨ret_two (by omega) (by omega), rfl⟩

/-- one bit more -/
theorem bit_next (N hi lo m : Nat) (hN : N = hi * 18446744073709551616 + lo) (hm : m < 64) : N / 2 ^ m = 2 * (N / 2 ^ (m + 1)) + lo / 2 ^ m % 2 := by
  have e1 : N / 2 ^ (m + 1) = N / 2 ^ m / 2 := by rw [Nat.pow_succ, Nat.div_div_eq_div_mul]
  have e2 : N / 2 ^ m = lo / 2 ^ m + hi * 2 ^ (63 - m) * 2 := by
    have e3 : N = lo + hi * 2 ^ (63 - m) * 2 * 2 ^ m := by
      have : 2 ^ (63 - m) * (2 * 2 ^ m) = 18446744073709551616 := by
        rw [← Nat.pow_succ', ← Nat.pow_add, show 63 - m + (m + 1) = 64 by omega]
      rw [hN, Nat.mul_assoc (hi * _), Nat.mul_assoc hi, this, Nat.add_comm]
    rw [e3, Nat.add_mul_div_right _ _ (Nat.two_pow_pos m)]
  rw [e1, e2]
  generalize lo / 2 ^ m = A
  generalize hi * 2 ^ (63 - m) = B
  omega
theorem div_step (q r c b : Nat) (hr : r < c) (hb : b < 2) (M : Nat) (h1 : M / c = q) (h2 : M % c = r) :
    (c ≤ 2 * r + b → (2 * M + b) / c = 2 * q + 1 ∧ (2 * M + b) % c = 2 * r + b - c) ∧ (2 * r + b < c → (2 * M + b) / c = 2 * q ∧ (2 * M + b) % c = 2 * r + b) := by
  have h := Nat.div_add_mod M c
  rw [h1, h2] at h
  constructor
  · intro hc
    have e : 2 * M + b = (2 * r + b - c) + c * (2 * q + 1) := by
      rw [Nat.mul_add, Nat.mul_left_comm]
      generalize c * q = Z at h ⊢
      omega
    rw [e]
    exact ⟨by rw [Nat.add_mul_div_left _ _ (by omega), Nat.div_eq_of_lt (by omega), Nat.zero_add], by rw [Nat.add_mul_mod_self_left, Nat.mod_eq_of_lt (by omega)]⟩
  · intro hc
    have e : 2 * M + b = (2 * r + b) + c * (2 * q) := by
      rw [Nat.mul_left_comm]
      generalize c * q = Z at h ⊢
      omega
    rw [e]
    exact ⟨by rw [Nat.add_mul_div_left _ _ (by omega), Nat.div_eq_of_lt (by omega), Nat.zero_add], by rw [Nat.add_mul_mod_self_left, Nat.mod_eq_of_lt (by omega)]⟩
theorem div_small (N c m : Nat) (hN : N < c * 18446744073709551616) : N / 2 ^ (m + 1) / c < 9223372036854775808 := by
  have hc : 0 < c := by omega
  refine (Nat.div_lt_iff_lt_mul hc).2 ?_
  have : N / 2 ^ (m + 1) ≤ N / 2 := Nat.div_le_div_left (by rw [Nat.pow_succ]; have := Nat.two_pow_pos m; omega) (by omega)
  omega
end Go.Proofs.Ytadlfmdliinnnaa
