/- Or of two numbers that share no bit is their sum; masks and shifts. Conditions: none. -/
import Derived.Test.YtlhpbfjelgmkeaaGreatBits
set_option maxRecDepth 100000
namespace Go.Proofs.YtlhpbfjelgmkeaaGreat

theorem or_add_u64 (i : Nat) (c a b : Int) (hc : c = 2 ^ i) (ha : 0 ≤ a) (hm : a % c = 0) (hb : 0 ≤ b) (hb2 : b < c) (hs : a + b < 18446744073709551616) : bits .or .u64 a b = a + b := by
  obtain ⟨m, rfl⟩ : ∃ m : Nat, a = (m : Int) := ⟨a.toNat, by omega⟩
  obtain ⟨n, rfl⟩ : ∃ n : Nat, b = (n : Int) := ⟨b.toNat, by omega⟩
  rw [or_u64 m n (by omega) (by omega)]
  have e : c = ((2 ^ i : Nat) : Int) := by rw [hc]; simp
  rw [e] at hm hb2
  have hm' : m % 2 ^ i = 0 := by omega
  have hn : n < 2 ^ i := by omega
  have := Nat.two_pow_add_eq_or_of_lt hn (m / 2 ^ i)
  have hd : 2 ^ i * (m / 2 ^ i) = m := Nat.mul_div_cancel' (Nat.dvd_of_mod_eq_zero hm')
  rw [hd] at this
  omega
theorem mask_u64 (i : Nat) (c d x : Int) (hi : i ≤ 64) (hc : c = 2 ^ i) (hd : d = c - 1) (h0 : 0 ≤ x) (h1 : x < 18446744073709551616) : bits .and .u64 x d = x % c := by
  have := bits_mask .u64 64 (Nat.le_refl _) wu64 i hi x h0 (by omega)
  rw [hd, hc, this]
end Go.Proofs.YtlhpbfjelgmkeaaGreat
