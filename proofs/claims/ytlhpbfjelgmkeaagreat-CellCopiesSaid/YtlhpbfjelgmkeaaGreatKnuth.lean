/- Plain mathematics: a number of two words divided by a word, half a word at a time. Conditions: as each says. -/
import Derived.KernelRfl
set_option maxRecDepth 100000
namespace Go.Proofs.YtlhpbfjelgmkeaaGreat

theorem kn_split (y : Nat) : y = y / 4294967296 * 4294967296 + y % 4294967296 := by omega
theorem kn_first {u y : Nat} (hy : 9223372036854775808 ≤ y) (hu : u < y) (hy2 : y < 18446744073709551616) :
    u / (y / 4294967296) ≤ 4294967297 ∧ u % (y / 4294967296) < 4294967296 ∧ u / (y / 4294967296) * (y / 4294967296) + u % (y / 4294967296) = u := by
  have h1 : 2147483648 ≤ y / 4294967296 := by omega
  have h2 : y / 4294967296 < 4294967296 := by omega
  have h3 := Nat.div_add_mod u (y / 4294967296)
  have h4 := Nat.mod_lt u (show y / 4294967296 > 0 by omega)
  rw [Nat.mul_comm] at h3
  refine ⟨?_, by omega, h3⟩
  have h5 : u < (4294967297 + 1) * (y / 4294967296) := by omega
  have := (Nat.div_lt_iff_lt_mul (show 0 < y / 4294967296 by omega)).2 h5
  omega
theorem kn_ge {u v y : Nat} (hy : 9223372036854775808 ≤ y) (hv : v < 4294967296) : (u * 4294967296 + v) / y ≤ u / (y / 4294967296) := by
  have h1 : 0 < y / 4294967296 := by omega
  rw [Nat.le_div_iff_mul_le h1]
  have h2 := Nat.div_mul_le_self (u * 4294967296 + v) y
  generalize (u * 4294967296 + v) / y = Q at h2 ⊢
  have h3 : Q * (y / 4294967296 * 4294967296) ≤ Q * y := Nat.mul_le_mul_left _ (by omega)
  rw [← Nat.mul_assoc] at h3
  generalize Q * (y / 4294967296) = X at h3 ⊢
  omega
theorem kn_dec {u v y q r : Nat} (hu : u < y) (hv : v < 4294967296) (hq : q * (y / 4294967296) + r = u) (h : 4294967296 ≤ q ∨ 4294967296 * r + v < q * (y % 4294967296)) : (u * 4294967296 + v) / y < q := by
  rcases h with h | h
  · have h5 : u * 4294967296 + v < 4294967296 * y := by omega
    have := (Nat.div_lt_iff_lt_mul (show 0 < y by omega)).2 h5
    omega
  · have e : q * y = q * (y / 4294967296) * 4294967296 + q * (y % 4294967296) := by
      conv => lhs; rw [kn_split y]
      rw [Nat.mul_add, ← Nat.mul_assoc]
    refine (Nat.div_lt_iff_lt_mul (show 0 < y by omega)).2 ?_
    rw [e]
    generalize q * (y / 4294967296) = X at hq ⊢
    generalize q * (y % 4294967296) = Z at h ⊢
    omega
theorem kn_le {u v y q r : Nat} (hy : 0 < y) (hq : q * (y / 4294967296) + r = u) (h : q * (y % 4294967296) ≤ 4294967296 * r + v) : q ≤ (u * 4294967296 + v) / y := by
  have e : q * y = q * (y / 4294967296) * 4294967296 + q * (y % 4294967296) := by
    conv => lhs; rw [kn_split y]
    rw [Nat.mul_add, ← Nat.mul_assoc]
  rw [Nat.le_div_iff_mul_le hy, e]
  generalize q * (y / 4294967296) = X at hq ⊢
  generalize q * (y % 4294967296) = Z at h ⊢
  omega
theorem kn_brk {u v y q r : Nat} (hy : 0 < y) (hq : q * (y / 4294967296) + r = u) (h : q ≤ 4294967296) (hr : 4294967296 ≤ r) : q ≤ (u * 4294967296 + v) / y := by
  refine kn_le hy hq ?_
  have : q * (y % 4294967296) ≤ 4294967296 * 4294967296 := Nat.mul_le_mul h (by omega)
  omega
theorem kn_next {u y q r : Nat} (hq : q * (y / 4294967296) + r = u) (h0 : 0 < q) : (q - 1) * (y / 4294967296) + (r + y / 4294967296) = u := by
  obtain ⟨p, rfl⟩ : ∃ p, q = p + 1 := ⟨q - 1, by omega⟩
  rw [Nat.succ_mul] at hq
  rw [Nat.add_sub_cancel]
  omega
theorem kn_lt {u v y : Nat} (hu : u < y) (hv : v < 4294967296) : (u * 4294967296 + v) / y < 4294967296 :=
  (Nat.div_lt_iff_lt_mul (show 0 < y by omega)).2 (by omega)
/-- both halves -/
theorem quo_gen (U c w y : Nat) (hy : 0 < y) : (U * c + w) / y = U / y * c + (U % y * c + w) / y := by
  have h := Nat.div_add_mod U y
  have e : U * c + w = (U % y * c + w) + U / y * c * y := by
    conv => lhs; rw [← h]
    rw [Nat.add_mul, Nat.mul_right_comm (U / y) c y, Nat.mul_comm (U / y) y]
    omega
  rw [e, Nat.add_mul_div_right _ _ hy, Nat.add_comm]
theorem rem_gen (U c w y : Nat) : (U * c + w) % y = (U % y * c + w) % y := by
  rw [Nat.add_mod (U * c), Nat.mul_mod U c, Nat.add_mod (U % y * c), Nat.mul_mod (U % y) c, Nat.mod_mod]
theorem kn_quo (u v w y : Nat) (hy : 0 < y) : ((u * 4294967296 + v) * 4294967296 + w) / y = (u * 4294967296 + v) / y * 4294967296 + ((u * 4294967296 + v) % y * 4294967296 + w) / y := quo_gen _ _ _ _ hy
theorem kn_rem (u v w y : Nat) : ((u * 4294967296 + v) * 4294967296 + w) % y = ((u * 4294967296 + v) % y * 4294967296 + w) % y := rem_gen _ _ _ _
/-- the shift of both words -/
theorem kn_shift (hi lo s : Nat) (hs : s ≤ 64) : (hi * 2 ^ s + lo / 2 ^ (64 - s)) * 18446744073709551616 + lo * 2 ^ s % 18446744073709551616 = (hi * 18446744073709551616 + lo) * 2 ^ s := by
  have h1 : (18446744073709551616 : Nat) = 2 ^ (64 - s) * 2 ^ s := by rw [← Nat.pow_add, show 64 - s + s = 64 by omega]
  have h2 : lo * 2 ^ s / 18446744073709551616 = lo / 2 ^ (64 - s) := by
    conv => lhs; rw [h1]
    exact Nat.mul_div_mul_right _ _ (Nat.two_pow_pos s)
  have h3 := Nat.div_add_mod (lo * 2 ^ s) 18446744073709551616
  rw [h2] at h3
  have h4 : (hi * 18446744073709551616 + lo) * 2 ^ s = hi * 2 ^ s * 18446744073709551616 + lo * 2 ^ s := by
    rw [Nat.add_mul, Nat.mul_right_comm]
  rw [h4]
  generalize hi * 2 ^ s = A
  generalize lo / 2 ^ (64 - s) = C at h3 ⊢
  generalize lo * 2 ^ s = D at h3 ⊢
  omega
theorem kn_shift_lt (lo s : Nat) (hs : s ≤ 64) (hl : lo < 18446744073709551616) : lo / 2 ^ (64 - s) < 2 ^ s := by
  refine (Nat.div_lt_iff_lt_mul (Nat.two_pow_pos _)).2 ?_
  rw [← Nat.pow_add, show s + (64 - s) = 64 by omega]; exact hl
/-- what is left, modulo 2^64 -/
theorem kn_left (u v y : Nat) (hy : y < 18446744073709551616) (h0 : 0 < y) : ∃ X : Nat, (u * 4294967296 + v) / y * y = X ∧ X ≤ u * 4294967296 + v ∧ u * 4294967296 + v - X = (u * 4294967296 + v) % y ∧ u * 4294967296 + v - X < 18446744073709551616 := by
  have h1 := Nat.div_add_mod (u * 4294967296 + v) y
  have h2 := Nat.mod_lt (u * 4294967296 + v) h0
  rw [Nat.mul_comm] at h1
  exact ⟨_, rfl, Nat.div_mul_le_self _ _, by omega, by omega⟩
end Go.Proofs.YtlhpbfjelgmkeaaGreat
