/- The number that its digits begin with is read back. Conditions: none. -/
import Derived.Test.YtlhpbfjelgmkeaaGreatCodecGet
set_option maxRecDepth 100000
namespace Go.Proofs.YtlhpbfjelgmkeaaGreat

theorem get_dig (r : List UInt8) (x : Nat) : ∀ (i U : Nat), i < 10 → x * 2 ^ (7 * i) < 18446744073709551616 → (0 < i → 0 < x) → getAt (dig x ++ r) i U = (U + x * 2 ^ (7 * i), i + (dig x).length) := by
  induction x using Nat.strongRecOn with
  | _ x ih =>
    intro i U hi hb h0
    have hp : 0 < 2 ^ (7 * i) := Nat.two_pow_pos _
    by_cases h : x < 128
    · rw [dig_lo h]
      have e : (UInt8.ofNat x).toNat = x := by simp; omega
      have h9 : ¬ (i = 9 ∧ 1 < (UInt8.ofNat x).toNat) := by
        rw [e]
        rintro ⟨rfl, h1⟩
        have := Nat.mul_le_mul_right (2 ^ (7 * 9)) (show 2 ≤ x by omega)
        omega
      rw [List.singleton_append, get_last _ _ _ _ hi (by rw [e]; omega) h9 (by rw [e]; exact h), e]
      rfl
    · have hi8 : i ≤ 8 := by
        rcases Nat.lt_or_ge i 9 with g | g
        · omega
        · obtain rfl : i = 9 := by omega
          have := Nat.mul_le_mul_right (2 ^ (7 * 9)) (show 128 ≤ x by omega)
          omega
      rw [dig_hi h, List.cons_append, get_more _ _ _ _ hi (by simp; omega)]
      have e : (UInt8.ofNat (x % 128 + 128)).toNat - 128 = x % 128 := by simp; omega
      have hpow : 2 ^ (7 * (i + 1)) = 128 * 2 ^ (7 * i) := by rw [show 7 * (i + 1) = 7 + 7 * i by omega, Nat.pow_add]
      have hsplit : x % 128 * 2 ^ (7 * i) + x / 128 * 2 ^ (7 * (i + 1)) = x * 2 ^ (7 * i) := by
        rw [hpow, ← Nat.mul_assoc, ← Nat.add_mul]
        congr 1
        omega
      rw [ih (x / 128) (by omega) (i + 1) _ (by omega) (by omega) (by omega), e]
      rw [Nat.add_assoc U, hsplit]
      simp
      omega
theorem get_dig0 (r : List UInt8) {u : Nat} (hu : u < 18446744073709551616) : getN (dig u ++ r) = (u, (dig u).length) := by
  unfold getN
  rw [get_dig r u 0 0 (by omega) (by simpa using hu) (by omega)]
  simp
theorem dig_pos (u : Nat) : 0 < (dig u).length := by
  by_cases h : u < 128
  · rw [dig_lo h]; simp
  · rw [dig_hi h]; simp
end Go.Proofs.YtlhpbfjelgmkeaaGreat
