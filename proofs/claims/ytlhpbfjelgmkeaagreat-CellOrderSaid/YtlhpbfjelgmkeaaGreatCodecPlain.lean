/- Plain mathematics of package codec: the digits of a number to base 128, and the number that bytes begin with. Conditions: none. -/
import Derived.Test.YtlhpbfjelgmkeaaGreatGen
set_option maxRecDepth 100000
namespace Go.Proofs.YtlhpbfjelgmkeaaGreat

/-- the digits of a number to base 128 -/
def dig (u : Nat) : List UInt8 := if h : u < 128 then [UInt8.ofNat u] else UInt8.ofNat (u % 128 + 128) :: dig (u / 128)
termination_by u
decreasing_by omega
theorem dig_lo {u : Nat} (h : u < 128) : dig u = [UInt8.ofNat u] := by rw [dig, dif_pos h]
theorem dig_hi {u : Nat} (h : ¬ u < 128) : dig u = UInt8.ofNat (u % 128 + 128) :: dig (u / 128) := by rw [dig, dif_neg h]
theorem dig_len (k : Nat) : ∀ u : Nat, u < 128 ^ k → (dig u).length ≤ k ∨ k = 0 := by
  induction k with
  | zero => intro u _; exact .inr rfl
  | succ k ih =>
    intro u hu
    by_cases h : u < 128
    · rw [dig_lo h]; exact .inl (by simp)
    · rw [dig_hi h]
      refine .inl ?_
      have h2 : u / 128 < 128 ^ k := by
        rw [Nat.div_lt_iff_lt_mul (by omega)]; rw [Nat.pow_succ] at hu; exact hu
      rcases ih _ h2 with h3 | rfl
      · simp; exact h3
      · simp at hu; omega
theorem dig_len10 {u : Nat} (hu : u < 18446744073709551616) : (dig u).length ≤ 10 := by
  rcases dig_len 10 u (by omega) with h | h
  · exact h
  · omega
theorem dig300 : dig 300 = [172, 2] := by
  rw [dig_hi (by omega), dig_lo (by omega)]; decide
end Go.Proofs.YtlhpbfjelgmkeaaGreat
