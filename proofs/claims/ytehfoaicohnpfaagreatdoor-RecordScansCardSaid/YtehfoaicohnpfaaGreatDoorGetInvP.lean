/- What a number that was read begins with: its digits. Conditions: none. -/
import Derived.Test.YtehfoaicohnpfaaGreatDoorGetDig
set_option maxRecDepth 100000
namespace Go.Proofs.YtehfoaicohnpfaaGreatDoor

theorem get_inv : ∀ (l : List UInt8) (i U V a : Nat), i < 10 → getAt l i U = (V, a) → a ≠ 0 → ∃ x, (0 < i → 0 < x) ∧ x * 2 ^ (7 * i) < 18446744073709551616 ∧ (∃ r, l = dig x ++ r) ∧ V = U + x * 2 ^ (7 * i) ∧ a = i + (dig x).length
  | [], i, U, V, a, _, h, ha => by
    rw [get_nil] at h
    exact absurd (Prod.mk.inj h).2.symm ha
  | c :: r, i, U, V, a, hi, h, ha => by
    have hp : 0 < 2 ^ (7 * i) := Nat.two_pow_pos _
    have hc := c.toNat_lt
    by_cases hbad : i = 9 ∧ 1 < c.toNat
    · obtain ⟨rfl, hb⟩ := hbad
      rw [get_bad c r U hb] at h
      exact absurd (Prod.mk.inj h).2.symm ha
    · by_cases h128 : c.toNat < 128
      · by_cases h0 : 0 < i ∧ c.toNat = 0
        · rw [get_zero c r i U h0.1 hi h0.2] at h
          exact absurd (Prod.mk.inj h).2.symm ha
        · rw [get_last c r i U hi h0 hbad h128] at h
          obtain ⟨h1, h2⟩ := Prod.mk.inj h
          have hd : dig c.toNat = [c] := by rw [dig_lo h128]; simp
          refine ⟨c.toNat, fun hi0 => by omega, ?_, ⟨r, by rw [hd]; rfl⟩, h1.symm, by rw [hd]; simp; omega⟩
          by_cases h9 : i = 9
          · subst h9
            have := Nat.mul_le_mul_right (2 ^ (7 * 9)) (show c.toNat ≤ 1 by omega)
            omega
          · have e1 : 2 ^ (7 * i) ≤ 2 ^ 56 := Nat.pow_le_pow_right (by omega) (by omega)
            have := Nat.mul_le_mul (show c.toNat ≤ 127 by omega) e1
            omega
      · rw [get_more c r i U hi h128] at h
        by_cases h9 : i = 9
        · subst h9
          rw [get_ten] at h
          exact absurd (Prod.mk.inj h).2.symm ha
        · obtain ⟨x, x0, xb, ⟨r', xr⟩, xv, xa⟩ := get_inv r (i + 1) _ V a (by omega) h ha
          have x1 := x0 (by omega)
          have hpow : 2 ^ (7 * (i + 1)) = 128 * 2 ^ (7 * i) := by rw [show 7 * (i + 1) = 7 + 7 * i by omega, Nat.pow_add]
          have hq : ¬ (c.toNat - 128 + 128 * x) < 128 := by omega
          have hm : (c.toNat - 128 + 128 * x) % 128 = c.toNat - 128 := by omega
          have hdv : (c.toNat - 128 + 128 * x) / 128 = x := by omega
          have hsum : (c.toNat - 128 + 128 * x) * 2 ^ (7 * i) = (c.toNat - 128) * 2 ^ (7 * i) + x * 2 ^ (7 * (i + 1)) := by
            rw [hpow, Nat.add_mul]
            congr 1
            rw [Nat.mul_comm 128 x, Nat.mul_assoc]
          have hd : dig (c.toNat - 128 + 128 * x) = c :: dig x := by
            rw [dig_hi hq, hm, hdv, show c.toNat - 128 + 128 = c.toNat by omega]
            simp
          refine ⟨c.toNat - 128 + 128 * x, fun _ => by omega, ?_, ⟨r', by rw [hd, xr]; rfl⟩, ?_, ?_⟩
          · rw [hsum]
            -- a multiple of 128 ^ (i + 1) below 2 ^ 64, and less than that power more
            have hk : 2 ^ (7 * (i + 1)) * 2 ^ (64 - 7 * (i + 1)) = 18446744073709551616 := by
              rw [← Nat.pow_add, show 7 * (i + 1) + (64 - 7 * (i + 1)) = 64 by omega]
            have hx : x + 1 ≤ 2 ^ (64 - 7 * (i + 1)) := by
              rcases Nat.lt_or_ge x (2 ^ (64 - 7 * (i + 1))) with g | g
              · exact g
              · have := Nat.mul_le_mul_right (2 ^ (7 * (i + 1))) g
                rw [Nat.mul_comm (2 ^ (64 - 7 * (i + 1)))] at this
                omega
            have h2 := Nat.mul_le_mul_right (2 ^ (7 * (i + 1))) hx
            rw [Nat.mul_comm (2 ^ (64 - 7 * (i + 1))), hk, Nat.add_mul] at h2
            have h3 : (c.toNat - 128) * 2 ^ (7 * i) < 2 ^ (7 * (i + 1)) := by
              rw [hpow]
              exact Nat.mul_lt_mul_of_pos_right (by omega) hp
            omega
          · rw [xv, hsum]; omega
          · rw [xa, hd]; simp; omega
/-- a number that was read: its digits lie there -/
theorem getN_inv {l : List UInt8} (h : (getN l).2 ≠ 0) : (getN l).1 < 18446744073709551616 ∧ l = dig (getN l).1 ++ l.drop (getN l).2 ∧ (getN l).2 = (dig (getN l).1).length := by
  obtain ⟨x, _, xb, ⟨r, xr⟩, xv, xa⟩ := get_inv l 0 0 (getN l).1 (getN l).2 (by omega) rfl h
  have e : (getN l).1 = x := by rw [xv]; simp
  have ea : (getN l).2 = (dig x).length := by rw [xa]; simp
  rw [e, ea]
  refine ⟨by simpa using xb, ?_, rfl⟩
  conv => rhs; rw [xr, List.drop_left]
  exact xr
theorem get_none : ∀ (l : List UInt8) (i U : Nat), (getAt l i U).2 = 0 → (getAt l i U).1 = 0
  | [], i, U, _ => rfl
  | c :: r, i, U, h => by
    unfold getAt at h ⊢
    split at h
    · rename_i g; rw [if_pos g]
    · rename_i g
      rw [if_neg g]
      split at h
      · rename_i g; rw [if_pos g]
      · rename_i g
        rw [if_neg g]
        split at h
        · rename_i g
          rw [if_pos g]
          split at h
          · rename_i g; rw [if_pos g]
          · simp at h
        · rename_i g
          rw [if_neg g]
          exact get_none r _ _ h
theorem getN_le (l : List UInt8) : (getN l).2 ≤ l.length ∧ (getN l).1 < 18446744073709551616 := by
  by_cases h : (getN l).2 = 0
  · refine ⟨by omega, ?_⟩
    have e : (getN l).1 = 0 := get_none l 0 0 h
    omega
  · obtain ⟨a, b, c⟩ := getN_inv h
    have := congrArg List.length b
    rw [List.length_append, List.length_drop] at this
    exact ⟨by omega, a⟩
end Go.Proofs.YtehfoaicohnpfaaGreatDoor
