/- Digits of base 16, plain: a word's sixteen, its last few, and their value. Conditions: none. -/
import Ieee.Arith
set_option maxRecDepth 100000
namespace Go.Proofs.YtbijpjoljljlpaaGreatDoor

/-- a digit -/
def hexd (n : Nat) : UInt8 := if n < 10 then UInt8.ofNat (48 + n) else UInt8.ofNat (87 + n)
/-- the last k digits, highest first -/
def hexN : Nat → Nat → List UInt8
  | 0, _ => []
  | k + 1, u => hexd (u / 16 ^ k % 16) :: hexN k u
theorem hexN_len (k u : Nat) : (hexN k u).length = k := by
  induction k with
  | zero => rfl
  | succ k ih => simp [hexN, ih]
theorem hexN_zero (u : Nat) : hexN 0 u = [] := rfl
theorem hexN_succ (k u : Nat) : hexN (k + 1) u = hexd (u / 16 ^ k % 16) :: hexN k u := rfl
theorem hexN_at (k u j : Nat) (hj : j < k) : (hexN k u)[j]? = some (hexd (u / 16 ^ (k - 1 - j) % 16)) := by
  induction k generalizing j with
  | zero => omega
  | succ k ih =>
    rw [hexN_succ]
    cases j with
    | zero => rfl
    | succ j =>
      rw [List.getElem?_cons_succ, ih j (by omega), show k + 1 - 1 - (j + 1) = k - 1 - j by omega]
/-- digits ahead of a number that is small are 0 -/
theorem hexN_pad (u n : Nat) (d : Nat) (h : u < 16 ^ n) : hexN (n + d) u = List.replicate d 48 ++ hexN n u := by
  induction d with
  | zero => rfl
  | succ d ih =>
    have h2 : u / 16 ^ (n + d) = 0 := Nat.div_eq_of_lt (Nat.lt_of_lt_of_le h (Nat.pow_le_pow_right (by decide) (by omega)))
    rw [← Nat.add_assoc, hexN_succ, h2, ih]
    rfl
theorem hexd_inj : ∀ a < 16, ∀ b < 16, hexd a = hexd b → a = b := by decide
/-- the value of a digit, 99 of none -/
def hexV (c : UInt8) : Nat := if 48 ≤ c.toNat ∧ c.toNat ≤ 57 then c.toNat - 48 else if 97 ≤ c.toNat ∧ c.toNat ≤ 102 then c.toNat - 87 else 99
theorem hexV_d : ∀ a < 16, hexV (hexd a) = a := by decide
theorem hexd_V (c : UInt8) (h : hexV c ≠ 99) : hexV c < 16 ∧ hexd (hexV c) = c := by
  have hc : c.toNat < 256 := c.toNat_lt
  unfold hexV at h ⊢
  by_cases h1 : 48 ≤ c.toNat ∧ c.toNat ≤ 57
  · rw [if_pos h1] at h ⊢
    refine ⟨by omega, ?_⟩
    unfold hexd
    rw [if_pos (by omega), show 48 + (c.toNat - 48) = c.toNat by omega]
    exact UInt8.ofNat_toNat
  · rw [if_neg h1] at h ⊢
    by_cases h2 : 97 ≤ c.toNat ∧ c.toNat ≤ 102
    · rw [if_pos h2] at h ⊢
      refine ⟨by omega, ?_⟩
      unfold hexd
      rw [if_neg (by omega), show 87 + (c.toNat - 87) = c.toNat by omega]
      exact UInt8.ofNat_toNat
    · rw [if_neg h2] at h; exact absurd rfl h
/-- a word's text without the beginning tells the word -/
theorem hexN_inj (k : Nat) (u v : Nat) (hu : u < 16 ^ k) (hv : v < 16 ^ k) (h : hexN k u = hexN k v) : u = v := by
  induction k generalizing u v with
  | zero => rw [Nat.pow_zero] at hu hv; omega
  | succ k ih =>
    have hp := Nat.pow_pos (n := k) (show 0 < 16 by decide)
    rw [hexN_succ, hexN_succ] at h
    obtain ⟨h1, h2⟩ := List.cons.inj h
    rw [Nat.pow_succ] at hu hv
    have a1 : u / 16 ^ k < 16 := Nat.div_lt_of_lt_mul hu
    have a2 : v / 16 ^ k < 16 := Nat.div_lt_of_lt_mul hv
    rw [Nat.mod_eq_of_lt a1, Nat.mod_eq_of_lt a2] at h1
    have h3 := hexd_inj _ a1 _ a2 h1
    have mods : ∀ n x, hexN n x = hexN n (x % 16 ^ n) := by
      intro n
      have gen : ∀ m ≤ n, ∀ x, hexN m x = hexN m (x % 16 ^ n) := by
        intro m
        induction m with
        | zero => intro _ x; rfl
        | succ m ihm =>
          intro hm x
          rw [hexN_succ, hexN_succ, ihm (by omega) x]
          congr 2
          obtain ⟨e, rfl⟩ : ∃ e, n = m + 1 + e := ⟨n - (m + 1), by omega⟩
          rw [show 16 ^ (m + 1 + e) = 16 ^ m * (16 * 16 ^ e) by rw [Nat.pow_add, Nat.pow_succ, Nat.mul_assoc], Nat.mod_mul_right_div_self, Nat.mod_mul_right_mod]
      exact fun x => gen n (Nat.le_refl _) x
    rw [mods k u, mods k v] at h2
    have h4 := ih (u % 16 ^ k) (v % 16 ^ k) (Nat.mod_lt _ hp) (Nat.mod_lt _ hp) h2
    have e1 := Nat.div_add_mod u (16 ^ k)
    have e2 := Nat.div_add_mod v (16 ^ k)
    rw [← e1, ← e2, h3, h4]
end Go.Proofs.YtbijpjoljljlpaaGreatDoor
