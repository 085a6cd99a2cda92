/- Plain mathematics of packed numbers, read: the number that bytes are, and its pieces. Conditions: none. -/
import Derived.Test.YtbijpjoljljlpaaPackPlain
set_option maxRecDepth 100000
namespace Go.Proofs.Ytbijpjoljljlpaa

/-- the number whose bytes these are, the lowest first -/
def numB : List UInt8 → Nat
  | [] => 0
  | c :: r => c.toNat + 256 * numB r
theorem numB_lt (l : List UInt8) : numB l < 256 ^ l.length := by
  induction l with
  | nil => simp [numB]
  | cons c r ih =>
    have := c.toNat_lt
    rw [numB, List.length_cons, Nat.pow_succ]
    omega
theorem numB_at (l : List UInt8) : ∀ (j : Nat) (h : j < l.length), l[j].toNat = numB l / 256 ^ j % 256 := by
  induction l with
  | nil => intro j h; cases h
  | cons c r ih =>
    intro j h
    have hc := c.toNat_lt
    cases j with
    | zero => simp [numB]
    | succ j =>
      rw [List.getElem_cons_succ, ih j (by simpa using h), numB, Nat.pow_succ, Nat.mul_comm (256 ^ j), ← Nat.div_div_eq_div_mul]
      congr 2
      omega
theorem numB_bytes (m N : Nat) (h : N < 256 ^ m) : numB (bytesN m N) = N := by
  have key : ∀ (m N : Nat), N < 256 ^ m → numB (bytesN m N) = N := by
    intro m
    induction m with
    | zero => intro N h; simp at h; subst h; rfl
    | succ m ih =>
      intro N h
      have e : bytesN (m + 1) N = UInt8.ofNat N :: bytesN m (N / 256) := by
        apply List.ext_getElem
        · simp [bytesN]
        · intro j h1 h2
          have hj : j < m + 1 := by simpa [bytesN] using h1
          rw [bytesN_at _ _ _ hj]
          cases j with
          | zero => simp
          | succ j =>
            rw [List.getElem_cons_succ, bytesN_at _ _ _ (by omega), Nat.pow_succ, Nat.mul_comm (256 ^ j), ← Nat.div_div_eq_div_mul]
      rw [e, numB, ih (N / 256) (by rw [Nat.div_lt_iff_lt_mul (by omega)]; rwa [Nat.pow_succ] at h)]
      simp
      omega
  exact key m N h

/-- the piece of 8 - at % 8 bits from bit at on -/
theorem piece_eq (N at' : Nat) : N / 256 ^ (at' / 8) % 256 / 2 ^ (at' % 8) = N / 2 ^ at' % 2 ^ (8 - at' % 8) := by
  have h1 : (256 : Nat) = 2 ^ (at' % 8) * 2 ^ (8 - at' % 8) := by rw [← Nat.pow_add, show at' % 8 + (8 - at' % 8) = 8 by omega]
  have h2 : N / 2 ^ at' = N / 256 ^ (at' / 8) / 2 ^ (at' % 8) := by
    rw [pow256, Nat.div_div_eq_div_mul, ← Nat.pow_add, show 8 * (at' / 8) + at' % 8 = at' by omega]
  rw [h2]
  generalize N / 256 ^ (at' / 8) = x
  conv => lhs; rw [h1]
  rw [Nat.mod_mul_right_div_self]

/-- one step of reading a number: bits d on -/
theorem unpack_step (N f d : Nat) (hd : d < 64) :
    (N / 2 ^ f % 2 ^ d % 2 ^ 64) ||| (N / 2 ^ (f + d) % 2 ^ (8 - (f + d) % 8) * 2 ^ d % 2 ^ 64) = N / 2 ^ f % 2 ^ (d + (8 - (f + d) % 8)) % 2 ^ 64 := by
  have h1 : N / 2 ^ f % 2 ^ d < 2 ^ d := Nat.mod_lt _ (Nat.two_pow_pos _)
  have h2 : 2 ^ d ≤ 2 ^ 63 := Nat.pow_le_pow_right (by omega) (by omega)
  rw [Nat.mod_eq_of_lt (show N / 2 ^ f % 2 ^ d < 2 ^ 64 by omega)]
  have h3 : N / 2 ^ (f + d) = N / 2 ^ f / 2 ^ d := by rw [Nat.pow_add, Nat.div_div_eq_div_mul]
  rw [mod_split, h3]
  generalize hy : N / 2 ^ f / 2 ^ d % 2 ^ (8 - (f + d) % 8) = y
  generalize hx : N / 2 ^ f % 2 ^ d = x at *
  have h4 : y * 2 ^ d % 2 ^ 64 = (y % 2 ^ (64 - d)) * 2 ^ d := by
    have e : (2 : Nat) ^ 64 = 2 ^ (64 - d) * 2 ^ d := by rw [← Nat.pow_add, show 64 - d + d = 64 by omega]
    rw [e, Nat.mul_mod_mul_right]
  have h5 : (x + y * 2 ^ d) % 2 ^ 64 = x + (y % 2 ^ (64 - d)) * 2 ^ d := by
    rw [← h4]
    have h6 : y * 2 ^ d % 2 ^ 64 + 2 ^ d ≤ 2 ^ 64 := by
      have e : (2 : Nat) ^ 64 = 2 ^ (64 - d) * 2 ^ d := by rw [← Nat.pow_add, show 64 - d + d = 64 by omega]
      rw [h4]
      have := Nat.mul_le_mul_right (2 ^ d) (show y % 2 ^ (64 - d) + 1 ≤ 2 ^ (64 - d) from Nat.mod_lt _ (Nat.two_pow_pos _))
      rw [← e, Nat.add_mul, Nat.one_mul] at this
      exact this
    omega
  rw [h4, h5, Nat.or_comm, Nat.mul_comm, ← Nat.two_pow_add_eq_or_of_lt h1, Nat.add_comm, Nat.mul_comm]
end Go.Proofs.Ytbijpjoljljlpaa
