/- Plain mathematics of packed numbers: the bytes of a great number, and what one more piece does to them. Conditions: none. -/
import Derived.Test.YtbijpjoljljlpaaCodecSteps
import Derived.Test.YtbijpjoljljlpaaBits
set_option maxRecDepth 100000
namespace Go.Proofs.Ytbijpjoljljlpaa

/-- the lowest m bytes of N, the lowest first -/
def bytesN (m N : Nat) : List UInt8 := (List.range m).map fun j => UInt8.ofNat (N / 256 ^ j)
theorem bytesN_len (m N : Nat) : (bytesN m N).length = m := by simp [bytesN]
theorem bytesN_at (m N j : Nat) (h : j < m) : (bytesN m N)[j]'(by rw [bytesN_len]; exact h) = UInt8.ofNat (N / 256 ^ j) := by simp [bytesN]
theorem bytesN_zero (m : Nat) : bytesN m 0 = List.replicate m 0 := by
  apply List.ext_getElem
  · simp [bytesN]
  · intro j h1 h2; simp [bytesN]
theorem pow256 (j : Nat) : 256 ^ j = 2 ^ (8 * j) := by rw [show (256 : Nat) = 2 ^ 8 from rfl, ← Nat.pow_mul]
theorem ofNat_mod (a b : Nat) (h : a % 256 = b % 256) : UInt8.ofNat a = UInt8.ofNat b := by
  apply UInt8.toNat_inj.1; simp; exact h

theorem low_lt (N at' : Nat) (hN : N < 2 ^ at') : N / 256 ^ (at' / 8) < 2 ^ (at' % 8) := by
  rw [pow256, Nat.div_lt_iff_lt_mul (Nat.two_pow_pos _), ← Nat.pow_add]
  rwa [show at' % 8 + 8 * (at' / 8) = at' by omega]

theorem bytes_or (m N at' c : Nat) (hN : N < 2 ^ at') (hc : c < 2 ^ (8 - at' % 8)) :
    (bytesN m N).set (at' / 8) (UInt8.ofNat (N / 256 ^ (at' / 8) + c * 2 ^ (at' % 8))) = bytesN m (N + c * 2 ^ at') := by
  apply List.ext_getElem
  · simp [bytesN]
  · intro j h1 h2
    have hj : j < m := by simpa [bytesN] using h2
    rw [List.getElem_set]
    by_cases h : at' / 8 = j
    · rw [if_pos h]
      subst h
      rw [bytesN_at _ _ _ hj]
      congr 1
      rw [pow256]
      have e : c * 2 ^ at' = (c * 2 ^ (at' % 8)) * 2 ^ (8 * (at' / 8)) := by
        rw [Nat.mul_assoc, ← Nat.pow_add, show at' % 8 + 8 * (at' / 8) = at' by omega]
      rw [e, Nat.add_mul_div_right _ _ (Nat.two_pow_pos _)]
    · rw [if_neg h, bytesN_at _ _ _ hj, bytesN_at _ _ _ hj]
      by_cases hlt : j < at' / 8
      · apply ofNat_mod
        rw [pow256]
        have e : c * 2 ^ at' = (c * 2 ^ (at' - 8 * j - 8) * 256) * 2 ^ (8 * j) := by
          rw [Nat.mul_assoc, Nat.mul_assoc, show (256 : Nat) = 2 ^ 8 from rfl, ← Nat.pow_add, ← Nat.pow_add, show at' - 8 * j - 8 + (8 + 8 * j) = at' by omega]
        rw [e, Nat.add_mul_div_right _ _ (Nat.two_pow_pos _)]
        omega
      · have hp : at' + (8 - at' % 8) ≤ 8 * j := by omega
        have h3 : N + c * 2 ^ at' < 2 ^ (8 * j) := by
          have h4 : (c + 1) * 2 ^ at' ≤ 2 ^ (8 - at' % 8) * 2 ^ at' := Nat.mul_le_mul_right _ hc
          rw [← Nat.pow_add, Nat.add_mul, Nat.one_mul] at h4
          have h5 : 2 ^ (8 - at' % 8 + at') ≤ 2 ^ (8 * j) := Nat.pow_le_pow_right (by omega) (by omega)
          omega
        rw [pow256, Nat.div_eq_of_lt h3, Nat.div_eq_of_lt (by omega)]

/-- numbers of w bits each, one behind the other -/
def bigN (w : Nat) : List Nat → Nat
  | [] => 0
  | u :: r => u + 2 ^ w * bigN w r
theorem bigN_snoc (w : Nat) (l : List Nat) (u : Nat) : bigN w (l ++ [u]) = bigN w l + u * 2 ^ (w * l.length) := by
  induction l with
  | nil => simp [bigN]
  | cons x r ih =>
    rw [List.cons_append, bigN, ih, bigN, List.length_cons, Nat.mul_succ, Nat.pow_add, Nat.mul_add]
    rw [Nat.add_assoc]
    congr 2
    rw [Nat.mul_comm (2 ^ w), Nat.mul_assoc]
theorem bigN_lt (w : Nat) (l : List Nat) (h : ∀ u ∈ l, u < 2 ^ w) : bigN w l < 2 ^ (w * l.length) := by
  induction l with
  | nil => simp [bigN]
  | cons x r ih =>
    rw [bigN, List.length_cons, Nat.mul_succ, Nat.pow_add, Nat.mul_comm (2 ^ (w * r.length))]
    have h1 := h x List.mem_cons_self
    have h2 := ih (fun u hu => h u (List.mem_cons_of_mem _ hu))
    have h3 : 2 ^ w * (bigN w r + 1) ≤ 2 ^ w * 2 ^ (w * r.length) := Nat.mul_le_mul_left _ h2
    rw [Nat.mul_add, Nat.mul_one] at h3
    omega

theorem steps_get (f w : Nat) : ∀ (k d0 d at' : Nat), (stepsL f w d0)[k]? = some (d, at') → at' = f + d ∧ d < w ∧ (stepsL f w d0)[k + 1]? = (if d + (8 - (f + d) % 8) < w then some (d + (8 - (f + d) % 8), f + (d + (8 - (f + d) % 8))) else none) := by
  intro k
  induction k with
  | zero =>
    intro d0 d at' h
    by_cases hd : d0 < w
    · rw [steps_in hd] at h ⊢
      simp at h
      obtain ⟨rfl, rfl⟩ := h
      refine ⟨rfl, hd, ?_⟩
      simp only [Nat.zero_add, List.getElem?_cons_succ]
      split
      · rename_i h2; rw [steps_in h2]; rfl
      · rename_i h2; rw [steps_out h2]; rfl
    · rw [steps_out hd] at h; cases h
  | succ k ih =>
    intro d0 d at' h
    by_cases hd : d0 < w
    · rw [steps_in hd] at h ⊢
      simp only [List.getElem?_cons_succ] at h ⊢
      exact ih _ _ _ h
    · rw [steps_out hd] at h; cases h

/-- how many bits are done ahead of step k -/
def doneAt (f w k : Nat) : Nat := (((stepsL f w 0)[k]?).map (·.1)).getD 64
theorem doneAt_zero (f w u : Nat) (hu : u < 2 ^ w) : u % 2 ^ (doneAt f w 0) = 0 ∨ (w = 0 ∧ u = 0) := by
  unfold doneAt
  by_cases h : 0 < w
  · rw [steps_in h]; exact .inl (by simp; omega)
  · exact .inr ⟨by omega, by rw [show w = 0 by omega] at hu; simpa using hu⟩
theorem doneAt_end (f w k : Nat) (h : (stepsL f w 0).length ≤ k) : doneAt f w k = 64 := by
  unfold doneAt; rw [List.getElem?_eq_none h]; rfl
theorem doneAt_step (f w u k d at' : Nat) (hw : w ≤ 64) (hu : u < 2 ^ w) (h : (stepsL f w 0)[k]? = some (d, at')) : doneAt f w k = d ∧ at' = f + d ∧ d < w ∧ u % 2 ^ (doneAt f w (k + 1)) = u % 2 ^ (d + (8 - at' % 8)) := by
  obtain ⟨rfl, h2, h3⟩ := steps_get f w k 0 d at' h
  refine ⟨by unfold doneAt; rw [h]; rfl, rfl, h2, ?_⟩
  unfold doneAt
  rw [h3]
  split
  · rfl
  · rename_i hge
    have h1 : u < 2 ^ (d + (8 - (f + d) % 8)) := Nat.lt_of_lt_of_le hu (Nat.pow_le_pow_right (by omega) (by omega))
    have h2 : u < 2 ^ 64 := Nat.lt_of_lt_of_le hu (Nat.pow_le_pow_right (by omega) hw)
    simp only [Option.map_none, Option.getD_none]
    rw [Nat.mod_eq_of_lt h1, Nat.mod_eq_of_lt h2]

theorem mod_split (u d e : Nat) : u % 2 ^ (d + e) = u % 2 ^ d + (u / 2 ^ d % 2 ^ e) * 2 ^ d := by
  rw [Nat.pow_add, Nat.mod_mul, Nat.mul_comm (2 ^ d)]

/-- one step: what is there, the byte that is stored, and what is there then -/
theorem pack_step (m P f u d : Nat) (hP : P < 2 ^ f) (old : Nat) (hold : old = (P + u % 2 ^ d * 2 ^ f) / 256 ^ ((f + d) / 8)) :
    old < 2 ^ ((f + d) % 8) ∧ (bytesN m (P + u % 2 ^ d * 2 ^ f)).set ((f + d) / 8) (UInt8.ofNat (old + (u / 2 ^ d % 2 ^ (8 - (f + d) % 8)) * 2 ^ ((f + d) % 8))) = bytesN m (P + u % 2 ^ (d + (8 - (f + d) % 8)) * 2 ^ f) := by
  have hN : P + u % 2 ^ d * 2 ^ f < 2 ^ (f + d) := by
    have h1 : u % 2 ^ d < 2 ^ d := Nat.mod_lt _ (Nat.two_pow_pos _)
    have h2 : (u % 2 ^ d + 1) * 2 ^ f ≤ 2 ^ d * 2 ^ f := Nat.mul_le_mul_right _ h1
    rw [Nat.add_mul, Nat.one_mul, ← Nat.pow_add, Nat.add_comm d f] at h2
    omega
  refine ⟨by rw [hold]; exact low_lt _ _ hN, ?_⟩
  rw [hold, bytes_or m _ _ _ hN (Nat.mod_lt _ (Nat.two_pow_pos _)), mod_split u d, Nat.add_mul, Nat.mul_assoc, ← Nat.pow_add, Nat.add_comm d f, Nat.add_assoc]
/-- the byte that a step stores -/
theorem pack_or (x old r : Nat) (hr : r < 8) (hold : old < 2 ^ r) : IntKind.u8.wrap (((x % 256 : Nat) : Int) * 2 ^ r) = ((x % 2 ^ (8 - r) * 2 ^ r : Nat) : Int) ∧
    bits .or .u8 (old : Int) ((x % 2 ^ (8 - r) * 2 ^ r : Nat) : Int) = ((UInt8.ofNat (old + x % 2 ^ (8 - r) * 2 ^ r)).toNat : Int) := by
  have h8 : 2 ^ (8 - r) * 2 ^ r = 256 := by rw [← Nat.pow_add, show 8 - r + r = 8 by omega]
  have h1 : x % 2 ^ (8 - r) * 2 ^ r = x * 2 ^ r % 256 := by rw [← h8, Nat.mul_mod_mul_right]
  have h2 : x % 2 ^ (8 - r) * 2 ^ r + 2 ^ r ≤ 256 := by
    have := Nat.mul_le_mul_right (2 ^ r) (show x % 2 ^ (8 - r) + 1 ≤ 2 ^ (8 - r) from Nat.mod_lt _ (Nat.two_pow_pos _))
    rw [h8, Nat.add_mul, Nat.one_mul] at this
    exact this
  constructor
  · have e : x % 256 * 2 ^ r % 256 = x % 2 ^ (8 - r) * 2 ^ r := by rw [h1, Nat.mod_mul_mod]
    have : ((x % 256 : Nat) : Int) * 2 ^ r = ((x % 256 * 2 ^ r : Nat) : Int) := by simp
    rw [IntKind.wrap_u8, this, ← e]
    omega
  · have hp := Nat.two_pow_pos r
    rw [or_u8 _ _ (by omega) (by omega)]
    have e : old ||| x % 2 ^ (8 - r) * 2 ^ r = old + x % 2 ^ (8 - r) * 2 ^ r := by
      rw [Nat.or_comm, Nat.mul_comm, ← Nat.two_pow_add_eq_or_of_lt hold, Nat.add_comm]
    rw [e]
    generalize x % 2 ^ (8 - r) * 2 ^ r = z at *
    simp
    omega
end Go.Proofs.Ytbijpjoljljlpaa
