/- Decimal digits: plain mathematics. Conditions: none. -/
import Derived.Test.YtnljlbdecknbpaaGen
set_option maxRecDepth 100000
namespace Go.Proofs.Ytnljlbdecknbpaa

def digs (m : Nat) : List UInt8 := if m < 10 then [UInt8.ofNat (48 + m)] else digs (m / 10) ++ [UInt8.ofNat (48 + m % 10)]
  termination_by m
  decreasing_by omega
theorem digs_small {m : Nat} (h : m < 10) : digs m = [UInt8.ofNat (48 + m)] := by rw [digs, if_pos h]
theorem digs_big {m : Nat} (h : ¬ m < 10) : digs m = digs (m / 10) ++ [UInt8.ofNat (48 + m % 10)] := by rw [digs, if_neg h]
def valD (l : List UInt8) : Nat := l.foldl (fun a c => a * 10 + (c.toNat - 48)) 0
def isD (c : UInt8) : Prop := 48 ≤ c.toNat ∧ c.toNat ≤ 57
def canD (l : List UInt8) : Prop := l ≠ [] ∧ (∀ c ∈ l, isD c) ∧ (l.head? = some 48 → l = [48])
theorem valD_snoc (l : List UInt8) (c : UInt8) : valD (l ++ [c]) = valD l * 10 + (c.toNat - 48) := by simp [valD]
theorem dig_nat {d : Nat} (h : d < 10) : (UInt8.ofNat (48 + d)).toNat = 48 + d := by simp; omega
theorem dig_isD {d : Nat} (h : d < 10) : isD (UInt8.ofNat (48 + d)) := by unfold isD; rw [dig_nat h]; omega
theorem digs_val (m : Nat) : valD (digs m) = m := by
  induction m using Nat.strongRecOn with
  | ind m ih =>
    by_cases h : m < 10
    · rw [digs_small h]
      show 0 * 10 + ((UInt8.ofNat (48 + m)).toNat - 48) = m
      rw [dig_nat h]; omega
    · rw [digs_big h, valD_snoc, ih (m / 10) (by omega), dig_nat (Nat.mod_lt _ (by decide))]; omega
theorem digs_ne (m : Nat) : digs m ≠ [] := by
  by_cases h : m < 10
  · rw [digs_small h]; simp
  · rw [digs_big h]; simp
theorem digs_isD (m : Nat) : ∀ c ∈ digs m, isD c := by
  induction m using Nat.strongRecOn with
  | ind m ih =>
    intro c hc
    by_cases h : m < 10
    · rw [digs_small h, List.mem_singleton] at hc
      rw [hc]; exact dig_isD h
    · rw [digs_big h, List.mem_append, List.mem_singleton] at hc
      rcases hc with hc | hc
      · exact ih (m / 10) (by omega) c hc
      · rw [hc]; exact dig_isD (Nat.mod_lt _ (by decide))
theorem head_app {α : Type} (a b : List α) (h : a ≠ []) : (a ++ b).head? = a.head? := by
  cases a with
  | nil => exact absurd rfl h
  | cons x a => rfl
theorem digs_head (m : Nat) (h0 : m ≠ 0) : (digs m).head? ≠ some 48 := by
  induction m using Nat.strongRecOn with
  | ind m ih =>
    by_cases h : m < 10
    · rw [digs_small h]
      intro e
      have e1 : UInt8.ofNat (48 + m) = 48 := by simpa using e
      have e2 := congrArg UInt8.toNat e1
      rw [dig_nat h] at e2
      have e3 : (48 : UInt8).toNat = 48 := rfl
      omega
    · rw [digs_big h, head_app _ _ (digs_ne _)]
      exact ih (m / 10) (by omega) (by omega)
theorem digs_can (m : Nat) : canD (digs m) := by
  refine ⟨digs_ne m, digs_isD m, fun h => ?_⟩
  by_cases h0 : m = 0
  · rw [h0, digs_small (by decide)]; rfl
  · exact absurd h (digs_head m h0)
theorem digs_back (l : List UInt8) (h : canD l) : digs (valD l) = l := by
  induction hn : l.length generalizing l with
  | zero => exact absurd (List.length_eq_zero_iff.1 hn) h.1
  | succ n ih =>
    obtain ⟨k, c, rfl⟩ : ∃ k c, l = k ++ [c] := ⟨l.dropLast, l.getLast h.1, (List.dropLast_concat_getLast h.1).symm⟩
    have hc : isD c := h.2.1 c (by simp)
    have hd : c.toNat - 48 < 10 := by have := hc; unfold isD at this; omega
    have hcc : UInt8.ofNat (48 + (c.toNat - 48)) = c := by
      apply UInt8.toNat_inj.1
      rw [dig_nat hd]; have := hc.1; omega
    by_cases hk : k = []
    · subst hk
      rw [List.nil_append]
      show digs (0 * 10 + (c.toNat - 48)) = [c]
      rw [digs_small (by omega), Nat.zero_mul, Nat.zero_add, hcc]
    · have hh : k.head? ≠ some 48 := fun e => by
        have := h.2.2 (by rw [head_app _ _ hk]; exact e)
        have := congrArg List.length this
        simp only [List.length_append, List.length_singleton] at this
        exact hk (List.length_eq_zero_iff.1 (by omega))
      have hi := ih k ⟨hk, fun x hx => h.2.1 x (by simp [hx]), fun e => absurd e hh⟩ (by simp at hn; omega)
      have hv : valD k ≠ 0 := fun e => by
        rw [e, digs_small (by decide)] at hi
        exact hh (by rw [← hi]; rfl)
      rw [valD_snoc, digs_big (by omega), show (valD k * 10 + (c.toNat - 48)) / 10 = valD k by omega, show (valD k * 10 + (c.toNat - 48)) % 10 = c.toNat - 48 by omega, hi, hcc]
theorem digs_len (k : Nat) : ∀ m, m < 10 ^ (k + 1) → (digs m).length ≤ k + 1 := by
  induction k with
  | zero => intro m h; rw [digs_small (by omega)]; simp
  | succ k ih =>
    intro m h
    by_cases h1 : m < 10
    · rw [digs_small h1]; simp
    · rw [digs_big h1, List.length_append]
      have := ih (m / 10) (by rw [Nat.pow_succ] at h; omega)
      simp; omega
/-- what has been cut off -/
theorem digs_cut (m : Nat) (tail : List UInt8) (h : m / 10 ≠ 0) : digs m ++ tail = digs (m / 10) ++ UInt8.ofNat (48 + m % 10) :: tail := by
  rw [digs_big (by omega), List.append_assoc]; rfl
theorem digs_last (m : Nat) (tail : List UInt8) (h : m / 10 = 0) : digs m ++ tail = UInt8.ofNat (48 + m % 10) :: tail := by
  rw [digs_small (by omega), show m % 10 = m by omega]; rfl
def printL (N : Int) : List UInt8 := if N < 0 then 45 :: digs N.natAbs else digs N.natAbs
theorem digs_inj {a b : Nat} (h : digs a = digs b) : a = b := by rw [← digs_val a, h, digs_val]
theorem valD_take_succ (l : List UInt8) (i : Nat) (hi : i < l.length) : valD (l.take (i + 1)) = valD (l.take i) * 10 + (l[i].toNat - 48) := by
  rw [← List.take_append_getElem hi, valD_snoc]
theorem valD_mono (l : List UInt8) (i : Nat) : valD (l.take i) ≤ valD l := by
  have key : ∀ (k : List UInt8) (a : Nat), a ≤ k.foldl (fun a c => a * 10 + (c.toNat - 48)) a := by
    intro k
    induction k with
    | nil => intro a; exact Nat.le_refl _
    | cons c k ih => intro a; exact Nat.le_trans (m := a * 10 + (c.toNat - 48)) (by omega) (ih _)
  conv => rhs; rw [← List.take_append_drop i l]
  unfold valD
  rw [List.foldl_append]
  exact key _ _
end Go.Proofs.Ytnljlbdecknbpaa
