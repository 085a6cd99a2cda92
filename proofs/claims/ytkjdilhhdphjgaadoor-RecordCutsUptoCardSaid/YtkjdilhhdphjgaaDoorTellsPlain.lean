/- Plain mathematics of frames: where their parts lie, and that a sum tells a byte that was changed. Conditions: none. -/
import Derived.Test.YtkjdilhhdphjgaaDoorReadFrame
set_option maxRecDepth 100000
namespace Go.Proofs.YtkjdilhhdphjgaaDoor
open Go.RowKit Go.Maps Go.Sort

theorem quad_top : ∀ i < 16, ∀ j < 16, quad i / 268435456 = quad j / 268435456 → i = j := by decide +kernel
theorem xor_top (a q : Nat) (ha : a < 268435456) : (a ^^^ q) / 268435456 = q / 268435456 := by
  have h := Nat.shiftRight_xor_distrib (a := a) (b := q) (i := 28)
  rw [Nat.shiftRight_eq_div_pow, Nat.shiftRight_eq_div_pow, Nat.shiftRight_eq_div_pow, show (2 : Nat) ^ 28 = 268435456 from rfl, Nat.div_eq_of_lt ha, Nat.zero_xor] at h
  exact h
theorem xor_cancel {a b q : Nat} (h : a ^^^ q = b ^^^ q) : a = b := by
  have := congrArg (· ^^^ q) h
  simpa [Nat.xor_assoc] using this
theorem sumStep_inj {s t : Nat} (hs : s < 4294967296) (ht : t < 4294967296) (h : sumStep s = sumStep t) : s = t := by
  unfold sumStep at h
  have h1 := xor_top (s / 16) (quad (s % 16)) (by omega)
  have h2 := xor_top (t / 16) (quad (t % 16)) (by omega)
  rw [h, h2] at h1
  have h3 := quad_top _ (Nat.mod_lt _ (by omega)) _ (Nat.mod_lt _ (by omega)) h1
  rw [h3] at h
  have h4 := xor_cancel h
  omega
theorem xor_lt32 {s c : Nat} (hs : s < 4294967296) (hc : c < 256) : s ^^^ c < 4294967296 := Nat.xor_lt_two_pow (n := 32) (by omega) (by omega)
theorem sumByte_state {s t : Nat} {c d : UInt8} (hs : s < 4294967296) (ht : t < 4294967296) (h : sumByte s c = sumByte t d) : s ^^^ c.toNat = t ^^^ d.toNat := by
  have hc := c.toNat_lt
  have hd := d.toNat_lt
  unfold sumByte at h
  have h1 := xor_lt32 hs hc
  have h2 := xor_lt32 ht hd
  exact sumStep_inj h1 h2 (sumStep_inj (sumStep_lt _ h1) (sumStep_lt _ h2) h)
theorem fold_inj (l : List UInt8) : ∀ s t, s < 4294967296 → t < 4294967296 → l.foldl sumByte s = l.foldl sumByte t → s = t := by
  induction l with
  | nil => exact fun s t _ _ h => h
  | cons c r ih =>
    intro s t hs ht h
    have := ih _ _ (sumByte_lt s c hs) (sumByte_lt t c ht) h
    exact xor_cancel (sumByte_state hs ht this)
theorem sum_set (l : List UInt8) (j : Nat) (h : j < l.length) (c : UInt8) (hc : c ≠ l[j]) : sumN (l.set j c) ≠ sumN l := by
  intro e
  have b1 := fold_lt (l.set j c) 4294967295 (by omega)
  have b2 := fold_lt l 4294967295 (by omega)
  have e2 : (l.set j c).foldl sumByte 4294967295 = l.foldl sumByte 4294967295 := by unfold sumN at e; omega
  have hl : l = l.take j ++ l[j] :: l.drop (j + 1) := by simp
  have hs : l.set j c = l.take j ++ c :: l.drop (j + 1) := by rw [List.set_eq_take_append_cons_drop, if_pos h]
  rw [hs] at e2
  have e3 : (l.take j ++ c :: l.drop (j + 1)).foldl sumByte 4294967295 = (l.take j ++ l[j] :: l.drop (j + 1)).foldl sumByte 4294967295 := by rw [e2, ← hl]
  rw [List.foldl_append, List.foldl_append, List.foldl_cons, List.foldl_cons] at e3
  have hb := fold_lt (l.take j) 4294967295 (by omega)
  have e4 := fold_inj _ _ _ (sumByte_lt _ _ hb) (sumByte_lt _ _ hb) e3
  have e5 := sumByte_state hb hb e4
  rw [Nat.xor_comm, Nat.xor_comm _ (l[j].toNat)] at e5
  exact hc (UInt8.toNat_inj.1 (xor_cancel e5))

theorem frame_parts (b ext : List UInt8) (hb : b.length ≤ 262144) :
    numB ((frameL b ++ ext).take 4) = b.length ∧ (frameL b ++ ext).take (b.length + 4) = bytesN 4 b.length ++ b ∧
    numB (((frameL b ++ ext).drop (b.length + 4)).take 4) = sumN (bytesN 4 b.length ++ b) ∧ ((frameL b ++ ext).drop 4).take b.length = b := by
  have h4 := bytesN_len 4 b.length
  have h8 := bytesN_len 4 (sumN (bytesN 4 b.length ++ b))
  have hn : numB (bytesN 4 b.length) = b.length := numB_bytes 4 _ (by omega)
  have hs : numB (bytesN 4 (sumN (bytesN 4 b.length ++ b))) = sumN (bytesN 4 b.length ++ b) := numB_bytes 4 _ (by unfold sumN; omega)
  have hlen : (bytesN 4 b.length ++ b).length = b.length + 4 := by rw [List.length_append, h4]; omega
  unfold frameL
  generalize bytesN 4 (sumN (bytesN 4 b.length ++ b)) = tl at *
  refine ⟨?_, ?_, ?_, ?_⟩
  · rw [List.append_assoc, List.append_assoc, List.take_left' h4, hn]
  · rw [List.append_assoc, List.take_left' hlen]
  · rw [List.append_assoc, List.drop_left' hlen, List.take_left' h8, hs]
  · rw [List.append_assoc, List.append_assoc, List.drop_left' h4, List.take_left' rfl]
/-- a byte of the content that was changed -/
theorem frame_turned (b : List UInt8) (hb : b.length ≤ 262144) (j : Nat) (hj : j < b.length) (c : UInt8) (hc : c ≠ b[j]) :
    numB (((frameL b).set (4 + j) c).take 4) = b.length ∧
    numB ((((frameL b).set (4 + j) c).drop (b.length + 4)).take 4) ≠ sumN (((frameL b).set (4 + j) c).take (b.length + 4)) := by
  obtain ⟨p1, p2, p3, _⟩ := frame_parts b [] hb
  rw [List.append_nil] at p1 p2 p3
  have hlen := bytesN_len 4 b.length
  refine ⟨?_, ?_⟩
  · rw [List.take_set_of_le (by omega), p1]
  · rw [List.drop_set_of_lt (by omega), p3, List.take_set, p2]
    refine Ne.symm (sum_set _ _ (by rw [List.length_append, hlen]; omega) c ?_)
    rw [List.getElem_append_right (by omega)]
    simpa [hlen] using hc
theorem frame_get (b : List UInt8) (j : Nat) (hj : j < b.length) : (frameL b)[4 + j]'(by rw [frameL_len]; omega) = b[j] := by
  have hlen := bytesN_len 4 b.length
  unfold frameL
  rw [List.getElem_append_left (by rw [List.length_append, hlen]; omega), List.getElem_append_right (by omega)]
  simp [hlen]
end Go.Proofs.YtkjdilhhdphjgaaDoor
