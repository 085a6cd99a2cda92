/- Contract of codec.Unframe at any bytes: the content of the frame that they begin with, or an error. Conditions: the table of Sum; at most 1000000 bytes. -/
import Derived.Test.YtkjdilhhdphjgaaDoorUnframe
import Derived.Test.YtkjdilhhdphjgaaDoorTellsPlain
set_option maxRecDepth 100000
namespace Go.Proofs.YtkjdilhhdphjgaaDoor
open Go.RowKit Go.Maps Go.Sort

/-- the content of the frame that bytes begin with -/
def unfL (l : List UInt8) : Option (List UInt8) :=
  if l.length < 4 then none else if 262144 < numB (l.take 4) then none else if l.length < numB (l.take 4) + 8 then none
  else if numB ((l.drop (numB (l.take 4) + 4)).take 4) = sumN (l.take (numB (l.take 4) + 4)) then some ((l.drop 4).take (numB (l.take 4))) else none
theorem unf_len {l b : List UInt8} (h : unfL l = some b) : b.length ≤ 262144 ∧ b.length + 8 ≤ l.length := by
  unfold unfL at h
  split at h
  · cases h
  · split at h
    · cases h
    · split at h
      · cases h
      · split at h
        · simp only [Option.some.injEq] at h
          subst h
          simp only [List.length_take, List.length_drop]
          omega
        · cases h
set_option maxHeartbeats 800000 in
theorem read_far {w : World} {a : Option Addr} {n cap : Nat} {l : List UInt8} (h : Holds w (.slice a n cap) (u8s l)) (hn : n = l.length) (h4 : 4 ≤ n) (hm : n ≤ 1000000) (hc : 262144 < numB (l.take 4)) :
    Calls Tryd.prog 31 #[.slice a n cap] w fun e w' => e = .panicked (errP 6) ∧ Below w.heap.size w w' := by
  have HW := Lib.hid (word_any h hn h4 hm)
  obtain ⟨c, hc'⟩ : ∃ c, c = numB (l.take 4) := ⟨_, rfl⟩
  rw [← hc'] at hc HW
  have t1 : decide ((n : Int) < 4) = false := decide_eq_false (by omega)
  have t2 : decide ((262144 : Int) < (c : Int)) = true := decide_eq_true (by omega)
  clear h hn hc' h4
  go_enter Tryd.func31, Tryd.ntmps31
  go_wp2_with fail
  refine HW.out.mono ?_
  rintro e w1 ⟨rfl, rfl⟩
  go_wp2_with fail
  simp [bodyPost, errP]
  exact Below.refl _ _
/-- what Unframe answers at any bytes -/
def UnfP (w : World) (l : List UInt8) (e : Ending) (w' : World) : Prop :=
  Below w.heap.size w w' ∧ ((∃ b v, unfL l = some b ∧ e = .returned (.tuple #[v, .int .i64 ((b.length : Int) + 8), .int .i64 0]) ∧ w'.ownsRow w.heap.size 5 1 v b.length (u8s b)) ∨
    (∃ c : Int, unfL l = none ∧ c ≠ 0 ∧ e = .returned (.tuple #[.slice none 0 0, .int .i64 0, .int .i64 c])))
theorem unframe_any {w : World} (hq : Quads w) {a : Option Addr} {n cap : Nat} {l : List UInt8} (h : Holds w (.slice a n cap) (u8s l)) (hm : l.length ≤ 1000000) :
    Calls Tryd.prog 25 #[.slice a n cap] w (UnfP w l) := by
  have hn : n = l.length := by have := h.len.1; rw [u8s_len] at this; exact this.symm
  have no : ∀ c : Int, c ≠ 0 → unfL l = none → (∀ W, Below w.heap.size w W → Calls Tryd.prog 31 #[.slice a n cap] W fun e w' => e = .panicked (errP c) ∧ Below W.heap.size W w') →
      Calls Tryd.prog 25 #[.slice a n cap] w (UnfP w l) := fun c hc hu hk =>
    (Unframe_panic c hc hk).mono fun e w' ⟨h1, h2⟩ => ⟨h2, .inr ⟨c, hu, hc, h1⟩⟩
  by_cases h4 : l.length < 4
  · exact no 10 (by omega) (by unfold unfL; rw [if_pos h4]) fun W _ => read_short a n cap (by omega)
  by_cases hc : 262144 < numB (l.take 4)
  · exact no 6 (by omega) (by unfold unfL; rw [if_neg h4, if_pos hc]) fun W hW => read_far (h.below hW) hn (by omega) (by omega) hc
  by_cases hl : l.length < numB (l.take 4) + 8
  · exact no 10 (by omega) (by unfold unfL; rw [if_neg h4, if_neg hc, if_pos hl]) fun W hW => read_cut (h.below hW) hn (by omega) (by omega) (by omega) (by omega)
  by_cases hs : numB ((l.drop (numB (l.take 4) + 4)).take 4) = sumN (l.take (numB (l.take 4) + 4))
  · have hu : unfL l = some ((l.drop 4).take (numB (l.take 4))) := by unfold unfL; rw [if_neg h4, if_neg hc, if_neg hl, if_pos hs]
    have hk : ((l.drop 4).take (numB (l.take 4))).length = numB (l.take 4) := by rw [List.length_take, List.length_drop]; omega
    refine (Unframe_val (k := numB (l.take 4)) (xs := u8s ((l.drop 4).take (numB (l.take 4)))) (fun W hW => ?_) (by omega)).mono ?_
    · exact read_good (hq.below hW hq.1) (h.below hW) hn (by omega) (by omega) (by omega) hs
    · rintro e w' ⟨v, rfl, hv⟩
      refine ⟨hv.out.2, .inl ⟨_, v, hu, by rw [hk], ?_⟩⟩
      rw [hk]
      exact hv.out.1
  · exact no 8 (by omega) (by unfold unfL; rw [if_neg h4, if_neg hc, if_neg hl, if_neg hs]) fun W hW => read_sum (hq.below hW hq.1) (h.below hW) hn (by omega) (by omega) (by omega) hs
/-- a frame, and what is behind it -/
theorem unf_frame {b ext : List UInt8} (hb : b.length ≤ 262144) : unfL (frameL b ++ ext) = some b := by
  have hl := frameL_len b
  have hla : (frameL b ++ ext).length = b.length + 8 + ext.length := by rw [List.length_append, hl]
  obtain ⟨p1, p2, p3, p4⟩ := frame_parts b ext hb
  unfold unfL
  rw [if_neg (by omega), p1, if_neg (by omega), if_neg (by omega), p2, p3, if_pos rfl, p4]
/-- a beginning of a frame is none -/
theorem unf_cut {b : List UInt8} (hb : b.length ≤ 262144) {m : Nat} (hm : m < b.length + 8) : unfL ((frameL b).take m) = none := by
  have hl := frameL_len b
  obtain ⟨p1, _⟩ := frame_parts b [] hb
  rw [List.append_nil] at p1
  unfold unfL
  by_cases h4 : ((frameL b).take m).length < 4
  · rw [if_pos h4]
  · rw [List.length_take] at h4
    have e : ((frameL b).take m).take 4 = (frameL b).take 4 := by rw [List.take_take, Nat.min_eq_left (by omega)]
    rw [if_neg (by rw [List.length_take]; omega), e, p1, if_neg (by omega), if_pos (by rw [List.length_take]; omega)]
end Go.Proofs.YtkjdilhhdphjgaaDoor
