/- On a reference disk without files, Sync, Remove, Write and Rename of talusref01 answer an error, and nothing that was there changes. Conditions: an empty reference disk. -/
import Derived.Test.YtddhhgbbeeeieaaVfsRefE
set_option maxRecDepth 100000
namespace Go.Proofs.Ytddhhgbbeeeieaa
open Go.RowKit Go.Maps Go.Sort

theorem mayE_true (L : List (List UInt8)) : (mayE (readyE true L) true == 0) = false ∧ (mayE (readyE true L) true != 0) = true := by
  unfold mayE readyE
  cases L.all goodL <;> simp

theorem one_cells {w : World} {s : ByteArray} {b : Nat} (h : w.heap[b]? = some (.cells #[.string s] 9 (0, 0))) : ∀ i, i < [s].length → w.cell? ⟨b, i, none⟩ = some (.string ([s].getD i ⟨#[]⟩)) := fun i hi => by
  have : i = 0 := by simp at hi; omega
  subst this
  rw [cell_of_row _ _ _ _ _ _ h]; rfl

theorem two_cells {w : World} {s t : ByteArray} {b : Nat} (h : w.heap[b]? = some (.cells #[.string s, .string t] 9 (0, 0))) : ∀ i, i < [s, t].length → w.cell? ⟨b, i, none⟩ = some (.string ([s, t].getD i ⟨#[]⟩)) := fun i hi => by
  have hi2 : i = 0 ∨ i = 1 := by simp at hi; omega
  rcases hi2 with rfl | rfl <;> (rw [cell_of_row _ _ _ _ _ _ h]; rfl)

set_option maxHeartbeats 800000 in
theorem refSync_empty {w : World} {q : Nat} (h : RefE w q) (s : ByteArray) (hs : s.size ≤ maxLen) :
    Calls Try.prog 33 #[.pointer (some ⟨q, 0, none⟩), .string s] w fun e w' => (∃ r, e = .returned (.int .i64 r)) ∧ Below w.heap.size w w' := by
  have hb := (Below.refl w.heap.size w).alloc (Nat.le_refl _) (.cells #[.string s] 9)
  have ha := alloc1 w (.cells #[.string s] 9)
  have H := Lib.hid (h.below hb)
  have HB := Lib.hid hb
  have HA := Lib.hid ha
  have HS := Lib.hid hs
  clear h hb ha hs
  go_enter Try.func33, Try.ntmps33
  go_wp2_with fail
  refine (refMay_empty H.out _ _ _ [s] true rfl (one_cells HA.out) (fun x hx => by simp at hx; subst hx; exact HS.out) (by simp) (by simp)).mono ?_
  rintro e w1 ⟨rfl, hw⟩
  obtain ⟨r0, r1⟩ := mayE_true ([s].map fun s => s.data.toList)
  generalize mayE _ true = r at *
  have HB1 : Hid (Below w.heap.size w w1) := Lib.hid (hw ▸ HB.out)
  clear hw
  go_wp2_with fail
  go_ret
  exact ⟨⟨_, rfl⟩, HB1.out⟩

set_option maxHeartbeats 800000 in
theorem refRemove_empty {w : World} {q : Nat} (h : RefE w q) (s : ByteArray) (hs : s.size ≤ maxLen) :
    Calls Try.prog 35 #[.pointer (some ⟨q, 0, none⟩), .string s] w fun e w' => (∃ r, e = .returned (.int .i64 r)) ∧ Below w.heap.size w w' := by
  have hb := (Below.refl w.heap.size w).alloc (Nat.le_refl _) (.cells #[.string s] 9)
  have ha := alloc1 w (.cells #[.string s] 9)
  have H := Lib.hid (h.below hb)
  have HB := Lib.hid hb
  have HA := Lib.hid ha
  have HS := Lib.hid hs
  clear h hb ha hs
  go_enter Try.func35, Try.ntmps35
  go_wp2_with fail
  refine (refMay_empty H.out _ _ _ [s] true rfl (one_cells HA.out) (fun x hx => by simp at hx; subst hx; exact HS.out) (by simp) (by simp)).mono ?_
  rintro e w1 ⟨rfl, hw⟩
  obtain ⟨r0, r1⟩ := mayE_true ([s].map fun s => s.data.toList)
  generalize mayE _ true = r at *
  have HB1 : Hid (Below w.heap.size w w1) := Lib.hid (hw ▸ HB.out)
  clear hw
  go_wp2_with fail
  go_ret
  exact ⟨⟨_, rfl⟩, HB1.out⟩

set_option maxHeartbeats 800000 in
theorem refWrite_empty {w : World} {q : Nat} (h : RefE w q) (s : ByteArray) (hs : s.size ≤ maxLen) (a : Option Addr) (n c : Nat) :
    Calls Try.prog 31 #[.pointer (some ⟨q, 0, none⟩), .string s, .slice a n c] w fun e w' => (∃ r, e = .returned (.int .i64 r)) ∧ Below w.heap.size w w' := by
  have hb := (Below.refl w.heap.size w).alloc (Nat.le_refl _) (.cells #[.string s] 9)
  have ha := alloc1 w (.cells #[.string s] 9)
  have H := Lib.hid (h.below hb)
  have HB := Lib.hid hb
  have HA := Lib.hid ha
  have HS := Lib.hid hs
  clear h hb ha hs
  go_enter Try.func31, Try.ntmps31
  go_wp2_with fail
  refine (refMay_empty H.out _ _ _ [s] true rfl (one_cells HA.out) (fun x hx => by simp at hx; subst hx; exact HS.out) (by simp) (by simp)).mono ?_
  rintro e w1 ⟨rfl, hw⟩
  obtain ⟨r0, r1⟩ := mayE_true ([s].map fun s => s.data.toList)
  generalize mayE _ true = r at *
  have HB1 : Hid (Below w.heap.size w w1) := Lib.hid (hw ▸ HB.out)
  clear hw
  go_wp2_with fail
  go_ret
  exact ⟨⟨_, rfl⟩, HB1.out⟩

set_option maxHeartbeats 800000 in
theorem refRename_empty {w : World} {q : Nat} (h : RefE w q) (s t : ByteArray) (hs : s.size ≤ maxLen) (ht : t.size ≤ maxLen) :
    Calls Try.prog 34 #[.pointer (some ⟨q, 0, none⟩), .string s, .string t] w fun e w' => (∃ r, e = .returned (.int .i64 r)) ∧ Below w.heap.size w w' := by
  have hb := (Below.refl w.heap.size w).alloc (Nat.le_refl _) (.cells #[.string s, .string t] 9)
  have ha := alloc1 w (.cells #[.string s, .string t] 9)
  have H := Lib.hid (h.below hb)
  have HB := Lib.hid hb
  have HA := Lib.hid ha
  have HS := Lib.hid hs
  have HT := Lib.hid ht
  clear h hb ha hs ht
  go_enter Try.func34, Try.ntmps34
  go_wp2_with fail
  refine (refMay_empty H.out _ _ _ [s, t] true rfl (two_cells HA.out) (fun x hx => by
    simp at hx
    rcases hx with rfl | rfl
    · exact HS.out
    · exact HT.out) (by simp) (by simp)).mono ?_
  rintro e w1 ⟨rfl, hw⟩
  obtain ⟨r0, r1⟩ := mayE_true ([s, t].map fun s => s.data.toList)
  generalize mayE _ true = r at *
  have HB1 : Hid (Below w.heap.size w w1) := Lib.hid (hw ▸ HB.out)
  clear hw
  go_wp2_with fail
  go_ret
  exact ⟨⟨_, rfl⟩, HB1.out⟩
end Go.Proofs.Ytddhhgbbeeeieaa
