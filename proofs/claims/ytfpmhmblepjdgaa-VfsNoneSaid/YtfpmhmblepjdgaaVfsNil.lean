/- Contracts of vfs on a disk that no call made: nothing happens, and the answer is zero or ErrMade. Conditions: none. -/
import Derived.Test.YtfpmhmblepjdgaaVfsLives
set_option maxRecDepth 100000
namespace Go.Proofs.Ytfpmhmblepjdgaa
open Go.RowKit Go.Maps Go.Sort

/-- a disk that no call made: nil, or a zero value -/
def NoD (w : World) (x : Option Addr) : Prop := x = none ∨ ∃ z : Nat, x = some ⟨z, 0, none⟩ ∧ w.cell? ⟨z, 0, none⟩ = some (.map none)
theorem NoD.below {w w' : World} {x : Option Addr} (h : NoD w x) (hb : Below w.heap.size w w') : NoD w' x := by
  rcases h with h | ⟨z, h, c⟩
  · exact .inl h
  · exact .inr ⟨z, h, by rw [hb.cell (World.block_lt_of_cell? w _ c)]; exact c⟩

theorem made_no {w : World} {x : Option Addr} (h : NoD w x) : Calls Try.prog 50 #[.pointer x] w fun e w' => e = .returned (.bool false) ∧ w = w' := by
  rcases h with rfl | ⟨z, rfl, c⟩
  · exact made_nil w
  · exact made_zero w z c

section
variable {w : World} {x : Option Addr}

set_option maxHeartbeats 400000 in
theorem ready_no (h : NoD w x) (sl : Value) : Calls Try.prog 43 #[.pointer x, sl] w fun e w' => e = .returned (.int .i64 1) ∧ w = w' := by
  have H := Lib.hid h
  clear h
  go_enter Try.func43, Try.ntmps43
  go_wp2_with (go_at_call 50; refine (made_no H.out).mono ?_; rintro e w' ⟨rfl, rfl⟩)
  go_ret
  exact ⟨rfl, rfl⟩

set_option maxHeartbeats 400000 in
theorem find_no (h : NoD w x) (s : ByteArray) : Calls Try.prog 47 #[.pointer x, .string s] w fun e w' => e = .returned (.tuple #[.pointer none, .int .i64 1]) ∧ Below w.heap.size w w' := by
  have hb : Below w.heap.size w (w.alloc (.cells #[.string s] 9)) := (Below.refl _ w).alloc (Nat.le_refl _) _
  have H := Lib.hid (h.below hb)
  have HB := Lib.hid hb
  clear h hb
  go_enter Try.func47, Try.ntmps47
  go_wp2_with fail
  refine (ready_no H.out _).mono ?_
  rintro e w' ⟨rfl, rfl⟩
  go_wp2
  go_ret2
  exact ⟨rfl, HB.out⟩

set_option maxHeartbeats 400000 in
theorem Create_no (h : NoD w x) (s : ByteArray) : Calls Try.prog 15 #[.pointer x, .string s] w fun e w' => e = .returned (.int .i64 1) ∧ Below w.heap.size w w' := by
  have hb : Below w.heap.size w (((w.alloc (.cells #[.pointer x] 23)).alloc (.cells #[.string s] 9)).alloc (.cells #[.string s] 9)) := (((Below.refl _ w).alloc (Nat.le_refl _) _).alloc (by simp) _).alloc (by simp; omega) _
  have ha := alloc3 w (.cells #[.pointer x] 23) (.cells #[.string s] 9) (.cells #[.string s] 9)
  have H := Lib.hid (h.below hb)
  clear h
  go_enter Try.func15, Try.ntmps15
  have HB := Lib.hid hb
  have HA := Lib.hid ha
  clear hb ha
  go_wp2_with fail
  refine (ready_no H.out _).mono ?_
  rintro e w1 ⟨rfl, hw⟩
  have cd : w1.cell? ⟨w.heap.size, 0, none⟩ = some (.pointer x) := by rw [← hw]; exact cell_of_one HA.out.1
  have cn : w1.cell? ⟨w.heap.size + 1, 0, none⟩ = some (.string s) := by rw [← hw]; exact cell_of_one HA.out.2.1
  have hb1 : Hid (Below w.heap.size w w1) := by rw [← hw]; exact HB.out
  clear hw
  go_wp2_with fail
  go_quiet (fail)
  go_wp2_with fail
  refine (operate_err _ _ 1 (by omega) _ _).mono ?_
  rintro e w2 ⟨rfl, hw⟩
  have hb2 : Hid (Below w.heap.size w w2) := by rw [← hw]; exact below_drewN hb1.out _
  clear hw
  go_wp2_with fail
  go_ret
  exact ⟨rfl, hb2.out⟩

set_option maxHeartbeats 400000 in
theorem Sync_no (h : NoD w x) (s : ByteArray) : Calls Try.prog 17 #[.pointer x, .string s] w fun e w' => e = .returned (.int .i64 1) ∧ Below w.heap.size w w' := by
  have H := Lib.hid h
  clear h
  go_enter Try.func17, Try.ntmps17
  go_wp2_with fail
  refine (find_no H.out s).mono ?_
  rintro e w1 ⟨rfl, hb⟩
  have HB := Lib.hid hb
  clear hb
  go_wp2_with fail
  generalize hw2 : World.alloc w1 _ = w2
  have hb2 : Below w1.heap.size w1 w2 := by rw [← hw2]; exact (Below.refl _ w1).alloc (Nat.le_refl _) _
  have HB2 := Lib.hid (HB.out.trans (hb2.mono HB.out.size))
  clear hw2 hb2
  refine (operate_err _ _ 1 (by omega) _ _).mono ?_
  rintro e w3 ⟨rfl, rfl⟩
  go_wp2_with fail
  go_ret
  exact ⟨rfl, HB2.out⟩

set_option maxHeartbeats 400000 in
theorem Write_no (h : NoD w x) (s : ByteArray) (ba : Option Addr) (n c : Nat) : Calls Try.prog 16 #[.pointer x, .string s, .slice ba n c] w fun e w' => e = .returned (.int .i64 1) ∧ Below w.heap.size w w' := by
  have hb : Below w.heap.size w (w.alloc (.cells #[.slice ba n c] 30)) := (Below.refl _ w).alloc (Nat.le_refl _) _
  have HCB := Lib.hid (cell_of_one (alloc1 w (.cells #[.slice ba n c] 30)))
  have H := Lib.hid (h.below hb)
  have HB0 := Lib.hid hb
  clear h hb
  go_enter Try.func16, Try.ntmps16
  go_wp2_with fail
  refine (find_no H.out s).mono ?_
  rintro e w1 ⟨rfl, hb⟩
  have cb : w1.cell? ⟨w.heap.size, 0, none⟩ = some (.slice ba n c) := by rw [hb.cell (World.block_lt_of_cell? _ _ HCB.out)]; exact HCB.out
  have HC := Lib.hid cb
  have HB := Lib.hid (HB0.out.trans (hb.mono HB0.out.size))
  clear hb cb
  go_wp2_with fail
  generalize hw2 : World.alloc w1 _ = w2
  have hb2 : Below w1.heap.size w1 w2 := by rw [← hw2]; exact (Below.refl _ w1).alloc (Nat.le_refl _) _
  have cf : w2.cell? ⟨w1.heap.size, 0, none⟩ = some (.pointer none) := by rw [← hw2]; exact cell_of_one (alloc1 w1 _)
  have cb2 : w2.cell? ⟨w.heap.size, 0, none⟩ = some (.slice ba n c) := by rw [hb2.cell (World.block_lt_of_cell? _ _ HC.out)]; exact HC.out
  have HB2 := Lib.hid (HB.out.trans (hb2.mono HB.out.size))
  clear hw2 hb2
  go_quiet (fail)
  go_wp2_with fail
  refine (operate_err _ _ 1 (by omega) _ _).mono ?_
  rintro e w3 ⟨rfl, hw⟩
  have hb3 : Hid (Below w.heap.size w w3) := by rw [← hw]; exact below_drewN HB2.out _
  clear hw
  go_wp2_with fail
  go_ret
  exact ⟨rfl, hb3.out⟩

set_option maxHeartbeats 400000 in
theorem Rename_no (h : NoD w x) (s t : ByteArray) : Calls Try.prog 23 #[.pointer x, .string s, .string t] w fun e w' => e = .returned (.int .i64 1) ∧ Below w.heap.size w w' := by
  have hb : Below w.heap.size w ((((w.alloc (.cells #[.pointer x] 23)).alloc (.cells #[.string s] 9)).alloc (.cells #[.string t] 9)).alloc (.cells #[.string s, .string t] 9)) := ((((Below.refl _ w).alloc (Nat.le_refl _) _).alloc (by simp) _).alloc (by simp; omega) _).alloc (by simp; omega) _
  have ha := alloc3 w (.cells #[.pointer x] 23) (.cells #[.string s] 9) (.cells #[.string t] 9)
  have hb3 := Below.heap_alloc (((w.alloc (.cells #[.pointer x] 23)).alloc (.cells #[.string s] 9)).alloc (.cells #[.string t] 9)) (.cells #[.string s, .string t] 9)
  have H := Lib.hid (h.below hb)
  clear h
  have HB := Lib.hid hb
  have HA := Lib.hid ha
  have HB3 := Lib.hid hb3
  clear hb ha hb3
  go_enter Try.func23, Try.ntmps23
  go_wp2_with fail
  refine (ready_no H.out _).mono ?_
  rintro e w1 ⟨rfl, hw⟩
  have cd : w1.cell? ⟨w.heap.size, 0, none⟩ = some (.pointer x) := by rw [← hw]; exact cell_of_one ((HB3.out _ (by simp; omega)).trans HA.out.1)
  have cn : w1.cell? ⟨w.heap.size + 1, 0, none⟩ = some (.string s) := by rw [← hw]; exact cell_of_one ((HB3.out _ (by simp)).trans HA.out.2.1)
  have hb1 : Hid (Below w.heap.size w w1) := by rw [← hw]; exact HB.out
  clear hw
  go_wp2_with fail
  go_quiet (fail)
  go_wp2_with fail
  refine (operate_err _ _ 1 (by omega) _ _).mono ?_
  rintro e w2 ⟨rfl, hw⟩
  have hb2 : Hid (Below w.heap.size w w2) := by rw [← hw]; exact below_drewN hb1.out _
  clear hw
  go_wp2_with fail
  go_ret
  exact ⟨rfl, hb2.out⟩

set_option maxHeartbeats 400000 in
theorem Remove_no (h : NoD w x) (s : ByteArray) : Calls Try.prog 26 #[.pointer x, .string s] w fun e w' => e = .returned (.int .i64 1) ∧ Below w.heap.size w w' := by
  have hb : Below w.heap.size w ((w.alloc (.cells #[.pointer x] 23)).alloc (.cells #[.string s] 9)) := ((Below.refl _ w).alloc (Nat.le_refl _) _).alloc (by simp) _
  have ha := alloc2 w (.cells #[.pointer x] 23) (.cells #[.string s] 9)
  have H := Lib.hid (h.below hb)
  have HB0 := Lib.hid hb
  have HA := Lib.hid ha
  clear h hb ha
  go_enter Try.func26, Try.ntmps26
  go_wp2_with fail
  refine (find_no H.out s).mono ?_
  rintro e w1 ⟨rfl, hb⟩
  have cd : w1.cell? ⟨w.heap.size, 0, none⟩ = some (.pointer x) := by rw [hb.cell (World.block_lt_of_cell? _ _ (cell_of_one HA.out.1))]; exact cell_of_one HA.out.1
  have HB := Lib.hid (HB0.out.trans (hb.mono HB0.out.size))
  clear hb
  go_wp2_with fail
  refine (operate_err _ _ 1 (by omega) _ _).mono ?_
  rintro e w3 ⟨rfl, rfl⟩
  go_wp2_with fail
  go_ret
  exact ⟨rfl, HB.out⟩

set_option maxHeartbeats 400000 in
theorem Read_no (h : NoD w x) (s : ByteArray) : Calls Try.prog 21 #[.pointer x, .string s] w fun e w' => e = .returned (.tuple #[.slice none 0 0, .int .i64 1]) ∧ Below w.heap.size w w' := by
  have H := Lib.hid h
  clear h
  go_enter Try.func21, Try.ntmps21
  go_wp2_with fail
  refine (find_no H.out s).mono ?_
  rintro e w1 ⟨rfl, hb⟩
  have HB := Lib.hid hb
  clear hb
  go_wp2
  go_ret2
  exact ⟨rfl, HB.out⟩

set_option maxHeartbeats 400000 in
theorem Pending_no (h : NoD w x) (s : ByteArray) : Calls Try.prog 25 #[.pointer x, .string s] w fun e w' => e = .returned (.tuple #[.int .i64 0, .int .i64 1]) ∧ Below w.heap.size w w' := by
  have H := Lib.hid h
  clear h
  go_enter Try.func25, Try.ntmps25
  go_wp2_with fail
  refine (find_no H.out s).mono ?_
  rintro e w1 ⟨rfl, hb⟩
  have HB := Lib.hid hb
  clear hb
  go_wp2
  go_ret2
  exact ⟨rfl, HB.out⟩

set_option maxHeartbeats 400000 in
theorem Spoil_no (h : NoD w x) (s : ByteArray) (n m : Int) : Calls Try.prog 27 #[.pointer x, .string s, .int .i64 n, .int .i64 m] w fun e w' => e = .returned (.int .i64 1) ∧ Below w.heap.size w w' := by
  have H := Lib.hid h
  clear h
  go_enter Try.func27, Try.ntmps27
  go_wp2_with fail
  refine (find_no H.out s).mono ?_
  rintro e w1 ⟨rfl, hb⟩
  have HB := Lib.hid hb
  clear hb
  go_wp2
  go_ret
  exact ⟨rfl, HB.out⟩

set_option maxHeartbeats 400000 in
theorem Cut_no (h : NoD w x) (n : Int) (sl : Value) : Calls Try.prog 18 #[.pointer x, .int .i64 n, sl] w fun e w' => e = .returned (.int .i64 1) ∧ w = w' := by
  have H := Lib.hid h
  clear h
  go_enter Try.func18, Try.ntmps18
  go_wp2_with (go_at_call 43; refine (ready_no H.out _).mono ?_; rintro e w' ⟨rfl, rfl⟩)
  go_ret
  exact ⟨rfl, rfl⟩

set_option maxHeartbeats 400000 in
theorem Start_no (h : NoD w x) : Calls Try.prog 20 #[.pointer x] w fun e w' => e = .returned (.tuple #[]) ∧ w = w' := by
  have H := Lib.hid h
  clear h
  go_enter Try.func20, Try.ntmps20
  go_wp2_with (go_at_call 50; refine (made_no H.out).mono ?_; rintro e w' ⟨rfl, rfl⟩)
  go_end0
  exact ⟨rfl, rfl⟩

set_option maxHeartbeats 400000 in
theorem On_no (h : NoD w x) : Calls Try.prog 19 #[.pointer x] w fun e w' => e = .returned (.bool false) ∧ w = w' := by
  have H := Lib.hid h
  clear h
  go_enter Try.func19, Try.ntmps19
  go_wp2_with (go_at_call 50; refine (made_no H.out).mono ?_; rintro e w' ⟨rfl, rfl⟩)
  go_ret
  exact ⟨rfl, rfl⟩

set_option maxHeartbeats 400000 in
theorem Ops_no (h : NoD w x) : Calls Try.prog 28 #[.pointer x] w fun e w' => e = .returned (.int .i64 0) ∧ w = w' := by
  have H := Lib.hid h
  clear h
  go_enter Try.func28, Try.ntmps28
  go_wp2_with (go_at_call 50; refine (made_no H.out).mono ?_; rintro e w' ⟨rfl, rfl⟩)
  go_ret
  exact ⟨rfl, rfl⟩

set_option maxHeartbeats 400000 in
theorem List_no (h : NoD w x) : Calls Try.prog 24 #[.pointer x] w fun e w' => e = .returned (.slice none 0 0) ∧ w = w' := by
  have H := Lib.hid h
  clear h
  go_enter Try.func24, Try.ntmps24
  go_wp2_with (go_at_call 50; refine (made_no H.out).mono ?_; rintro e w' ⟨rfl, rfl⟩)
  go_ret
  exact ⟨rfl, rfl⟩
end
end Go.Proofs.Ytfpmhmblepjdgaa
