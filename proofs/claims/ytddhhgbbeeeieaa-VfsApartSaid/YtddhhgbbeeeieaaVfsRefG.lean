/- talusref01.Disk.Create on a disk without files: it returns, and only the disk itself changes of what was there. Conditions: an empty reference disk. -/
import Derived.Test.YtddhhgbbeeeieaaVfsRefF
set_option maxRecDepth 100000
namespace Go.Proofs.Ytddhhgbbeeeieaa
open Go.RowKit Go.Maps Go.Sort

theorem infoFile : (Try.prog.info? 73).map (fun i => (i.zero, i.size)) = some (some (.agg #[.string ByteArray.empty, .slice none 0 0, .int .i64 0]), 3) := by kernel_rfl
theorem infoFileB : (Try.prog.info? 73).map (fun i => decide (i.bytes ≤ 100)) = some true := by kernel_rfl

theorem app_file (w : World) (s : ByteArray) (b : Nat) (h : w.heap[b]? = some (.cells #[.string s, .slice none 0 0, .int .i64 0] 73 (0, 0))) :
    ∃ a c w', (∀ ty, (Builtin.append_ #[26, 26] ty #[.slice none 0 0, .slice (some ⟨b, 0, none⟩) 1 1]).run Try.prog w = .ok (.slice a 1 c) w') ∧ Below w.heap.size w w' := by
  have h1 := infoFile
  have h2 := infoFileB
  cases hi : Try.prog.info? 73 with
  | none => rw [hi] at h1; cases h1
  | some i =>
    rw [hi] at h1 h2
    simp only [Option.map_some, Option.some.injEq, Prod.mk.injEq, decide_eq_true_eq] at h1 h2
    refine ⟨_, _, _, fun ty => run_append_nil (P := Try.prog) w 26 ty 73 i _ Try.underlying26 hi h1.1 ⟨b, 0, none⟩ 1 1 [.string s, .slice none 0 0, .int .i64 0] (by rw [h1.2]; rfl) (fun j v hj => ?_) (by omega) (by omega) (by omega), ?_⟩
    · have hj3 : j = 0 ∨ j = 1 ∨ j = 2 := by
        have := (List.getElem?_eq_some_iff.1 hj).1
        simp at this; omega
      rcases hj3 with rfl | rfl | rfl <;> (cases hj; rw [show (Addr.add ⟨b, 0, none⟩ _ : Addr) = ⟨b, _, none⟩ from rfl, cell_of_row _ _ _ _ _ _ h]; rfl)
    · exact (Below.refl _ w).drew.alloc (Nat.le_refl _) _

set_option maxHeartbeats 800000 in
theorem refOp_empty {w : World} {q : Nat} (h : RefE w q) :
    Calls Try.prog 58 #[.pointer (some ⟨q, 0, none⟩)] w fun e w' => e = .returned (.bool false) ∧ Kept (fun k => k = q) w w' ∧ w'.cell? ⟨q, 0, none⟩ = some (.slice none 0 0) ∧ w'.frozen? ⟨q, 0, none⟩ = false := by
  obtain ⟨_, _, c2, c4⟩ := h.cell
  have f4 := free_of_row h 4
  have H := Lib.hid h
  clear h
  go_enter Try.func58, Try.ntmps58
  go_wp2_with fail
  go_ret
  have hs := heap_setCell_same (j := 4) H.out (.int .i64 1)
  exact ⟨rfl, (Kept.refl (fun k => k = q) w).setCell (p := ⟨q, 4, none⟩) (.inl rfl) _, by rw [cell_of_row _ _ _ _ _ _ hs]; rfl, free_of_row hs 0⟩

set_option maxHeartbeats 800000 in
theorem refPut_empty {w : World} {q : Nat} (c0 : w.cell? ⟨q, 0, none⟩ = some (.slice none 0 0)) (f0 : w.frozen? ⟨q, 0, none⟩ = false) (s : ByteArray) :
    Calls Try.prog 60 #[.pointer (some ⟨q, 0, none⟩), .agg #[.string s, .slice none 0 0, .int .i64 0]] w fun e w' => e = .returned (.tuple #[]) ∧ Kept (fun k => k = q) w w' := by
  have hlt := World.block_lt_of_cell? w _ c0
  have C0 := Lib.hid c0
  have F0 := Lib.hid f0
  have hb := ((Below.refl w.heap.size w).alloc (Nat.le_refl _) (.cells #[.string s, .slice none 0 0, .int .i64 0] 73))
  have ha := alloc1 w (.cells #[.string s, .slice none 0 0, .int .i64 0] 73)
  have e1 : (w.alloc (.cells #[.string s, .slice none 0 0, .int .i64 0] 73)).cell? ⟨q, 0, none⟩ = some (.slice none 0 0) := by rw [World.cell?_of_block (w := w) (a := ⟨q, 0, none⟩) (hb.block q hlt)]; exact c0
  have hb2 := hb.alloc (by simp) (.cells #[.string s, .slice none 0 0, .int .i64 0] 73)
  have ha2 := alloc1 (w.alloc (.cells #[.string s, .slice none 0 0, .int .i64 0] 73)) (.cells #[.string s, .slice none 0 0, .int .i64 0] 73)
  rw [show (w.alloc (.cells #[.string s, .slice none 0 0, .int .i64 0] 73)).heap.size = w.heap.size + 1 by simp] at ha2
  obtain ⟨va, vc, w3, hrun, hb3⟩ := app_file _ s _ ha2
  have HRUN := Lib.hid hrun
  have HB2 := Lib.hid hb2
  have HB3 := Lib.hid (hb2.trans (hb3.mono hb2.size))
  have e0 : w3.cell? ⟨q, 0, none⟩ = some (.slice none 0 0) := by rw [World.cell?_of_block (w := w) (a := ⟨q, 0, none⟩) (HB3.out.block q hlt)]; exact c0
  have g0 : w3.frozen? ⟨q, 0, none⟩ = false := by rw [HB3.out.frozen hlt]; exact f0
  clear hb ha hb2 ha2 hrun hb3 f0 hlt
  go_enter Try.func60, Try.ntmps60
  go_wp2_with fail
  go_loop [4, 5, 7, 13] (fun l d _ i => l = .slice none 0 0 ∧ d = .bool false ∧ i = .int .i64 0) (fun _ _ _ _ => 0)
  case atStart => exact ⟨rfl, rfl, rfl⟩
  case round =>
    obtain ⟨rfl, rfl, rfl⟩ := hrel
    clear c0 e1
    go_wp2_with (at_builtin; refine wpList_append_run rfl _ _ 26 rfl rfl rfl (HRUN.out _) ?_)
    go_end0
    exact ⟨rfl, ((Kept.of_below HB3.out).mono (S' := fun k => k = q) (fun _ h => h)).setCell (p := ⟨q, 0, none⟩) (.inl rfl) _⟩

set_option maxHeartbeats 800000 in
theorem refCreate_empty {w : World} {q : Nat} (h : RefE w q) (s : ByteArray) (hs : s.size ≤ maxLen) :
    Calls Try.prog 29 #[.pointer (some ⟨q, 0, none⟩), .string s] w fun e w' => (∃ r, e = .returned (.int .i64 r)) ∧ Kept (fun k => k = q) w w' := by
  have hb := (Below.refl w.heap.size w).alloc (Nat.le_refl _) (.cells #[.string s] 9)
  have ha := alloc1 w (.cells #[.string s] 9)
  have H0 := Lib.hid h
  have H := Lib.hid (h.below hb)
  have HB := Lib.hid hb
  have HA := Lib.hid ha
  have HS := Lib.hid hs
  clear h hb ha hs
  go_enter Try.func29, Try.ntmps29
  go_wp2_with fail
  refine (refMay_empty H.out _ _ _ [s] false rfl (one_cells HA.out) (fun x hx => by simp at hx; subst hx; exact HS.out) (by simp) (by simp)).mono ?_
  rintro e w1 ⟨rfl, hw⟩
  generalize mayE _ false = r at *
  have hb1 : Below w.heap.size w w1 := hw ▸ HB.out
  have HB1 := Lib.hid hb1
  have H1 := Lib.hid (H0.out.below hb1)
  obtain ⟨c0, _, _, _⟩ := (H0.out.below hb1).cell
  clear hw hb1
  by_cases hr : r = 0
  · subst hr
    go_wp2_with (first
      | (go_at_call 57; refine (refFind_empty H1.out _).mono ?_; rintro e w' ⟨rfl, rfl⟩))
    refine (refOp_empty H1.out).mono ?_
    rintro e w2 ⟨rfl, k2, c2, f2⟩
    have K2 := Lib.hid k2
    clear k2 c0
    go_wp2_with fail
    refine (refPut_empty c2 f2 _).mono ?_
    rintro e w3 ⟨rfl, k3⟩
    have K3 := Lib.hid k3
    clear k3 c2 f2
    go_wp2_with fail
    go_ret
    exact ⟨⟨_, rfl⟩, ((Kept.of_below HB1.out).mono (S' := fun k => k = q) (fun _ h => h)).trans (K2.out.trans K3.out (fun x hx => .inl hx)) (fun x hx => .inl hx)⟩
  · have r0 : (r == 0) = false := by simpa using hr
    have r1 : (r != 0) = true := by simpa using hr
    clear hr
    go_wp2_with fail
    go_ret
    exact ⟨⟨_, rfl⟩, (Kept.of_below HB1.out)⟩
end Go.Proofs.Ytddhhgbbeeeieaa
