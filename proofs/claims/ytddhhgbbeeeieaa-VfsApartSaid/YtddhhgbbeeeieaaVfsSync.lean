/- Contracts of vfs.Disk.Sync and vfs.Disk.Write, and of what they do. Conditions: a disk that was made. -/
import Derived.Test.YtddhhgbbeeeieaaVfsApp
set_option maxRecDepth 100000
namespace Go.Proofs.Ytddhhgbbeeeieaa
open Go.RowKit Go.Maps Go.Sort

theorem cf49 (w : World) (args : Array Value) : (callFunc 49 args).run Try.prog w = .ok (.enter 49 args) w := by kernel_rfl
theorem cf48 (w : World) (args : Array Value) : (callFunc 48 args).run Try.prog w = .ok (.enter 48 args) w := by kernel_rfl

theorem mem_at_index {L : List (List UInt8 × FileC)} {k : List UInt8} {f : FileC} (h : fileOf L k = some f) : ∃ i : Nat, L[i]? = some (k, f) := List.mem_iff_getElem?.1 (fileOf_mem h)

def syncF (f : FileC) : FileC := { f with synced := f.bytes.length }

theorem sync_fin {w w' : World} {p i : Nat} {T : Nat → Option (Nat × Nat)} {D : DV} (h : DiskAt w p T D) {k : List UInt8} {f : FileC} (hi : D.files[i]? = some (k, f)) (n : Nat) (hw : ((w.setCell ⟨f.blk, 1, none⟩ (.int .i64 (f.bytes.length : Int)))).drewN n = w') :
    After w p T w' { D with files := D.files.set i (k, syncF f) } := by
  subst hw
  have hmem := List.mem_iff_getElem?.2 ⟨i, hi⟩
  have hF := h.files k f hmem
  have hin : In T f.blk := by unfold In; rw [h.tf k f hmem]; simp
  have h3 := heap_setCell_same (j := 1) hF.blk (.int .i64 (f.bytes.length : Int))
  have ho : ∀ x, x ≠ f.blk → (w.setCell ⟨f.blk, 1, none⟩ (.int .i64 (f.bytes.length : Int))).heap[x]? = w.heap[x]? := fun x hx => Below.heap_setCell _ _ _ _ hx
  have h4 : DiskAt (w.setCell ⟨f.blk, 1, none⟩ (.int .i64 (f.bytes.length : Int))) p T { D with files := D.files.set i (k, syncF f) } :=
    h.setAt (T' := T) hi rfl ⟨h3, ownsRow_of_block hF.row (fun g hg => ho g (fun e => by
      have a1 := h.ts k f g hmem hg
      rw [e, h.tf k f hmem] at a1
      simp at a1)), Nat.le_refl _, hF.max⟩ (fun _ _ => rfl) (fun b hb => h.ts k f b hmem hb) (fun x hx => by simpa [World.setCell] using h.bound x hx) (fun x _ hx _ => ho x hx)
  exact ⟨T, h4.move (fun _ _ => rfl) (Nat.le_refl _), ((Kept.refl (In T) w).setCell (p := ⟨f.blk, 1, none⟩) (.inl hin) _).drewN n, fun _ hk => .inl hk⟩

set_option maxHeartbeats 400000 in
theorem sync_do {w : World} {p bf i : Nat} {T : Nat → Option (Nat × Nat)} {D : DV} (h : DiskAt w p T D) {k : List UInt8} {f : FileC} (hi : D.files[i]? = some (k, f)) (cf : w.cell? ⟨bf, 0, none⟩ = some (.pointer (some ⟨f.blk, 0, none⟩))) :
    DoesTo p 49 #[.pointer (some ⟨bf, 0, none⟩)] T (fun D2 => D2 = { D with files := D.files.set i (k, syncF f) }) w := by
  unfold DoesTo
  have hmem := List.mem_iff_getElem?.2 ⟨i, hi⟩
  have hF := h.files k f hmem
  obtain ⟨d0, d1⟩ := hF.cell
  have g1 := hF.free 1
  obtain ⟨sa, scap, hsl, _, _⟩ := ownsRow_form hF.row
  rw [hsl] at d0
  have H := Lib.hid h
  have HI := Lib.hid hi
  clear h hi hmem hF hsl
  go_enter Try.func49, Try.ntmps49
  go_wp2_with fail
  go_region
  all_goals
    go_end0
    refine ⟨rfl, _, rfl, sync_fin H.out HI.out 1 rfl⟩

/-- what Sync does -/
def SyncP (D : DV) (k : List UInt8) (e : Int) (D2 : DV) : Prop :=
  (findE D.files D.on k ≠ 0 ∧ e = findE D.files D.on k ∧ D2 = D) ∨
  (findE D.files D.on k = 0 ∧ ∃ (i : Nat) (f : FileC), D.files[i]? = some (k, f) ∧ OperP D false (fun D2 => D2 = { opD D with files := D.files.set i (k, syncF f) }) e D2)

theorem find_zero {D : DV} {k : List UInt8} (h : findE D.files D.on k = 0) : ∃ f, fileOf D.files k = some f ∧ findV D.files D.on k = some f ∧ readyE D.on [k] = 0 := by
  unfold findE at h
  by_cases hr : readyE D.on [k] = 0
  · rw [if_pos hr] at h
    cases hf : fileOf D.files k with
    | none => rw [hf] at h; simp at h
    | some f => exact ⟨f, rfl, by unfold findV; rw [if_pos hr, hf], hr⟩
  · rw [if_neg hr] at h; exact absurd h hr

theorem cell_kept {w w1 : World} {p b : Nat} {v : Value} (k : Kept (fun k => k = p) w w1) (hb : b ≠ p) (h : w.cell? ⟨b, 0, none⟩ = some v) : w1.cell? ⟨b, 0, none⟩ = some v := by
  rw [World.cell?_of_block (w := w) (a := ⟨b, 0, none⟩) (k.block b (World.block_lt_of_cell? w _ h) hb)]; exact h

set_option maxHeartbeats 800000 in
theorem Sync_any {w : World} {p : Nat} {T : Nat → Option (Nat × Nat)} {D : DV} (h : DiskAt w p T D) (s : ByteArray) (hs : s.size ≤ maxLen) (ho1 : 0 ≤ D.ops) (ho2 : D.ops ≤ 1000000000) (hl : D.left ≤ 9223372036854775807) :
    Calls Try.prog 17 #[.pointer (some ⟨p, 0, none⟩), .string s] w (Does w p T (SyncP D s.data.toList)) := by
  have H := Lib.hid h
  have HS := Lib.hid hs
  have HO1 := Lib.hid ho1
  have HO2 := Lib.hid ho2
  have HLf := Lib.hid hl
  clear h hs ho1 ho2 hl
  go_enter Try.func17, Try.ntmps17
  go_wp2_with fail
  refine (find_any H.out s HS.out).mono ?_
  rintro e w1 ⟨rfl, hb⟩
  have HB := Lib.hid hb
  have H1 := Lib.hid (H.out.below hb)
  clear hb
  generalize hv : ptrV (findV D.files D.on s.data.toList) = v0
  obtain ⟨v, hv2⟩ : ∃ v, v = ptrA (findV D.files D.on s.data.toList) := ⟨_, rfl⟩
  obtain rfl : v0 = .pointer v := by rw [hv2]; exact hv.symm
  clear hv
  generalize he : findE D.files D.on s.data.toList = r
  have HV := Lib.hid hv2
  have HE := Lib.hid he
  clear hv2 he
  go_wp2_with fail
  generalize hw2 : World.alloc w1 _ = w2
  have hb2 : Below w1.heap.size w1 w2 := by rw [← hw2]; exact (Below.refl _ w1).alloc (Nat.le_refl _) _
  have cf : w2.cell? ⟨w1.heap.size, 0, none⟩ = some (.pointer v) := by rw [← hw2]; exact cell_of_one (alloc1 w1 _)
  have H2 := Lib.hid (H1.out.below hb2)
  have HB2 := Lib.hid (HB.out.trans (hb2.mono HB.out.size))
  have HC := Lib.hid cf
  have hp1 : p < w1.heap.size := H1.out.bound p (by rw [H1.out.tp]; simp)
  clear hb2 cf hw2
  by_cases hr : r = 0
  · subst hr
    obtain ⟨f, hf1, hf2, hf3⟩ := find_zero HE.out
    obtain ⟨i, hi⟩ := mem_at_index hf1
    refine (operate_any 49 _ (fun D2 => D2 = { opD D with files := D.files.set i (s.data.toList, syncF f) }) H2.out false (fun w3 h3 k3 => sync_do h3 hi ?_) cf49 HO1.out HO2.out HLf.out).mono ?_
    · refine cell_kept k3 (by omega) ?_
      have hv := HV.out
      rw [hf2] at hv
      rw [HC.out, hv]; rfl
    rintro e w3 ⟨e, D2, rfl, hR, hA⟩
    have HF := Lib.hid (show SyncP D s.data.toList e D2 from .inr ⟨HE.out, i, f, hi, hR⟩)
    have HA := Lib.hid (after_below HB2.out hA)
    clear hR hA hf1 hf2 hf3 hi
    go_wp2_with fail
    go_ret
    exact ⟨_, D2, rfl, HF.out, HA.out⟩
  · refine (operate_err _ _ r hr _ _).mono ?_
    rintro e w3 ⟨rfl, hw⟩
    have HA : Hid (After w p T w3 D) := by rw [← hw]; exact after_below HB2.out (After.refl H2.out)
    have HR := Lib.hid hr
    clear hw hr
    go_wp2_with fail
    go_ret
    exact ⟨_, D, rfl, .inl ⟨by rw [HE.out]; exact HR.out, HE.out.symm, rfl⟩, HA.out⟩
end Go.Proofs.Ytddhhgbbeeeieaa
