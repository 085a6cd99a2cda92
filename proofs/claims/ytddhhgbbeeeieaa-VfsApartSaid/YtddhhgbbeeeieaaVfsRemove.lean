/- Contract of vfs.Disk.Remove and of what it does. Conditions: a disk that was made. -/
import Derived.Test.YtddhhgbbeeeieaaVfsRename
set_option maxRecDepth 100000
namespace Go.Proofs.Ytddhhgbbeeeieaa
open Go.RowKit Go.Maps Go.Sort

theorem cf55 (w : World) (args : Array Value) : (callFunc 55 args).run Try.prog w = .ok (.enter 55 args) w := by kernel_rfl

set_option maxHeartbeats 1600000 in
theorem remove_do {w : World} {p bd bf : Nat} {T : Nat → Option (Nat × Nat)} {D : DV} (h : DiskAt w p T D) {s : ByteArray} (cd : w.cell? ⟨bd, 0, none⟩ = some (.pointer (some ⟨p, 0, none⟩))) (cf : w.cell? ⟨bf, 0, none⟩ = some (.string s)) (hs : s.size ≤ maxLen) :
    DoesTo p 55 #[.pointer (some ⟨bd, 0, none⟩), .pointer (some ⟨bf, 0, none⟩)] T (fun D2 => D2 = { D with files := dropL s.data.toList D.files }) w := by
  unfold DoesTo
  have H := Lib.hid h
  obtain ⟨c0, _, _, _, _⟩ := h.cell
  have HS := Lib.hid hs
  clear h hs
  go_enter Try.func55, Try.ntmps55
  go_wp2_with fail
  have hmp : (w.drew).ownsMap Try.prog 9 ptrR D.mb D.files.length (mapD D.files) := H.out.map
  obtain ⟨w2, hrun, hm2, ht2⟩ := hmp.drop (string_keyed Try.underlying9) Try.underlying50 (key := .string s) (WideMaps.keyOf_string_mk (P := Try.prog) Try.underlying9 HS.out) 0
  have hgr := ht2.grown
  have hgr' : w.grownBy w2 (some D.mb) := ⟨hgr.os, hgr.tape, hgr.output, hgr.size, hgr.block⟩
  have h2 : DiskAt w2 p T { D with files := dropL s.data.toList D.files } := H.out.dropFile hm2 hgr'.size (fun x hx hne => hgr'.block x (H.out.bound x hx) (by simpa using hne))
  have H2 := Lib.hid h2
  have HRUN := Lib.hid hrun
  have K2 := Lib.hid ((Kept.of_grown hgr').mono (S' := In T) (fun x hx => by cases hx; unfold In; rw [H.out.tm]; simp))
  clear hmp hrun hm2 ht2 hgr hgr' h2
  go_region_law (refine step_delete_run rfl (.tmp 5) (.tmp 6) 50 9 rfl rfl rfl HRUN.out ?_)
  all_goals
    go_end0
    exact ⟨rfl, _, rfl, T, H2.out, K2.out, fun _ hx => .inl hx⟩

/-- what Remove does -/
def RemoveP (D : DV) (k : List UInt8) (e : Int) (D2 : DV) : Prop :=
  (findE D.files D.on k ≠ 0 ∧ e = findE D.files D.on k ∧ D2 = D) ∨
  (findE D.files D.on k = 0 ∧ OperP D false (fun D2 => D2 = { opD D with files := dropL k D.files }) e D2)

set_option maxHeartbeats 800000 in
theorem Remove_any {w : World} {p : Nat} {T : Nat → Option (Nat × Nat)} {D : DV} (h : DiskAt w p T D) (s : ByteArray) (hs : s.size ≤ maxLen) (ho1 : 0 ≤ D.ops) (ho2 : D.ops ≤ 1000000000) (hl : D.left ≤ 9223372036854775807) :
    Calls Try.prog 26 #[.pointer (some ⟨p, 0, none⟩), .string s] w (Does w p T (RemoveP D s.data.toList)) := by
  have hb0 : Below w.heap.size w ((w.alloc (.cells #[.pointer (some ⟨p, 0, none⟩)] 23)).alloc (.cells #[.string s] 9)) := ((Below.refl _ w).alloc (Nat.le_refl _) _).alloc (by simp) _
  have ha1 := alloc1 (w.alloc (.cells #[.pointer (some ⟨p, 0, none⟩)] 23)) (.cells #[.string s] 9)
  have ha0 : ((w.alloc (.cells #[.pointer (some ⟨p, 0, none⟩)] 23)).alloc (.cells #[.string s] 9)).heap[w.heap.size]? = some (.cells #[.pointer (some ⟨p, 0, none⟩)] 23) := (Below.heap_alloc _ _ _ (by simp)).trans (alloc1 w _)
  rw [show (w.alloc (.cells #[.pointer (some ⟨p, 0, none⟩)] 23)).heap.size = w.heap.size + 1 by simp] at ha1
  have H := Lib.hid h
  have H0 := Lib.hid (h.below hb0)
  have HS := Lib.hid hs
  have HO1 := Lib.hid ho1
  have HO2 := Lib.hid ho2
  have HLf := Lib.hid hl
  have HB0 := Lib.hid hb0
  have HA0 := Lib.hid ha0
  have HA1 := Lib.hid ha1
  clear h hs ho1 ho2 hl hb0 ha0 ha1
  go_enter Try.func26, Try.ntmps26
  go_wp2_with fail
  refine (find_any H0.out s HS.out).mono ?_
  rintro e w1 ⟨rfl, hb⟩
  have c0 : w1.cell? ⟨w.heap.size, 0, none⟩ = some (.pointer (some ⟨p, 0, none⟩)) := by
    refine cell_of_one ((hb.block _ ?_).trans HA0.out)
    simp; omega
  have c1 : w1.cell? ⟨w.heap.size + 1, 0, none⟩ = some (.string s) := by
    refine cell_of_one ((hb.block _ ?_).trans HA1.out)
    simp
  have HB := Lib.hid (HB0.out.trans (hb.mono HB0.out.size))
  have H1 := Lib.hid (H.out.below HB.out)
  clear hb HB0 HA0 HA1 H0
  generalize hv : ptrV (findV D.files D.on s.data.toList) = v0
  generalize he : findE D.files D.on s.data.toList = r
  have HE := Lib.hid he
  clear hv he
  go_wp2_with fail
  have hp1 : p < w.heap.size := H.out.bound p (by rw [H.out.tp]; simp)
  by_cases hr : r = 0
  · subst hr
    have C0 := Lib.hid c0
    have C1 := Lib.hid c1
    refine (operate_any 55 _ (fun D2 => D2 = { opD D with files := dropL s.data.toList D.files }) H1.out false (fun w3 h3 k3 => remove_do h3 (cell_kept k3 (by omega) C0.out) (cell_kept k3 (by omega) C1.out) HS.out) cf55 HO1.out HO2.out HLf.out).mono ?_
    rintro e w3 ⟨e, D2, rfl, hR, hA⟩
    have HF := Lib.hid (show RemoveP D s.data.toList e D2 from .inr ⟨HE.out, hR⟩)
    have HA := Lib.hid (after_below HB.out hA)
    clear hR hA
    go_wp2_with fail
    go_ret
    exact ⟨_, D2, rfl, HF.out, HA.out⟩
  · refine (operate_err _ _ r hr _ _).mono ?_
    rintro e w3 ⟨rfl, hw⟩
    have HA : Hid (After w p T w3 D) := by rw [← hw]; exact after_below HB.out (After.refl H1.out)
    have HR := Lib.hid hr
    clear hw hr
    go_wp2_with fail
    go_ret
    exact ⟨_, D, rfl, .inl ⟨by rw [HE.out]; exact HR.out, HE.out.symm, rfl⟩, HA.out⟩
end Go.Proofs.Ytddhhgbbeeeieaa
