/- Contracts of vfs.Disk.Write and of what it does. Conditions: a disk that was made; bytes that can be read. -/
import Derived.Test.YtddhhgbbeeeieaaVfsSync
set_option maxRecDepth 100000
namespace Go.Proofs.Ytddhhgbbeeeieaa
open Go.RowKit Go.Maps Go.Sort

theorem write_fin {w w2 w3 : World} {p i : Nat} {T : Nat → Option (Nat × Nat)} {D : DV} (h : DiskAt w p T D) {k : List UInt8} {f : FileC} (hi : D.files[i]? = some (k, f)) {v' : Value} {l : List UInt8}
    (hown : w2.ownsRow 0 5 1 v' (f.bytes ++ l).length (u8s (f.bytes ++ l))) (hgr : w.grownBy w2 f.sl.ownBlock) (hb : v'.ownBlock = f.sl.ownBlock ∨ v'.ownBlock = some w.heap.size) (hmax : (f.bytes ++ l).length ≤ 1048576)
    (hw : w2.setCell ⟨f.blk, 0, none⟩ v' = w3) :
    ∃ D2, (∃ f', f'.blk = f.blk ∧ f'.bytes = f.bytes ++ l ∧ f'.synced = f.synced ∧ D2 = { D with files := D.files.set i (k, f') }) ∧ After w p T w3 D2 := by
  subst hw
  have hmem := List.mem_iff_getElem?.2 ⟨i, hi⟩
  have hF := h.files k f hmem
  have htf := h.tf k f hmem
  have hin : In T f.blk := by unfold In; rw [htf]; simp
  have hlt := h.bound f.blk (by rw [htf]; simp)
  have hne : ∀ g, f.sl.ownBlock = some g → g ≠ f.blk := fun g hg e => by
    have a1 := h.ts k f g hmem hg
    rw [e, htf] at a1
    simp at a1
  have h2 : w2.heap[f.blk]? = w.heap[f.blk]? := hgr.block f.blk hlt (fun e => hne _ e.symm rfl)
  have h3 := heap_setCell_same (j := 0) (h2.trans hF.blk) v'
  have ho : ∀ x, x ≠ f.blk → (w2.setCell ⟨f.blk, 0, none⟩ v').heap[x]? = w2.heap[x]? := fun x hx => Below.heap_setCell _ _ _ _ hx
  have hvne : ∀ g, v'.ownBlock = some g → g ≠ f.blk := fun g hg e => by
    rcases hb with hb | hb
    · exact hne g (hb ▸ hg) e
    · rw [hb] at hg
      simp only [Option.some.injEq] at hg
      omega
  have hsz : (w2.setCell ⟨f.blk, 0, none⟩ v').heap.size = w2.heap.size := by simp [World.setCell]
  have hgs := hgr.size
  have hat : FileC.At (w2.setCell ⟨f.blk, 0, none⟩ v') { f with sl := v', bytes := f.bytes ++ l } :=
    ⟨h3, ownsRow_of_block hown (fun g hg => ho g (hvne g hg)), by have := hF.sync; simp; omega, hmax⟩
  have hk : ∀ x, T x ≠ none → x ≠ f.blk → T x ≠ some (3, f.blk) → (w2.setCell ⟨f.blk, 0, none⟩ v').heap[x]? = w.heap[x]? := fun x hx hxf hx3 => by
    rw [ho x hxf]
    exact hgr.block x (h.bound x hx) (fun e => hx3 (h.ts k f x hmem e.symm))
  have hkept : Kept (In T) w (w2.setCell ⟨f.blk, 0, none⟩ v') :=
    Kept.setCell (p := ⟨f.blk, 0, none⟩) ((Kept.of_grown hgr).mono (fun x hx => by unfold In; rw [h.ts k f x hmem hx]; simp)) (.inl hin) _
  refine ⟨{ D with files := D.files.set i (k, { f with sl := v', bytes := f.bytes ++ l }) }, ⟨{ f with sl := v', bytes := f.bytes ++ l }, rfl, rfl, rfl, rfl⟩, ?_⟩
  rcases hb with hb | hb
  · exact ⟨T, h.setAt (T' := T) hi rfl hat (fun _ _ => rfl) (fun b hb2 => h.ts k f b hmem (hb ▸ hb2)) (fun x hx => by have := h.bound x hx; omega) hk, hkept, fun _ hx => .inl hx⟩
  · have hlt2 : w.heap.size < w2.heap.size := by
      rcases hown.2 with ⟨e, _⟩ | ⟨g, cap, cur, e, _, hg, _⟩
      · rw [e] at hb; simp [Value.ownBlock] at hb
      · rw [e] at hb
        simp only [Value.ownBlock, Option.some.injEq] at hb
        have := (Array.getElem?_eq_some_iff.1 hg).1
        omega
    refine ⟨updT T w.heap.size (3, f.blk), h.setAt (T' := updT T w.heap.size (3, f.blk)) hi rfl hat (updT_old h (Nat.le_refl _) _) (fun b hb2 => ?_) (fun x hx => ?_) hk, hkept, fun x hx => ?_⟩
    · have hb3 : v'.ownBlock = some b := hb2
      rw [hb] at hb3
      simp only [Option.some.injEq] at hb3
      rw [← hb3]; exact updT_new _ _ _
    · rcases updT_cases hx with e | e
      · omega
      · have := h.bound x e; omega
    · rcases updT_cases hx with e | e
      · exact .inr (by omega)
      · exact .inl e

theorem Holds8.kept {w w' : World} {v : Value} {l : List UInt8} (h : Holds8 w v l) (hc : ∀ (a : Addr) u, w.cell? a = some u → w'.cell? a = some u) : Holds8 w' v l := by
  obtain ⟨a, c, rfl, h1, h2⟩ := h
  refine ⟨a, c, rfl, h1, ?_⟩
  rcases h2 with h2 | ⟨ad, rfl, h3⟩
  · exact .inl h2
  · exact .inr ⟨ad, rfl, fun j u hj => hc _ _ (h3 j u hj)⟩

/-- the slice's block is none of the tagged ones -/
def Sep (T : Nat → Option (Nat × Nat)) (v : Value) : Prop := ∀ (ad : Addr) (n c : Nat), v = .slice (some ad) n c → n ≠ 0 → T ad.block = none

theorem Addr.add_block (a : Addr) (n : Nat) : (a.add n).block = a.block := by unfold Addr.add; split <;> rfl
theorem Holds8.keptBut {w w' : World} {v : Value} {l : List UInt8} {p : Nat} (h : Holds8 w v l) (hc : ∀ (a : Addr) u, a.block ≠ p → w.cell? a = some u → w'.cell? a = some u) (hs : ∀ (ad : Addr) (n c : Nat), v = .slice (some ad) n c → n ≠ 0 → ad.block ≠ p) : Holds8 w' v l := by
  obtain ⟨a, c, rfl, h1, h2⟩ := h
  refine ⟨a, c, rfl, h1, ?_⟩
  rcases h2 with h2 | ⟨ad, rfl, h3⟩
  · exact .inl h2
  · exact .inr ⟨ad, rfl, fun j u hj => hc _ _ (by rw [Addr.add_block]; exact hs ad _ _ rfl (fun e => by rw [List.eq_nil_of_length_eq_zero e] at hj; simp [u8s] at hj)) (h3 j u hj)⟩

theorem cell_grown {w w2 : World} {own : Option Nat} {b : Nat} {j : Nat} {v : Value} (hgr : w.grownBy w2 own) (hb : own ≠ some b) (h : w.cell? ⟨b, j, none⟩ = some v) : w2.cell? ⟨b, j, none⟩ = some v :=
  hgr.cell h (fun e => hb e.symm)

set_option maxHeartbeats 800000 in
theorem write_do {w : World} {p bf bb i : Nat} {T : Nat → Option (Nat × Nat)} {D : DV} (h : DiskAt w p T D) {k : List UInt8} {f : FileC} (hi : D.files[i]? = some (k, f)) (cf : w.cell? ⟨bf, 0, none⟩ = some (.pointer (some ⟨f.blk, 0, none⟩))) (hbf : T bf = none)
    {bv : Value} {l : List UInt8} (cb : w.cell? ⟨bb, 0, none⟩ = some bv) (hl : Holds8 w bv l) (hmax : f.bytes.length + l.length ≤ 1048576) :
    DoesTo p 48 #[.pointer (some ⟨bf, 0, none⟩), .pointer (some ⟨bb, 0, none⟩)] T (fun D2 => ∃ f', f'.blk = f.blk ∧ f'.bytes = f.bytes ++ l ∧ f'.synced = f.synced ∧ D2 = { D with files := D.files.set i (k, f') }) w := by
  unfold DoesTo
  have hmem := List.mem_iff_getElem?.2 ⟨i, hi⟩
  have hF := h.files k f hmem
  obtain ⟨d0, _⟩ := hF.cell
  have hrow : w.drew.ownsRow 0 5 1 f.sl f.bytes.length (u8s f.bytes) := hF.row
  have hl2 : Holds8 w.drew bv l := hl
  obtain ⟨v', w2, hrun, hown, hgr, hblk⟩ := app8 w.drew hrow hl2 (by omega)
  have hgr' : w.grownBy w2 f.sl.ownBlock := ⟨hgr.os, hgr.tape, hgr.output, hgr.size, hgr.block⟩
  have no : ∀ x, T x = none → f.sl.ownBlock ≠ some x := fun x hx e => by rw [h.ts k f x hmem e] at hx; cases hx
  have cf2 : w2.cell? ⟨bf, 0, none⟩ = some (.pointer (some ⟨f.blk, 0, none⟩)) := cell_grown hgr' (no bf hbf) cf
  have hnf : f.sl.ownBlock ≠ some f.blk := fun e => by have a1 := h.ts k f f.blk hmem e; rw [h.tf k f hmem] at a1; simp at a1
  have d2 : w2.cell? ⟨f.blk, 0, none⟩ = some f.sl := cell_grown hgr' hnf d0
  have hh2 : w2.heap[f.blk]? = w.heap[f.blk]? := hgr'.block f.blk (h.bound f.blk (by rw [h.tf k f hmem]; simp)) (fun e => hnf e.symm)
  have g2 : w2.frozen? ⟨f.blk, 0, none⟩ = false := free_of_row (hh2.trans hF.blk) 0
  obtain ⟨va, vc, hv', _, _⟩ := ownsRow_form hown
  obtain ⟨sa, scap, hsl, _, _⟩ := ownsRow_form hrow
  obtain ⟨ba, bc, hbv, _, _⟩ := hl
  have hblk' : v'.ownBlock = f.sl.ownBlock ∨ v'.ownBlock = some w.heap.size := hblk
  have HFIN := Lib.hid (fun w3 (hw : w2.setCell ⟨f.blk, 0, none⟩ v' = w3) => write_fin (w3 := w3) h hi hown hgr' hblk' (by simp; omega) hw)
  have HRUN := Lib.hid hrun
  rw [hsl] at d0 d2 HRUN
  rw [hbv] at cb HRUN
  rw [hv'] at HRUN HFIN
  clear hrun hown h hi hF hrow hl2 hgr hgr' no hh2 hnf hmem hblk hblk' hmax hbf hsl hbv hv'
  go_enter Try.func48, Try.ntmps48
  go_wp2_with fail
  go_region_law (refine step_append_run rfl (.tmp 6) (.tmp 7) 30 rfl rfl rfl (HRUN.out _) ?_)
  all_goals
    go_end0
    exact ⟨rfl, HFIN.out _ (by rw [List.length_append])⟩

/-- what Write does -/
def WriteP (D : DV) (k l : List UInt8) (e : Int) (D2 : DV) : Prop :=
  (findE D.files D.on k ≠ 0 ∧ e = findE D.files D.on k ∧ D2 = D) ∨
  (findE D.files D.on k = 0 ∧ ∃ f, fileOf D.files k = some f ∧ 1048576 < f.bytes.length + l.length ∧ e = 7 ∧ D2 = D) ∨
  (findE D.files D.on k = 0 ∧ ∃ (i : Nat) (f : FileC), D.files[i]? = some (k, f) ∧ f.bytes.length + l.length ≤ 1048576 ∧
    OperP D true (fun D2 => ∃ f', f'.blk = f.blk ∧ f'.bytes = f.bytes ++ l ∧ f'.synced = f.synced ∧ D2 = { opD D with files := D.files.set i (k, f') }) e D2)

set_option maxHeartbeats 400000 in
theorem Write_any {w : World} {p : Nat} {T : Nat → Option (Nat × Nat)} {D : DV} (h : DiskAt w p T D) (s : ByteArray) (hs : s.size ≤ maxLen) {bv : Value} {l : List UInt8} (hbv : Holds8 w bv l) (hsep : Sep T bv) (ho1 : 0 ≤ D.ops) (ho2 : D.ops ≤ 1000000000) (hl : D.left ≤ 9223372036854775807) :
    Calls Try.prog 16 #[.pointer (some ⟨p, 0, none⟩), .string s, bv] w (Does w p T (WriteP D s.data.toList l)) := by
  have H := Lib.hid h
  have HS := Lib.hid hs
  have HO1 := Lib.hid ho1
  have HO2 := Lib.hid ho2
  have HLf := Lib.hid hl
  have HBV := Lib.hid hbv
  have HSEP := Lib.hid hsep
  clear hsep
  obtain ⟨ba, bc, rfl, _, _⟩ := hbv
  have hb0 : Below w.heap.size w (w.alloc (.cells #[.slice ba l.length bc] 30)) := (Below.refl _ w).alloc (Nat.le_refl _) _
  have H0 := Lib.hid (h.below hb0)
  have HB0 := Lib.hid hb0
  have HHB := Lib.hid (HBV.out.kept (w' := w.alloc (.cells #[.slice ba l.length bc] 30)) (fun a u ha => by rw [hb0.cell (World.block_lt_of_cell? w a ha)]; exact ha))
  have hcb := cell_of_one (alloc1 w (.cells #[.slice ba l.length bc] 30))
  have HCB := Lib.hid hcb
  clear h hs ho1 ho2 hl hb0 hcb
  go_enter Try.func16, Try.ntmps16
  go_wp2_with fail
  refine (find_any H0.out s HS.out).mono ?_
  rintro e w1 ⟨rfl, hb⟩
  have H1 := Lib.hid (H0.out.below hb)
  have HB := Lib.hid (HB0.out.trans (hb.mono HB0.out.size))
  have cb1 : w1.cell? ⟨w.heap.size, 0, none⟩ = some (.slice ba l.length bc) := by rw [hb.cell (World.block_lt_of_cell? _ _ HCB.out)]; exact HCB.out
  have HH1 := Lib.hid (HHB.out.kept (w' := w1) (fun a u ha => by rw [hb.cell (World.block_lt_of_cell? _ a ha)]; exact ha))
  have hlt1 : w.heap.size < w1.heap.size := by have := World.block_lt_of_cell? _ _ cb1; exact this
  clear hb
  generalize hv : ptrV (findV D.files D.on s.data.toList) = v0
  obtain ⟨v, hv2⟩ : ∃ v, v = ptrA (findV D.files D.on s.data.toList) := ⟨_, rfl⟩
  obtain rfl : v0 = .pointer v := by rw [hv2]; exact hv.symm
  clear hv
  generalize he : findE D.files D.on s.data.toList = r
  have HV := Lib.hid hv2
  have HE := Lib.hid he
  clear hv2 he
  have HCB1 := Lib.hid cb1
  clear cb1
  go_wp2_with fail
  generalize hw2 : World.alloc w1 _ = w2
  have hb2 : Below w1.heap.size w1 w2 := by rw [← hw2]; exact (Below.refl _ w1).alloc (Nat.le_refl _) _
  have cf : w2.cell? ⟨w1.heap.size, 0, none⟩ = some (.pointer v) := by rw [← hw2]; exact cell_of_one (alloc1 w1 _)
  have cb2 : w2.cell? ⟨w.heap.size, 0, none⟩ = some (.slice ba l.length bc) := by rw [hb2.cell (World.block_lt_of_cell? _ _ HCB1.out)]; exact HCB1.out
  have HH2 := Lib.hid (HH1.out.kept (w' := w2) (fun a u ha => by rw [hb2.cell (World.block_lt_of_cell? _ a ha)]; exact ha))
  have H2 := Lib.hid (H1.out.below hb2)
  have HB2 := Lib.hid (HB.out.trans (hb2.mono HB.out.size))
  have HC := Lib.hid cf
  have HCB2 := Lib.hid cb2
  have hp1 : p < w.heap.size := H.out.bound p (by rw [H.out.tp]; simp)
  have HT1 := Lib.hid (show T w1.heap.size = none by
    cases ht : T w1.heap.size with
    | none => rfl
    | some x => have := H1.out.bound w1.heap.size (by rw [ht]; simp); omega)
  clear hb2 hw2
  by_cases hr : r = 0
  · subst hr
    obtain ⟨f, hf1, hf2, hf3⟩ := find_zero HE.out
    obtain ⟨i, hi⟩ := mem_at_index hf1
    have hv := HV.out
    rw [hf2] at hv
    have hmem := fileOf_mem hf1
    have hF := H2.out.files _ f hmem
    obtain ⟨d0, _⟩ := hF.cell
    obtain ⟨sa, scap, hsl, _, _⟩ := ownsRow_form hF.row
    rw [hsl] at d0
    have hmx := hF.max
    have HI := Lib.hid hi
    have HF1 := Lib.hid hf1
    obtain rfl : v = some ⟨f.blk, 0, none⟩ := hv
    clear hF hsl hmem hi hf1 hf2 hf3
    have hsub : IntKind.i64.wrap (1048576 - (f.bytes.length : Int)) = 1048576 - (f.bytes.length : Int) := IntWalk.i64_in _ (by omega)
    by_cases hfull : 1048576 < f.bytes.length + l.length
    · have hcmp : (1048576 : Int) - (f.bytes.length : Int) < (l.length : Int) := by omega
      have HFU := Lib.hid hfull
      clear hfull
      go_quiet (fail)
      clear hsub hcmp
      go_wp2_with fail
      refine (operate_err _ _ 7 (by omega) _ _).mono ?_
      rintro e w3 ⟨rfl, hw⟩
      have HA : Hid (After w p T w3 D) := by rw [← hw]; exact (after_below HB2.out (After.refl H2.out)).drewN _
      clear hw
      go_wp2_with fail
      go_ret
      exact ⟨_, D, rfl, .inr (.inl ⟨HE.out, f, HF1.out, HFU.out, rfl, rfl⟩), HA.out⟩
    · have hcmp : decide ((1048576 : Int) - (f.bytes.length : Int) < (l.length : Int)) = false := decide_eq_false (by omega)
      have HFU := Lib.hid (Nat.le_of_not_lt hfull)
      clear hfull
      go_quiet (fail)
      clear hsub hcmp
      go_wp2_with fail
      refine (operate_any 48 _ (fun D2 => ∃ f', f'.blk = f.blk ∧ f'.bytes = f.bytes ++ l ∧ f'.synced = f.synced ∧ D2 = { opD D with files := D.files.set i (s.data.toList, f') }) (H2.out.move (w' := w2.drewN nq) (fun _ _ => rfl) (Nat.le_refl _)) true (fun w3 h3 k3 => write_do (bv := .slice ba l.length bc) h3 HI.out ?_ HT1.out ?_ ?_ HFU.out) cf48 HO1.out HO2.out HLf.out).mono ?_
      · exact cell_kept (w := w2.drewN nq) k3 (by omega) HC.out
      · exact cell_kept (w := w2.drewN nq) k3 (by omega) HCB2.out
      · exact HH2.out.keptBut (fun a u hne ha => by rw [World.cell?_of_block (w := w2.drewN nq) (k3.block a.block (World.block_lt_of_cell? w2 a ha) hne)]; exact ha) (fun ad n c e hn hx => by have := HSEP.out ad n c e hn; rw [hx, H.out.tp] at this; cases this)
      rintro e w3 ⟨e, D2, rfl, hR, hA⟩
      have HF := Lib.hid (show WriteP D s.data.toList l e D2 from .inr (.inr ⟨HE.out, i, f, HI.out, HFU.out, hR⟩))
      have HA := Lib.hid (after_below HB2.out (after_drew hA))
      clear hR hA
      go_wp2_with fail
      go_ret
      exact ⟨_, D2, rfl, HF.out, HA.out⟩
  · have hd : (r == 0) = false := by simpa using hr
    go_quiet (fail)
    go_wp2_with fail
    refine (operate_err _ _ r hr _ _).mono ?_
    rintro e w3 ⟨rfl, hw⟩
    have HA : Hid (After w p T w3 D) := by rw [← hw]; exact (after_below HB2.out (After.refl H2.out)).drewN _
    have HR := Lib.hid hr
    clear hw hr
    go_wp2_with fail
    go_ret
    exact ⟨_, D, rfl, .inl ⟨by rw [HE.out]; exact HR.out, HE.out.symm, rfl⟩, HA.out⟩
end Go.Proofs.Ytddhhgbbeeeieaa
