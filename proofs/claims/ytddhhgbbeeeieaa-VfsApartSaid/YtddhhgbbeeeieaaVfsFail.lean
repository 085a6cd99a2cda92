/- Contract of vfs.Disk.fail: what was synced stays, and of the pending bytes those that keep names. Conditions: a disk that was made. -/
import Derived.Test.YtddhhgbbeeeieaaVfsUpd
import Derived.IntWalk
set_option maxRecDepth 100000
namespace Go.Proofs.Ytddhhgbbeeeieaa
open Go.RowKit Go.Maps Go.Sort

theorem goodL_len {l : List UInt8} (h : goodL l = true) : l.length ≤ 32 := by
  unfold goodL at h
  simp only [Bool.and_eq_true, decide_eq_true_eq] at h
  omega
def bs (l : List UInt8) : ByteArray := ⟨l.toArray⟩
theorem bs_list (l : List UInt8) : (bs l).data.toList = l := by simp [bs]
theorem bs_size (l : List UInt8) : (bs l).size = l.length := by simp [bs, ByteArray.size]
theorem row_cell {w : World} {g cap n : Nat} {e : TypeId} {base : Nat} {xs : List Value} (h : w.ownsRow base e 1 (.slice (some ⟨g, 0, none⟩) n cap) n xs) {k : Nat} {v : Value} (hv : xs[k]? = some v) : w.cell? ⟨g, k, none⟩ = some v := by
  have := h.cells (g := g) rfl k v hv
  unfold Addr.add at this
  by_cases hk : k = 0
  · subst hk; simpa using this
  · rw [if_neg hk] at this
    simpa using this

theorem name_cell {w0 w1 wr : World} {T : Nat → Option (Nat × Nat)} {a : Option Addr} {n cap k : Nat} {e : TypeId} {xs : List Value} {v : Value} (hr : w1.ownsRow w0.heap.size e 1 (.slice a n cap) n xs) (hT : ∀ k, T k ≠ none → k < w0.heap.size)
    (hk : Kept (In T) w1 wr) (hlt : k < n) (hv : xs[k]? = some v) : ∃ g, a = some ⟨g, 0, none⟩ ∧ n ≤ cap ∧ wr.cell? ⟨g, k, none⟩ = some v := by
  rcases hr.2 with ⟨h1, h2⟩ | ⟨g, cap', cur, h1, hb, hg, h2, h3, h4, h5⟩
  · omega
  · cases h1
    refine ⟨g, rfl, h2, ?_⟩
    have hlt1 : g < w1.heap.size := (Array.getElem?_eq_some_iff.1 hg).1
    have hbl := hk.block g hlt1 (fun hx => by have := hT g hx; omega)
    rw [World.cell?_of_block (w := w1) (a := ⟨g, k, none⟩) hbl]
    exact row_cell hr hv

theorem fail_end {w wr : World} {p : Nat} {T : Nat → Option (Nat × Nat)} {D : DV} {L : List (List UInt8 × FileC)} (h : DiskAt wr p T { D with files := L }) (hk : Kept (In T) w wr) :
    DiskAt ((wr.setCell ⟨p, 1, none⟩ (.bool false)).setCell ⟨p, 4, none⟩ (.slice none 0 0)) p T { D with files := L, on := false, ks := .slice none 0 0, keep := [] } ∧
      Kept (In T) w ((wr.setCell ⟨p, 1, none⟩ (.bool false)).setCell ⟨p, 4, none⟩ (.slice none 0 0)) := by
  have hp : In T p := by unfold In; rw [h.tp]; simp
  refine ⟨?_, (hk.setCell (.inl hp) _).setCell (.inl hp) _⟩
  have h1 := heap_setCell_same (j := 1) h.disk (.bool false)
  have h2 := heap_setCell_same (j := 4) h1 (.slice none 0 0)
  exact h.setOwn (T' := T) (on := false) (ops := D.ops) (left := D.left) (ks := .slice none 0 0) (keep := []) h2 (World.ownsRow_nil _ _ _ _) (fun _ _ => rfl) (fun b hb => by simp [Value.ownBlock] at hb)
    (fun k hk => by simpa [World.setCell] using h.bound k hk) (fun k _ hkp _ => by rw [Below.heap_setCell _ _ _ _ hkp, Below.heap_setCell _ _ _ _ hkp])

theorem fail_mid {w1 wr w2 : World} {p nn k : Nat} {T : Nat → Option (Nat × Nat)} {D : DV} {name : List UInt8} {f : FileC} {m : Int} (h : DiskAt wr p T { D with files := failK D.keep D.files k }) (hq : D.files[k]? = some (name, f)) (hk : Kept (In T) w1 wr)
    (hw : (wr.drewN nn).setCell ⟨f.blk, 1, none⟩ (.int .i64 m) = w2) :
    w2.heap[f.blk]? = some (.cells #[f.sl, .int .i64 m] 80 (0, 0)) ∧ Kept (In T) w1 w2 ∧ (∀ x, x ≠ f.blk → w2.heap[x]? = wr.heap[x]?) ∧ w2.heap.size = wr.heap.size := by
  have hmem := List.mem_iff_getElem?.2 ⟨k, failK_at (keep := D.keep) hq⟩
  subst hw
  exact ⟨heap_setCell_same (w := wr.drewN nn) (j := 1) (h.files name f hmem).blk _, (hk.drewN _).setCell (.inl (by unfold In; rw [h.tf name f hmem]; simp)) _, fun x hx => by rw [Below.heap_setCell _ _ _ _ hx]; rfl, by simp [World.setCell]⟩

theorem fail_step {w1 wr w2 w3 : World} {p k : Nat} {T : Nat → Option (Nat × Nat)} {D : DV} {name : List UInt8} {f f' : FileC} (h : DiskAt wr p T { D with files := failK D.keep D.files k }) (hq : D.files[k]? = some (name, f)) (hk : Kept (In T) w1 w2) (hf : f' = failF D.keep k f)
    (h2 : w2.heap[f.blk]? = some (.cells #[f.sl, .int .i64 (failN D.keep k f : Int)] 80 (0, 0))) (o2 : ∀ x, x ≠ f.blk → w2.heap[x]? = wr.heap[x]?) (s2 : w2.heap.size = wr.heap.size)
    (hw : (w2.setCell ⟨f.blk, 0, none⟩ f'.sl).drew = w3) : Hid (DiskAt w3 p T { D with files := failK D.keep D.files (k + 1) }) ∧ Hid (Kept (In T) w1 w3) := by
  subst hw hf
  have hq2 := failK_at (keep := D.keep) hq
  have hmem := List.mem_iff_getElem?.2 ⟨k, hq2⟩
  have hin : In T f.blk := by unfold In; rw [h.tf name f hmem]; simp
  refine ⟨?_, (hk.setCell (.inl hin) _).drew⟩
  have h3 := heap_setCell_same (w := w2) (j := 0) h2 (failF D.keep k f).sl
  have ho : ∀ x, x ≠ f.blk → (w2.setCell ⟨f.blk, 0, none⟩ (failF D.keep k f).sl).drew.heap[x]? = wr.heap[x]? := fun x hx => (Below.heap_setCell w2 ⟨f.blk, 0, none⟩ _ x hx).trans (o2 x hx)
  show DiskAt _ p T { D with files := failK D.keep D.files (k + 1) }
  rw [failK_succ hq]
  refine h.setAt (T' := T) (i := k) (f := f) (f' := failF D.keep k f) hq2 rfl (failF_at (h.files name f hmem) h3 (fun g hg => ho g (fun e => by
    have a1 := h.ts name f g hmem hg
    rw [e, h.tf name f hmem] at a1
    simp at a1))) (fun _ _ => rfl) (fun b hb => h.ts name f b hmem (by rw [← resl_own f.sl (failN D.keep k f)]; exact hb)) (fun x hx => ?_) (fun x _ hx _ => ho x hx)
  have : (w2.setCell ⟨f.blk, 0, none⟩ (failF D.keep k f).sl).drew.heap.size = wr.heap.size := by simp [World.setCell, s2]
  rw [this]
  exact h.bound x hx

set_option maxHeartbeats 1600000 in
theorem fail_any {w : World} {p : Nat} {T : Nat → Option (Nat × Nat)} {D : DV} (hD : DiskAt w p T D) :
    Calls Try.prog 62 #[.pointer (some ⟨p, 0, none⟩)] w fun e w' => e = .returned (.tuple #[]) ∧
      DiskAt w' p T { D with files := failK D.keep D.files D.files.length, on := false, ks := .slice none 0 0, keep := [] } ∧ Kept (In T) w w' := by
  have HD := Lib.hid hD
  have hroom := hD.room
  clear hD
  go_enter Try.func62, Try.ntmps62
  go_wp2_with fail
  refine (List_any HD.out).mono ?_
  rintro e w1 ⟨v, rfl, hrow, hb⟩
  obtain ⟨a, cap, hv, hc1, hc2⟩ := ownsRow_form hrow
  subst hv
  have hbase := HD.out.bound
  have HD1 := Lib.hid (HD.out.below hb)
  have HB := Lib.hid hb
  have HR := Lib.hid hrow
  clear hb hrow hbase hc1 hc2
  generalize hn : D.files.length = n at *
  have Hn := Lib.hid hn
  clear hn
  go_wp2_with fail
  go_loopw [2, 3, 4, 8] (fun _ _ _ i wr => ∃ k : Nat, k ≤ n ∧ i = .int .i64 k ∧ Hid (DiskAt wr p T { D with files := failK D.keep D.files k }) ∧ Hid (Kept (In T) w1 wr)) (fun _ _ _ i _ => n - (intOf i).toNat)
  case atStart => exact ⟨0, Nat.zero_le _, rfl, by rw [failK_zero]; exact HD1.out, Kept.refl _ _⟩
  case round =>
    obtain ⟨k, hk, rfl, HDk, HK⟩ := hrel
    by_cases hlt : k < n
    · have hlt' : k < D.files.length := by rw [Hn.out]; exact hlt
      obtain ⟨q, hq⟩ : ∃ q, D.files[k]? = some q := ⟨_, List.getElem?_eq_getElem hlt'⟩
      obtain ⟨name, f⟩ := q
      have hq2 := failK_at (keep := D.keep) hq
      have hfo := fileOf_at HDk.out.sorted hq2
      have hmem := List.mem_iff_getElem?.2 ⟨k, hq2⟩
      have hF := HDk.out.files name f hmem
      have hlen := goodL_len (HDk.out.good name f hmem)
      obtain ⟨g, ha, hcap, hname⟩ := name_cell (T := T) HR.out HD.out.bound HK.out hlt (k := k) (v := encStr name) (by simp [List.getElem?_map, hq])
      subst ha
      obtain ⟨c0, c1, c2, c3, c4⟩ := HDk.out.cell
      have hl0 := HDk.out.look (s := bs name) (by rw [bs_size]; unfold maxLen; omega) 0
      rw [bs_list, hfo] at hl0
      have hl : (Instr.lookup 50 (.map (some D.mb)) (.string ⟨name.toArray⟩) false).run Try.prog wr = .ok (.pointer (some ⟨f.blk, 0, none⟩)) wr := hl0
      have HFo := Lib.hid hfo
      have HF := Lib.hid hF
      have Hq := Lib.hid hq
      clear hl0 hfo hF hq hq2 hmem hlen c1 c2 c3 c4 hlt'
      go_wp2_with fail
      obtain ⟨d0, d1⟩ := HF.out.cell
      have g0 := HF.out.free 0
      have g1 := HF.out.free 1
      have hsy := HF.out.sync
      have hmx := HF.out.max
      have hst := stayN_range D.keep k ((f.bytes.length : Int) - f.synced) (by omega)
      obtain ⟨sa, scap, hsl, hsc1, hsc2⟩ := ownsRow_form HF.out.row
      have hss : IntKind.i64.wrap ((f.synced : Int) + stayN D.keep k ((f.bytes.length : Int) - f.synced)) = ((failN D.keep k f : Nat) : Int) := by
        rw [IntWalk.i64_in _ (by omega)]
        unfold failN; omega
      have HS := Lib.hid hss
      clear hss
      go_region_with (first
        | (go_at_call 54; refine (pending_any (f := f) ?_).mono ?_; exact ⟨HF.out.blk, HF.out.row, HF.out.sync, HF.out.max⟩; rintro e w' ⟨rfl, nn, rfl⟩)
        | (go_at_call 67; refine (stay_any (D := { D with files := failK D.keep D.files k }) (T := T) ?_ k _ (by omega)).mono ?_; exact HDk.out.move (fun _ _ => rfl) (Nat.le_refl _); rintro e w' ⟨rfl, nn, rfl⟩))
      all_goals
        go_wp2_with fail
        rw [HS.out]
        have hle := failN_le (keep := D.keep) (i := k) HF.out.sync
        generalize hw2 : World.setCell (World.drewN wr _) _ _ = w2
        obtain ⟨h2, k2, o2, s2⟩ := fail_mid HDk.out Hq.out HK.out hw2
        have e0 : w2.cell? ⟨f.blk, 0, none⟩ = some f.sl := by rw [cell_of_row w2 _ _ _ _ _ h2]; rfl
        have e1 : w2.cell? ⟨f.blk, 1, none⟩ = some (.int .i64 (failN D.keep k f : Int)) := by rw [cell_of_row w2 _ _ _ _ _ h2]; rfl
        have f0 := free_of_row h2 0
        have H2 := Lib.hid h2
        have K2 := Lib.hid k2
        have O2 := Lib.hid o2
        have S2 := Lib.hid s2
        have Hsl := Lib.hid hsl
        rw [hsl] at e0
        clear h2 k2 o2 s2 hw2 d0 d1 g0 g1 hl c0 hname hst hsy hmx hsl hsc2
        generalize hm : failN D.keep k f = m at *
        have Hm := Lib.hid hm
        have b1 : (0 : Int) ≤ (m : Int) := by omega
        have b2 : (m : Int) ≤ (scap : Int) := by omega
        clear hm
        go_wp2_with fail
        rcases HF.out.row.2 with ⟨q1, q2⟩ | ⟨gb, gcap, gcur, q1, _⟩
        · have q3 := q1.symm.trans Hsl.out
          have hm0 : m = 0 := by omega
          simp only [Value.slice.injEq] at q3
          obtain ⟨rfl, q4, rfl⟩ := q3
          rw [← q4] at e0
          subst hm0
          clear q1 q2 q4
          go_region
          all_goals
            go_wp2_with fail
            generalize hw3 : World.drew (World.setCell _ _ _) = w3
            have hfin := fail_step (w3 := w3) HDk.out Hq.out K2.out (f' := failF D.keep k f) rfl (by rw [Hm.out]; exact H2.out) O2.out S2.out (by unfold failF; simp only []; rw [Hm.out, Hsl.out]; exact hw3)
            go_roundw
            case rel => exact ⟨k + 1, by omega, by go_num, hfin.1, hfin.2⟩
            case measure => simp [intOf]; omega
        · have q3 := q1.symm.trans Hsl.out
          simp only [Value.slice.injEq] at q3
          obtain ⟨rfl, _, rfl⟩ := q3
          clear q1
          go_region
          all_goals
            go_wp2_with fail
            generalize hw3 : World.drew (World.setCell _ _ _) = w3
            have hfin := fail_step (w3 := w3) HDk.out Hq.out K2.out (f' := failF D.keep k f) rfl (by rw [Hm.out]; exact H2.out) O2.out S2.out (by unfold failF; simp only []; rw [Hm.out, Hsl.out]; exact hw3)
            go_roundw
            case rel => exact ⟨k + 1, by omega, by go_num, hfin.1, hfin.2⟩
            case measure => simp [intOf]; omega
    · have hkn : k = n := by omega
      subst hkn
      obtain ⟨c0, c1, c2, c3, c4⟩ := HDk.out.cell
      have f1 := HDk.out.free 1
      have f4 := HDk.out.free 4
      go_wp2
      go_end0
      have hfin := fail_end HDk.out HK.out
      have e2 : failK D.keep D.files k = failK D.keep D.files D.files.length := by rw [Hn.out]
      refine ⟨rfl, ?_, (Kept.of_below HB.out).trans hfin.2 (fun x hx => .inl hx)⟩
      rw [← e2]
      exact hfin.1
end Go.Proofs.Ytddhhgbbeeeieaa
