/- The example of layer 2: as the document says it. Conditions: the table of Sum reads as the program's text lays it. -/
import Derived.Test.YtpecajaoknnepaaDoorCodecPack
import Derived.Test.YtpecajaoknnepaaDoorCodecRuns
import Derived.Test.YtpecajaoknnepaaDoorCodecDelta
import Derived.Test.YtpecajaoknnepaaDoorCodecSum
set_option maxRecDepth 100000
namespace Go.Proofs.YtpecajaoknnepaaDoor
open Go.RowKit Go.Maps Go.Sort

theorem ex_pack : bytesN ((3 * 2 + 7) / 8) (bigN 3 (nats [5, 2])) = [21] := by decide
theorem ex_runs : runsB (runsOf [7, 7, 7, 1]) = [7, 3, 1, 1] := by
  have e : runsOf [7, 7, 7, 1] = [(7, 3), (1, 1)] := by decide
  rw [e]
  unfold runsB
  simp only [List.flatMap_cons, List.flatMap_nil]
  rw [dig_lo (show (7 : UInt64).toNat < 128 by decide), dig_lo (show 3 < 128 by decide), dig_lo (show (1 : UInt64).toNat < 128 by decide), dig_lo (show 1 < 128 by decide)]
  decide
theorem ex_delta : deltaL 0 [5, 3] = [10, 3] := by
  unfold deltaL deltaL deltaL
  have e1 : zigU (dlt 5 0) = 10 := by decide
  have e2 : zigU (dlt 3 5) = 3 := by decide
  rw [e1, e2, dig_lo (by decide), dig_lo (by decide)]
  decide
theorem bit5 : ∀ u ∈ ([5, 2] : List UInt64), Lib.bitLen u.toNat ≤ 3 := by decide
theorem lt5 : ∀ u ∈ ([5, 2] : List UInt64), u.toNat < 2 ^ 3 := by decide

theorem conv_new (w : World) (c : Array Value) (n m : Nat) : (convert 22 22 (.slice (some ⟨w.heap.size, 0, none⟩) n m)).run Tryd.prog (w.alloc (.cells c 5)) = .ok (.slice (some ⟨w.heap.size, 0, none⟩) n m) (w.alloc (.cells c 5 (c.size, c.size + 1))) := by
  have h := alloc1 w (.cells c 5)
  have hs : (w.alloc (.cells c 5)).shape? w.heap.size = some (5, c.size) := by unfold World.shape?; rw [h]
  simp [convert, run_underlying Tryd.underlying22, run_underlying Tryd.underlying5, markStringish, hs, freeze_new]

theorem new_holds (w : World) (c : Array Value) (t : TypeId) (fr : Nat × Nat) (l : List Value) (n : Nat) (hc : c.toList = l) (hn : n = l.length) : Holds (w.alloc (.cells c t fr)) (.slice (some ⟨w.heap.size, 0, none⟩) n n) l :=
  Holds.of_heap (alloc1 _ _) hc n n hn (Nat.le_refl _)
theorem below1 (w : World) (o : Obj) : Below w.heap.size w (w.alloc o) := (Below.refl _ _).alloc (Nat.le_refl _) _

/-- what holds the bytes l, made by the call that began in w -/
def Made (w : World) (w' : World) (v : Value) (l : List UInt8) : Prop := Holds w' v (u8s l) ∧ Below w.heap.size w w'

theorem same_lit {w : World} {v : Value} {l : List UInt8} (h : Holds w v (u8s l)) (c : Array Value) (n : Nat) (hc : c.toList = u8s l) (hn : n = l.length) :
    Calls Tryd.prog 14 #[v, .slice (some ⟨w.heap.size, 0, none⟩) n n] (w.alloc (.cells c 5)) fun r w' => r = .returned (.bool true) ∧ Hid (Below w.heap.size w w') :=
  (Same_any (h.below (below1 _ _)) (new_holds w c _ _ (u8s l) n hc (by rw [u8s_len]; exact hn))).mono fun _ _ ⟨h1, h2⟩ => ⟨by rw [h1, decide_eq_true rfl], h2 ▸ below1 _ _⟩
theorem pack_lit (w : World) : Calls Tryd.prog 22 #[.int .i64 3, .slice (some ⟨w.heap.size, 0, none⟩) 2 2] (w.alloc (.cells #[.int .u64 5, .int .u64 2] 23)) fun r w' => ∃ v, r = .returned (.tuple #[v, .int .i64 0]) ∧ Hid (Made w w' v [21]) :=
  (Pack_main (l := [5, 2]) (new_holds _ _ _ _ _ 2 rfl rfl) (by decide) 3 (by omega) bit5 lt5).mono fun _ _ ⟨v, h1, h2⟩ => ⟨v, h1, by
    have e1 := h2.out.1
    rw [show (3 * [(5 : UInt64), 2].length + 7) / 8 = (3 * 2 + 7) / 8 from rfl, ex_pack] at e1
    exact ⟨Holds.of_row (xs := u8s [21]) e1, (below1 w _).trans (h2.out.2.mono (by simp))⟩⟩
theorem runs_lit (w : World) : Calls Tryd.prog 31 #[.slice (some ⟨w.heap.size, 0, none⟩) 4 4] (w.alloc (.cells #[.int .u64 7, .int .u64 7, .int .u64 7, .int .u64 1] 23)) fun r w' => ∃ v, r = .returned v ∧ Hid (Made w w' v [7, 3, 1, 1]) :=
  (Runs_any (l := [7, 7, 7, 1]) (new_holds _ _ _ _ _ 4 rfl rfl) (by decide)).mono fun _ _ ⟨v, h1, h2⟩ => ⟨v, h1, by
    have e1 := h2.out.1
    rw [ex_runs] at e1
    exact ⟨Holds.of_row (xs := u8s [7, 3, 1, 1]) e1, (below1 w _).trans (h2.out.2.mono (by simp))⟩⟩
theorem delta_lit (w : World) : Calls Tryd.prog 33 #[.slice (some ⟨w.heap.size, 0, none⟩) 2 2] (w.alloc (.cells #[.int .i64 5, .int .i64 3] 3)) fun r w' => ∃ v, r = .returned v ∧ Hid (Made w w' v [10, 3]) :=
  (Deltas_any (l := [5, 3]) (new_holds _ _ _ _ _ 2 rfl rfl) (by decide)).mono fun _ _ ⟨v, h1, h2, h3⟩ => ⟨v, h1, by
    rw [ex_delta] at h2
    exact ⟨Holds.of_row (xs := u8s [10, 3]) h2, (below1 w _).trans (h3.mono (by simp))⟩⟩
theorem put_lit (w : World) : Calls Tryd.prog 15 #[.slice none 0 0, .int .u64 300] w fun r w' => ∃ v, r = .returned v ∧ Hid (Made w w' v [172, 2]) :=
  (Put_any (xs := []) (Holds.nil _) 300 (by omega) (by decide)).mono fun _ _ ⟨v, h1, h2, h3⟩ => ⟨v, h1, by
    rw [dig300] at h2
    exact ⟨Holds.of_row (xs := u8s [172, 2]) h2, h3⟩⟩
theorem sum_lit {w : World} (hq : Quads w) : Calls Tryd.prog 38 #[.slice (some ⟨w.heap.size, 0, none⟩) 9 9] (w.alloc (.cells #[.int .u8 49, .int .u8 50, .int .u8 51, .int .u8 52, .int .u8 53, .int .u8 54, .int .u8 55, .int .u8 56, .int .u8 57] 5 (9, 10))) fun r w' => r = .returned (.int .u32 3421780262) ∧ Hid (Below w.heap.size w w') :=
  (Sum_any (l := [49, 50, 51, 52, 53, 54, 55, 56, 57]) (hq.below (below1 w _) hq.1) (new_holds _ _ _ _ _ 9 rfl rfl) (by decide)).mono fun _ _ ⟨h1, h2⟩ => ⟨by rw [h1, sum_example]; rfl, h2 ▸ below1 _ _⟩

set_option maxHeartbeats 800000 in
theorem lives_any {w : World} (hq : Quads w) : Calls Tryd.prog 10 #[] w fun r w' => r = .returned (.bool true) ∧ Below w.heap.size w w' := by
  have hcv := conv_new
  have HQ := Lib.hid hq
  clear hq
  go_enter Tryd.func10, Tryd.ntmps10
  go_wp2_with fail
  refine (pack_lit _).mono ?_
  rintro e w1 ⟨v1, rfl, h1⟩
  go_wp2_with fail
  refine (Zig_any (-1) _ (by omega) (by omega)).mono ?_
  rintro e w1' ⟨rfl, rfl⟩
  rw [show zigN (-1) = 1 from rfl]
  go_wp2_with fail
  refine (put_lit _).mono ?_
  rintro e w2 ⟨v2, rfl, h2⟩
  have B2 := Lib.hid (h1.out.2.trans (h2.out.2.mono h1.out.2.size))
  have H1 := Lib.hid (h1.out.1.below h2.out.2)
  clear h1
  go_wp2_with fail
  refine (same_lit h2.out.1 _ _ rfl rfl).mono ?_
  rintro e w3 ⟨rfl, h3⟩
  have B3 := Lib.hid (B2.out.trans (h3.out.mono B2.out.size))
  have H1b := Lib.hid (H1.out.below h3.out)
  clear B2 H1 h2 h3
  go_wp2_with fail
  refine (same_lit H1b.out _ _ rfl rfl).mono ?_
  rintro e w4 ⟨rfl, h4⟩
  have B4 := Lib.hid (B3.out.trans (h4.out.mono B3.out.size))
  clear B3 H1b h4
  go_wp2_with fail
  refine (runs_lit _).mono ?_
  rintro e w5 ⟨v5, rfl, h5⟩
  have B5 := Lib.hid (B4.out.trans (h5.out.2.mono B4.out.size))
  clear B4
  go_wp2_with fail
  refine (same_lit h5.out.1 _ _ rfl rfl).mono ?_
  rintro e w6 ⟨rfl, h6⟩
  have B6 := Lib.hid (B5.out.trans (h6.out.mono B5.out.size))
  clear B5 h5 h6
  go_wp2_with fail
  refine (delta_lit _).mono ?_
  rintro e w7 ⟨v7, rfl, h7⟩
  have B7 := Lib.hid (B6.out.trans (h7.out.2.mono B6.out.size))
  clear B6
  go_wp2_with fail
  refine (same_lit h7.out.1 _ _ rfl rfl).mono ?_
  rintro e w8 ⟨rfl, h8⟩
  have B8 := Lib.hid (B7.out.trans (h8.out.mono B7.out.size))
  clear B7 h7 h8
  go_wp2_with fail
  refine (sum_lit (HQ.out.below B8.out HQ.out.1)).mono ?_
  rintro e w9 ⟨rfl, h9⟩
  have B9 := Lib.hid (B8.out.trans (h9.out.mono B8.out.size))
  clear B8 h9
  go_wp2_with fail
  go_ret
  exact ⟨rfl, B9.out⟩
end Go.Proofs.YtpecajaoknnepaaDoor
