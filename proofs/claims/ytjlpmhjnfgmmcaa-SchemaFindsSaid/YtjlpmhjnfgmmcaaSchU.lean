/- Contract of Rollup. Conditions: none. -/
import Derived.Test.YtjlpmhjnfgmmcaaSchT
set_option maxRecDepth 100000
namespace Go.Proofs.Ytjlpmhjnfgmmcaa
open Go.RowKit Go.Maps Go.Sort Go.Lib

theorem colVal_form (cs : Cl) (s : ByteArray) : ∃ i : Int, colVal cs s = .tuple #[.int .i64 i, .int .i64 (kindAt cs s), .bool (!lacksB cs s)] := by
  unfold colVal kindAt lacksB
  cases colAt cs s with
  | none => exact ⟨0, rfl⟩
  | some x => exact ⟨x.1, rfl⟩
/-- a rollup in a block of its own -/
structure RolBox (W : World) (b : Nat) (rn rt : ByteArray) (pd : Option Addr) (nd kd : Nat) (ds : List ByteArray) (pm : Option Addr) (nm km : Nat) (ms : Ml) : Prop where
  box : W.heap[b]? = some (.cells #[.string rn, .string rt, .slice pd nd kd, .slice pm nm km] 30 (0, 0))
  dims : Holds W (.slice pd nd kd) (strs ds)
  meas : Holds2 W (.slice pm nm km) (ms.map meaC)
  ld : ds.length = nd
  lm : ms.length = nm
theorem RolBox.below {W V : World} {b : Nat} {rn rt : ByteArray} {pd pm : Option Addr} {nd kd nm km : Nat} {ds : List ByteArray} {ms : Ml} (h : RolBox W b rn rt pd nd kd ds pm nm km ms) (hb : Below W.heap.size W V) : RolBox V b rn rt pd nd kd ds pm nm km ms :=
  ⟨(hb.block b (lt_of_heap2 h.box)).trans h.box, h.dims.below hb, h.meas.below hb, h.ld, h.lm⟩
theorem RolBox.cells {W : World} {b : Nat} {rn rt : ByteArray} {pd pm : Option Addr} {nd kd nm km : Nat} {ds : List ByteArray} {ms : Ml} (h : RolBox W b rn rt pd nd kd ds pm nm km ms) :
    W.cell? ⟨b, 0, none⟩ = some (.string rn) ∧ W.cell? ⟨b, 1, none⟩ = some (.string rt) ∧ W.cell? ⟨b, 2, none⟩ = some (.slice pd nd kd) ∧ W.cell? ⟨b, 3, none⟩ = some (.slice pm nm km) := by
  rw [cell_of_row _ _ _ _ _ _ h.box, cell_of_row _ _ _ _ _ _ h.box, cell_of_row _ _ _ _ _ _ h.box, cell_of_row _ _ _ _ _ _ h.box]
  exact ⟨rfl, rfl, rfl, rfl⟩
theorem ent_str : Ent 40 := ent_of Try.func40 (by decide) rfl
theorem ent_r1 : Ent 35 := ent_of Try.func35 (by decide) rfl
theorem ent_r2 : Ent 36 := ent_of Try.func36 (by decide) rfl
theorem ent_r3 : Ent 37 := ent_of Try.func37 (by decide) rfl
theorem ent_r4 : Ent 38 := ent_of Try.func38 (by decide) rfl
theorem ent_r5 : Ent 41 := ent_of Try.func41 (by decide) rfl
theorem ent_r51 : Ent 43 := ent_of Try.func43 (by decide) rfl
theorem ent_r6 : Ent 44 := ent_of Try.func44 (by decide) rfl
theorem ent_r7 : Ent 46 := ent_of Try.func46 (by decide) rfl
theorem ent_r71 : Ent 47 := ent_of Try.func47 (by decide) rfl
section
variable {W : World} {b t : Nat} {rn rt tn : ByteArray} {pd pm p : Option Addr} {nd kd nm km n k : Nat} {ds : List ByteArray} {ms : Ml} {cs : Cl}
theorem r1_any (h : TabBox W t tn p n k cs) (hn : n ≤ 9223372036854775807) (s : ByteArray) :
    Calls Try.prog 35 #[.string s, .pointer (some ⟨t, 0, none⟩)] W fun e w' => e = .returned (.bool (lacksB cs s)) ∧ Below W.heap.size W w' := by
  have KC := column_any h.cols h.len hn tn s
  obtain ⟨i, hi⟩ := colVal_form cs s
  rw [hi] at KC
  generalize lacksB cs s = B at *
  generalize kindAt cs s = K at *
  obtain ⟨c0, c1⟩ := h.cells
  clear h hi
  go_enter Try.func35, Try.ntmps35
  go_wp2_with fail
  refine KC.mono ?_
  rintro e w1 ⟨rfl, hb⟩
  go_wp2_with fail
  go_ret
  exact ⟨by simp, hb⟩
theorem r2_any (h : RolBox W b rn rt pd nd kd ds pm nm km ms) : Calls Try.prog 36 #[.pointer (some ⟨b, 0, none⟩)] W fun e w' => e = .returned (.bool (!nmB rn)) ∧ Below W.heap.size W w' := by
  have KN := name_any rn W
  unfold nmB
  generalize nameL rn.data.toList = NB at *
  obtain ⟨c0, c1, c2, c3⟩ := h.cells
  clear h
  go_enter Try.func36, Try.ntmps36
  go_wp2_with fail
  refine KN.mono ?_
  rintro e w1 ⟨rfl, hb⟩
  go_wp2_with fail
  go_ret
  exact ⟨rfl, hb⟩
theorem r3_any (h : RolBox W b rn rt pd nd kd ds pm nm km ms) (hT : TabBox W t tn p n k cs) : Calls Try.prog 37 #[.pointer (some ⟨b, 0, none⟩), .pointer (some ⟨t, 0, none⟩)] W fun e w' => e = .returned (.bool (!(rt == tn))) ∧ Below W.heap.size W w' := by
  obtain ⟨c0, c1, c2, c3⟩ := h.cells
  obtain ⟨d0, d1⟩ := hT.cells
  have hq := beq_list rt tn
  generalize (rt == tn) = B at *
  clear h hT
  go_enter Try.func37, Try.ntmps37
  go_wp2_with fail
  go_ret
  exact ⟨by rw [← hq]; rfl, Below.refl _ _⟩
theorem r4_any (h : RolBox W b rn rt pd nd kd ds pm nm km ms) (hm : nm ≤ 9223372036854775807) : Calls Try.prog 38 #[.pointer (some ⟨b, 0, none⟩)] W fun e w' => e = .returned (.bool (decide (8 < nd) || (decide (16 < nm) || ms.any strB))) ∧ Below W.heap.size W w' := by
  obtain ⟨c0, c1, c2, c3⟩ := h.cells
  have KC := has_mea h.meas h.lm hm ent_str (C := #[]) (q := strB) (fun x _ V2 _ => str_any x V2)
  generalize ms.any strB = B at *
  clear h
  have t0 : decide ((8 : Int) < (nd : Int)) = decide (8 < nd) := by rw [Bool.eq_iff_iff, decide_eq_true_iff, decide_eq_true_iff]; omega
  have t1 : decide ((16 : Int) < (nm : Int)) = decide (16 < nm) := by rw [Bool.eq_iff_iff, decide_eq_true_iff, decide_eq_true_iff]; omega
  cases h0 : decide (8 < nd)
  · cases h1 : decide (16 < nm)
    · rw [h0] at t0
      rw [h1] at t1
      clear h0 h1
      go_enter Try.func38, Try.ntmps38
      go_wp2_with fail
      refine KC.mono ?_
      rintro e w1 ⟨rfl, hb⟩
      go_wp2_with fail
      go_ret
      exact ⟨rfl, hb⟩
    · rw [h0] at t0
      rw [h1] at t1
      clear h0 h1 KC
      go_enter Try.func38, Try.ntmps38
      go_wp2_with fail
      go_ret
      exact ⟨rfl, Below.refl _ _⟩
  · rw [h0] at t0
    clear h0 KC t1
    go_enter Try.func38, Try.ntmps38
    go_wp2_with fail
    go_ret
    exact ⟨rfl, Below.refl _ _⟩
/-- the variable that holds 'lacks' -/
def LackBox (W : World) (l t : Nat) : Prop := W.heap[l]? = some (.cells #[.func (.func 35) #[] #[.pointer (some ⟨t, 0, none⟩)]] 23 (0, 0))
theorem LackBox.below {V : World} {l : Nat} (h : LackBox W l t) (hb : Below W.heap.size W V) : LackBox V l t := (hb.block l (lt_of_heap2 h)).trans h
theorem LackBox.cell {l : Nat} (h : LackBox W l t) : W.cell? ⟨l, 0, none⟩ = some (.func (.func 35) #[] #[.pointer (some ⟨t, 0, none⟩)]) := by
  rw [cell_of_row _ _ _ _ _ _ h]; rfl
theorem r51_any {l : Nat} (h : TabBox W t tn p n k cs) (hl : LackBox W l t) (hn : n ≤ 9223372036854775807) (m : Int × ByteArray) :
    Calls Try.prog 43 #[.agg #[.int .i64 m.1, .string m.2], .pointer (some ⟨l, 0, none⟩)] W fun e w' => e = .returned (.bool (lacksB cs m.2)) ∧ Below W.heap.size W w' := by
  obtain ⟨x, s⟩ := m
  have hb1 := box_below W (.cells #[.int .i64 x, .string s] 41)
  have K1 := r1_any (h.below hb1) hn s
  have hc := (hl.below hb1).cell
  have hent := ent_r1
  unfold Ent at hent
  have HB := Lib.hid hb1
  simp only
  generalize lacksB cs s = B at *
  clear h hl hb1
  go_enter Try.func43, Try.ntmps43
  go_wp2_with fail
  refine K1.mono ?_
  rintro e w1 ⟨rfl, hb⟩
  go_wp2_with fail
  go_ret
  exact ⟨rfl, HB.out.trans (hb.mono HB.out.size)⟩
theorem r5_any {l : Nat} (h : RolBox W b rn rt pd nd kd ds pm nm km ms) (hT : TabBox W t tn p n k cs) (hl : LackBox W l t) (hn : n ≤ 9223372036854775807) (hd : nd ≤ 9223372036854775807) (hm : nm ≤ 9223372036854775807) :
    Calls Try.prog 41 #[.pointer (some ⟨b, 0, none⟩), .pointer (some ⟨l, 0, none⟩)] W fun e w' => e = .returned (.bool (ds.any (lacksB cs) || ms.any fun m => lacksB cs m.2)) ∧ Below W.heap.size W w' := by
  obtain ⟨c0, c1, c2, c3⟩ := h.cells
  have hc := hl.cell
  have K1 := has_str h.dims h.ld hd ent_r1 (C := #[.pointer (some ⟨t, 0, none⟩)]) (q := lacksB cs) (fun x _ V2 hV => r1_any (hT.below hV) hn x)
  have K2 := Lib.hid (fun (V : World) (hV : Below W.heap.size W V) => And.intro (h.below hV).cells (has_mea (h.below hV).meas h.lm hm ent_r51 (C := #[.pointer (some ⟨l, 0, none⟩)]) (q := fun m => lacksB cs m.2) (fun x _ V2 hV2 => r51_any ((hT.below hV).below hV2) ((hl.below hV).below hV2) hn x)))
  generalize ds.any (lacksB cs) = B1 at *
  generalize (ms.any fun m => lacksB cs m.2) = B2 at *
  clear h hT hl
  cases B1
  · go_enter Try.func41, Try.ntmps41
    go_wp2_with fail
    refine K1.mono ?_
    rintro e w1 ⟨rfl, hb⟩
    obtain ⟨⟨d0, d1, d2, d3⟩, K3⟩ := K2.out w1 hb
    have HB := Lib.hid hb
    clear K2 c0 c1 c2 c3 hc hb
    go_wp2_with fail
    refine K3.mono ?_
    rintro e w2 ⟨rfl, hb2⟩
    go_wp2_with fail
    go_ret
    exact ⟨rfl, HB.out.trans (hb2.mono HB.out.size)⟩
  · clear K2
    go_enter Try.func41, Try.ntmps41
    go_wp2_with fail
    refine K1.mono ?_
    rintro e w1 ⟨rfl, hb⟩
    go_wp2_with fail
    go_ret
    exact ⟨rfl, hb⟩
theorem r6_any (h : RolBox W b rn rt pd nd kd ds pm nm km ms) (hd : nd ≤ 9223372036854775807) (hm : nm ≤ 9223372036854775807) :
    Calls Try.prog 44 #[.pointer (some ⟨b, 0, none⟩)] W fun e w' => e = .returned (.bool (dupL ds || dupL ms)) ∧ Below W.heap.size W w' := by
  obtain ⟨c0, c1, c2, c3⟩ := h.cells
  have K1 := twice_str h.dims h.ld hd
  have K2 := Lib.hid (fun (V : World) (hV : Below W.heap.size W V) => And.intro (h.below hV).cells (twice_mea (h.below hV).meas h.lm hm))
  generalize dupL ds = B1 at *
  generalize dupL ms = B2 at *
  clear h
  cases B1
  · go_enter Try.func44, Try.ntmps44
    go_wp2_with fail
    refine K1.mono ?_
    rintro e w1 ⟨rfl, hb⟩
    obtain ⟨⟨d0, d1, d2, d3⟩, K3⟩ := K2.out w1 hb
    have HB := Lib.hid hb
    clear K2 c0 c1 c2 c3 hb
    go_wp2_with fail
    refine K3.mono ?_
    rintro e w2 ⟨rfl, hb2⟩
    go_wp2_with fail
    go_ret
    exact ⟨rfl, HB.out.trans (hb2.mono HB.out.size)⟩
  · clear K2
    go_enter Try.func44, Try.ntmps44
    go_wp2_with fail
    refine K1.mono ?_
    rintro e w1 ⟨rfl, hb⟩
    go_wp2_with fail
    go_ret
    exact ⟨rfl, hb⟩
theorem r71_any (h : TabBox W t tn p n k cs) (hn : n ≤ 9223372036854775807) (m : Int × ByteArray) :
    Calls Try.prog 47 #[.agg #[.int .i64 m.1, .string m.2], .pointer (some ⟨t, 0, none⟩)] W fun e w' => e = .returned (.bool (noMea m.1 (kindAt cs m.2))) ∧ Below W.heap.size W w' := by
  obtain ⟨x, s⟩ := m
  have hb1 := box_below W (.cells #[.int .i64 x, .string s] 41)
  have hbx := heap_alloc_new W (.cells #[.int .i64 x, .string s] 41)
  have KC := column_any (h.below hb1).cols h.len hn tn s
  obtain ⟨i, hi⟩ := colVal_form cs s
  rw [hi] at KC
  simp only
  have KM := measures_any x (kindAt cs s)
  generalize lacksB cs s = B at *
  generalize kindAt cs s = K at *
  generalize noMea x K = M at *
  obtain ⟨c0, c1⟩ := (h.below hb1).cells
  have HB := Lib.hid hb1
  have HX := Lib.hid hbx
  have HS : Hid (W.heap.size < (W.alloc (.cells #[.int .i64 x, .string s] 41)).heap.size) := Lib.hid (by simp)
  clear h hi hb1 hbx
  go_enter Try.func47, Try.ntmps47
  go_wp2_with fail
  refine KC.mono ?_
  rintro e w1 ⟨rfl, hb⟩
  have d0 := cell_of_row _ _ 0 _ _ _ ((hb.block _ HS.out).trans HX.out)
  simp at d0
  have HB2 := Lib.hid (HB.out.trans (hb.mono HB.out.size))
  have KM1 := KM w1
  clear hb c0 c1 KM
  go_wp2_with fail
  refine KM1.mono ?_
  rintro e w2 ⟨rfl, rfl⟩
  go_wp2_with fail
  go_ret
  exact ⟨by simp, HB2.out⟩
theorem r7_any (h : RolBox W b rn rt pd nd kd ds pm nm km ms) (hT : TabBox W t tn p n k cs) (hn : n ≤ 9223372036854775807) (hm : nm ≤ 9223372036854775807) :
    Calls Try.prog 46 #[.pointer (some ⟨b, 0, none⟩), .pointer (some ⟨t, 0, none⟩)] W fun e w' => e = .returned (.bool (ms.any fun m => noMea m.1 (kindAt cs m.2))) ∧ Below W.heap.size W w' := by
  obtain ⟨c0, c1, c2, c3⟩ := h.cells
  have K1 := has_mea h.meas h.lm hm ent_r71 (C := #[.pointer (some ⟨t, 0, none⟩)]) (q := fun m => noMea m.1 (kindAt cs m.2)) (fun x _ V2 hV => r71_any (hT.below hV) hn x)
  generalize (ms.any fun m => noMea m.1 (kindAt cs m.2)) = B1 at *
  clear h hT
  go_enter Try.func46, Try.ntmps46
  go_wp2_with fail
  refine K1.mono ?_
  rintro e w1 ⟨rfl, hb⟩
  go_wp2_with fail
  go_ret
  exact ⟨rfl, hb⟩
end
/-- the six questions of Rollup -/
def rolF (b t l : Nat) (rn rt : ByteArray) (ds : List ByteArray) (ms : Ml) (tn : ByteArray) (cs : Cl) : List Flt :=
  [⟨3, 36, #[.pointer (some ⟨b, 0, none⟩)], !nmB rn⟩, ⟨14, 37, #[.pointer (some ⟨b, 0, none⟩), .pointer (some ⟨t, 0, none⟩)], !(rt == tn)⟩,
    ⟨2, 38, #[.pointer (some ⟨b, 0, none⟩)], decide (8 < ds.length) || (decide (16 < ms.length) || ms.any strB)⟩,
    ⟨13, 41, #[.pointer (some ⟨b, 0, none⟩), .pointer (some ⟨l, 0, none⟩)], ds.any (lacksB cs) || ms.any fun m => lacksB cs m.2⟩,
    ⟨5, 44, #[.pointer (some ⟨b, 0, none⟩)], dupL ds || dupL ms⟩,
    ⟨12, 46, #[.pointer (some ⟨b, 0, none⟩), .pointer (some ⟨t, 0, none⟩)], ms.any fun m => noMea m.1 (kindAt cs m.2)⟩]
theorem rolF_ans (b t l : Nat) (rn rt : ByteArray) (ds : List ByteArray) (ms : Ml) (tn : ByteArray) (cs : Cl) : firstE (rolF b t l rn rt ds ms tn cs) = rolE rn rt ds ms tn cs := rfl
theorem rolF_ent (b t l : Nat) (rn rt : ByteArray) (ds : List ByteArray) (ms : Ml) (tn : ByteArray) (cs : Cl) : ∀ x ∈ rolF b t l rn rt ds ms tn cs, Ent x.f := fun x hx => by
  simp only [rolF, List.mem_cons, List.not_mem_nil, or_false] at hx
  rcases hx with rfl | rfl | rfl | rfl | rfl | rfl
  · exact ent_r2
  · exact ent_r3
  · exact ent_r4
  · exact ent_r5
  · exact ent_r6
  · exact ent_r7
set_option maxHeartbeats 3200000 in
theorem rollup_any {w : World} {rn rt tn : ByteArray} {pd pm p : Option Addr} {nd kd nm km n k : Nat} {ds : List ByteArray} {ms : Ml} {cs : Cl} (hd : Holds w (.slice pd nd kd) (strs ds)) (hm : Holds2 w (.slice pm nm km) (ms.map meaC)) (hc : Holds2 w (.slice p n k) (cs.map colC))
    (ld : ds.length = nd) (lm : ms.length = nm) (lc : cs.length = n) (hn : n ≤ 9223372036854775807) (hnd : nd ≤ 9223372036854775807) (hnm : nm ≤ 9223372036854775807) :
    Calls Try.prog 15 #[.agg #[.string rn, .string rt, .slice pd nd kd, .slice pm nm km], .agg #[.string tn, .slice p n k]] w fun e w' => e = .returned (.int .i64 (rolE rn rt ds ms tn cs)) ∧ Below w.heap.size w w' := by
  obtain ⟨W1, hW1⟩ : ∃ W, w.alloc (.cells #[.string rn, .string rt, .slice pd nd kd, .slice pm nm km] 30) = W := ⟨_, rfl⟩
  have hb1 : Below w.heap.size w W1 := by rw [← hW1]; exact box_below _ _
  have hs1 : W1.heap.size = w.heap.size + 1 := by rw [← hW1]; simp
  have hx1 : W1.heap[w.heap.size]? = some (.cells #[.string rn, .string rt, .slice pd nd kd, .slice pm nm km] 30 (0, 0)) := by rw [← hW1]; exact heap_alloc_new w _
  have hR1 : RolBox W1 w.heap.size rn rt pd nd kd ds pm nm km ms := ⟨hx1, hd.below hb1, hm.below hb1, ld, lm⟩
  obtain ⟨W2, hW2⟩ : ∃ W, W1.alloc (.cells #[.string tn, .slice p n k] 26) = W := ⟨_, rfl⟩
  have hb2 : Below W1.heap.size W1 W2 := by rw [← hW2]; exact box_below _ _
  have hs2 : W2.heap.size = w.heap.size + 1 + 1 := by rw [← hW2]; simp [hs1]
  have hx2 : W2.heap[w.heap.size + 1]? = some (.cells #[.string tn, .slice p n k] 26 (0, 0)) := by rw [← hW2, ← hs1]; exact heap_alloc_new W1 _
  have hT2 : TabBox W2 (w.heap.size + 1) tn p n k cs := ⟨hx2, (hc.below hb1).below hb2, lc⟩
  obtain ⟨W3, hW3⟩ : ∃ W, W2.alloc (.cells #[.func (.func 35) #[] #[.pointer (some ⟨w.heap.size + 1, 0, none⟩)]] 23) = W := ⟨_, rfl⟩
  have hb3 : Below W2.heap.size W2 W3 := by rw [← hW3]; exact box_below _ _
  have hs3 : W3.heap.size = w.heap.size + 1 + 1 + 1 := by rw [← hW3]; simp [hs2]
  have hL3 : LackBox W3 (w.heap.size + 1 + 1) (w.heap.size + 1) := by
    unfold LackBox
    rw [← hW3, ← hs2]; exact heap_alloc_new W2 _
  have hR3 := (hR1.below hb2).below hb3
  have hT3 := hT2.below hb3
  obtain ⟨A, hA⟩ : ∃ A : Array Value, #[.int .i64 3, .func (.func 36) #[] #[.pointer (some ⟨w.heap.size, 0, none⟩)], .int .i64 14, .func (.func 37) #[] #[.pointer (some ⟨w.heap.size, 0, none⟩), .pointer (some ⟨w.heap.size + 1, 0, none⟩)],
    .int .i64 2, .func (.func 38) #[] #[.pointer (some ⟨w.heap.size, 0, none⟩)], .int .i64 13, .func (.func 41) #[] #[.pointer (some ⟨w.heap.size, 0, none⟩), .pointer (some ⟨w.heap.size + 1 + 1, 0, none⟩)],
    .int .i64 5, .func (.func 44) #[] #[.pointer (some ⟨w.heap.size, 0, none⟩)], .int .i64 12, .func (.func 46) #[] #[.pointer (some ⟨w.heap.size, 0, none⟩), .pointer (some ⟨w.heap.size + 1, 0, none⟩)]] = A := ⟨_, rfl⟩
  have hH := holds2_new W3 57 ((rolF w.heap.size (w.heap.size + 1) (w.heap.size + 1 + 1) rn rt ds ms tn cs).map fltC) 6 rfl A (by rw [← hA]; rfl)
  have hb4 := box_below W3 (.cells A 57)
  have hR4 := hR3.below hb4
  have hT4 := hT3.below hb4
  have hL4 := hL3.below hb4
  have KF := first_any hH rfl (by omega) (rolF_ent _ _ _ rn rt ds ms tn cs) (fun i x hx hno V hV => by
    have hRV := hR4.below hV
    have hTV := hT4.below hV
    have hLV := hL4.below hV
    match i, hx with
    | 0, hx => cases hx; exact r2_any hRV
    | 1, hx => cases hx; exact r3_any hRV hTV
    | 2, hx => cases hx; have := r4_any hRV hnm; rw [← ld, ← lm] at this; exact this
    | 3, hx => cases hx; exact r5_any hRV hTV hLV hn hnd hnm
    | 4, hx => cases hx; exact r6_any hRV hnd hnm
    | 5, hx => cases hx; exact r7_any hRV hTV hn hnm)
  rw [rolF_ans, hs3] at KF
  have HB := Lib.hid ((hb1.trans (hb2.mono hb1.size)).trans ((hb3.trans (hb4.mono hb3.size)).mono (Nat.le_trans hb1.size hb2.size)))
  clear hH hb4 hR4 hT4 hL4 hR3 hT3 hL3 hT2 hx2 hx1 hR1 hb3 hb2 hb1 hd hm hc
  have hsf : ∀ (a : Addr) (W : World) m c, (store a (.func (.func 35) #[] c) m).run Try.prog W = stored Try.prog W a (.func (.func 35) #[] c) m := fun a W m c => run_store _ W a _ m rfl
  subst hA hW3 hW2 hW1
  clear hs1 hs2 hs3
  go_enter Try.func15, Try.ntmps15
  go_wp2_with fail
  refine KF.mono ?_
  rintro e w1 ⟨rfl, hb⟩
  go_wp2_with fail
  go_ret
  exact ⟨rfl, HB.out.trans (hb.mono HB.out.size)⟩
end Go.Proofs.Ytjlpmhjnfgmmcaa
