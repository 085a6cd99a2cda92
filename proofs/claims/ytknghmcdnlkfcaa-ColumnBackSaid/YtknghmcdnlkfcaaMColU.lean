/- The walk of ColumnPicks. Conditions: none. -/
import Derived.Test.YtknghmcdnlkfcaaPackBD
import Derived.Test.YtknghmcdnlkfcaaMColER
set_option maxRecDepth 100000
namespace Go.Proofs.Ytknghmcdnlkfcaa
open Go.RowKit Go.Maps Go.Sort

theorem whereC_len (c : CV) (id : Int) : (whereC c id).length ≤ 1000 := by
  unfold whereC
  cases h : goodC c
  · simp
  · simp only [if_true]
    exact Nat.le_trans (whL_len c id _) (good_iff.1 h).2.1
theorem pickV_len (c : CV) (rows : List Int) : (pickV c rows).nl.length ≤ 1000 ∧ (pickV c rows).il.length ≤ 1000 := by
  unfold pickV
  cases h : pickOk c rows
  · simp
  · simp only [if_true, pickC, List.length_map]
    simp only [pickOk, Bool.and_eq_true, decide_eq_true_eq] at h
    exact ⟨h.1.2, h.1.2⟩
/-- a call behind a box: the box stays -/
theorem box_stays {w V : World} {x y : Value} {t : TypeId} (hb : Below (w.alloc (.cells #[x, y] t)).heap.size (w.alloc (.cells #[x, y] t)) V) : V.cell? ⟨w.heap.size, 0, none⟩ = some x ∧ V.cell? ⟨w.heap.size, 1, none⟩ = some y ∧ Below w.heap.size w V := by
  obtain ⟨h1, h2⟩ := box2 (hb.mono (by simp))
  exact ⟨h1, h2, (below_box w _).trans (hb.mono (by simp))⟩
theorem below_cells2 {B : Nat} {w V : World} {S : Nat} {x y : Value} (hb : Below B w V) (hS : S < B) (h0 : w.cell? ⟨S, 0, none⟩ = some x) (h1 : w.cell? ⟨S, 1, none⟩ = some y) : V.cell? ⟨S, 0, none⟩ = some x ∧ V.cell? ⟨S, 1, none⟩ = some y :=
  ⟨by rw [hb.cell (show S < B from hS)]; exact h0, by rw [hb.cell (show S < B from hS)]; exact h1⟩
set_option maxHeartbeats 3200000 in
theorem picks_walk {w : World} {a1 a2 a3 : Option Addr} {n1 n2 n3 k1 k2 k3 : Nat} {c : CV} {rows : List Int} (id : Int) (h1 : Holds w (.slice a1 n1 k1) (bls c.nl)) (h2 : Holds w (.slice a2 n2 k2) (i64s c.il)) (h3 : Holds w (.slice a3 n3 k3) (i64s rows)) :
    Calls Try.prog 4 #[.agg #[.slice a1 n1 k1, .slice a2 n2 k2], .slice a3 n3 k3, .int .i64 id] w fun e w' => e = .returned (.bool true) ∧ Below w.heap.size w w' := by
  have KL := clives_any
  have hbox := below_box w (.cells #[.slice a1 n1 k1, .slice a2 n2 k2] 25)
  have HBox := Lib.hid hbox
  by_cases hbig : 3000 < n2 ∨ 3000 < n1 ∨ 3000 < n3
  · have hcase : (decide ((3000 : Int) < (n2 : Int)) = true) ∨ (decide ((3000 : Int) < (n2 : Int)) = false ∧ decide ((3000 : Int) < (n1 : Int)) = true) ∨ (decide ((3000 : Int) < (n2 : Int)) = false ∧ decide ((3000 : Int) < (n1 : Int)) = false ∧ decide ((3000 : Int) < (n3 : Int)) = true) := by
      simp only [decide_eq_true_eq, decide_eq_false_iff_not]; omega
    clear h1 h2 h3 hbig hbox
    rcases hcase with u0 | ⟨u0, u1⟩ | ⟨u0, u1, u2⟩
    all_goals (
      go_enter Try.func4, Try.ntmps4
      go_wp2_with fail
      refine (KL _).mono ?_
      rintro e w' ⟨rfl, hb⟩
      have FB := Lib.hid (HBox.out.trans (hb.mono HBox.out.size))
      clear hb
      go_wp2_with fail
      go_ret
      exact ⟨rfl, FB.out⟩)
  have u0 : decide ((3000 : Int) < (n2 : Int)) = false := decide_eq_false (by omega)
  have u1 : decide ((3000 : Int) < (n1 : Int)) = false := decide_eq_false (by omega)
  have u2 : decide ((3000 : Int) < (n3 : Int)) = false := decide_eq_false (by omega)
  obtain ⟨X, hX⟩ : ∃ X, w.alloc (.cells #[.slice a1 n1 k1, .slice a2 n2 k2] 25) = X := ⟨_, rfl⟩
  have hx0 : X.heap[w.heap.size]? = some (.cells #[.slice a1 n1 k1, .slice a2 n2 k2] 25 (0, 0)) := by rw [← hX]; exact heap_alloc_new _ _
  rw [hX] at hbox
  have hs : X.heap.size = w.heap.size + 1 := by rw [← hX]; simp
  have c0 : X.cell? ⟨w.heap.size, 0, none⟩ = some (.slice a1 n1 k1) := by rw [cell_of_row _ _ _ _ _ _ hx0]; rfl
  have c1 : X.cell? ⟨w.heap.size, 1, none⟩ = some (.slice a2 n2 k2) := by rw [cell_of_row _ _ _ _ _ _ hx0]; rfl
  have HX := Lib.hid (show w.heap.size < X.heap.size by omega)
  have HQ := Lib.hid (fun (V : World) (hv : Below X.heap.size X V) => below_cells2 hv HX.out c0 c1)
  have g1 := h1.below hbox
  have g2 := h2.below hbox
  have g3 := h3.below hbox
  have KP := cpick_any g1 g2 g3
  have HRP := Lib.hid (fun (V : World) (hv : Below X.heap.size X V) => rcpick_any (g1.below hv) (g2.below hv) (g3.below hv))
  have HR := Lib.hid (fun (V : World) (hv : Below X.heap.size X V) => crange_any (g1.below hv) (g2.below hv))
  have HRR := Lib.hid (fun (V : World) (hv : Below X.heap.size X V) => rcrange_any (g1.below hv) (g2.below hv))
  have HWh := Lib.hid (fun (V : World) (hv : Below X.heap.size X V) => cwhere_any (g1.below hv) (g2.below hv) id)
  have HRW := Lib.hid (fun (V : World) (hv : Below X.heap.size X V) => rcwhere_any (g1.below hv) (g2.below hv) id)
  have HPL := Lib.hid (fun (V : World) => plain_any V a1 a2 n1 n2 k1 k2)
  have HB := Lib.hid hbox
  have HPLEN := Lib.hid (pickV_len c rows)
  have HWLEN := Lib.hid (whereC_len c id)
  obtain ⟨E, hE⟩ : ∃ E, pickE c rows = E := ⟨_, rfl⟩
  rw [hE] at KP HRP
  obtain ⟨P, hP⟩ : ∃ P, pickV c rows = P := ⟨_, rfl⟩
  rw [hP] at KP HRP HPLEN
  obtain ⟨lo, hlo⟩ : ∃ lo, Lib.minOf (present c) = lo := ⟨_, rfl⟩
  obtain ⟨hi, hhi⟩ : ∃ hi, Lib.maxOf (present c) = hi := ⟨_, rfl⟩
  obtain ⟨ok, hok⟩ : ∃ ok, decide (0 < (present c).length) = ok := ⟨_, rfl⟩
  unfold rangeR at HR HRR
  rw [hlo, hhi, hok] at HR HRR
  obtain ⟨WL, hWL⟩ : ∃ WL, whereC c id = WL := ⟨_, rfl⟩
  rw [hWL] at HWh HRW HWLEN
  have e0 : (E == E) = true := by simp
  have e1 : (lo == lo) = true := by simp
  have e2 : (hi == hi) = true := by simp
  have e3 : (ok == ok) = true := by simp
  clear h1 h2 h3 g1 g2 g3 hbox hx0 hs hE hP hlo hhi hok hWL hbig HBox
  go_enter Try.func4, Try.ntmps4
  go_wp2_with fail
  (try rw [hX])
  clear hX
  refine KP.mono ?_
  rintro e w1 ⟨nv, iv, rfl, hn1, hi1, hb1⟩
  obtain ⟨na, nc, rfl, _⟩ := ownsRow_form hn1
  obtain ⟨ia, ic, rfl, _⟩ := ownsRow_form hi1
  have hn1 := hn1.holds
  have hi1 := hi1.holds
  obtain ⟨nl, hnl⟩ : ∃ nl, P.nl.length = nl := ⟨_, rfl⟩
  obtain ⟨il, hil⟩ : ∃ il, P.il.length = il := ⟨_, rfl⟩
  rw [hnl] at hn1
  rw [hil] at hi1
  (try rw [hnl, hil])
  obtain ⟨B1, hB1⟩ : ∃ B, w1.heap.size = B := ⟨_, rfl⟩
  obtain ⟨X1, hX1⟩ : ∃ X1, w1.alloc (.cells #[.slice na nl nc, .slice ia il ic] 25) = X1 := ⟨_, rfl⟩
  have hbx1 : Below w1.heap.size w1 X1 := by rw [← hX1]; exact below_box _ _
  have hx1 : X1.heap[B1]? = some (.cells #[.slice na nl nc, .slice ia il ic] 25 (0, 0)) := by rw [← hX1, ← hB1]; exact heap_alloc_new _ _
  have hbX1 : Below X.heap.size X X1 := hb1.trans (hbx1.mono hb1.size)
  have HB1 := Lib.hid (lt_of_heap hx1)
  have p0 : X1.cell? ⟨B1, 0, none⟩ = some (.slice na nl nc) := by rw [cell_of_row _ _ _ _ _ _ hx1]; rfl
  have p1 : X1.cell? ⟨B1, 1, none⟩ = some (.slice ia il ic) := by rw [cell_of_row _ _ _ _ _ _ hx1]; rfl
  have HQ1 := Lib.hid (fun (V : World) (hv : Below X1.heap.size X1 V) => below_cells2 hv HB1.out p0 p1)
  have HH1 := Lib.hid (And.intro (hn1.below hbx1) (hi1.below hbx1))
  obtain ⟨d0, d1⟩ := HQ.out X1 hbX1
  have HbX1 := Lib.hid hbX1
  have HNL := Lib.hid hnl
  have HIL := Lib.hid hil
  clear KP hn1 hi1 hb1 hbx1 hx1 hbX1 c0 c1 hnl hil
  go_wp2_with fail
  (try rw [hB1])
  (try rw [hX1])
  clear hX1
  refine (HPL.out _).mono ?_
  rintro e w2 ⟨rfl, hb2⟩
  have hbX2 := HbX1.out.trans (hb2.mono HbX1.out.size)
  have KRP := HRP.out w2 hbX2
  have Hb2 := Lib.hid hb2
  have HbX2 := Lib.hid hbX2
  clear hb2 hbX2 d0 d1 HRP
  go_wp2_with fail
  refine KRP.mono ?_
  rintro e w3 ⟨nv, iv, rfl, hn3, hi3, hb3⟩
  obtain ⟨na2, nc2, rfl, _⟩ := ownsRow_form hn3
  obtain ⟨ia2, ic2, rfl, _⟩ := ownsRow_form hi3
  have hn3 := hn3.holds
  have hi3 := hi3.holds
  rw [HNL.out] at hn3
  rw [HIL.out] at hi3
  (try rw [HNL.out, HIL.out])
  obtain ⟨B2, hB2⟩ : ∃ B, w3.heap.size = B := ⟨_, rfl⟩
  obtain ⟨X2, hX2⟩ : ∃ X2, w3.alloc (.cells #[.slice na2 nl nc2, .slice ia2 il ic2] 33) = X2 := ⟨_, rfl⟩
  have hbx2 : Below w3.heap.size w3 X2 := by rw [← hX2]; exact below_box _ _
  have hx2 : X2.heap[B2]? = some (.cells #[.slice na2 nl nc2, .slice ia2 il ic2] 33 (0, 0)) := by rw [← hX2, ← hB2]; exact heap_alloc_new _ _
  have hb13 : Below X1.heap.size X1 X2 := (Hb2.out.trans (hb3.mono Hb2.out.size)).trans (hbx2.mono (Nat.le_trans Hb2.out.size hb3.size))
  have hbXX2 : Below X.heap.size X X2 := HbX1.out.trans (hb13.mono HbX1.out.size)
  have HB2 := Lib.hid (lt_of_heap hx2)
  have s0 : X2.cell? ⟨B2, 0, none⟩ = some (.slice na2 nl nc2) := by rw [cell_of_row _ _ _ _ _ _ hx2]; rfl
  have s1 : X2.cell? ⟨B2, 1, none⟩ = some (.slice ia2 il ic2) := by rw [cell_of_row _ _ _ _ _ _ hx2]; rfl
  obtain ⟨m0, m1⟩ := HQ1.out X2 hb13
  obtain ⟨d0, d1⟩ := HQ.out X2 hbXX2
  have hSX : X2.cell? ⟨B1, 0, none⟩ = some (.slice na nl nc) ∧ X2.cell? ⟨B1, 1, none⟩ = some (.slice ia il ic) ∧ X2.cell? ⟨B2, 0, none⟩ = some (.slice na2 nl nc2) ∧ X2.cell? ⟨B2, 1, none⟩ = some (.slice ia2 il ic2) ∧ X2.cell? ⟨w.heap.size, 0, none⟩ = some (.slice a1 n1 k1) ∧ X2.cell? ⟨w.heap.size, 1, none⟩ = some (.slice a2 n2 k2) := ⟨m0, m1, s0, s1, d0, d1⟩
  have HSX := Lib.hid hSX
  have HbX := Lib.hid hbXX2
  have HS := Lib.hid (fun (V : World) (hv : Below X2.heap.size X2 V) => (⟨by rw [hv.cell (World.block_lt_of_cell? X2 _ hSX.1)]; exact hSX.1, by rw [hv.cell (World.block_lt_of_cell? X2 _ hSX.2.1)]; exact hSX.2.1, by rw [hv.cell (World.block_lt_of_cell? X2 _ hSX.2.2.1)]; exact hSX.2.2.1, by rw [hv.cell (World.block_lt_of_cell? X2 _ hSX.2.2.2.1)]; exact hSX.2.2.2.1, by rw [hv.cell (World.block_lt_of_cell? X2 _ hSX.2.2.2.2.1)]; exact hSX.2.2.2.2.1, by rw [hv.cell (World.block_lt_of_cell? X2 _ hSX.2.2.2.2.2)]; exact hSX.2.2.2.2.2⟩ : V.cell? ⟨B1, 0, none⟩ = some (.slice na nl nc) ∧ V.cell? ⟨B1, 1, none⟩ = some (.slice ia il ic) ∧ V.cell? ⟨B2, 0, none⟩ = some (.slice na2 nl nc2) ∧ V.cell? ⟨B2, 1, none⟩ = some (.slice ia2 il ic2) ∧ V.cell? ⟨w.heap.size, 0, none⟩ = some (.slice a1 n1 k1) ∧ V.cell? ⟨w.heap.size, 1, none⟩ = some (.slice a2 n2 k2)))
  have HSame := Lib.hid (fun (V : World) (hv : Below X2.heap.size X2 V) => @csame_any V na ia na2 ia2 nl il nc ic nl il nc2 ic2 P ((HH1.out.1.below hb13).below hv) ((HH1.out.2.below hb13).below hv) ((hn3.below hbx2).below hv) ((hi3.below hbx2).below hv) (by have := HPLEN.out.2; omega) (by have := HPLEN.out.1; omega))
  have KR := HR.out X2 hbXX2
  clear KRP hn3 hi3 hb3 hbx2 hx2 hb13 hbXX2 hSX m0 m1 s0 s1 HH1 HQ1 Hb2 HbX1 HbX2 HNL HIL p0 p1
  go_wp2_with fail
  (try rw [hB2])
  (try rw [hX2])
  clear hX2
  refine KR.mono ?_
  rintro e w4 ⟨rfl, hb4⟩
  obtain ⟨d0', d1'⟩ := HQ.out w4 (HbX.out.trans (hb4.mono HbX.out.size))
  have Hb4 := Lib.hid hb4
  clear KR hb4 d0 d1
  go_wp2_with fail
  refine (HPL.out _).mono ?_
  rintro e w5 ⟨rfl, hb5⟩
  have hb45 := Hb4.out.trans (hb5.mono Hb4.out.size)
  have KRR := HRR.out w5 (HbX.out.trans (hb45.mono HbX.out.size))
  have Hb5 := Lib.hid hb45
  clear hb5 hb45 d0' d1'
  go_wp2_with fail
  refine KRR.mono ?_
  rintro e w6 ⟨rfl, hb6⟩
  have hb26 : Below X2.heap.size X2 w6.drew := (Hb5.out.trans (hb6.mono Hb5.out.size)).trans ((below_drew1 w6).mono (Nat.le_trans Hb5.out.size hb6.size))
  have hS6 := HS.out w6.drew hb26
  have KSame := HSame.out w6.drew hb26
  have HB6 := Lib.hid hb26
  clear KRR hb6 hb26 HSame HR HRR
  go_wp2_with fail
  refine wp_region_mix (fun V => V.cell? ⟨B1, 0, none⟩ = some (.slice na nl nc) ∧ V.cell? ⟨B1, 1, none⟩ = some (.slice ia il ic) ∧ V.cell? ⟨B2, 0, none⟩ = some (.slice na2 nl nc2) ∧ V.cell? ⟨B2, 1, none⟩ = some (.slice ia2 il ic2) ∧ V.cell? ⟨w.heap.size, 0, none⟩ = some (.slice a1 n1 k1) ∧ V.cell? ⟨w.heap.size, 1, none⟩ = some (.slice a2 n2 k2)) 37 [(true, 0), (true, 1), (false, 2), (true, 3), (true, 4), (true, 5), (true, 6), (true, 7), (true, 8), (true, 9), (true, 10), (true, 11), (true, 12), (true, 13), (true, 14), (true, 15), (true, 16), (true, 17), (true, 18), (true, 19), (true, 20), (true, 21), (true, 22), (true, 23), (true, 24), (true, 25), (true, 27), (true, 29), (false, 26), (false, 28), (false, 30), (false, 31), (true, 32), (true, 33), (false, 34), (true, 35), (true, 36)] (by kernel_rfl) (by decide +kernel) rfl (by decide +kernel) hS6 ?_
  iterate 2
    refine wpMix_take (v := ?_) rfl rfl ?_ ?_
    rotate_left
    · (intro V hV; (try dsimp only at hV); go_simp) <;> with_reducible rfl
    simp only [Act.put, List.setIfInBounds_toArray, List.set_cons_zero, List.set_cons_succ]
  refine wpMix_run rfl ?_
  intro K' hK
  go_wp2_with fail
  refine KSame.mono ?_
  rintro e w7 ⟨rfl, hb7⟩
  have hb27 := HB6.out.trans (hb7.mono HB6.out.size)
  have HS7 := Lib.hid (HS.out w7 hb27)
  have HB7 := Lib.hid hb27
  have KW := HWh.out w7 (HbX.out.trans (hb27.mono HbX.out.size))
  clear KSame hb7 hb27 hS6
  go_wp2_with fail
  refine hK.out _ _ (fun _ => HS7.out) ?_
  clear hK K'
  iterate 25
    refine wpMix_take (v := ?_) rfl rfl ?_ ?_
    rotate_left
    · (intro V hV; (try dsimp only at hV); go_simp) <;> with_reducible rfl
    simp only [Act.put, List.setIfInBounds_toArray, List.set_cons_zero, List.set_cons_succ]
  refine wpMix_run rfl ?_
  intro K' hK
  go_wp2_with fail
  refine KW.mono ?_
  rintro e w8 ⟨v8, rfl, ho8, hb8⟩
  obtain ⟨va, vc, rfl, _⟩ := ownsRow_form ho8
  have hb28 := HB7.out.trans (hb8.mono HB7.out.size)
  have HS8 := Lib.hid (HS.out w8 hb28)
  have HB8 := Lib.hid hb28
  have H8 := Lib.hid ho8.holds
  obtain ⟨wl, hwl⟩ : ∃ wl, WL.length = wl := ⟨_, rfl⟩
  rw [hwl] at H8
  (try rw [hwl])
  have HWL := Lib.hid hwl
  clear KW ho8 hb8 hb28 hwl
  go_wp2_with fail
  refine hK.out _ _ (fun _ => HS8.out) ?_
  clear hK K'
  refine wpMix_run rfl ?_
  intro K' hK
  go_wp2_with fail
  refine (HPL.out _).mono ?_
  rintro e w9 ⟨rfl, hb9⟩
  have hb29 := HB8.out.trans (hb9.mono HB8.out.size)
  have HS9 := Lib.hid (HS.out w9 hb29)
  have HB9 := Lib.hid hb29
  have H9 := Lib.hid (H8.out.below hb9)
  have KRW := HRW.out w9 (HbX.out.trans (hb29.mono HbX.out.size))
  clear hb9 hb29
  go_wp2_with fail
  refine hK.out _ _ (fun _ => HS9.out) ?_
  clear hK K'
  refine wpMix_run rfl ?_
  intro K' hK
  go_wp2_with fail
  refine KRW.mono ?_
  rintro e w10 ⟨v10, rfl, ho10, hb10⟩
  obtain ⟨va2, vc2, rfl, _⟩ := ownsRow_form ho10
  have hb210 := HB9.out.trans (hb10.mono HB9.out.size)
  have HS10 := Lib.hid (HS.out w10 hb210)
  have HB10 := Lib.hid hb210
  have h10 := ho10.holds
  rw [HWL.out] at h10
  (try rw [HWL.out])
  have KI := Ints_any (H9.out.below hb10) h10 HWL.out.symm HWL.out.symm (by have := HWLEN.out; omega)
  rw [decide_eq_true rfl] at KI
  clear KRW ho10 hb10 hb210 h10
  go_wp2_with fail
  refine hK.out _ _ (fun _ => HS10.out) ?_
  clear hK K'
  refine wpMix_run rfl ?_
  intro K' hK
  go_wp2_with fail
  refine KI.mono ?_
  rintro e w11 ⟨rfl, hb11⟩
  have hb211 := HB10.out.trans (hb11.mono HB10.out.size)
  have HS11 := Lib.hid (HS.out w11 hb211)
  have HB11 := Lib.hid hb211
  clear KI hb11 hb211
  go_wp2_with fail
  refine hK.out _ _ (fun _ => HS11.out) ?_
  clear hK K'
  iterate 2
    refine wpMix_take (v := ?_) rfl rfl ?_ ?_
    rotate_left
    · (intro V hV; (try dsimp only at hV); go_simp) <;> with_reducible rfl
    simp only [Act.put, List.setIfInBounds_toArray, List.set_cons_zero, List.set_cons_succ]
  refine wpMix_run rfl ?_
  intro K' hK
  go_wp2_with fail
  refine (KL _).mono ?_
  rintro e w12 ⟨rfl, hb12⟩
  have hb212 := HB11.out.trans (hb12.mono HB11.out.size)
  have HS12 := Lib.hid (HS.out w12 hb212)
  have FIN := Lib.hid (HB.out.trans ((HbX.out.trans (hb212.mono HbX.out.size)).mono HB.out.size))
  clear hb12 hb212
  go_wp2_with fail
  refine hK.out _ _ (fun _ => HS12.out) ?_
  clear hK K'
  iterate 2
    refine wpMix_take (v := ?_) rfl rfl ?_ ?_
    rotate_left
    · (intro V hV; (try dsimp only at hV); go_simp) <;> with_reducible rfl
    simp only [Act.put, List.setIfInBounds_toArray, List.set_cons_zero, List.set_cons_succ]
  refine wpMix_nil ?_
  go_wp2_with fail
  go_ret
  exact ⟨rfl, FIN.out⟩
end Go.Proofs.Ytknghmcdnlkfcaa
