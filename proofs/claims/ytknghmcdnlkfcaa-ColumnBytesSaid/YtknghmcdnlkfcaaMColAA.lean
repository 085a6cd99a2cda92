/- The walk of ColumnBytes. Conditions: none. -/
import Derived.Test.YtknghmcdnlkfcaaPackBD
import Derived.Test.YtknghmcdnlkfcaaMColZ
set_option maxRecDepth 100000
namespace Go.Proofs.Ytknghmcdnlkfcaa
open Go.RowKit Go.Maps Go.Sort

theorem loadV_len (bs : List UInt8) : (loadV bs).nl.length ≤ 1000 ∧ (loadV bs).il.length ≤ 1000 := by
  unfold loadV
  cases h : okL bs
  · simp
  · simp only [if_true]
    simp only [okL, Bool.and_eq_true] at h
    obtain ⟨h1, h2, _⟩ := good_iff.1 h.1
    omega
set_option maxHeartbeats 6400000 in
theorem cbytes_walk {w : World} {a1 a2 a3 : Option Addr} {n1 n2 n3 k1 k2 k3 : Nat} {c : CV} {bs : List UInt8} (h1 : Holds w (.slice a1 n1 k1) (bls c.nl)) (h2 : Holds w (.slice a2 n2 k2) (i64s c.il)) (h3 : Holds w (.slice a3 n3 k3) (u8s bs)) :
    Calls Try.prog 3 #[.agg #[.slice a1 n1 k1, .slice a2 n2 k2], .slice a3 n3 k3] w fun e w' => e = .returned (.bool true) ∧ Below w.heap.size w w' := by
  have KL := clives_any
  have hbox := below_box w (.cells #[.slice a1 n1 k1, .slice a2 n2 k2] 25)
  have HBox := Lib.hid hbox
  by_cases hbig : 3000 < n2 ∨ 3000 < n1 ∨ 5000 < n3
  · have hcase : (decide ((3000 : Int) < (n2 : Int)) = true) ∨ (decide ((3000 : Int) < (n2 : Int)) = false ∧ decide ((3000 : Int) < (n1 : Int)) = true) ∨ (decide ((3000 : Int) < (n2 : Int)) = false ∧ decide ((3000 : Int) < (n1 : Int)) = false ∧ decide ((5000 : Int) < (n3 : Int)) = true) := by
      simp only [decide_eq_true_eq, decide_eq_false_iff_not]; omega
    clear h1 h2 h3 hbig hbox
    rcases hcase with u0 | ⟨u0, u1⟩ | ⟨u0, u1, u2⟩
    all_goals (
      go_enter Try.func3, Try.ntmps3
      go_wp2_with fail
      refine (KL _).mono ?_
      rintro e w' ⟨rfl, hb⟩
      have FB := Lib.hid (HBox.out.trans (hb.mono HBox.out.size))
      clear hb
      go_wp2_with fail
      go_ret
      exact ⟨rfl, FB.out⟩)
  have u0 : decide ((3000 : Int) < (n2 : Int)) = false := decide_eq_false (by omega)
  have u1 : decide ((3000 : Int) < (n1 : Int)) = false := decide_eq_false (by omega)
  have u2 : decide ((5000 : Int) < (n3 : Int)) = false := decide_eq_false (by omega)
  have e3 := h3.len.1
  rw [u8s_len] at e3
  obtain ⟨X, hX⟩ : ∃ X, w.alloc (.cells #[.slice a1 n1 k1, .slice a2 n2 k2] 25) = X := ⟨_, rfl⟩
  have hx0 : X.heap[w.heap.size]? = some (.cells #[.slice a1 n1 k1, .slice a2 n2 k2] 25 (0, 0)) := by rw [← hX]; exact heap_alloc_new _ _
  rw [hX] at hbox
  have hs : X.heap.size = w.heap.size + 1 := by rw [← hX]; simp
  have c0 : X.cell? ⟨w.heap.size, 0, none⟩ = some (.slice a1 n1 k1) := by rw [cell_of_row _ _ _ _ _ _ hx0]; rfl
  have c1 : X.cell? ⟨w.heap.size, 1, none⟩ = some (.slice a2 n2 k2) := by rw [cell_of_row _ _ _ _ _ _ hx0]; rfl
  have HX := Lib.hid (show w.heap.size < X.heap.size by omega)
  have HQ := Lib.hid (fun (V : World) (hv : Below X.heap.size X V) => below_cells2z hv HX.out c0 c1)
  have g1 := h1.below hbox
  have g2 := h2.below hbox
  have g3 := h3.below hbox
  have KB := cbytes_any g1 g2
  have HRB := Lib.hid (fun (V : World) (hv : Below X.heap.size X V) => rcbytes_any (g1.below hv) (g2.below hv))
  have HLo := Lib.hid (fun (V : World) (hv : Below X.heap.size X V) => cload_any (g3.below hv) (by omega))
  have HRL := Lib.hid (fun (V : World) (hv : Below X.heap.size X V) => rcload_any (g3.below hv) (by omega))
  have HGo := Lib.hid (fun (V : World) (hv : Below X.heap.size X V) => cgood_any (g1.below hv) (g2.below hv))
  have HRG := Lib.hid (fun (V : World) (hv : Below X.heap.size X V) => rcgood_any (g1.below hv) (g2.below hv))
  have HPL := Lib.hid (fun (V : World) => plain_any V a1 a2 n1 n2 k1 k2)
  have HB := Lib.hid hbox
  have HVL := Lib.hid (loadV_len bs)
  obtain ⟨BV, hBV⟩ : ∃ BV, bytV c = BV := ⟨_, rfl⟩
  obtain ⟨BE, hBE⟩ : ∃ BE, bytE c = BE := ⟨_, rfl⟩
  obtain ⟨LV, hLV⟩ : ∃ LV, loadV bs = LV := ⟨_, rfl⟩
  obtain ⟨LE, hLE⟩ : ∃ LE, loadE bs = LE := ⟨_, rfl⟩
  obtain ⟨gd, hgd⟩ : ∃ gd, goodC c = gd := ⟨_, rfl⟩
  obtain ⟨bl, hbl⟩ : ∃ bl, BV.length = bl := ⟨_, rfl⟩
  rw [hBV, hBE] at KB HRB
  unfold OutB at KB HRB
  rw [hbl] at KB HRB
  rw [hLV, hLE] at HLo HRL
  rw [hLV] at HVL
  rw [hgd] at HGo HRG
  have e0 : (BE == BE) = true := by simp
  have e1 : (LE == LE) = true := by simp
  have e2 : (gd == gd) = true := by simp
  clear h1 h2 h3 g1 g2 g3 hbox hx0 hs hBV hBE hLV hLE hgd hbl hbig HBox e3
  go_enter Try.func3, Try.ntmps3
  go_wp2_with fail
  (try rw [hX])
  clear hX
  refine KB.mono ?_
  rintro e w1 ⟨xa, xk, rfl, hx, hb1⟩
  obtain ⟨d0, d1⟩ := HQ.out w1 hb1
  have Hx := Lib.hid hx
  have Hb1 := Lib.hid hb1
  clear KB hx hb1 c0 c1
  go_wp2_with fail
  refine (HPL.out _).mono ?_
  rintro e w2 ⟨rfl, hb2⟩
  have hb02 := Hb1.out.trans (hb2.mono Hb1.out.size)
  have KRB := HRB.out w2 hb02
  have Hx2 := Lib.hid (Hx.out.below hb2)
  have Hb2 := Lib.hid hb02
  clear hb2 hb02 d0 d1 HRB
  go_wp2_with fail
  refine KRB.mono ?_
  rintro e w3 ⟨ya, yk, rfl, hy, hb3⟩
  have hb03 := Hb2.out.trans (hb3.mono Hb2.out.size)
  have KLo := HLo.out w3 hb03
  have Hx3 := Lib.hid (Hx2.out.below hb3)
  have Hy3 := Lib.hid hy
  have Hb3 := Lib.hid hb03
  clear KRB hy hb3 hb03 HLo
  go_wp2_with fail
  refine KLo.mono ?_
  rintro e w4 ⟨pa, pn, pk, qa, qn, qk, rfl, hp, hq, hb4⟩
  obtain ⟨B1, hB1⟩ : ∃ B, w4.heap.size = B := ⟨_, rfl⟩
  obtain ⟨X1, hX1⟩ : ∃ X1, w4.alloc (.cells #[.slice pa pn pk, .slice qa qn qk] 25) = X1 := ⟨_, rfl⟩
  have hbx1 : Below w4.heap.size w4 X1 := by rw [← hX1]; exact below_box _ _
  have hx1 : X1.heap[B1]? = some (.cells #[.slice pa pn pk, .slice qa qn qk] 25 (0, 0)) := by rw [← hX1, ← hB1]; exact heap_alloc_new _ _
  have hb34 : Below w3.heap.size w3 X1 := hb4.trans (hbx1.mono hb4.size)
  have hb0X1 := Hb3.out.trans (hb34.mono Hb3.out.size)
  have p0 : X1.cell? ⟨B1, 0, none⟩ = some (.slice pa pn pk) := by rw [cell_of_row _ _ _ _ _ _ hx1]; rfl
  have p1 : X1.cell? ⟨B1, 1, none⟩ = some (.slice qa qn qk) := by rw [cell_of_row _ _ _ _ _ _ hx1]; rfl
  have hlt1 := lt_of_heap hx1
  have HQ1 := Lib.hid (fun (V : World) (hv : Below X1.heap.size X1 V) => below_cells2z hv hlt1 p0 p1)
  have HH1 := Lib.hid (And.intro (hp.below hbx1) (hq.below hbx1))
  have Hx4 := Lib.hid (Hx3.out.below hb34)
  have Hy4 := Lib.hid (Hy3.out.below hb34)
  have KRL := HRL.out X1 hb0X1
  have HbX1 := Lib.hid hb0X1
  clear KLo hp hq hb4 hbx1 hx1 hb34 hb0X1 hlt1 HRL p0 p1
  go_wp2_with fail
  (try rw [hB1])
  (try rw [hX1])
  clear hX1
  refine KRL.mono ?_
  rintro e w5 ⟨pa2, pn2, pk2, qa2, qn2, qk2, rfl, hp2, hq2, hb5⟩
  obtain ⟨B2, hB2⟩ : ∃ B, w5.heap.size = B := ⟨_, rfl⟩
  obtain ⟨X2, hX2⟩ : ∃ X2, w5.alloc (.cells #[.slice pa2 pn2 pk2, .slice qa2 qn2 qk2] 33) = X2 := ⟨_, rfl⟩
  have hbx2 : Below w5.heap.size w5 X2 := by rw [← hX2]; exact below_box _ _
  have hx2 : X2.heap[B2]? = some (.cells #[.slice pa2 pn2 pk2, .slice qa2 qn2 qk2] 33 (0, 0)) := by rw [← hX2, ← hB2]; exact heap_alloc_new _ _
  have hb12 : Below X1.heap.size X1 X2 := hb5.trans (hbx2.mono hb5.size)
  have hd : Below X2.heap.size X2 X2.drew := below_drew1 X2
  have hb12d : Below X1.heap.size X1 X2.drew := hb12.trans (hd.mono hb12.size)
  have hb02 := HbX1.out.trans (hb12d.mono HbX1.out.size)
  obtain ⟨m0, m1⟩ := HQ1.out X2.drew hb12d
  obtain ⟨d0, d1⟩ := HQ.out X2.drew hb02
  have s0 : X2.drew.cell? ⟨B2, 0, none⟩ = some (.slice pa2 pn2 pk2) := by show X2.cell? _ = _; rw [cell_of_row _ _ _ _ _ _ hx2]; rfl
  have s1 : X2.drew.cell? ⟨B2, 1, none⟩ = some (.slice qa2 qn2 qk2) := by show X2.cell? _ = _; rw [cell_of_row _ _ _ _ _ _ hx2]; rfl
  obtain ⟨Y, hY⟩ : ∃ Y, X2.drew = Y := ⟨_, rfl⟩
  rw [hY] at hb12d hb02 m0 m1 d0 d1 s0 s1
  have hSX : Y.cell? ⟨B1, 0, none⟩ = some (.slice pa pn pk) ∧ Y.cell? ⟨B1, 1, none⟩ = some (.slice qa qn qk) ∧ Y.cell? ⟨B2, 0, none⟩ = some (.slice pa2 pn2 pk2) ∧ Y.cell? ⟨B2, 1, none⟩ = some (.slice qa2 qn2 qk2) ∧ Y.cell? ⟨w.heap.size, 0, none⟩ = some (.slice a1 n1 k1) ∧ Y.cell? ⟨w.heap.size, 1, none⟩ = some (.slice a2 n2 k2) := ⟨m0, m1, s0, s1, d0, d1⟩
  have HS := Lib.hid (fun (V : World) (hv : Below Y.heap.size Y V) => (⟨by rw [hv.cell (World.block_lt_of_cell? Y _ hSX.1)]; exact hSX.1, by rw [hv.cell (World.block_lt_of_cell? Y _ hSX.2.1)]; exact hSX.2.1, by rw [hv.cell (World.block_lt_of_cell? Y _ hSX.2.2.1)]; exact hSX.2.2.1, by rw [hv.cell (World.block_lt_of_cell? Y _ hSX.2.2.2.1)]; exact hSX.2.2.2.1, by rw [hv.cell (World.block_lt_of_cell? Y _ hSX.2.2.2.2.1)]; exact hSX.2.2.2.2.1, by rw [hv.cell (World.block_lt_of_cell? Y _ hSX.2.2.2.2.2)]; exact hSX.2.2.2.2.2⟩ : V.cell? ⟨B1, 0, none⟩ = some (.slice pa pn pk) ∧ V.cell? ⟨B1, 1, none⟩ = some (.slice qa qn qk) ∧ V.cell? ⟨B2, 0, none⟩ = some (.slice pa2 pn2 pk2) ∧ V.cell? ⟨B2, 1, none⟩ = some (.slice qa2 qn2 qk2) ∧ V.cell? ⟨w.heap.size, 0, none⟩ = some (.slice a1 n1 k1) ∧ V.cell? ⟨w.heap.size, 1, none⟩ = some (.slice a2 n2 k2)))
  have hp2Y : Holds Y (.slice pa2 pn2 pk2) (bls LV.nl) := by rw [← hY]; exact (hp2.below hbx2).below hd
  have hq2Y : Holds Y (.slice qa2 qn2 qk2) (i64s LV.il) := by rw [← hY]; exact (hq2.below hbx2).below hd
  have HSame := Lib.hid (fun (V : World) (hv : Below Y.heap.size Y V) => @csame_any V pa qa pa2 qa2 pn qn pk qk pn2 qn2 pk2 qk2 LV ((HH1.out.1.below hb12d).below hv) ((HH1.out.2.below hb12d).below hv) (hp2Y.below hv) (hq2Y.below hv) (by have := HVL.out.2; omega) (by have := HVL.out.1; omega))
  have Hx5 := Lib.hid (Hx4.out.below hb12d)
  have Hy5 := Lib.hid (Hy4.out.below hb12d)
  have HbY := Lib.hid hb02
  have hS0 := HS.out Y (Below.refl _ _)
  have KGo := HGo.out Y hb02
  clear KRL hp2 hq2 hb5 hbx2 hx2 hb12 hd hb12d hb02 m0 m1 d0 d1 s0 s1 hSX hp2Y hq2Y HH1 HQ1 Hx4 Hy4 Hx3 Hy3 Hx2 Hx HbX1
  go_wp2_with fail
  (try rw [hB2])
  (try rw [hX2])
  refine wp_region_mix (fun V => V.cell? ⟨B1, 0, none⟩ = some (.slice pa pn pk) ∧ V.cell? ⟨B1, 1, none⟩ = some (.slice qa qn qk) ∧ V.cell? ⟨B2, 0, none⟩ = some (.slice pa2 pn2 pk2) ∧ V.cell? ⟨B2, 1, none⟩ = some (.slice qa2 qn2 qk2) ∧ V.cell? ⟨w.heap.size, 0, none⟩ = some (.slice a1 n1 k1) ∧ V.cell? ⟨w.heap.size, 1, none⟩ = some (.slice a2 n2 k2)) 30 [(true, 0), (true, 2), (false, 1), (false, 3), (false, 4), (true, 5), (true, 6), (true, 7), (true, 8), (false, 9), (true, 10), (true, 11), (true, 12), (true, 13), (true, 14), (true, 15), (true, 16), (true, 17), (true, 18), (false, 19), (true, 20), (true, 21), (true, 22), (true, 23), (true, 24), (true, 25), (true, 26), (false, 27), (true, 28), (true, 29)] (by kernel_rfl) (by decide +kernel) rfl (by decide +kernel) (by rw [hY]; exact hS0) ?_
  rw [hY]
  clear hX2 hY
  iterate 2
    refine wpMix_take (v := ?_) rfl rfl ?_ ?_
    rotate_left
    · (intro V hV; (try dsimp only at hV); go_simp) <;> with_reducible rfl
    simp only [Act.put, List.setIfInBounds_toArray, List.set_cons_zero, List.set_cons_succ]
  refine wpMix_run rfl ?_
  intro K' hK
  go_wp2_with fail
  refine (KGo).mono ?_
  rintro e w7 ⟨rfl, hb⟩
  have HSw7 := Lib.hid (HS.out w7 hb)
  have HB7 := Lib.hid hb
  clear KGo hb hS0
  go_wp2_with fail
  refine hK.out _ _ (fun _ => HSw7.out) ?_
  clear hK K'
  refine wpMix_run rfl ?_
  intro K' hK
  go_wp2_with fail
  refine (HPL.out _).mono ?_
  rintro e w8 ⟨rfl, hb⟩
  have hb' := HB7.out.trans (hb.mono HB7.out.size)
  have HSw8 := Lib.hid (HS.out w8 hb')
  have HB8 := Lib.hid hb'
  have KRG := HRG.out w8 (HbY.out.trans (hb'.mono HbY.out.size))
  clear hb hb'
  go_wp2_with fail
  refine hK.out _ _ (fun _ => HSw8.out) ?_
  clear hK K'
  refine wpMix_run rfl ?_
  intro K' hK
  go_wp2_with fail
  refine (KRG).mono ?_
  rintro e w9 ⟨rfl, hb⟩
  have hb' := HB8.out.trans (hb.mono HB8.out.size)
  have HSw9 := Lib.hid (HS.out w9 hb')
  have HB9 := Lib.hid hb'
  have KSm := Same_any (Hx5.out.below hb') (Hy5.out.below hb')
  rw [decide_eq_true rfl] at KSm
  clear KRG hb hb'
  go_wp2_with fail
  refine hK.out _ _ (fun _ => HSw9.out) ?_
  clear hK K'
  iterate 4
    refine wpMix_take (v := ?_) rfl rfl ?_ ?_
    rotate_left
    · (intro V hV; (try dsimp only at hV); go_simp) <;> with_reducible rfl
    simp only [Act.put, List.setIfInBounds_toArray, List.set_cons_zero, List.set_cons_succ]
  refine wpMix_run rfl ?_
  intro K' hK
  go_wp2_with fail
  refine (KSm).mono ?_
  rintro e w10 ⟨rfl, hb⟩
  subst hb
  have HSw10 := HSw9
  have KSame := HSame.out _ HB9.out
  clear KSm
  go_wp2_with fail
  refine hK.out _ _ (fun _ => HSw10.out) ?_
  clear hK K'
  iterate 9
    refine wpMix_take (v := ?_) rfl rfl ?_ ?_
    rotate_left
    · (intro V hV; (try dsimp only at hV); go_simp) <;> with_reducible rfl
    simp only [Act.put, List.setIfInBounds_toArray, List.set_cons_zero, List.set_cons_succ]
  refine wpMix_run rfl ?_
  intro K' hK
  go_wp2_with fail
  refine (KSame).mono ?_
  rintro e w11 ⟨rfl, hb⟩
  have hb' := HB9.out.trans (hb.mono HB9.out.size)
  have HSw11 := Lib.hid (HS.out w11 hb')
  have HB11 := Lib.hid hb'
  clear KSame hb hb'
  go_wp2_with fail
  refine hK.out _ _ (fun _ => HSw11.out) ?_
  clear hK K'
  iterate 7
    refine wpMix_take (v := ?_) rfl rfl ?_ ?_
    rotate_left
    · (intro V hV; (try dsimp only at hV); go_simp) <;> with_reducible rfl
    simp only [Act.put, List.setIfInBounds_toArray, List.set_cons_zero, List.set_cons_succ]
  refine wpMix_run rfl ?_
  intro K' hK
  go_wp2_with fail
  refine (KL _).mono ?_
  rintro e w12 ⟨rfl, hb⟩
  have hb' := HB11.out.trans (hb.mono HB11.out.size)
  have HSw12 := Lib.hid (HS.out w12 hb')
  have FIN := Lib.hid (HB.out.trans ((HbY.out.trans (hb'.mono HbY.out.size)).mono HB.out.size))
  clear hb hb'
  go_wp2_with fail
  refine hK.out _ _ (fun _ => HSw12.out) ?_
  clear hK K'
  iterate 2
    refine wpMix_take (v := ?_) rfl rfl ?_ ?_
    rotate_left
    · (intro V hV; (try dsimp only at hV); go_simp) <;> with_reducible rfl
    simp only [Act.put, List.setIfInBounds_toArray, List.set_cons_zero, List.set_cons_succ]
  refine wpMix_nil ?_
  go_wp2_with fail
  go_ret
  exact ⟨rfl, FIN.out⟩
end Go.Proofs.Ytknghmcdnlkfcaa
