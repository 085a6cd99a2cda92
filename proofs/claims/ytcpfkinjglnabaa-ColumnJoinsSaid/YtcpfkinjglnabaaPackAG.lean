/- The texts ColER ColFR, one behind the other; each one's own comment says what it holds. -/
import Derived.Test.YtcpfkinjglnabaaPackAE
import Derived.Test.YtcpfkinjglnabaaPackAF
/- Pick of the document. Conditions: none. -/
set_option maxRecDepth 100000
namespace Go.Proofs.Ytcpfkinjglnabaa
open Go.RowKit Go.Maps Go.Sort

end Go.Proofs.Ytcpfkinjglnabaa
/- Join of the document. Conditions: none. -/
set_option maxRecDepth 100000
namespace Go.Proofs.Ytcpfkinjglnabaa
open Go.RowKit Go.Maps Go.Sort

theorem VAt.below {t : TypeId} {G : Nat} {c : CV} {w w' : World} (h : VAt t G c w) (hb : Below w.heap.size w w') : VAt t G c w' := by
  obtain ⟨nv, iv, h0, h1, h2⟩ := h
  exact ⟨nv, iv, (hb.block _ (lt_of_heap h0)).trans h0, h1.below hb, h2.below hb⟩
/-- a result's block at the call's start, another one behind it -/
theorem vclear2 {w W w1 : World} {t : TypeId} {x y : Value} (h0 : W.heap[w.heap.size]? = some (.cells #[.slice none 0 0, .slice none 0 0] t (0, 0))) (hw : Below w.heap.size w W) (hb : Below (w.heap.size + 1) W w1) :
    (w1.cell? ⟨w.heap.size, 0, none⟩ = some (.slice none 0 0) ∧ w1.cell? ⟨w.heap.size, 1, none⟩ = some (.slice none 0 0) ∧ w1.frozen? ⟨w.heap.size, 0, none⟩ = false ∧ w1.frozen? ⟨w.heap.size, 1, none⟩ = false) ∧
    (((w1.setCell ⟨w.heap.size, 0, none⟩ x).setCell ⟨w.heap.size, 1, none⟩ y).cell? ⟨w.heap.size, 0, none⟩ = some x ∧ ((w1.setCell ⟨w.heap.size, 0, none⟩ x).setCell ⟨w.heap.size, 1, none⟩ y).cell? ⟨w.heap.size, 1, none⟩ = some y) ∧
    Below w.heap.size w ((w1.setCell ⟨w.heap.size, 0, none⟩ x).setCell ⟨w.heap.size, 1, none⟩ y) := by
  have q3 : w1.heap[w.heap.size]? = some (.cells #[.slice none 0 0, .slice none 0 0] t (0, 0)) := (hb.block _ (by omega)).trans h0
  have q4 := heap_set (j := 1) (heap_set (j := 0) q3 x) y
  exact ⟨⟨by rw [cell_of_row _ _ _ _ _ _ q3]; rfl, by rw [cell_of_row _ _ _ _ _ _ q3]; rfl, free_of_row q3 0, free_of_row q3 1⟩, ⟨by rw [cell_of_row _ _ _ _ _ _ q4]; rfl, by rw [cell_of_row _ _ _ _ _ _ q4]; rfl⟩,
    (hw.trans (hb.mono (by omega))).trans ((vset_below (by omega) _).trans (vset_below (by omega) _))⟩
set_option maxHeartbeats 1600000 in
theorem rcjoin_any {w : World} {a : Option Addr} {n k : Nat} {L : List CV} (h : HoldsL w a n L) (hn : n ≤ 4398046511104) :
    Calls Try.prog 8 #[.slice a n k] w (OutV w (joinV L) (joinE L)) := by
  obtain ⟨W, hW⟩ : ∃ W, (w.alloc (.cells #[.slice none 0 0, .slice none 0 0] 29)).alloc (.cells #[.slice none 0 0, .slice none 0 0] 29) = W := ⟨_, rfl⟩
  obtain ⟨_, q1, q2⟩ := two_boxes w (.cells #[.slice none 0 0, .slice none 0 0] 29) (.cells #[.slice none 0 0, .slice none 0 0] 29)
  have hs : W.heap.size = w.heap.size + 2 := by rw [← hW]; simp
  have hb0 : Below w.heap.size w W := by rw [← hW]; exact ((Below.refl _ _).alloc (Nat.le_refl _) _).alloc (by simp) _
  rw [hW] at q1 q2
  have HV0 : Hid (VAt 29 (w.heap.size + 1) ⟨[], []⟩ W) := Lib.hid ⟨_, _, q2, RowB.nil _ _, RowI.nil _ _⟩
  have H0 := Lib.hid h
  have HB0 := Lib.hid hb0
  have HE := Lib.hid h.1
  have HN := Lib.hid hn
  have HC := Lib.hid (fun (w1 : World) (x y : Value) (hb : Below (w.heap.size + 1) W w1) => @vclear2 w W w1 29 x y q1 hb0 hb)
  have HS := Lib.hid hs
  clear h hb0 hn hs q1 q2
  go_enter Try.func8, Try.ntmps8
  go_wp2_with fail
  clear hW
  go_loopw [11] (fun i wr => ∃ (m : Nat), i = .int .i64 m ∧ m ≤ n ∧ Hid ((L.take m).all goodC = true ∧ VAt 29 (w.heap.size + 1) ⟨[], []⟩ wr ∧ Below (w.heap.size + 1) W wr)) (fun i _ => n - (RowKit.intOf i).toNat)
  case atStart => exact ⟨0, rfl, Nat.zero_le _, by simp, HV0.out, Below.refl _ _⟩
  case round =>
    obtain ⟨m, rfl, hm, HR⟩ := hrel
    by_cases hlt : m < n
    · obtain ⟨hall, hva, hb⟩ := HR.out
      obtain ⟨C, hC⟩ : ∃ C, L[m]? = some C := ⟨L[m]'(by rw [← HE.out]; exact hlt), List.getElem?_eq_getElem _⟩
      have hbw : Below w.heap.size w wr := HB0.out.trans (hb.mono (by omega))
      obtain ⟨ad, rfl, hv⟩ := H0.out.2 (by omega)
      obtain ⟨a1, n1, k1, a2, n2, k2, d1, d2, i1, i2⟩ := hv m C hC
      have c1 : wr.cell? (ad.add (m * 2)) = some (.slice a1 n1 k1) := by rw [hbw.cell (World.block_lt_of_cell? w _ d1)]; exact d1
      have c2 : wr.cell? ⟨(ad.add (m * 2)).block, (ad.add (m * 2)).off + 1, none⟩ = some (.slice a2 n2 k2) := by rw [hbw.cell (World.block_lt_of_cell? w _ d2)]; exact d2
      have h1 := i1.below hbw
      have h2 := i2.below hbw
      have hbx := below_box wr (.cells #[.slice a1 n1 k1, .slice a2 n2 k2] 29)
      have hsz : w.heap.size + 1 ≤ wr.heap.size := by have := hb.size; rw [HS.out] at this; omega
      have KG := rcgood_any (h1.below hbx) (h2.below hbx)
      have b0 : (0 : Int) ≤ (m : Int) := Int.natCast_nonneg m
      have b1 : (m : Int) < (n : Int) := Int.ofNat_lt.2 hlt
      have hw64 : IntKind.i64.wrap ((m : Int) + 1) = (m : Int) + 1 := by have := HN.out; rw [IntKind.wrap_i64]; omega
      have e2 : C.il.length = n2 := by have := h2.len.1; rw [i64s_len] at this; exact this
      cases hg : goodC C
      · rw [hg] at KG
        have hbad := all_bad hC hg
        have hje : joinE L = 2 := by simp [joinE, hbad]
        have hjv : joinV L = ⟨[], []⟩ := by simp [joinV, hbad]
        have HF : Hid (∀ w1, Below (wr.alloc (.cells #[.slice a1 n1 k1, .slice a2 n2 k2] 29)).heap.size (wr.alloc (.cells #[.slice a1 n1 k1, .slice a2 n2 k2] 29)) w1 → Below (w.heap.size + 1) W w1) := Lib.hid (fun w1 hb1 => box_keep hb hsz hb1)
        have HO : Hid (∀ w', Below w.heap.size w w' → OutV w (joinV L) (joinE L) (.returned (.tuple #[.agg #[.slice none 0 0, .slice none 0 0], .int .i64 2])) w') := Lib.hid (fun w' hw => by rw [hje, hjv]; exact outV_none hw)
        clear hall hva hb hbw d1 d2 i1 i2 hC hv h1 h2 hbx hsz hg hbad hje hjv HR e2
        go_wp2_with fail
        refine KG.mono ?_
        rintro e w1 ⟨rfl, hb1⟩
        obtain ⟨⟨y0, y1, y2, y3⟩, ⟨r0, r1⟩, x2⟩ := HC.out w1 (.slice none 0 0) (.slice none 0 0) (HF.out w1 hb1)
        clear hb1
        go_wp2_with fail
        refine bodyPost_ret (v := .tuple #[.agg #[.slice none 0 0, .slice none 0 0], .int .i64 2]) ?_ rfl (HO.out _ x2)
        simp [results, Try.results8, go_sem, r0, r1]
      · rw [hg] at KG
        have HF : Hid (∀ w1, Below (wr.alloc (.cells #[.slice a1 n1 k1, .slice a2 n2 k2] 29)).heap.size (wr.alloc (.cells #[.slice a1 n1 k1, .slice a2 n2 k2] 29)) w1 →
            (L.take (m + 1)).all goodC = true ∧ VAt 29 (w.heap.size + 1) ⟨[], []⟩ w1 ∧ Below (w.heap.size + 1) W w1) := Lib.hid (fun w1 hb1 => ⟨by rw [take_snoc hC]; exact all_snoc hall hg, (hva.below hbx).below hb1, box_keep hb hsz hb1⟩)
        clear hall hva hb hbw d1 d2 i1 i2 hC hv h1 h2 hbx hsz hg HR e2
        go_wp2_with fail
        refine KG.mono ?_
        rintro e w1 ⟨rfl, hb1⟩
        have hh := Lib.hid (HF.out w1 hb1)
        clear hb1 HF KG
        go_wp2_with fail
        go_roundw
        case rel => exact ⟨m + 1, by go_num, hlt, hh⟩
        case measure => simp [RowKit.intOf]; omega
    · obtain rfl : m = n := by omega
      obtain ⟨hall, hva, hb⟩ := HR.out
      have hta : L.take m = L := by rw [HE.out]; exact List.take_length
      rw [hta] at hall
      obtain ⟨w1, rfl⟩ : ∃ x, x = wr := ⟨_, rfl⟩
      obtain ⟨G, hG⟩ : ∃ G, w.heap.size + 1 = G := ⟨_, rfl⟩
      rw [hG] at hva
      have HV1 := Lib.hid hva
      have HL : Hid (L.all goodC = true ∧ w.heap.size + 1 ≤ G) := Lib.hid ⟨hall, by omega⟩
      have HJ := Lib.hid hta
      have HB := Lib.hid hb
      have HG := Lib.hid hG
      have hsW : G < w1.heap.size := by have := hb.size; rw [HS.out] at this; omega
      have HSW := Lib.hid hsW
      clear hall hb hta hva hsW HR
      go_wp2_with fail
      (try rw [hG])
      clear hG
      go_loopw [22] (fun s wr => ∃ (q : Nat), s = .int .i64 q ∧ q ≤ m ∧ Hid (VAt 29 G (joinC (L.take q)) wr ∧ Below G w1 wr ∧ joinN (L.take q) ≤ 1000)) (fun s _ => m - (RowKit.intOf s).toNat)
      case atStart => exact ⟨0, rfl, Nat.zero_le _, HV1.out, Below.refl _ _, by simp [joinN]⟩
      case round =>
        obtain ⟨q, rfl, hq, HR⟩ := hrel
        by_cases hlt : q < m
        · obtain ⟨⟨nv, iv, h0, hBr, hIr⟩, hb, hjn⟩ := HR.out
          obtain ⟨C, hC⟩ : ∃ C, L[q]? = some C := ⟨L[q]'(by rw [← HE.out]; exact hlt), List.getElem?_eq_getElem _⟩
          have hbW : Below (w.heap.size + 1) W wr := HB.out.trans (hb.mono HL.out.2)
          have hbw : Below w.heap.size w wr := HB0.out.trans (hbW.mono (by omega))
          obtain ⟨ad, rfl, hv⟩ := H0.out.2 (by omega)
          obtain ⟨a1, n1, k1, a2, n2, k2, d1, d2, i1, i2⟩ := hv q C hC
          have c1 : wr.cell? (ad.add (q * 2)) = some (.slice a1 n1 k1) := by rw [hbw.cell (World.block_lt_of_cell? w _ d1)]; exact d1
          have c2 : wr.cell? ⟨(ad.add (q * 2)).block, (ad.add (q * 2)).off + 1, none⟩ = some (.slice a2 n2 k2) := by rw [hbw.cell (World.block_lt_of_cell? w _ d2)]; exact d2
          have h1 := i1.below hbw
          have hbx := below_box wr (.cells #[.slice a1 n1 k1, .slice a2 n2 k2] 29)
          obtain ⟨X, hX⟩ : ∃ X, wr.alloc (.cells #[.slice a1 n1 k1, .slice a2 n2 k2] 29) = X := ⟨_, rfl⟩
          have hxb : X.heap[wr.heap.size]? = some (.cells #[.slice a1 n1 k1, .slice a2 n2 k2] 29 (0, 0)) := by rw [← hX]; exact heap_alloc_new _ _
          rw [hX] at hbx
          have hGlt := lt_of_heap h0
          have hsn := joinC_snoc (L.take q) C
          have hln := joinN_snoc (L.take q) C
          rw [← take_snoc hC] at hsn hln
          have hall : (L.take (q + 1)).all goodC = true := List.all_eq_true.2 fun x hx => List.all_eq_true.1 HL.out.1 x (List.mem_of_mem_take hx)
          have hgC : goodC C = true := List.all_eq_true.1 HL.out.1 C (List.mem_of_getElem? hC)
          have hm1 := join_mono L (q + 1)
          have hl0 := joinC_len0 (L.take (q + 1)) hall
          have hl1 := joinC_len (L.take (q + 1))
          rw [hsn.1, List.length_append] at hl0
          rw [hsn.2, List.length_append] at hl1
          have hgl := (good_iff.1 hgC).2.1
          have hn0 := joinC_len0 (L.take q) (List.all_eq_true.2 fun x hx => List.all_eq_true.1 HL.out.1 x (List.mem_of_mem_take hx))
          have hn1 := joinC_len (L.take q)
          have hgn := (good_iff.1 hgC).1
          obtain ⟨na, nc, rfl, _⟩ := ownsRow_form hBr
          obtain ⟨ia, ic, rfl, _⟩ := ownsRow_form hIr
          obtain ⟨v', Y, hr1, g0, hY, bY, kY⟩ := VAt.appN2 h0 hBr hIr hbx (h1.below hbx) (by omega)
          obtain ⟨hY0, hY1, hY2, hY3⟩ := hY.out
          obtain ⟨va, vc, rfl, _⟩ := ownsRow_form hY1
          obtain ⟨Y', hYe⟩ : ∃ Y', Y.setCell ⟨G, 0, none⟩ (.slice va ((joinC (L.take q)).nl ++ C.nl).length vc) = Y' := ⟨_, rfl⟩
          rw [hYe] at hY0 hY1 hY2 hY3
          have hYb0 : Y.heap[wr.heap.size]? = some (.cells #[.slice a1 n1 k1, .slice a2 n2 k2] 29 (0, 0)) := (kY _ (Nat.le_refl _) (lt_of_heap hxb)).trans hxb
          have hYb : Y'.heap[wr.heap.size]? = some (.cells #[.slice a1 n1 k1, .slice a2 n2 k2] 29 (0, 0)) := by rw [← hYe, vset_other (by omega)]; exact hYb0
          have hYh : Holds Y' (.slice a2 n2 k2) (i64s C.il) := i2.below (hbw.trans (hY3.mono (by have := HL.out.2; omega)))
          obtain ⟨u', Z, hr2, k0, hZ, bZ, kZ⟩ := VAt.appI2 (c := ⟨(joinC (L.take q)).nl ++ C.nl, (joinC (L.take q)).il⟩) hY0 hY1 hY2 (Below.refl _ _) hYh (by simp only; omega)
          obtain ⟨ua, uc, rfl, _⟩ := ownsRow_form hZ.out.2.2.1
          obtain ⟨Z', hZe⟩ : ∃ Z', Z.setCell ⟨G, 1, none⟩ (.slice ua ((joinC (L.take q)).il ++ C.il).length uc) = Z' := ⟨_, rfl⟩
          have hZo := hZ.out
          simp only [hZe] at hZo
          have pZ : Z'.cell? ⟨G, 1, none⟩ = some (.slice ua ((joinC (L.take q)).il ++ C.il).length uc) := by rw [cell_of_row Z' _ _ _ _ _ hZo.1]; rfl
          have hfin : Hid (VAt 29 G (joinC (L.take (q + 1))) Z' ∧ Below G w1 Z') := Lib.hid
            ⟨⟨_, _, hZo.1, by rw [hsn.1]; exact hZo.2.1, by rw [hsn.2]; exact hZo.2.2.1⟩, (hb.trans hY3).trans hZo.2.2.2⟩
          have hL' : ((joinC (L.take q)).il ++ C.il).length = joinN (L.take (q + 1)) := by rw [← hl1, List.length_append]
          have HLL := Lib.hid hL'
          have HM1 := Lib.hid hm1
          obtain ⟨⟨y0, y1, y2, y3⟩, ⟨r0, r1⟩, xx2⟩ := HC.out Z' (.slice none 0 0) (.slice none 0 0) (HB.out.trans (hfin.out.2.mono (by have := HL.out.2; omega)))
          have HO : Hid (1000 < joinN L → OutV w (joinV L) (joinE L) (.returned (.tuple #[.agg #[.slice none 0 0, .slice none 0 0], .int .i64 7])) ((Z'.setCell ⟨w.heap.size, 0, none⟩ (.slice none 0 0)).setCell ⟨w.heap.size, 1, none⟩ (.slice none 0 0))) := Lib.hid (fun hw => by
            have hje : joinE L = 7 := by simp only [joinE, HL.out.1, if_true]; rw [if_neg (by omega)]
            have hjv : joinV L = ⟨[], []⟩ := by simp only [joinV, HL.out.1, Bool.true_and]; rw [decide_eq_false (by omega)]; rfl
            rw [hje, hjv]; exact ⟨_, _, rfl, RowB.nil _ _, RowI.nil _ _, xx2⟩)
          have f0 := free_of_row g0 0
          have f1 := free_of_row k0 1
          have p0 : X.cell? ⟨G, 0, none⟩ = some (.slice na (joinC (L.take q)).nl.length nc) := by rw [cell_of_row X _ _ _ _ _ ((hbx.block _ hGlt).trans h0)]; rfl
          have p2 : X.cell? ⟨wr.heap.size, 0, none⟩ = some (.slice a1 n1 k1) := by rw [cell_of_row X _ _ _ _ _ hxb]; rfl
          have x0 : Y.cell? ⟨G, 0, none⟩ = some (.slice na (joinC (L.take q)).nl.length nc) := by rw [cell_of_row Y _ _ _ _ _ g0]; rfl
          have p1 : Y'.cell? ⟨G, 1, none⟩ = some (.slice ia (joinC (L.take q)).il.length ic) := by rw [cell_of_row Y' _ _ _ _ _ hY0]; rfl
          have p3 : Y'.cell? ⟨wr.heap.size, 1, none⟩ = some (.slice a2 n2 k2) := by rw [cell_of_row Y' _ _ _ _ _ hYb]; rfl
          have x1 : Z.cell? ⟨G, 1, none⟩ = some (.slice ia (joinC (L.take q)).il.length ic) := by rw [cell_of_row Z _ _ _ _ _ k0]; rfl
          have b0 : (0 : Int) ≤ (q : Int) := Int.natCast_nonneg q
          have b1 : (q : Int) < (m : Int) := Int.ofNat_lt.2 hlt
          have hw64 : IntKind.i64.wrap ((q : Int) + 1) = (q : Int) + 1 := by have := HN.out; rw [IntKind.wrap_i64]; omega
          generalize (joinC (L.take q)).nl.length = nl at *
          generalize (joinC (L.take q)).il.length = il at *
          generalize ((joinC (L.take q)).nl ++ C.nl).length = nl' at *
          generalize ((joinC (L.take q)).il ++ C.il).length = il' at *
          clear h0 hBr hIr hb hC hbW hv h1 hbx hxb hGlt hsn hln hall hgC hm1 hl0 hl1 hL' hZo xx2 hgl hn0 hn1 hgn hjn hY hY0 hY1 hY2 hY3 hYb0 hYb hYh hZ bY bZ kY kZ g0 k0 HR HV1 hbw d1 d2 i1 i2
          by_cases hbig : 1000 < il'
          · have HO2 := Lib.hid (HO.out (by have := HLL.out; have := HM1.out; omega))
            have t9 : decide ((1000 : Int) < (il' : Int)) = true := decide_eq_true (by omega)
            clear HO HLL HM1 hbig hfin
            go_wp2_with (at_builtin; first | (refine wpList_append_run rfl _ _ 24 rfl rfl rfl (hr1.out _) ?_) | (refine wpList_append_run rfl _ _ 25 rfl rfl rfl (hr2.out _) ?_))
            refine bodyPost_ret (v := .tuple #[.agg #[.slice none 0 0, .slice none 0 0], .int .i64 7]) ?_ rfl HO2.out
            simp [results, Try.results8, go_sem, r0, r1]
          · have hle := Lib.hid (show joinN (L.take (q + 1)) ≤ 1000 by have := HLL.out; omega)
            have t9 : decide ((1000 : Int) < (il' : Int)) = false := decide_eq_false (by omega)
            clear HO HLL HM1 hbig
            go_wp2_with (at_builtin; first | (refine wpList_append_run rfl _ _ 24 rfl rfl rfl (hr1.out _) ?_) | (refine wpList_append_run rfl _ _ 25 rfl rfl rfl (hr2.out _) ?_))
            refine ⟨⟨q + 1, by go_num, hlt, Lib.hid ⟨hfin.out.1, hfin.out.2, hle.out⟩⟩, ?_⟩
            simp [RowKit.intOf]; omega
        · obtain rfl : q = m := by omega
          obtain ⟨⟨nv, iv, h0, hBr, hIr⟩, hb, hjn⟩ := HR.out
          rw [HJ.out] at hBr hIr hjn
          have hje : joinE L = 0 := by simp only [joinE, HL.out.1, if_true]; rw [if_pos (by omega)]
          have hjv : joinV L = joinC L := by simp only [joinV, HL.out.1, Bool.true_and]; rw [decide_eq_true (by omega)]; rfl
          have hGs := HL.out.2
          obtain ⟨na, nc, rfl, _⟩ := ownsRow_form hBr
          obtain ⟨ia, ic, rfl, _⟩ := ownsRow_form hIr
          have p0 : wr.cell? ⟨G, 0, none⟩ = some (.slice na (joinC L).nl.length nc) := (cell_of_row wr _ _ _ _ _ h0).trans rfl
          have p1 : wr.cell? ⟨G, 1, none⟩ = some (.slice ia (joinC L).il.length ic) := (cell_of_row wr _ _ _ _ _ h0).trans rfl
          obtain ⟨⟨y0, y1, y2, y3⟩, ⟨r0, r1⟩, x2⟩ := HC.out wr (.slice na (joinC L).nl.length nc) (.slice ia (joinC L).il.length ic) (HB.out.trans (hb.mono hGs))
          have HF : Hid (OutV w (joinV L) (joinE L) (.returned (.tuple #[.agg #[.slice na (joinC L).nl.length nc, .slice ia (joinC L).il.length ic], .int .i64 0])) ((wr.setCell ⟨w.heap.size, 0, none⟩ (.slice na (joinC L).nl.length nc)).setCell ⟨w.heap.size, 1, none⟩ (.slice ia (joinC L).il.length ic))) := Lib.hid (by
            rw [hje, hjv]
            exact ⟨_, _, rfl, ownsRow_of_block (hBr.base (by omega)) (fun g hg => by have := (hBr.lt g hg).1; rw [vset_other (by omega), vset_other (by omega)]), ownsRow_of_block (hIr.base (by omega)) (fun g hg => by have := (hIr.lt g hg).1; rw [vset_other (by omega), vset_other (by omega)]), x2⟩)
          clear h0 hb hBr hIr hGs HR HV1 x2 hje hjv hjn
          go_wp2_with fail
          refine bodyPost_ret (v := .tuple #[.agg #[.slice na (joinC L).nl.length nc, .slice ia (joinC L).il.length ic], .int .i64 0]) ?_ rfl HF.out
          simp [results, Try.results8, go_sem, r0, r1]
end Go.Proofs.Ytcpfkinjglnabaa
