/- Pick: some rows of a vector. Conditions: none. -/
import Derived.Test.YtbijpjoljljlpaaColD
import Derived.Test.YtbijpjoljljlpaaSched2
set_option maxRecDepth 100000
namespace Go.Proofs.Ytbijpjoljljlpaa
open Go.RowKit Go.Maps Go.Sort

/-- a vector and an error come out -/
def OutV (w : World) (c : CV) (E : Int) (e : Ending) (w' : World) : Prop := ∃ nv iv, e = .returned (.tuple #[.agg #[nv, iv], .int .i64 E]) ∧ RowB w.heap.size nv c.nl w' ∧ RowI w.heap.size iv c.il w' ∧ Below w.heap.size w w'
def pickC (c : CV) (rows : List Int) : CV := ⟨rows.map fun r => c.nl.getD r.toNat false, rows.map fun r => c.il.getD r.toNat 0⟩
def pickOk (c : CV) (rows : List Int) : Bool := goodC c && decide (rows.length ≤ 1000) && !outL c.il.length rows
def pickV (c : CV) (rows : List Int) : CV := if pickOk c rows then pickC c rows else ⟨[], []⟩
def pickE (c : CV) (rows : List Int) : Int := if pickOk c rows then 0 else 2
theorem pick_no {c : CV} {rows : List Int} (h : pickOk c rows = false) : pickV c rows = ⟨[], []⟩ ∧ pickE c rows = 2 := by simp [pickV, pickE, h]
theorem outV_none {w w' : World} (h : Below w.heap.size w w') : OutV w ⟨[], []⟩ 2 (.returned (.tuple #[.agg #[.slice none 0 0, .slice none 0 0], .int .i64 2])) w' := ⟨_, _, rfl, RowB.nil _ _, RowI.nil _ _, h⟩
/-- two blocks more -/
theorem two_boxes (w : World) (A B : Obj) : (w.alloc A).heap[w.heap.size]? = some A ∧ ((w.alloc A).alloc B).heap[w.heap.size]? = some A ∧ ((w.alloc A).alloc B).heap[w.heap.size + 1]? = some B := by
  have h1 : (w.alloc A).heap.size = w.heap.size + 1 := by simp
  refine ⟨heap_alloc_new w A, ?_, ?_⟩
  · rw [heap_alloc_old _ _ (by omega)]; exact heap_alloc_new w A
  · rw [← h1]; exact heap_alloc_new _ B
/-- a vector's block behind the call's start: what a store of an empty one leaves -/
theorem vclear {w W w1 : World} {t : TypeId} {x y : Value} (hs : W.heap.size = w.heap.size + 2) (hb0 : Below w.heap.size w W) (q2 : W.heap[w.heap.size + 1]? = some (.cells #[.slice none 0 0, .slice none 0 0] t (0, 0))) (hb : Below W.heap.size W w1) :
    (w1.cell? ⟨w.heap.size + 1, 0, none⟩ = some (.slice none 0 0) ∧ w1.cell? ⟨w.heap.size + 1, 1, none⟩ = some (.slice none 0 0) ∧ w1.frozen? ⟨w.heap.size + 1, 0, none⟩ = false ∧ w1.frozen? ⟨w.heap.size + 1, 1, none⟩ = false) ∧
    ((w1.setCell ⟨w.heap.size + 1, 0, none⟩ x).setCell ⟨w.heap.size + 1, 1, none⟩ y).heap[w.heap.size + 1]? = some (.cells #[x, y] t (0, 0)) ∧
    Below w.heap.size w ((w1.setCell ⟨w.heap.size + 1, 0, none⟩ x).setCell ⟨w.heap.size + 1, 1, none⟩ y) := by
  have q3 : w1.heap[w.heap.size + 1]? = some (.cells #[.slice none 0 0, .slice none 0 0] t (0, 0)) := (hb.block _ (by omega)).trans q2
  exact ⟨⟨by rw [cell_of_row _ _ _ _ _ _ q3]; rfl, by rw [cell_of_row _ _ _ _ _ _ q3]; rfl, free_of_row q3 0, free_of_row q3 1⟩, heap_set (heap_set q3 x) y, (hb0.trans (hb.mono (by omega))).trans ((vset_below (by omega) _).trans (vset_below (by omega) _))⟩
theorem undrew {G : Nat} {w w' : World} (h : Below G w.drew w') : Below G w w' := ⟨h.os, h.tape, h.output, h.size, h.block⟩
theorem cell_more {w : World} {p : Addr} {u : Value} (h : w.cell? p = some u) (o : Obj) : (w.alloc o).cell? p = some u := by
  rw [(below_box w o).cell (World.block_lt_of_cell? w p h)]; exact h
theorem pick_snoc {c : CV} {rows : List Int} {m r : Nat} (hm : m < rows.length) (hr : rows.getD m 0 = (r : Int)) :
    (pickC c (rows.take (m + 1))).nl = (pickC c (rows.take m)).nl ++ [c.nl.getD r false] ∧ (pickC c (rows.take (m + 1))).il = (pickC c (rows.take m)).il ++ [c.il.getD r 0] := by
  rw [List.getD_eq_getElem?_getD, List.getElem?_eq_getElem hm] at hr
  simp only [Option.getD_some] at hr
  simp only [pickC, List.take_succ_eq_append_getElem hm, List.map_append, List.map_cons, List.map_nil, hr]
  exact ⟨rfl, rfl⟩
theorem out_in {n : Nat} {rows : List Int} (h : outL n rows = false) {m : Nat} (hm : m < rows.length) : ∃ r : Nat, rows.getD m 0 = (r : Int) ∧ r < n := by
  have hx : rows[m] ∈ rows := List.getElem_mem _
  have : outR n rows[m] = false := by
    rw [Bool.eq_false_iff]
    intro g
    have : outL n rows = true := List.any_eq_true.2 ⟨_, hx, g⟩
    rw [h] at this; cases this
  simp only [outR, Bool.or_eq_false_iff, decide_eq_false_iff_not] at this
  refine ⟨rows[m].toNat, ?_, by omega⟩
  rw [List.getD_eq_getElem?_getD, List.getElem?_eq_getElem hm]
  simp only [Option.getD_some]
  omega
set_option maxHeartbeats 1600000 in
theorem cpick_any {w : World} {a1 a2 a3 : Option Addr} {n1 n2 n3 k1 k2 k3 : Nat} {c : CV} {rows : List Int} (h1 : Holds w (.slice a1 n1 k1) (bls c.nl)) (h2 : Holds w (.slice a2 n2 k2) (i64s c.il)) (h3 : Holds w (.slice a3 n3 k3) (i64s rows)) :
    Calls Try.prog 10 #[.agg #[.slice a1 n1 k1, .slice a2 n2 k2], .slice a3 n3 k3] w (OutV w (pickV c rows) (pickE c rows)) := by
  have e3 := h3.len.1
  rw [i64s_len] at e3
  obtain ⟨W, hW⟩ : ∃ W, (w.alloc (.cells #[.slice a1 n1 k1, .slice a2 n2 k2] 25)).alloc (.cells #[.slice none 0 0, .slice none 0 0] 25) = W := ⟨_, rfl⟩
  obtain ⟨_, q1, q2⟩ := two_boxes w (.cells #[.slice a1 n1 k1, .slice a2 n2 k2] 25) (.cells #[.slice none 0 0, .slice none 0 0] 25)
  have hs : W.heap.size = w.heap.size + 2 := by rw [← hW]; simp
  have hb0 : Below w.heap.size w W := by rw [← hW]; exact ((Below.refl _ _).alloc (Nat.le_refl _) _).alloc (by simp) _
  rw [hW] at q1 q2
  have g1 := h1.below hb0
  have g2 := h2.below hb0
  have g3 := h3.below hb0
  have KG := cgood_any g1 g2
  have c0 : W.cell? ⟨w.heap.size, 0, none⟩ = some (.slice a1 n1 k1) := by rw [cell_of_row _ _ _ _ _ _ q1]; rfl
  have c1 : W.cell? ⟨w.heap.size, 1, none⟩ = some (.slice a2 n2 k2) := by rw [cell_of_row _ _ _ _ _ _ q1]; rfl
  have HC := Lib.hid (fun (w1 : World) => @vclear w W w1 _ (.slice none 0 0) (.slice none 0 0) hs hb0 q2)
  by_cases hg : goodC c = false
  · obtain ⟨p1, p2⟩ := pick_no (c := c) (rows := rows) (by simp [pickOk, hg])
    rw [p1, p2]
    rw [hg] at KG
    clear h1 h2 h3 g1 g2 g3 hb0 q1 q2 hs e3 hg p1 p2
    go_enter Try.func10, Try.ntmps10
    go_wp2_with fail
    clear hW
    refine KG.mono ?_
    rintro e w1 ⟨rfl, hb⟩
    obtain ⟨⟨y0, y1, y2, y3⟩, x1, x2⟩ := HC.out w1 hb
    have r0 := cell_of_row _ _ 0 _ _ _ x1
    have r1 := cell_of_row _ _ 1 _ _ _ x1
    clear x1 HC
    go_wp2_with fail
    refine bodyPost_ret (v := .tuple #[.agg #[.slice none 0 0, .slice none 0 0], .int .i64 2]) ?_ rfl (outV_none x2)
    simp [results, Try.results10, go_sem, r0, r1]
  have hg : goodC c = true := by simpa using hg
  rw [hg] at KG
  obtain ⟨hn, hl, _⟩ := good_iff.1 hg
  have e1 := h1.len.1
  have e2 := h2.len.1
  rw [bls_len] at e1
  rw [i64s_len] at e2
  obtain rfl : n2 = n1 := by omega
  by_cases hl3 : 1000 < n3
  · obtain ⟨p1, p2⟩ := pick_no (c := c) (rows := rows) (by simp only [pickOk, hg, Bool.true_and]; rw [decide_eq_false (by omega)]; rfl)
    rw [p1, p2]
    have t0 : decide ((1000 : Int) < (n3 : Int)) = true := decide_eq_true (by omega)
    clear h1 h2 h3 g1 g2 g3 hb0 q1 q2 hs e3 hg p1 p2 hn hl e1 e2 hl3
    go_enter Try.func10, Try.ntmps10
    go_wp2_with fail
    clear hW
    refine KG.mono ?_
    rintro e w1 ⟨rfl, hb⟩
    obtain ⟨⟨y0, y1, y2, y3⟩, x1, x2⟩ := HC.out w1 hb
    have r0 := cell_of_row _ _ 0 _ _ _ x1
    have r1 := cell_of_row _ _ 1 _ _ _ x1
    clear x1 HC
    go_wp2_with fail
    refine bodyPost_ret (v := .tuple #[.agg #[.slice none 0 0, .slice none 0 0], .int .i64 2]) ?_ rfl (outV_none x2)
    simp [results, Try.results10, go_sem, r0, r1]
  have t0 : decide ((1000 : Int) < (n3 : Int)) = false := decide_eq_false (by omega)
  have hok : pickOk c rows = !outL n2 rows := by simp only [pickOk, hg, Bool.true_and, e2]; rw [decide_eq_true (by omega)]; rfl
  have HK := Lib.hid (fun (w1 : World) (hb : Below W.heap.size W w1) => @containsOut_any w1 w.heap.size a2 a3 n2 k2 n3 k3 rows (by rw [hb.cell (World.block_lt_of_cell? W _ c1)]; exact c1) (g3.below hb) (by omega))
  cases ho : outL n2 rows
  · rw [ho] at hok HK
    have p1 : pickV c rows = pickC c rows := by simp [pickV, hok]
    have p2 : pickE c rows = 0 := by simp [pickE, hok]
    rw [p1, p2]
    have E1 := Lib.hid e1
    have E2 := Lib.hid e2
    have E3 := Lib.hid e3
    have HL := Lib.hid hl3
    have HO := Lib.hid (fun (m : Nat) (hm : m < rows.length) => out_in ho hm)
    have HT : Hid (rows.take n3 = rows) := Lib.hid (by rw [← e3]; exact List.take_length)
    have H1 := Lib.hid (fun (wr : World) (hb : Below w.heap.size w wr) => h1.below hb)
    have H2 := Lib.hid (fun (wr : World) (hb : Below w.heap.size w wr) => h2.below hb)
    have H3 := Lib.hid (fun (wr : World) (hb : Below w.heap.size w wr) => h3.below hb)
    have HB0 := Lib.hid (fun (w1 : World) (hb : Below W.heap.size W w1) => hb0.trans (hb.mono (by omega)))
    have HS := Lib.hid hs
    clear h1 h2 h3 g1 g2 g3 hb0 q1 hs e3 hg p1 p2 hn hl e1 e2 hl3 ho hok
    go_enter Try.func10, Try.ntmps10
    go_wp2_with fail
    clear hW
    refine KG.mono ?_
    rintro e w1 ⟨rfl, hb⟩
    have KC := HK.out w1 hb
    have hb1 := HB0.out w1 hb
    have z0 : w1.cell? ⟨w.heap.size, 0, none⟩ = some (.slice a1 n2 k1) := by rw [hb.cell (World.block_lt_of_cell? W _ c0)]; exact c0
    have z1 : w1.cell? ⟨w.heap.size, 1, none⟩ = some (.slice a2 n2 k2) := by rw [hb.cell (World.block_lt_of_cell? W _ c1)]; exact c1
    have hG1 : w.heap.size + 2 ≤ w1.heap.size := by have := hb.size; rw [HS.out] at this; exact this
    have q3 : w1.heap[w.heap.size + 1]? = some (.cells #[.slice none 0 0, .slice none 0 0] 25 (0, 0)) := (hb.block _ (by rw [HS.out]; omega)).trans q2
    obtain ⟨G, hG⟩ : ∃ G, w1.heap.size = G := ⟨_, rfl⟩
    have HG1 := Lib.hid hG1
    have HQ3 := Lib.hid q3
    have HB1 := Lib.hid hb1
    have HGG := Lib.hid hG
    clear hb HK HC c0 c1 KG q2 q3 hG1 hb1 HB0
    go_wp2_with fail
    refine KC.mono ?_
    rintro e w2 ⟨rfl, rfl⟩
    clear KC
    have hv0 : VAt 25 G ⟨[], []⟩ (w2.alloc (.cells #[.slice none 0 0, .slice none 0 0] 25)) := by rw [← HGG.out]; exact VAt.new _ _
    have HV0 := Lib.hid hv0
    have HBX : Hid (Below G w2 (w2.alloc (.cells #[.slice none 0 0, .slice none 0 0] 25))) := Lib.hid (by rw [← HGG.out]; exact below_box _ _)
    clear hv0
    go_wp2_with fail
    (try rw [hG])
    go_loopw [27] (fun s wr => ∃ (m : Nat), s = .int .i64 m ∧ m ≤ n3 ∧ Hid (VAt 25 G (pickC c (rows.take m)) wr ∧ Below G w2 wr)) (fun s _ => n3 - (RowKit.intOf s).toNat)
    case atStart => exact ⟨0, rfl, Nat.zero_le _, HV0.out, HBX.out⟩
    case round =>
      obtain ⟨m, rfl, hm, HS2⟩ := hrel
      by_cases hlt : m < n3
      · have hm3 : m < rows.length := by have := E3.out; omega
        obtain ⟨r, hr, hrn⟩ := HO.out m hm3
        obtain ⟨⟨nv, iv, h0, hBr, hIr⟩, hb⟩ := HS2.out
        have hGs : w.heap.size + 2 ≤ G := by rw [← HGG.out]; exact HG1.out
        have hbw : Below w.heap.size w wr := HB1.out.trans (hb.mono (by omega))
        have G1 := H1.out wr hbw
        have G2 := H2.out wr hbw
        have G3 := H3.out wr hbw
        obtain ⟨d1, rfl⟩ := G1.ptr (by omega)
        obtain ⟨d2, rfl⟩ := G2.ptr (by omega)
        obtain ⟨d3, rfl⟩ := G3.ptr (by omega)
        have hk1 : r < c.nl.length := by have := E1.out; omega
        have hk2 : r < c.il.length := by have := E2.out; omega
        have c1 := G1.cell (bls_get hk1)
        have c2 := G2.cell (i64s_get hk2)
        have c3 := G3.cell (i64s_get hm3)
        have y0 : wr.cell? ⟨w.heap.size, 0, none⟩ = some (.slice (some d1) n2 k1) := by rw [hb.cell (by show w.heap.size < G; omega)]; exact z0
        have y1 : wr.cell? ⟨w.heap.size, 1, none⟩ = some (.slice (some d2) n2 k2) := by rw [hb.cell (by show w.heap.size < G; omega)]; exact z1
        obtain ⟨s1, s2⟩ := pick_snoc (c := c) hm3 hr
        obtain ⟨b, hbe⟩ : ∃ b, c.nl.getD r false = b := ⟨_, rfl⟩
        obtain ⟨x, hx⟩ : ∃ x, c.il.getD r 0 = x := ⟨_, rfl⟩
        rw [hbe] at s1 c1
        rw [hx] at s2 c2
        rw [hr] at c3
        have hll : (pickC c (rows.take m)).nl.length ≤ 1000 ∧ (pickC c (rows.take m)).il.length ≤ 1000 := by
          have := HL.out
          simp only [pickC, List.length_map, List.length_take]; omega
        have l1 := World.block_lt_of_cell? w _ ((H1.out w (Below.refl _ _)).cell (bls_get hk1))
        have l2 := World.block_lt_of_cell? w _ ((H2.out w (Below.refl _ _)).cell (i64s_get hk2))
        have l3 := World.block_lt_of_cell? w _ ((H3.out w (Below.refl _ _)).cell (i64s_get hm3))
        obtain ⟨na, nc, rfl, _⟩ := ownsRow_form hBr
        obtain ⟨ia, ic, rfl, _⟩ := ownsRow_form hIr
        obtain ⟨v', X, hr1, g0, hX, bX⟩ := VAt.appN (W := wr.drew) (W' := wr.drew.alloc (.cells #[.bool b] 4)) (sv := .slice (some ⟨wr.heap.size, 0, none⟩) 1 1) (l := [b]) h0 hBr hIr (below_box _ _) (Holds.of_heap (alloc1 wr.drew _) rfl 1 1 rfl (Nat.le_refl _)) (by simp; omega)
        obtain ⟨hY0, hY1, hY2, hY3⟩ := hX.out
        obtain ⟨va, vc, rfl, _⟩ := ownsRow_form hY1
        obtain ⟨Y, hYe⟩ : ∃ Y, X.setCell ⟨G, 0, none⟩ (.slice va ((pickC c (rows.take m)).nl ++ [b]).length vc) = Y := ⟨_, rfl⟩
        rw [hYe] at hY0 hY1 hY2 hY3
        have hY3 := undrew hY3
        obtain ⟨u', Z, hr2, k0, hZ, bZ⟩ := VAt.appI (c := ⟨(pickC c (rows.take m)).nl ++ [b], (pickC c (rows.take m)).il⟩) (W := Y.drew) (W' := Y.drew.alloc (.cells #[.int .i64 x] 3)) (sv := .slice (some ⟨Y.heap.size, 0, none⟩) 1 1) (l := [x]) hY0 hY1 hY2 (below_box _ _) (Holds.of_heap (alloc1 Y.drew _) rfl 1 1 rfl (Nat.le_refl _)) (by simp; omega)
        obtain ⟨ua, uc, rfl, _⟩ := ownsRow_form hZ.out.2.2.1
        have hfin : Hid (VAt 25 G (pickC c (rows.take (m + 1))) (Z.setCell ⟨G, 1, none⟩ (.slice ua ((pickC c (rows.take m)).il ++ [x]).length uc)) ∧ Below G w2 (Z.setCell ⟨G, 1, none⟩ (.slice ua ((pickC c (rows.take m)).il ++ [x]).length uc))) := Lib.hid
          ⟨⟨_, _, hZ.out.1, by rw [s1]; exact hZ.out.2.1, by rw [s2]; exact hZ.out.2.2.1⟩, (hb.trans hY3).trans (undrew hZ.out.2.2.2)⟩
        have f0 := free_of_row g0 0
        have f1 := free_of_row k0 1
        have p0 : wr.drew.cell? ⟨G, 0, none⟩ = some (.slice na (pickC c (rows.take m)).nl.length nc) := (cell_of_row wr _ _ _ _ _ h0).trans rfl
        have p1 : Y.drew.cell? ⟨G, 1, none⟩ = some (.slice ia (pickC c (rows.take m)).il.length ic) := (cell_of_row Y _ _ _ _ _ hY0).trans rfl
        have x0 : X.cell? ⟨G, 0, none⟩ = some (.slice na (pickC c (rows.take m)).nl.length nc) := (cell_of_row X _ _ _ _ _ g0).trans rfl
        have x1 : Z.cell? ⟨G, 1, none⟩ = some (.slice ia (pickC c (rows.take m)).il.length ic) := (cell_of_row Z _ _ _ _ _ k0).trans rfl
        have x2 : X.cell? ⟨w.heap.size, 0, none⟩ = some (.slice (some d1) n2 k1) := by rw [bX.cell (by show w.heap.size < G + 1; omega)]; exact y0
        have x3 : X.cell? (d1.add r) = some (.bool b) := by rw [bX.cell (by omega)]; exact c1
        have y2 : Y.drew.cell? ⟨w.heap.size, 1, none⟩ = some (.slice (some d2) n2 k2) := by show Y.cell? _ = _; rw [hY3.cell (by show w.heap.size < G; omega)]; exact y1
        have y3 : Y.drew.cell? (d2.add r) = some (.int .i64 x) := by show Y.cell? _ = _; rw [hY3.cell (by omega)]; exact c2
        have x4 : Z.cell? ⟨w.heap.size, 1, none⟩ = some (.slice (some d2) n2 k2) := by rw [bZ.cell (by show w.heap.size < G + 1; omega)]; exact y2
        have x5 : Z.cell? (d2.add r) = some (.int .i64 x) := by rw [bZ.cell (by omega)]; exact y3
        have b0 : (0 : Int) ≤ (m : Int) := Int.natCast_nonneg m
        have b1 : (m : Int) < (n3 : Int) := Int.ofNat_lt.2 hlt
        have b2 : (0 : Int) ≤ (r : Int) := Int.natCast_nonneg r
        have b3 : (r : Int) < (n2 : Int) := Int.ofNat_lt.2 hrn
        have hw64 := col_next hlt (by have := HL.out; omega)
        have q0 : wr.drew.cell? ⟨w.heap.size, 0, none⟩ = some (.slice (some d1) n2 k1) := y0
        have q1 : wr.drew.cell? (d1.add r) = some (.bool b) := c1
        clear hm3 hr h0 hb hGs hbw G1 G2 G3 hk1 hk2 y0 y1 s1 s2 hbe hx hll l1 l2 l3 hX hZ hY0 hY1 hY2 hY3 bX bZ g0 k0 HS2 HV0 HBX hBr hIr c1 c2
        generalize (pickC c (rows.take m)).nl.length = nl at *
        generalize (pickC c (rows.take m)).il.length = il at *
        generalize ((pickC c (rows.take m)).nl ++ [b]).length = nl' at *
        generalize ((pickC c (rows.take m)).il ++ [x]).length = il' at *
        go_wp2_with fail
        refine wp_region_mix (fun V => V.cell? ⟨G, 0, none⟩ = some (.slice na nl nc) ∧ V.cell? ⟨w.heap.size, 0, none⟩ = some (.slice (some d1) n2 k1) ∧ V.cell? (d1.add r) = some (.bool b)) 10 [(true, 0), (true, 1), (true, 2), (true, 3), (true, 4), (true, 5), (true, 6), (false, 7), (false, 8), (true, 9), (false, 10)] (by kernel_rfl) (by decide +kernel) rfl (by decide +kernel) ⟨p0, q0, q1⟩ ?_
        iterate 7
          refine wpMix_take (v := ?_) rfl rfl ?_ ?_
          rotate_left
          · (intro V hV; (try dsimp only at hV); go_simp) <;> with_reducible rfl
          simp only [Act.put, List.setIfInBounds_toArray, List.set_cons_zero, List.set_cons_succ]
        refine wpMix_run rfl ?_
        intro K' hK
        go_wp2_with fail
        refine hK.out _ _ (fun _ => ⟨cell_more p0 _, cell_more q0 _, cell_more q1 _⟩) ?_
        clear hK K'
        refine wpMix_run rfl ?_
        intro K' hK
        refine wpList_append_run rfl _ _ 22 rfl rfl rfl (hr1.out _) ?_
        go_wp2_with fail
        refine hK.out _ _ (fun _ => ⟨x0, x2, x3⟩) ?_
        clear hK K' p0 q0 q1
        iterate 1
          refine wpMix_take (v := ?_) rfl rfl ?_ ?_
          rotate_left
          · (intro V hV; (try dsimp only at hV); go_simp) <;> with_reducible rfl
          simp only [Act.put, List.setIfInBounds_toArray, List.set_cons_zero, List.set_cons_succ]
        refine wpMix_run rfl ?_
        intro K' hK
        go_wp2_with fail
        refine hK.out _ _ (fun h => absurd rfl h) ?_
        clear hK K'
        refine wpMix_nil ?_
        (try rw [hYe])
        clear x0 x2 x3 f0 hYe
        go_wp2_with fail
        refine wp_region_mix (fun V => V.cell? ⟨G, 1, none⟩ = some (.slice ia il ic) ∧ V.cell? ⟨w.heap.size, 1, none⟩ = some (.slice (some d2) n2 k2) ∧ V.cell? (d2.add r) = some (.int .i64 x)) 10 [(true, 0), (true, 1), (true, 2), (true, 3), (true, 4), (true, 5), (true, 6), (false, 7), (false, 8), (true, 9), (false, 10)] (by kernel_rfl) (by decide +kernel) rfl (by decide +kernel) ⟨p1, y2, y3⟩ ?_
        iterate 7
          refine wpMix_take (v := ?_) rfl rfl ?_ ?_
          rotate_left
          · (intro V hV; (try dsimp only at hV); go_simp) <;> with_reducible rfl
          simp only [Act.put, List.setIfInBounds_toArray, List.set_cons_zero, List.set_cons_succ]
        refine wpMix_run rfl ?_
        intro K' hK
        go_wp2_with fail
        refine hK.out _ _ (fun _ => ⟨cell_more p1 _, cell_more y2 _, cell_more y3 _⟩) ?_
        clear hK K'
        refine wpMix_run rfl ?_
        intro K' hK
        refine wpList_append_run rfl _ _ 23 rfl rfl rfl (hr2.out _) ?_
        go_wp2_with fail
        refine hK.out _ _ (fun _ => ⟨x1, x4, x5⟩) ?_
        clear hK K' p1 y2 y3
        iterate 1
          refine wpMix_take (v := ?_) rfl rfl ?_ ?_
          rotate_left
          · (intro V hV; (try dsimp only at hV); go_simp) <;> with_reducible rfl
          simp only [Act.put, List.setIfInBounds_toArray, List.set_cons_zero, List.set_cons_succ]
        refine wpMix_run rfl ?_
        intro K' hK
        go_wp2_with fail
        refine hK.out _ _ (fun h => absurd rfl h) ?_
        clear hK K'
        refine wpMix_nil ?_
        go_wp2_with fail
        go_roundw
        case rel => exact ⟨m + 1, by go_num, hlt, hfin⟩
        case measure => simp [RowKit.intOf]; omega
      · obtain rfl : m = n3 := by omega
        obtain ⟨⟨nv, iv, h0, hBr, hIr⟩, hb⟩ := HS2.out
        rw [HT.out] at hBr hIr
        have hGs : w.heap.size + 2 ≤ G := by rw [← HGG.out]; exact HG1.out
        obtain ⟨na, nc, rfl, _⟩ := ownsRow_form hBr
        obtain ⟨ia, ic, rfl, _⟩ := ownsRow_form hIr
        have p0 : wr.cell? ⟨G, 0, none⟩ = some (.slice na (pickC c rows).nl.length nc) := (cell_of_row wr _ _ _ _ _ h0).trans rfl
        have p1 : wr.cell? ⟨G, 1, none⟩ = some (.slice ia (pickC c rows).il.length ic) := (cell_of_row wr _ _ _ _ _ h0).trans rfl
        have q4 : wr.heap[w.heap.size + 1]? = some (.cells #[.slice none 0 0, .slice none 0 0] 25 (0, 0)) := (hb.block _ (by omega)).trans HQ3.out
        have k0 : wr.cell? ⟨w.heap.size + 1, 0, none⟩ = some (.slice none 0 0) := (cell_of_row wr _ _ _ _ _ q4).trans rfl
        have k1' : wr.cell? ⟨w.heap.size + 1, 1, none⟩ = some (.slice none 0 0) := (cell_of_row wr _ _ _ _ _ q4).trans rfl
        have f0 := free_of_row q4 0
        have f1 := free_of_row q4 1
        have e2 := heap_set (j := 1) (heap_set (j := 0) q4 (.slice na (pickC c rows).nl.length nc)) (.slice ia (pickC c rows).il.length ic)
        have r0 := cell_of_row _ _ 0 _ _ _ e2
        have r1 := cell_of_row _ _ 1 _ _ _ e2
        have HF : Hid (OutV w (pickC c rows) 0 (.returned (.tuple #[.agg #[.slice na (pickC c rows).nl.length nc, .slice ia (pickC c rows).il.length ic], .int .i64 0])) ((wr.setCell ⟨w.heap.size + 1, 0, none⟩ (.slice na (pickC c rows).nl.length nc)).setCell ⟨w.heap.size + 1, 1, none⟩ (.slice ia (pickC c rows).il.length ic))) := Lib.hid
          ⟨_, _, rfl, ownsRow_of_block (hBr.base (by omega)) (fun g hg => by have := (hBr.lt g hg).1; rw [vset_other (by omega), vset_other (by omega)]), ownsRow_of_block (hIr.base (by omega)) (fun g hg => by have := (hIr.lt g hg).1; rw [vset_other (by omega), vset_other (by omega)]),
            (HB1.out.trans (hb.mono (by omega))).trans ((vset_below (by omega) _).trans (vset_below (by omega) _))⟩
        clear h0 hb hBr hIr hGs q4 e2 HS2 HV0 HBX
        go_wp2_with fail
        refine bodyPost_ret (v := .tuple #[.agg #[.slice na (pickC c rows).nl.length nc, .slice ia (pickC c rows).il.length ic], .int .i64 0]) ?_ rfl HF.out
        simp [results, Try.results10, go_sem, r0, r1]
  · rw [ho] at hok HK
    obtain ⟨p1, p2⟩ := pick_no hok
    rw [p1, p2]
    clear h1 h2 h3 g1 g2 g3 hb0 q1 q2 hs e3 hg p1 p2 hn hl e1 e2 hl3 ho hok
    go_enter Try.func10, Try.ntmps10
    go_wp2_with fail
    clear hW
    refine KG.mono ?_
    rintro e w1 ⟨rfl, hb⟩
    have KC := HK.out w1 hb
    obtain ⟨⟨y0, y1, y2, y3⟩, x1, x2⟩ := HC.out w1 hb
    have r0 := cell_of_row _ _ 0 _ _ _ x1
    have r1 := cell_of_row _ _ 1 _ _ _ x1
    clear x1 HC HK hb
    go_wp2_with fail
    refine KC.mono ?_
    rintro e w2 ⟨rfl, rfl⟩
    go_wp2_with fail
    refine bodyPost_ret (v := .tuple #[.agg #[.slice none 0 0, .slice none 0 0], .int .i64 2]) ?_ rfl (outV_none x2)
    simp [results, Try.results10, go_sem, r0, r1]
end Go.Proofs.Ytbijpjoljljlpaa
