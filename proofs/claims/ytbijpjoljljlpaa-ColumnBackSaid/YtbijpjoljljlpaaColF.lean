/- Join: vectors one behind the other. Conditions: none. -/
import Derived.Test.YtbijpjoljljlpaaColE
set_option maxRecDepth 100000
namespace Go.Proofs.Ytbijpjoljljlpaa
open Go.RowKit Go.Maps Go.Sort

/-- where a vector of a slice lies -/
def VecAt (w : World) (p : Addr) (c : CV) : Prop := ∃ a1 n1 k1 a2 n2 k2, w.cell? p = some (.slice a1 n1 k1) ∧ w.cell? ⟨p.block, p.off + 1, none⟩ = some (.slice a2 n2 k2) ∧ Holds w (.slice a1 n1 k1) (bls c.nl) ∧ Holds w (.slice a2 n2 k2) (i64s c.il)
/-- vectors of a slice -/
def HoldsL (w : World) (a : Option Addr) (n : Nat) (L : List CV) : Prop := n = L.length ∧ (0 < n → ∃ ad, a = some ad ∧ ∀ i c, L[i]? = some c → VecAt w (ad.add (i * 2)) c)
theorem VecAt.below {w w' : World} {p : Addr} {c : CV} (h : VecAt w p c) (hb : Below w.heap.size w w') : VecAt w' p c := by
  obtain ⟨a1, n1, k1, a2, n2, k2, h1, h2, h3, h4⟩ := h
  exact ⟨a1, n1, k1, a2, n2, k2, by rw [hb.cell (World.block_lt_of_cell? w _ h1)]; exact h1, by rw [hb.cell (World.block_lt_of_cell? w _ h2)]; exact h2, h3.below hb, h4.below hb⟩
theorem HoldsL.below {w w' : World} {a : Option Addr} {n : Nat} {L : List CV} (h : HoldsL w a n L) (hb : Below w.heap.size w w') : HoldsL w' a n L :=
  ⟨h.1, fun hn => by obtain ⟨ad, e, h2⟩ := h.2 hn; exact ⟨ad, e, fun i c hc => (h2 i c hc).below hb⟩⟩
def joinN (L : List CV) : Nat := (L.map fun c => c.il.length).sum
def joinC (L : List CV) : CV := ⟨L.flatMap CV.nl, L.flatMap CV.il⟩
def joinV (L : List CV) : CV := if L.all goodC && decide (joinN L ≤ 1000) then joinC L else ⟨[], []⟩
def joinE (L : List CV) : Int := if L.all goodC then if joinN L ≤ 1000 then 0 else 7 else 2
theorem joinN_snoc (L : List CV) (c : CV) : joinN (L ++ [c]) = joinN L + c.il.length := by simp [joinN]
theorem joinC_snoc (L : List CV) (c : CV) : (joinC (L ++ [c])).nl = (joinC L).nl ++ c.nl ∧ (joinC (L ++ [c])).il = (joinC L).il ++ c.il := by simp [joinC]
theorem joinC_len (L : List CV) : (joinC L).il.length = joinN L := by simp [joinC, joinN, List.length_flatMap]
theorem joinC_len0 : ∀ (L : List CV), L.all goodC = true → (joinC L).nl.length = joinN L
  | [], _ => rfl
  | c :: r, h => by
    rw [List.all_cons, Bool.and_eq_true] at h
    have := joinC_len0 r h.2
    have e := (good_iff.1 h.1).1
    simp [joinC, joinN] at this ⊢
    omega
theorem take_snoc {α : Type _} {L : List α} {m : Nat} {c : α} (h : L[m]? = some c) : L.take (m + 1) = L.take m ++ [c] := by
  obtain ⟨hl, e⟩ := List.getElem?_eq_some_iff.1 h
  rw [List.take_succ_eq_append_getElem hl, e]
theorem join_mono (L : List CV) (m : Nat) : joinN (L.take m) ≤ joinN L := by
  have : joinN (L.take m ++ L.drop m) = joinN (L.take m) + joinN (L.drop m) := by simp only [joinN, List.map_append, List.sum_append]
  rw [List.take_append_drop] at this
  omega
theorem all_snoc {L : List CV} {c : CV} (h : L.all goodC = true) (hc : goodC c = true) : (L ++ [c]).all goodC = true := by simp [List.all_append, h, hc]
theorem all_bad {L : List CV} {m : Nat} {c : CV} (h : L[m]? = some c) (hc : goodC c = false) : L.all goodC = false := by
  rw [Bool.eq_false_iff]
  intro g
  have := List.all_eq_true.1 g c (List.mem_of_getElem? h)
  rw [hc] at this; cases this
/-- a result's block one behind the call's start -/
theorem vclear1 {w w1 : World} {t : TypeId} {x y : Value} (hb : Below (w.heap.size + 1) (w.alloc (.cells #[.slice none 0 0, .slice none 0 0] t)) w1) :
    (w1.cell? ⟨w.heap.size, 0, none⟩ = some (.slice none 0 0) ∧ w1.cell? ⟨w.heap.size, 1, none⟩ = some (.slice none 0 0) ∧ w1.frozen? ⟨w.heap.size, 0, none⟩ = false ∧ w1.frozen? ⟨w.heap.size, 1, none⟩ = false) ∧
    (((w1.setCell ⟨w.heap.size, 0, none⟩ x).setCell ⟨w.heap.size, 1, none⟩ y).cell? ⟨w.heap.size, 0, none⟩ = some x ∧ ((w1.setCell ⟨w.heap.size, 0, none⟩ x).setCell ⟨w.heap.size, 1, none⟩ y).cell? ⟨w.heap.size, 1, none⟩ = some y) ∧
    Below w.heap.size w ((w1.setCell ⟨w.heap.size, 0, none⟩ x).setCell ⟨w.heap.size, 1, none⟩ y) := by
  have q3 : w1.heap[w.heap.size]? = some (.cells #[.slice none 0 0, .slice none 0 0] t (0, 0)) := (hb.block _ (by omega)).trans (heap_alloc_new w _)
  have q4 := heap_set (j := 1) (heap_set (j := 0) q3 x) y
  exact ⟨⟨by rw [cell_of_row _ _ _ _ _ _ q3]; rfl, by rw [cell_of_row _ _ _ _ _ _ q3]; rfl, free_of_row q3 0, free_of_row q3 1⟩, ⟨by rw [cell_of_row _ _ _ _ _ _ q4]; rfl, by rw [cell_of_row _ _ _ _ _ _ q4]; rfl⟩,
    ((below_box w _).trans (hb.mono (by omega))).trans ((vset_below (by omega) _).trans (vset_below (by omega) _))⟩
theorem box_keep {W wr w1 : World} {B : Nat} {o : Obj} (h : Below B W wr) (hB : B ≤ wr.heap.size) (hb : Below (wr.alloc o).heap.size (wr.alloc o) w1) : Below B W w1 := (h.trans ((below_box wr o).mono hB)).trans (hb.mono (by simp; omega))
set_option maxHeartbeats 1600000 in
theorem cjoin_any {w : World} {a : Option Addr} {n k : Nat} {L : List CV} (h : HoldsL w a n L) (hn : n ≤ 4398046511104) :
    Calls Try.prog 11 #[.slice a n k] w (OutV w (joinV L) (joinE L)) := by
  obtain ⟨W, hW⟩ : ∃ W, w.alloc (.cells #[.slice none 0 0, .slice none 0 0] 25) = W := ⟨_, rfl⟩
  have hb0 : Below w.heap.size w W := by rw [← hW]; exact below_box _ _
  have HW := Lib.hid hW
  have H0 := Lib.hid h
  have HB0 := Lib.hid hb0
  have HE := Lib.hid h.1
  have HN := Lib.hid hn
  have HC := Lib.hid (fun (w1 : World) (x y : Value) => @vclear1 w w1 25 x y)
  rw [hW] at HC
  have hs : W.heap.size = w.heap.size + 1 := by rw [← hW]; simp
  have HS := Lib.hid hs
  clear h hb0 hn hs
  go_enter Try.func11, Try.ntmps11
  go_wp2_with fail
  clear hW
  go_loopw [4, 12] (fun s i wr => ∃ (m t : Nat), i = .int .i64 m ∧ s = .int .i64 t ∧ m ≤ n ∧ Hid (t ≤ 1000 * m ∧ t = joinN (L.take m) ∧ (L.take m).all goodC = true ∧ Below (w.heap.size + 1) W wr)) (fun _ i _ => n - (RowKit.intOf i).toNat)
  case atStart => exact ⟨0, 0, rfl, rfl, Nat.zero_le _, by omega, by simp [joinN], by simp, Below.refl _ _⟩
  case round =>
    obtain ⟨m, t, rfl, rfl, hm, HR⟩ := hrel
    by_cases hlt : m < n
    · obtain ⟨ht, hts, hall, hb⟩ := HR.out
      obtain ⟨C, hC⟩ : ∃ C, L[m]? = some C := ⟨L[m]'(by rw [← HE.out]; exact hlt), List.getElem?_eq_getElem _⟩
      have hbw : Below w.heap.size w wr := HB0.out.trans (hb.mono (by omega))
      obtain ⟨ad, rfl, hv⟩ := H0.out.2 (by omega)
      obtain ⟨a1, n1, k1, a2, n2, k2, d1, d2, i1, i2⟩ := hv m C hC
      have c1 : wr.cell? (ad.add (m * 2)) = some (.slice a1 n1 k1) := by rw [hbw.cell (World.block_lt_of_cell? w _ d1)]; exact d1
      have c2 : wr.cell? ⟨(ad.add (m * 2)).block, (ad.add (m * 2)).off + 1, none⟩ = some (.slice a2 n2 k2) := by rw [hbw.cell (World.block_lt_of_cell? w _ d2)]; exact d2
      have h1 := i1.below hbw
      have h2 := i2.below hbw
      have hbx := below_box wr (.cells #[.slice a1 n1 k1, .slice a2 n2 k2] 25)
      have hsz : w.heap.size + 1 ≤ wr.heap.size := by have := hb.size; rw [HS.out] at this; exact this
      have KG := cgood_any (h1.below hbx) (h2.below hbx)
      have b0 : (0 : Int) ≤ (m : Int) := Int.natCast_nonneg m
      have b1 : (m : Int) < (n : Int) := Int.ofNat_lt.2 hlt
      have hw64 : IntKind.i64.wrap ((m : Int) + 1) = (m : Int) + 1 := by have := HN.out; rw [IntKind.wrap_i64]; omega
      have e2 : C.il.length = n2 := by have := h2.len.1; rw [i64s_len] at this; exact this
      cases hg : goodC C
      · rw [hg] at KG
        have hbad := all_bad hC hg
        have hje : joinE L = 2 := by simp [joinE, hbad]
        have hjv : joinV L = ⟨[], []⟩ := by simp [joinV, hbad]
        have HF : Hid (∀ w1, Below (wr.alloc (.cells #[.slice a1 n1 k1, .slice a2 n2 k2] 25)).heap.size (wr.alloc (.cells #[.slice a1 n1 k1, .slice a2 n2 k2] 25)) w1 → Below (w.heap.size + 1) W w1) := Lib.hid (fun w1 hb1 => box_keep hb hsz hb1)
        have HO : Hid (∀ w', Below w.heap.size w w' → OutV w (joinV L) (joinE L) (.returned (.tuple #[.agg #[.slice none 0 0, .slice none 0 0], .int .i64 2])) w') := Lib.hid (fun w' hw => by rw [hje, hjv]; exact outV_none hw)
        clear ht hts hall hb hbw d1 d2 i1 i2 hC hv h1 h2 hbx hsz hg hbad hje hjv HR e2
        go_wp2_with fail
        refine KG.mono ?_
        rintro e w1 ⟨rfl, hb1⟩
        obtain ⟨⟨y0, y1, y2, y3⟩, ⟨r0, r1⟩, x2⟩ := HC.out w1 (.slice none 0 0) (.slice none 0 0) (HF.out w1 hb1)
        clear hb1
        go_wp2_with fail
        refine bodyPost_ret (v := .tuple #[.agg #[.slice none 0 0, .slice none 0 0], .int .i64 2]) ?_ rfl (HO.out _ x2)
        simp [results, Try.results11, go_sem, r0, r1]
      · rw [hg] at KG
        have hle := (good_iff.1 hg).2.1
        have hw2 : IntKind.i64.wrap ((t : Int) + (n2 : Int)) = ((t + n2 : Nat) : Int) := by have := HN.out; rw [IntKind.wrap_i64]; omega
        have HF : Hid (∀ w1, Below (wr.alloc (.cells #[.slice a1 n1 k1, .slice a2 n2 k2] 25)).heap.size (wr.alloc (.cells #[.slice a1 n1 k1, .slice a2 n2 k2] 25)) w1 →
            t + n2 ≤ 1000 * (m + 1) ∧ t + n2 = joinN (L.take (m + 1)) ∧ (L.take (m + 1)).all goodC = true ∧ Below (w.heap.size + 1) W w1) := Lib.hid (fun w1 hb1 => ⟨by omega, by rw [take_snoc hC, joinN_snoc, ← hts, e2], by rw [take_snoc hC]; exact all_snoc hall hg, box_keep hb hsz hb1⟩)
        obtain ⟨tt, htt⟩ : ∃ tt, t + n2 = tt := ⟨_, rfl⟩
        rw [htt] at hw2 HF
        clear ht hts hall hb hbw d1 d2 i1 i2 hC hv h1 h2 hbx hsz hg HR e2 hle htt
        go_wp2_with fail
        refine KG.mono ?_
        rintro e w1 ⟨rfl, hb1⟩
        obtain ⟨f0, f1⟩ := box2 (w := wr) (hb1.mono (by simp))
        have hh := Lib.hid (HF.out w1 hb1)
        clear hb1 HF KG
        go_wp2_with fail
        go_roundw
        case rel => exact ⟨m + 1, tt, by go_num, by go_num, hlt, hh⟩
        case measure => simp [RowKit.intOf]; omega
    · obtain rfl : m = n := by omega
      obtain ⟨ht, hts, hall, hb⟩ := HR.out
      have hta : L.take m = L := by rw [HE.out]; exact List.take_length
      rw [hta] at hts hall
      by_cases hbig : 1000 < t
      · have hje : joinE L = 7 := by simp only [joinE, hall, if_true]; rw [if_neg (by omega)]
        have hjv : joinV L = ⟨[], []⟩ := by simp only [joinV, hall, Bool.true_and]; rw [decide_eq_false (by omega)]; rfl
        have HO : Hid (∀ w', Below w.heap.size w w' → OutV w (joinV L) (joinE L) (.returned (.tuple #[.agg #[.slice none 0 0, .slice none 0 0], .int .i64 7])) w') := Lib.hid (fun w' hw => by rw [hje, hjv]; exact ⟨_, _, rfl, RowB.nil _ _, RowI.nil _ _, hw⟩)
        obtain ⟨⟨y0, y1, y2, y3⟩, ⟨r0, r1⟩, x2⟩ := HC.out wr (.slice none 0 0) (.slice none 0 0) hb
        have t0 : decide ((1000 : Int) < (t : Int)) = true := decide_eq_true (by omega)
        clear ht hts hall hb hta hje hjv HR hbig
        go_wp2_with fail
        refine bodyPost_ret (v := .tuple #[.agg #[.slice none 0 0, .slice none 0 0], .int .i64 7]) ?_ rfl (HO.out _ x2)
        simp [results, Try.results11, go_sem, r0, r1]
      obtain ⟨w1, rfl⟩ : ∃ x, x = wr := ⟨_, rfl⟩
      have hje : joinE L = 0 := by simp only [joinE, hall, if_true]; rw [if_pos (by omega)]
      have hjv : joinV L = joinC L := by simp only [joinV, hall, Bool.true_and]; rw [decide_eq_true (by omega)]; rfl
      have hc0 := joinC_len0 L hall
      have t0 : decide ((1000 : Int) < (t : Int)) = false := decide_eq_false (by omega)
      obtain ⟨G, hG⟩ : ∃ G, w1.heap.size = G := ⟨_, rfl⟩
      have HV0 : Hid (VAt 25 G ⟨[], []⟩ (w1.alloc (.cells #[.slice none 0 0, .slice none 0 0] 25))) := Lib.hid (by rw [← hG]; exact VAt.new _ _)
      have hsz : w.heap.size + 1 ≤ G := by have := hb.size; rw [HS.out, hG] at this; exact this
      have HBX : Hid (Below G w1 (w1.alloc (.cells #[.slice none 0 0, .slice none 0 0] 25))) := Lib.hid (by rw [← hG]; exact below_box _ _)
      have HL : Hid (joinN L ≤ 1000 ∧ L.all goodC = true ∧ w.heap.size + 1 ≤ G) := Lib.hid ⟨by omega, hall, hsz⟩
      have HJ : Hid (joinE L = 0 ∧ joinV L = joinC L ∧ L.take m = L) := Lib.hid ⟨hje, hjv, hta⟩
      have HB := Lib.hid hb
      have HG := Lib.hid hG
      clear ht hts hall hb hta hje hjv HR hbig hc0 hsz
      go_wp2_with fail
      (try rw [hG])
      go_loopw [31] (fun s wr => ∃ (q : Nat), s = .int .i64 q ∧ q ≤ m ∧ Hid (VAt 25 G (joinC (L.take q)) wr ∧ Below G w1 wr)) (fun s _ => m - (RowKit.intOf s).toNat)
      case atStart => exact ⟨0, rfl, Nat.zero_le _, HV0.out, HBX.out⟩
      case round =>
        obtain ⟨q, rfl, hq, HR⟩ := hrel
        by_cases hlt : q < m
        · obtain ⟨⟨nv, iv, h0, hBr, hIr⟩, hb⟩ := HR.out
          obtain ⟨C, hC⟩ : ∃ C, L[q]? = some C := ⟨L[q]'(by rw [← HE.out]; exact hlt), List.getElem?_eq_getElem _⟩
          have hbW : Below (w.heap.size + 1) W wr := HB.out.trans (hb.mono HL.out.2.2)
          have hbw : Below w.heap.size w wr := HB0.out.trans (hbW.mono (by omega))
          obtain ⟨ad, rfl, hv⟩ := H0.out.2 (by omega)
          obtain ⟨a1, n1, k1, a2, n2, k2, d1, d2, i1, i2⟩ := hv q C hC
          have c1 : wr.cell? (ad.add (q * 2)) = some (.slice a1 n1 k1) := by rw [hbw.cell (World.block_lt_of_cell? w _ d1)]; exact d1
          have c2 : wr.cell? ⟨(ad.add (q * 2)).block, (ad.add (q * 2)).off + 1, none⟩ = some (.slice a2 n2 k2) := by rw [hbw.cell (World.block_lt_of_cell? w _ d2)]; exact d2
          have h1 := i1.below hbw
          have hbx := below_box wr (.cells #[.slice a1 n1 k1, .slice a2 n2 k2] 25)
          obtain ⟨X, hX⟩ : ∃ X, wr.alloc (.cells #[.slice a1 n1 k1, .slice a2 n2 k2] 25) = X := ⟨_, rfl⟩
          have hxb : X.heap[wr.heap.size]? = some (.cells #[.slice a1 n1 k1, .slice a2 n2 k2] 25 (0, 0)) := by rw [← hX]; exact heap_alloc_new _ _
          rw [hX] at hbx
          have hGlt := lt_of_heap h0
          have hsn := joinC_snoc (L.take q) C
          have hln := joinN_snoc (L.take q) C
          rw [← take_snoc hC] at hsn hln
          have hall : (L.take (q + 1)).all goodC = true := List.all_eq_true.2 fun x hx => List.all_eq_true.1 HL.out.2.1 x (List.mem_of_mem_take hx)
          have hgC : goodC C = true := List.all_eq_true.1 HL.out.2.1 C (List.mem_of_getElem? hC)
          have hm1 := join_mono L (q + 1)
          have hl0 := joinC_len0 (L.take (q + 1)) hall
          have hl1 := joinC_len (L.take (q + 1))
          rw [hsn.1, List.length_append] at hl0
          rw [hsn.2, List.length_append] at hl1
          have hJ1 := HL.out.1
          obtain ⟨na, nc, rfl, _⟩ := ownsRow_form hBr
          obtain ⟨ia, ic, rfl, _⟩ := ownsRow_form hIr
          obtain ⟨v', Y, hr1, g0, hY, bY, kY⟩ := VAt.appN2 h0 hBr hIr hbx (h1.below hbx) (by omega)
          obtain ⟨hY0, hY1, hY2, hY3⟩ := hY.out
          obtain ⟨va, vc, rfl, _⟩ := ownsRow_form hY1
          obtain ⟨Y', hYe⟩ : ∃ Y', Y.setCell ⟨G, 0, none⟩ (.slice va ((joinC (L.take q)).nl ++ C.nl).length vc) = Y' := ⟨_, rfl⟩
          rw [hYe] at hY0 hY1 hY2 hY3
          have hYb0 : Y.heap[wr.heap.size]? = some (.cells #[.slice a1 n1 k1, .slice a2 n2 k2] 25 (0, 0)) := (kY _ (Nat.le_refl _) (lt_of_heap hxb)).trans hxb
          have hYb : Y'.heap[wr.heap.size]? = some (.cells #[.slice a1 n1 k1, .slice a2 n2 k2] 25 (0, 0)) := by rw [← hYe, vset_other (by omega)]; exact hYb0
          have hYh : Holds Y' (.slice a2 n2 k2) (i64s C.il) := i2.below (hbw.trans (hY3.mono (by have := HL.out.2.2; omega)))
          obtain ⟨u', Z, hr2, k0, hZ, bZ, kZ⟩ := VAt.appI2 (c := ⟨(joinC (L.take q)).nl ++ C.nl, (joinC (L.take q)).il⟩) hY0 hY1 hY2 (Below.refl _ _) hYh (by simp only; omega)
          obtain ⟨ua, uc, rfl, _⟩ := ownsRow_form hZ.out.2.2.1
          have hfin : Hid (VAt 25 G (joinC (L.take (q + 1))) (Z.setCell ⟨G, 1, none⟩ (.slice ua ((joinC (L.take q)).il ++ C.il).length uc)) ∧ Below G w1 (Z.setCell ⟨G, 1, none⟩ (.slice ua ((joinC (L.take q)).il ++ C.il).length uc))) := Lib.hid
            ⟨⟨_, _, hZ.out.1, by rw [hsn.1]; exact hZ.out.2.1, by rw [hsn.2]; exact hZ.out.2.2.1⟩, (hb.trans hY3).trans hZ.out.2.2.2⟩
          have f0 := free_of_row g0 0
          have f1 := free_of_row k0 1
          have p0 : X.cell? ⟨G, 0, none⟩ = some (.slice na (joinC (L.take q)).nl.length nc) := by rw [cell_of_row X _ _ _ _ _ ((hbx.block _ hGlt).trans h0)]; rfl
          have p2 : X.cell? ⟨wr.heap.size, 0, none⟩ = some (.slice a1 n1 k1) := by rw [cell_of_row X _ _ _ _ _ hxb]; rfl
          have x0 : Y.cell? ⟨G, 0, none⟩ = some (.slice na (joinC (L.take q)).nl.length nc) := by rw [cell_of_row Y _ _ _ _ _ g0]; rfl
          have p1 : Y'.cell? ⟨G, 1, none⟩ = some (.slice ia (joinC (L.take q)).il.length ic) := by rw [cell_of_row Y' _ _ _ _ _ hY0]; rfl
          have p3 : Y'.cell? ⟨wr.heap.size, 1, none⟩ = some (.slice a2 n2 k2) := by rw [cell_of_row Y' _ _ _ _ _ hYb]; rfl
          have x1 : Z.cell? ⟨G, 1, none⟩ = some (.slice ia (joinC (L.take q)).il.length ic) := by rw [cell_of_row Z _ _ _ _ _ k0]; rfl
          have b0 : (0 : Int) ≤ (q : Int) := Int.natCast_nonneg q
          have b1 : (q : Int) < (m : Int) := Int.ofNat_lt.2 hlt
          have hw64 : IntKind.i64.wrap ((q : Int) + 1) = (q : Int) + 1 := by have := HN.out; rw [IntKind.wrap_i64]; omega
          generalize (joinC (L.take q)).nl.length = nl at *
          generalize (joinC (L.take q)).il.length = il at *
          generalize ((joinC (L.take q)).nl ++ C.nl).length = nl' at *
          generalize ((joinC (L.take q)).il ++ C.il).length = il' at *
          clear h0 hBr hIr hb hC hbW hv h1 hbx hxb hGlt hsn hln hall hgC hm1 hl0 hl1 hJ1 hY hY0 hY1 hY2 hY3 hYb0 hYb hYh hZ bY bZ kY kZ g0 k0 HR HV0 HBX hbw d1 d2 i1 i2
          go_wp2_with (at_builtin; first | (refine wpList_append_run rfl _ _ 22 rfl rfl rfl (hr1.out _) ?_) | (refine wpList_append_run rfl _ _ 23 rfl rfl rfl (hr2.out _) ?_))
          go_roundw
          case rel => exact ⟨q + 1, by go_num, hlt, hfin⟩
          case measure => simp [RowKit.intOf]; omega
        · obtain rfl : q = m := by omega
          obtain ⟨⟨nv, iv, h0, hBr, hIr⟩, hb⟩ := HR.out
          rw [HJ.out.2.2] at hBr hIr
          have hGs := HL.out.2.2
          obtain ⟨na, nc, rfl, _⟩ := ownsRow_form hBr
          obtain ⟨ia, ic, rfl, _⟩ := ownsRow_form hIr
          have p0 : wr.cell? ⟨G, 0, none⟩ = some (.slice na (joinC L).nl.length nc) := (cell_of_row wr _ _ _ _ _ h0).trans rfl
          have p1 : wr.cell? ⟨G, 1, none⟩ = some (.slice ia (joinC L).il.length ic) := (cell_of_row wr _ _ _ _ _ h0).trans rfl
          obtain ⟨⟨y0, y1, y2, y3⟩, ⟨r0, r1⟩, x2⟩ := HC.out wr (.slice na (joinC L).nl.length nc) (.slice ia (joinC L).il.length ic) (HB.out.trans (hb.mono hGs))
          have HF : Hid (OutV w (joinV L) (joinE L) (.returned (.tuple #[.agg #[.slice na (joinC L).nl.length nc, .slice ia (joinC L).il.length ic], .int .i64 0])) ((wr.setCell ⟨w.heap.size, 0, none⟩ (.slice na (joinC L).nl.length nc)).setCell ⟨w.heap.size, 1, none⟩ (.slice ia (joinC L).il.length ic))) := Lib.hid (by
            rw [HJ.out.1, HJ.out.2.1]
            exact ⟨_, _, rfl, ownsRow_of_block (hBr.base (by omega)) (fun g hg => by have := (hBr.lt g hg).1; rw [vset_other (by omega), vset_other (by omega)]), ownsRow_of_block (hIr.base (by omega)) (fun g hg => by have := (hIr.lt g hg).1; rw [vset_other (by omega), vset_other (by omega)]), x2⟩)
          clear h0 hb hBr hIr hGs HR HV0 HBX x2
          go_wp2_with fail
          refine bodyPost_ret (v := .tuple #[.agg #[.slice na (joinC L).nl.length nc, .slice ia (joinC L).il.length ic], .int .i64 0]) ?_ rfl HF.out
          simp [results, Try.results11, go_sem, r0, r1]
end Go.Proofs.Ytbijpjoljljlpaa
