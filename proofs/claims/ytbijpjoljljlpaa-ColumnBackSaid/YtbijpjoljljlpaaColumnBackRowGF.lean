/- The texts Ints ColQ ColS ColER, one behind the other; each one's own comment says what it holds. -/
import Derived.Test.YtbijpjoljljlpaaColumnBackRowGE
import Derived.Test.YtbijpjoljljlpaaColE
/- Contract of talusref01.Ints: are two lists of ints alike. Conditions: small lists. -/
set_option maxRecDepth 100000
namespace Go.Proofs.Ytbijpjoljljlpaa
open Go.RowKit Go.Maps Go.Sort

set_option maxHeartbeats 800000 in
theorem Ints_any {w : World} {a1 a2 : Option Addr} {n1 n2 k1 k2 : Nat} {l1 l2 : List Int} (h1 : Holds w (.slice a1 n1 k1) (i64s l1)) (h2 : Holds w (.slice a2 n2 k2) (i64s l2)) (e1 : n1 = l1.length) (e2 : n2 = l2.length) (hl : l1.length ≤ 1000000) :
    Calls Try.prog 20 #[.slice a1 n1 k1, .slice a2 n2 k2] w fun r w' => r = .returned (.bool (decide (l1 = l2))) ∧ Below w.heap.size w w' := by
  have hl1 : n1 ≤ 1000000 := by omega
  have H1 := Lib.hid h1
  have H2 := Lib.hid h2
  have E1 := Lib.hid e1
  have E2 := Lib.hid e2
  clear h1 h2 e1 e2 hl
  go_enter Try.func20, Try.ntmps20
  by_cases hne : n1 = n2
  · subst hne
    go_wp2_with fail
    go_loopw [5, 13] (fun _ i wr => ∃ k : Nat, i = .int .i64 k ∧ k ≤ n1 ∧ Hid (l1.take k = l2.take k) ∧ Hid (Below w.heap.size w wr)) (fun _ i _ => n1 - (intOf i).toNat)
    case atStart => exact ⟨0, rfl, by omega, rfl, Below.refl _ _⟩
    case round =>
      obtain ⟨k, rfl, hk, HE, HB⟩ := hrel
      by_cases hlt : k < n1
      · have hk1 : k < l1.length := by rw [← E1.out]; exact hlt
        have hk2 : k < l2.length := by rw [← E2.out]; exact hlt
        have g1 := H1.out.below HB.out
        have g2 := H2.out.below HB.out
        obtain ⟨d1, rfl⟩ := g1.ptr (by omega)
        obtain ⟨d2, rfl⟩ := g2.ptr (by omega)
        have c1 : wr.cell? (d1.add k) = some (.int .i64 l1[k]) := g1.cell (by simp [i64s, hk1])
        have c2 : wr.cell? (d2.add k) = some (.int .i64 l2[k]) := g2.cell (by simp [i64s, hk2])
        have b1 : (k : Int) < (n1 : Int) := by omega
        have b0 : (0 : Int) ≤ (k : Int) := by omega
        have HS : Hid (l1[k] = l2[k] → l1.take (k + 1) = l2.take (k + 1)) := Lib.hid fun h => by
          rw [List.take_succ_eq_append_getElem hk1, List.take_succ_eq_append_getElem hk2, HE.out, h]
        have HD : Hid (¬ l1[k] = l2[k] → decide (l1 = l2) = false) := Lib.hid fun h => by
          refine decide_eq_false fun e => h ?_
          subst e
          rfl
        clear g1 g2
        generalize l1[k] = x at *
        generalize l2[k] = y at *
        by_cases hxy : x = y
        · have hh := Lib.hid (HS.out hxy)
          have t1 : (x != y) = false := by rw [hxy]; simp
          clear hxy HS HD
          go_wp2_with fail
          go_quiet (fail)
          go_wp2_with fail
          go_roundw
          case rel => exact ⟨k + 1, by go_num, by omega, hh, below_drew HB.out _⟩
          case measure => simp [intOf]; omega
        · have hh := Lib.hid (HD.out hxy)
          have t1 : (x != y) = true := by rw [bne_iff_ne]; omega
          clear hxy HS HD
          go_wp2_with fail
          go_quiet (fail)
          go_wp2_with fail
          go_ret
          rw [hh.out]
          exact ⟨rfl, below_drew HB.out _⟩
      · have hh : Hid (decide (l1 = l2) = true) := Lib.hid (decide_eq_true (by
          have e := HE.out
          rwa [List.take_of_length_le (by rw [← E1.out]; omega), List.take_of_length_le (by rw [← E2.out]; omega)] at e))
        go_wp2_with fail
        go_ret
        rw [hh.out]
        exact ⟨rfl, HB.out⟩
  · have hh : Hid (decide (l1 = l2) = false) := Lib.hid (decide_eq_false fun e => hne (by rw [E1.out, E2.out, e]))
    have t1 : ((n1 : Int) != (n2 : Int)) = true := by rw [bne_iff_ne]; omega
    go_wp2_with fail
    go_ret
    rw [hh.out]
    exact ⟨rfl, Below.refl _ _⟩
end Go.Proofs.Ytbijpjoljljlpaa
/- The example of the layer; plain and same. Conditions: none. -/
set_option maxRecDepth 100000
namespace Go.Proofs.Ytbijpjoljljlpaa
open Go.RowKit Go.Maps Go.Sort

theorem plain_any (w : World) (a1 a2 : Option Addr) (n1 n2 k1 k2 : Nat) : Calls Try.prog 9 #[.agg #[.slice a1 n1 k1, .slice a2 n2 k2]] w fun e w' => e = .returned (.agg #[.slice a1 n1 k1, .slice a2 n2 k2]) ∧ Below w.heap.size w w' := by
  have hb0 : Below w.heap.size w ((w.alloc (.cells #[.slice a1 n1 k1, .slice a2 n2 k2] 25)).alloc (.cells #[.slice a1 n1 k1, .slice a2 n2 k2] 36)) := ((Below.refl _ _).alloc (Nat.le_refl _) _).alloc (by simp) _
  have HB := Lib.hid hb0
  clear hb0
  go_enter Try.func9, Try.ntmps9
  go_wp2_with fail
  refine bodyPost_ret (v := .agg #[.slice a1 n1 k1, .slice a2 n2 k2]) ?_ rfl ⟨rfl, HB.out⟩
  simp [results, Try.results9, go_sem]
set_option maxHeartbeats 1600000 in
theorem csame_any {w : World} {a1 a2 b1 b2 : Option Addr} {n1 n2 k1 k2 m1 m2 l1 l2 : Nat} {c : CV} (h1 : Holds w (.slice a1 n1 k1) (bls c.nl)) (h2 : Holds w (.slice a2 n2 k2) (i64s c.il)) (g1 : Holds w (.slice b1 m1 l1) (bls c.nl)) (g2 : Holds w (.slice b2 m2 l2) (i64s c.il)) (hl : c.il.length ≤ 1000000) (hl2 : c.nl.length ≤ 1000000) :
    Calls Try.prog 8 #[.agg #[.slice a1 n1 k1, .slice a2 n2 k2], .agg #[.slice b1 m1 l1, .slice b2 m2 l2]] w fun e w' => e = .returned (.bool true) ∧ Below w.heap.size w w' := by
  have e1 := h1.len.1
  have e2 := h2.len.1
  have e3 := g1.len.1
  have e4 := g2.len.1
  rw [bls_len] at e1 e3
  rw [i64s_len] at e2 e4
  obtain rfl : m1 = n1 := by omega
  obtain ⟨W, hW⟩ : ∃ W, (w.alloc (.cells #[.slice a1 m1 k1, .slice a2 n2 k2] 25)).alloc (.cells #[.slice b1 m1 l1, .slice b2 m2 l2] 36) = W := ⟨_, rfl⟩
  obtain ⟨_, q1, q2⟩ := two_boxes w (.cells #[.slice a1 m1 k1, .slice a2 n2 k2] 25) (.cells #[.slice b1 m1 l1, .slice b2 m2 l2] 36)
  have hb0 : Below w.heap.size w W := by rw [← hW]; exact ((Below.refl _ _).alloc (Nat.le_refl _) _).alloc (by simp) _
  have hs : W.heap.size = w.heap.size + 2 := by rw [← hW]; simp
  rw [hW] at q1 q2
  have KI := Ints_any (h2.below hb0) (g2.below hb0) e2.symm e4.symm hl
  rw [decide_eq_true (rfl : c.il = c.il)] at KI
  have t0 : ((m1 : Int) != (m1 : Int)) = false := by simp
  have t1 : (m1 != m1) = false := by simp
  have HQ := Lib.hid (fun (V : World) (hv : Below W.heap.size W V) => (⟨by rw [cell_of_row _ _ _ _ _ _ ((hv.block _ (by omega)).trans q1)]; rfl, by rw [cell_of_row _ _ _ _ _ _ ((hv.block _ (by omega)).trans q2)]; rfl⟩ : V.cell? ⟨w.heap.size, 0, none⟩ = some (.slice a1 m1 k1) ∧ V.cell? ⟨w.heap.size + 1, 0, none⟩ = some (.slice b1 m1 l1)))
  have c0 : W.cell? ⟨w.heap.size, 0, none⟩ = some (.slice a1 m1 k1) := (HQ.out W (Below.refl _ _)).1
  have c1 : W.cell? ⟨w.heap.size + 1, 0, none⟩ = some (.slice b1 m1 l1) := (HQ.out W (Below.refl _ _)).2
  have c2 : W.cell? ⟨w.heap.size, 1, none⟩ = some (.slice a2 n2 k2) := by rw [cell_of_row _ _ _ _ _ _ q1]; rfl
  have c3 : W.cell? ⟨w.heap.size + 1, 1, none⟩ = some (.slice b2 m2 l2) := by rw [cell_of_row _ _ _ _ _ _ q2]; rfl
  have H1 := Lib.hid (fun (V : World) (hv : Below w.heap.size w V) => h1.below hv)
  have H3 := Lib.hid (fun (V : World) (hv : Below w.heap.size w V) => g1.below hv)
  have E1 := Lib.hid e1
  have HB := Lib.hid hb0
  have HL := Lib.hid (show m1 ≤ 1000000 by omega)
  clear h1 h2 g1 g2 hl hl2 e1 e2 e3 e4 q1 q2 hb0 hs
  go_enter Try.func8, Try.ntmps8
  go_wp2_with fail
  clear hW
  refine KI.mono ?_
  rintro e w1 ⟨rfl, hb1⟩
  obtain ⟨d0, d1⟩ := HQ.out w1 hb1
  have HB1 := Lib.hid hb1
  clear KI hb1 c0 c1 c2 c3
  go_wp2_with fail
  go_loopw [24] (fun s wr => ∃ m : Nat, s = .int .i64 m ∧ m ≤ m1 ∧ Hid (Below W.heap.size W wr)) (fun s _ => m1 - (RowKit.intOf s).toNat)
  case atStart => exact ⟨0, rfl, Nat.zero_le _, HB1⟩
  case round =>
    obtain ⟨m, rfl, hm, HR⟩ := hrel
    by_cases hlt : m < m1
    · have hk : m < c.nl.length := by have := E1.out; omega
      have hbw : Below w.heap.size w wr := HB.out.trans (HR.out.mono HB.out.size)
      have G1 := H1.out wr hbw
      have G3 := H3.out wr hbw
      obtain ⟨p1, rfl⟩ := G1.ptr (by omega)
      obtain ⟨p2, rfl⟩ := G3.ptr (by omega)
      have x1 := G1.cell (bls_get hk)
      have x2 := G3.cell (bls_get hk)
      obtain ⟨f0, f1⟩ := HQ.out wr HR.out
      have b0 : (0 : Int) ≤ (m : Int) := Int.natCast_nonneg m
      have b1 : (m : Int) < (m1 : Int) := Int.ofNat_lt.2 hlt
      have hw64 : IntKind.i64.wrap ((m : Int) + 1) = (m : Int) + 1 := by have := HL.out; rw [IntKind.wrap_i64]; omega
      obtain ⟨b, hb⟩ : ∃ b, c.nl.getD m false = b := ⟨_, rfl⟩
      rw [hb] at x1 x2
      clear hk hbw G1 G3 hb d0 d1
      cases b
      all_goals (
        go_wp2_with fail
        go_quiet (fail)
        go_wp2_with fail
        go_roundw
        case rel => exact ⟨m + 1, by go_num, hlt, Lib.hid (below_dN HR.out _)⟩
        case measure => simp [RowKit.intOf]; omega)
    · have HF := Lib.hid (HB.out.trans (HR.out.mono HB.out.size))
      clear HR
      go_wp2_with fail
      go_ret
      exact ⟨rfl, HF.out⟩
def exC : CV := ⟨[false, false, false, false], [5, 5, 5, 5]⟩
theorem ex_good : goodC exC = true := by decide
theorem ex_ids : idsU [5, 5, 5, 5] = [5, 5, 5, 5] := by decide
theorem ex_encB : encB (idsU [5, 5, 5, 5]) = [5, 4] := by
  rw [ex_ids]
  have e : runsOf [5, 5, 5, 5] = [(5, 4)] := by decide
  unfold encB
  rw [e]
  unfold runsB
  simp only [List.flatMap_cons, List.flatMap_nil]
  rw [dig_lo (show (5 : UInt64).toNat < 128 by decide), dig_lo (show 4 < 128 by decide)]
  decide
theorem ex_delta5 : (deltaL 0 [5, 5, 5, 5]).length = 4 := by
  unfold deltaL deltaL deltaL deltaL deltaL
  have e1 : zigU (dlt 5 0) = 10 := by decide
  have e2 : zigU (dlt 5 5) = 0 := by decide
  rw [e1, e2, dig_lo (by decide), dig_lo (by decide)]
  decide
theorem ex_encA : (encA (idsU [5, 5, 5, 5])).length = 3 := by
  rw [ex_ids]
  have hw : wdU [5, 5, 5, 5] = 3 := by decide
  unfold encA
  rw [hw, List.length_cons, pack_val (wd := 3) (by omega) (by decide), bytesN_len]
  decide
theorem ex_short : shortL [5, 5, 5, 5] = [1, 5, 4] := by
  have a : (bA [5, 5, 5, 5]).length = 4 := by unfold bA; rw [List.length_cons, ex_encA]
  have b : bB [5, 5, 5, 5] = [1, 5, 4] := by unfold bB; rw [ex_encB]
  have c : (bC [5, 5, 5, 5]).length = 5 := by unfold bC; rw [List.length_cons, ex_delta5]
  unfold shortL best2
  rw [b, a, c]
  decide
theorem ex_bytes : bytesC exC = [4, 0, 1, 5, 4] := by
  have hm : (packAns 1 (exC.nl.map markU)).1 = [0] := by
    have := pack_val (wd := 1) (by omega) (marks_fit exC.nl)
    rw [show ((1 : Nat) : Int) = 1 from rfl] at this
    rw [this]
    decide
  unfold bytesC
  rw [hm, show exC.il = [5, 5, 5, 5] from rfl, ex_short, dig_lo (show [(5 : Int), 5, 5, 5].length < 128 by decide)]
  decide
end Go.Proofs.Ytbijpjoljljlpaa
/- The example of the layer holds in any world. Conditions: none. -/
set_option maxRecDepth 100000
namespace Go.Proofs.Ytbijpjoljljlpaa
open Go.RowKit Go.Maps Go.Sort

theorem mk_four (w : World) : (Instr.makeSlice 22 (.int .i64 4) (.int .i64 4)).run Try.prog w = .ok (.slice (some ⟨w.heap.size, 0, none⟩) 4 4) (w.alloc (.cells #[.bool false, .bool false, .bool false, .bool false] 4)) := mk_bools w 4 (by omega)
set_option maxHeartbeats 1600000 in
theorem clives_any (w : World) : Calls Try.prog 6 #[] w fun e w' => e = .returned (.bool true) ∧ Below w.heap.size w w' := by
  obtain ⟨W, hW⟩ : ∃ W, ((w.alloc (.cells #[.bool false, .bool false, .bool false, .bool false] 4)).alloc (.cells #[.int .i64 5, .int .i64 5, .int .i64 5, .int .i64 5] 3)).alloc (.cells #[.slice (some ⟨w.heap.size, 0, none⟩) 4 4, .slice (some ⟨w.heap.size + 1, 0, none⟩) 4 4] 25) = W := ⟨_, rfl⟩
  obtain ⟨q0, q1, q2⟩ := three_boxes w (.cells #[.bool false, .bool false, .bool false, .bool false] 4) (.cells #[.int .i64 5, .int .i64 5, .int .i64 5, .int .i64 5] 3) (.cells #[.slice (some ⟨w.heap.size, 0, none⟩) 4 4, .slice (some ⟨w.heap.size + 1, 0, none⟩) 4 4] 25)
  have hs : W.heap.size = w.heap.size + 3 := by rw [← hW]; simp
  have hb0 : Below w.heap.size w W := by rw [← hW]; exact (((Below.refl _ _).alloc (Nat.le_refl _) _).alloc (by simp) _).alloc (by simp; omega) _
  rw [hW] at q0 q1 q2
  have h1 : Holds W (.slice (some ⟨w.heap.size, 0, none⟩) 4 4) (bls exC.nl) := Holds.of_heap q0 rfl 4 4 rfl (Nat.le_refl _)
  have h2 : Holds W (.slice (some ⟨w.heap.size + 1, 0, none⟩) 4 4) (i64s exC.il) := Holds.of_heap q1 rfl 4 4 rfl (Nat.le_refl _)
  have KB := cbytes_any h1 h2
  have hv : bytV exC = [4, 0, 1, 5, 4] ∧ bytE exC = 0 := by simp only [bytV, bytE, ex_good, if_true, ex_bytes]; exact ⟨trivial, trivial⟩
  rw [hv.1, hv.2] at KB
  unfold OutB at KB
  have hlb := load_bytes ex_good
  rw [ex_bytes] at hlb
  have HL := Lib.hid (fun (V : World) (a : Option Addr) (k : Nat) (h : Holds V (.slice a [(4 : UInt8), 0, 1, 5, 4].length k) (u8s [4, 0, 1, 5, 4])) => cload_any h (by decide))
  rw [hlb.1, hlb.2] at HL
  have HG := Lib.hid (fun (V : World) (hv : Below W.heap.size W V) => cgood_any (h1.below hv) (h2.below hv))
  rw [ex_good] at HG
  have HC := Lib.hid (fun (V : World) (hv : Below W.heap.size W V) => (⟨by rw [cell_of_row _ _ _ _ _ _ ((hv.block _ (by omega)).trans q2)]; rfl, by rw [cell_of_row _ _ _ _ _ _ ((hv.block _ (by omega)).trans q2)]; rfl⟩ : V.cell? ⟨w.heap.size + 2, 0, none⟩ = some (.slice (some ⟨w.heap.size, 0, none⟩) 4 4) ∧ V.cell? ⟨w.heap.size + 2, 1, none⟩ = some (.slice (some ⟨w.heap.size + 1, 0, none⟩) 4 4)))
  obtain ⟨c0, c1⟩ := HC.out W (Below.refl _ _)
  have HB := Lib.hid hb0
  have hmk := mk_four w
  clear q0 q1 q2 hs hb0 h1 h2 hv hlb
  go_enter Try.func6, Try.ntmps6
  go_wp2_with fail
  (try rw [hW])
  clear hW hmk
  refine KB.mono ?_
  rintro e w1 ⟨ba, bk, rfl, hb, hb1⟩
  have KL := HL.out w1 ba bk hb
  have HB1 := Lib.hid hb1
  have HBb := Lib.hid hb
  clear KB HL hb hb1 c0 c1
  go_wp2_with fail
  refine KL.mono ?_
  rintro e w2 ⟨a1, n1, k1, a2, n2, k2, rfl, g1, g2, hb2⟩
  obtain rfl : n2 = 4 := by have := g2.len.1; rw [i64s_len] at this; exact this.symm
  have hbb : Below W.heap.size W w2 := HB1.out.trans (hb2.mono HB1.out.size)
  obtain ⟨X, hX⟩ : ∃ X, w2.alloc (.cells #[.slice a1 n1 k1, .slice a2 4 k2] 25) = X := ⟨_, rfl⟩
  have hbx : Below w2.heap.size w2 X := by rw [← hX]; exact below_box _ _
  have hx0 : X.heap[w2.heap.size]? = some (.cells #[.slice a1 n1 k1, .slice a2 4 k2] 25 (0, 0)) := by rw [← hX]; exact heap_alloc_new _ _
  obtain ⟨Y, hY⟩ : ∃ Y, X.alloc (.cells #[.int .u8 4, .int .u8 0, .int .u8 1, .int .u8 5, .int .u8 4] 5) = Y := ⟨_, rfl⟩
  have hby : Below X.heap.size X Y := by rw [← hY]; exact below_box _ _
  have hy0 : Y.heap[X.heap.size]? = some (.cells #[.int .u8 4, .int .u8 0, .int .u8 1, .int .u8 5, .int .u8 4] 5 (0, 0)) := by rw [← hY]; exact heap_alloc_new _ _
  have KS := Same_any (((HBb.out.below hb2).below hbx).below hby) (l2 := [4, 0, 1, 5, 4]) (v2 := .slice (some ⟨X.heap.size, 0, none⟩) 5 5) (Holds.of_heap hy0 rfl 5 5 rfl (Nat.le_refl _))
  rw [decide_eq_true rfl] at KS
  have hbY : Below W.heap.size W Y := (hbb.trans (hbx.mono hbb.size)).trans (hby.mono (by have := hbb.size; have := hbx.size; omega))
  have KG := HG.out Y hbY
  obtain ⟨c0, c1⟩ := HC.out Y hbY
  have z1 : Y.cell? ⟨w2.heap.size, 1, none⟩ = some (.slice a2 4 k2) := by rw [cell_of_row _ _ _ _ _ _ ((hby.block _ (lt_of_heap hx0)).trans hx0)]; rfl
  have HF := Lib.hid (HB.out.trans (hbY.mono HB.out.size))
  clear KL g1 g2 hb2 hbb hbx hx0 hby hy0 hbY HG HC
  go_wp2_with fail
  refine KS.mono ?_
  rintro e w3 ⟨rfl, rfl⟩
  clear KS
  go_wp2_with fail
  refine KG.mono ?_
  rintro e w4 ⟨rfl, hb4⟩
  have HF2 := Lib.hid (HF.out.trans (hb4.mono HF.out.size))
  clear KG hb4
  go_wp2_with fail
  go_ret
  exact ⟨rfl, HF2.out⟩
end Go.Proofs.Ytbijpjoljljlpaa
/- Pick of the document. Conditions: none. -/
set_option maxRecDepth 100000
namespace Go.Proofs.Ytbijpjoljljlpaa
open Go.RowKit Go.Maps Go.Sort

end Go.Proofs.Ytbijpjoljljlpaa
