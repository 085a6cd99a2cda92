/- The texts ColS ColJB, one behind the other; each one's own comment says what it holds. -/
import Derived.Test.YtcpfkinjglnabaaPackBC
import Derived.Test.YtcpfkinjglnabaaPackAH
/- The example of the layer holds in any world. Conditions: none. -/
set_option maxRecDepth 100000
namespace Go.Proofs.Ytcpfkinjglnabaa
open Go.RowKit Go.Maps Go.Sort

theorem mk_four (w : World) : (Instr.makeSlice 24 (.int .i64 4) (.int .i64 4)).run Try.prog w = .ok (.slice (some ⟨w.heap.size, 0, none⟩) 4 4) (w.alloc (.cells #[.bool false, .bool false, .bool false, .bool false] 4)) := mk_bools w 4 (by omega)
set_option maxHeartbeats 1600000 in
theorem clives_any (w : World) : Calls Try.prog 5 #[] w fun e w' => e = .returned (.bool true) ∧ Below w.heap.size w w' := by
  obtain ⟨W, hW⟩ : ∃ W, ((w.alloc (.cells #[.bool false, .bool false, .bool false, .bool false] 4)).alloc (.cells #[.int .i64 5, .int .i64 5, .int .i64 5, .int .i64 5] 3)).alloc (.cells #[.slice (some ⟨w.heap.size, 0, none⟩) 4 4, .slice (some ⟨w.heap.size + 1, 0, none⟩) 4 4] 27) = W := ⟨_, rfl⟩
  obtain ⟨q0, q1, q2⟩ := three_boxes w (.cells #[.bool false, .bool false, .bool false, .bool false] 4) (.cells #[.int .i64 5, .int .i64 5, .int .i64 5, .int .i64 5] 3) (.cells #[.slice (some ⟨w.heap.size, 0, none⟩) 4 4, .slice (some ⟨w.heap.size + 1, 0, none⟩) 4 4] 27)
  have hs : W.heap.size = w.heap.size + 3 := by rw [← hW]; simp
  have hb0 : Below w.heap.size w W := by rw [← hW]; exact (((Below.refl _ _).alloc (Nat.le_refl _) _).alloc (by simp) _).alloc (by simp; omega) _
  rw [hW] at q0 q1 q2
  have h1 : Holds W (.slice (some ⟨w.heap.size, 0, none⟩) 4 4) (bls exC.nl) := Holds.of_heap q0 rfl 4 4 rfl (Nat.le_refl _)
  have h2 : Holds W (.slice (some ⟨w.heap.size + 1, 0, none⟩) 4 4) (i64s exC.il) := Holds.of_heap q1 rfl 4 4 rfl (Nat.le_refl _)
  have KB := cbytes_any h1 h2
  have hv : bytV exC = [4, 0, 1, 5, 4] ∧ bytE exC = 0 := by simp only [bytV, bytE, ex_good, if_true, ex_bytes]; exact ⟨trivial, trivial⟩
  rw [hv.1, hv.2] at KB
  unfold OutB at KB
  have hlb := load_bytes ex_good
  rw [ex_bytes] at hlb
  have HL := Lib.hid (fun (V : World) (a : Option Addr) (k : Nat) (h : Holds V (.slice a [(4 : UInt8), 0, 1, 5, 4].length k) (u8s [4, 0, 1, 5, 4])) => cload_any h (by decide))
  rw [hlb.1, hlb.2] at HL
  have HG := Lib.hid (fun (V : World) (hv : Below W.heap.size W V) => cgood_any (h1.below hv) (h2.below hv))
  rw [ex_good] at HG
  have HC := Lib.hid (fun (V : World) (hv : Below W.heap.size W V) => (⟨by rw [cell_of_row _ _ _ _ _ _ ((hv.block _ (by omega)).trans q2)]; rfl, by rw [cell_of_row _ _ _ _ _ _ ((hv.block _ (by omega)).trans q2)]; rfl⟩ : V.cell? ⟨w.heap.size + 2, 0, none⟩ = some (.slice (some ⟨w.heap.size, 0, none⟩) 4 4) ∧ V.cell? ⟨w.heap.size + 2, 1, none⟩ = some (.slice (some ⟨w.heap.size + 1, 0, none⟩) 4 4)))
  obtain ⟨c0, c1⟩ := HC.out W (Below.refl _ _)
  have HB := Lib.hid hb0
  have hmk := mk_four w
  clear q0 q1 q2 hs hb0 h1 h2 hv hlb
  go_enter Try.func5, Try.ntmps5
  go_wp2_with fail
  (try rw [hW])
  clear hW hmk
  refine KB.mono ?_
  rintro e w1 ⟨ba, bk, rfl, hb, hb1⟩
  have KL := HL.out w1 ba bk hb
  have HB1 := Lib.hid hb1
  have HBb := Lib.hid hb
  clear KB HL hb hb1 c0 c1
  go_wp2_with fail
  refine KL.mono ?_
  rintro e w2 ⟨a1, n1, k1, a2, n2, k2, rfl, g1, g2, hb2⟩
  obtain rfl : n2 = 4 := by have := g2.len.1; rw [i64s_len] at this; exact this.symm
  have hbb : Below W.heap.size W w2 := HB1.out.trans (hb2.mono HB1.out.size)
  obtain ⟨X, hX⟩ : ∃ X, w2.alloc (.cells #[.slice a1 n1 k1, .slice a2 4 k2] 27) = X := ⟨_, rfl⟩
  have hbx : Below w2.heap.size w2 X := by rw [← hX]; exact below_box _ _
  have hx0 : X.heap[w2.heap.size]? = some (.cells #[.slice a1 n1 k1, .slice a2 4 k2] 27 (0, 0)) := by rw [← hX]; exact heap_alloc_new _ _
  obtain ⟨Y, hY⟩ : ∃ Y, X.alloc (.cells #[.int .u8 4, .int .u8 0, .int .u8 1, .int .u8 5, .int .u8 4] 5) = Y := ⟨_, rfl⟩
  have hby : Below X.heap.size X Y := by rw [← hY]; exact below_box _ _
  have hy0 : Y.heap[X.heap.size]? = some (.cells #[.int .u8 4, .int .u8 0, .int .u8 1, .int .u8 5, .int .u8 4] 5 (0, 0)) := by rw [← hY]; exact heap_alloc_new _ _
  have KS := Same_any (((HBb.out.below hb2).below hbx).below hby) (l2 := [4, 0, 1, 5, 4]) (v2 := .slice (some ⟨X.heap.size, 0, none⟩) 5 5) (Holds.of_heap hy0 rfl 5 5 rfl (Nat.le_refl _))
  rw [decide_eq_true rfl] at KS
  have hbY : Below W.heap.size W Y := (hbb.trans (hbx.mono hbb.size)).trans (hby.mono (by have := hbb.size; have := hbx.size; omega))
  have KG := HG.out Y hbY
  obtain ⟨c0, c1⟩ := HC.out Y hbY
  have z1 : Y.cell? ⟨w2.heap.size, 1, none⟩ = some (.slice a2 4 k2) := by rw [cell_of_row _ _ _ _ _ _ ((hby.block _ (lt_of_heap hx0)).trans hx0)]; rfl
  have HF := Lib.hid (HB.out.trans (hbY.mono HB.out.size))
  clear KL g1 g2 hb2 hbb hbx hx0 hby hy0 hbY HG HC
  go_wp2_with fail
  refine KS.mono ?_
  rintro e w3 ⟨rfl, rfl⟩
  clear KS
  go_wp2_with fail
  refine KG.mono ?_
  rintro e w4 ⟨rfl, hb4⟩
  have HF2 := Lib.hid (HF.out.trans (hb4.mono HF.out.size))
  clear KG hb4
  go_wp2_with fail
  go_ret
  exact ⟨rfl, HF2.out⟩
end Go.Proofs.Ytcpfkinjglnabaa
/- The walk of ColumnJoins. Conditions: as many vectors as may lie in memory. -/
set_option maxRecDepth 100000
namespace Go.Proofs.Ytcpfkinjglnabaa
open Go.RowKit Go.Maps Go.Sort

theorem join_len (L : List CV) : (joinV L).nl.length = (joinV L).il.length ∧ (joinV L).il.length ≤ 1000 := by
  unfold joinV
  split
  · rename_i h
    rw [Bool.and_eq_true, decide_eq_true_eq] at h
    rw [joinC_len0 L h.1, joinC_len]
    exact ⟨rfl, h.2⟩
  · simp
/-- what the loop leaves: the result's rows, of which nothing is known but how long they are, and all else as it was -/
def Torn (S B : Nat) (w wr : World) (va vb : Value) (n : Nat) : Prop := ∃ (nl : List Bool) (il : List Int), nl.length = n ∧ il.length = n ∧ RowB S va nl wr ∧ RowI S vb il wr ∧ Else (fun g => S ≤ g ∧ g < B) w wr
theorem Torn.next {S B g1 g2 n c1 c2 : Nat} {w wr : World} (h : Torn S B w wr (.slice (some ⟨g1, 0, none⟩) n c1) (.slice (some ⟨g2, 0, none⟩) n c2) n) (h1 : S ≤ g1 ∧ g1 < B) (h2 : S ≤ g2 ∧ g2 < B) (j : Nat) (x : Int) (y : Bool) :
    Torn S B w ((wr.setCell ⟨g2, j, none⟩ (.int .i64 x)).setCell ⟨g1, j, none⟩ (.bool y)) (.slice (some ⟨g1, 0, none⟩) n c1) (.slice (some ⟨g2, 0, none⟩) n c2) n := by
  obtain ⟨nl, il, e1, e2, hB, hI, hE⟩ := h
  have hne : g2 ≠ g1 := fun e => row_type hB hI bool_int g1 rfl (by rw [← e]; rfl)
  have i1 := hI.set j x
  have b1 : RowB S (.slice (some ⟨g1, 0, none⟩) n c1) nl (wr.setCell ⟨g2, j, none⟩ (.int .i64 x)) := ownsRow_of_block hB (fun k hk => by simp [Value.ownBlock] at hk; subst hk; exact vset_other (fun e => hne e.symm) _)
  have b2 := b1.set j y
  have i2 : RowI S (.slice (some ⟨g2, 0, none⟩) n c2) (il.set j x) ((wr.setCell ⟨g2, j, none⟩ (.int .i64 x)).setCell ⟨g1, j, none⟩ (.bool y)) := ownsRow_of_block i1 (fun k hk => by simp [Value.ownBlock] at hk; subst hk; exact vset_other hne _)
  exact ⟨_, _, by simp [e1], by simp [e2], b2, i2, (hE.setCell (.inl h2) _).setCell (.inl h1) _⟩
theorem Torn.drew {S B : Nat} {w wr : World} {va vb : Value} {n : Nat} (h : Torn S B w wr va vb n) (k : Nat) : Torn S B w (wr.drewN k) va vb n := by
  obtain ⟨nl, il, e1, e2, hB, hI, hE⟩ := h
  exact ⟨nl, il, e1, e2, hB, hI, hE.drewN k⟩
/-- what a round reads and writes -/
theorem Torn.at_ {S B n : Nat} {w wr : World} {va vb : Value} (h : Torn S B w wr va vb n) (h1 : ∀ g, va.ownBlock = some g → S ≤ g ∧ g < B) (h2 : ∀ g, vb.ownBlock = some g → S ≤ g ∧ g < B) {j : Nat} (hj : j < n) :
    ∃ g1 c1 g2 c2 x y, va = .slice (some ⟨g1, 0, none⟩) n c1 ∧ vb = .slice (some ⟨g2, 0, none⟩) n c2 ∧ (S ≤ g1 ∧ g1 < B) ∧ (S ≤ g2 ∧ g2 < B) ∧
      wr.cell? ⟨g2, j, none⟩ = some (.int .i64 x) ∧ wr.frozen? ⟨g2, j, none⟩ = false ∧ (∀ u, (wr.setCell ⟨g2, j, none⟩ u).cell? ⟨g1, j, none⟩ = some (.bool y) ∧ (wr.setCell ⟨g2, j, none⟩ u).frozen? ⟨g1, j, none⟩ = false) ∧
      ∀ z, Torn S B w ((wr.setCell ⟨g2, j, none⟩ (.int .i64 z)).setCell ⟨g1, j, none⟩ (.bool (!y))) va vb n := by
  have hh := h
  obtain ⟨nl, il, e1, e2, hB, hI, hE⟩ := h
  obtain ⟨g1, c1, rfl, q1⟩ := hB.ptr (by omega)
  obtain ⟨g2, c2, rfl, q2⟩ := hI.ptr (by omega)
  have hne : g1 ≠ g2 := fun e => row_type hB hI bool_int g1 rfl (by rw [e]; rfl)
  have x1 := q1 j (by omega)
  have x2 := q2 j (by omega)
  rw [Nat.zero_add] at x1 x2
  have f1 := World.ownsRow.frozenAt hB j
  have f2 := World.ownsRow.frozenAt hI j
  refine ⟨g1, c1, g2, c2, il.getD j 0, nl.getD j false, by rw [e1], by rw [e2], h1 g1 rfl, h2 g2 rfl, x2, f2, fun u => ⟨?_, ?_⟩, fun z => ?_⟩
  · rw [World.cell?_setCell_other _ _ _ _ (by simp)]; exact x1
  · rw [World.frozen?_setCell]; exact f1
  · rw [e1, e2] at hh ⊢
    exact hh.next (h1 g1 rfl) (h2 g2 rfl) j z _
set_option maxHeartbeats 3200000 in
theorem cjoins_walk {w : World} {a : Option Addr} {n k : Nat} {L : List CV} (h : HoldsL w a n L) (hn : n * 48 ≤ 140737488355328) :
    Calls Try.prog 3 #[.slice a n k] w fun e w' => e = .returned (.bool true) ∧ Below w.heap.size w w' := by
  have KL := clives_any
  have H0 := Lib.hid h
  have HE := Lib.hid h.1
  have HN := Lib.hid hn
  clear h hn
  go_enter Try.func3, Try.ntmps3
  go_wp2_with fail
  go_loopw [3, 4, 16] (fun N s i wr => ∃ (m : Nat) (Ni : Int) (sv : Value), N = .int .i64 Ni ∧ sv = s ∧ i = .int .i64 m ∧ m ≤ n ∧ Hid (∃ P, MRow w.heap.size sv P wr ∧ PairsOf w P (L.take m) ∧ Below w.heap.size w wr)) (fun _ _ i _ => n - (RowKit.intOf i).toNat)
  case atStart => exact ⟨0, 0, _, rfl, rfl, rfl, Nat.zero_le _, Lib.hid ⟨[], MRow.nil _ _, by simpa using PairsOf.nil w, Below.refl _ _⟩⟩
  case round =>
    obtain ⟨m, Ni, sv, rfl, rfl, rfl, hm, HR⟩ := hrel
    by_cases hlt : m < n
    · obtain ⟨P, hP, hpo, hb⟩ := HR.out
      obtain ⟨C, hC⟩ : ∃ C, L[m]? = some C := ⟨L[m]'(by rw [← HE.out]; exact hlt), List.getElem?_eq_getElem _⟩
      obtain ⟨ad, rfl, hv⟩ := H0.out.2 (by omega)
      obtain ⟨a1, n1, k1, a2, n2, k2, d1, d2, i1, i2⟩ := hv m C hC
      have c1 : wr.cell? (ad.add (m * 2)) = some (.slice a1 n1 k1) := by rw [hb.cell (World.block_lt_of_cell? w _ d1)]; exact d1
      have c2 : wr.cell? ⟨(ad.add (m * 2)).block, (ad.add (m * 2)).off + 1, none⟩ = some (.slice a2 n2 k2) := by rw [hb.cell (World.block_lt_of_cell? w _ d2)]; exact d2
      have hPl : P.length = m := by rw [hpo.1, List.length_take]; have := HE.out; omega
      have b0 : (0 : Int) ≤ (m : Int) := Int.natCast_nonneg m
      have b1 : (m : Int) < (n : Int) := Int.ofNat_lt.2 hlt
      have hw64 : IntKind.i64.wrap ((m : Int) + 1) = (m : Int) + 1 := by have := HN.out; rw [IntKind.wrap_i64]; omega
      have hbx := below_box wr (.cells #[.slice a1 n1 k1, .slice a2 n2 k2] 27)
      obtain ⟨sa, sc, rfl, _, _⟩ := ownsRow_form hP
      have HPUSH : Hid (∀ w1, Below (wr.alloc (.cells #[.slice a1 n1 k1, .slice a2 n2 k2] 27)).heap.size (wr.alloc (.cells #[.slice a1 n1 k1, .slice a2 n2 k2] 27)) w1 →
          ∃ v' w2, Hid (∀ ty, (Builtin.append_ #[23, 23] ty #[.slice sa m sc, .slice (some ⟨w1.heap.size, 0, none⟩) 1 1]).run Try.prog (w1.alloc (.cells #[.slice a1 n1 k1, .slice a2 n2 k2] 29)) = .ok v' w2) ∧
            Hid (∃ Q, MRow w.heap.size v' Q w2 ∧ PairsOf w Q (L.take (m + 1)) ∧ Below w.heap.size w w2)) := Lib.hid (fun w1 hb1 => by
        have hb2 : Below wr.heap.size wr w1 := hbx.trans (hb1.mono hbx.size)
        obtain ⟨v', w2, r, o⟩ := (hP.below hb2).push (Nat.le_trans hb.size hb2.size) a1 a2 n1 k1 n2 k2 (by have := HN.out; omega)
        rw [hPl] at r
        exact ⟨v', w2, r, Lib.hid ⟨_, o.out.1, by rw [take_snoc hC]; exact hpo.snoc i1 i2, (hb.trans (hb2.mono hb.size)).trans o.out.2⟩⟩)
      have HF : Hid (∀ w', Below (wr.alloc (.cells #[.slice a1 n1 k1, .slice a2 n2 k2] 27)).heap.size (wr.alloc (.cells #[.slice a1 n1 k1, .slice a2 n2 k2] 27)) w' → Below w.heap.size w w') := Lib.hid (fun w' hb1 => hb.trans ((hbx.trans (hb1.mono hbx.size)).mono hb.size))
      have KP := plain_any (wr.alloc (.cells #[.slice a1 n1 k1, .slice a2 n2 k2] 27)) a1 a2 n1 n2 k1 k2
      (try rw [hPl])
      clear hPl hP hpo hb hC hv d1 d2 i1 i2 HR hbx
      by_cases hbig : (8000 : Int) < wrap64 (Ni + wrap64 (wrap64 (1 + (n2 : Int)) + (n1 : Int)))
      · have t0 : decide ((8000 : Int) < wrap64 (Ni + wrap64 (wrap64 (1 + (n2 : Int)) + (n1 : Int)))) = true := decide_eq_true hbig
        clear hbig HPUSH KP
        go_wp2_with fail
        refine (KL _).mono ?_
        rintro e w' ⟨rfl, hb1⟩
        have hh := Lib.hid (HF.out _ hb1)
        clear hb1
        go_wp2_with fail
        go_ret
        exact ⟨rfl, hh.out⟩
      · have t0 : decide ((8000 : Int) < wrap64 (Ni + wrap64 (wrap64 (1 + (n2 : Int)) + (n1 : Int)))) = false := decide_eq_false hbig
        clear hbig HF
        go_wp2_with fail
        refine KP.mono ?_
        rintro e w1 ⟨rfl, hb1⟩
        obtain ⟨v', w2, r, o⟩ := HPUSH.out w1 hb1
        have O := Lib.hid o.out
        clear hb1 HPUSH KP o
        go_wp2_with (at_builtin; refine wpList_append_run rfl _ _ 23 rfl rfl rfl (r.out _) ?_)
        go_roundw
        case rel => exact ⟨m + 1, _, _, rfl, rfl, by go_num, hlt, O⟩
        case measure => simp [RowKit.intOf]; omega
    · obtain rfl : m = n := by omega
      have hta : L.take m = L := by rw [HE.out]; exact List.take_length
      obtain ⟨P, hP, hpo, hb⟩ := HR.out
      obtain ⟨V0, rfl⟩ : ∃ x, x = wr := ⟨_, rfl⟩
      rw [hta] at hpo
      obtain ⟨sa, sc, rfl, _, _⟩ := ownsRow_form hP
      have hPl : P.length = m := by rw [hpo.1]; exact HE.out.symm
      rw [hPl] at hP
      try rw [hPl]
      have hHL := hP.vecs hpo hb
      have hnb : m ≤ 4398046511104 := by have := HN.out; omega
      have KJ := cjoin_any (H0.out.below hb) hnb (k := k)
      have HRJ := Lib.hid (fun (V : World) (hv : Below V0.heap.size V0 V) => rcjoin_any (hHL.below hv) hnb (k := sc))
      have HJ3 := Lib.hid (fun (V : World) (hv : Below w.heap.size w V) => cjoin_any (H0.out.below hv) hnb (k := k))
      have HLEN := Lib.hid (join_len L)
      obtain ⟨E, hE⟩ : ∃ E, joinE L = E := ⟨_, rfl⟩
      rw [hE] at KJ HRJ HJ3
      obtain ⟨J, hJ⟩ : ∃ J, joinV L = J := ⟨_, rfl⟩
      rw [hJ] at KJ HRJ HJ3 HLEN
      have HB0 := Lib.hid hb
      have e0 : (E == E) = true := by simp
      have e1 : (E != E) = false := by simp
      have HPL := Lib.hid (fun (V : World) => plain_any V)
      clear hP hpo hb hHL hnb hE hJ hta hPl HR H0
      go_wp2_with fail
      refine KJ.mono ?_
      rintro e w1 ⟨nv, iv, rfl, hn1, hi1, hb1⟩
      have HLT := Lib.hid (And.intro hn1.lt hi1.lt)
      obtain ⟨na, nc, rfl, _⟩ := ownsRow_form hn1
      obtain ⟨ia, ic, rfl, _⟩ := ownsRow_form hi1
      obtain ⟨il, hil⟩ : ∃ il, J.il.length = il := ⟨_, rfl⟩
      have hnl : J.nl.length = il := by rw [HLEN.out.1, hil]
      rw [hnl, hil] at HLT
      (try rw [hnl, hil])
      obtain ⟨B1, hB1⟩ : ∃ B, w1.heap.size = B := ⟨_, rfl⟩
      rw [hB1] at HLT
      obtain ⟨X1, hX1⟩ : ∃ X1, w1.alloc (.cells #[.slice na il nc, .slice ia il ic] 27) = X1 := ⟨_, rfl⟩
      have hbx1 : Below w1.heap.size w1 X1 := by rw [← hX1]; exact below_box _ _
      have hx1 : X1.heap[B1]? = some (.cells #[.slice na il nc, .slice ia il ic] 27 (0, 0)) := by rw [← hX1, ← hB1]; exact heap_alloc_new _ _
      have hsX1 : X1.heap.size = B1 + 1 := by rw [← hX1, ← hB1]; simp
      have hbX1 : Below V0.heap.size V0 X1 := hb1.trans (hbx1.mono hb1.size)
      have HS1 : Hid (V0.heap.size ≤ B1 ∧ w.heap.size ≤ V0.heap.size ∧ X1.heap.size = B1 + 1) := Lib.hid ⟨by have := hb1.size; omega, HB0.out.size, hsX1⟩
      have HH1 : Hid (RowB V0.heap.size (.slice na il nc) J.nl X1 ∧ RowI V0.heap.size (.slice ia il ic) J.il X1) := Lib.hid (by rw [hnl] at hn1; rw [hil] at hi1; exact ⟨hn1.below hbx1, hi1.below hbx1⟩)
      have HX1 := Lib.hid hx1
      have HbX1 := Lib.hid hbX1
      have HIL := Lib.hid (And.intro hnl hil)
      have KRJ := HRJ.out X1 hbX1
      clear KJ hn1 hi1 hb1 hbx1 hx1 hbX1 hnl hil hsX1 HRJ
      go_wp2_with fail
      (try rw [hB1])
      (try rw [hX1])
      clear hX1
      refine KRJ.mono ?_
      rintro e w2 ⟨nv, iv, rfl, hn2, hi2, hb2⟩
      obtain ⟨na2, nc2, rfl, _⟩ := ownsRow_form hn2
      obtain ⟨ia2, ic2, rfl, _⟩ := ownsRow_form hi2
      rw [HIL.out.1] at hn2
      rw [HIL.out.2] at hi2
      (try rw [HIL.out.1, HIL.out.2])
      obtain ⟨B2, hB2⟩ : ∃ B, w2.heap.size = B := ⟨_, rfl⟩
      obtain ⟨X2, hX2⟩ : ∃ X2, w2.alloc (.cells #[.slice na2 il nc2, .slice ia2 il ic2] 29) = X2 := ⟨_, rfl⟩
      have hbx2 : Below w2.heap.size w2 X2 := by rw [← hX2]; exact below_box _ _
      have hx2 : X2.heap[B2]? = some (.cells #[.slice na2 il nc2, .slice ia2 il ic2] 29 (0, 0)) := by rw [← hX2, ← hB2]; exact heap_alloc_new _ _
      have hbX2 : Below X1.heap.size X1 X2 := hb2.trans (hbx2.mono hb2.size)
      have hBB : B1 + 1 ≤ B2 := by have := hb2.size; have := HS1.out.2.2; omega
      have hn2' := hn2.below hbx2
      have hi2' := hi2.below hbx2
      have KS := csame_any (HH1.out.1.holds.below hbX2) (HH1.out.2.holds.below hbX2) hn2'.holds hi2'.holds (by have := HLEN.out.2; omega) (by have := HLEN.out; omega)
      have HX12 := Lib.hid ((hbX2.block B1 (by have := HS1.out.2.2; omega)).trans HX1.out)
      have m0 : X2.cell? ⟨B1, 0, none⟩ = some (.slice na il nc) := by rw [cell_of_row _ _ _ _ _ _ HX12.out]; rfl
      have m1 : X2.cell? ⟨B1, 1, none⟩ = some (.slice ia il ic) := by rw [cell_of_row _ _ _ _ _ _ HX12.out]; rfl
      have s0 : X2.cell? ⟨B2, 0, none⟩ = some (.slice na2 il nc2) := by rw [cell_of_row _ _ _ _ _ _ hx2]; rfl
      have s1 : X2.cell? ⟨B2, 1, none⟩ = some (.slice ia2 il ic2) := by rw [cell_of_row _ _ _ _ _ _ hx2]; rfl
      have HH2 := Lib.hid (And.intro hn2' hi2')
      have HHX2 := Lib.hid hx2
      have HBB := Lib.hid hBB
      have HR2 := Lib.hid (And.intro (HH1.out.1.below hbX2) (HH1.out.2.below hbX2))
      have HbX2 := Lib.hid hbX2
      clear KRJ hn2 hi2 hb2 hbx2 hx2 hbX2 hBB hn2' hi2' HX1 HH1
      go_wp2_with fail
      (try rw [hB2])
      (try rw [hX2])
      clear hX2
      refine KS.mono ?_
      rintro e w3 ⟨rfl, hb3⟩
      have HB3 := Lib.hid hb3
      have p0 : w3.cell? ⟨B1, 0, none⟩ = some (.slice na il nc) := by rw [hb3.cell (World.block_lt_of_cell? X2 _ m0)]; exact m0
      have p1 : w3.cell? ⟨B1, 1, none⟩ = some (.slice ia il ic) := by rw [hb3.cell (World.block_lt_of_cell? X2 _ m1)]; exact m1
      have HT0 : Hid (Torn V0.heap.size B1 w3 w3 (.slice na il nc) (.slice ia il ic) il) := Lib.hid ⟨J.nl, J.il, HIL.out.1, HIL.out.2, HR2.out.1.below hb3, HR2.out.2.below hb3, Else.refl _ _⟩
      have HP3 := Lib.hid (And.intro p0 p1)
      clear KS hb3 m0 m1 s0 s1 p0
      go_wp2_with fail
      go_loopw [61] (fun s wr => ∃ (q : Nat), s = .int .i64 q ∧ q ≤ il ∧ Hid (Torn V0.heap.size B1 w3 wr (.slice na il nc) (.slice ia il ic) il)) (fun s _ => il - (RowKit.intOf s).toNat)
      case atStart => exact ⟨0, rfl, Nat.zero_le _, HT0⟩
      case round =>
        obtain ⟨q, rfl, hq, HR⟩ := hrel
        by_cases hlt : q < il
        · obtain ⟨g1, c1, g2, c2, x, y, ea, eb, l1, l2, x2, z2, xz, hnext⟩ := HR.out.at_ HLT.out.1 HLT.out.2 hlt
          obtain ⟨rfl, rfl⟩ : na = some ⟨g1, 0, none⟩ ∧ nc = c1 := by injection ea with a _ b; exact ⟨a, b⟩
          obtain ⟨rfl, rfl⟩ : ia = some ⟨g2, 0, none⟩ ∧ ic = c2 := by injection eb with a _ b; exact ⟨a, b⟩
          obtain ⟨_, _, _, _, _, _, hEl⟩ := HR.out
          have hh1 : wr.heap[B1]? = w3.heap[B1]? := hEl.block _ (lt_of_heap (show w3.heap[B1]? = some _ from (HB3.out.block B1 (lt_of_heap HX12.out)).trans HX12.out)) (fun e => by omega)
          have hh2 : wr.heap[B1]? = some (.cells #[.slice (some ⟨g1, 0, none⟩) il nc, .slice (some ⟨g2, 0, none⟩) il ic] 27 (0, 0)) := hh1.trans ((HB3.out.block B1 (lt_of_heap HX12.out)).trans HX12.out)
          have f1 : wr.cell? ⟨B1, 1, none⟩ = some (.slice (some ⟨g2, 0, none⟩) il ic) := by rw [cell_of_row _ _ _ _ _ _ hh2]; rfl
          have f0 : (wr.setCell ⟨g2, q, none⟩ (.int .i64 (-1))).cell? ⟨B1, 0, none⟩ = some (.slice (some ⟨g1, 0, none⟩) il nc) := by
            rw [cell_of_row _ _ _ _ _ _ (show (wr.setCell ⟨g2, q, none⟩ (.int .i64 (-1))).heap[B1]? = _ from (vset_other (by omega) _).trans hh2)]; rfl
          obtain ⟨x1, z1⟩ := xz (.int .i64 (-1))
          have hh := Lib.hid (hnext (-1))
          have b0 : (0 : Int) ≤ (q : Int) := Int.natCast_nonneg q
          have b1 : (q : Int) < (il : Int) := Int.ofNat_lt.2 hlt
          have hw64 : IntKind.i64.wrap ((q : Int) + 1) = (q : Int) + 1 := by have := HLEN.out.2; have := HIL.out.2; rw [IntKind.wrap_i64]; omega
          clear xz hnext hEl hh1 hh2 HR l1 l2 ea eb p1
          go_wp2_with fail
          go_region
          all_goals go_wp2_with fail
          go_roundw
          case rel => exact ⟨q + 1, by go_num, hlt, Lib.hid (hh.out.drew 1)⟩
          case measure => simp [RowKit.intOf]; omega
        · obtain ⟨_, _, _, _, _, _, hEl⟩ := HR.out
          have hw3 : Below w.heap.size w w3 := HB0.out.trans ((HbX1.out.trans ((HbX2.out.trans (HB3.out.mono HbX2.out.size)).mono HbX1.out.size)).mono HB0.out.size)
          have hwr : Below w.heap.size w wr := hw3.trans (hEl.below hw3.size (fun g hg => by have := HS1.out.2.1; omega))
          have KJ3 := HJ3.out wr hwr
          have hb2 : wr.heap[B2]? = some (.cells #[.slice na2 il nc2, .slice ia2 il ic2] 29 (0, 0)) :=
            (hEl.block B2 (lt_of_heap (show w3.heap[B2]? = some _ from (HB3.out.block B2 (lt_of_heap HHX2.out)).trans HHX2.out)) (fun e => by have := HBB.out; omega)).trans ((HB3.out.block B2 (lt_of_heap HHX2.out)).trans HHX2.out)
          have hkeep : ∀ g, X1.heap.size ≤ g ∧ g < X2.heap.size → wr.heap[g]? = X2.heap[g]? := fun g hg =>
            (hEl.block g (Nat.lt_of_lt_of_le hg.2 HB3.out.size) (fun e => by have := HS1.out.2.2; omega)).trans (HB3.out.block g hg.2)
          have y1 : Holds wr (.slice na2 il nc2) (bls J.nl) := RowB.holds (B := X1.heap.size) (ownsRow_of_block HH2.out.1 (fun g hg => hkeep g (HH2.out.1.lt g hg)))
          have y2 : Holds wr (.slice ia2 il ic2) (i64s J.il) := RowI.holds (B := X1.heap.size) (ownsRow_of_block HH2.out.2 (fun g hg => hkeep g (HH2.out.2.lt g hg)))
          have HY := Lib.hid (And.intro y1 y2)
          have HB2 := Lib.hid hb2
          have HWR := Lib.hid hwr
          clear hEl hw3 hwr hb2 hkeep y1 y2 HR p1
          go_wp2_with fail
          refine KJ3.mono ?_
          rintro e w5 ⟨nv, iv, rfl, hn5, hi5, hb5⟩
          obtain ⟨na5, nc5, rfl, _⟩ := ownsRow_form hn5
          obtain ⟨ia5, ic5, rfl, _⟩ := ownsRow_form hi5
          rw [HIL.out.1] at hn5
          rw [HIL.out.2] at hi5
          (try rw [HIL.out.1, HIL.out.2])
          obtain ⟨X5, hX5⟩ : ∃ X, w5.alloc (.cells #[.slice na5 il nc5, .slice ia5 il ic5] 27) = X := ⟨_, rfl⟩
          have hbx5 : Below w5.heap.size w5 X5 := by rw [← hX5]; exact below_box _ _
          have hx5 : X5.heap[w5.heap.size]? = some (.cells #[.slice na5 il nc5, .slice ia5 il ic5] 27 (0, 0)) := by rw [← hX5]; exact heap_alloc_new _ _
          obtain ⟨B5, hB5⟩ : ∃ B, w5.heap.size = B := ⟨_, rfl⟩
          have hb55 : Below wr.heap.size wr X5 := hb5.trans (hbx5.mono hb5.size)
          have r0 : X5.cell? ⟨B5, 0, none⟩ = some (.slice na5 il nc5) := by rw [← hB5, cell_of_row _ _ _ _ _ _ hx5]; rfl
          have r1 : X5.cell? ⟨B5, 1, none⟩ = some (.slice ia5 il ic5) := by rw [← hB5, cell_of_row _ _ _ _ _ _ hx5]; rfl
          have q2 := (hb55.block B2 (lt_of_heap HB2.out)).trans HB2.out
          have s0 : X5.cell? ⟨B2, 0, none⟩ = some (.slice na2 il nc2) := by rw [cell_of_row _ _ _ _ _ _ q2]; rfl
          have s1 : X5.cell? ⟨B2, 1, none⟩ = some (.slice ia2 il ic2) := by rw [cell_of_row _ _ _ _ _ _ q2]; rfl
          have KS5 := csame_any (hn5.below hbx5).holds (hi5.below hbx5).holds (HY.out.1.below hb55) (HY.out.2.below hb55) (by have := HLEN.out.2; omega) (by have := HLEN.out; omega)
          have HB55 := Lib.hid (HWR.out.trans (hb55.mono HWR.out.size))
          clear KJ3 hn5 hi5 hb5 hbx5 hx5 hb55 q2
          go_wp2_with fail
          (try rw [hB5])
          (try rw [hX5])
          clear hX5
          refine KS5.mono ?_
          rintro e w6 ⟨rfl, hb6⟩
          have HB6 := Lib.hid (HB55.out.trans (hb6.mono HB55.out.size))
          clear KS5 hb6 r0 r1 s0 s1
          go_wp2_with fail
          refine (KL _).mono ?_
          rintro e w7 ⟨rfl, hb7⟩
          have FIN := Lib.hid (HB6.out.trans (hb7.mono HB6.out.size))
          clear hb7
          go_wp2_with fail
          go_ret
          exact ⟨rfl, FIN.out⟩
end Go.Proofs.Ytcpfkinjglnabaa
