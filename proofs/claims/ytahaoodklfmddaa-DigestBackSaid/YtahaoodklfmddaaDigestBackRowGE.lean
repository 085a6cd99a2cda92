/- The texts DigRead DigReadAll DigLoad DigBack, one behind the other; each one's own comment says what it holds. -/
import Derived.Test.YtahaoodklfmddaaDigestBackRowGD
import Derived.Test.YtahaoodklfmddaaDigestBackRowGC
import Derived.Test.YtahaoodklfmddaaShelf
import Derived.Test.YtahaoodklfmddaaDigMerge
import Derived.Test.YtahaoodklfmddaaDigestBackRowGB
/- Contract of digest's readNode at a node's bytes. Conditions: a count that Load takes. -/
set_option maxRecDepth 100000
namespace Go.Proofs.Ytahaoodklfmddaa
open Go.RowKit Go.Maps Go.Sort Go.Shelf

theorem u8s_drop (l : List UInt8) (k : Nat) : (u8s l).drop k = u8s (l.drop k) := by simp [u8s]
/-- Get behind U bytes -/
theorem dget_at {W0 wr : World} {ad : Addr} {bn bc : Nat} {xs r : List UInt8} {U x : Nat} (hH : Holds W0 (.slice (some ad) bn bc) (u8s xs)) (hB : Below W0.heap.size W0 wr) (hbn : bn ≤ 100000) (hd : xs.drop U = dig x ++ r) (hx : x < 18446744073709551616) :
    U + (dig x).length ≤ bn ∧ 0 < (dig x).length ∧ (dig x).length ≤ 10 ∧ bn ≤ bc ∧ Hid (Calls Try.prog 56 #[.slice (some (ad.add U)) (bn - U) (bc - U)] wr fun e w' => e = .returned (.tuple #[.int .u64 (x : Int), .int .i64 ((dig x).length : Int)]) ∧ wr = w') := by
  have hl := hH.len
  rw [u8s_len] at hl
  have hp := dig_pos x
  have e := congrArg List.length hd
  simp only [List.length_drop, List.length_append] at e
  refine ⟨by omega, hp, dig_len10 hx, hl.2, ?_⟩
  have HH := (hH.below hB).drop U (by omega)
  rw [u8s_drop, hd] at HH
  have K := Get_any HH (by have := HH.len.1; rw [u8s_len] at this; omega)
  rw [get_dig0 _ hx] at K
  exact K
/-- the first numbers of three, the others 0 -/
def arr3 (a b c q : Nat) : Array Value := #[.int .u64 ((if 0 < q then a else 0 : Nat) : Int), .int .u64 ((if 1 < q then b else 0 : Nat) : Int), .int .u64 ((if 2 < q then c else 0 : Nat) : Int)]
theorem arr3_set (a b c q : Nat) (hq : q < 3) : (arr3 a b c q).setIfInBounds q (.int .u64 (([a, b, c].getD q 0 : Nat) : Int)) = arr3 a b c (q + 1) := by
  have h3 : q = 0 ∨ q = 1 ∨ q = 2 := by omega
  rcases h3 with rfl | rfl | rfl <;> rfl
/-- where the number q begins -/
def off3 (l : List Nat) (q : Nat) : Nat := ((l.take q).flatMap dig).length
theorem off3_next {l : List Nat} {q : Nat} (hq : q < l.length) : off3 l (q + 1) = off3 l q + (dig (l.getD q 0)).length := by
  unfold off3
  rw [List.take_succ_eq_append_getElem hq, List.flatMap_append, List.length_append, List.getD_eq_getElem?_getD, List.getElem?_eq_getElem hq]
  simp
theorem drop3 {l : List Nat} {r : List UInt8} {q : Nat} (hq : q < l.length) : (l.flatMap dig ++ r).drop (off3 l q) = dig (l.getD q 0) ++ ((l.drop (q + 1)).flatMap dig ++ r) := by
  have e : l.flatMap dig = (l.take q).flatMap dig ++ (dig (l.getD q 0) ++ (l.drop (q + 1)).flatMap dig) := by
    conv => lhs; rw [← List.take_append_drop q l, List.flatMap_append, List.drop_eq_getElem_cons hq, List.flatMap_cons]
    rw [List.getD_eq_getElem?_getD, List.getElem?_eq_getElem hq]
    simp
  rw [e, List.append_assoc, show off3 l q = ((l.take q).flatMap dig).length from rfl, List.drop_left, List.append_assoc]
set_option maxHeartbeats 3200000 in
theorem readNode_at {w : World} {ad : Addr} {bn bc : Nat} {y : Nat × Int} {r : List UInt8} (hH : Holds w (.slice (some ad) bn bc) (u8s (nodeB y ++ r))) (hbn : bn ≤ 100000) (hy : NodeOk y) (h40 : y.2 ≤ 1099511627776) :
    Calls Try.prog 57 #[.slice (some ad) bn bc] w fun e w' => e = .returned (.tuple #[.agg #[.int .i64 ((y.1 / 18446744073709551616 : Nat) : Int), .int .u64 ((y.1 % 18446744073709551616 : Nat) : Int), .int .i64 y.2], .int .i64 ((nodeB y).length : Int)]) ∧ Below w.heap.size w w' := by
  have hwl := nodeW_lt hy
  have hnl := nodeB_len hy
  have hnb : nodeB y = (nodeW y).flatMap dig := rfl
  rw [hnb] at hH hnl ⊢
  have hl64 := hy.1.1
  have hp64 := hy.1.2
  have hc1 := hy.2.1
  obtain ⟨lv, hlv⟩ : ∃ lv : Nat, y.1 / 18446744073709551616 = lv := ⟨_, rfl⟩
  obtain ⟨pr, hpr⟩ : ∃ pr : Nat, y.1 % 18446744073709551616 = pr := ⟨_, rfl⟩
  obtain ⟨cn, hcn⟩ : ∃ cn : Nat, y.2.toNat = cn := ⟨_, rfl⟩
  have hy2 : y.2 = (cn : Int) := by omega
  have hnw : nodeW y = [lv, pr, cn] := by unfold nodeW; rw [hlv, hpr, hcn]
  rw [hnw] at hH hwl hnl ⊢
  rw [hlv] at hl64 hp64
  rw [hpr] at hp64
  rw [hlv, hpr, hy2]
  rw [hy2] at h40 hc1
  have hlen : bn ≤ bc := by have := hH.len; omega
  have HH := Lib.hid hH
  have HW := Lib.hid hwl
  have KB := Try.bits_Len64 (pr : Int)
  have hbl : Lib.bitLen (pr : Int).toNat ≤ 64 - lv := Lib.bitLen_le _ _ (by omega) (by simpa using hp64)
  obtain ⟨bl, hble⟩ : ∃ bl, Lib.bitLen (pr : Int).toNat = bl := ⟨_, rfl⟩
  rw [hble] at hbl KB
  have hpr64 := hwl pr (by simp)
  clear hH hwl hy hnb hlv hpr hcn hy2 hnw hp64 hble
  obtain ⟨W, hW⟩ : ∃ W, (w.alloc (.cells #[.int .i64 0, .int .u64 0, .int .i64 0] 50)).alloc (.cells #[.int .u64 0, .int .u64 0, .int .u64 0] 63) = W := ⟨_, rfl⟩
  have hW0 : W.heap[w.heap.size]? = some (.cells #[.int .i64 0, .int .u64 0, .int .i64 0] 50 (0, 0)) := by rw [← hW]; exact (heap_alloc_old _ _ (by simp)).trans (heap_alloc_new w _)
  have hW1 : W.heap[w.heap.size + 1]? = some (.cells (arr3 lv pr cn 0) 63 (0, 0)) := by
    rw [← hW]
    have := heap_alloc_new (w.alloc (.cells #[.int .i64 0, .int .u64 0, .int .i64 0] 50)) (.cells #[.int .u64 0, .int .u64 0, .int .u64 0] 63)
    rw [World.size_alloc] at this
    exact this
  have hWB : Below w.heap.size w W := by rw [← hW]; exact ((Below.refl _ _).alloc (Nat.le_refl _) _).alloc (by simp) _
  have X0 := Lib.hid (And.intro hW0 (And.intro hW1 hWB))
  obtain ⟨R, hR⟩ : ∃ R, w.heap.size = R := ⟨_, rfl⟩
  have HRA : Hid (R ≠ (R + 1) ∧ w.heap.size ≤ (R + 1) ∧ w.heap.size ≤ R) := Lib.hid (by omega)
  rw [hR] at X0
  have hcb : (bn : Int) ≤ (bc : Int) := by omega
  have HLV := Lib.hid (And.intro hl64 (And.intro hbl (And.intro hpr64 (And.intro hc1 h40))))
  have HNL := Lib.hid hnl
  clear hW0 hW1 hWB hl64 hbl hpr64 hc1 h40 hnl
  go_enter Try.func57, Try.ntmps57
  go_wp2_with fail
  (try rw [hR])
  (try rw [hW])
  clear hW
  go_loopw [5, 12] (fun s5 s12 wr => ∃ (U q : Nat), s5 = .int .i64 U ∧ s12 = .int .i64 q ∧ q ≤ 3 ∧ U ≤ 30 ∧ Hid (U = off3 [lv, pr, cn] q) ∧ Hid (wr.heap[R]? = some (.cells #[.int .i64 0, .int .u64 0, .int .i64 0] 50 (0, 0)) ∧ wr.heap[R + 1]? = some (.cells (arr3 lv pr cn q) 63 (0, 0)) ∧ Below R w wr)) (fun _ s _ => 3 - (intOf s).toNat)
  case atStart => exact ⟨0, 0, rfl, rfl, by omega, by omega, Lib.hid rfl, X0⟩
  case round =>
    clear X0
    obtain ⟨U, q, rfl, rfl, hq, hU, HU, HX⟩ := hrel
    by_cases hq3 : q < 3
    · have hl3 : q < [lv, pr, cn].length := by simpa using hq3
      have hux : [lv, pr, cn].getD q 0 < 18446744073709551616 := HW.out _ (by rw [List.getD_eq_getElem?_getD, List.getElem?_eq_getElem hl3]; exact List.getElem_mem _)
      have hd := drop3 (r := r) hl3
      have hon := off3_next hl3
      have hset := arr3_set lv pr cn q hq3
      rw [← HU.out] at hd hon
      generalize [lv, pr, cn].getD q 0 = u at hux hd hon hset
      obtain ⟨g1, g2, g3, g4, KG⟩ := dget_at HH.out (hR ▸ HX.out.2.2) hbn hd hux
      obtain ⟨D, hD⟩ : ∃ D, (dig u).length = D := ⟨_, rfl⟩
      rw [hD] at g1 g2 g3 KG hon
      have v0 : ¬ bc = U := by omega
      have v1 : (U : Int) ≤ (bn : Int) := by omega
      have v2 : U ≤ bn := by omega
      have hD0 : ((D : Int) == (0 : Int)) = false := by simp; omega
      have hD1 : (D == 0) = false := by simp; omega
      have wU : IntKind.i64.wrap ((U : Int) + (D : Int)) = ((U + D : Nat) : Int) := by rw [IntKind.wrap_i64]; omega
      have hw64 : IntKind.i64.wrap ((q : Int) + 1) = (q : Int) + 1 := by rw [IntKind.wrap_i64]; omega
      have a0 : (0 : Int) ≤ (q : Int) := Int.natCast_nonneg q
      have b3 : (q : Int) < 3 := by omega
      have hcA : ∃ z, wr.cell? ⟨R + 1, q, none⟩ = some z := by
        rw [cell_of_row _ _ _ _ _ _ HX.out.2.1]
        have h3 : q = 0 ∨ q = 1 ∨ q = 2 := by omega
        rcases h3 with rfl | rfl | rfl <;> exact ⟨_, rfl⟩
      obtain ⟨z, hz⟩ := hcA
      have hfz := free_of_row HX.out.2.1 q
      have HN : Hid ((wr.setCell ⟨R + 1, q, none⟩ (.int .u64 (u : Int))).heap[R]? = some (.cells #[.int .i64 0, .int .u64 0, .int .i64 0] 50 (0, 0)) ∧ (wr.setCell ⟨R + 1, q, none⟩ (.int .u64 (u : Int))).heap[R + 1]? = some (.cells (arr3 lv pr cn (q + 1)) 63 (0, 0)) ∧ Below R w (wr.setCell ⟨R + 1, q, none⟩ (.int .u64 (u : Int)))) := Lib.hid
        ⟨(Below.heap_setCell _ ⟨R + 1, q, none⟩ _ R (fun e => HRA.out.1 e)).trans HX.out.1, by have := heap_set (j := q) HX.out.2.1 (.int .u64 (u : Int)); rw [hset] at this; exact this, HX.out.2.2.setCell (by show R ≤ (R + 1); have := HRA.out; omega) _⟩
      have HU2 : Hid (U + D = off3 [lv, pr, cn] (q + 1)) := Lib.hid hon.symm
      have hU3 : U + D ≤ 30 := by
        have e1 : off3 [lv, pr, cn] (q + 1) ≤ ([lv, pr, cn].flatMap dig).length := by
          unfold off3
          conv => rhs; rw [← List.take_append_drop (q + 1) [lv, pr, cn], List.flatMap_append, List.length_append]
          omega
        have := HNL.out
        omega
      clear hl3 hux hd hon hset g1 g2 g3 g4 hD HU HX
      go_wp2_with fail
      refine KG.out.mono ?_
      rintro e w1 ⟨rfl, rfl⟩
      clear KG
      go_wp2_with fail
      go_roundw
      case rel => exact ⟨U + D, q + 1, rfl, by go_num, hq3, hU3, HU2, HN⟩
      case measure => simp [intOf]; omega
    · obtain rfl : q = 3 := by omega
      have hX := HX.out
      have f0 : wr.cell? ⟨R + 1, 0, none⟩ = some (.int .u64 (lv : Int)) := by rw [cell_of_row _ _ _ _ _ _ hX.2.1]; rfl
      have f1 : wr.cell? ⟨R + 1, 1, none⟩ = some (.int .u64 (pr : Int)) := by rw [cell_of_row _ _ _ _ _ _ hX.2.1]; rfl
      have f2 : wr.cell? ⟨R + 1, 2, none⟩ = some (.int .u64 (cn : Int)) := by rw [cell_of_row _ _ _ _ _ _ hX.2.1]; rfl
      have hlv := HLV.out
      have t0 : decide ((64 : Int) < (lv : Int)) = false := decide_eq_false (by omega)
      have t0' : decide (64 < lv) = false := decide_eq_false (by omega)
      have wl : IntKind.i64.wrap (lv : Int) = (lv : Int) := by rw [IntKind.wrap_i64]; omega
      have wl2 : IntKind.i64.wrap ((64 : Int) - (lv : Int)) = (64 : Int) - (lv : Int) := by rw [IntKind.wrap_i64]; omega
      have t1 : decide ((64 : Int) - (lv : Int) < (bl : Int)) = false := decide_eq_false (by omega)
      have t2 : decide ((cn : Int) < (1 : Int)) = false := decide_eq_false (by omega)
      have t2' : decide (cn < 1) = false := decide_eq_false (by omega)
      have t3 : decide ((1099511627776 : Int) < (cn : Int)) = false := decide_eq_false (by omega)
      have t3' : decide (1099511627776 < cn) = false := decide_eq_false (by omega)
      have wc : IntKind.i64.wrap (cn : Int) = (cn : Int) := by rw [IntKind.wrap_i64]; omega
      have hUe : U = ([lv, pr, cn].flatMap dig).length := by rw [HU.out]; rfl
      have HE := Lib.hid hUe
      have KB2 := Lib.hid (fun W => KB W (by omega) (by omega))
      have d0 : wr.cell? ⟨R, 0, none⟩ = some (.int .i64 0) := by rw [cell_of_row _ _ _ _ _ _ hX.1]; rfl
      have d1 : wr.cell? ⟨R, 1, none⟩ = some (.int .u64 0) := by rw [cell_of_row _ _ _ _ _ _ hX.1]; rfl
      have d2 : wr.cell? ⟨R, 2, none⟩ = some (.int .i64 0) := by rw [cell_of_row _ _ _ _ _ _ hX.1]; rfl
      have e0 := free_of_row hX.1 0
      have e1 := free_of_row hX.1 1
      have e2 := free_of_row hX.1 2
      have HX3 := Lib.hid (fun (z : Nat) => (show (((((wr.drewN z).setCell ⟨R, 0, none⟩ (.int .i64 (lv : Int))).setCell ⟨R, 1, none⟩ (.int .u64 (pr : Int))).setCell ⟨R, 2, none⟩ (.int .i64 (cn : Int))).heap[R]? = some (.cells #[.int .i64 (lv : Int), .int .u64 (pr : Int), .int .i64 (cn : Int)] 50 (0, 0))) ∧ Below R w ((((wr.drewN z).setCell ⟨R, 0, none⟩ (.int .i64 (lv : Int))).setCell ⟨R, 1, none⟩ (.int .u64 (pr : Int))).setCell ⟨R, 2, none⟩ (.int .i64 (cn : Int))) from
        ⟨heap_set (heap_set (heap_set (show (wr.drewN z).heap[R]? = _ from hX.1) _) _) _, (((below_dN hX.2.2 z).setCell (Nat.le_refl R) _).setCell (Nat.le_refl R) _).setCell (Nat.le_refl R) _⟩))
      clear hX hlv hUe HU HX KB
      go_wp2_with fail
      go_quiet (fail)
      go_wp2_with fail
      refine (KB2.out _).mono ?_
      rintro e w1 ⟨rfl, rfl⟩
      go_wp2_with fail
      obtain ⟨hfin, hbel⟩ := HX3.out nq
      generalize (((wr.drewN nq).setCell ⟨R, 0, none⟩ (.int .i64 (lv : Int))).setCell ⟨R, 1, none⟩ (.int .u64 (pr : Int))).setCell ⟨R, 2, none⟩ (.int .i64 (cn : Int)) = Wf at hfin hbel ⊢
      have r0 : Wf.cell? ⟨R, 0, none⟩ = some (.int .i64 (lv : Int)) := by rw [cell_of_row _ _ _ _ _ _ hfin]; rfl
      have r1 : Wf.cell? ⟨R, 1, none⟩ = some (.int .u64 (pr : Int)) := by rw [cell_of_row _ _ _ _ _ _ hfin]; rfl
      have r2 : Wf.cell? ⟨R, 2, none⟩ = some (.int .i64 (cn : Int)) := by rw [cell_of_row _ _ _ _ _ _ hfin]; rfl
      refine bodyPost_ret (v := .tuple #[.agg #[.int .i64 (lv : Int), .int .u64 (pr : Int), .int .i64 (cn : Int)], .int .i64 (U : Int)]) ?_ rfl ⟨by rw [HE.out], by rw [hR]; exact hbel⟩
      simp [results, Try.results57, go_sem, r0, r1, r2]
end Go.Proofs.Ytahaoodklfmddaa
/- Contract of digest's read at a digest's bytes, whatever lies behind them. Conditions: counts that Load takes. -/
set_option maxRecDepth 100000
namespace Go.Proofs.Ytahaoodklfmddaa
open Go.RowKit Go.Maps Go.Sort Go.Shelf

theorem addAll_nil {m : Nat} {L : DL} (h : LInv m L) : addAll [] L = L :=
  dl_ext (addAll_asc L [] List.Pairwise.nil) h.inv.asc (addAll_pos L [] (fun q hq => by cases hq) h.inv.pos) h.inv.pos fun x => by rw [addAll_dcnt L [] List.Pairwise.nil h.inv.asc]; simp [dcnt]
theorem node_ok {m : Nat} {L : DL} (h : LInv m L) (hm : m ≤ 1125899906842624) {q : Nat × Int} (hq : q ∈ L) : NodeOk q := by
  refine ⟨h.low q hq, h.inv.pos q hq, ?_⟩
  have h1 := all_le h.inv q.1
  have h2 := dcnt_nonneg h.inv.pos (sibC q.1)
  have h3 := dcnt_nonneg h.inv.pos (upC q.1)
  have h4 := dcnt_mem h.inv.asc (id := q.1) (c := q.2) hq
  unfold allC at h1
  omega
theorem node_le {m : Nat} {L : DL} (h : LInv m L) {q : Nat × Int} (hq : q ∈ L) : q.2 ≤ m := by
  have h1 := all_le h.inv q.1
  have h2 := dcnt_nonneg h.inv.pos (sibC q.1)
  have h3 := dcnt_nonneg h.inv.pos (upC q.1)
  have h4 := dcnt_mem h.inv.asc (id := q.1) (c := q.2) hq
  unfold allC at h1
  omega
/-- where node j begins; what lies there -/
def offD (L : DL) (j : Nat) : Nat := (dig L.length).length + (nodesB (L.take j)).length
theorem offD_next {L : DL} {j : Nat} {y : Nat × Int} (hy : L[j]? = some y) : offD L (j + 1) = offD L j + (nodeB y).length := by
  obtain ⟨h, e⟩ := List.getElem?_eq_some_iff.1 hy
  unfold offD
  rw [List.take_succ_eq_append_getElem h, e, nodesB_append, List.length_append]
  simp [nodesB]
  omega
theorem dropD {L : DL} {j : Nat} {y : Nat × Int} (hy : L[j]? = some y) (tail : List UInt8) : (bytesD L ++ tail).drop (offD L j) = nodeB y ++ (nodesB (L.drop (j + 1)) ++ tail) := by
  obtain ⟨h, e⟩ := List.getElem?_eq_some_iff.1 hy
  have e1 : bytesD L ++ tail = (dig L.length ++ nodesB (L.take j)) ++ (nodeB y ++ (nodesB (L.drop (j + 1)) ++ tail)) := by
    have e0 : nodesB L = nodesB (L.take j) ++ (nodeB y ++ nodesB (L.drop (j + 1))) := by
      conv => lhs; rw [← List.take_append_drop j L, nodesB_append, List.drop_eq_getElem_cons h, e]
      simp [nodesB]
    unfold bytesD
    rw [e0]
    simp
  rw [e1, show offD L j = (dig L.length ++ nodesB (L.take j)).length by unfold offD; simp, List.drop_left]
set_option maxHeartbeats 6400000 in
theorem dread_at {T : Tags} {i : Nat} {W0 w : World} {p k b m : Nat} {L : DL} (h : DkAt T i w p k 0 b []) (hT : ∀ g, T g = some i → W0.heap.size ≤ g) (hB : Below W0.heap.size W0 w) (hk1 : 1 ≤ k) (hk : k ≤ 64) (hL : LInv m L) (hm : m ≤ 1099511627776) (hlen : L.length ≤ 3 * k + 64)
    {ad : Addr} {bn bc : Nat} {tail : List UInt8} (hH : Holds W0 (.slice (some ad) bn bc) (u8s (bytesD L ++ tail))) (hbn : bn ≤ 100000) :
    Calls Try.prog 40 #[.pointer (some ⟨p, 0, none⟩), .slice (some ad) bn bc] w fun e w' => e = .returned (.tuple #[]) ∧ Hid (Goes T i w (Dl p k m L) w') := by
  obtain ⟨c0, c1, c2, _⟩ := h.cells
  have KG := Get_any (hH.below hB) (by have := (hH.len).1; rw [u8s_len] at this; omega)
  rw [show bytesD L ++ tail = dig L.length ++ (nodesB L ++ tail) by unfold bytesD; simp, get_dig0 _ (by omega)] at KG
  have KR := room_at hk c0
  obtain ⟨R, hR⟩ : ∃ R : Nat, 3 * k + 64 = R := ⟨_, rfl⟩
  rw [hR] at KR
  have wR : IntKind.u64.wrap (R : Int) = (R : Int) := by rw [IntKind.wrap_u64]; omega
  have hmin : min (L.length : Int) (R : Int) = (L.length : Int) := by omega
  have hlb : bn ≤ bc := (hH.len).2
  have hbe : (bytesD L ++ tail).length = bn := by have := (hH.len).1; rw [u8s_len] at this; exact this
  have X0 : Hid (Goes T i w (Dl p k (total (L.take 0)) (addAll [] (L.take 0))) w) := Lib.hid (by simpa [total, csum, addAll] using Goes.start (A := Dl p k 0 []) ⟨b, h⟩)
  have HH := Lib.hid (And.intro hH (And.intro hT hB))
  have HL := Lib.hid (And.intro hL (And.intro hm hlen))
  have HBE := Lib.hid hbe
  have hd0 := dig_len10 (u := L.length) (by omega)
  obtain ⟨D0, hD0⟩ : ∃ D0, (dig L.length).length = D0 := ⟨_, rfl⟩
  rw [hD0] at KG hd0
  have HD0 : Hid (D0 = offD L 0) := Lib.hid (by unfold offD; rw [hD0]; simp [nodesB])
  have hLl : L.length ≤ 256 := by omega
  clear h hT hB hL hm hlen hH c1 c2 hbe hD0 hR
  go_enter Try.func40, Try.ntmps40
  go_wp2_with fail
  refine KG.mono ?_
  rintro e w1 ⟨rfl, rfl⟩
  clear KG
  go_wp2_with fail
  refine KR.mono ?_
  rintro e w1 ⟨rfl, rfl⟩
  clear KR c0
  go_wp2_with fail
  (try rw [hmin])
  clear hmin wR
  have hDu : D0 ≤ 40000 := by omega
  go_loopw [5, 18] (fun s5 s18 wr => ∃ (U j : Nat), s5 = .int .i64 U ∧ s18 = .int .u64 j ∧ j ≤ L.length ∧ U ≤ 40000 ∧ Hid (U = offD L j) ∧ Hid (Goes T i w (Dl p k (total (L.take j)) (addAll [] (L.take j))) wr)) (fun _ s _ => L.length - (intOf s).toNat)
  case atStart => exact ⟨D0, 0, rfl, rfl, Nat.zero_le _, hDu, HD0, X0⟩
  case round =>
    clear X0 HD0 hDu
    obtain ⟨U, j, rfl, rfl, hj, hU, HU, HS⟩ := hrel
    by_cases hlt : j < L.length
    · have hz : (j : Int) < (L.length : Int) := by omega
      obtain ⟨y, hy⟩ : ∃ y, L[j]? = some y := ⟨_, List.getElem?_eq_getElem hlt⟩
      have hym : y ∈ L := List.mem_of_getElem? hy
      have hok := node_ok HL.out.1 (by have := HL.out.2.1; omega) hym
      have hle40 := node_le HL.out.1 hym
      have hnl := nodeB_len hok
      have hdr := dropD hy tail
      have hon := offD_next hy
      rw [← HU.out] at hdr hon
      have hbl := congrArg List.length hdr
      rw [List.length_drop, HBE.out, List.length_append] at hbl
      have hnp : 0 < (nodeB y).length := by
        have := dig_pos (y.1 / 18446744073709551616)
        simp only [nodeB, nodeW, List.flatMap_cons, List.length_append]
        omega
      obtain ⟨T3, n3, e3, b3, hd3⟩ := HS.out
      have hBwr : Below W0.heap.size W0 wr := HH.out.2.2.trans (e3.below HH.out.2.2.size (fun g hg => HH.out.2.1 g hg))
      have hHd := (HH.out.1.below hBwr).drop U (by omega)
      rw [u8s_drop, hdr] at hHd
      have KN := readNode_at hHd (by omega) hok (by have := HL.out.2.1; omega)
      have hkin : KIn y.1 := kin_of_low (HL.out.1.low y hym)
      have hpos0 : ∀ q ∈ ([] : DL), 1 ≤ q.2 := fun q hq => by cases hq
      have hle := addAll_le [] (L.take j) List.Pairwise.nil hpos0 (fun q hq => HL.out.1.inv.pos q (List.mem_of_mem_take hq)) y.1
      have ht1 := total_take HL.out.1 j
      have ht2 := total_take HL.out.1 (j + 1)
      have htk := take_more hy
      have hts : total (L.take (j + 1)) = total (L.take j) + y.2 := by rw [htk, total_app]; simp [total, csum]
      have ht0 : total ([] : DL) = 0 := rfl
      have hln := addAll_len (L.take j) []
      have hmm := HL.out.2.1
      have hy1 := hok.2.1
      have KA := Lib.hid (fun (W : World) (hb : Below wr.heap.size wr W) => add_at (w := W) (T := T3) (i := i) (p := p) (k := k) (n := total (L.take j)) (L := addAll [] (L.take j)) (b := b3)
        ⟨(hb.block p (lt_of_heap hd3.head)).trans hd3.head, hd3.tp, hd3.map.of_block (hb.block b3 hd3.map.lt), hd3.tb⟩ (id := y.1) (c := y.2) hkin (by unfold InI; omega) (by unfold InI; omega) (by rw [List.length_take] at hln; simp at hln; unfold maxLen; omega))
      have HNX : Hid (∀ W w5, Below wr.heap.size wr W → Goes T3 i W (Dl p k (total (L.take j) + y.2) (putD y.1 (dcnt (addAll [] (L.take j)) y.1 + y.2) (addAll [] (L.take j)))) w5 → Goes T i w (Dl p k (total (L.take (j + 1))) (addAll [] (L.take (j + 1)))) w5) := Lib.hid fun W w5 hb hG => by
        rw [hts, htk, addAll_snoc]
        exact Goes.after n3 e3 (Goes.after (T1 := T3) (fun _ _ => rfl) (Else.of_below hb) hG)
      obtain ⟨nl, hnle⟩ : ∃ nl, (nodeB y).length = nl := ⟨_, rfl⟩
      rw [hnle] at KN hon hnp hbl hnl
      obtain ⟨lv, hlv⟩ : ∃ lv : Int, ((y.1 / 18446744073709551616 : Nat) : Int) = lv := ⟨_, rfl⟩
      obtain ⟨pr, hpr⟩ : ∃ pr : Int, ((y.1 % 18446744073709551616 : Nat) : Int) = pr := ⟨_, rfl⟩
      obtain ⟨cn, hcn⟩ : ∃ cn : Int, y.2 = cn := ⟨_, rfl⟩
      rw [kV_form2, hlv, hpr] at KA
      rw [hcn] at KA HNX KN
      rw [hlv, hpr] at KN
      have v0 : ¬ bc = U := by omega
      have v1 : (U : Int) ≤ (bn : Int) := by omega
      have v2 : U ≤ bn := by omega
      have v3 : (bn : Int) ≤ (bc : Int) := by omega
      have n0 : ((nl : Int) == (0 : Int)) = false := by simp; omega
      have n1 : (nl == 0) = false := by simp; omega
      have wU : IntKind.i64.wrap ((U : Int) + (nl : Int)) = ((U + nl : Nat) : Int) := by rw [IntKind.wrap_i64]; omega
      have hw64 : IntKind.u64.wrap ((j : Int) + 1) = (j : Int) + 1 := by rw [IntKind.wrap_u64]; omega
      have HU2 : Hid (U + nl = offD L (j + 1)) := Lib.hid hon.symm
      have hU2 : U + nl ≤ 40000 + 30 := by omega
      have hBN : bn ≤ 100000 ∧ U + nl ≤ bn := ⟨hbn, by omega⟩
      have HBN := Lib.hid hBN
      have KPL := Lib.hid (fun W => place_any lv pr cn W)
      clear hy hym hok hle40 hdr hon hbl e3 hd3 hBwr hHd hkin hpos0 hle ht1 ht2 htk hts ht0 hln hmm hy1 n3 hlv hpr hcn hnle HU HS hBN
      go_wp2_with fail
      refine KN.mono ?_
      rintro e w5 ⟨rfl, hb5⟩
      obtain ⟨X, hX⟩ : ∃ X, w5.alloc (.cells #[.int .i64 lv, .int .u64 pr, .int .i64 cn] 50) = X := ⟨_, rfl⟩
      have hbX : Below wr.heap.size wr X := by rw [← hX]; exact hb5.alloc hb5.size _
      obtain ⟨G, hG⟩ : ∃ G, w5.heap.size = G := ⟨_, rfl⟩
      have hxX : X.heap[G]? = some (.cells #[.int .i64 lv, .int .u64 pr, .int .i64 cn] 50 (0, 0)) := by rw [← hX, ← hG]; exact heap_alloc_new _ _
      have f0 : X.cell? ⟨G, 0, none⟩ = some (.int .i64 lv) := by rw [cell_of_row _ _ _ _ _ _ hxX]; rfl
      have f1 : X.cell? ⟨G, 1, none⟩ = some (.int .u64 pr) := by rw [cell_of_row _ _ _ _ _ _ hxX]; rfl
      have f2 : X.cell? ⟨G, 2, none⟩ = some (.int .i64 cn) := by rw [cell_of_row _ _ _ _ _ _ hxX]; rfl
      have HBX := Lib.hid hbX
      clear KN hb5 hbX hxX
      go_wp2_with fail
      (try rw [hG])
      (try rw [hX])
      clear hX
      refine wp_region_mix (fun V => V.cell? ⟨G, 0, none⟩ = some (.int .i64 lv) ∧ V.cell? ⟨G, 1, none⟩ = some (.int .u64 pr) ∧ V.cell? ⟨G, 2, none⟩ = some (.int .i64 cn)) 5 [(true, 0), (true, 1), (true, 3), (true, 4), (false, 2), (false, 5)] (by kernel_rfl) (by decide +kernel) rfl (by decide +kernel) ⟨f0, f1, f2⟩ ?_
      iterate 4
        refine wpMix_take (v := ?_) rfl rfl ?_ ?_
        rotate_left
        · (intro W hW; (try dsimp only at hW); go_simp) <;> with_reducible rfl
        simp only [Act.put, List.setIfInBounds_toArray, List.set_cons_zero, List.set_cons_succ]
      refine wpMix_run rfl ?_
      intro K hK
      go_wp2_with fail
      refine (KPL.out _).mono ?_
      rintro e w6 ⟨rfl, os', hw6⟩
      have hb6 : Below X.heap.size X w6 := by rw [hw6]; exact ⟨rfl, rfl, rfl, by rw [size_grow]; exact Nat.le_add_right _ _, fun k hk => heap_grow_old _ _ hk⟩
      have q0 : w6.cell? ⟨G, 0, none⟩ = some (.int .i64 lv) := by rw [hb6.cell (lt_of_cell f0)]; exact f0
      have q1 : w6.cell? ⟨G, 1, none⟩ = some (.int .u64 pr) := by rw [hb6.cell (lt_of_cell f1)]; exact f1
      have q2 : w6.cell? ⟨G, 2, none⟩ = some (.int .i64 cn) := by rw [hb6.cell (lt_of_cell f2)]; exact f2
      have hbw6 : Below wr.heap.size wr w6 := HBX.out.trans (hb6.mono HBX.out.size)
      have K6 := KA.out w6 hbw6
      have HB6 := Lib.hid hbw6
      clear hw6 hb6 f0 f1 f2 KA KPL hbw6
      go_wp2_with fail
      refine hK.out _ _ (fun _ => ⟨q0, q1, q2⟩) ?_
      clear hK K q0 q1 q2
      refine wpMix_run rfl ?_
      intro K hK
      go_wp2_with fail
      refine K6.mono ?_
      rintro e w7 ⟨rfl, HG7⟩
      have HN7 := Lib.hid (HNX.out w6 w7 HB6.out HG7.out)
      clear K6 HG7 HNX HB6
      go_wp2_with fail
      refine hK.out _ _ (fun h => absurd rfl h) ?_
      clear hK K
      refine wpMix_nil ?_
      have hU4 : U + nl ≤ 40000 := by
        have e1 := bytesD_len (L := L) (fun q hq => node_ok HL.out.1 (by have := HL.out.2.1; omega) hq) (by omega)
        have e2 : offD L (j + 1) ≤ (bytesD L).length := by
          unfold offD bytesD
          rw [List.length_append]
          have : nodesB L = nodesB (L.take (j + 1)) ++ nodesB (L.drop (j + 1)) := by rw [← nodesB_append, List.take_append_drop]
          rw [this, List.length_append]
          omega
        have := HU2.out
        omega
      go_wp2_with fail
      go_roundw
      case rel => exact ⟨U + nl, j + 1, rfl, by go_num, hlt, hU4, HU2, HN7⟩
      case measure => simp [intOf]; omega
    · obtain rfl : j = L.length := by omega
      have hz : ¬ (L.length : Int) < (L.length : Int) := by omega
      have HF : Hid (Goes T i w (Dl p k m L) wr) := Lib.hid (by
        have h1 := HS.out
        rw [List.take_length, addAll_nil HL.out.1, show total L = m from HL.out.1.inv.sum] at h1
        exact h1)
      clear HS HU
      go_wp2_with fail
      go_end0
      exact ⟨rfl, HF⟩
end Go.Proofs.Ytahaoodklfmddaa
/- Contract of digest's Load at a digest's bytes, and at those with more behind. Conditions: counts that Load takes. -/
set_option maxRecDepth 100000
namespace Go.Proofs.Ytahaoodklfmddaa
open Go.RowKit Go.Maps Go.Sort Go.Shelf

theorem dequal_any {w : World} {v1 v2 : Value} {l1 l2 : List UInt8} (h1 : Holds w v1 (u8s l1)) (h2 : Holds w v2 (u8s l2)) :
    Calls Try.prog 41 #[v1, v2] w fun e w' => e = .returned (.bool (decide (l1 = l2))) ∧ w = w' := by
  refine (Try.bytes_Equal_strs v1 v2 _ _ w (toStr h1) (toStr h2)).mono ?_
  rintro e w' ⟨rfl, rfl⟩
  refine ⟨ret_bool ?_, rfl⟩
  rw [Bool.eq_iff_iff]
  simp [Lib.toList_data]
/-- what Load leaves -/
def DLoadAt (W w0 : World) (E : List (Nat × Thing)) (i k m : Nat) (L : DL) (tail : List UInt8) (e : Ending) (w' : World) : Prop :=
  ((tail = [] ∧ ∃ p, e = .returned (.tuple #[.pointer (some ⟨p, 0, none⟩), .int .i64 0]) ∧ Side w0 ((i, Df p k m L) :: E) w') ∨ (tail ≠ [] ∧ e = .returned (.tuple #[.pointer none, .int .i64 8]) ∧ Side w0 E w')) ∧ Below W.heap.size W w'
theorem rest_ok {k m : Nat} {L : DL} (hR : Rest k m L) : L.length ≤ 1000 ∧ ∀ q ∈ L, NodeOk q :=
  ⟨by have := hR.len; have := hR.k64; omega, fun q hq => node_ok hR.inv hR.n50 hq⟩

set_option maxHeartbeats 3200000 in
theorem dload_any {w0 W : World} {E : List (Nat × Thing)} (h : Side w0 E W) (i : Nat) {k m : Nat} {L : DL} (hR : Rest k m L) (hm : m ≤ 1099511627776)
    {ad : Addr} {bn bc : Nat} {tail : List UInt8} (hH : Holds W (.slice (some ad) bn bc) (u8s (bytesD L ++ tail))) (hbn : bn ≤ 100000) :
    Calls Try.prog 19 #[.int .i64 k, .slice (some ad) bn bc] W (DLoadAt W w0 E i k m L tail) := by
  obtain ⟨T, hT⟩ := h
  have KN := new_at (w := W) hR.k1 hR.k64
  obtain ⟨w1, hw1⟩ : ∃ w1, (W.alloc (.map #[] 0)).alloc (.cells #[.int .i64 k, .int .i64 0, .map (some W.heap.size)] 62) = w1 := ⟨_, rfl⟩
  have hB1 : Below W.heap.size W w1 := by rw [← hw1]; exact ((Below.refl _ W).alloc (Nat.le_refl _) _).alloc (by simp) _
  obtain ⟨T0, hT0⟩ : ∃ T0 : Tags, T0 = fun x => if x < W.heap.size then none else some i := ⟨_, rfl⟩
  have hk1 : DkAt T0 i w1 (W.heap.size + 1) k 0 W.heap.size [] := by
    rw [← hw1, hT0]
    refine ⟨?_, by simp, ?_, by simp⟩
    · have := heap_alloc_new (W.alloc (.map #[] 0)) (.cells #[.int .i64 k, .int .i64 0, .map (some W.heap.size)] 62)
      rw [World.size_alloc] at this
      exact this
    · exact (PAt.made W).of_block (heap_alloc_old _ _ (by simp))
  have hTw : ∀ g, T0 g = some i → W.heap.size ≤ g := fun g hg => Nat.le_of_not_lt fun hl => by
    rw [hT0] at hg
    simp only at hg
    rw [if_pos hl] at hg
    cases hg
  rw [hw1] at KN
  have KR := dread_at hk1 hTw hB1 hR.k1 hR.k64 hR.inv hm hR.len hH hbn
  have HT := Lib.hid hT
  have HRs := Lib.hid hR
  have HH := Lib.hid hH
  have HTW := Lib.hid (And.intro hTw (And.intro hB1 hT0))
  clear hw1 hB1 hk1 hT hR hm hH hTw
  go_enter Try.func19, Try.ntmps19
  go_wp2_with fail
  refine KN.mono ?_
  rintro e w' ⟨rfl, rfl⟩
  clear KN
  go_wp2_with fail
  refine KR.mono ?_
  rintro e w2 ⟨rfl, hG⟩
  obtain ⟨T', n1, e1, b, hd⟩ := hG.out
  obtain ⟨T2, hT2⟩ : ∃ T2 : Tags, T2 = fun x => if x < W.heap.size then T x else T' x := ⟨_, rfl⟩
  have hlow : ∀ x, x < W.heap.size → T' x = none := fun x hx => by
    rw [n1 x (Nat.lt_of_lt_of_le hx HTW.out.2.1.size), HTW.out.2.2]
    simp only
    rw [if_pos hx]
  have hb2 : W.heap.size ≤ b := Nat.le_of_not_lt fun hl => by have := hd.tb; rw [hlow b hl] at this; cases this
  have hd2 : DkAt T2 i w2 (W.heap.size + 1) k m b L := by
    rw [hT2]
    exact ⟨hd.head, by rw [if_neg (by omega)]; exact hd.tp, hd.map, by rw [if_neg (by omega)]; exact hd.tb⟩
  have hN2 : Next T W T2 := fun x hx => by rw [hT2]; simp only; rw [if_pos hx]
  have hBW2 : Below W.heap.size W w2 := HTW.out.2.1.trans (e1.below HTW.out.2.1.size (fun g hg => HTW.out.1 g hg))
  obtain ⟨p, hp⟩ : ∃ p, W.heap.size + 1 = p := ⟨_, rfl⟩
  rw [hp] at hd2
  (try rw [hp])
  have KB := dbytes_at hd2 HRs.out.k1 (rest_ok HRs.out).1 (rest_ok HRs.out).2
  have HD2 := Lib.hid hd2
  have HN2 := Lib.hid (And.intro hN2 hBW2)
  clear KR hG n1 e1 hd hlow hb2 hd2 hN2 hBW2 hT2 hp
  go_wp2_with fail
  refine KB.mono ?_
  rintro e w3 ⟨v, rfl, ho, hb⟩
  have HB3 := Lib.hid (HN2.out.2.trans (hb.mono HN2.out.2.size))
  have HS : Hid (Side w0 ((i, Df p k m L) :: E) w3) := Lib.hid (Side.add HT.out HN2.out.1 HB3.out (Df.framed p k m L) ⟨b, ⟨(hb.block p (lt_of_heap HD2.out.head)).trans HD2.out.head, HD2.out.tp, HD2.out.map.of_block (hb.block b HD2.out.map.lt), HD2.out.tb⟩, HRs.out⟩)
  have HSE : Hid (Side w0 E w3) := Lib.hid (HS.out.sub fun x hx => List.mem_cons_of_mem _ hx)
  have KE := dequal_any (Holds.of_row (by rw [u8s_len]; exact ho)) (HH.out.below HB3.out)
  clear KB ho hb HD2 HN2
  by_cases ht : tail = []
  · have e1 : decide (bytesD L = bytesD L ++ tail) = true := decide_eq_true (by rw [ht]; simp)
    rw [e1] at KE
    have HP : Hid (DLoadAt W w0 E i k m L tail (.returned (.tuple #[.pointer (some ⟨p, 0, none⟩), .int .i64 0])) w3) := Lib.hid ⟨.inl ⟨ht, p, rfl, HS.out⟩, HB3.out⟩
    clear e1 ht HS HSE HB3
    go_wp2_with fail
    refine KE.mono ?_
    rintro e w4 ⟨rfl, rfl⟩
    clear KE
    go_wp2_with fail
    refine bodyPost_ret (v := .tuple #[.pointer (some ⟨p, 0, none⟩), .int .i64 0]) (by simp [results, Try.results19, go_sem]) rfl ?_
    exact HP.out
  · have e1 : decide (bytesD L = bytesD L ++ tail) = false := decide_eq_false (fun e => ht (by simpa using e))
    rw [e1] at KE
    have HP : Hid (DLoadAt W w0 E i k m L tail (.returned (.tuple #[.pointer none, .int .i64 8])) w3) := Lib.hid ⟨.inr ⟨ht, rfl, HSE.out⟩, HB3.out⟩
    clear e1 ht HS HSE HB3
    go_wp2_with fail
    refine KE.mono ?_
    rintro e w4 ⟨rfl, rfl⟩
    clear KE
    go_wp2_with fail
    refine bodyPost_ret (v := .tuple #[.pointer none, .int .i64 8]) (by simp [results, Try.results19, go_sem]) rfl ?_
    exact HP.out
/-- Bytes of a digest beside other things -/
theorem side_dbytes {w0 w : World} {E : List (Nat × Thing)} {i p k n : Nat} {L : DL} (h : Side w0 E w) (hx : (i, Df p k n L) ∈ E) :
    Calls Try.prog 20 #[.pointer (some ⟨p, 0, none⟩)] w (BytesAtD w (bytesD L)) := by
  obtain ⟨T, b, hA, hR⟩ := side_thing h hx
  exact dbytes_at hA hR.k1 (rest_ok hR).1 (rest_ok hR).2
/-- what fit makes of these nodes -/
def FitR (k n : Nat) (L A : DL) : Prop := (L.length ≤ 3 * k + 64 → A = L) ∧ (3 * k + 64 < L.length → FitL ((n / k : Nat) : Int) L A)
theorem FitR.one {k n : Nat} {L A B : DL} (hI : LInv n L) (h : FitR k n L A) (g : FitR k n L B) : A = B := by
  by_cases hl : L.length ≤ 3 * k + 64
  · rw [h.1 hl, g.1 hl]
  · exact fit_det (h.2 (by omega)) hI B (g.2 (by omega))
/-- a digest at rest, made of these nodes by fit -/
def Dg (p k n : Nat) (L0 : DL) : Thing := fun T i w => ∃ A, FitR k n L0 A ∧ Df p k n A T i w
theorem Dg.framed (p k n : Nat) (L0 : DL) : Framed (Dg p k n L0) := by
  rintro T T' i w w' ⟨A, hA, h⟩ hT hw
  exact ⟨A, hA, Df.framed p k n A T T' i w w' h hT hw⟩
theorem fitP_dg {T : Tags} {i : Nat} {w w' : World} {p k n : Nat} {L : DL} {e : Ending} (h : FitP T i w p k n L e w') (hI : LInv n L) (h1 : 1 ≤ k) (h2 : k ≤ 64) (h3 : n ≤ 1125899906842624) : Goes T i w (Dg p k n L) w' := by
  obtain ⟨rfl, L', f1, f2, f3, T', n1, e1, b, hd⟩ := h
  refine ⟨T', n1, e1, L', ⟨f1, f2⟩, b, hd, ⟨h1, h2, h3, f3, ?_⟩⟩
  by_cases hl : L.length ≤ 3 * k + 64
  · rw [f1 hl]
    exact hl
  · have := fit_end (f2 (by omega)) hI
    exact few_nodes this.1 h1 h2 this.2
theorem side_gins {w0 w : World} {E : List (Nat × Thing)} {i p k n : Nat} {L : DL} (h : Side w0 ((i, Df p k n L) :: E) w) (hi : ∀ e ∈ E, e.1 ≠ i) {x : Nat} (hx : x < 18446744073709551616) (hn : n < 1125899906842624) :
    Calls Try.prog 9 #[.pointer (some ⟨p, 0, none⟩), .int .u64 (x : Int)] w fun e w' => e = .returned (.tuple #[]) ∧ Hid (Side w0 ((i, Dg p k (n + 1) (putD x (dcnt L x + 1) L)) :: E) w') :=
  (h.step hi (Dg.framed p k (n + 1) (putD x (dcnt L x + 1) L)) (Pr := fun e => e = .returned (.tuple #[])) fun _ _ hA => by
    obtain ⟨b, hd, hR⟩ := hA _ (List.mem_cons_self ..)
    have hl : L.length < 100000 := by have := hR.len; have := hR.k64; omega
    exact (ins_at hd hR.k1 hR.k64 hR.inv hn hl x hx).mono fun e w' h => ⟨h.1, fitP_dg h (hR.inv.ins hx hl) hR.k1 hR.k64 hn⟩).mono fun _ _ ⟨a, b⟩ => ⟨a, b⟩
/-- two digests that fit made of the same nodes are the same -/
theorem side_gfix {w0 w : World} {p q k n : Nat} {L0 : DL} (hI : LInv n L0) (h : Side w0 [(1, Dg p k n L0), (2, Dg q k n L0)] w) : ∃ A, Rest k n A ∧ Side w0 [(1, Df p k n A), (2, Df q k n A)] w := by
  obtain ⟨T, h⟩ := h
  obtain ⟨_, A, hA, hd⟩ := h.at_ (1, Dg p k n L0) (by simp)
  obtain ⟨_, B, hB, hd2⟩ := h.at_ (2, Dg q k n L0) (by simp)
  obtain rfl := FitR.one hI hA hB
  have hR : Rest k n A := by obtain ⟨b, _, hr⟩ := hd; exact hr
  refine ⟨A, hR, T, { h with at_ := fun e he => ?_ }⟩
  simp only [List.mem_cons, List.not_mem_nil, or_false] at he
  rcases he with rfl | rfl
  · exact ⟨Df.framed p k n A, hd⟩
  · exact ⟨Df.framed q k n A, hd2⟩
end Go.Proofs.Ytahaoodklfmddaa
/- The walk of DigestBack. Conditions: lists that may lie in memory. -/
set_option maxRecDepth 100000
namespace Go.Proofs.Ytahaoodklfmddaa
open Go.RowKit Go.Maps Go.Sort Go.Shelf

theorem take_words {w : World} {a : Option Addr} {len cap : Nat} {l : List UInt64} (hv : Holds w (.slice a len cap) (u64s l)) (hl : l.length = len) :
    Hid (∀ (W : World), Below w.heap.size w W → ∀ m, m < len → ∃ (x : Nat) (ad : Addr), x < 18446744073709551616 ∧ a = some ad ∧ W.cell? (ad.add m) = some (.int .u64 (x : Int))) := Lib.hid fun W hb m hm => by
  obtain ⟨ad, rfl⟩ := hv.ptr (by omega)
  have hml : m < l.length := by omega
  refine ⟨l[m].toNat, ad, l[m].toNat_lt, rfl, (hv.below hb).cell ?_⟩
  unfold u64s
  rw [List.getElem?_map, List.getElem?_eq_getElem hml]
  rfl
/-- a byte 0 behind bytes of one's own -/
theorem push_zero {w wr : World} {v : Value} {xs : List UInt8} (ho : wr.ownsRow w.heap.size 5 1 v xs.length (u8s xs)) (hb : Below w.heap.size w wr) (hl : xs.length ≤ 1000000) :
    ∃ v' w4, Hid (∀ ty, (Builtin.append_ #[56, 56] ty #[v, .slice (some ⟨wr.heap.size, 0, none⟩) 1 1]).run Try.prog (wr.alloc (.cells #[.int .u8 0] 5)) = .ok v' w4) ∧ Hid (w4.ownsRow w.heap.size 5 1 v' (xs ++ [0]).length (u8s (xs ++ [0])) ∧ Below w.heap.size w w4) := by
  have hb1 := hb.alloc hb.size (.cells #[.int .u8 0] 5)
  obtain ⟨v', w4, r, o, gr, _⟩ := app8 (World.ownsRow.alloc ho (.cells #[.int .u8 0] 5)) hb1.size (holds_one8 wr 0 0 rfl) (by simp; omega)
  exact ⟨v', w4, Lib.hid r, Lib.hid ⟨o, hb1.trans (below_grown gr hb1.size (fun x hx => ownsRow_ge ho x hx))⟩⟩

set_option maxHeartbeats 12800000 in
theorem back_walk {w : World} (n : Nat) {a a2 : Option Addr} {len cap len2 cap2 : Nat} {l l2 : List UInt64} (hv : Holds w (.slice a len cap) (u64s l)) (hl : l.length = len) (hv2 : Holds w (.slice a2 len2 cap2) (u64s l2)) (hl2 : l2.length = len2) (hb1 : len ≤ 17592186044416) (hb2 : len2 ≤ 17592186044416) :
    Calls Try.prog 5 #[.int .u64 (n : Int), .slice a len cap, .slice a2 len2 cap2] w fun e w' => e = .returned (.bool true) ∧ Below w.heap.size w w' := by
  have KL := lives_any
  obtain ⟨k, hk⟩ : ∃ k, n % 64 + 1 = k := ⟨_, rfl⟩
  obtain ⟨M, hM⟩ : ∃ M, n % 64 = M := ⟨_, rfl⟩
  have hkM : k = M + 1 := by omega
  have hk64 : k ≤ 64 := by omega
  have mM : (n : Int).tmod 64 = (M : Int) := by rw [Int.tmod_eq_emod_of_nonneg (by omega)]; omega
  have mM2 : (n : Int) % 64 = (M : Int) := by omega
  have wM : IntKind.i64.wrap (M : Int) = (M : Int) := by rw [IntKind.wrap_i64]; omega
  have wk : IntKind.i64.wrap (1 + (M : Int)) = (k : Int) := by rw [IntKind.wrap_i64]; omega
  have wk2 : IntKind.i64.wrap ((M : Int) + 1) = (k : Int) := by rw [IntKind.wrap_i64]; omega
  have KN := side_dnew (Side.nil w) 1 (k := k) (by omega) hk64
  have HC := take_words hv hl
  have HC2 := take_words hv2 hl2
  have hcap : len ≤ cap := hv.len.2
  have hcap2 : len2 ≤ cap2 := hv2.len.2
  have HKK := Lib.hid hkM.symm
  obtain ⟨Sm, hSm⟩ : ∃ Sm, len + len2 = Sm := ⟨_, rfl⟩
  have wS : IntKind.i64.wrap ((len : Int) + (len2 : Int)) = (Sm : Int) := by rw [IntKind.wrap_i64]; omega
  have HSM := Lib.hid hSm
  clear hv hl hv2 hl2 hM hkM hk hb1 hb2 hSm
  by_cases hlk : 200 < Sm
  · have t0 : decide ((200 : Int) < (Sm : Int)) = true := decide_eq_true (by omega)
    have t1 : decide (200 < Sm) = true := decide_eq_true hlk
    clear hlk HC HC2 hcap hcap2
    go_enter Try.func5, Try.ntmps5
    go_wp2_with fail
    refine KN.mono ?_
    rintro e w1 ⟨p, rfl, h1⟩
    clear KN
    go_wp2_with fail
    refine (KL _).mono ?_
    rintro e w' ⟨rfl, hb⟩
    have FB := Lib.hid (h1.out.base.trans (hb.mono h1.out.base.size))
    clear h1 hb
    go_wp2_with fail
    go_ret
    exact ⟨rfl, FB.out⟩
  have t0 : decide ((200 : Int) < (Sm : Int)) = false := decide_eq_false (by omega)
  have t1 : decide (200 < Sm) = false := decide_eq_false hlk
  have HLK := Lib.hid (show len ≤ 200 ∧ len2 ≤ 200 ∧ len + len2 ≤ 200 by have := HSM.out; omega)
  have HK := Lib.hid (show 1 ≤ k ∧ k ≤ 64 from ⟨by rw [← HKK.out]; omega, hk64⟩)
  clear hlk hk64
  go_enter Try.func5, Try.ntmps5
  go_wp2_with fail
  refine KN.mono ?_
  rintro e w1 ⟨p, rfl, h1⟩
  clear KN
  go_wp2_with fail
  clear t0 t1 mM mM2 wM wk wk2 wS
  go_loopw [40] (fun s wr => ∃ m : Nat, s = .int .i64 m ∧ m ≤ len ∧ Hid (Side w [(1, Dx p k m)] wr)) (fun s _ => len - (intOf s).toNat)
  case atStart => exact ⟨0, rfl, Nat.zero_le _, Lib.hid (side_fine h1.out HK.out.1 HK.out.2)⟩
  case round =>
    obtain ⟨m, rfl, hm, HS⟩ := hrel
    by_cases hlt : m < len
    · have hS := HS.out
      obtain ⟨x, ad, hxx, rfl, d0⟩ := HC.out wr hS.base m hlt
      have KI := side_xins hS hxx (by have := HLK.out; omega)
      have hw64 := wi_small hlt (by have := HLK.out; omega)
      have b0 : (0 : Int) ≤ (m : Int) := Int.natCast_nonneg m
      have b1 : (m : Int) < (len : Int) := Int.ofNat_lt.2 hlt
      clear hS HS h1 hxx
      go_wp2_with fail
      refine KI.mono ?_
      rintro e w2 ⟨rfl, S2⟩
      clear KI
      go_wp2_with fail
      go_roundw
      case rel => exact ⟨m + 1, by go_num, hlt, S2⟩
      case measure => simp [intOf]; omega
    · obtain ⟨L, hR, hS⟩ := side_fix HS.out
      obtain rfl : m = len := by omega
      have KB := side_dbytes hS (i := 1) (p := p) (k := k) (n := m) (L := L) (by simp)
      have HR := Lib.hid hR
      have HS0 := Lib.hid hS
      clear HS hR hS h1 hm
      go_wp2_with fail
      refine KB.mono ?_
      rintro e w3 ⟨v3, rfl, ho3, hb3⟩
      have S3 := HS0.out.below hb3
      have hbl := bytesD_len (rest_ok HR.out).2 (rest_ok HR.out).1
      have hnz : 0 < (bytesD L).length := by unfold bytesD; rw [List.length_append]; have := dig_pos L.length; omega
      obtain ⟨a3, c3, rfl, _⟩ := ownsRow_form ho3
      have hH3 : Holds w3 (.slice a3 (bytesD L).length c3) (u8s (bytesD L ++ [])) := by rw [List.append_nil]; exact Holds.of_row (by rw [u8s_len]; exact ho3)
      obtain ⟨ad3, rfl⟩ := hH3.ptr hnz
      have KLd := dload_any S3 2 HR.out (by have := HLK.out; omega) hH3 (by omega)
      obtain ⟨nb, hnb⟩ : ∃ nb, (bytesD L).length = nb := ⟨_, rfl⟩
      rw [hnb] at KLd
      (try rw [hnb])
      clear KB ho3 hb3 S3 hbl hnz hH3 hnb
      go_wp2_with fail
      refine KLd.mono ?_
      rintro e w4 ⟨hcase, hb4⟩
      obtain ⟨q, rfl, S4⟩ : ∃ q, e = .returned (.tuple #[.pointer (some ⟨q, 0, none⟩), .int .i64 0]) ∧ Side w ((2, Df q k m L) :: [(1, Df p k m L)]) w4 := by
        rcases hcase with ⟨_, q, h1, h2⟩ | ⟨hne, _, _⟩
        · exact ⟨q, h1, h2⟩
        · exact absurd rfl hne
      clear hcase
      have KCnt := side_fcount S4 (i := 2) (p := q) (k := k) (n := m) (L := L) (by simp)
      have m0 : ((m : Int) != (m : Int)) = false := by simp
      have HS4 : Hid (Side w [(1, Df p k m L), (2, Df q k m L)] w4) := Lib.hid (S4.sub (by simp))
      clear KLd hb4 S4 HS0
      go_wp2_with fail
      refine KCnt.mono ?_
      rintro e w5 ⟨rfl, rfl⟩
      clear KCnt
      obtain ⟨V0, rfl⟩ : ∃ x, x = wr := ⟨_, rfl⟩
      go_wp2_with fail
      go_loopw [70] (fun s wq => ∃ (j : Nat) (A : DL), s = .int .i64 j ∧ j ≤ len2 ∧ Hid (Rest k (m + j) A) ∧ Hid (Side w [(1, Df p k (m + j) A), (2, Df q k (m + j) A)] wq)) (fun s _ => len2 - (intOf s).toNat)
      case atStart => exact ⟨0, L, rfl, Nat.zero_le _, HR, HS4⟩
      case round =>
        clear HR HS4
        obtain ⟨j, A, rfl, hj, HR, HS⟩ := hrel
        by_cases hlt2 : j < len2
        · have hS := HS.out
          obtain ⟨x, ad, hxx, rfl, d0⟩ := HC2.out wr hS.base j hlt2
          have KI := side_gins hS (by simp) hxx (by have := HLK.out; omega)
          have hw64 := wi_small hlt2 (by have := HLK.out; omega)
          have b0 : (0 : Int) ≤ (j : Int) := Int.natCast_nonneg j
          have b1 : (j : Int) < (len2 : Int) := Int.ofNat_lt.2 hlt2
          have HXX := Lib.hid hxx
          have HINV : Hid (LInv (m + j + 1) (putD x (dcnt A x + 1) A)) := Lib.hid (HR.out.inv.ins hxx (by have := (rest_ok HR.out).1; omega))
          clear hS HS hxx
          go_wp2_with fail
          refine KI.mono ?_
          rintro e w6 ⟨rfl, S6⟩
          have S6' : Side w [(2, Df q k (m + j) A), (1, Dg p k (m + j + 1) (putD x (dcnt A x + 1) A))] w6 := S6.out.sub (by simp)
          have KI2 := side_gins S6' (by simp) HXX.out (by have := HLK.out; omega)
          clear KI S6 S6'
          go_wp2_with fail
          refine KI2.mono ?_
          rintro e w7 ⟨rfl, S7⟩
          obtain ⟨A2, hR2, hS2⟩ := side_gfix HINV.out (S7.out.sub (E' := [(1, Dg p k (m + j + 1) (putD x (dcnt A x + 1) A)), (2, Dg q k (m + j + 1) (putD x (dcnt A x + 1) A))]) (by simp))
          have HN := Lib.hid hS2
          have HRN := Lib.hid hR2
          clear KI2 S7 hR2 hS2 HINV HXX HR
          go_wp2_with fail
          go_roundw
          case rel => exact ⟨j + 1, A2, by go_num, hlt2, HRN, HN⟩
          case measure => simp [intOf]; omega
        · obtain rfl : j = len2 := by omega
          have KB := side_dbytes HS.out (i := 1) (p := p) (k := k) (n := m + j) (L := A) (by simp)
          clear hj
          go_wp2_with fail
          refine KB.mono ?_
          rintro e w6 ⟨v6, rfl, ho6, hb6⟩
          have hbl := bytesD_len (rest_ok HR.out).2 (rest_ok HR.out).1
          obtain ⟨v7, w7, r7, o7⟩ := push_zero ho6 hb6 (by omega)
          obtain ⟨nb, hnb⟩ : ∃ nb, (bytesD A).length = nb := ⟨_, rfl⟩
          obtain ⟨a6, c6, hv6, _⟩ := ownsRow_form ho6
          rw [hnb] at hv6
          subst hv6
          have S7 := HS.out.below o7.out.2
          obtain ⟨a7, c7, rfl, _⟩ := ownsRow_form o7.out.1
          have hH7 : Holds w7 (.slice a7 (bytesD A ++ [0]).length c7) (u8s (bytesD A ++ [0])) := Holds.of_row (by rw [u8s_len]; exact o7.out.1)
          obtain ⟨ad7, rfl⟩ := hH7.ptr (by simp)
          have KLd := dload_any S7 3 HR.out (by have := HLK.out; omega) hH7 (by rw [List.length_append]; simp; omega)
          obtain ⟨nb7, hnb7⟩ : ∃ nb7, (bytesD A ++ [0]).length = nb7 := ⟨_, rfl⟩
          rw [hnb7] at KLd r7
          clear KB ho6 hb6 hbl S7 hH7 o7 hnb hnb7
          go_wp2_with (at_builtin; refine wpList_append_run rfl _ _ 56 rfl rfl rfl (r7.out _) ?_)
          refine KLd.mono ?_
          rintro e w8 ⟨hcase, hb8⟩
          obtain ⟨rfl, S8⟩ : e = .returned (.tuple #[.pointer none, .int .i64 8]) ∧ Side w [(1, Df p k (m + j) A), (2, Df q k (m + j) A)] w8 := by
            rcases hcase with ⟨hne, _⟩ | ⟨_, h1, h2⟩
            · cases hne
            · exact ⟨h1, h2⟩
          clear hcase
          have KB1 := side_dbytes S8 (i := 1) (p := p) (k := k) (n := m + j) (L := A) (by simp)
          have HS8 := Lib.hid S8
          clear KLd hb8 S8 HS r7
          go_wp2_with fail
          refine KB1.mono ?_
          rintro e w9 ⟨v9, rfl, ho9, hb9⟩
          have KB2 := side_dbytes (HS8.out.below hb9) (i := 2) (p := q) (k := k) (n := m + j) (L := A) (by simp)
          have H9 := Lib.hid (And.intro ho9 hb9)
          clear KB1 ho9 hb9
          go_wp2_with fail
          refine KB2.mono ?_
          rintro e w10 ⟨v10, rfl, ho10, hb10⟩
          have KSm := Same_any (Holds.of_row (by rw [u8s_len]; exact ownsRow_below H9.out.1 hb10)) (Holds.of_row (by rw [u8s_len]; exact ho10))
          rw [decide_eq_true rfl] at KSm
          have FB := Lib.hid ((HS8.out.below H9.out.2).below hb10).base
          clear KB2 ho10 hb10 HS8 H9
          go_wp2_with fail
          refine KSm.mono ?_
          rintro e w11 ⟨rfl, rfl⟩
          clear KSm
          go_wp2_with fail
          refine (KL _).mono ?_
          rintro e w' ⟨rfl, hb⟩
          have FB2 := Lib.hid (FB.out.trans (hb.mono FB.out.size))
          clear hb FB
          go_wp2_with fail
          go_ret
          exact ⟨rfl, FB2.out⟩
end Go.Proofs.Ytahaoodklfmddaa
