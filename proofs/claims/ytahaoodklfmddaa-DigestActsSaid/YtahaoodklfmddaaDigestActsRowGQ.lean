/- The texts RqBytes RqAlike, one behind the other; each one's own comment says what it holds. -/
import Derived.Test.YtahaoodklfmddaaDigestActsRowGP
import Derived.Test.YtahaoodklfmddaaDigestActsRowGJ
import Derived.Test.YtahaoodklfmddaaDigestActsRowGA
import Derived.Test.YtahaoodklfmddaaDigestActsRowGO
/- The document's digest: Bytes; Rank of numbers that are none. Conditions: a digest that was made. -/
set_option maxRecDepth 100000
namespace Go.Proofs.Ytahaoodklfmddaa
open Go.RowKit Go.Maps Go.Sort Go.Shelf

theorem rput_holds {w : World} {v : Value} {xs : List UInt8} (h : Holds w v (u8s xs)) (u : Nat) (hu : u < 18446744073709551616) (hx : xs.length ≤ 1000000) :
    Calls Try.prog 49 #[v, .int .u64 (u : Int)] w fun e w' => ∃ v', e = .returned v' ∧ Holds w' v' (u8s (xs ++ dig u)) ∧ Below w.heap.size w w' := by
  refine (refPut_any h u hu (by omega)).mono ?_
  rintro e w' ⟨v', rfl, ho, hb⟩
  refine ⟨v', rfl, Holds.of_row (e := 5) (base := w.heap.size) ?_, hb⟩
  rw [u8s_len]
  exact ho
def RBy (w : World) (L : DL) (j : Nat) (v : Value) (wr : World) : Prop := Holds wr v (u8s (dig L.length ++ nodesB (L.take j))) ∧ Below w.heap.size w wr
theorem rby_len {L : DL} (hN : ∀ q ∈ L, NodeOk q) (hl : L.length ≤ 1000) (j : Nat) : (dig L.length ++ nodesB (L.take j)).length ≤ 31000 := by
  have h1 := nodesB_len (L := L.take j) fun q hq => hN q (List.mem_of_mem_take hq)
  have h2 := dig_len10 (u := L.length) (by omega)
  rw [List.length_take] at h1
  rw [List.length_append]
  omega
set_option maxHeartbeats 6400000 in
theorem rqbytes_at {T : Tags} {i : Nat} {w : World} {p k : Nat} {n : Int} {v : Value} {L : DL} (h : RqAt T i w p k n v L) (hN : ∀ q ∈ L, NodeOk q) (hl : L.length ≤ 1000) :
    Calls Try.prog 30 #[.pointer (some ⟨p, 0, none⟩)] w fun e w' => ∃ v', e = .returned v' ∧ Holds w' v' (u8s (bytesD L)) ∧ Below w.heap.size w w' := by
  obtain ⟨c0, c1, c2, _⟩ := h.cells
  obtain ⟨a, cap, rfl, _⟩ := h.row.form
  have KP := rput_holds (w := w) (xs := []) (by simpa [u8s] using Holds.nil w) L.length (by omega) (by simp)
  rw [List.nil_append] at KP
  have wl : IntKind.u64.wrap (L.length : Int) = (L.length : Int) := by rw [IntKind.wrap_u64]; omega
  have hpl := lt_of_heap h.head
  have HP := Lib.hid hpl
  have HH := Lib.hid h
  have HL := Lib.hid hl
  have HN := Lib.hid hN
  clear h hN hl hpl c0 c2
  go_enter Try.func30, Try.ntmps30
  go_wp2_with fail
  refine KP.mono ?_
  rintro e w1 ⟨v1, rfl, hv1, hb1⟩
  have d1 : w1.cell? ⟨p, 1, none⟩ = some (.slice a L.length cap) := by rw [hb1.cell HP.out]; exact c1
  have X0 : Hid (RBy w L 0 v1 w1) := Lib.hid ⟨by simpa [nodesB] using hv1, hb1⟩
  clear KP hv1 hb1 c1 wl
  go_wp2_with fail
  clear d1
  go_loopw [3, 18] (fun s3 s18 wr => ∃ (v : Value) (j : Nat), v = s3 ∧ s18 = .int .i64 j ∧ j ≤ L.length ∧ Hid (RBy w L j v wr)) (fun _ s _ => L.length - (intOf s).toNat)
  case atStart => exact ⟨_, 0, rfl, rfl, Nat.zero_le _, X0⟩
  case round =>
    clear X0
    obtain ⟨v, j, rfl, rfl, hj, HS⟩ := hrel
    by_cases hlt : j < L.length
    · have hz : (j : Int) < (L.length : Int) := by omega
      obtain ⟨q, hq⟩ : ∃ q, L[j]? = some q := ⟨_, List.getElem?_eq_getElem hlt⟩
      obtain ⟨g, c', hv, hg, _, r0, r1, r2⟩ := HH.out.row.cell hq
      obtain ⟨rfl, rfl⟩ : a = some ⟨g, 0, none⟩ ∧ cap = c' := by injection hv with h1 _ h2; exact ⟨h1, h2⟩
      obtain ⟨hrow, hbw⟩ := HS.out
      have hok := HN.out q (List.mem_of_getElem? hq)
      have hwl := nodeW_lt hok
      have x0 : wr.cell? ⟨g, j * 3, none⟩ = some (.int .i64 ((q.1 / 18446744073709551616 : Nat) : Int)) := by rw [hbw.cell (World.block_lt_of_cell? w _ r0)]; exact r0
      have x1 : wr.cell? ⟨g, j * 3 + 1, none⟩ = some (.int .u64 ((q.1 % 18446744073709551616 : Nat) : Int)) := by rw [hbw.cell (World.block_lt_of_cell? w _ r1)]; exact r1
      have x2 : wr.cell? ⟨g, j * 3 + 2, none⟩ = some (.int .i64 q.2) := by rw [hbw.cell (World.block_lt_of_cell? w _ r2)]; exact r2
      have hw64 : IntKind.i64.wrap ((j : Int) + 1) = (j : Int) + 1 := by have := HL.out; rw [IntKind.wrap_i64]; omega
      have hsn : dig L.length ++ nodesB (L.take (j + 1)) = (((dig L.length ++ nodesB (L.take j)) ++ dig (q.1 / 18446744073709551616)) ++ dig (q.1 % 18446744073709551616)) ++ dig q.2.toNat := by
        rw [dtake_more hq, nodesB_append]
        simp [nodesB, nodeB, nodeW]
      have hle := rby_len HN.out HL.out j
      obtain ⟨B0, hB0⟩ : ∃ B0, dig L.length ++ nodesB (L.take j) = B0 := ⟨_, rfl⟩
      rw [hB0] at hrow hsn hle
      have hl1 := hwl (q.1 / 18446744073709551616) (by simp [nodeW])
      have hl2 := hwl (q.1 % 18446744073709551616) (by simp [nodeW])
      have hl3 := hwl q.2.toNat (by simp [nodeW])
      have h10 := dig_len10 hl1
      have h11 := dig_len10 hl2
      have hcn : ((q.2.toNat : Nat) : Int) = q.2 := by have := hok.2.1; omega
      obtain ⟨lv, hlv⟩ : ∃ lv : Nat, q.1 / 18446744073709551616 = lv := ⟨_, rfl⟩
      obtain ⟨pr, hpr⟩ : ∃ pr : Nat, q.1 % 18446744073709551616 = pr := ⟨_, rfl⟩
      obtain ⟨cn, hcnn⟩ : ∃ cn : Nat, q.2.toNat = cn := ⟨_, rfl⟩
      rw [hlv] at x0 hsn hl1 h10
      rw [hpr] at x1 hsn hl2 h11
      rw [hcnn] at hsn hl3 hcn
      rw [← hcn] at x2
      have w0 : IntKind.u64.wrap (lv : Int) = (lv : Int) := by rw [IntKind.wrap_u64]; omega
      have w2 : IntKind.u64.wrap (cn : Int) = (cn : Int) := by rw [IntKind.wrap_u64]; omega
      obtain ⟨X, hX⟩ : ∃ X, wr.alloc (.cells #[.int .i64 (lv : Int), .int .u64 (pr : Int), .int .i64 (cn : Int)] 69) = X := ⟨_, rfl⟩
      have hbX : Below wr.heap.size wr X := by rw [← hX]; exact (Below.refl _ wr).alloc (Nat.le_refl _) _
      obtain ⟨G, hG⟩ : ∃ G, wr.heap.size = G := ⟨_, rfl⟩
      have hxX : X.heap[G]? = some (.cells #[.int .i64 (lv : Int), .int .u64 (pr : Int), .int .i64 (cn : Int)] 69 (0, 0)) := by rw [← hX, ← hG]; exact heap_alloc_new _ _
      have HC : Hid (∀ W, Below X.heap.size X W → W.cell? ⟨G, 0, none⟩ = some (.int .i64 (lv : Int)) ∧ W.cell? ⟨G, 1, none⟩ = some (.int .u64 (pr : Int)) ∧ W.cell? ⟨G, 2, none⟩ = some (.int .i64 (cn : Int))) := Lib.hid fun W hb => by
        have e1 := (hb.block G (lt_of_heap hxX)).trans hxX
        refine ⟨?_, ?_, ?_⟩
        · rw [cell_of_row _ _ _ _ _ _ e1]; rfl
        · rw [cell_of_row _ _ _ _ _ _ e1]; rfl
        · rw [cell_of_row _ _ _ _ _ _ e1]; rfl
      have K1 := rput_holds (hrow.below hbX) lv hl1 (by omega)
      have HLN := Lib.hid (And.intro hle (And.intro h10 (And.intro h11 (And.intro hl2 hl3))))
      have HBW := Lib.hid (hbw.trans (hbX.mono hbw.size))
      have HSN := Lib.hid hsn
      have HBS := Lib.hid hbw.size
      have HXS := Lib.hid hbX.size
      obtain ⟨f0, _, _⟩ := HC.out X (Below.refl _ _)
      clear hv hg r0 r1 r2 hok hwl hsn hle hB0 hl1 hl2 hl3 h10 h11 hcn hlv hpr hcnn hbX hxX hrow hbw HS hq
      go_wp2_with fail
      (try rw [hG])
      (try rw [hX])
      refine K1.mono ?_
      rintro e w5 ⟨v5, rfl, hv5, hb5⟩
      have K2 := rput_holds hv5 pr HLN.out.2.2.2.1 (by have := HLN.out; rw [List.length_append]; omega)
      obtain ⟨_, g1, _⟩ := HC.out w5 hb5
      have HB5 := Lib.hid hb5
      clear K1 hv5 hb5 f0
      go_wp2_with fail
      refine K2.mono ?_
      rintro e w6 ⟨v6, rfl, hv6, hb6⟩
      have hb6' := HB5.out.trans (hb6.mono HB5.out.size)
      have K3 := rput_holds hv6 cn HLN.out.2.2.2.2 (by have := HLN.out; rw [List.length_append, List.length_append]; omega)
      obtain ⟨_, _, g2⟩ := HC.out w6 hb6'
      have HB6 := Lib.hid hb6'
      clear K2 hv6 hb6 hb6' g1
      go_wp2_with fail
      refine K3.mono ?_
      rintro e w7 ⟨v7, rfl, hv7, hb7⟩
      have HN7 : Hid (RBy w L (j + 1) v7 w7) := Lib.hid ⟨by rw [HSN.out]; exact hv7, HBW.out.trans ((HB6.out.trans (hb7.mono HB6.out.size)).mono (Nat.le_trans HBS.out HXS.out))⟩
      clear K3 hv7 hb7 g2
      go_wp2_with fail
      go_roundw
      case rel => exact ⟨v7, j + 1, rfl, by go_num, hlt, HN7⟩
      case measure => simp [intOf]; omega
    · obtain rfl : j = L.length := by omega
      have HF : Hid (Holds wr v (u8s (bytesD L)) ∧ Below w.heap.size w wr) := Lib.hid (by
        have := HS.out
        unfold RBy at this
        rw [List.take_length] at this
        exact this)
      clear HS
      go_wp2_with fail
      go_ret
      exact ⟨v, rfl, HF.out⟩
theorem rqrank_out {w : World} {p : Nat} {n : Int} (c2 : w.cell? ⟨p, 2, none⟩ = some (.int .i64 n)) {r : Int} (h : r < 1 ∨ n < r) :
    Calls Try.prog 31 #[.pointer (some ⟨p, 0, none⟩), .int .i64 r] w fun e w' => e = .returned (rankV none) ∧ w = w' := by
  by_cases hr : r < 1
  · clear h
    go_enter Try.func31, Try.ntmps31
    go_wp2_with fail
    refine bodyPost_ret (results_tmp2 rfl _ _ _) rfl ?_
    exact ⟨rfl, rfl⟩
  · have h2 : n < r := by omega
    clear h
    go_enter Try.func31, Try.ntmps31
    go_wp2_with fail
    refine bodyPost_ret (results_tmp2 rfl _ _ _) rfl ?_
    exact ⟨rfl, rfl⟩
end Go.Proofs.Ytahaoodklfmddaa
/- The statement's own alike: a digest and the document's with the same nodes. Conditions: digests that were made. -/
set_option maxRecDepth 100000
namespace Go.Proofs.Ytahaoodklfmddaa
open Go.RowKit Go.Maps Go.Sort Go.Shelf

/-- a row of nodes from its k-th on -/
def RestN (w : World) (g : Nat) (L : DL) (k : Nat) : Prop := g < w.heap.size ∧ ∀ j (q : Nat × Int), k ≤ j → L[j]? = some q →
  (w.cell? ⟨g, j * 3, none⟩ = some (.int .i64 ((q.1 / 18446744073709551616 : Nat) : Int)) ∧ w.cell? ⟨g, j * 3 + 1, none⟩ = some (.int .u64 ((q.1 % 18446744073709551616 : Nat) : Int)) ∧ w.cell? ⟨g, j * 3 + 2, none⟩ = some (.int .i64 q.2)) ∧ w.frozen? ⟨g, j * 3, none⟩ = false ∧ w.frozen? ⟨g, j * 3 + 1, none⟩ = false ∧ w.frozen? ⟨g, j * 3 + 2, none⟩ = false
theorem RestN.start {w : World} {g : Nat} {L : DL} (h : RowN w g L) : RestN w g L 0 := ⟨h.2, fun j q _ hq => ⟨h.cell hq, by
  obtain ⟨hk, e⟩ := List.getElem?_eq_some_iff.1 hq
  have f0 := (h.1.cell (i := j) (c := 0) (by simpa using hk) (by omega)).2
  have f1 := (h.1.cell (i := j) (c := 1) (by simpa using hk) (by omega)).2
  have f2 := (h.1.cell (i := j) (c := 2) (by simpa using hk) (by omega)).2
  simp only [Nat.zero_add, Nat.add_zero] at f0 f1 f2
  exact ⟨f0, f1, f2⟩⟩⟩
theorem RestN.below {w w' : World} {g k : Nat} {L : DL} (h : RestN w g L k) (hb : Below w.heap.size w w') : RestN w' g L k :=
  ⟨Nat.lt_of_lt_of_le h.1 hb.size, fun j q hj hq => by
    obtain ⟨⟨a, b, c⟩, d, e, f⟩ := h.2 j q hj hq
    exact ⟨⟨by rw [hb.cell (p := ⟨g, j * 3, none⟩) h.1]; exact a, by rw [hb.cell (p := ⟨g, j * 3 + 1, none⟩) h.1]; exact b, by rw [hb.cell (p := ⟨g, j * 3 + 2, none⟩) h.1]; exact c⟩, by rw [hb.frozen (p := ⟨g, j * 3, none⟩) h.1]; exact d, by rw [hb.frozen (p := ⟨g, j * 3 + 1, none⟩) h.1]; exact e, by rw [hb.frozen (p := ⟨g, j * 3 + 2, none⟩) h.1]; exact f⟩⟩
theorem RestN.next {w : World} {g k : Nat} {L : DL} (h : RestN w g L k) (u v x : Value) : RestN (((w.setCell ⟨g, k * 3, none⟩ u).setCell ⟨g, k * 3 + 1, none⟩ v).setCell ⟨g, k * 3 + 2, none⟩ x) g L (k + 1) :=
  ⟨by simpa [World.setCell] using h.1, fun j q hj hq => by
    obtain ⟨⟨a, b, c⟩, d, e, f⟩ := h.2 j q (by omega) hq
    refine ⟨⟨?_, ?_, ?_⟩, ?_, ?_, ?_⟩
    · rw [World.cell?_setCell_other _ _ _ _ (by simp <;> omega), World.cell?_setCell_other _ _ _ _ (by simp <;> omega), World.cell?_setCell_other _ _ _ _ (by simp <;> omega)]; exact a
    · rw [World.cell?_setCell_other _ _ _ _ (by simp <;> omega), World.cell?_setCell_other _ _ _ _ (by simp <;> omega), World.cell?_setCell_other _ _ _ _ (by simp <;> omega)]; exact b
    · rw [World.cell?_setCell_other _ _ _ _ (by simp <;> omega), World.cell?_setCell_other _ _ _ _ (by simp <;> omega), World.cell?_setCell_other _ _ _ _ (by simp <;> omega)]; exact c
    · simpa using d
    · simpa using e
    · simpa using f⟩
/-- what Rank tells, whatever is asked -/
def rankAns (n : Nat) (L : DL) (z : Int) : Option Nat := if 1 ≤ z ∧ z ≤ (n : Int) then rankG (rsort L) z else none
theorem drank_ans {T : Tags} {i : Nat} {w : World} {p k n b : Nat} {L : DL} (h : DkAt T i w p k n b L) (hR : Rest k n L) (z : Int) :
    Calls Try.prog 18 #[.pointer (some ⟨p, 0, none⟩), .int .i64 z] w fun e w' => e = .returned (rankV (rankAns n L z)) ∧ Below w.heap.size w w' := by
  unfold rankAns
  by_cases hz : 1 ≤ z ∧ z ≤ (n : Int)
  · rw [if_pos hz]
    refine (rank_all h hR.k1 hR.inv.short (fun q hq => hR.inv.low q hq) (fun q hq => by have := rqnode_le hR.inv.inv hq; have := hR.n50; omega) hz.1 hz.2 (by have := hR.n50; omega)).mono ?_
    rintro e w' ⟨D, hD, rfl, hb⟩
    exact ⟨by rw [RankedG.one hR.inv.inv.asc hD (rsort_ranked fun q hq => hR.inv.low q hq)], hb⟩
  · rw [if_neg hz]
    refine (rank_out hR.k1 h.cells.1 h.cells.2.1 (by omega)).mono ?_
    rintro e w' ⟨rfl, rfl⟩
    exact ⟨rfl, Below.refl _ _⟩
theorem rrank_ans {T : Tags} {i : Nat} {w : World} {p k n : Nat} {v : Value} {L : DL} (h : RqAt T i w p k n v L) (hR : Rest k n L) (z : Int) :
    Calls Try.prog 31 #[.pointer (some ⟨p, 0, none⟩), .int .i64 z] w fun e w' => e = .returned (rankV (rankAns n L z)) ∧ Below w.heap.size w w' := by
  unfold rankAns
  by_cases hz : 1 ≤ z ∧ z ≤ (n : Int)
  · rw [if_pos hz]
    exact rqrank_at h hR.inv (by have := hR.len; have := hR.k64; omega) hR.n50 hz.1 hz.2
  · rw [if_neg hz]
    refine (rqrank_out h.cells.2.2.1 (by omega)).mono ?_
    rintro e w' ⟨rfl, rfl⟩
    exact ⟨rfl, Below.refl _ _⟩
set_option maxHeartbeats 12800000 in
theorem dalike_any {T : Tags} {i j : Nat} {w : World} {p r k n : Nat} {L : DL} (h : Df p k n L T i w) (h' : Rf r k n L T j w) (z : Int) :
    Calls Try.prog 15 #[.pointer (some ⟨p, 0, none⟩), .pointer (some ⟨r, 0, none⟩), .int .i64 z] w fun e w' => e = .returned (.bool true) ∧ Below w.heap.size w w' := by
  have hh := h
  have hr := h'
  obtain ⟨v, h', hG⟩ := h'
  obtain ⟨va, vc, rfl, _⟩ := h'.row.form
  have SC := Lib.hid fun W (hb : Below w.heap.size w W) => (show W.cell? ⟨r, 1, none⟩ = some (.slice va L.length vc) ∧ W.cell? ⟨r, 2, none⟩ = some (.int .i64 n) from by
    obtain ⟨_, a, b, _⟩ := (h'.below hb).cells
    exact ⟨a, b⟩)
  have FH := Lib.hid fun W (hb : Below w.heap.size w W) => (Df.framed p k n L).below hh hb
  have KN := Lib.hid fun W (hb : Below w.heap.size w W) => (show Calls Try.prog 17 #[.pointer (some ⟨p, 0, none⟩)] W (NodesAt W L) from by
    obtain ⟨b', hA, hG'⟩ := FH.out W hb
    exact nodes_at hA.cells.1 hG'.k1 hA.cells.2.2.1 hA.map hG'.inv.short)
  have KC := Lib.hid fun W (hb : Below w.heap.size w W) => (show Calls Try.prog 16 #[.pointer (some ⟨p, 0, none⟩)] W fun e w' => e = .returned (.int .i64 n) ∧ W = w' from by
    obtain ⟨b', hA, hG'⟩ := FH.out W hb
    exact count_at hG'.k1 hA.cells.1 hA.cells.2.1)
  have KB := Lib.hid fun W (hb : Below w.heap.size w W) => (show Calls Try.prog 20 #[.pointer (some ⟨p, 0, none⟩)] W (BytesAtD W (bytesD L)) from by
    obtain ⟨b', hA, hG'⟩ := FH.out W hb
    exact dbytes_at hA hG'.k1 (rest_ok hG').1 (rest_ok hG').2)
  have KRB := Lib.hid fun W (hb : Below w.heap.size w W) => rqbytes_at (h'.below hb) (rest_ok hG).2 (rest_ok hG).1
  have KR := Lib.hid fun W (hb : Below w.heap.size w W) => (show Calls Try.prog 18 #[.pointer (some ⟨p, 0, none⟩), .int .i64 z] W (fun e w' => e = .returned (rankV (rankAns n L z)) ∧ Below W.heap.size W w') from by
    obtain ⟨b', hA, hG'⟩ := FH.out W hb
    exact drank_ans hA hG' z)
  have KRR := Lib.hid fun W (hb : Below w.heap.size w W) => rrank_ans (h'.below hb) hG z
  have HRW := Lib.hid h'.row
  have HL := Lib.hid (rest_ok hG).1
  have KN0 := KN.out w (Below.refl _ _)
  clear h h' hh hr hG
  go_enter Try.func15, Try.ntmps15
  go_wp2_with fail
  refine KN0.mono ?_
  rintro e w1 ⟨g1, c1, rfl, hg1, hc1, hR1, hB1⟩
  have S1 := SC.out w1.drew (hB1.trans ((below_drew1 w1).mono hB1.size))
  have HB1 := Lib.hid (And.intro hg1 (And.intro hc1 (And.intro (RestN.start hR1) hB1)))
  clear KN0 KN hg1 hc1 hR1 hB1
  go_wp2_with fail
  refine wp_region_mix (fun W => W.cell? ⟨r, 1, none⟩ = some (.slice va L.length vc) ∧ W.cell? ⟨r, 2, none⟩ = some (.int .i64 n)) 25 [(true, 0), (true, 1), (true, 2), (true, 3), (true, 4), (true, 5), (true, 6), (true, 7), (true, 8), (true, 9), (true, 11), (true, 12), (true, 13), (true, 14), (false, 10), (true, 15), (true, 16), (true, 17), (true, 18), (true, 20), (false, 19), (false, 21), (false, 22), (true, 23), (true, 24)] (by kernel_rfl) (by decide +kernel) rfl (by decide +kernel) S1 ?_
  iterate 14
    refine wpMix_take (v := ?_) rfl rfl ?_ ?_
    rotate_left
    · (intro W hW; (try dsimp only at hW); go_simp) <;> with_reducible rfl
    simp only [Act.put, List.setIfInBounds_toArray, List.set_cons_zero, List.set_cons_succ]
  have hbd : Below w.heap.size w w1.drew := HB1.out.2.2.2.trans ((below_drew1 w1).mono HB1.out.2.2.2.size)
  refine wpMix_run rfl ?_
  intro K hK
  go_wp2_with fail
  refine (KC.out _ hbd).mono ?_
  rintro e w2 ⟨rfl, rfl⟩
  go_wp2_with fail
  refine hK.out _ _ (fun _ => SC.out _ hbd) ?_
  clear hK K KC
  iterate 5
    refine wpMix_take (v := ?_) rfl rfl ?_ ?_
    rotate_left
    · (intro W hW; (try dsimp only at hW); go_simp) <;> with_reducible rfl
    simp only [Act.put, List.setIfInBounds_toArray, List.set_cons_zero, List.set_cons_succ]
  refine wpMix_run rfl ?_
  intro K hK
  go_wp2_with fail
  refine (KB.out _ hbd).mono ?_
  rintro e w3 ⟨bv, rfl, ho3, hb3⟩
  have hb3' : Below w.heap.size w w3 := hbd.trans (hb3.mono hbd.size)
  have hv3 : Holds w3 bv (u8s (bytesD L)) := Holds.of_row (e := 5) (base := w1.drew.heap.size) (by rw [u8s_len]; exact ho3)
  go_wp2_with fail
  refine hK.out _ _ (fun _ => SC.out _ hb3') ?_
  clear hK K KB ho3
  refine wpMix_run rfl ?_
  intro K hK
  go_wp2_with fail
  refine (KRB.out _ hb3').mono ?_
  rintro e w4 ⟨bv4, rfl, hv4, hb4⟩
  have hb4' : Below w.heap.size w w4 := hb3'.trans (hb4.mono hb3'.size)
  have KSS := Same_any (hv3.below hb4) hv4
  simp only [decide_true] at KSS
  go_wp2_with fail
  refine hK.out _ _ (fun _ => SC.out _ hb4') ?_
  clear hK K KRB
  refine wpMix_run rfl ?_
  intro K hK
  go_wp2_with fail
  refine KSS.mono ?_
  rintro e w5 ⟨rfl, rfl⟩
  have HR4 : Hid (RestN w4 g1 L 0 ∧ Below w.heap.size w w4) := Lib.hid ⟨(HB1.out.2.2.1.below (below_drew1 w1)).below (hb3.trans (hb4.mono hb3.size)), hb4'⟩
  go_wp2_with fail
  refine hK.out _ _ (fun _ => SC.out _ hb4') ?_
  clear hK K KSS
  iterate 2
    refine wpMix_take (v := ?_) rfl rfl ?_ ?_
    rotate_left
    · (intro W hW; (try dsimp only at hW); go_simp) <;> with_reducible rfl
    simp only [Act.put, List.setIfInBounds_toArray, List.set_cons_zero, List.set_cons_succ]
  refine wpMix_nil ?_
  clear hv3 hv4 hb3 hb4 hb3' hb4' hbd S1
  go_wp2_with fail
  go_loopw [43] (fun s wr => ∃ k : Nat, s = .int .i64 k ∧ k ≤ L.length ∧ Hid (RestN wr g1 L k ∧ Below w.heap.size w wr)) (fun s _ => L.length - (intOf s).toNat)
  case atStart => exact ⟨0, rfl, Nat.zero_le _, HR4⟩
  case round =>
    clear HR4
    obtain ⟨k, rfl, hk, HX⟩ := hrel
    by_cases hlt : k < L.length
    · have hz : (k : Int) < (L.length : Int) := by omega
      obtain ⟨q, hq⟩ : ∃ q, L[k]? = some q := ⟨_, List.getElem?_eq_getElem hlt⟩
      obtain ⟨⟨r0, r1, r2⟩, _⟩ := HX.out.1.2 k q (Nat.le_refl _) hq
      obtain ⟨gb, cb, e, hgb, _, b0', b1', b2'⟩ := HRW.out.cell hq
      have b0 := (HX.out.2.cell (World.block_lt_of_cell? w _ b0')).trans b0'
      have b1 := (HX.out.2.cell (World.block_lt_of_cell? w _ b1')).trans b1'
      have b2 := (HX.out.2.cell (World.block_lt_of_cell? w _ b2')).trans b2'
      have HS1 := (SC.out wr HX.out.2).1
      obtain ⟨rfl, rfl⟩ : va = some ⟨gb, 0, none⟩ ∧ vc = cb := by injection e with h1 _ h2; exact ⟨h1, h2⟩
      obtain ⟨lq, hlq⟩ : ∃ lq : Int, ((q.1 / 18446744073709551616 : Nat) : Int) = lq := ⟨_, rfl⟩
      obtain ⟨pq, hpq⟩ : ∃ pq : Int, ((q.1 % 18446744073709551616 : Nat) : Int) = pq := ⟨_, rfl⟩
      obtain ⟨cq, hcq⟩ : ∃ cq : Int, q.2 = cq := ⟨_, rfl⟩
      rw [hlq] at r0 b0
      rw [hpq] at r1 b1
      rw [hcq] at r2 b2
      obtain ⟨G, hG⟩ : ∃ G, wr.heap.size = G := ⟨_, rfl⟩
      obtain ⟨W1, hW1⟩ : ∃ W1, wr.alloc (.cells #[.int .i64 lq, .int .u64 pq, .int .i64 cq] 50) = W1 := ⟨_, rfl⟩
      have hbA : Below wr.heap.size wr W1 := by rw [← hW1]; exact (Below.refl _ wr).alloc (Nat.le_refl _) _
      have hxb : W1.heap[G]? = some (.cells #[.int .i64 lq, .int .u64 pq, .int .i64 cq] 50 (0, 0)) := by rw [← hW1, ← hG]; exact heap_alloc_new _ _
      have d0 : W1.cell? ⟨G, 0, none⟩ = some (.int .i64 lq) := by rw [cell_of_row _ _ _ _ _ _ hxb]; rfl
      have d1 : W1.cell? ⟨G, 1, none⟩ = some (.int .u64 pq) := by rw [cell_of_row _ _ _ _ _ _ hxb]; rfl
      have d2 : W1.cell? ⟨G, 2, none⟩ = some (.int .i64 cq) := by rw [cell_of_row _ _ _ _ _ _ hxb]; rfl
      have e0 : W1.cell? ⟨gb, k * 3, none⟩ = some (.int .i64 lq) := by rw [hbA.cell (World.block_lt_of_cell? wr _ b0)]; exact b0
      have e1 : W1.cell? ⟨gb, k * 3 + 1, none⟩ = some (.int .u64 pq) := by rw [hbA.cell (World.block_lt_of_cell? wr _ b1)]; exact b1
      have e2 : W1.cell? ⟨gb, k * 3 + 2, none⟩ = some (.int .i64 cq) := by rw [hbA.cell (World.block_lt_of_cell? wr _ b2)]; exact b2
      have s1 : W1.cell? ⟨r, 1, none⟩ = some (.slice (some ⟨gb, 0, none⟩) L.length vc) := by rw [hbA.cell (World.block_lt_of_cell? wr _ HS1)]; exact HS1
      have hX1 := HX.out.1.below hbA
      obtain ⟨⟨m0, m1, m2⟩, g0, g1', g2⟩ := hX1.2 k q (Nat.le_refl _) hq
      have hbw1 : Below w.heap.size w W1 := HX.out.2.trans (hbA.mono HX.out.2.size)
      have hw64 : IntKind.i64.wrap ((k : Int) + 1) = (k : Int) + 1 := by have := HL.out; rw [IntKind.wrap_i64]; omega
      have HNX : Hid (∀ nq, RestN ((((W1.drewN nq).setCell ⟨g1, k * 3, none⟩ (.int .i64 0)).setCell ⟨g1, k * 3 + 1, none⟩ (.int .u64 0)).setCell ⟨g1, k * 3 + 2, none⟩ (.int .i64 0)) g1 L (k + 1) ∧ Below w.heap.size w ((((W1.drewN nq).setCell ⟨g1, k * 3, none⟩ (.int .i64 0)).setCell ⟨g1, k * 3 + 1, none⟩ (.int .u64 0)).setCell ⟨g1, k * 3 + 2, none⟩ (.int .i64 0))) := Lib.hid fun nq => by
        have hg := HB1.out.1
        exact ⟨RestN.next (hX1.below (below_drewN W1 nq)) _ _ _, (((below_dN hbw1 nq).setCell hg _).setCell hg _).setCell hg _⟩
      clear hq b0 b1 b2 b0' b1' b2' HS1 hgb hlq hpq hcq hbA hxb hX1 hbw1 HX e
      go_wp2_with fail
      clear r0 r1 r2 hW1 hG
      go_quiet (fail)
      have HX2 := Lib.hid (HNX.out nq)
      clear d0 d1 d2 e0 e1 e2 s1 HNX
      go_wp2_with fail
      go_roundw
      case rel => exact ⟨k + 1, by go_num, by omega, HX2⟩
      case measure => simp [intOf]; omega
    · obtain rfl : k = L.length := by omega
      have hbw := HX.out.2
      have K1 := KR.out wr hbw
      have HBW := Lib.hid hbw
      have hgen : ∀ a : Option Nat, rankV a = .tuple #[.int .u64 (match a with | none => (0 : Int) | some v => (v : Int)), .bool a.isSome] := fun a => by cases a <;> rfl
      rw [hgen] at K1
      have KRR2 := Lib.hid fun W (hb : Below w.heap.size w W) => (by have := KRR.out W hb; rw [hgen] at this; exact this : Calls Try.prog 31 #[.pointer (some ⟨r, 0, none⟩), .int .i64 z] W (fun e w' => e = .returned (.tuple #[.int .u64 (match rankAns n L z with | none => (0 : Int) | some v => (v : Int)), .bool (rankAns n L z).isSome]) ∧ Below W.heap.size W w'))
      generalize (match rankAns n L z with | none => (0 : Int) | some v => (v : Int)) = ra at *
      generalize (rankAns n L z).isSome = rb at *
      clear HX hbw hgen KRR KR
      go_wp2_with fail
      refine K1.mono ?_
      rintro e w6 ⟨rfl, hb6⟩
      have hb6' : Below w.heap.size w w6 := HBW.out.trans (hb6.mono HBW.out.size)
      have K2 := KRR2.out w6 hb6'
      have HB6 := Lib.hid hb6'
      clear K1 hb6 hb6' KRR2
      go_wp2_with fail
      refine K2.mono ?_
      rintro e w7 ⟨rfl, hb7⟩
      have FIN := Lib.hid (HB6.out.trans (hb7.mono HB6.out.size))
      clear K2 hb7
      have tb : (ra == ra) = true := by simp
      have tb2 : (rb == rb) = true := by simp
      go_wp2_with fail
      go_ret
      exact ⟨rfl, FIN.out⟩
end Go.Proofs.Ytahaoodklfmddaa
