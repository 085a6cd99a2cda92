/- The texts DigReadAll DigIns DigNo, one behind the other; each one's own comment says what it holds. -/
import Derived.Test.YtahaoodklfmddaaDigestActsRowGK
import Derived.Test.YtahaoodklfmddaaDigestActsRowGL
import Derived.Test.YtahaoodklfmddaaDigFew
/- Contract of digest's read at a digest's bytes, whatever lies behind them. Conditions: counts that Load takes. -/
set_option maxRecDepth 100000
namespace Go.Proofs.Ytahaoodklfmddaa
open Go.RowKit Go.Maps Go.Sort Go.Shelf

theorem addAll_nil {m : Nat} {L : DL} (h : LInv m L) : addAll [] L = L :=
  dl_ext (addAll_asc L [] List.Pairwise.nil) h.inv.asc (addAll_pos L [] (fun q hq => by cases hq) h.inv.pos) h.inv.pos fun x => by rw [addAll_dcnt L [] List.Pairwise.nil h.inv.asc]; simp [dcnt]
theorem node_ok {m : Nat} {L : DL} (h : LInv m L) (hm : m ≤ 1125899906842624) {q : Nat × Int} (hq : q ∈ L) : NodeOk q := by
  refine ⟨h.low q hq, h.inv.pos q hq, ?_⟩
  have h1 := all_le h.inv q.1
  have h2 := dcnt_nonneg h.inv.pos (sibC q.1)
  have h3 := dcnt_nonneg h.inv.pos (upC q.1)
  have h4 := dcnt_mem h.inv.asc (id := q.1) (c := q.2) hq
  unfold allC at h1
  omega
theorem node_le {m : Nat} {L : DL} (h : LInv m L) {q : Nat × Int} (hq : q ∈ L) : q.2 ≤ m := by
  have h1 := all_le h.inv q.1
  have h2 := dcnt_nonneg h.inv.pos (sibC q.1)
  have h3 := dcnt_nonneg h.inv.pos (upC q.1)
  have h4 := dcnt_mem h.inv.asc (id := q.1) (c := q.2) hq
  unfold allC at h1
  omega
/-- where node j begins; what lies there -/
def offD (L : DL) (j : Nat) : Nat := (dig L.length).length + (nodesB (L.take j)).length
theorem offD_next {L : DL} {j : Nat} {y : Nat × Int} (hy : L[j]? = some y) : offD L (j + 1) = offD L j + (nodeB y).length := by
  obtain ⟨h, e⟩ := List.getElem?_eq_some_iff.1 hy
  unfold offD
  rw [List.take_succ_eq_append_getElem h, e, nodesB_append, List.length_append]
  simp [nodesB]
  omega
theorem dropD {L : DL} {j : Nat} {y : Nat × Int} (hy : L[j]? = some y) (tail : List UInt8) : (bytesD L ++ tail).drop (offD L j) = nodeB y ++ (nodesB (L.drop (j + 1)) ++ tail) := by
  obtain ⟨h, e⟩ := List.getElem?_eq_some_iff.1 hy
  have e1 : bytesD L ++ tail = (dig L.length ++ nodesB (L.take j)) ++ (nodeB y ++ (nodesB (L.drop (j + 1)) ++ tail)) := by
    have e0 : nodesB L = nodesB (L.take j) ++ (nodeB y ++ nodesB (L.drop (j + 1))) := by
      conv => lhs; rw [← List.take_append_drop j L, nodesB_append, List.drop_eq_getElem_cons h, e]
      simp [nodesB]
    unfold bytesD
    rw [e0]
    simp
  rw [e1, show offD L j = (dig L.length ++ nodesB (L.take j)).length by unfold offD; simp, List.drop_left]
set_option maxHeartbeats 6400000 in
theorem dread_at {T : Tags} {i : Nat} {W0 w : World} {p k b m : Nat} {L : DL} (h : DkAt T i w p k 0 b []) (hT : ∀ g, T g = some i → W0.heap.size ≤ g) (hB : Below W0.heap.size W0 w) (hk1 : 1 ≤ k) (hk : k ≤ 64) (hL : LInv m L) (hm : m ≤ 1099511627776) (hlen : L.length ≤ 3 * k + 64)
    {ad : Addr} {bn bc : Nat} {tail : List UInt8} (hH : Holds W0 (.slice (some ad) bn bc) (u8s (bytesD L ++ tail))) (hbn : bn ≤ 100000) :
    Calls Try.prog 40 #[.pointer (some ⟨p, 0, none⟩), .slice (some ad) bn bc] w fun e w' => e = .returned (.tuple #[]) ∧ Hid (Goes T i w (Dl p k m L) w') := by
  obtain ⟨c0, c1, c2, _⟩ := h.cells
  have KG := Get_any (hH.below hB) (by have := (hH.len).1; rw [u8s_len] at this; omega)
  rw [show bytesD L ++ tail = dig L.length ++ (nodesB L ++ tail) by unfold bytesD; simp, get_dig0 _ (by omega)] at KG
  have KR := room_at hk c0
  obtain ⟨R, hR⟩ : ∃ R : Nat, 3 * k + 64 = R := ⟨_, rfl⟩
  rw [hR] at KR
  have wR : IntKind.u64.wrap (R : Int) = (R : Int) := by rw [IntKind.wrap_u64]; omega
  have hmin : min (L.length : Int) (R : Int) = (L.length : Int) := by omega
  have hlb : bn ≤ bc := (hH.len).2
  have hbe : (bytesD L ++ tail).length = bn := by have := (hH.len).1; rw [u8s_len] at this; exact this
  have X0 : Hid (Goes T i w (Dl p k (total (L.take 0)) (addAll [] (L.take 0))) w) := Lib.hid (by simpa [total, csum, addAll] using Goes.start (A := Dl p k 0 []) ⟨b, h⟩)
  have HH := Lib.hid (And.intro hH (And.intro hT hB))
  have HL := Lib.hid (And.intro hL (And.intro hm hlen))
  have HBE := Lib.hid hbe
  have hd0 := dig_len10 (u := L.length) (by omega)
  obtain ⟨D0, hD0⟩ : ∃ D0, (dig L.length).length = D0 := ⟨_, rfl⟩
  rw [hD0] at KG hd0
  have HD0 : Hid (D0 = offD L 0) := Lib.hid (by unfold offD; rw [hD0]; simp [nodesB])
  have hLl : L.length ≤ 256 := by omega
  clear h hT hB hL hm hlen hH c1 c2 hbe hD0 hR
  go_enter Try.func40, Try.ntmps40
  go_wp2_with fail
  refine KG.mono ?_
  rintro e w1 ⟨rfl, rfl⟩
  clear KG
  go_wp2_with fail
  refine KR.mono ?_
  rintro e w1 ⟨rfl, rfl⟩
  clear KR c0
  go_wp2_with fail
  (try rw [hmin])
  clear hmin wR
  have hDu : D0 ≤ 40000 := by omega
  go_loopw [5, 18] (fun s5 s18 wr => ∃ (U j : Nat), s5 = .int .i64 U ∧ s18 = .int .u64 j ∧ j ≤ L.length ∧ U ≤ 40000 ∧ Hid (U = offD L j) ∧ Hid (Goes T i w (Dl p k (total (L.take j)) (addAll [] (L.take j))) wr)) (fun _ s _ => L.length - (intOf s).toNat)
  case atStart => exact ⟨D0, 0, rfl, rfl, Nat.zero_le _, hDu, HD0, X0⟩
  case round =>
    clear X0 HD0 hDu
    obtain ⟨U, j, rfl, rfl, hj, hU, HU, HS⟩ := hrel
    by_cases hlt : j < L.length
    · have hz : (j : Int) < (L.length : Int) := by omega
      obtain ⟨y, hy⟩ : ∃ y, L[j]? = some y := ⟨_, List.getElem?_eq_getElem hlt⟩
      have hym : y ∈ L := List.mem_of_getElem? hy
      have hok := node_ok HL.out.1 (by have := HL.out.2.1; omega) hym
      have hle40 := node_le HL.out.1 hym
      have hnl := nodeB_len hok
      have hdr := dropD hy tail
      have hon := offD_next hy
      rw [← HU.out] at hdr hon
      have hbl := congrArg List.length hdr
      rw [List.length_drop, HBE.out, List.length_append] at hbl
      have hnp : 0 < (nodeB y).length := by
        have := dig_pos (y.1 / 18446744073709551616)
        simp only [nodeB, nodeW, List.flatMap_cons, List.length_append]
        omega
      obtain ⟨T3, n3, e3, b3, hd3⟩ := HS.out
      have hBwr : Below W0.heap.size W0 wr := HH.out.2.2.trans (e3.below HH.out.2.2.size (fun g hg => HH.out.2.1 g hg))
      have hHd := (HH.out.1.below hBwr).drop U (by omega)
      rw [u8s_drop, hdr] at hHd
      have KN := readNode_at hHd (by omega) hok (by have := HL.out.2.1; omega)
      have hkin : KIn y.1 := kin_of_low (HL.out.1.low y hym)
      have hpos0 : ∀ q ∈ ([] : DL), 1 ≤ q.2 := fun q hq => by cases hq
      have hle := addAll_le [] (L.take j) List.Pairwise.nil hpos0 (fun q hq => HL.out.1.inv.pos q (List.mem_of_mem_take hq)) y.1
      have ht1 := total_take HL.out.1 j
      have ht2 := total_take HL.out.1 (j + 1)
      have htk := take_more hy
      have hts : total (L.take (j + 1)) = total (L.take j) + y.2 := by rw [htk, total_app]; simp [total, csum]
      have ht0 : total ([] : DL) = 0 := rfl
      have hln := addAll_len (L.take j) []
      have hmm := HL.out.2.1
      have hy1 := hok.2.1
      have KA := Lib.hid (fun (W : World) (hb : Below wr.heap.size wr W) => add_at (w := W) (T := T3) (i := i) (p := p) (k := k) (n := total (L.take j)) (L := addAll [] (L.take j)) (b := b3)
        ⟨(hb.block p (lt_of_heap hd3.head)).trans hd3.head, hd3.tp, hd3.map.of_block (hb.block b3 hd3.map.lt), hd3.tb⟩ (id := y.1) (c := y.2) hkin (by unfold InI; omega) (by unfold InI; omega) (by rw [List.length_take] at hln; simp at hln; unfold maxLen; omega))
      have HNX : Hid (∀ W w5, Below wr.heap.size wr W → Goes T3 i W (Dl p k (total (L.take j) + y.2) (putD y.1 (dcnt (addAll [] (L.take j)) y.1 + y.2) (addAll [] (L.take j)))) w5 → Goes T i w (Dl p k (total (L.take (j + 1))) (addAll [] (L.take (j + 1)))) w5) := Lib.hid fun W w5 hb hG => by
        rw [hts, htk, addAll_snoc]
        exact Goes.after n3 e3 (Goes.after (T1 := T3) (fun _ _ => rfl) (Else.of_below hb) hG)
      obtain ⟨nl, hnle⟩ : ∃ nl, (nodeB y).length = nl := ⟨_, rfl⟩
      rw [hnle] at KN hon hnp hbl hnl
      obtain ⟨lv, hlv⟩ : ∃ lv : Int, ((y.1 / 18446744073709551616 : Nat) : Int) = lv := ⟨_, rfl⟩
      obtain ⟨pr, hpr⟩ : ∃ pr : Int, ((y.1 % 18446744073709551616 : Nat) : Int) = pr := ⟨_, rfl⟩
      obtain ⟨cn, hcn⟩ : ∃ cn : Int, y.2 = cn := ⟨_, rfl⟩
      rw [kV_form2, hlv, hpr] at KA
      rw [hcn] at KA HNX KN
      rw [hlv, hpr] at KN
      have v0 : ¬ bc = U := by omega
      have v1 : (U : Int) ≤ (bn : Int) := by omega
      have v2 : U ≤ bn := by omega
      have v3 : (bn : Int) ≤ (bc : Int) := by omega
      have n0 : ((nl : Int) == (0 : Int)) = false := by simp; omega
      have n1 : (nl == 0) = false := by simp; omega
      have wU : IntKind.i64.wrap ((U : Int) + (nl : Int)) = ((U + nl : Nat) : Int) := by rw [IntKind.wrap_i64]; omega
      have hw64 : IntKind.u64.wrap ((j : Int) + 1) = (j : Int) + 1 := by rw [IntKind.wrap_u64]; omega
      have HU2 : Hid (U + nl = offD L (j + 1)) := Lib.hid hon.symm
      have hU2 : U + nl ≤ 40000 + 30 := by omega
      have hBN : bn ≤ 100000 ∧ U + nl ≤ bn := ⟨hbn, by omega⟩
      have HBN := Lib.hid hBN
      have KPL := Lib.hid (fun W => place_any lv pr cn W)
      clear hy hym hok hle40 hdr hon hbl e3 hd3 hBwr hHd hkin hpos0 hle ht1 ht2 htk hts ht0 hln hmm hy1 n3 hlv hpr hcn hnle HU HS hBN
      go_wp2_with fail
      refine KN.mono ?_
      rintro e w5 ⟨rfl, hb5⟩
      obtain ⟨X, hX⟩ : ∃ X, w5.alloc (.cells #[.int .i64 lv, .int .u64 pr, .int .i64 cn] 50) = X := ⟨_, rfl⟩
      have hbX : Below wr.heap.size wr X := by rw [← hX]; exact hb5.alloc hb5.size _
      obtain ⟨G, hG⟩ : ∃ G, w5.heap.size = G := ⟨_, rfl⟩
      have hxX : X.heap[G]? = some (.cells #[.int .i64 lv, .int .u64 pr, .int .i64 cn] 50 (0, 0)) := by rw [← hX, ← hG]; exact heap_alloc_new _ _
      have f0 : X.cell? ⟨G, 0, none⟩ = some (.int .i64 lv) := by rw [cell_of_row _ _ _ _ _ _ hxX]; rfl
      have f1 : X.cell? ⟨G, 1, none⟩ = some (.int .u64 pr) := by rw [cell_of_row _ _ _ _ _ _ hxX]; rfl
      have f2 : X.cell? ⟨G, 2, none⟩ = some (.int .i64 cn) := by rw [cell_of_row _ _ _ _ _ _ hxX]; rfl
      have HBX := Lib.hid hbX
      clear KN hb5 hbX hxX
      go_wp2_with fail
      (try rw [hG])
      (try rw [hX])
      clear hX
      refine wp_region_mix (fun V => V.cell? ⟨G, 0, none⟩ = some (.int .i64 lv) ∧ V.cell? ⟨G, 1, none⟩ = some (.int .u64 pr) ∧ V.cell? ⟨G, 2, none⟩ = some (.int .i64 cn)) 5 [(true, 0), (true, 1), (true, 3), (true, 4), (false, 2), (false, 5)] (by kernel_rfl) (by decide +kernel) rfl (by decide +kernel) ⟨f0, f1, f2⟩ ?_
      iterate 4
        refine wpMix_take (v := ?_) rfl rfl ?_ ?_
        rotate_left
        · (intro W hW; (try dsimp only at hW); go_simp) <;> with_reducible rfl
        simp only [Act.put, List.setIfInBounds_toArray, List.set_cons_zero, List.set_cons_succ]
      refine wpMix_run rfl ?_
      intro K hK
      go_wp2_with fail
      refine (KPL.out _).mono ?_
      rintro e w6 ⟨rfl, os', hw6⟩
      have hb6 : Below X.heap.size X w6 := by rw [hw6]; exact ⟨rfl, rfl, rfl, by rw [size_grow]; exact Nat.le_add_right _ _, fun k hk => heap_grow_old _ _ hk⟩
      have q0 : w6.cell? ⟨G, 0, none⟩ = some (.int .i64 lv) := by rw [hb6.cell (lt_of_cell f0)]; exact f0
      have q1 : w6.cell? ⟨G, 1, none⟩ = some (.int .u64 pr) := by rw [hb6.cell (lt_of_cell f1)]; exact f1
      have q2 : w6.cell? ⟨G, 2, none⟩ = some (.int .i64 cn) := by rw [hb6.cell (lt_of_cell f2)]; exact f2
      have hbw6 : Below wr.heap.size wr w6 := HBX.out.trans (hb6.mono HBX.out.size)
      have K6 := KA.out w6 hbw6
      have HB6 := Lib.hid hbw6
      clear hw6 hb6 f0 f1 f2 KA KPL hbw6
      go_wp2_with fail
      refine hK.out _ _ (fun _ => ⟨q0, q1, q2⟩) ?_
      clear hK K q0 q1 q2
      refine wpMix_run rfl ?_
      intro K hK
      go_wp2_with fail
      refine K6.mono ?_
      rintro e w7 ⟨rfl, HG7⟩
      have HN7 := Lib.hid (HNX.out w6 w7 HB6.out HG7.out)
      clear K6 HG7 HNX HB6
      go_wp2_with fail
      refine hK.out _ _ (fun h => absurd rfl h) ?_
      clear hK K
      refine wpMix_nil ?_
      have hU4 : U + nl ≤ 40000 := by
        have e1 := bytesD_len (L := L) (fun q hq => node_ok HL.out.1 (by have := HL.out.2.1; omega) hq) (by omega)
        have e2 : offD L (j + 1) ≤ (bytesD L).length := by
          unfold offD bytesD
          rw [List.length_append]
          have : nodesB L = nodesB (L.take (j + 1)) ++ nodesB (L.drop (j + 1)) := by rw [← nodesB_append, List.take_append_drop]
          rw [this, List.length_append]
          omega
        have := HU2.out
        omega
      go_wp2_with fail
      go_roundw
      case rel => exact ⟨U + nl, j + 1, rfl, by go_num, hlt, hU4, HU2, HN7⟩
      case measure => simp [intOf]; omega
    · obtain rfl : j = L.length := by omega
      have hz : ¬ (L.length : Int) < (L.length : Int) := by omega
      have HF : Hid (Goes T i w (Dl p k m L) wr) := Lib.hid (by
        have h1 := HS.out
        rw [List.take_length, addAll_nil HL.out.1, show total L = m from HL.out.1.inv.sum] at h1
        exact h1)
      clear HS HU
      go_wp2_with fail
      go_end0
      exact ⟨rfl, HF⟩
end Go.Proofs.Ytahaoodklfmddaa
/- Contract of digest's Insert, compressing or not. Conditions: a digest that was made, not full. -/
set_option maxRecDepth 100000
namespace Go.Proofs.Ytahaoodklfmddaa
open Go.RowKit Go.Maps Go.Sort Go.Shelf

/-- one number more keeps what nodes are -/
theorem LInv.ins {n : Nat} {L : DL} (h : LInv n L) {x : Nat} (hx : x < 18446744073709551616) (hl : L.length < 100000) : LInv (n + 1) (putD x (dcnt L x + 1) L) where
  inv :=
    { asc := dasc_putD h.inv.asc _ _
      pos := fun q hq => by
        rcases putD_sub hq with rfl | hq
        · have := dcnt_nonneg h.inv.pos x
          show 1 ≤ dcnt L x + 1
          omega
        · exact h.inv.pos q hq
      sum := by
        have h1 := h.inv.sum
        unfold total at *
        rw [csum_putD (fun _ => true) h.inv.asc, h1, if_pos rfl]
        omega }
  low q hq := by
    rcases putD_sub hq with rfl | hq
    · show LowC x
      unfold LowC
      have e1 : x / 18446744073709551616 = 0 := by omega
      have e2 : x % 18446744073709551616 = x := by omega
      rw [e1, e2]
      exact ⟨by omega, hx⟩
    · exact h.low q hq
  short := by
    have := putD_len L x (dcnt L x + 1)
    omega

set_option maxHeartbeats 1600000 in
theorem ins_at {T : Tags} {i : Nat} {w : World} {p k n b : Nat} {L : DL} (h : DkAt T i w p k n b L) (hk1 : 1 ≤ k) (hk : k ≤ 64) (hI : LInv n L) (hn : n < 1125899906842624) (hl : L.length < 100000) (x : Nat) (hx : x < 18446744073709551616) :
    Calls Try.prog 9 #[.pointer (some ⟨p, 0, none⟩), .int .u64 (x : Int)] w (FitP T i w p k (n + 1) (putD x (dcnt L x + 1) L)) := by
  obtain ⟨c0, c1, _, _⟩ := h.cells
  have KM := made_at hk1 c0
  have hid : KIn x := by unfold KIn; omega
  have hI2 := hI.ins hx hl
  have hcn : 0 ≤ dcnt L x ∧ dcnt L x ≤ 1125899906842624 := by
    refine ⟨dcnt_nonneg hI.inv.pos x, ?_⟩
    have h1 := all_le hI.inv x
    have h2 := dcnt_nonneg hI.inv.pos (sibC x)
    have h3 := dcnt_nonneg hI.inv.pos (upC x)
    unfold allC at h1
    omega
  have hc : InI (dcnt L x + 1) := by unfold InI; omega
  have hni : InI ((n : Int) + 1) := by unfold InI; omega
  have e : kV x = .agg #[.int .i64 0, .int .u64 (x : Int)] := by
    have d1 : x / 18446744073709551616 = 0 := by omega
    have d2 : x % 18446744073709551616 = x := by omega
    unfold kV plV pk
    rw [d1, d2]
    rfl
  have K := add_at h (c := 1) hid hc hni (by unfold maxLen; omega)
  rw [e] at K
  have KF := Lib.hid fun (T' : Tags) (W : World) (hW : Dl p k ((n : Int) + 1) (putD x (dcnt L x + 1) L) T' i W) => hW.elim fun b' (hb' : DkAt T' i W p k ((n + 1 : Nat) : Int) b' (putD x (dcnt L x + 1) L)) => fit_at hb' hk1 hk hI2 hn
  have t0 : ¬ (n : Int) = 1125899906842624 := by omega
  have t1 : ((n : Int) == 1125899906842624) = false := by simpa using t0
  clear h hid hk hk1 hcn hc hni e c0 hn hl hI hI2
  go_enter Try.func9, Try.ntmps9
  go_wp2_with fail
  refine KM.mono ?_
  rintro e w' ⟨rfl, rfl⟩
  clear KM
  go_wp2_with fail
  refine K.mono ?_
  rintro e w1 ⟨rfl, HG⟩
  clear K
  obtain ⟨T1, n1, e1, hd⟩ := HG.out
  have K2 := KF.out T1 w1 hd
  have HE := Lib.hid (And.intro n1 e1)
  clear HG hd n1 e1
  go_wp2_with fail
  refine K2.mono ?_
  rintro e w2 ⟨rfl, L', h1, h2, h3, h4⟩
  have HF : Hid (FitP T i w p k (n + 1) (putD x (dcnt L x + 1) L) (.returned (.tuple #[])) w2) := Lib.hid ⟨rfl, L', h1, h2, h3, Goes.after HE.out.1 HE.out.2 h4⟩
  clear K2 h1 h2 h3 h4
  go_wp2_with fail
  refine bodyPost_ret (results_none rfl _ _ _) rfl ?_
  exact HF.out
end Go.Proofs.Ytahaoodklfmddaa
/- Contracts of digest's calls at a digest that no call made. Conditions: such a digest. -/
set_option maxRecDepth 100000
namespace Go.Proofs.Ytahaoodklfmddaa
open Go.RowKit Go.Maps Go.Sort

/-- a pointer to a digest that no call made -/
def NoD (w : World) (x : Option Addr) : Prop := x = none ∨ ∃ b, x = some ⟨b, 0, none⟩ ∧ w.cell? ⟨b, 0, none⟩ = some (.int .i64 0)
theorem NoD.below {w w' : World} {x : Option Addr} (h : NoD w x) (hb : Below w.heap.size w w') : NoD w' x := by
  rcases h with rfl | ⟨b, rfl, hc⟩
  · exact .inl rfl
  · exact .inr ⟨b, rfl, by rw [hb.cell (World.block_lt_of_cell? w _ hc)]; exact hc⟩
def MadeNoD (w : World) (x : Option Addr) : Prop := Calls Try.prog 23 #[.pointer x] w fun e w' => e = .returned (.bool false) ∧ w = w'
theorem made_noD {w : World} {x : Option Addr} (h : NoD w x) : MadeNoD w x := by
  rcases h with rfl | ⟨b, rfl, hc⟩
  · unfold MadeNoD
    go_enter Try.func23, Try.ntmps23
    go_wp2_with fail
    go_ret
    exact ⟨rfl, rfl⟩
  · unfold MadeNoD
    go_enter Try.func23, Try.ntmps23
    go_wp2_with fail
    go_ret
    exact ⟨rfl, rfl⟩

section
variable {w : World} {x : Option Addr} (h : NoD w x)
include h
theorem ins_noD (u : Int) : Calls Try.prog 9 #[.pointer x, .int .u64 u] w fun e w' => e = .returned (.tuple #[]) ∧ w = w' := by
  have K := made_noD h
  unfold MadeNoD at K
  clear h
  go_enter Try.func9, Try.ntmps9
  go_wp2_with fail
  refine K.mono ?_
  rintro e w' ⟨rfl, rfl⟩
  clear K
  go_wp2_with fail
  refine bodyPost_ret (results_none rfl _ _ _) rfl ?_
  exact ⟨rfl, rfl⟩
theorem merge_noD (y : Option Addr) : Calls Try.prog 11 #[.pointer x, .pointer y] w fun e w' => e = .returned (.int .i64 1) ∧ w = w' := by
  have K := made_noD h
  unfold MadeNoD at K
  clear h
  go_enter Try.func11, Try.ntmps11
  go_wp2_with fail
  refine K.mono ?_
  rintro e w' ⟨rfl, rfl⟩
  clear K
  go_wp2_with fail
  go_ret
  exact ⟨rfl, rfl⟩
theorem count_noD : Calls Try.prog 16 #[.pointer x] w fun e w' => e = .returned (.int .i64 0) ∧ w = w' := by
  have K := made_noD h
  unfold MadeNoD at K
  clear h
  go_enter Try.func16, Try.ntmps16
  go_wp2_with fail
  refine K.mono ?_
  rintro e w' ⟨rfl, rfl⟩
  clear K
  go_wp2_with fail
  go_ret
  exact ⟨rfl, rfl⟩
theorem nodes_noD : Calls Try.prog 17 #[.pointer x] w fun e w' => e = .returned (.slice none 0 0) ∧ w = w' := by
  have K := made_noD h
  unfold MadeNoD at K
  clear h
  go_enter Try.func17, Try.ntmps17
  go_wp2_with fail
  refine K.mono ?_
  rintro e w' ⟨rfl, rfl⟩
  clear K
  go_wp2_with fail
  go_ret
  exact ⟨rfl, rfl⟩
theorem copy_noD : Calls Try.prog 14 #[.pointer x] w fun e w' => e = .returned (.pointer none) ∧ w = w' := by
  have K := made_noD h
  unfold MadeNoD at K
  clear h
  go_enter Try.func14, Try.ntmps14
  go_wp2_with fail
  refine K.mono ?_
  rintro e w' ⟨rfl, rfl⟩
  clear K
  go_wp2_with fail
  go_ret
  exact ⟨rfl, rfl⟩
theorem bytes_noD : Calls Try.prog 20 #[.pointer x] w fun e w' => e = .returned (.slice none 0 0) ∧ w = w' := by
  have K := made_noD h
  unfold MadeNoD at K
  clear h
  go_enter Try.func20, Try.ntmps20
  go_wp2_with fail
  refine K.mono ?_
  rintro e w' ⟨rfl, rfl⟩
  clear K
  go_wp2_with fail
  go_ret
  exact ⟨rfl, rfl⟩
theorem rank_noD (r : Int) : Calls Try.prog 18 #[.pointer x, .int .i64 r] w fun e w' => e = .returned (.tuple #[.int .u64 0, .bool false]) ∧ w = w' := by
  have K := count_noD h
  clear h
  by_cases hr : r < 1
  · go_enter Try.func18, Try.ntmps18
    go_wp2_with fail
    refine bodyPost_ret (results_tmp2 rfl _ _ _) rfl ?_
    exact ⟨rfl, rfl⟩
  · have h2 : (0 : Int) < r := by omega
    go_enter Try.func18, Try.ntmps18
    go_wp2_with fail
    refine K.mono ?_
    rintro e w' ⟨rfl, rfl⟩
    clear K
    go_wp2_with fail
    refine bodyPost_ret (results_tmp2 rfl _ _ _) rfl ?_
    exact ⟨rfl, rfl⟩
end
end Go.Proofs.Ytahaoodklfmddaa
