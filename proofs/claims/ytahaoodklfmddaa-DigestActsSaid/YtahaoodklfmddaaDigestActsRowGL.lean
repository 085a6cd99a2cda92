/- The texts DigFit DigMerge, one behind the other; each one's own comment says what it holds. -/
import Derived.Test.YtahaoodklfmddaaDigestActsRowGD
import Derived.Test.YtahaoodklfmddaaDigestActsRowGH
import Derived.Test.YtahaoodklfmddaaDigFew
import Derived.Test.YtahaoodklfmddaaDigestActsRowGE
import Derived.Test.YtahaoodklfmddaaDigestActsRowGA
import Derived.Test.YtahaoodklfmddaaDigPlaces
/- Contract of digest's fit: the levels gone through till nothing changes, where there are too many nodes. Conditions: a digest that was made, of at most 100000 nodes. -/
set_option maxRecDepth 100000
namespace Go.Proofs.Ytahaoodklfmddaa
open Go.RowKit Go.Maps Go.Sort Go.Shelf

/-- what fit leaves -/
def FitP (T : Tags) (i : Nat) (w : World) (p k n : Nat) (L : DL) (e : Ending) (w' : World) : Prop :=
  e = .returned (.tuple #[]) ∧ ∃ L' : DL, (L.length ≤ 3 * k + 64 → L' = L) ∧ (3 * k + 64 < L.length → FitL ((n / k : Nat) : Int) L L') ∧ LInv n L' ∧ Goes T i w (Dl p k n L') w'

set_option maxHeartbeats 1000000 in
theorem fit_at {T : Tags} {i : Nat} {w : World} {p k n b : Nat} {L : DL} (h : DkAt T i w p k n b L) (hk1 : 1 ≤ k) (hk : k ≤ 64) (hI : LInv n L) (hn : n ≤ 1125899906842624) :
    Calls Try.prog 25 #[.pointer (some ⟨p, 0, none⟩)] w (FitP T i w p k n L) := by
  by_cases hl : L.length ≤ 3 * k + 64
  · refine (fit_few h hk hl).mono ?_
    rintro e w' ⟨rfl, rfl⟩
    exact ⟨rfl, L, fun _ => rfl, fun h2 => absurd hl (by omega), hI, Goes.start ⟨b, h⟩⟩
  · obtain ⟨c0, c1, c2, _⟩ := h.cells
    have K := room_at hk c0
    have hlen := h.map.len
    have t0 : decide ((L.length : Int) ≤ ((3 * k + 64 : Nat) : Int)) = false := decide_eq_false (by omega)
    obtain ⟨R, hR⟩ : ∃ R : Int, ((3 * k + 64 : Nat) : Int) = R := ⟨_, rfl⟩
    rw [hR] at t0 K
    obtain ⟨M, hM⟩ : ∃ M, n / k = M := ⟨_, rfl⟩
    have hMn : M ≤ n := by rw [← hM]; exact Nat.div_le_self n k
    have tM : (n : Int) / (k : Int) = (M : Int) := by rw [← hM]; simp
    have tM2 : (n : Int).tdiv (k : Int) = (M : Int) := by rw [Int.tdiv_eq_ediv_of_nonneg (by omega)]; exact tM
    have wM : IntKind.i64.wrap (M : Int) = (M : Int) := by rw [IntKind.wrap_i64]; omega
    have k0 : ¬ k = 0 := by omega
    have mixed : Try.prog.follows .mixedOrders = true := by kernel_rfl
    have S0 : Hid (Goes T i w (Dl p k n L) w ∧ LInv n L) := Lib.hid ⟨Goes.start ⟨b, h⟩, hI⟩
    have HL := Lib.hid (And.intro hl hM)
    clear h hI hR hl hk hk1 hM hMn c0 c1
    go_enter Try.func25, Try.ntmps25
    go_wp2_with fail
    refine K.mono ?_
    rintro e w' ⟨rfl, rfl⟩
    clear K
    go_wp2_with fail
    clear hlen t0 c2
    go_loopg [] (meas L).toNat (fun kx wr => ∃ L1 : DL, (meas L1).toNat ≤ kx ∧ Hid (Goes T i w (Dl p k n L1) wr ∧ LInv n L1) ∧ Hid (∀ L2, FitL (M : Int) L1 L2 → FitL (M : Int) L L2))
    case atStart => exact ⟨L, Nat.le_refl _, S0, fun _ h => h⟩
    case round =>
      clear S0
      obtain ⟨L1, hkx, HS, HF⟩ := hrel
      obtain ⟨⟨T1, n1, e1, b1, hd⟩, hI1⟩ := HS.out
      have d0 := hd.cells.1
      have d1 := hd.cells.2.1
      have K := liftAll_at (most := (M : Int)) (Framed.below (Dl.framed p k n L1) ⟨b1, hd⟩ (⟨rfl, rfl, rfl, Nat.le_refl _, fun _ _ => rfl⟩ : Below wr.heap.size wr wr.drew)) hI1 hn
      have HG := Lib.hid (And.intro n1 e1)
      have HI1 := Lib.hid hI1
      clear hd n1 e1 hI1 HS
      go_wp2_with fail
      refine wp_region_mix (fun V => V.cell? ⟨p, 0, none⟩ = some (.int .i64 k) ∧ V.cell? ⟨p, 1, none⟩ = some (.int .i64 n)) 10 [(true, 0), (true, 1), (true, 2), (true, 3), (true, 4), (true, 5), (true, 6), (true, 7), (true, 8), (true, 9), (false, 10)] (by kernel_rfl) (by decide +kernel) rfl (by decide +kernel) ⟨d0, d1⟩ ?_
      iterate 10
        refine wpMix_take (v := ?_) rfl rfl ?_ ?_
        rotate_left
        · (intro W hW; (try dsimp only at hW); go_simp) <;> with_reducible rfl
        simp only [Act.put, List.setIfInBounds_toArray, List.set_cons_zero, List.set_cons_succ]
      refine wpMix_run rfl ?_
      intro K2 hK
      go_wp2_with fail
      refine K.mono ?_
      rintro e w5 ⟨L2, ch, rfl, hO, hI2, hG2⟩
      clear K
      have hon := outer_onto hO HI1.out
      have HG2 : Hid (Goes T i w (Dl p k n L2) w5 ∧ LInv n L2) := Lib.hid ⟨Goes.after HG.out.1 (HG.out.2.drew) hG2, hI2⟩
      cases ch with
      | true =>
        have hlt : meas L2 < meas L1 := by
          rcases hon.less rfl with h | h
          · cases h
          · exact h
        have h0 := meas_low hI2.low
        have HF2 : Hid (∀ L3, FitL (M : Int) L2 L3 → FitL (M : Int) L L3) := Lib.hid fun L3 h3 => HF.out L3 (.again hO h3)
        clear hon hO hI2 hG2 HF
        go_wp2_with fail
        refine hK.out _ _ (fun h => absurd rfl h) ?_
        clear hK K2
        refine wpMix_nil ?_
        go_wp2_with fail
        go_roundg (meas L2).toNat
        case measure => omega
        case rel => exact ⟨L2, Nat.le_refl _, HG2, HF2⟩
      | false =>
        have HF2 : Hid (FitL (M : Int) L L2) := Lib.hid (HF.out L2 (.last hO))
        clear hon hO hI2 hG2 HF
        go_wp2_with fail
        refine hK.out _ _ (fun h => absurd rfl h) ?_
        clear hK K2
        refine wpMix_nil ?_
        go_wp2_with fail
        go_end0
        exact ⟨rfl, L2, fun h2 => absurd h2 HL.out.1, fun _ => by rw [HL.out.2]; exact HF2.out, HG2.out.2, HG2.out.1⟩
end Go.Proofs.Ytahaoodklfmddaa
/- Contract of digest's Merge: the other's nodes added one after the other, then fit. Conditions: both made, of one k, few nodes, at most 2^50 numbers. -/
set_option maxRecDepth 100000
namespace Go.Proofs.Ytahaoodklfmddaa
open Go.RowKit Go.Maps Go.Sort Go.Shelf

theorem total_app (A B : DL) : total (A ++ B) = total A + total B := csum_append _ A B
theorem total_take {m : Nat} {N : DL} (hJ : LInv m N) (j : Nat) : 0 ≤ total (N.take j) ∧ total (N.take j) ≤ m := by
  have hs := hJ.inv.sum
  have e : total N = total (N.take j) + total (N.drop j) := by rw [← total_app, List.take_append_drop]
  have h1 := csum_nonneg (fun _ => true) (L := N.take j) (fun q hq => hJ.inv.pos q (List.mem_of_mem_take hq))
  have h2 := csum_nonneg (fun _ => true) (L := N.drop j) (fun q hq => hJ.inv.pos q (List.mem_of_mem_drop hq))
  unfold total at *
  omega
theorem take_more {N : DL} {j : Nat} {p : Nat × Int} (h : N[j]? = some p) : N.take (j + 1) = N.take j ++ [p] := by
  obtain ⟨hl, e⟩ := List.getElem?_eq_some_iff.1 h
  rw [List.take_succ_eq_append_getElem hl, e]
theorem addAll_le (A N : DL) (hA : DAsc A) (hpA : ∀ q ∈ A, 1 ≤ q.2) (hpN : ∀ q ∈ N, 1 ≤ q.2) (x : Nat) : 0 ≤ dcnt (addAll A N) x ∧ dcnt (addAll A N) x ≤ total A + total N := by
  have h0 := addAll_pos N A hpA hpN
  refine ⟨dcnt_nonneg h0 x, ?_⟩
  have h1 := csum_at (addAll_asc N A hA) x
  have h2 := csum_le_total (fun c => decide (c = x)) h0
  have h3 := addAll_csum (fun _ => true) N A hA
  unfold total at *
  omega
theorem kV_form2 (c : Nat) : kV c = .agg #[.int .i64 ((c / 18446744073709551616 : Nat) : Int), .int .u64 ((c % 18446744073709551616 : Nat) : Int)] := rfl

set_option maxHeartbeats 8000000 in
theorem merge_at {T : Tags} {i : Nat} {w : World} {p k n b q m b2 : Nat} {L N : DL} (h : DkAt T i w p k n b L) (o0 : w.cell? ⟨q, 0, none⟩ = some (.int .i64 k)) (o1 : w.cell? ⟨q, 1, none⟩ = some (.int .i64 m)) (o2 : w.cell? ⟨q, 2, none⟩ = some (.map (some b2))) (hN : PAt w b2 N)
    (hk1 : 1 ≤ k) (hk : k ≤ 64) (hI : LInv n L) (hJ : LInv m N) (hn : n + m ≤ 1125899906842624) (hl : L.length + N.length ≤ 100000) :
    Calls Try.prog 11 #[.pointer (some ⟨p, 0, none⟩), .pointer (some ⟨q, 0, none⟩)] w fun e w' => e = .returned (.int .i64 0) ∧ FitP T i w p k (n + m) (addAll L N) (.returned (.tuple #[])) w' := by
  obtain ⟨c0, c1, c2, _⟩ := h.cells
  have KM := made_at hk1 c0
  have KO := Lib.hid (fun n => made_at (w := w.drewN n) hk1 o0)
  have KN := Lib.hid (fun z => nodes_at (w := w.drewN z) o0 hk1 o2 (hN.of_block (w' := w.drewN z) rfl) (show N.length ≤ 100000 by omega))
  have hs : ¬ (1125899906842624 : Int) - (n : Int) < (m : Int) := by omega
  have ws : IntKind.i64.wrap ((1125899906842624 : Int) - (n : Int)) = (1125899906842624 : Int) - (n : Int) := by rw [IntKind.wrap_i64]; omega
  have HH := Lib.hid h
  have HIJ := Lib.hid (And.intro hI hJ)
  have HNL := Lib.hid (And.intro hn hl)
  have HK := Lib.hid (And.intro hk1 hk)
  clear h hI hJ hn hl hk1 hk hN c2
  go_enter Try.func11, Try.ntmps11
  go_wp2_with fail
  refine KM.mono ?_
  rintro e w' ⟨rfl, rfl⟩
  clear KM
  go_wp2_with fail
  go_quiet ((exact Calls.quiet_of_same ((KO.out _).mono fun _ _ ⟨h, hw⟩ => ⟨h, hw.symm⟩)))
  go_wp2_with fail
  obtain ⟨z1, rfl⟩ : ∃ z, z = nq := ⟨_, rfl⟩
  go_quiet (fail)
  go_wp2_with fail
  refine (KN.out _).mono ?_
  rintro e w3 ⟨g, c, rfl, hg, hc, hR, hBel⟩
  have hB3 : Below w.heap.size w w3 := (below_drewN w _).trans hBel
  have hgw : w.heap.size ≤ g := hg
  obtain ⟨T2, hT2⟩ : ∃ T2 : Tags, T2 = fun x => if x < w.heap.size then T x else none := ⟨_, rfl⟩
  have G0 : Hid (Goes T2 i w3 (Dl p k n L) w3) := Lib.hid (by
    refine Goes.start (Framed.below (Dl.framed p k n L) ⟨b, ?_⟩ hB3)
    rw [hT2]
    exact HH.out.rebase)
  have HTG : Hid (T2 g ≠ some i) := Lib.hid fun e => by
    rw [hT2] at e
    simp only at e
    rw [if_neg (by omega)] at e
    cases e
  have HCH : Hid (∀ (A : Thing) (wz : World), Goes T2 i w3 A wz → Goes T i w A wz) := Lib.hid fun A wz hz => by
    refine Goes.after (T1 := T2) (fun x hx => ?_) (Else.of_below hB3) hz
    rw [hT2]
    simp only
    rw [if_pos hx]
  have HR := Lib.hid (And.intro hR.2 (fun (j : Nat) (y : Nat × Int) (hy : N[j]? = some y) => hR.cell hy))
  have hcl : N.length ≤ 100000 := by have := HNL.out.2; omega
  clear KN hBel hB3 hgw hT2 hg hR c0 c1 o0 o1 o2 hs ws KO HH
  go_wp2_with fail
  go_loopw [40] (fun s wr => ∃ j : Nat, s = .int .i64 j ∧ j ≤ N.length ∧ Hid (Goes T2 i w3 (Dl p k ((n : Int) + total (N.take j)) (addAll L (N.take j))) wr)) (fun s _ => N.length - (intOf s).toNat)
  case atStart => exact ⟨0, rfl, Nat.zero_le _, Lib.hid (by have := G0.out; simpa [total, csum, addAll] using this)⟩
  case round =>
    clear G0
    obtain ⟨j, rfl, hj, HS⟩ := hrel
    by_cases hlt : j < N.length
    · have hz : (j : Int) < (N.length : Int) := by omega
      obtain ⟨y, hy⟩ : ∃ y, N[j]? = some y := ⟨_, List.getElem?_eq_getElem hlt⟩
      obtain ⟨r0, r1, r2⟩ := HR.out.2 j y hy
      obtain ⟨T3, n3, e3, b3, hd3⟩ := HS.out
      have hgk := e3.block g HR.out.1 HTG.out
      have x0 : wr.cell? ⟨g, j * 3, none⟩ = some (.int .i64 ((y.1 / 18446744073709551616 : Nat) : Int)) := by rw [World.cell?_of_block hgk]; exact r0
      have x1 : wr.cell? ⟨g, j * 3 + 1, none⟩ = some (.int .u64 ((y.1 % 18446744073709551616 : Nat) : Int)) := by rw [World.cell?_of_block hgk]; exact r1
      have x2 : wr.cell? ⟨g, j * 3 + 2, none⟩ = some (.int .i64 y.2) := by rw [World.cell?_of_block hgk]; exact r2
      have hym : y ∈ N := List.mem_of_getElem? hy
      have hkin : KIn y.1 := kin_of_low (HIJ.out.2.low y hym)
      have hle := addAll_le L (N.take j) HIJ.out.1.inv.asc HIJ.out.1.inv.pos (fun q hq => HIJ.out.2.inv.pos q (List.mem_of_mem_take hq)) y.1
      have ht1 := total_take HIJ.out.2 j
      have ht2 := total_take HIJ.out.2 (j + 1)
      have hsum1 : total L = n := HIJ.out.1.inv.sum
      have htk := take_more hy
      have hts : total (N.take (j + 1)) = total (N.take j) + y.2 := by rw [htk, total_app]; simp [total, csum]
      have hyp := HIJ.out.2.inv.pos y hym
      have hln := addAll_len (N.take j) L
      have KA := Lib.hid (fun (W : World) (hb : Below wr.heap.size wr W) => add_at (w := W) (T := T3) (i := i) (p := p) (k := k) (n := (n : Int) + total (N.take j)) (L := addAll L (N.take j)) (b := b3)
        ⟨(hb.block p (lt_of_heap hd3.head)).trans hd3.head, hd3.tp, hd3.map.of_block (hb.block b3 hd3.map.lt), hd3.tb⟩ (id := y.1) (c := y.2) hkin (by have := HNL.out.1; unfold InI; omega) (by have := HNL.out.1; unfold InI; omega) (by have := HNL.out.2; rw [List.length_take] at hln; unfold maxLen; omega))
      have HNX : Hid (∀ W w5, Below wr.heap.size wr W → Goes T3 i W (Dl p k ((n : Int) + total (N.take j) + y.2) (putD y.1 (dcnt (addAll L (N.take j)) y.1 + y.2) (addAll L (N.take j)))) w5 → Goes T2 i w3 (Dl p k ((n : Int) + total (N.take (j + 1))) (addAll L (N.take (j + 1)))) w5) := Lib.hid fun W w5 hb hG => by
        rw [hts, htk, addAll_snoc, ← Int.add_assoc]
        exact Goes.after n3 e3 (Goes.after (T1 := T3) (fun _ _ => rfl) (Else.of_below hb) hG)
      obtain ⟨lv, hlv⟩ : ∃ lv : Int, ((y.1 / 18446744073709551616 : Nat) : Int) = lv := ⟨_, rfl⟩
      obtain ⟨pr, hpr⟩ : ∃ pr : Int, ((y.1 % 18446744073709551616 : Nat) : Int) = pr := ⟨_, rfl⟩
      obtain ⟨cn, hcn⟩ : ∃ cn : Int, y.2 = cn := ⟨_, rfl⟩
      rw [kV_form2, hlv, hpr] at KA
      rw [hcn] at KA HNX x2
      rw [hlv] at x0
      rw [hpr] at x1
      obtain ⟨X, hX⟩ : ∃ X, wr.alloc (.cells #[.int .i64 lv, .int .u64 pr, .int .i64 cn] 50) = X := ⟨_, rfl⟩
      have hbX : Below wr.heap.size wr X := by rw [← hX]; exact (Below.refl _ wr).alloc (Nat.le_refl _) _
      obtain ⟨G, hG⟩ : ∃ G, wr.heap.size = G := ⟨_, rfl⟩
      have hxX : X.heap[G]? = some (.cells #[.int .i64 lv, .int .u64 pr, .int .i64 cn] 50 (0, 0)) := by rw [← hX, ← hG]; exact heap_alloc_new _ _
      have f0 : X.cell? ⟨G, 0, none⟩ = some (.int .i64 lv) := by rw [cell_of_row _ _ _ _ _ _ hxX]; rfl
      have f1 : X.cell? ⟨G, 1, none⟩ = some (.int .u64 pr) := by rw [cell_of_row _ _ _ _ _ _ hxX]; rfl
      have f2 : X.cell? ⟨G, 2, none⟩ = some (.int .i64 cn) := by rw [cell_of_row _ _ _ _ _ _ hxX]; rfl
      have HBX := Lib.hid hbX
      have KPL := Lib.hid (fun W => place_any lv pr cn W)
      clear hy r0 r1 r2 n3 e3 hd3 hgk hym hkin hle ht1 ht2 hsum1 htk hts hyp hln hlv hpr hcn hbX hxX HS
      go_wp2_with fail
      (try rw [hG])
      (try rw [hX])
      clear hX
      refine wp_region_mix (fun V => V.cell? ⟨G, 0, none⟩ = some (.int .i64 lv) ∧ V.cell? ⟨G, 1, none⟩ = some (.int .u64 pr) ∧ V.cell? ⟨G, 2, none⟩ = some (.int .i64 cn)) 5 [(true, 0), (true, 1), (true, 3), (true, 4), (false, 2), (false, 5)] (by kernel_rfl) (by decide +kernel) rfl (by decide +kernel) ⟨f0, f1, f2⟩ ?_
      iterate 4
        refine wpMix_take (v := ?_) rfl rfl ?_ ?_
        rotate_left
        · (intro W hW; (try dsimp only at hW); go_simp) <;> with_reducible rfl
        simp only [Act.put, List.setIfInBounds_toArray, List.set_cons_zero, List.set_cons_succ]
      refine wpMix_run rfl ?_
      intro K hK
      go_wp2_with fail
      refine (KPL.out _).mono ?_
      rintro e w5 ⟨rfl, os', hw5⟩
      have hb5 : Below X.heap.size X w5 := by rw [hw5]; exact ⟨rfl, rfl, rfl, by rw [size_grow]; exact Nat.le_add_right _ _, fun k hk => heap_grow_old _ _ hk⟩
      have q0 : w5.cell? ⟨G, 0, none⟩ = some (.int .i64 lv) := by rw [hb5.cell (lt_of_cell f0)]; exact f0
      have q1 : w5.cell? ⟨G, 1, none⟩ = some (.int .u64 pr) := by rw [hb5.cell (lt_of_cell f1)]; exact f1
      have q2 : w5.cell? ⟨G, 2, none⟩ = some (.int .i64 cn) := by rw [hb5.cell (lt_of_cell f2)]; exact f2
      have hbw5 : Below wr.heap.size wr w5 := HBX.out.trans (hb5.mono HBX.out.size)
      have K5 := KA.out w5 hbw5
      have HB5 := Lib.hid hbw5
      clear hw5 hb5 f0 f1 f2 KA KPL hbw5
      go_wp2_with fail
      refine hK.out _ _ (fun _ => ⟨q0, q1, q2⟩) ?_
      clear hK K q0 q1 q2
      refine wpMix_run rfl ?_
      intro K hK
      go_wp2_with fail
      refine K5.mono ?_
      rintro e w6 ⟨rfl, HG6⟩
      have HN6 := Lib.hid (HNX.out w5 w6 HB5.out HG6.out)
      clear K5 HG6 HNX HB5
      go_wp2_with fail
      refine hK.out _ _ (fun h => absurd rfl h) ?_
      clear hK K
      refine wpMix_nil ?_
      have hw64 : IntKind.i64.wrap ((j : Int) + 1) = (j : Int) + 1 := by rw [IntKind.wrap_i64]; omega
      go_wp2_with fail
      go_roundw
      case rel => exact ⟨j + 1, by go_num, hlt, HN6⟩
      case measure => simp [intOf]; omega
    · obtain rfl : j = N.length := by omega
      have hz : ¬ (N.length : Int) < (N.length : Int) := by omega
      have HS1 := HS.out
      rw [List.take_length] at HS1
      have hm : total N = m := HIJ.out.2.inv.sum
      rw [hm] at HS1
      obtain ⟨T3, n3, e3, b3, hd3⟩ := HS1
      have hd4 : DkAt T3 i wr p k ((n + m : Nat) : Int) b3 (addAll L N) := by rw [Int.natCast_add]; exact hd3
      have KF := fit_at hd4 HK.out.1 HK.out.2 (HIJ.out.1.addAll HIJ.out.2 HNL.out.2) HNL.out.1
      have HNE := Lib.hid (And.intro n3 e3)
      clear hd3 hd4 n3 e3 hm HS
      go_wp2_with fail
      refine KF.mono ?_
      rintro e w6 ⟨rfl, L', g1, g2, g3, g4⟩
      have FIN : Hid (FitP T i w p k (n + m) (addAll L N) (.returned (.tuple #[])) w6) := Lib.hid ⟨rfl, L', g1, g2, g3, HCH.out _ _ (Goes.after HNE.out.1 HNE.out.2 g4)⟩
      clear KF g1 g2 g3 g4
      go_wp2_with fail
      go_ret
      exact ⟨rfl, FIN.out⟩
end Go.Proofs.Ytahaoodklfmddaa
