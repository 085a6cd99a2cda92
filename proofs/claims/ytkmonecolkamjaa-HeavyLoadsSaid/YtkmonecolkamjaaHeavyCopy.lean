/- Contracts of heavy's Copy, of Merge with itself and of a Merge without room, of Top at any int. Conditions: sketches that were made. -/
import Derived.Test.YtkmonecolkamjaaHeavySide
import Derived.Test.YtkmonecolkamjaaSched2
set_option maxRecDepth 100000
namespace Go.Proofs.Ytkmonecolkamjaa
open Go.RowKit Go.Maps Go.Sort Go.Shelf

theorem clone_ints {w : World} {b : Nat} {L : CL} (hM : MapAt w b L) :
    Calls Try.prog 32 #[.map (some b)] w fun e w' => e = .returned (.map (some w.heap.size)) ∧ MapAt w' w.heap.size L ∧ Below w.heap.size w w' := by
  refine (AnyW.maps_Clone_owns Try.cloneInts 3 (plainElem Try.prog 3) b L.length (mapD L) w hM.own).mono ?_
  rintro e w' ⟨rfl, h1, _, h2⟩
  exact ⟨rfl, ⟨hM.asc, hM.inI, h1⟩, h2⟩

set_option maxHeartbeats 3200000 in
theorem copy_any {T : Tags} {i j : Nat} {w : World} {p : Nat} {V : HV} (h : Hk p V T i w) :
    Calls Try.prog 17 #[.pointer (some ⟨p, 0, none⟩)] w fun e w' => ∃ q, e = .returned (.pointer (some ⟨q, 0, none⟩)) ∧ Below w.heap.size w w' ∧ ∃ T', Next T w T' ∧ Hk q V T' j w' := by
  obtain ⟨b, h, hG⟩ := h
  obtain ⟨c0, c1, c2, _⟩ := h.cells
  have KM := made_yes c0 hG.m1
  have KC := clone_ints (h.map.of_block (w' := w.drew) rfl)
  have SC := Lib.hid fun W (hb : Below w.heap.size w W) => (show W.cell? ⟨p, 0, none⟩ = some (.int .i64 V.m) ∧ W.cell? ⟨p, 1, none⟩ = some (.int .i64 V.n) ∧ W.cell? ⟨p, 2, none⟩ = some (.map (some b)) from by
    have e : ∀ {x u}, w.cell? x = some u → W.cell? x = some u := fun {x u} hx => by rw [hb.cell (World.block_lt_of_cell? w _ hx)]; exact hx
    exact ⟨e c0, e c1, e c2⟩)
  have HG := Lib.hid hG
  clear h hG
  go_enter Try.func17, Try.ntmps17
  go_wp2_with fail
  refine KM.mono ?_
  rintro e w' ⟨rfl, rfl⟩
  clear KM
  go_wp2_with fail
  refine wp_region_mix (fun W => W.cell? ⟨p, 0, none⟩ = some (.int .i64 V.m) ∧ W.cell? ⟨p, 1, none⟩ = some (.int .i64 V.n) ∧ W.cell? ⟨p, 2, none⟩ = some (.map (some b))) 16 [(true, 0), (true, 1), (true, 2), (true, 3), (true, 4), (true, 5), (true, 6), (true, 7), (true, 8), (true, 9), (true, 10), (true, 11), (false, 12), (false, 13), (false, 14), (false, 15)] (by kernel_rfl) (by decide +kernel) rfl (by decide +kernel) ⟨c0, c1, c2⟩ ?_
  iterate 12
    refine wpMix_take (v := ?_) rfl rfl ?_ ?_
    rotate_left
    · (intro W hW; (try dsimp only at hW); go_simp) <;> with_reducible rfl
    simp only [Act.put, List.setIfInBounds_toArray, List.set_cons_zero, List.set_cons_succ]
  refine wpMix_run rfl ?_
  intro K hK
  go_wp2_with fail
  refine KC.mono ?_
  rintro e w1 ⟨rfl, hM, hb⟩
  have hb1 : Below w.heap.size w w1 := (below_drew1 w).trans hb
  go_wp2_with fail
  refine hK.out _ _ (fun _ => SC.out _ hb1) ?_
  clear hK K KC
  refine wpMix_run rfl ?_
  intro K hK
  go_wp2_with fail
  refine hK.out _ _ (fun _ => SC.out _ hb1) ?_
  clear hK K
  have hb2 : Below w.heap.size w (w1.alloc (.cells #[.int .i64 V.m, .int .i64 V.n, .map (some w.heap.size)] 57)) := hb1.alloc hb1.size _
  refine wpMix_run rfl ?_
  intro K hK
  go_wp2_with fail
  refine hK.out _ _ (fun _ => SC.out _ hb2) ?_
  clear hK K
  refine wpMix_run rfl ?_
  intro K hK
  go_wp2_with fail
  refine hK.out _ _ (fun _ => SC.out _ hb2) ?_
  clear hK K
  refine wpMix_nil ?_
  have FIN : Hid (∃ q, (Ending.returned (.pointer (some ⟨w1.heap.size, 0, none⟩)) : Ending) = .returned (.pointer (some ⟨q, 0, none⟩)) ∧ Below w.heap.size w (w1.alloc (.cells #[.int .i64 V.m, .int .i64 V.n, .map (some w.heap.size)] 57)) ∧
      ∃ T', Next T w T' ∧ Hk q V T' j (w1.alloc (.cells #[.int .i64 V.m, .int .i64 V.n, .map (some w.heap.size)] 57))) := Lib.hid
    ⟨_, rfl, hb2, T.one w.heap.size (some j), T.one_next w _, w.heap.size, ⟨heap_alloc_new w1 _, by unfold Tags.one; rw [if_neg (by have := hb1.size; omega)], hM.of_block (heap_alloc_old w1 _ hM.lt), by unfold Tags.one; rw [if_neg (by omega)]⟩, HG.out⟩
  clear hM hb hb1 hb2 SC c0 c1 c2
  go_wp2_with fail
  go_ret
  exact FIN.out

set_option maxHeartbeats 3200000 in
theorem merge_full {T : Tags} {i j : Nat} {w : World} {p q : Nat} {V U : HV} (h : Hk p V T i w) (h' : Hk q U T j w) (hm : U.m = V.m) (hn : 1125899906842624 < V.n + U.n) :
    Calls Try.prog 14 #[.pointer (some ⟨p, 0, none⟩), .pointer (some ⟨q, 0, none⟩)] w fun e w' => e = .returned (.int .i64 7) ∧ Below w.heap.size w w' := by
  obtain ⟨b, h, hV⟩ := h
  obtain ⟨b', h', hU⟩ := h'
  obtain ⟨c0, c1, _, _⟩ := h.cells
  obtain ⟨d0, d1, _, _⟩ := h'.cells
  rw [hm] at d0
  have n1 := hV.n50
  have n2 := hU.n50
  have KP := made_yes c0 hV.m1
  have KQ := Lib.hid (fun n => made_yes (w := w.drewN n) (p := q) (m := V.m) (by exact d0) hV.m1)
  have hs : decide ((1125899906842624 : Int) - (V.n : Int) < (U.n : Int)) = true := decide_eq_true (by omega)
  have hs' : (1125899906842624 : Int) - (V.n : Int) < (U.n : Int) := by omega
  have ws : IntKind.i64.wrap ((1125899906842624 : Int) - (V.n : Int)) = (1125899906842624 : Int) - (V.n : Int) := by rw [IntKind.wrap_i64]; omega
  clear h h' hV hU hm hn n1 n2
  go_enter Try.func14, Try.ntmps14
  go_wp2_with fail
  refine KP.mono ?_
  rintro e w' ⟨rfl, rfl⟩
  clear KP
  go_wp2_with fail
  go_quiet ((exact Calls.quiet_of_same ((KQ.out _).mono fun _ _ ⟨h, hw⟩ => ⟨h, hw.symm⟩)))
  go_wp2_with fail
  go_quiet (fail)
  go_wp2_with fail
  go_ret
  exact ⟨rfl, by rw [World.drewN_drewN]; exact below_drewN _ _⟩

set_option maxHeartbeats 2000000 in
theorem top_int {w : World} {p m b : Nat} {L : CL} (c0 : w.cell? ⟨p, 0, none⟩ = some (.int .i64 m)) (h1 : 1 ≤ m) (c2 : w.cell? ⟨p, 2, none⟩ = some (.map (some b))) (hM : MapAt w b L) (hl : L.length ≤ 100000) (z : Int) (K : Nat) (hK : min (max z 0) (L.length : Int) = (K : Int)) :
    Calls Try.prog 23 #[.pointer (some ⟨p, 0, none⟩), .int .i64 z] w fun e w' => ∃ g c R, e = .returned (.slice (some ⟨g, 0, none⟩) K c) ∧ K ≤ c ∧ w.heap.size ≤ g ∧ Ranked L R ∧ RowP w' g R ∧ Below w.heap.size w w' := by
  have KC := counters_at c0 h1 c2 hM hl
  have HA := Lib.hid hM.asc
  obtain ⟨N, hN⟩ : ∃ N, L.length = N := ⟨_, rfl⟩
  have HN := Lib.hid hN
  rw [hN] at hK
  have hKN : K ≤ N := by omega
  clear c0 h1 c2 hM
  go_enter Try.func23, Try.ntmps23
  go_wp2_with fail
  refine KC.mono ?_
  rintro e w1 ⟨g, c, rfl, hg, hc, hR, hB⟩
  have KS := sort_top (c := c) hR HA.out (by omega)
  have HB := Lib.hid (And.intro hB (And.intro hg hc))
  rw [hN] at hc KS ⊢
  clear KC hR hB hg
  go_wp2_with fail
  refine KS.mono ?_
  rintro e w2 ⟨rfl, H⟩
  clear KS
  have hkc : K ≤ c := by omega
  have hkz : (K : Int) ≤ (c : Int) := by omega
  go_wp2_with fail
  go_ret
  obtain ⟨R, r1, r2, r3⟩ := H.out
  exact ⟨g, c, R, rfl, hkc, HB.out.2.1, r1, r2, HB.out.1.grown r3 HB.out.1.size (fun j hj => by cases hj; exact HB.out.2.1)⟩

set_option maxHeartbeats 16000000 in
theorem merge_self {T : Tags} {i : Nat} {w : World} {p : Nat} {V : HV} (h : Hk p V T i w) (hn : V.n + V.n ≤ 1125899906842624) :
    Calls Try.prog 14 #[.pointer (some ⟨p, 0, none⟩), .pointer (some ⟨p, 0, none⟩)] w fun e w' => e = .returned (.int .i64 0) ∧ Hid (∃ V', MergeP V V V' ∧ Goes T i w (Hk p V') w') := by
  obtain ⟨b, h, hV⟩ := h
  have h' := h
  have hU := hV
  have hm : V.m = V.m := rfl
  obtain ⟨c0, c1, c2, f0⟩ := h.cells
  obtain ⟨d0, d1, d2, _⟩ := h'.cells
  have f1 := f0 1
  have KP := made_yes c0 hV.m1
  have KQ := Lib.hid (fun n => made_yes (w := w.drewN n) (p := p) (m := V.m) (by exact d0) hV.m1)
  have hs : ¬ (1125899906842624 : Int) - (V.n : Int) < (V.n : Int) := by omega
  have ws : IntKind.i64.wrap ((1125899906842624 : Int) - (V.n : Int)) = (1125899906842624 : Int) - (V.n : Int) := by rw [IntKind.wrap_i64]; omega
  have wn : IntKind.i64.wrap ((V.n : Int) + (V.n : Int)) = (V.n : Int) + (V.n : Int) := by rw [IntKind.wrap_i64]; omega
  have HH := Lib.hid (And.intro h h')
  have HG := Lib.hid (And.intro hV hU)
  have HM := Lib.hid (And.intro hm hn)
  clear h h' hV hU hm hn f0
  go_enter Try.func14, Try.ntmps14
  go_wp2_with fail
  refine KP.mono ?_
  rintro e w' ⟨rfl, rfl⟩
  clear KP
  go_wp2_with fail
  go_quiet ((exact Calls.quiet_of_same ((KQ.out _).mono fun _ _ ⟨h, hw⟩ => ⟨h, hw.symm⟩)))
  go_wp2_with fail
  obtain ⟨W, hW⟩ : ∃ W, w.drewN nq = W := ⟨_, rfl⟩
  have HA : Hid (HkAt T i W p V.m V.n b V.L ∧ HkAt T i W p V.m V.n b V.L ∧ Else (fun x => T x = some i) w W) := by
    rw [← hW]
    have e2 := HH.out.2
    exact ⟨HH.out.1.drewN nq, e2.drewN nq, (Else.refl _ w).drewN nq⟩
  rw [hW]
  clear hW nq c0 c1 c2 d0 d1 d2 f1 KQ HH
  obtain ⟨c0, c1, c2, f0⟩ := HA.out.1.cells
  obtain ⟨d0, d1, d2, _⟩ := HA.out.2.1.cells
  have f1 := f0 1
  clear f0
  go_quiet (fail)
  obtain ⟨W1, hW⟩ : ∃ W1, W.drewN nq = W1 := ⟨_, rfl⟩
  have HB : Hid (HkAt T i W1 p V.m V.n b V.L ∧ HkAt T i W1 p V.m V.n b V.L ∧ Else (fun x => T x = some i) w W1) := by
    rw [← hW]
    exact ⟨HA.out.1.drewN nq, HA.out.2.1.drewN nq, HA.out.2.2.drewN nq⟩
  rw [hW]
  clear hW nq c0 c1 c2 d0 d1 d2 f1 HA
  obtain ⟨c0, c1, c2, f0⟩ := HB.out.1.cells
  obtain ⟨d0, d1, d2, _⟩ := HB.out.2.1.cells
  have f1 := f0 1
  clear f0
  go_wp2_with fail
  clear hs ws
  go_region
  clear c0 c1 c2 d0 d1 d2 f1 wn
  go_wp2_with fail
  obtain ⟨W2, hW⟩ : ∃ W2, (W1.setCell ⟨p, 1, none⟩ (.int .i64 ((V.n : Int) + (V.n : Int)))).drew = W2 := ⟨_, rfl⟩
  have HD : Hid (HkAt T i W2 p V.m (V.n + V.n) b V.L ∧ HkAt T i W2 p V.m (V.n + V.n) b V.L ∧ Else (fun x => T x = some i) w W2) := by
    have e1 := (HB.out.1.set_total (V.n + V.n)).drewN 1
    have e3 := (HB.out.2.2.setCell (p := ⟨p, 1, none⟩) (.inl HB.out.1.tp) (.int .i64 ((V.n + V.n : Nat) : Int))).drewN 1
    have e4 : ((V.n + V.n : Nat) : Int) = (V.n : Int) + (V.n : Int) := by simp
    rw [e4] at e1 e3
    rw [← hW]
    exact ⟨e1, e1, e3⟩
  rw [hW]
  clear hW HB
  obtain ⟨d0, _, d2, _⟩ := HD.out.2.1.cells
  have hl1 := HG.out.1.len
  have hl2 := HG.out.2.len
  have hl3 := HG.out.1.m64
  have hl4 := HM.out.1
  have KC := counters_at d0 HG.out.1.m1 d2 HD.out.2.1.map (by omega)
  clear d0 d2
  refine KC.mono ?_
  rintro e w3 ⟨g, c, rfl, hg, hc, hR, hBel⟩
  have hb := HD.out.1.map.lt
  have hp := lt_of_heap HD.out.1.head
  have X0 : Hid (AddAt w3 w3 p V.m (V.n + V.n) b g V.L V.L 0) := Lib.hid
    { head := (hBel.block p hp).trans HD.out.1.head
      row := hR
      map := HD.out.1.map.of_block (hBel.block b hb)
      own := World.grownBy.refl _ _ }
  have hgb : g ≠ b := by omega
  have HE : Hid (Else (fun x => T x = some i) w w3) := HD.out.2.2.trans (Else.of_below (O := fun _ => False) hBel) (fun _ h => h.elim)
  have hl0 : (V.L.length : Int) ≤ 100 := by omega
  have HI : Hid (∀ x ∈ V.L, InI x.1) := fun x hx => (HD.out.2.1.map.inI x hx).1
  have HAS : Hid (Asc V.L) := HD.out.1.map.asc
  have HTB : Hid (T b = some i ∧ T p = some i ∧ p ≠ b) := ⟨HD.out.1.tb, HD.out.1.tp, HD.out.1.ne⟩
  clear KC hR hBel hg hc hb hp HD
  go_wp2_with fail
  go_loopw [52] (fun s wr => ∃ k : Nat, s = .int .i64 k ∧ k ≤ V.L.length ∧ Hid (AddAt w3 wr p V.m (V.n + V.n) b g V.L V.L k)) (fun s _ => V.L.length - (intOf s).toNat)
  case atStart => exact ⟨0, rfl, Nat.zero_le _, X0⟩
  case round =>
    clear X0
    obtain ⟨k, rfl, hk, HX⟩ := hrel
    by_cases hlt : k < V.L.length
    · have hz : (k : Int) < (V.L.length : Int) := by omega
      obtain ⟨y, hy⟩ : ∃ y, V.L[k]? = some y := ⟨_, List.getElem?_eq_getElem hlt⟩
      obtain ⟨r0, r1, _, _⟩ := HX.out.row.cell hy
      have hs1 := HG.out.1.sum
      have hs2 := HG.out.2.sum
      have hs3 := HM.out.2
      obtain ⟨C, C0, C1, hlk, w4, hup, hX4⟩ := add_step HX.out HAS.out HTB.out.2.2 hgb HG.out.1.pos HG.out.2.pos (by omega) (by omega) HI.out hy (.cells #[.int .i64 y.1, .int .i64 y.2] 50)
      have cc2 : wr.cell? ⟨p, 2, none⟩ = some (.map (some b)) := by rw [cell_of_row _ _ _ _ _ _ HX.out.head]; rfl
      have hlk1 := hlk 1
      have hy1 := HG.out.2.pos y (List.mem_of_getElem? hy)
      have wk : IntKind.i64.wrap (C + y.2) = C + y.2 := by rw [IntKind.wrap_i64]; omega
      have X4 := Lib.hid hX4
      clear hy hlk hX4 HX hs1 hs2 hs3 C0 C1 hy1
      go_wp2_with fail
      obtain ⟨W, hW⟩ : ∃ W, wr.alloc (.cells #[.int .i64 y.1, .int .i64 y.2] 50) = W := ⟨_, rfl⟩
      have d2 : W.cell? ⟨p, 2, none⟩ = some (.map (some b)) := by
        rw [← hW, ((Below.refl _ wr).alloc (Nat.le_refl _) _).cell (World.block_lt_of_cell? wr _ cc2)]; exact cc2
      have d0 : W.cell? ⟨wr.heap.size, 0, none⟩ = some (.int .i64 y.1) := by
        rw [cell_of_row _ _ _ _ _ _ (hW ▸ heap_alloc_new wr _)]; rfl
      have d1 : W.cell? ⟨wr.heap.size, 1, none⟩ = some (.int .i64 y.2) := by
        rw [cell_of_row _ _ _ _ _ _ (hW ▸ heap_alloc_new wr _)]; rfl
      rw [hW] at hup hlk1 ⊢
      have hlk2 : Sem.run Try.prog (Instr.lookup 55 (.map (some b)) (.int .i64 y.1) false) W.drew = .ok (.int .i64 C) W.drew := hlk1
      clear hW hlk1 cc2 r0 r1
      go_region
      clear d2 d0 d1 hup hlk2 wk
      go_wp2_with fail
      go_roundw
      case rel => exact ⟨k + 1, by go_num, by omega, X4⟩
      case measure => simp [intOf]; omega
    · obtain rfl : k = V.L.length := by omega
      have hM := HX.out.map
      rw [List.take_length] at hM
      have e0 : wr.cell? ⟨p, 0, none⟩ = some (.int .i64 V.m) := by rw [cell_of_row _ _ _ _ _ _ HX.out.head]; rfl
      have e2 : wr.cell? ⟨p, 2, none⟩ = some (.map (some b)) := by rw [cell_of_row _ _ _ _ _ _ HX.out.head]; rfl
      have hlen := addL_len (L := V.L) V.L
      have KT := top_at e0 HG.out.1.m1 e2 hM (by omega) (V.m + 1) (by omega)
      rw [Int.natCast_add] at KT
      have wm : IntKind.i64.wrap ((V.m : Int) + 1) = (V.m : Int) + 1 := by rw [IntKind.wrap_i64]; omega
      have HMA := Lib.hid hM
      clear hM hlen e2
      go_wp2_with fail
      refine KT.mono ?_
      rintro e w4 ⟨g2, c2, R, rfl, hg2, hRk, hRow, hBel⟩
      have hbw := HX.out.map.lt
      have hpw := lt_of_heap HX.out.head
      have H4 : Hid (HkAt T i w4 p V.m (V.n + V.n) b (addL V.L V.L)) := ⟨(hBel.block p hpw).trans HX.out.head, HTB.out.2.1, HMA.out.of_block (hBel.block b hbw), HTB.out.1⟩
      have E4 : Hid (Else (fun x => T x = some i) w w4) := (HE.out.trans (Else.of_grown HX.out.own) (fun x hx => .inl (by cases hx; exact HTB.out.1))).trans (Else.of_below (O := fun _ => False) hBel) (fun _ h => h.elim)
      obtain ⟨f0, _, _, _⟩ := H4.out.cells
      have HRK := Lib.hid hRk
      have HP : Hid (∀ V', MergeP V V V' → V'.Good) := fun V' h => h.good HG.out.1 HG.out.2 HAS.out HM.out.2
      obtain ⟨A, hA⟩ : ∃ A, addL V.L V.L = A := ⟨_, rfl⟩
      have HAE := Lib.hid hA
      rw [hA] at H4 HRK ⊢
      clear KT wm hRk hBel hg2 e0 HX HMA hbw hpw hA
      by_cases hc : A.length ≤ V.m
      · obtain ⟨K, hK⟩ : ∃ K, min (V.m + 1) A.length = K := ⟨_, rfl⟩
        have hd : decide (V.m < K) = false := decide_eq_false (by omega)
        have FIN : Hid (∃ V', MergeP V V V' ∧ Goes T i w (Hk p V') w4) := by
          have hMP : MergeP V V ⟨V.m, V.n + V.n, A⟩ := ⟨rfl, rfl, .inl ⟨by rw [HAE.out]; exact hc, HAE.out.symm⟩⟩
          exact ⟨_, hMP, T, fun _ _ => rfl, E4.out, b, H4.out, HP.out _ hMP⟩
        rw [hK]
        clear hK hc
        go_wp2_with fail
        go_ret
        exact ⟨rfl, FIN⟩
      · obtain ⟨K, hK⟩ : ∃ K, min (V.m + 1) A.length = K := ⟨_, rfl⟩
        have hd : decide (V.m < K) = true := decide_eq_true (by omega)
        have hd2 : V.m < K := by omega
        have hrl : R.length = A.length := HRK.out.perm.length_eq
        obtain ⟨y, hy⟩ : ∃ y, R[V.m]? = some y := ⟨_, List.getElem?_eq_getElem (by omega)⟩
        obtain ⟨_, r1, _, _⟩ := hRow.cell hy
        have pos : ∀ x ∈ A, 1 ≤ x.2 := by rw [← HAE.out]; exact addL_pos HG.out.1.pos V.L HG.out.2.pos
        have hyA : y ∈ A := HRK.out.perm.mem_iff.1 (List.mem_of_getElem? hy)
        have tot : total A ≤ 2251799813685248 := by
          rw [← HAE.out, addL_total HAS.out]
          have := HG.out.1.sum; have := HG.out.2.sum; have := HM.out.2
          omega
        have hal : A.length ≤ 200 := by rw [← HAE.out]; have := addL_len (L := V.L) V.L; omega
        have KT := take_at H4.out HG.out.1.m1 y.2 (fun x hx => by
          have a1 := pos x hx; have a2 := le_total pos x hx; have a3 := pos y hyA; have a4 := le_total pos y hyA
          unfold InI; omega) (by omega)
        have FIN : Hid (∀ w5, Goes T i w4 (Hl p V.m (V.n + V.n) (less y.2 A)) w5 → ∃ V', MergeP V V V' ∧ Goes T i w (Hk p V') w5) := Lib.hid fun w5 hg => by
          have hMP : MergeP V V ⟨V.m, V.n + V.n, less y.2 A⟩ := ⟨rfl, rfl, .inr ⟨by rw [HAE.out]; omega, R, y, by rw [HAE.out]; exact HRK.out, hy, by rw [HAE.out]⟩⟩
          exact ⟨_, hMP, Goes.after (fun _ _ => rfl) E4.out (hg.map fun T' ⟨b2, hb2⟩ => ⟨b2, hb2, HP.out _ hMP⟩)⟩
        rw [hK]
        clear hK hc hrl hy pos hyA tot hal hRow
        go_wp2_with fail
        refine KT.mono ?_
        rintro e w5 ⟨rfl, H5⟩
        clear KT
        go_wp2_with fail
        go_ret
        exact ⟨rfl, FIN.out w5 H5.out⟩
end Go.Proofs.Ytkmonecolkamjaa
