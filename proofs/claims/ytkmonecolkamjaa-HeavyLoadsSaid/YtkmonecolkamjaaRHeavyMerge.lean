/- Contract of the reference's Merge. Conditions: sketches that were made, of one size. -/
import Derived.Test.YtkmonecolkamjaaRHeavyIns
import Derived.Test.YtkmonecolkamjaaRHeavyCopy
import Derived.Test.YtkmonecolkamjaaHeavySide
import Derived.Test.YtkmonecolkamjaaSched2
set_option maxRecDepth 100000
namespace Go.Proofs.Ytkmonecolkamjaa
open Go.RowKit Go.Maps Go.Sort

theorem MergeP.one {V U A B : HV} (h : MergeP V U A) (k : MergeP V U B) : A = B := by
  obtain ⟨a1, a2, a3⟩ := h
  obtain ⟨b1, b2, b3⟩ := k
  have e : A.L = B.L := by
    rcases a3 with ⟨x, y⟩ | ⟨x, R, q, r1, r2, r3⟩ <;> rcases b3 with ⟨x', y'⟩ | ⟨x', R', q', r1', r2', r3'⟩
    · rw [y, y']
    · omega
    · omega
    · have := ranked_eq r1 r1'
      subst this
      rw [r2] at r2'
      cases r2'
      rw [r3, r3']
  cases A; cases B
  simp only at a1 a2 b1 b2 e
  rw [a1, a2, b1, b2, e]

set_option maxHeartbeats 1600000 in
theorem rmerge_full {T : Tags} {i j : Nat} {w : World} {p q : Nat} {V U : HV} (h : RK p V T i w) (h' : RK q U T j w) (hm : U.m = V.m) (hn : 1125899906842624 < V.n + U.n) :
    Calls Try.prog 15 #[.pointer (some ⟨p, 0, none⟩), .pointer (some ⟨q, 0, none⟩)] w fun e w' => e = .returned (.int .i64 7) ∧ Below w.heap.size w w' := by
  obtain ⟨⟨v, h⟩, hV⟩ := h
  obtain ⟨⟨v', h'⟩, hU⟩ := h'
  obtain ⟨c0, c1, c2, _⟩ := h.cells
  obtain ⟨d0, d1, d2, _⟩ := h'.cells
  rw [hm] at d0
  have n1 := hV.n50
  have n2 := hU.n50
  have hs : decide ((1125899906842624 : Int) - (V.n : Int) < (U.n : Int)) = true := decide_eq_true (by omega)
  have ws : IntKind.i64.wrap ((1125899906842624 : Int) - (V.n : Int)) = (1125899906842624 : Int) - (V.n : Int) := by rw [IntKind.wrap_i64]; omega
  clear h h' hV hU hm hn c1 d1 n1 n2
  go_enter Try.func15, Try.ntmps15
  go_wp2_with fail
  go_quiet (fail)
  go_wp2_with fail
  go_quiet (fail)
  go_wp2_with fail
  go_ret
  exact ⟨rfl, by rw [World.drewN_drewN]; exact below_drewN _ _⟩

set_option maxHeartbeats 16000000 in
theorem rmerge_two {T : Tags} {i j : Nat} {w : World} {p q : Nat} {V U : HV} (h : RK p V T i w) (h' : RK q U T j w) (hij : i ≠ j) (hm : U.m = V.m) (hn : V.n + U.n ≤ 1125899906842624) :
    Calls Try.prog 15 #[.pointer (some ⟨p, 0, none⟩), .pointer (some ⟨q, 0, none⟩)] w fun e w' => e = .returned (.int .i64 0) ∧ Hid (∃ V', MergeP V U V' ∧ Goes T i w (RK p V') w') := by
  obtain ⟨⟨v, h⟩, hV⟩ := h
  obtain ⟨⟨v', h'⟩, hU⟩ := h'
  obtain ⟨ua, uc, rfl, _, _⟩ := h'.row.form2
  obtain ⟨c0, c1, c2, _⟩ := h.cells
  obtain ⟨d0, d1, d2, _⟩ := h'.cells
  rw [hm] at d0
  have hs : decide ((1125899906842624 : Int) - (V.n : Int) < (U.n : Int)) = false := decide_eq_false (by omega)
  have ws : IntKind.i64.wrap ((1125899906842624 : Int) - (V.n : Int)) = (1125899906842624 : Int) - (V.n : Int) := by rw [IntKind.wrap_i64]; omega
  have wn : IntKind.i64.wrap ((V.n : Int) + (U.n : Int)) = (V.n : Int) + (U.n : Int) := by rw [IntKind.wrap_i64]; omega
  have hul : U.L.length ≤ 64 := by have := hU.len; have := hU.m64; omega
  obtain ⟨N, hN⟩ : ∃ N, U.L.length = N := ⟨_, rfl⟩
  have hNz : (N : Int) ≤ 64 := by omega
  have HN := Lib.hid hN
  rw [hN] at d1
  have HH := Lib.hid (And.intro h h')
  have HG := Lib.hid (And.intro hV hU)
  have HM := Lib.hid (And.intro hm hn)
  have HPQ := Lib.hid hij
  clear h h' hV hU hm hn hij hN hul
  go_enter Try.func15, Try.ntmps15
  go_wp2_with fail
  go_quiet (fail)
  obtain ⟨W, hW⟩ : ∃ W, w.drewN nq = W := ⟨_, rfl⟩
  have HA : Hid (RkAt T i W p V.m V.n v V.L ∧ RkAt T j W q U.m U.n (.slice ua U.L.length uc) U.L ∧ Below w.heap.size w W) := by
    rw [← hW]
    exact ⟨HH.out.1.below (below_drewN _ _), HH.out.2.below (below_drewN _ _), below_drewN _ _⟩
  rw [hW]
  clear hW nq c0 c1 c2 d0 d1 d2
  obtain ⟨c0, _, c2, _⟩ := HA.out.1.cells
  obtain ⟨_, d1, d2, _⟩ := HA.out.2.1.cells
  go_wp2_with fail
  go_quiet (fail)
  obtain ⟨W2, hW⟩ : ∃ W2, W.drewN nq = W2 := ⟨_, rfl⟩
  have HB : Hid (RkAt T i W2 p V.m V.n v V.L ∧ RkAt T j W2 q U.m U.n (.slice ua U.L.length uc) U.L ∧ Below w.heap.size w W2) := by
    rw [← hW]
    exact ⟨HA.out.1.below (below_drewN _ _), HA.out.2.1.below (below_drewN _ _), HA.out.2.2.trans ((below_drewN _ _).mono HA.out.2.2.size)⟩
  rw [hW]
  clear hW nq c0 c2 d1 d2 HA
  obtain ⟨_, d1, _, _⟩ := HB.out.2.1.cells
  obtain ⟨g, k, W3, hrun, hO⟩ := copy_row HB.out.2.1.row (by have := HN.out; omega)
  rw [HN.out] at d1 hrun hO
  have HR1 := Lib.hid hrun
  have hB3 := HB.out.2.2.trans (hO.2.mono HB.out.2.2.size)
  -- the sketches behind the copy
  have HD : Hid (RkAt T i W3 p V.m V.n v V.L ∧ RkAt T j W3 q U.m U.n (.slice ua U.L.length uc) U.L ∧ Below w.heap.size w W3 ∧ RowP W3 g U.L ∧ w.heap.size ≤ g ∧ g < W3.heap.size) :=
    ⟨HB.out.1.below hO.2, HB.out.2.1.below hO.2, hB3, RowC.rowP hO.1, Nat.le_trans HB.out.2.2.size (ownsRow_ge hO.1 g rfl), (hO.1.lt g rfl).2⟩
  have hqs : q < W2.heap.size := lt_of_heap HB.out.2.1.head
  clear hrun hO hB3 HB ws hs
  go_wp2_with (at_builtin; refine wpList_append_run rfl _ _ 63 rfl rfl rfl (HR1.out _) ?_)
  clear HR1 d1 hqs
  obtain ⟨T3, hT3⟩ : ∃ T3 : Tags, T3 = T.one w.heap.size none := ⟨_, rfl⟩
  have HT : Hid (Next T w T3 ∧ T3 g = none) := by
    rw [hT3]
    exact ⟨T.one_next w none, by unfold Tags.one; rw [if_neg (by have := HD.out; omega)]⟩
  -- how the loop stands
  have HI : Hid (∀ x ∈ U.L, InI x.1 ∧ InI x.2) := Lib.hid HD.out.2.1.inI
  have HAS : Hid (Asc V.L) := Lib.hid HD.out.1.asc
  have HRW := Lib.hid HD.out.2.2.2.1
  have X0 : Hid (Goes T3 i W3 (RL p V.m V.n (addL V.L (U.L.take 0))) W3) := Lib.hid (Goes.start
    (RL.framed p V.m V.n V.L T T3 i w W3 ⟨v, HH.out.1⟩ HT.out.1 (fun k hk _ => HD.out.2.2.1.block k hk)))
  have HQH : Hid (W3.heap[q]? = some (.cells #[.int .i64 U.m, .slice ua U.L.length uc, .int .i64 U.n] 65 (0, 0)) ∧ T3 q ≠ some i) := Lib.hid ⟨HD.out.2.1.head, by
    rw [HT.out.1 q (lt_of_heap HH.out.2.head), HH.out.2.tp]
    exact fun e => HPQ.out (Option.some.inj e).symm⟩
  have HEL : Hid (Else (fun x => T x = some i) w W3) := Lib.hid (Else.of_below HD.out.2.2.1)
  have HPI : Hid (T3 p = some i) := Lib.hid ((HT.out.1 p (lt_of_heap HH.out.1.head)).trans HH.out.1.tp)
  clear HD HH
  go_loopw [37] (fun s wr => ∃ z : Nat, s = .int .i64 z ∧ z ≤ N ∧ Hid (Goes T3 i W3 (RL p V.m V.n (addL V.L (U.L.take z))) wr)) (fun s _ => N - (intOf s).toNat)
  case atStart => exact ⟨0, rfl, Nat.zero_le _, X0⟩
  case round =>
    clear X0
    obtain ⟨z, rfl, hz, HX⟩ := hrel
    obtain ⟨T4, n4, e4, v4, h4⟩ := HX.out
    by_cases hlt : z < N
    · have hzz : (z : Int) < (N : Int) := by omega
      obtain ⟨y, hy⟩ : ∃ y, U.L[z]? = some y := ⟨_, List.getElem?_eq_getElem (by rw [HN.out]; exact hlt)⟩
      obtain ⟨r0, r1, _, _⟩ := (HRW.out.of_block (e4.block g HRW.out.2 (by rw [HT.out.2]; exact fun h => by cases h)) e4.size).cell hy
      obtain ⟨hz', e0⟩ := List.getElem?_eq_some_iff.1 hy
      have hym : y ∈ U.L := List.mem_of_getElem? hy
      have et : U.L.take (z + 1) = U.L.take z ++ [y] := by rw [List.take_succ_eq_append_getElem hz', e0]
      have hb1 := (Below.refl _ wr).alloc (Nat.le_refl _) (.cells #[.int .i64 y.1, .int .i64 y.2] 70)
      have pos := addL_pos HG.out.1.pos (U.L.take z) fun x hx => HG.out.2.pos x (List.mem_of_mem_take hx)
      have t0 := addL_total HAS.out (U.L.take z)
      have t1 : total U.L = total (U.L.take z) + y.2 + total (U.L.drop (z + 1)) := by
        conv => lhs; rw [← List.take_append_drop (z + 1) U.L]
        rw [total_append, et, total_append]
        simp [total]
      have t2 := total_nonneg (L := U.L.drop (z + 1)) fun x hx => HG.out.2.pos x (List.mem_of_mem_drop hx)
      have y1 := HG.out.2.pos y hym
      have s1 := HG.out.1.sum
      have s2 := HG.out.2.sum
      have s3 := HM.out.2
      have ln := addL_len (L := V.L) (U.L.take z)
      have l1 := HG.out.1.len
      have l2 := HG.out.1.m64
      have KA := radd_any (h4.below hb1) y.1 y.2 (HI.out y hym).1 (HI.out y hym).2 (fun x hx => by
        have a1 := pos x hx
        have a2 := le_total pos x hx
        unfold InI; omega) (by rw [List.length_take] at ln; omega)
      have HGO := Lib.hid fun w' (h : Goes T4 i (wr.alloc (.cells #[.int .i64 y.1, .int .i64 y.2] 70)) (RL p V.m V.n (addP (addL V.L (U.L.take z)) (y.1, y.2))) w') =>
        (show Goes T3 i W3 (RL p V.m V.n (addL V.L (U.L.take (z + 1)))) w' by
          rw [et, addL_snoc]
          exact Goes.after n4 (e4.low hb1) h)
      clear hy hz' e0 hym et hb1 pos t0 t1 t2 y1 s1 s2 s3 ln l1 l2 h4 e4 n4 HX
      go_wp2_with fail
      refine KA.mono ?_
      rintro e w' ⟨rfl, H⟩
      have HX2 := Lib.hid (HGO.out w' H.out)
      clear KA H HGO
      go_wp2_with fail
      go_roundw
      case rel => exact ⟨z + 1, by go_num, by omega, HX2⟩
      case measure => simp [intOf]; omega
    · obtain rfl : z = N := by omega
      have eN : U.L.take z = U.L := List.take_of_length_le (by rw [HN.out]; exact Nat.le_refl _)
      rw [eN] at h4
      obtain ⟨A, hA⟩ : ∃ A, addL V.L U.L = A := ⟨_, rfl⟩
      have HAE := Lib.hid hA
      rw [hA] at h4
      obtain ⟨xa, xc, rfl, _, _⟩ := h4.row.form2
      obtain ⟨_, _, c2, f0⟩ := h4.cells
      have f2 := f0 2
      have hqw : wr.heap[q]? = some (.cells #[.int .i64 U.m, .slice ua U.L.length uc, .int .i64 U.n] 65 (0, 0)) := (e4.block q (lt_of_heap HQH.out.1) HQH.out.2).trans HQH.out.1
      have d2 : wr.cell? ⟨q, 2, none⟩ = some (.int .i64 U.n) := by rw [cell_of_row _ _ _ _ _ _ hqw]; rfl
      have HE : Hid (Next T3 W3 T4 ∧ Else (fun k => T3 k = some i) W3 wr) := Lib.hid ⟨n4, e4⟩
      have H4 := Lib.hid h4
      clear hqw n4 e4 h4 HX f0 hA eN
      go_wp2_with fail
      go_region
      clear c2 d2 f2 wn
      obtain ⟨W5, hW⟩ : ∃ W5, (wr.setCell ⟨p, 2, none⟩ (.int .i64 ((V.n : Int) + (U.n : Int)))).drew = W5 := ⟨_, rfl⟩
      have H5 : Hid (RkAt T4 i W5 p V.m (V.n + U.n) (.slice xa A.length xc) A ∧ Else (fun k => T3 k = some i) W3 W5) := by
        have e4 : ((V.n + U.n : Nat) : Int) = (V.n : Int) + (U.n : Int) := by simp
        have e1 := H4.out.set_n (V.n + U.n)
        have e3 := HE.out.2.setCell (p := ⟨p, 2, none⟩) (.inl HPI.out) (.int .i64 ((V.n + U.n : Nat) : Int))
        rw [e4] at e1 e3
        rw [← hW]
        exact ⟨e1.below (below_drew1 _), e3.drew⟩
      rw [hW]
      clear hW H4
      obtain ⟨c0, c1, _, _⟩ := H5.out.1.cells
      go_wp2_with fail
      go_quiet (fail)
      obtain ⟨W6, hW⟩ : ∃ W6, W5.drewN nq = W6 := ⟨_, rfl⟩
      have H6 : Hid (RkAt T4 i W6 p V.m (V.n + U.n) (.slice xa A.length xc) A ∧ Else (fun k => T3 k = some i) W3 W6) := by
        rw [← hW]
        exact ⟨H5.out.1.below (below_drewN _ _), H5.out.2.drewN nq⟩
      rw [hW]
      clear hW nq c0 c1 H5
      have pos : ∀ x ∈ A, 1 ≤ x.2 := by rw [← HAE.out]; exact addL_pos HG.out.1.pos U.L HG.out.2.pos
      have HP : Hid (∀ V', MergeP V U V' → V'.Good) := Lib.hid fun V' h => h.good HG.out.1 HG.out.2 HAS.out HM.out.2
      -- from the tags of the copy to those at the start
      have HFIN : Hid (∀ w' V', MergeP V U V' → Goes T3 i W3 (RL p V'.m V'.n V'.L) w' → Goes T i w (RK p V') w') := Lib.hid fun w' V' hMP hg =>
        Goes.after HT.out.1 HEL.out (hg.map fun T' h => ⟨h, HP.out V' hMP⟩)
      have hAl : A.length ≤ 200 := by
        rw [← HAE.out]
        have := addL_len (L := V.L) U.L
        have := HG.out.1.len
        have := HG.out.1.m64
        have := HN.out
        omega
      by_cases hc : A.length ≤ V.m
      · have hd : decide (V.m < A.length) = false := decide_eq_false (by omega)
        have hn : ¬ V.m < A.length := by omega
        have FIN : Hid (∃ V', MergeP V U V' ∧ Goes T i w (RK p V') W6) := Lib.hid (by
          have hMP : MergeP V U ⟨V.m, V.n + U.n, A⟩ := ⟨rfl, rfl, .inl ⟨by rw [HAE.out]; exact hc, HAE.out.symm⟩⟩
          exact ⟨_, hMP, HFIN.out _ _ hMP ⟨T4, HE.out.1, H6.out.2, _, H6.out.1⟩⟩)
        clear hc pos hAl
        go_wp2_with fail
        go_ret
        exact ⟨rfl, FIN⟩
      · have hd : decide (V.m < A.length) = true := decide_eq_true (by omega)
        have KR := rranked_any (H6.out.1.below (below_drew1 W6)).row H6.out.1.asc (by omega)
        have tot : total A ≤ 1125899906842624 := by
          rw [← HAE.out, addL_total HAS.out]
          have := HG.out.1.sum; have := HG.out.2.sum; have := HM.out.2
          omega
        obtain ⟨c0, c1, _, _⟩ := H6.out.1.cells
        have HLE := Lib.hid fun W7 z R y (hb : Below W6.heap.size W6 W7) (hR : Ranked A R) (hy : R[V.m]? = some y) (hz : z = y.2) =>
          (rless_any (H6.out.1.below hb) z (fun x hx => by
            have hyA : y ∈ A := hR.perm.mem_iff.1 (List.mem_of_getElem? hy)
            have a1 := pos x hx; have a2 := le_total pos x hx; have a3 := pos y hyA; have a4 := le_total pos y hyA
            unfold InI; omega) (by omega)).mono fun e w' ⟨a, b⟩ => (⟨a, (show ∃ V', MergeP V U V' ∧ Goes T i w (RK p V') w' by
              subst hz
              have hMP : MergeP V U ⟨V.m, V.n + U.n, less y.2 A⟩ := ⟨rfl, rfl, .inr ⟨by rw [HAE.out]; omega, R, y, by rw [HAE.out]; exact hR, hy, by rw [HAE.out]⟩⟩
              exact ⟨_, hMP, HFIN.out _ _ hMP (Goes.after HE.out.1 (H6.out.2.low hb) b.out)⟩)⟩ : e = Ending.returned (.tuple #[]) ∧ ∃ V', MergeP V U V' ∧ Goes T i w (RK p V') w')
        have SC := Lib.hid fun W' (hb : Below W6.heap.size W6 W') => (H6.out.1.below hb).cells
        have hVm : (V.m : Int) < (A.length : Int) := by omega
        have hml : V.m < A.length := by omega
        clear hc pos hAl tot
        go_wp2_with fail
        refine wp_region_mix (fun W => W.cell? ⟨p, 0, none⟩ = some (.int .i64 V.m) ∧ W.cell? ⟨p, 1, none⟩ = some (.slice xa A.length xc)) 13 [(true, 0), (true, 1), (true, 2), (true, 3), (true, 4), (true, 6), (true, 7), (true, 8), (true, 9), (false, 5), (false, 10), (false, 11), (false, 12), (false, 13)] (by kernel_rfl) (by decide +kernel) rfl (by decide +kernel) ⟨c0, c1⟩ ?_
        iterate 9
          refine wpMix_take (v := ?_) rfl rfl ?_ ?_
          rotate_left
          · (intro W hW; (try dsimp only at hW); go_simp) <;> with_reducible rfl
          simp only [Act.put, List.setIfInBounds_toArray, List.set_cons_zero, List.set_cons_succ]
        refine wpMix_run rfl ?_
        intro K hK
        go_wp2_with fail
        refine KR.mono ?_
        rintro e w7 ⟨R, rv, rfl, hR, hO⟩
        have hb7 : Below W6.heap.size W6 w7 := (below_drew1 W6).trans hO.2
        have hrl : R.length = A.length := hR.perm.length_eq
        obtain ⟨y, hy⟩ : ∃ y, R[V.m]? = some y := ⟨_, List.getElem?_eq_getElem (by omega)⟩
        obtain ⟨g2, c2, rfl⟩ : ∃ g2 c2, rv = .slice (some ⟨g2, 0, none⟩) A.length c2 := by
          rcases hO.1.form with ⟨_, e⟩ | ⟨g2, c2, e, _⟩
          · rw [e] at hrl; simp at hrl; omega
          · exact ⟨g2, c2, by rw [e, hrl]⟩
        obtain ⟨_, r1, _, _⟩ := (RowC.rowP hO.1).cell hy
        have KL := HLE.out w7 y.2 R y hb7 hR hy rfl
        go_wp2_with fail
        refine hK.out _ _ (fun _ => ⟨(SC.out _ hb7).1, (SC.out _ hb7).2.1⟩) ?_
        clear hK K KR hR hO hy hrl HLE c0 c1
        refine wpMix_run rfl ?_
        intro K hK
        go_wp2_with fail
        refine hK.out _ _ (fun _ => ⟨(SC.out _ hb7).1, (SC.out _ hb7).2.1⟩) ?_
        clear hK K
        refine wpMix_run rfl ?_
        intro K hK
        go_wp2_with fail
        refine hK.out _ _ (fun _ => ⟨(SC.out _ hb7).1, (SC.out _ hb7).2.1⟩) ?_
        clear hK K
        refine wpMix_run rfl ?_
        intro K hK
        go_wp2_with fail
        refine hK.out _ _ (fun _ => ⟨(SC.out _ hb7).1, (SC.out _ hb7).2.1⟩) ?_
        clear hK K
        refine wpMix_run rfl ?_
        intro K hK
        go_wp2_with fail
        refine KL.mono ?_
        rintro e w8 ⟨rfl, hf⟩
        have FIN := Lib.hid hf
        clear KL hf
        go_wp2_with fail
        refine hK.out _ _ (fun h => absurd rfl h) ?_
        clear hK K
        refine wpMix_nil ?_
        go_wp2_with fail
        go_ret
        exact ⟨rfl, FIN⟩
end Go.Proofs.Ytkmonecolkamjaa
