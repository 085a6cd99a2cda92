/- Contracts of the statements' own same and alike: a sketch and the document's that hold the same. Conditions: sketches that were made. -/
import Derived.Test.YtkmonecolkamjaaRHeavyTop
import Derived.Test.YtkmonecolkamjaaHeavyCopy
set_option maxRecDepth 100000
namespace Go.Proofs.Ytkmonecolkamjaa
open Go.RowKit Go.Maps Go.Sort Go.Shelf

/-- a row from its k-th counter on -/
def RestP (w : World) (g : Nat) (R : CL) (k : Nat) : Prop := g < w.heap.size ∧ ∀ j p, k ≤ j → R[j]? = some p →
  w.cell? ⟨g, j * 2, none⟩ = some (.int .i64 p.1) ∧ w.cell? ⟨g, j * 2 + 1, none⟩ = some (.int .i64 p.2) ∧ w.frozen? ⟨g, j * 2, none⟩ = false ∧ w.frozen? ⟨g, j * 2 + 1, none⟩ = false
theorem RestP.start {w : World} {g : Nat} {R : CL} (h : RowP w g R) : RestP w g R 0 := ⟨h.2, fun _ _ _ hp => h.cell hp⟩
theorem RestP.below {w w' : World} {g k : Nat} {R : CL} (h : RestP w g R k) (hb : Below w.heap.size w w') : RestP w' g R k :=
  ⟨Nat.lt_of_lt_of_le h.1 hb.size, fun j p hj hp => by
    obtain ⟨a, b, c, d⟩ := h.2 j p hj hp
    exact ⟨by rw [hb.cell (p := ⟨g, j * 2, none⟩) h.1]; exact a, by rw [hb.cell (p := ⟨g, j * 2 + 1, none⟩) h.1]; exact b, by rw [hb.frozen (p := ⟨g, j * 2, none⟩) h.1]; exact c, by rw [hb.frozen (p := ⟨g, j * 2 + 1, none⟩) h.1]; exact d⟩⟩
theorem RestP.next {w : World} {g k : Nat} {R : CL} (h : RestP w g R k) (u v : Value) : RestP ((w.setCell ⟨g, k * 2, none⟩ u).setCell ⟨g, k * 2 + 1, none⟩ v) g R (k + 1) :=
  ⟨by simpa [World.setCell] using h.1, fun j p hj hp => by
    obtain ⟨a, b, c, d⟩ := h.2 j p (by omega) hp
    refine ⟨?_, ?_, ?_, ?_⟩
    · rw [World.cell?_setCell_other _ _ _ _ (by simp <;> omega), World.cell?_setCell_other _ _ _ _ (by simp <;> omega)]; exact a
    · rw [World.cell?_setCell_other _ _ _ _ (by simp <;> omega), World.cell?_setCell_other _ _ _ _ (by simp <;> omega)]; exact b
    · simpa using c
    · simpa using d⟩

set_option maxHeartbeats 3200000 in
/-- same at lists that are the same -/
theorem same_yes {w : World} {ga n ca : Nat} {R L : CL} (hR : RowP w ga R) (hn : R.take n = L) (hl : L.length = n) (hc : n ≤ ca) (hn6 : n ≤ 1000000) {B : Nat} {v : Value} (hB : RowC B v L w) (hne : v.ownBlock ≠ some ga) :
    Calls Try.prog 33 #[.slice (some ⟨ga, 0, none⟩) n ca, v] w fun e w' => e = .returned (.bool true) ∧ w.grownBy w' (some ga) := by
  obtain ⟨va, vc, rfl, _, _⟩ := hB.form2
  rw [hl] at hB hne ⊢
  have HB := Lib.hid hB
  have HNE := Lib.hid hne
  have HN := Lib.hid hn
  have HL := Lib.hid hl
  have H0 := Lib.hid (RestP.start hR)
  have hnz : (n : Int) ≤ 1000000 := by omega
  clear hR hB hne hn hl
  go_enter Try.func33, Try.ntmps33
  go_wp2_with fail
  go_loopw [14] (fun s wr => ∃ k : Nat, s = .int .i64 k ∧ k ≤ n ∧ Hid (w.grownBy wr (some ga) ∧ RestP wr ga R k)) (fun s _ => n - (intOf s).toNat)
  case atStart => exact ⟨0, rfl, Nat.zero_le _, World.grownBy.refl _ _, H0.out⟩
  case round =>
    clear H0
    obtain ⟨k, rfl, hk, HX⟩ := hrel
    by_cases hlt : k < n
    · have hz : (k : Int) < (n : Int) := by omega
      obtain ⟨q, hq⟩ : ∃ q, L[k]? = some q := ⟨_, List.getElem?_eq_getElem (by rw [HL.out]; exact hlt)⟩
      have hqR : R[k]? = some q := by
        rw [← HN.out, List.getElem?_take, if_pos hlt] at hq
        exact hq
      obtain ⟨r0, r1, f0, f1⟩ := HX.out.2.2 k q (Nat.le_refl _) hqR
      obtain ⟨gb, cb, e, hcb⟩ : ∃ gb cb, Value.slice va n vc = .slice (some ⟨gb, 0, none⟩) n cb ∧ (wr.cell? ⟨gb, k * 2, none⟩ = some (.int .i64 q.1) ∧ wr.cell? ⟨gb, k * 2 + 1, none⟩ = some (.int .i64 q.2)) := by
        rcases HB.out.form with ⟨_, e⟩ | ⟨gb, cb, e, _, _, _, hgb⟩
        · rw [e] at hq; cases hq
        · rw [HL.out] at e
          refine ⟨gb, cb, e, ?_⟩
          have hne := HNE.out
          rw [e] at hne
          have hBr : RowP w gb L := RowC.rowP (by rw [← e]; exact HB.out)
          have hb := HX.out.1.block gb hgb (fun e' => hne (by simp only [Value.ownBlock]; exact e'.symm ▸ rfl))
          obtain ⟨a0, a1, _, _⟩ := (hBr.of_block hb HX.out.1.size).cell hq
          exact ⟨a0, a1⟩
      obtain ⟨b0, b1⟩ := hcb
      cases e
      obtain ⟨G, hG⟩ : ∃ G, wr.heap.size = G := ⟨_, rfl⟩
      obtain ⟨W1, hW1⟩ : ∃ W1, wr.alloc (.cells #[.int .i64 q.1, .int .i64 q.2] 50) = W1 := ⟨_, rfl⟩
      have hbA : Below wr.heap.size wr W1 := by rw [← hW1]; exact (Below.refl _ wr).alloc (Nat.le_refl _) _
      have d0 : W1.cell? ⟨G, 0, none⟩ = some (.int .i64 q.1) := by rw [← hW1, ← hG, cell_of_row _ _ _ _ _ _ (heap_alloc_new wr _)]; rfl
      have d1 : W1.cell? ⟨G, 1, none⟩ = some (.int .i64 q.2) := by rw [← hW1, ← hG, cell_of_row _ _ _ _ _ _ (heap_alloc_new wr _)]; rfl
      have e0 : W1.cell? ⟨gb, k * 2, none⟩ = some (.int .i64 q.1) := by rw [hbA.cell (World.block_lt_of_cell? wr _ b0)]; exact b0
      have e1 : W1.cell? ⟨gb, k * 2 + 1, none⟩ = some (.int .i64 q.2) := by rw [hbA.cell (World.block_lt_of_cell? wr _ b1)]; exact b1
      have hX1 := HX.out.2.below hbA
      obtain ⟨s0, s1, g0, g1⟩ := hX1.2 k q (Nat.le_refl _) hqR
      have HNX : Hid (∀ nq, w.grownBy (((W1.drewN nq).setCell ⟨ga, k * 2, none⟩ (.int .i64 0)).setCell ⟨ga, k * 2 + 1, none⟩ (.int .i64 0)) (some ga) ∧ RestP (((W1.drewN nq).setCell ⟨ga, k * 2, none⟩ (.int .i64 0)).setCell ⟨ga, k * 2 + 1, none⟩ (.int .i64 0)) ga R (k + 1)) := Lib.hid fun nq => by
        have g := HX.out.1
        refine ⟨⟨g.os ▸ hbA.os ▸ rfl, g.tape ▸ hbA.tape ▸ rfl, g.output ▸ hbA.output ▸ rfl, by have := g.size; have := hbA.size; simp [World.setCell, World.drewN]; omega, fun j hj hne => ?_⟩, RestP.next (hX1.below (below_drewN W1 nq)) _ _⟩
        have hne' : j ≠ ga := fun e => hne (by rw [e])
        rw [Below.heap_setCell _ _ _ _ (by exact hne'), Below.heap_setCell _ _ _ _ (by exact hne')]
        exact (hbA.block j (by have := g.size; omega)).trans (g.block j hj hne)
      clear hq hqR HX hX1 hbA b0 b1 f0 f1
      go_wp2_with fail
      clear hW1 hG r0 r1
      go_quiet (fail)
      have HX2 := Lib.hid (HNX.out nq)
      clear d0 d1 e0 e1 HNX
      go_wp2_with fail
      go_roundw
      case rel => exact ⟨k + 1, by go_num, by omega, HX2.out⟩
      case measure => simp [intOf]; omega
    · obtain rfl : k = n := by omega
      have FIN := Lib.hid HX.out.1
      clear HX
      go_wp2_with fail
      go_ret
      exact ⟨rfl, FIN.out⟩

set_option maxHeartbeats 12800000 in
theorem alike_any {T : Tags} {i j : Nat} {w : World} {p r : Nat} {V : HV} (h : Hk p V T i w) (h' : RK r V T j w) (z : Int) :
    Calls Try.prog 18 #[.pointer (some ⟨p, 0, none⟩), .pointer (some ⟨r, 0, none⟩), .int .i64 z] w fun e w' => e = .returned (.bool true) ∧ Below w.heap.size w w' := by
  have hh := h
  have hr := h'
  obtain ⟨⟨v, h'⟩, hG⟩ := h'
  obtain ⟨b, h, _⟩ := h
  obtain ⟨va, vc, rfl, _, _⟩ := h'.row.form2
  obtain ⟨N, hN⟩ : ∃ N, V.L.length = N := ⟨_, rfl⟩
  have hN64 : N ≤ 64 := by have := hG.len; have := hG.m64; omega
  have SC := Lib.hid fun W (hb : Below w.heap.size w W) => (show W.cell? ⟨r, 1, none⟩ = some (.slice va N vc) ∧ W.cell? ⟨r, 2, none⟩ = some (.int .i64 V.n) from by
    obtain ⟨_, a, b, _⟩ := (h'.below hb).cells
    rw [hN] at a
    exact ⟨a, b⟩)
  -- what each call finds in a world in which all that was there is as it was
  have FH := Lib.hid fun W (hb : Below w.heap.size w W) => (Hk.framed p V).below hh hb
  have FR := Lib.hid fun W (hb : Below w.heap.size w W) => (RK.framed r V).below hr hb
  have KC := Lib.hid fun W (hb : Below w.heap.size w W) => (show Calls Try.prog 22 #[.pointer (some ⟨p, 0, none⟩)] W (CtrAt W V.L) from by
    obtain ⟨b', hA, hG'⟩ := FH.out W hb
    obtain ⟨c0, _, c2, _⟩ := hA.cells
    exact counters_at c0 hG'.m1 c2 hA.map (by omega))
  obtain ⟨KK, hKK⟩ : ∃ KK : Nat, min (max z 0) (N : Int) = (KK : Int) := ⟨(min (max z 0) (N : Int)).toNat, by omega⟩
  have KT := Lib.hid fun W (hb : Below w.heap.size w W) => (show Calls Try.prog 23 #[.pointer (some ⟨p, 0, none⟩), .int .i64 z] W fun e w' => ∃ g c R, e = .returned (.slice (some ⟨g, 0, none⟩) KK c) ∧ KK ≤ c ∧ W.heap.size ≤ g ∧ Ranked V.L R ∧ RowP w' g R ∧ Below W.heap.size W w' from by
    obtain ⟨b', hA, hG'⟩ := FH.out W hb
    obtain ⟨c0, _, c2, _⟩ := hA.cells
    exact top_int c0 hG'.m1 c2 hA.map (by omega) z KK (by rw [hN]; exact hKK))
  have KRT := Lib.hid fun W (hb : Below w.heap.size w W) => rtop_any (h'.below hb) (by omega) z z.toNat rfl
  have KTO := Lib.hid fun W (hb : Below w.heap.size w W) => (show Calls Try.prog 21 #[.pointer (some ⟨p, 0, none⟩)] W fun e w' => e = .returned (.int .i64 V.n) ∧ W = w' from by
    obtain ⟨b', hA, hG'⟩ := FH.out W hb
    obtain ⟨c0, c1, _, _⟩ := hA.cells
    exact total_at c0 hG'.m1 c1)
  have KB := Lib.hid fun W (hb : Below w.heap.size w W) => bytes_any (FH.out W hb)
  have KRB := Lib.hid fun W (hb : Below w.heap.size w W) => rbytes_any (FR.out W hb)
  have HRW := Lib.hid fun W (hb : Below w.heap.size w W) => (h'.below hb).row
  have HLT : Hid (∀ g, (Value.slice va N vc).ownBlock = some g → g < w.heap.size) := Lib.hid fun g hg => (h'.row.lt g (by rw [hN]; exact hg)).2
  have HN := Lib.hid hN
  rw [hN] at HRW
  have hb0 := below_drew1 w
  have S0 := SC.out _ hb0
  clear h h' hh hr hG
  go_enter Try.func18, Try.ntmps18
  go_wp2_with fail
  refine wp_region_mix (fun W => W.cell? ⟨r, 1, none⟩ = some (.slice va N vc) ∧ W.cell? ⟨r, 2, none⟩ = some (.int .i64 V.n)) 33 [(true, 0), (true, 2), (true, 3), (true, 4), (true, 5), (false, 1), (false, 6), (true, 7), (true, 8), (true, 9), (true, 11), (true, 12), (false, 10), (false, 13), (false, 14), (true, 15), (true, 16), (true, 17), (true, 19), (true, 20), (true, 21), (true, 22), (false, 18), (true, 23), (true, 24), (true, 25), (true, 26), (true, 28), (false, 27), (false, 29), (false, 30), (true, 31), (false, 32)] (by kernel_rfl) (by decide +kernel) rfl (by decide +kernel) S0 ?_
  iterate 5
    refine wpMix_take (v := ?_) rfl rfl ?_ ?_
    rotate_left
    · (intro W hW; (try dsimp only at hW); go_simp) <;> with_reducible rfl
    simp only [Act.put, List.setIfInBounds_toArray, List.set_cons_zero, List.set_cons_succ]
  refine wpMix_run rfl ?_
  intro K hK
  go_wp2_with fail
  refine (KC.out _ hb0).mono ?_
  rintro e w1 ⟨g1, c1, rfl, hg1, hc1, hR1, hB1⟩
  have hb1 : Below w.heap.size w w1 := hb0.trans hB1
  have KS := same_yes hR1 (List.take_length) rfl hc1 (by omega) (HRW.out w1 hb1) (fun e => by have := HLT.out g1 e; have : w.heap.size ≤ g1 := hg1; omega)
  rw [HN.out] at KS ⊢
  go_wp2_with fail
  refine hK.out _ _ (fun _ => SC.out _ hb1) ?_
  clear hK K
  refine wpMix_run rfl ?_
  intro K hK
  go_wp2_with fail
  refine KS.mono ?_
  rintro e w2 ⟨rfl, hgr⟩
  have hb2 : Below w.heap.size w w2 := hb1.grown hgr hb1.size (fun j hj => by cases hj; exact hg1)
  go_wp2_with fail
  refine hK.out _ _ (fun _ => SC.out _ hb2) ?_
  clear hK K
  clear KS hR1 hB1 hgr hg1 hc1 KC
  iterate 5
    refine wpMix_take (v := ?_) rfl rfl ?_ ?_
    rotate_left
    · (intro W hW; (try dsimp only at hW); go_simp) <;> with_reducible rfl
    simp only [Act.put, List.setIfInBounds_toArray, List.set_cons_zero, List.set_cons_succ]
  refine wpMix_run rfl ?_
  intro K hK
  go_wp2_with fail
  refine (KT.out _ hb2).mono ?_
  rintro e w3 ⟨g3, c3, R, rfl, hc3, hg3, hRk, hR3, hB3⟩
  have hb3 : Below w.heap.size w w3 := hb2.trans (hB3.mono hb2.size)
  go_wp2_with fail
  refine hK.out _ _ (fun _ => SC.out _ hb3) ?_
  clear hK K
  refine wpMix_run rfl ?_
  intro K hK
  go_wp2_with fail
  refine (KRT.out _ hb3).mono ?_
  rintro e w4 ⟨R', v4, rfl, hRk', hO4⟩
  have hb4 : Below w.heap.size w w4 := hb3.trans (hO4.2.mono hb3.size)
  go_wp2_with fail
  refine hK.out _ _ (fun _ => SC.out _ hb4) ?_
  clear hK K
  have hRR : R' = R := ranked_eq hRk' hRk
  subst hRR
  have hRl : R'.length = N := by rw [hRk.perm.length_eq]; exact HN.out
  have hcut : R'.take KK = R'.take z.toNat := by
    by_cases hzn : z.toNat ≤ N
    · rw [show KK = z.toNat by omega]
    · rw [List.take_of_length_le (by omega), List.take_of_length_le (by omega)]
  have hcl : (R'.take z.toNat).length = KK := by rw [← hcut, List.length_take]; omega
  have hg3l : g3 < w3.heap.size := hR3.2
  have KS2 := same_yes (hR3.below hO4.2) hcut hcl hc3 (by omega) hO4.1 (fun e => by have := ownsRow_ge hO4.1 g3 e; omega)
  refine wpMix_run rfl ?_
  intro K hK
  go_wp2_with fail
  refine KS2.mono ?_
  rintro e w5 ⟨rfl, hgr⟩
  have hb5 : Below w.heap.size w w5 := hb4.grown hgr hb4.size (fun j hj => by cases hj; have := hb2.size; omega)
  go_wp2_with fail
  refine hK.out _ _ (fun _ => SC.out _ hb5) ?_
  clear hK K
  clear KS2 hgr hO4 hR3 hRk hRk' hcut hcl hRl hB3 hg3 hg3l hc3 KT KRT
  iterate 7
    refine wpMix_take (v := ?_) rfl rfl ?_ ?_
    rotate_left
    · (intro W hW; (try dsimp only at hW); go_simp) <;> with_reducible rfl
    simp only [Act.put, List.setIfInBounds_toArray, List.set_cons_zero, List.set_cons_succ]
  refine wpMix_run rfl ?_
  intro K hK
  go_wp2_with fail
  refine (KTO.out _ hb5).mono ?_
  rintro e w6 ⟨rfl, rfl⟩
  go_wp2_with fail
  refine hK.out _ _ (fun _ => SC.out _ hb5) ?_
  clear hK K
  iterate 5
    refine wpMix_take (v := ?_) rfl rfl ?_ ?_
    rotate_left
    · (intro W hW; (try dsimp only at hW); go_simp) <;> with_reducible rfl
    simp only [Act.put, List.setIfInBounds_toArray, List.set_cons_zero, List.set_cons_succ]
  refine wpMix_run rfl ?_
  intro K hK
  go_wp2_with fail
  refine (KB.out _ hb5).mono ?_
  rintro e w7 ⟨bv, rfl, hO7⟩
  have hb7 : Below w.heap.size w w7 := hb5.trans (hO7.2.mono hb5.size)
  go_wp2_with fail
  refine hK.out _ _ (fun _ => SC.out _ hb7) ?_
  clear hK K
  refine wpMix_run rfl ?_
  intro K hK
  go_wp2_with fail
  refine (KRB.out _ hb7).mono ?_
  rintro e w8 ⟨bv8, rfl, hO8⟩
  have hb8 : Below w.heap.size w w8 := hb7.trans (hO8.2.mono hb7.size)
  go_wp2_with fail
  refine hK.out _ _ (fun _ => SC.out _ hb8) ?_
  clear hK K
  have KSS := Same_any ((Holds.of_row (by rw [u8s_len]; exact hO7.1) : Holds w7 bv (u8s V.bytes)).below hO8.2) (Holds.of_row (by rw [u8s_len]; exact hO8.1) : Holds w8 bv8 (u8s V.bytes))
  simp only [decide_true] at KSS
  refine wpMix_run rfl ?_
  intro K hK
  go_wp2_with fail
  refine KSS.mono ?_
  rintro e w9 ⟨rfl, rfl⟩
  go_wp2_with fail
  refine hK.out _ _ (fun _ => SC.out _ hb8) ?_
  clear hK K
  iterate 1
    refine wpMix_take (v := ?_) rfl rfl ?_ ?_
    rotate_left
    · (intro W hW; (try dsimp only at hW); go_simp) <;> with_reducible rfl
    simp only [Act.put, List.setIfInBounds_toArray, List.set_cons_zero, List.set_cons_succ]
  refine wpMix_run rfl ?_
  intro K hK
  go_wp2_with fail
  go_wp2_with fail
  refine hK.out _ _ (fun _ => SC.out _ hb8) ?_
  clear hK K
  refine wpMix_nil ?_
  have HF := Lib.hid hb8
  clear hb0 hb1 hb2 hb3 hb4 hb5 hb7 hb8 hO7 hO8 KSS
  go_wp2_with fail
  go_ret
  exact ⟨rfl, HF.out⟩
end Go.Proofs.Ytkmonecolkamjaa
