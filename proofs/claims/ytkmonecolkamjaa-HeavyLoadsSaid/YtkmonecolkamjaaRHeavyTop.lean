/- Contracts of the reference's Top and Bytes. Conditions: a sketch that was made. -/
import Derived.Test.YtkmonecolkamjaaRHeavyMerge
import Derived.Test.YtkmonecolkamjaaHeavyBytes
set_option maxRecDepth 100000
namespace Go.Proofs.Ytkmonecolkamjaa
open Go.RowKit Go.Maps Go.Sort

theorem flatP_take : ∀ (L : CL) (k : Nat), flatP (L.take k) = (flatP L).take (k * 2)
  | [], k => by simp [flatP]
  | p :: r, 0 => by simp [flatP]
  | p :: r, k + 1 => by
    have := flatP_take r k
    unfold flatP at this ⊢
    rw [List.take_succ_cons, List.flatMap_cons, List.flatMap_cons, this, show (k + 1) * 2 = k * 2 + 2 by omega]
    rfl
theorem OwnC.cut {w W : World} {L : CL} {g n c : Nat} (h : OwnC w L (.slice (some ⟨g, 0, none⟩) n c) W) {k : Nat} (hk : k ≤ n) : OwnC w (L.take k) (.slice (some ⟨g, 0, none⟩) k c) W := by
  refine ⟨?_, h.2⟩
  rcases h.1.2 with ⟨e, _⟩ | ⟨g', cap, cur, e, hB, hg, h1, h2, h3, h4⟩
  · cases e
  · cases e
    have hkl : (L.take k).length = k := by rw [List.length_take]; omega
    unfold RowC
    rw [hkl]
    refine ⟨by rw [flatP_len, hkl], .inr ⟨g, c, cur, rfl, hB, hg, by omega, h2, h3, ?_⟩⟩
    rw [flatP_take, ← h4, List.take_take]
    congr 1
    omega
/-- the first k of the greatest, of the call's own -/
def RTopAt (w : World) (L : CL) (k : Nat) (e : Ending) (w' : World) : Prop := ∃ R v, e = .returned v ∧ Ranked L R ∧ OwnC w (R.take k) v w'

set_option maxHeartbeats 1600000 in
theorem rtop_any {T : Tags} {i : Nat} {w : World} {p m n : Nat} {v : Value} {L : CL} (h : RkAt T i w p m n v L) (hl : L.length ≤ 100000) (z : Int) (K : Nat) (hK : K = z.toNat) :
    Calls Try.prog 34 #[.pointer (some ⟨p, 0, none⟩), .int .i64 z] w (RTopAt w L K) := by
  obtain ⟨_, c1, _, _⟩ := h.cells
  have KR := rranked_any h.row h.asc hl
  clear h hl
  by_cases hz : z < 0
  · obtain rfl : K = 0 := by omega
    clear hK
    go_enter Try.func34, Try.ntmps34
    go_wp2_with fail
    refine KR.mono ?_
    rintro e w1 ⟨R, rv, rfl, hR, hO⟩
    rcases hO.1.form with ⟨rfl, e⟩ | ⟨g, c, rfl, hc, _⟩
    · subst e
      have FIN : Hid (RTopAt w L 0 (.returned (.slice none 0 0)) w1) := Lib.hid ⟨[], _, rfl, hR, hO⟩
      clear KR hR hO
      go_wp2_with fail
      go_ret
      exact FIN.out
    · by_cases h0 : 0 < R.length
      · have FIN : Hid (RTopAt w L 0 (.returned (.slice (some ⟨g, 0, none⟩) 0 c)) w1) := Lib.hid ⟨R, _, rfl, hR, hO.cut (Nat.zero_le _)⟩
        clear KR hR hO
        go_wp2_with fail
        go_ret
        exact FIN.out
      · have eR : R = [] := List.eq_nil_of_length_eq_zero (by omega)
        subst eR
        have FIN : Hid (RTopAt w L 0 (.returned (.slice (some ⟨g, 0, none⟩) 0 c)) w1) := Lib.hid ⟨[], _, rfl, hR, hO⟩
        clear KR hR hO h0
        go_wp2_with fail
        go_ret
        exact FIN.out
  · obtain ⟨k, rfl⟩ : ∃ k : Nat, z = k := ⟨z.toNat, by omega⟩
    obtain rfl : k = K := by omega
    clear hK
    go_enter Try.func34, Try.ntmps34
    go_wp2_with fail
    refine KR.mono ?_
    rintro e w1 ⟨R, rv, rfl, hR, hO⟩
    have t0 : decide ((k : Int) < 0) = false := decide_eq_false (by omega)
    rcases hO.1.form with ⟨rfl, e⟩ | ⟨g, c, rfl, hc, _⟩
    · subst e
      have FIN : Hid (RTopAt w L k (.returned (.slice none 0 0)) w1) := Lib.hid ⟨[], _, rfl, hR, by simpa using hO⟩
      have t1 : decide ((k : Int) < 0) = false := decide_eq_false (by omega)
      clear KR hR hO
      go_wp2_with fail
      go_ret
      exact FIN.out
    · obtain ⟨N, hN⟩ : ∃ N, R.length = N := ⟨_, rfl⟩
      rw [hN] at hO hc ⊢
      by_cases h0 : k < N
      · have FIN : Hid (RTopAt w L k (.returned (.slice (some ⟨g, 0, none⟩) k c)) w1) := Lib.hid ⟨R, _, rfl, hR, hO.cut (by omega)⟩
        have hkc : k ≤ c := by omega
        clear KR hR hO
        go_wp2_with fail
        go_ret
        exact FIN.out
      · have FIN : Hid (RTopAt w L k (.returned (.slice (some ⟨g, 0, none⟩) N c)) w1) := Lib.hid ⟨R, _, rfl, hR, by rw [List.take_of_length_le (by omega)]; exact hO⟩
        clear KR hR hO
        go_wp2_with fail
        go_ret
        exact FIN.out
end Go.Proofs.Ytkmonecolkamjaa
namespace Go.Proofs.Ytkmonecolkamjaa
open Go.RowKit Go.Maps Go.Sort

theorem OwnB.rput {w wr : World} {xs : List UInt8} {v : Value} (h : OwnB w xs v wr) (d : Nat) (hd : d < 18446744073709551616) (hx : xs.length ≤ 100000) :
    Calls Try.prog 50 #[v, .int .u64 (d : Int)] wr fun e w' => ∃ v', e = .returned v' ∧ Hid (OwnB w (xs ++ dig d) v' w') ∧ Below wr.heap.size wr w' := by
  refine (refPut_any (Holds.of_row (by rw [u8s_len]; exact h.1)) d hd (by omega)).mono ?_
  rintro e w' ⟨v', rfl, ho, hb⟩
  exact ⟨v', rfl, ⟨ownsRow_rebase ho (fun g hg => Nat.le_trans h.2.size (ho.lt g hg).1), h.2.trans (hb.mono h.2.size)⟩, hb⟩

set_option maxHeartbeats 6400000 in
theorem rbytes_any {T : Tags} {i : Nat} {w : World} {p : Nat} {V : HV} (h : RK p V T i w) :
    Calls Try.prog 35 #[.pointer (some ⟨p, 0, none⟩)] w (BytesAt w V.bytes) := by
  obtain ⟨⟨v, h⟩, hG⟩ := h
  obtain ⟨va, vc, rfl, _, _⟩ := h.row.form2
  obtain ⟨_, c1, c2, _⟩ := h.cells
  have hn50 := hG.n50
  have hl64 : V.L.length ≤ 64 := by have := hG.len; have := hG.m64; omega
  have wn : IntKind.u64.wrap (V.n : Int) = (V.n : Int) := by rw [IntKind.wrap_u64]; omega
  have wl : IntKind.u64.wrap (V.L.length : Int) = (V.L.length : Int) := by rw [IntKind.wrap_u64]; omega
  have O0 : OwnB w [] (.slice none 0 0) w.drew := ⟨by simpa [u8s] using World.ownsRow_nil w.drew w.heap.size 5 1, below_drew1 w⟩
  have K1 := O0.rput V.n (by omega) (by simp)
  have K2 := Lib.hid fun v' w' (ho : OwnB w ([] ++ dig V.n) v' w') => ho.rput V.L.length (by omega) (by have := dig_len10 (u := V.n) (by omega); simp; omega)
  have HH := Lib.hid (And.intro h hG)
  have HLT : Hid (∀ u ∈ cwords V.L, u < 18446744073709551616) := Lib.hid (cwords_lt h.inI)
  obtain ⟨N, hN⟩ : ∃ N, V.L.length = N := ⟨_, rfl⟩
  rw [hN] at c1 K2 wl
  have HN := Lib.hid hN
  have SC := Lib.hid fun W' (hb : Below w.heap.size w W') => (h.below hb).cells
  rw [hN] at SC
  have hNz : (N : Int) ≤ 64 := by omega
  clear O0 h hG hn50 hl64 hN
  go_enter Try.func35, Try.ntmps35
  go_wp2_with fail
  refine wp_region_mix (fun W => W.cell? ⟨p, 1, none⟩ = some (.slice va N vc) ∧ W.cell? ⟨p, 2, none⟩ = some (.int .i64 V.n)) 14 [(true, 0), (true, 1), (true, 2), (true, 3), (true, 4), (true, 6), (true, 7), (true, 8), (true, 9), (true, 10), (true, 11), (false, 5), (false, 12), (false, 13)] (by kernel_rfl) (by decide +kernel) rfl (by decide +kernel) ⟨c1, c2⟩ ?_
  iterate 11
    refine wpMix_take (v := ?_) rfl rfl ?_ ?_
    rotate_left
    · (intro W hW; (try dsimp only at hW); go_simp) <;> with_reducible rfl
    simp only [Act.put, List.setIfInBounds_toArray, List.set_cons_zero, List.set_cons_succ]
  refine wpMix_run rfl ?_
  intro K hK
  go_wp2_with fail
  refine K1.mono ?_
  rintro e w1 ⟨v1, rfl, ho1, _⟩
  have hb1 := ho1.out.2
  go_wp2_with fail
  refine hK.out _ _ (fun _ => ⟨(SC.out _ hb1).2.1, (SC.out _ hb1).2.2.1⟩) ?_
  clear hK K
  refine wpMix_run rfl ?_
  intro K hK
  go_wp2_with fail
  refine (K2.out v1 w1 ho1.out).mono ?_
  rintro e w2 ⟨v2, rfl, ho2, _⟩
  have hb2 := ho2.out.2
  go_wp2_with fail
  refine hK.out _ _ (fun _ => ⟨(SC.out _ hb2).2.1, (SC.out _ hb2).2.2.1⟩) ?_
  clear hK K
  refine wpMix_run rfl ?_
  intro K hK
  go_wp2_with fail
  refine hK.out _ _ (fun _ => ⟨(SC.out _ hb2).2.1, (SC.out _ hb2).2.2.1⟩) ?_
  clear hK K
  refine wpMix_nil ?_
  have X0 : Hid (OwnB w (bytesW (V.n :: V.L.length :: cwords (V.L.take 0))) v2 w2) := Lib.hid (by
    rw [HN.out]
    simpa [bytesW, cwords] using ho2.out)
  obtain ⟨_, e1, _, _⟩ := SC.out w2 hb2
  have HR := Lib.hid HH.out.1.row
  clear ho1 ho2 hb1 K1 K2 c1 c2 wn wl
  go_wp2_with fail
  clear hb2 e1 SC
  go_loopw [3, 24] (fun s3 s wr => ∃ k : Nat, s = .int .i64 k ∧ k ≤ N ∧ Hid (OwnB w (bytesW (V.n :: V.L.length :: cwords (V.L.take k))) s3 wr)) (fun _ s _ => N - (intOf s).toNat)
  case atStart => exact ⟨0, rfl, Nat.zero_le _, X0⟩
  case round =>
    clear X0
    obtain ⟨k, rfl, hk, HX⟩ := hrel
    by_cases hlt : k < N
    · have hz : (k : Int) < (N : Int) := by omega
      obtain ⟨g, c', q, e, hq, r0, r1⟩ := row_at HR.out HX.out.2 (by rw [HN.out]; exact hlt)
      rw [HN.out] at e
      cases e
      obtain ⟨hi1, hi2⟩ := HH.out.1.inI q (List.mem_of_getElem? hq)
      have hq1 := HH.out.2.pos q (List.mem_of_getElem? hq)
      obtain ⟨M, hM⟩ : ∃ M : Nat, M = q.2.toNat := ⟨_, rfl⟩
      have hMq : q.2 = (M : Int) := by omega
      have hcn := cwords_next hq
      rw [← hM] at hcn
      have wM : IntKind.u64.wrap q.2 = (M : Int) := by rw [hMq, IntKind.wrap_u64]; unfold InI at hi2; omega
      obtain ⟨hz1, hz2⟩ := zigH_eq hi1
      have KZ := fun W => Lib.hid (refZig_any q.1 W hi1.1 hi1.2)
      rw [hz1] at KZ
      have hM64 : M < 18446744073709551616 := by unfold InI at hi2; omega
      obtain ⟨G, hG⟩ : ∃ G, wr.heap.size = G := ⟨_, rfl⟩
      obtain ⟨W1, hW1⟩ : ∃ W1, wr.alloc (.cells #[.int .i64 q.1, .int .i64 q.2] 70) = W1 := ⟨_, rfl⟩
      have hbA : Below wr.heap.size wr W1 := by rw [← hW1]; exact (Below.refl _ wr).alloc (Nat.le_refl _) _
      have d0 : W1.cell? ⟨G, 0, none⟩ = some (.int .i64 q.1) := by rw [← hW1, ← hG, cell_of_row _ _ _ _ _ _ (heap_alloc_new wr _)]; rfl
      have d1 : W1.cell? ⟨G, 1, none⟩ = some (.int .i64 q.2) := by rw [← hW1, ← hG, cell_of_row _ _ _ _ _ _ (heap_alloc_new wr _)]; rfl
      have O1 : OwnB w (bytesW (V.n :: V.L.length :: cwords (V.L.take k))) u3 W1.drew :=
        ⟨ownsRow_below HX.out.1 (hbA.trans ((below_drew1 W1).mono hbA.size)), HX.out.2.trans ((hbA.trans ((below_drew1 W1).mono hbA.size)).mono HX.out.2.size)⟩
      have hwl : ∀ u ∈ V.n :: V.L.length :: cwords (V.L.take k), u < 18446744073709551616 := fun u hu => by
        have a1 := HH.out.2.n50
        have a2 := HN.out
        rcases List.mem_cons.1 hu with rfl | hu
        · omega
        · rcases List.mem_cons.1 hu with rfl | hu
          · omega
          · exact cwords_lt (fun p hp => HH.out.1.inI p (List.mem_of_mem_take hp)) u hu
      have hbl := bytesW_len _ hwl
      have hcl : (V.n :: V.L.length :: cwords (V.L.take k)).length ≤ 130 := by
        rw [List.length_cons, List.length_cons, cwords_len, List.length_take]; omega
      have K1 := O1.rput (zigH q.1) hz2 (by omega)
      have K2 := Lib.hid fun v' w' (ho : OwnB w (bytesW (V.n :: V.L.length :: cwords (V.L.take k)) ++ dig (zigH q.1)) v' w') => ho.rput M hM64 (by have := dig_len10 hz2; rw [List.length_append]; omega)
      have HNX : Hid (bytesW (V.n :: V.L.length :: cwords (V.L.take k)) ++ dig (zigH q.1) ++ dig M = bytesW (V.n :: V.L.length :: cwords (V.L.take (k + 1)))) := by
        show _ = _
        rw [hcn, ← List.cons_append, ← List.cons_append, bytesW_append]
        simp [bytesW]
      have SC := Lib.hid fun W' (hb : Below W1.heap.size W1 W') => (show W'.cell? ⟨G, 0, none⟩ = some (.int .i64 q.1) ∧ W'.cell? ⟨G, 1, none⟩ = some (.int .i64 q.2) from
        ⟨by rw [hb.cell (World.block_lt_of_cell? W1 _ d0)]; exact d0, by rw [hb.cell (World.block_lt_of_cell? W1 _ d1)]; exact d1⟩)
      clear hq hi1 hi2 hq1 hM hMq hcn hz1 hz2 hM64 hbA O1 hwl hbl hcl HX
      go_wp2_with fail
      clear hW1 hG r0 r1
      refine wp_region_mix (fun W => W.cell? ⟨G, 0, none⟩ = some (.int .i64 q.1) ∧ W.cell? ⟨G, 1, none⟩ = some (.int .i64 q.2)) 10 [(true, 0), (true, 1), (true, 2), (true, 5), (true, 6), (true, 7), (false, 3), (false, 4), (false, 8), (false, 9)] (by kernel_rfl) (by decide +kernel) rfl (by decide +kernel) ⟨d0, d1⟩ ?_
      iterate 6
        refine wpMix_take (v := ?_) rfl rfl ?_ ?_
        rotate_left
        · (intro W hW; (try dsimp only at hW); go_simp) <;> with_reducible rfl
        simp only [Act.put, List.setIfInBounds_toArray, List.set_cons_zero, List.set_cons_succ]
      refine wpMix_run rfl ?_
      intro K hK
      go_wp2_with fail
      refine (KZ _).out.mono ?_
      rintro e w1 ⟨rfl, rfl⟩
      go_wp2_with fail
      refine hK.out _ _ (fun _ => ⟨d0, d1⟩) ?_
      clear hK K
      refine wpMix_run rfl ?_
      intro K hK
      go_wp2_with fail
      refine K1.mono ?_
      rintro e w2 ⟨v2, rfl, ho2, hb2⟩
      have hc2 := SC.out _ ((below_drew1 W1).trans hb2)
      go_wp2_with fail
      refine hK.out _ _ (fun _ => hc2) ?_
      clear hK K
      refine wpMix_run rfl ?_
      intro K hK
      go_wp2_with fail
      refine (K2.out v2 w2 ho2.out).mono ?_
      rintro e w3 ⟨v3, rfl, ho3, hb3⟩
      have hc3 := SC.out _ (((below_drew1 W1).trans hb2).trans (hb3.mono hb2.size))
      have HX3 : Hid (OwnB w (bytesW (V.n :: V.L.length :: cwords (V.L.take (k + 1)))) v3 w3) := Lib.hid (by rw [← HNX.out]; exact ho3.out)
      go_wp2_with fail
      refine hK.out _ _ (fun _ => hc3) ?_
      clear hK K
      refine wpMix_run rfl ?_
      intro K hK
      go_wp2_with fail
      refine hK.out _ _ (fun _ => hc3) ?_
      clear hK K K1 K2 KZ SC ho2 ho3 hb2 hb3 hc2 hc3 d0 d1 HNX wM
      refine wpMix_nil ?_
      go_wp2_with fail
      go_roundw
      case rel => exact ⟨k + 1, by go_num, by omega, HX3⟩
      case measure => simp [intOf]; omega
    · have hP := HX.out
      rw [List.take_of_length_le (by have := HN.out; omega)] at hP
      have HP : Hid (OwnB w V.bytes u3 wr) := Lib.hid hP
      clear HX hP
      go_wp2_with fail
      go_ret
      exact ⟨_, rfl, HP.out⟩
end Go.Proofs.Ytkmonecolkamjaa
