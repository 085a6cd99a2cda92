/- The walk of SchemaFinds. Conditions: as stated. -/
import Derived.Test.YtjlpmhjnfgmmcaaSchFi
import Derived.Test.YtjlpmhjnfgmmcaaSched2
set_option maxRecDepth 100000
namespace Go.Proofs.Ytjlpmhjnfgmmcaa
open Go.RowKit Go.Maps Go.Sort Go.Lib

/-- a rollup and a measure that came in, in a block of the call's own -/
structure KpS (w W : World) (rn rt : ByteArray) (pd : Option Addr) (nd kd : Nat) (pm : Option Addr) (nm km : Nat) (ms : Ml) (z : Int) (x : ByteArray) : Prop where
  below : Below w.heap.size w W
  box : W.heap[w.heap.size]? = some (.cells #[.string rn, .string rt, .slice pd nd kd, .slice pm nm km, .int .i64 z, .string x] 43 (0, 0))
  meas : Holds2 W (.slice pm nm km) (ms.map meaC)
theorem KpS.next {w W V : World} {rn rt x : ByteArray} {pd pm : Option Addr} {nd kd nm km : Nat} {ms : Ml} {z : Int} (h : KpS w W rn rt pd nd kd pm nm km ms z x) (hb : Below W.heap.size W V) : KpS w V rn rt pd nd kd pm nm km ms z x :=
  ⟨h.below.trans (hb.mono h.below.size), (hb.block _ (lt_of_heap2 h.box)).trans h.box, h.meas.below hb⟩
theorem KpS.cells {w W : World} {rn rt x : ByteArray} {pd pm : Option Addr} {nd kd nm km : Nat} {ms : Ml} {z : Int} (h : KpS w W rn rt pd nd kd pm nm km ms z x) :
    W.cell? ⟨w.heap.size, 0, none⟩ = some (.string rn) ∧ W.cell? ⟨w.heap.size, 1, none⟩ = some (.string rt) ∧ W.cell? ⟨w.heap.size, 2, none⟩ = some (.slice pd nd kd) ∧ W.cell? ⟨w.heap.size, 3, none⟩ = some (.slice pm nm km) ∧ W.cell? ⟨w.heap.size, 4, none⟩ = some (.int .i64 z) ∧ W.cell? ⟨w.heap.size, 5, none⟩ = some (.string x) := by
  rw [cell_of_row _ _ _ _ _ _ h.box, cell_of_row _ _ _ _ _ _ h.box, cell_of_row _ _ _ _ _ _ h.box, cell_of_row _ _ _ _ _ _ h.box, cell_of_row _ _ _ _ _ _ h.box, cell_of_row _ _ _ _ _ _ h.box]
  exact ⟨rfl, rfl, rfl, rfl, rfl, rfl⟩
theorem two_cells {W : World} {g : Nat} {u v : Value} {T : TypeId} (h : W.heap[g]? = some (.cells #[u, v] T (0, 0))) : W.cell? ⟨g, 0, none⟩ = some u ∧ W.cell? ⟨g, 1, none⟩ = some v := by
  rw [cell_of_row _ _ _ _ _ _ h, cell_of_row _ _ _ _ _ _ h]
  exact ⟨rfl, rfl⟩
set_option maxHeartbeats 12800000 in
theorem finds_walk {w : World} {p : Option Addr} {n k : Nat} {ts : List TbQ} (hr : TabsH w (.slice p n k) ts) (hl : ts.length = n) (hn : n ≤ 9223372036854775807) (s : ByteArray)
    {rn rt x : ByteArray} {pd pm : Option Addr} {nd kd nm km : Nat} {ms : Ml} {z : Int} (hm : Holds2 w (.slice pm nm km) (ms.map meaC)) (lm : ms.length = nm) (hnm : nm ≤ 9223372036854775807) :
    Calls Try.prog 5 #[.slice p n k, .string s, .agg #[.string rn, .string rt, .slice pd nd kd, .slice pm nm km, .int .i64 z, .string x]] w fun e w' => e = .returned (.bool true) ∧ Below w.heap.size w w' := by
  have hb1 := box_below w (.cells #[.string rn, .string rt, .slice pd nd kd, .slice pm nm km, .int .i64 z, .string x] 43)
  have HK := Lib.hid (show KpS w (w.alloc (.cells #[.string rn, .string rt, .slice pd nd kd, .slice pm nm km, .int .i64 z, .string x] 43)) rn rt pd nd kd pm nm km ms z x from ⟨hb1, heap_alloc_new w _, hm.below hb1⟩)
  have HT := Lib.hid (hr.below hb1)
  have KF := find_any (hr.below hb1) hl hn s
  have KR := Lib.hid (fun (V : World) (hV : TabsH V (.slice p n k) ts) => refFind_any hV hl hn s)
  have KM := Lib.hid (fun (V : World) (hV : KpS w V rn rt pd nd kd pm nm km ms z x) => hasM_any (rn := rn) (rt := rt) (pd := pd) (nd := nd) (kd := kd) hV.meas lm hnm (z, x))
  have KM2 := Lib.hid (fun (V : World) (hV : KpS w V rn rt pd nd kd pm nm km ms z x) => refHas_any (rn := rn) (rt := rt) (pd := pd) (nd := nd) (kd := kd) hV.meas lm hnm (z, x))
  have KL := Lib.hid lives_any
  generalize memM (z, x) ms = B at *
  generalize ansT ts s = A at *
  clear hr hl hn hm lm hnm hb1
  go_enter Try.func5, Try.ntmps5
  go_wp2_with fail
  refine KF.mono ?_
  rintro e w1 ⟨⟨a, c, rfl⟩, hb⟩
  have hK1 := HK.out.next hb
  have hT1 := HT.out.below hb
  clear hb KF HK HT
  have hb2 := box_below w1 (.cells #[.string A.1, .slice a A.2.1 c] 26)
  have HK := Lib.hid (hK1.next hb2)
  have HT := Lib.hid (hT1.below hb2)
  have HA1 := Lib.hid (heap_alloc_new w1 (.cells #[.string A.1, .slice a A.2.1 c] 26))
  have KR1 := KR.out _ (hT1.below hb2)
  have HS1 : Hid (w1.heap.size < (w1.alloc (.cells #[.string A.1, .slice a A.2.1 c] 26)).heap.size) := Lib.hid (by simp)
  obtain ⟨ga, hga⟩ : ∃ g, w1.heap.size = g := ⟨_, rfl⟩
  rw [hga] at HS1 HA1
  clear hK1 hT1 hb2 KR
  go_wp2_with fail
  (try rw [hga])
  refine KR1.mono ?_
  rintro e w2 ⟨⟨a', c', rfl⟩, hb⟩
  have hK1 := HK.out.next hb
  have hA2 := (hb.block ga HS1.out).trans HA1.out
  have hb2 := box_below w2 (.cells #[.string A.1, .slice a' A.2.1 c'] 26)
  have HA2 := Lib.hid ((hb2.block ga (lt_of_heap2 hA2)).trans hA2)
  have HB2 := Lib.hid (heap_alloc_new w2 (.cells #[.string A.1, .slice a' A.2.1 c'] 26))
  have HK2 := Lib.hid (hK1.next hb2)
  obtain ⟨gb, hgb⟩ : ∃ g, w2.heap.size = g := ⟨_, rfl⟩
  rw [hgb] at HB2
  obtain ⟨V0, hV0⟩ : ∃ V, w2.alloc (.cells #[.string A.1, .slice a' A.2.1 c'] 26) = V := ⟨_, rfl⟩
  rw [hV0] at HB2 HA2 HK2
  have S0 : Hid (KpS w V0 rn rt pd nd kd pm nm km ms z x ∧ V0.heap[ga]? = some (.cells #[.string A.1, .slice a A.2.1 c] 26 (0, 0)) ∧ V0.heap[gb]? = some (.cells #[.string A.1, .slice a' A.2.1 c'] 26 (0, 0))) := Lib.hid ⟨HK2.out, HA2.out, HB2.out⟩
  have SC := Lib.hid (fun (W : World) (h : KpS w W rn rt pd nd kd pm nm km ms z x ∧ W.heap[ga]? = some (.cells #[.string A.1, .slice a A.2.1 c] 26 (0, 0)) ∧ W.heap[gb]? = some (.cells #[.string A.1, .slice a' A.2.1 c'] 26 (0, 0))) =>
    And.intro (two_cells h.2.1) (And.intro (two_cells h.2.2) h.1.cells))
  have SN := Lib.hid (fun (W V : World) (hb : Below W.heap.size W V) (h : KpS w W rn rt pd nd kd pm nm km ms z x ∧ W.heap[ga]? = some (.cells #[.string A.1, .slice a A.2.1 c] 26 (0, 0)) ∧ W.heap[gb]? = some (.cells #[.string A.1, .slice a' A.2.1 c'] 26 (0, 0))) =>
    (⟨h.1.next hb, (hb.block _ (lt_of_heap2 h.2.1)).trans h.2.1, (hb.block _ (lt_of_heap2 h.2.2)).trans h.2.2⟩ : KpS w V rn rt pd nd kd pm nm km ms z x ∧ V.heap[ga]? = some (.cells #[.string A.1, .slice a A.2.1 c] 26 (0, 0)) ∧ V.heap[gb]? = some (.cells #[.string A.1, .slice a' A.2.1 c'] 26 (0, 0))))
  clear hK1 hA2 hb2 hb HK HT HA1 HS1 KR1 HA2 HB2 HK2
  go_wp2_with fail
  (try rw [hV0])
  (try rw [hgb])
  clear hV0 hgb hga
  have S0 := Lib.hid (show KpS w (V0.drewN 1) rn rt pd nd kd pm nm km ms z x ∧ (V0.drewN 1).heap[ga]? = some (.cells #[.string A.1, .slice a A.2.1 c] 26 (0, 0)) ∧ (V0.drewN 1).heap[gb]? = some (.cells #[.string A.1, .slice a' A.2.1 c'] 26 (0, 0)) from ⟨⟨bel_dN S0.out.1.below 1, S0.out.1.box, S0.out.1.meas⟩, S0.out.2⟩)
  refine wp_region_mix (fun W => (W.cell? ⟨ga, 0, none⟩ = some (.string A.1) ∧ W.cell? ⟨ga, 1, none⟩ = some (.slice a A.2.1 c)) ∧ (W.cell? ⟨gb, 0, none⟩ = some (.string A.1) ∧ W.cell? ⟨gb, 1, none⟩ = some (.slice a' A.2.1 c')) ∧ W.cell? ⟨w.heap.size, 0, none⟩ = some (.string rn) ∧ W.cell? ⟨w.heap.size, 1, none⟩ = some (.string rt) ∧ W.cell? ⟨w.heap.size, 2, none⟩ = some (.slice pd nd kd) ∧ W.cell? ⟨w.heap.size, 3, none⟩ = some (.slice pm nm km) ∧ W.cell? ⟨w.heap.size, 4, none⟩ = some (.int .i64 z) ∧ W.cell? ⟨w.heap.size, 5, none⟩ = some (.string x)) 36 [(true, 0), (true, 1), (true, 2), (true, 3), (true, 4), (true, 5), (true, 6), (true, 7), (true, 8), (true, 9), (true, 10), (true, 11), (true, 12), (true, 13), (true, 14), (true, 15), (true, 16), (true, 17), (true, 18), (true, 19), (true, 20), (true, 21), (true, 22), (true, 23), (true, 25), (true, 26), (true, 27), (true, 28), (false, 24), (false, 29), (true, 30), (true, 31), (true, 32), (false, 33), (true, 34), (true, 35)] (by kernel_rfl) (by decide +kernel) rfl (by decide +kernel) (SC.out _ S0.out) ?_
  iterate 28
    refine wpMix_take (v := ?_) rfl rfl ?_ ?_
    rotate_left
    · (intro W hW; (try dsimp only at hW); go_simp) <;> with_reducible rfl
    simp only [Act.put, List.setIfInBounds_toArray, List.set_cons_zero, List.set_cons_succ]
  refine wpMix_run rfl ?_
  intro K hK
  go_wp2_with fail
  refine (KM.out _ S0.out.1).mono ?_
  rintro e w' ⟨rfl, hb⟩
  have S0 := Lib.hid (SN.out _ _ hb S0.out)
  clear hb
  go_wp2_with fail
  refine hK.out _ _ (fun _ => SC.out _ S0.out) ?_
  clear hK K
  refine wpMix_run rfl ?_
  intro K hK
  go_wp2_with fail
  refine (KM2.out _ S0.out.1).mono ?_
  rintro e w' ⟨rfl, hb⟩
  have S0 := Lib.hid (SN.out _ _ hb S0.out)
  clear hb
  go_wp2_with fail
  refine hK.out _ _ (fun _ => SC.out _ S0.out) ?_
  clear hK K
  iterate 3
    refine wpMix_take (v := ?_) rfl rfl ?_ ?_
    rotate_left
    · (intro W hW; (try dsimp only at hW); go_simp) <;> with_reducible rfl
    simp only [Act.put, List.setIfInBounds_toArray, List.set_cons_zero, List.set_cons_succ]
  refine wpMix_run rfl ?_
  intro K hK
  go_wp2_with fail
  refine (KL.out _).mono ?_
  rintro e w' ⟨rfl, hb⟩
  have S0 := Lib.hid (SN.out _ _ hb S0.out)
  clear hb
  go_wp2_with fail
  refine hK.out _ _ (fun _ => SC.out _ S0.out) ?_
  clear hK K
  iterate 2
    refine wpMix_take (v := ?_) rfl rfl ?_ ?_
    rotate_left
    · (intro W hW; (try dsimp only at hW); go_simp) <;> with_reducible rfl
    simp only [Act.put, List.setIfInBounds_toArray, List.set_cons_zero, List.set_cons_succ]
  refine wpMix_nil ?_
  have FI := S0.out.1.below
  clear S0 SC SN KM KM2 KL
  go_wp2_with fail
  go_ret
  exact ⟨rfl, FI⟩
end Go.Proofs.Ytjlpmhjnfgmmcaa
