/- The walk of SchemaTables. Conditions: none. -/
import Derived.Test.YtjlpmhjnfgmmcaaSchW
import Derived.Test.YtjlpmhjnfgmmcaaSchL
import Derived.Test.YtjlpmhjnfgmmcaaSched2
set_option maxRecDepth 100000
namespace Go.Proofs.Ytjlpmhjnfgmmcaa
open Go.RowKit Go.Maps Go.Sort Go.Lib

/-- a table and a rollup that came in, in blocks of the call's own -/
structure TR (w W : World) (rn rt : ByteArray) (pd : Option Addr) (nd kd : Nat) (ds : List ByteArray) (pm : Option Addr) (nm km : Nat) (ms : Ml) (tn : ByteArray) (p : Option Addr) (n k : Nat) (cs : Cl) : Prop where
  tab : TabBox W w.heap.size tn p n k cs
  rol : RolBox W (w.heap.size + 1) rn rt pd nd kd ds pm nm km ms
  below : Below w.heap.size w W
theorem TR.next {w W V : World} {rn rt tn : ByteArray} {pd pm p : Option Addr} {nd kd nm km n k : Nat} {ds : List ByteArray} {ms : Ml} {cs : Cl} (h : TR w W rn rt pd nd kd ds pm nm km ms tn p n k cs) (hb : Below W.heap.size W V) : TR w V rn rt pd nd kd ds pm nm km ms tn p n k cs :=
  ⟨h.tab.below hb, h.rol.below hb, h.below.trans (hb.mono h.below.size)⟩
theorem TR.drewN {w W : World} {rn rt tn : ByteArray} {pd pm p : Option Addr} {nd kd nm km n k : Nat} {ds : List ByteArray} {ms : Ml} {cs : Cl} (h : TR w W rn rt pd nd kd ds pm nm km ms tn p n k cs) (m : Nat) : TR w (W.drewN m) rn rt pd nd kd ds pm nm km ms tn p n k cs :=
  ⟨⟨h.tab.box, h.tab.cols, h.tab.len⟩, ⟨h.rol.box, h.rol.dims, h.rol.meas, h.rol.ld, h.rol.lm⟩, bel_dN h.below m⟩
theorem TR.cells {w W : World} {rn rt tn : ByteArray} {pd pm p : Option Addr} {nd kd nm km n k : Nat} {ds : List ByteArray} {ms : Ml} {cs : Cl} (h : TR w W rn rt pd nd kd ds pm nm km ms tn p n k cs) : (W.cell? ⟨w.heap.size, 0, none⟩ = some (.string tn) ∧ W.cell? ⟨w.heap.size, 1, none⟩ = some (.slice p n k)) ∧ W.cell? ⟨w.heap.size + 1, 0, none⟩ = some (.string rn) ∧ W.cell? ⟨w.heap.size + 1, 1, none⟩ = some (.string rt) ∧ W.cell? ⟨w.heap.size + 1, 2, none⟩ = some (.slice pd nd kd) ∧ W.cell? ⟨w.heap.size + 1, 3, none⟩ = some (.slice pm nm km) := ⟨h.tab.cells, h.rol.cells⟩
theorem TR.start {w : World} {rn rt tn : ByteArray} {pd pm p : Option Addr} {nd kd nm km n k : Nat} {ds : List ByteArray} {ms : Ml} {cs : Cl} (hd : Holds w (.slice pd nd kd) (strs ds)) (hm : Holds2 w (.slice pm nm km) (ms.map meaC)) (hc : Holds2 w (.slice p n k) (cs.map colC))
    (ld : ds.length = nd) (lm : ms.length = nm) (lc : cs.length = n) :
    TR w ((w.alloc (.cells #[.string tn, .slice p n k] 26)).alloc (.cells #[.string rn, .string rt, .slice pd nd kd, .slice pm nm km] 30)) rn rt pd nd kd ds pm nm km ms tn p n k cs := by
  have hb1 := box_below w (.cells #[.string tn, .slice p n k] 26)
  have hb2 := box_below (w.alloc (.cells #[.string tn, .slice p n k] 26)) (.cells #[.string rn, .string rt, .slice pd nd kd, .slice pm nm km] 30)
  have hs : (w.alloc (.cells #[.string tn, .slice p n k] 26)).heap.size = w.heap.size + 1 := by simp
  exact ⟨⟨(hb2.block _ (by simp)).trans (heap_alloc_new w _), (hc.below hb1).below hb2, lc⟩, ⟨by rw [← hs]; exact heap_alloc_new _ _, (hd.below hb1).below hb2, (hm.below hb1).below hb2, ld, lm⟩, hb1.trans (hb2.mono hb1.size)⟩
set_option maxHeartbeats 12800000 in
theorem tables_walk {w : World} {rn rt tn : ByteArray} {pd pm p : Option Addr} {nd kd nm km n k : Nat} {ds : List ByteArray} {ms : Ml} {cs : Cl} (hd : Holds w (.slice pd nd kd) (strs ds)) (hm : Holds2 w (.slice pm nm km) (ms.map meaC)) (hc : Holds2 w (.slice p n k) (cs.map colC))
    (ld : ds.length = nd) (lm : ms.length = nm) (lc : cs.length = n) (s : ByteArray) :
    Calls Try.prog 4 #[.agg #[.string tn, .slice p n k], .agg #[.string rn, .string rt, .slice pd nd kd, .slice pm nm km], .string s] w fun e w' => e = .returned (.bool true) ∧ Below w.heap.size w w' := by
  have HS := Lib.hid (TR.start (rn := rn) (rt := rt) (tn := tn) hd hm hc ld lm lc)
  have KL := Lib.hid lives_any
  clear hd hm hc ld lm lc
  by_cases h1 : 100 < n
  · have t1 : decide ((100 : Int) < (n : Int)) = true := decide_eq_true (by omega)
    have KL1 := KL.out
    go_enter Try.func4, Try.ntmps4
    go_wp2_with fail
    refine (KL1 _).mono ?_
    rintro e w1 ⟨rfl, hb⟩
    go_wp2_with fail
    go_ret
    exact ⟨rfl, (HS.out.next hb).below⟩
  have t1 : decide ((100 : Int) < (n : Int)) = false := decide_eq_false (by omega)
  by_cases h2 : 100 < nd
  · have t2 : decide ((100 : Int) < (nd : Int)) = true := decide_eq_true (by omega)
    have KL1 := KL.out
    go_enter Try.func4, Try.ntmps4
    go_wp2_with fail
    refine (KL1 _).mono ?_
    rintro e w1 ⟨rfl, hb⟩
    go_wp2_with fail
    go_ret
    exact ⟨rfl, (HS.out.next hb).below⟩
  have t2 : decide ((100 : Int) < (nd : Int)) = false := decide_eq_false (by omega)
  by_cases h3 : 100 < nm
  · have t3 : decide ((100 : Int) < (nm : Int)) = true := decide_eq_true (by omega)
    have KL1 := KL.out
    go_enter Try.func4, Try.ntmps4
    go_wp2_with fail
    refine (KL1 _).mono ?_
    rintro e w1 ⟨rfl, hb⟩
    go_wp2_with fail
    go_ret
    exact ⟨rfl, (HS.out.next hb).below⟩
  have t3 : decide ((100 : Int) < (nm : Int)) = false := decide_eq_false (by omega)
  have N1 : Hid (n ≤ 100) := Lib.hid (by omega)
  have N2 : Hid (nd ≤ 100) := Lib.hid (by omega)
  have N3 : Hid (nm ≤ 100) := Lib.hid (by omega)
  clear h1 h2 h3
  have KC1 := column_any HS.out.tab.cols HS.out.tab.len (by have := N1.out; omega) tn s
  have KC2 := Lib.hid (fun (V : World) (h : TR w V rn rt pd nd kd ds pm nm km ms tn p n k cs) => refColumn_any h.tab.cols h.tab.len (by have := N1.out; omega) tn s)
  obtain ⟨v, hv⟩ := colVal_form cs s
  rw [hv] at KC1 KC2
  have KT1 := Lib.hid (fun (V : World) (h : TR w V rn rt pd nd kd ds pm nm km ms tn p n k cs) => table_any h.tab.cols h.tab.len (by have := N1.out; omega) tn)
  have KT2 := Lib.hid (fun (V : World) (h : TR w V rn rt pd nd kd ds pm nm km ms tn p n k cs) => refTable_any h.tab.cols h.tab.len (by have := N1.out; omega) tn)
  have KR1 := Lib.hid (fun (V : World) (h : TR w V rn rt pd nd kd ds pm nm km ms tn p n k cs) => rollup_any (rn := rn) (rt := rt) (tn := tn) h.rol.dims h.rol.meas h.tab.cols h.rol.ld h.rol.lm h.tab.len (by have := N1.out; omega) (by have := N2.out; omega) (by have := N3.out; omega))
  have KR2 := Lib.hid (fun (V : World) (h : TR w V rn rt pd nd kd ds pm nm km ms tn p n k cs) => refRollup_any (rn := rn) (rt := rt) (tn := tn) h.rol.dims h.rol.meas h.tab.cols h.rol.ld h.rol.lm h.tab.len (by have := N1.out; omega))
  generalize tabE tn cs = E1 at *
  generalize rolE rn rt ds ms tn cs = E2 at *
  generalize (!lacksB cs s) = LB at *
  generalize kindAt cs s = K at *
  clear hv
  go_enter Try.func4, Try.ntmps4
  go_wp2_with fail
  refine KC1.mono ?_
  rintro e w1 ⟨rfl, hb⟩
  have S1 := HS.out.next hb
  obtain ⟨⟨c0, c1⟩, c2, c3, c4, c5⟩ := S1.cells
  have KC3 := KC2.out _ S1
  have HS1 := Lib.hid S1
  clear S1 hb KC1 KC2 HS
  go_wp2_with fail
  refine KC3.mono ?_
  rintro e w2 ⟨rfl, hb⟩
  have S2 := HS1.out.next hb
  clear hb KC3 HS1 c0 c1 c2 c3 c4 c5 t1 t2 t3
  go_wp2_with fail
  refine wp_region_mix (fun W => (W.cell? ⟨w.heap.size, 0, none⟩ = some (.string tn) ∧ W.cell? ⟨w.heap.size, 1, none⟩ = some (.slice p n k)) ∧ W.cell? ⟨w.heap.size + 1, 0, none⟩ = some (.string rn) ∧ W.cell? ⟨w.heap.size + 1, 1, none⟩ = some (.string rt) ∧ W.cell? ⟨w.heap.size + 1, 2, none⟩ = some (.slice pd nd kd) ∧ W.cell? ⟨w.heap.size + 1, 3, none⟩ = some (.slice pm nm km)) 33 [(true, 0), (true, 2), (false, 1), (false, 3), (true, 4), (true, 5), (true, 6), (true, 7), (true, 9), (true, 10), (false, 8), (false, 11), (true, 12), (true, 13), (true, 14), (true, 15), (true, 16), (true, 17), (true, 18), (true, 19), (true, 20), (true, 21), (true, 22), (true, 23), (true, 24), (true, 25), (true, 26), (true, 27), (true, 28), (true, 29), (false, 30), (true, 31), (true, 32)] (by kernel_rfl) (by decide +kernel) rfl (by decide +kernel) S2.cells ?_
  iterate 2
    refine wpMix_take (v := ?_) rfl rfl ?_ ?_
    rotate_left
    · (intro W hW; (try dsimp only at hW); go_simp) <;> with_reducible rfl
    simp only [Act.put, List.setIfInBounds_toArray, List.set_cons_zero, List.set_cons_succ]
  have S2 := TR.drewN S2 1
  refine wpMix_run rfl ?_
  intro K hK
  go_wp2_with fail
  refine (KT1.out _ S2).mono ?_
  rintro e w' ⟨rfl, hb⟩
  have S2 := S2.next hb
  clear hb
  go_wp2_with fail
  refine hK.out _ _ (fun _ => S2.cells) ?_
  clear hK K
  refine wpMix_run rfl ?_
  intro K hK
  go_wp2_with fail
  refine (KT2.out _ S2).mono ?_
  rintro e w' ⟨rfl, hb⟩
  have S2 := S2.next hb
  clear hb
  go_wp2_with fail
  refine hK.out _ _ (fun _ => S2.cells) ?_
  clear hK K
  iterate 6
    refine wpMix_take (v := ?_) rfl rfl ?_ ?_
    rotate_left
    · (intro W hW; (try dsimp only at hW); go_simp) <;> with_reducible rfl
    simp only [Act.put, List.setIfInBounds_toArray, List.set_cons_zero, List.set_cons_succ]
  refine wpMix_run rfl ?_
  intro K hK
  go_wp2_with fail
  refine (KR1.out _ S2).mono ?_
  rintro e w' ⟨rfl, hb⟩
  have S2 := S2.next hb
  clear hb
  go_wp2_with fail
  refine hK.out _ _ (fun _ => S2.cells) ?_
  clear hK K
  refine wpMix_run rfl ?_
  intro K hK
  go_wp2_with fail
  refine (KR2.out _ S2).mono ?_
  rintro e w' ⟨rfl, hb⟩
  have S2 := S2.next hb
  clear hb
  go_wp2_with fail
  refine hK.out _ _ (fun _ => S2.cells) ?_
  clear hK K
  iterate 18
    refine wpMix_take (v := ?_) rfl rfl ?_ ?_
    rotate_left
    · (intro W hW; (try dsimp only at hW); go_simp) <;> with_reducible rfl
    simp only [Act.put, List.setIfInBounds_toArray, List.set_cons_zero, List.set_cons_succ]
  refine wpMix_run rfl ?_
  intro K hK
  go_wp2_with fail
  refine (KL.out _).mono ?_
  rintro e w' ⟨rfl, hb⟩
  have S2 := S2.next hb
  clear hb
  go_wp2_with fail
  refine hK.out _ _ (fun _ => S2.cells) ?_
  clear hK K
  iterate 2
    refine wpMix_take (v := ?_) rfl rfl ?_ ?_
    rotate_left
    · (intro W hW; (try dsimp only at hW); go_simp) <;> with_reducible rfl
    simp only [Act.put, List.setIfInBounds_toArray, List.set_cons_zero, List.set_cons_succ]
  refine wpMix_nil ?_
  go_wp2_with fail
  go_ret
  exact ⟨rfl, S2.below⟩
end Go.Proofs.Ytjlpmhjnfgmmcaa
