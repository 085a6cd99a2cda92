/- The texts CelI CelJ CelK CelL, one behind the other; each one's own comment says what it holds. -/
import Derived.Test.YtlhpbfjelgmkeaaGreatCellOrderRowGG
/- What a cell tells: a sum, a least, and that a sum is no count. Conditions: a cell that was made. -/
set_option maxRecDepth 100000
namespace Go.Proofs.YtlhpbfjelgmkeaaGreat
open Go.RowKit Go.Maps Go.Sort Go.Lib
open Wide

section
variable {w0 w : World} {E : List (Nat × Thing)} {i q : Nat} {L : Lay} {C : Cv}
theorem csum_at (h : Side w0 E w) (h1 : (i, OBox q (celO L C)) ∈ E) (h2 : (i + 2, RowT 97 1 L.sv C.st.length (vals C.st)) ∈ E) (ht : 1 ≤ C.t) {m b n j : Nat} {N : Int} (hm : C.st[m]? = some (b, .sum N n)) (h3 : (j, OBox b (sumO N n)) ∈ E) :
    Calls Tryz.prog 16 #[.pointer (some ⟨q, 0, none⟩), .int .i64 (m : Int)] w fun e w' => e = .returned (.tuple #[wv N, .int .i64 (n : Int), .bool true]) ∧ Below w.heap.size w w' := by
  have hb := below_c w (.cells #[.int .i64 0, .int .u64 0] 45)
  have S1 := h.below hb
  have KS := cstate_at S1 h1 h2 ht hm
  have hx := heap_alloc_new w (.cells #[.int .i64 0, .int .u64 0] 45)
  have hs := S1.heapO h3
  obtain ⟨W, hW⟩ : ∃ W, w.alloc (.cells #[.int .i64 0, .int .u64 0] 45) = W := ⟨_, rfl⟩
  rw [hW] at KS hx hs hb
  obtain ⟨x, y, ex, ey⟩ : ∃ x y, hiW N = x ∧ loW N = y := ⟨_, _, rfl, rfl⟩
  unfold wv
  unfold sumO at hs
  rw [ex, ey] at hs ⊢
  have e0 : W.cell? ⟨b, 0, none⟩ = some (.int .i64 x) := by rw [cell_of_row _ _ _ _ _ _ hs]; rfl
  have e1 : W.cell? ⟨b, 1, none⟩ = some (.int .u64 y) := by rw [cell_of_row _ _ _ _ _ _ hs]; rfl
  have e2 : W.cell? ⟨b, 2, none⟩ = some (.int .i64 (n : Int)) := by rw [cell_of_row _ _ _ _ _ _ hs]; rfl
  have d0 : W.cell? ⟨w.heap.size, 0, none⟩ = some (.int .i64 0) := by rw [cell_of_row _ _ _ _ _ _ hx]; rfl
  have d1 : W.cell? ⟨w.heap.size, 1, none⟩ = some (.int .u64 0) := by rw [cell_of_row _ _ _ _ _ _ hx]; rfl
  have f0 : W.frozen? ⟨w.heap.size, 0, none⟩ = false := free_of_row hx 0
  have f1 : W.frozen? ⟨w.heap.size, 1, none⟩ = false := free_of_row hx 1
  have hx2 := heap_set (j := 1) (heap_set (j := 0) hx (.int .i64 x)) (.int .u64 y)
  have r0 : ((W.setCell ⟨w.heap.size, 0, none⟩ (.int .i64 x)).setCell ⟨w.heap.size, 1, none⟩ (.int .u64 y)).cell? ⟨w.heap.size, 0, none⟩ = some (.int .i64 x) := by rw [cell_of_row _ _ _ _ _ _ hx2]; rfl
  have r1 : ((W.setCell ⟨w.heap.size, 0, none⟩ (.int .i64 x)).setCell ⟨w.heap.size, 1, none⟩ (.int .u64 y)).cell? ⟨w.heap.size, 1, none⟩ = some (.int .u64 y) := by rw [cell_of_row _ _ _ _ _ _ hx2]; rfl
  have FIN := Lib.hid (show Below w.heap.size w ((W.setCell ⟨w.heap.size, 0, none⟩ (.int .i64 x)).setCell ⟨w.heap.size, 1, none⟩ (.int .u64 y)) from (hb.setCell (p := ⟨w.heap.size, 0, none⟩) (Nat.le_refl _) _).setCell (p := ⟨w.heap.size, 1, none⟩) (Nat.le_refl _) _)
  have KA := as_sum_sum
  unfold Sv.val at KS
  simp only at KS
  clear h h1 h2 h3 hm ht S1 hs hx hx2 hb ex ey
  go_enter Tryz.func16, Tryz.ntmps16
  go_wp2_with fail
  refine KS.mono ?_
  rintro e w' ⟨rfl, rfl⟩
  clear KS hW
  go_upto_region 3 with (fail)
  go_region
  go_wp2_with fail
  refine bodyPost_ret (v := .tuple #[.agg #[.int .i64 x, .int .u64 y], .int .i64 (n : Int), .bool true]) ?_ rfl ⟨rfl, ⟨FIN.out.os, FIN.out.tape, FIN.out.output, FIN.out.size, FIN.out.block⟩⟩
  simp [results, Tryz.results16, go_sem, r0, r1]
theorem ccount_sum (h : Side w0 E w) (h1 : (i, OBox q (celO L C)) ∈ E) (h2 : (i + 2, RowT 97 1 L.sv C.st.length (vals C.st)) ∈ E) (ht : 1 ≤ C.t) {m b n : Nat} {N : Int} (hm : C.st[m]? = some (b, .sum N n)) :
    Calls Tryz.prog 15 #[.pointer (some ⟨q, 0, none⟩), .int .i64 (m : Int)] w fun e w' => e = .returned (.tuple #[.int .i64 0, .bool false]) ∧ w = w' := by
  have KS := cstate_at h h1 h2 ht hm
  unfold Sv.val at KS
  simp only at KS
  have KA := as_sum_count
  clear h h1 h2 hm ht
  go_enter Tryz.func15, Tryz.ntmps15
  go_wp2_with fail
  refine KS.mono ?_
  rintro e w' ⟨rfl, rfl⟩
  clear KS
  go_wp2_with fail
  go_ret2
  exact ⟨rfl, rfl⟩
theorem cleast_at (h : Side w0 E w) (h1 : (i, OBox q (celO L C)) ∈ E) (h2 : (i + 2, RowT 97 1 L.sv C.st.length (vals C.st)) ∈ E) (ht : 1 ≤ C.t) {m b j : Nat} {v : VV} (hm : C.st[m]? = some (b, .low v)) (h3 : (j, OBox b (lowO v)) ∈ E) (hv : v.fine) :
    Calls Tryz.prog 17 #[.pointer (some ⟨q, 0, none⟩), .int .i64 (m : Int)] w fun e w' => e = .returned (.tuple #[v.val, .bool true]) ∧ Below w.heap.size w w' := by
  have hb := below_c w (.cells #[.int .i64 0, .int .i64 0, .string ⟨#[]⟩] 36)
  have S1 := h.below hb
  have KS := cstate_at S1 h1 h2 ht hm
  have hx := heap_alloc_new w (.cells #[.int .i64 0, .int .i64 0, .string ⟨#[]⟩] 36)
  have hs := S1.heapO h3
  obtain ⟨W, hW⟩ : ∃ W, w.alloc (.cells #[.int .i64 0, .int .i64 0, .string ⟨#[]⟩] 36) = W := ⟨_, rfl⟩
  rw [hW] at KS hx hs hb
  have KC := ccopied_any v hv.1 W
  obtain ⟨vk, vn, vs⟩ := v
  rw [one_val] at KC ⊢
  unfold lowO at hs
  simp only at KC hs ⊢
  obtain ⟨c0, c1, c2⟩ : W.cell? ⟨b, 0, none⟩ = some (.int .i64 vk) ∧ W.cell? ⟨b, 1, none⟩ = some (.int .i64 vn) ∧ W.cell? ⟨b, 2, none⟩ = some (.string vs) := ⟨by rw [cell_of_row _ _ _ _ _ _ hs]; rfl, by rw [cell_of_row _ _ _ _ _ _ hs]; rfl, by rw [cell_of_row _ _ _ _ _ _ hs]; rfl⟩
  have HX := Lib.hid hx
  have HB := Lib.hid hb
  have KA := as_least_least
  unfold Sv.val at KS
  simp only at KS
  clear h h1 h2 h3 hm ht S1 hs hx hb hv
  go_enter Tryz.func17, Tryz.ntmps17
  go_wp2_with fail
  refine KS.mono ?_
  rintro e w' ⟨rfl, rfl⟩
  clear KS hW
  go_wp2_with fail
  refine KC.mono ?_
  rintro e w2 ⟨rfl, hb2⟩
  have hx := (hb2.block _ (lt_of_heap HX.out)).trans HX.out
  have y0 : w2.cell? ⟨w.heap.size, 0, none⟩ = some (.int .i64 0) := by rw [cell_of_row _ _ _ _ _ _ hx]; rfl
  have y1 : w2.cell? ⟨w.heap.size, 1, none⟩ = some (.int .i64 0) := by rw [cell_of_row _ _ _ _ _ _ hx]; rfl
  have y2 : w2.cell? ⟨w.heap.size, 2, none⟩ = some (.string ⟨#[]⟩) := by rw [cell_of_row _ _ _ _ _ _ hx]; rfl
  have f0 := free_of_row hx 0
  have f1 := free_of_row hx 1
  have f2 := free_of_row hx 2
  have hx2 := heap_set (j := 2) (heap_set (j := 1) (heap_set (j := 0) hx (.int .i64 vk)) (.int .i64 vn)) (.string vs)
  have r0 : (((w2.setCell ⟨w.heap.size, 0, none⟩ (.int .i64 vk)).setCell ⟨w.heap.size, 1, none⟩ (.int .i64 vn)).setCell ⟨w.heap.size, 2, none⟩ (.string vs)).cell? ⟨w.heap.size, 0, none⟩ = some (.int .i64 vk) := by rw [cell_of_row _ _ _ _ _ _ hx2]; rfl
  have r1 : (((w2.setCell ⟨w.heap.size, 0, none⟩ (.int .i64 vk)).setCell ⟨w.heap.size, 1, none⟩ (.int .i64 vn)).setCell ⟨w.heap.size, 2, none⟩ (.string vs)).cell? ⟨w.heap.size, 1, none⟩ = some (.int .i64 vn) := by rw [cell_of_row _ _ _ _ _ _ hx2]; rfl
  have r2 : (((w2.setCell ⟨w.heap.size, 0, none⟩ (.int .i64 vk)).setCell ⟨w.heap.size, 1, none⟩ (.int .i64 vn)).setCell ⟨w.heap.size, 2, none⟩ (.string vs)).cell? ⟨w.heap.size, 2, none⟩ = some (.string vs) := by rw [cell_of_row _ _ _ _ _ _ hx2]; rfl
  have hb3 := HB.out.trans (hb2.mono HB.out.size)
  have FIN := Lib.hid (((hb3.setCell (p := ⟨w.heap.size, 0, none⟩) (Nat.le_refl _) (.int .i64 vk)).setCell (p := ⟨w.heap.size, 1, none⟩) (Nat.le_refl _) (.int .i64 vn)).setCell (p := ⟨w.heap.size, 2, none⟩) (Nat.le_refl _) (.string vs))
  clear hb2 hb3 hx hx2 KC HX HB
  go_wp2_with fail
  refine bodyPost_ret (v := .tuple #[.agg #[.int .i64 vk, .int .i64 vn, .string vs], .bool true]) ?_ rfl ⟨rfl, FIN.out⟩
  simp [results, Tryz.results17, go_sem, r0, r1, r2]
end
end Go.Proofs.YtlhpbfjelgmkeaaGreat
/- Add of a row: whether it fits, and what each measure takes. Conditions: as many values and ids as measures, of which there are few; kinds 1 to 4. -/
set_option maxRecDepth 100000
namespace Go.Proofs.YtlhpbfjelgmkeaaGreat
open Go.RowKit Go.Maps Go.Sort Go.Lib

set_option maxHeartbeats 3200000 in
theorem cfits_any {w0 w : World} {E : List (Nat × Thing)} {i q : Nat} {L : Lay} {C : Cv} (h : Side w0 E w) (h1 : (i, OBox q (celO L C)) ∈ E) (h2 : (i + 3, RowT 3 1 L.kv C.ks.length (i64s C.ks)) ∈ E)
    {va : Option Addr} {n c : Nat} {xs : List VV} (HV : HoldsV w (.slice va n c) xs) (hn : n ≤ 1000) (hl : xs.length = n) (hk : C.ks.length = n) (hx : ∀ v ∈ xs, v.inI) (hok : ∀ k ∈ C.ks, 1 ≤ k ∧ k ≤ 4) :
    Calls Tryz.prog 37 #[.pointer (some ⟨q, 0, none⟩), .slice va n c] w fun e w' => e = .returned (.bool (fitsL xs C.ks)) ∧ Below w.heap.size w w' := by
  have hq := h.heapO h1
  obtain ⟨T, hT⟩ := side_thing h h2
  have hrow := hT.1
  obtain ⟨ka, kc, hkv, _⟩ := ownsRow_form hrow
  rw [hkv] at hrow
  rw [hk] at hkv
  have c1 : w.cell? ⟨q, 1, none⟩ = some L.kv := by rw [cell_of_row _ _ _ _ _ _ hq]; rfl
  rw [hkv] at c1
  generalize C.ks = ks at *
  have hlq := World.block_lt_of_cell? w _ c1
  have HC1 := Lib.hid (fun (V : World) (hV : Below w.heap.size w V) => (show V.cell? ⟨q, 1, none⟩ = some (.slice ka n kc) from by rw [hV.cell hlq]; exact c1))
  have HR := Lib.hid (fun (V : World) (hV : Below w.heap.size w V) => ownsRow_below hrow hV)
  have HHV := Lib.hid (fun (V : World) (hV : Below w.heap.size w V) => HV.below hV)
  have HL := Lib.hid hl
  have HK := Lib.hid hk
  have HX := Lib.hid hx
  have HOK := Lib.hid hok
  have FNO := Lib.hid (fun (j : Nat) (v : VV) (k : Int) (e1 : xs[j]? = some v) (e2 : ks[j]? = some k) (e3 : fitsV k v = false) => fitsL_no e1 e2 e3)
  obtain ⟨R, hR⟩ : ∃ R, fitsL xs ks = R := ⟨_, rfl⟩
  rw [hR] at FNO ⊢
  have FYE := Lib.hid (fun (e : ∀ (j : Nat) v k, xs[j]? = some v → ks[j]? = some k → fitsV k v = true) => (hR.symm.trans (fitsL_yes e) : R = true))
  clear h h1 h2 hq hT hrow hkv c1 hlq HV hl hk hx hok hR
  go_enter Tryz.func37, Tryz.ntmps37
  go_wp2_with fail
  go_loopw [9] (fun s9 W => ∃ k : Nat, s9 = .int .i64 k ∧ k ≤ n ∧ Hid (Below w.heap.size w W) ∧ Hid (∀ (j : Nat) v kk, j < k → xs[j]? = some v → ks[j]? = some kk → fitsV kk v = true)) (fun s9 _ => n - (RowKit.intOf s9).toNat)
  case atStart => exact ⟨0, rfl, by omega, Lib.hid (Below.refl _ _), Lib.hid (fun j _ _ hj => absurd hj (by omega))⟩
  case round =>
    obtain ⟨k, rfl, hk, HB, HY⟩ := hrel
    by_cases hlt : k < n
    · obtain ⟨⟨vk, vn, vs⟩, hv⟩ : ∃ v, xs[k]? = some v := ⟨_, List.getElem?_eq_getElem (by rw [HL.out]; exact hlt)⟩
      obtain ⟨kk, hkk⟩ : ∃ x, ks[k]? = some x := ⟨_, List.getElem?_eq_getElem (by rw [HK.out]; exact hlt)⟩
      obtain ⟨ad, ha, v0, v1, v2⟩ := (HHV.out wr HB.out).at_ hv
      obtain ⟨kad, hka, hck⟩ := row_cell1 (HR.out wr HB.out) (j := k) (u := .int .i64 kk) (by unfold i64s; rw [List.getElem?_map, hkk]; rfl)
      rcases ha with rfl
      rcases hka with rfl
      have hxx := HX.out _ (List.mem_of_getElem? hv)
      obtain ⟨hk1, hk4⟩ := HOK.out _ (List.mem_of_getElem? hkk)
      have KF := fun V => fits_any hxx hk1 hk4 V
      rw [one_val] at KF
      simp only at v0 v1 v2 KF
      have hbx := below_c wr (.cells #[.int .i64 vk, .int .i64 vn, .string vs] 36)
      have hbd := hbx.trans ((below_drew1 _).mono hbx.size)
      have HBW := Lib.hid (HB.out.trans (hbd.mono HB.out.size))
      have hnew := heap_alloc_new wr (.cells #[.int .i64 vk, .int .i64 vn, .string vs] 36)
      have HST := Lib.hid (fun (V : World) (hV : Below (wr.alloc (.cells #[.int .i64 vk, .int .i64 vn, .string vs] 36)).heap.size (wr.alloc (.cells #[.int .i64 vk, .int .i64 vn, .string vs] 36)) V) => (show (V.cell? ⟨wr.heap.size, 0, none⟩ = some (.int .i64 vk) ∧ V.cell? ⟨wr.heap.size, 1, none⟩ = some (.int .i64 vn) ∧ V.cell? ⟨wr.heap.size, 2, none⟩ = some (.string vs)) ∧ V.cell? ⟨q, 1, none⟩ = some (.slice (some kad) n kc) ∧ V.cell? (kad.add k) = some (.int .i64 kk) from by
        have g1 := (hV.block _ (lt_of_heap hnew)).trans hnew
        have hbV := hbx.trans (hV.mono hbx.size)
        exact ⟨⟨by rw [cell_of_row _ _ _ _ _ _ g1]; rfl, by rw [cell_of_row _ _ _ _ _ _ g1]; rfl, by rw [cell_of_row _ _ _ _ _ _ g1]; rfl⟩, HC1.out _ (HB.out.trans (hbV.mono HB.out.size)), by rw [hbV.cell (World.block_lt_of_cell? wr _ hck)]; exact hck⟩))
      have l0 : (0 : Int) ≤ (k : Int) := Int.natCast_nonneg k
      have l1 : (k : Int) < (n : Int) := Int.ofNat_lt.2 hlt
      have hwk : IntKind.i64.wrap ((k : Int) + 1) = (k : Int) + 1 := by rw [IntKind.wrap_i64]; omega
      have HLT := Lib.hid hlt
      have HFN := Lib.hid (fun e3 => FNO.out k _ _ hv hkk e3)
      have HVV := Lib.hid hv
      have HKK := Lib.hid hkk
      clear hv hkk hck hxx hk1 hk4 hbx hbd hnew hk
      go_upto_region 4 with (fail)
      refine wp_region_mix (fun V => (V.cell? ⟨wr.heap.size, 0, none⟩ = some (.int .i64 vk) ∧ V.cell? ⟨wr.heap.size, 1, none⟩ = some (.int .i64 vn) ∧ V.cell? ⟨wr.heap.size, 2, none⟩ = some (.string vs)) ∧ V.cell? ⟨q, 1, none⟩ = some (.slice (some kad) n kc) ∧ V.cell? (kad.add k) = some (.int .i64 kk)) 10 [(true, 0), (true, 1), (true, 2), (true, 3), (true, 4), (true, 5), (true, 6), (true, 7), (false, 8), (true, 9)] (by kernel_rfl) (by decide +kernel) rfl (by decide +kernel) (HST.out _ (below_drew1 _)) ?_
      iterate 8
        refine wpMix_take (v := ?_) rfl rfl ?_ ?_
        rotate_left
        · (intro W hW; (try dsimp only at hW); go_simp) <;> with_reducible rfl
        simp only [Act.put, List.setIfInBounds_toArray, List.set_cons_zero, List.set_cons_succ]
      obtain ⟨fb, hfb⟩ : ∃ fb, fitsV kk ⟨vk, vn, vs⟩ = fb := ⟨_, rfl⟩
      rw [hfb] at KF
      have HFB := Lib.hid hfb
      clear hfb
      refine wpMix_run rfl ?_
      intro K' hK'
      go_wp2_with fail
      refine (KF _).mono ?_
      rintro e w3 ⟨rfl, hb3⟩
      have hb4 : Below (wr.alloc (.cells #[.int .i64 vk, .int .i64 vn, .string vs] 36)).heap.size (wr.alloc (.cells #[.int .i64 vk, .int .i64 vn, .string vs] 36)) w3 := (below_drew1 _).trans (hb3.mono (Nat.le_refl _))
      have HB5 := Lib.hid (HBW.out.trans (hb3.mono HBW.out.size))
      have C3 := HST.out _ hb4
      clear hb3 hb4 KF HST
      go_wp2_with fail
      refine hK'.out _ _ (fun _ => C3) ?_
      clear hK' K' C3
      iterate 1
        refine wpMix_take (v := ?_) rfl rfl ?_ ?_
        rotate_left
        · (intro W hW; (try dsimp only at hW); go_simp) <;> with_reducible rfl
        simp only [Act.put, List.setIfInBounds_toArray, List.set_cons_zero, List.set_cons_succ]
      refine wpMix_nil ?_
      cases fb
      · have hR0 := HFN.out HFB.out
        subst hR0
        have FI := HB5.out
        clear HB5 HBW HB HY HFN
        go_wp2_with fail
        go_ret
        exact ⟨rfl, FI⟩
      · have HY2 : Hid (∀ (j : Nat) v kk, j < k + 1 → xs[j]? = some v → ks[j]? = some kk → fitsV kk v = true) := Lib.hid fun j v k' hj e1 e2 => by
          rcases Nat.lt_or_ge j k with h | h
          · exact HY.out j v k' h e1 e2
          · have : j = k := by omega
            subst this
            rw [HVV.out] at e1
            rw [HKK.out] at e2
            simp only [Option.some.injEq] at e1 e2
            subst e1 e2
            exact HFB.out
        clear HBW HB HY HFN
        go_wp2_with fail
        go_roundw
        case rel => exact ⟨k + 1, by go_num, by have := HLT.out; omega, HB5, HY2⟩
        case measure => have := HLT.out; simp [RowKit.intOf]; omega
    · have hR1 := FYE.out (fun j v k' e1 e2 => HY.out j v k' (by have h := (List.getElem?_eq_some_iff.1 e1).1; rw [HL.out] at h; omega) e1 e2)
      subst hR1
      have hlt' : ¬ ((k : Int) < (n : Int)) := by omega
      have FI := HB.out
      clear HB HY hlt hk
      go_wp2_with fail
      go_ret
      exact ⟨rfl, FI⟩
end Go.Proofs.YtlhpbfjelgmkeaaGreat
/- Add: a row. Conditions: as many values and ids as measures, of which there are few; kinds 1 to 4; few values so far. -/
set_option maxRecDepth 100000
namespace Go.Proofs.YtlhpbfjelgmkeaaGreat
open Go.RowKit Go.Maps Go.Sort Go.Lib

theorem stE_app : ∀ (j : Nat) (l m : List (Nat × Sv)), stE j (l ++ m) = stE j l ++ stE (j + l.length) m
  | j, [], m => by simp [stE]
  | j, a :: r, m => by
    rw [List.cons_append, stE, stE_app (j + 1) r m, stE]
    simp only [List.length_cons, List.cons_append]
    rw [show j + 1 + r.length = j + (r.length + 1) by omega]
def addS (v : VV) (d : Int) (s : Nat × Sv) : Nat × Sv := if (v.k == 0) = true then s else (s.1, takeS v d s.2)
theorem val_take (b : Nat) (v : VV) (d : Int) (s : Sv) : Sv.val b (takeS v d s) = Sv.val b s := by cases s <;> rfl
theorem val_add (v : VV) (d : Int) (s : Nat × Sv) : Sv.val (addS v d s).1 (addS v d s).2 = Sv.val s.1 s.2 := by
  unfold addS
  split
  · rfl
  · exact val_take _ _ _ _
/-- what a row leaves -/
def Added (xs : List VV) (ids : List Int) (st st' : List (Nat × Sv)) : Prop := st'.length = st.length ∧ ∀ (j : Nat) v d s, xs[j]? = some v → ids[j]? = some d → st[j]? = some s → st'[j]? = some (addS v d s)
/-- a row so far -/
def Adding (xs : List VV) (ids : List Int) (st : List (Nat × Sv)) (k : Nat) (A : List (Nat × Sv)) : Prop := A.length = k ∧ ∀ (j : Nat) v d s, j < k → xs[j]? = some v → ids[j]? = some d → st[j]? = some s → A[j]? = some (addS v d s)
theorem Adding.next {xs : List VV} {ids : List Int} {st : List (Nat × Sv)} {k : Nat} {A : List (Nat × Sv)} (h : Adding xs ids st k A) {v : VV} {d : Int} {s : Nat × Sv} (hv : xs[k]? = some v) (hd : ids[k]? = some d) (hs : st[k]? = some s) : Adding xs ids st (k + 1) (A ++ [addS v d s]) := by
  refine ⟨by rw [List.length_append, h.1]; rfl, fun j v' d' s' hj e1 e2 e3 => ?_⟩
  rcases Nat.lt_or_ge j k with g | g
  · rw [List.getElem?_append_left (by rw [h.1]; exact g)]
    exact h.2 j v' d' s' g e1 e2 e3
  · have : j = k := by omega
    subst this
    rw [hv] at e1
    rw [hd] at e2
    rw [hs] at e3
    simp only [Option.some.injEq] at e1 e2 e3
    subst e1 e2 e3
    rw [List.getElem?_append_right (by rw [h.1]; exact Nat.le_refl _), h.1, Nat.sub_self]
    rfl
def addC (C : Cv) (st : List (Nat × Sv)) : Cv := { C with rows := C.rows + 1, st := st }
def AddP (w0 : World) (E : List (Nat × Thing)) (i q : Nat) (L : Lay) (C : Cv) (xs : List VV) (ids : List Int) (e : Ending) (w' : World) : Prop :=
  (fitsL xs C.ks = true ∧ e = .returned (.int .i64 0) ∧ ∃ st', Added xs ids C.st st' ∧ vals st' = vals C.st ∧ Hid (Side w0 (cellE i q L (addC C st') ++ E) w')) ∨ (fitsL xs C.ks = false ∧ e = .returned (.int .i64 12) ∧ Hid (Side w0 (cellE i q L C ++ E) w'))
set_option maxHeartbeats 12800000 in
theorem cadd_any {w0 w : World} {E : List (Nat × Thing)} {i q : Nat} {L : Lay} {C : Cv} (h : Side w0 (cellE i q L C ++ E) w) (hE : tagsOff i E) {va ia : Option Addr} {n c c2 m : Nat} {xs : List VV} {ids : List Int}
    (HV : ∀ W, Side w0 E W → HoldsV W (.slice va n c) xs) (HI : ∀ W, Side w0 E W → Holds W (.slice ia n c2) (i64s ids)) (hn : n ≤ 16) (hl : xs.length = n) (hli : ids.length = n) (hk : C.ks.length = n) (hst : C.st.length = n)
    (ht : 1 ≤ C.t) (hrows : C.rows ≤ 1000000) (hm : m ≤ 1000000) (hsm : ∀ s ∈ C.st, smallS m s.2) (hx : ∀ v ∈ xs, v.inI) (hfine : fitsL xs C.ks = true → ∀ v ∈ xs, v.fine) (hok : ∀ k ∈ C.ks, 1 ≤ k ∧ k ≤ 4) :
    Calls Tryz.prog 12 #[.pointer (some ⟨q, 0, none⟩), .slice va n c, .slice ia n c2] w (AddP w0 E i q L C xs ids) := by
  have h1 : (i, OBox q (celO L C)) ∈ cellE i q L C ++ E := by unfold cellE; simp
  have h2 : (i + 3, RowT 3 1 L.kv C.ks.length (i64s C.ks)) ∈ cellE i q L C ++ E := by unfold cellE; simp
  have h3 : (i + 2, RowT 97 1 L.sv C.st.length (vals C.st)) ∈ cellE i q L C ++ E := by unfold cellE; simp
  have hq := h.heapO h1
  have KM := cmade_yes hq ht
  have KF := cfits_any h h1 h2 (HV w (h.sub fun x hx => List.mem_append_right _ hx)) (by omega) hl hk hx hok
  obtain ⟨T, hT⟩ := side_thing h h3
  obtain ⟨sa, sc, hsv, _⟩ := ownsRow_form hT.1
  rw [hst] at hsv
  have c7 : w.cell? ⟨q, 7, none⟩ = some L.sv := by rw [cell_of_row _ _ _ _ _ _ hq]; rfl
  rw [hsv] at c7
  have c6 : w.cell? ⟨q, 6, none⟩ = some (.int .i64 (C.rows : Int)) := by rw [cell_of_row _ _ _ _ _ _ hq]; rfl
  obtain ⟨P, hP⟩ : ∃ P, AddP w0 E i q L C xs ids = P := ⟨_, rfl⟩
  rw [hP]
  obtain ⟨fb, hfb⟩ : ∃ fb, fitsL xs C.ks = fb := ⟨_, rfl⟩
  rw [hfb] at KF
  obtain ⟨R, hR⟩ : ∃ R, C.rows = R := ⟨_, rfl⟩
  rw [hR] at c6
  have t0 : ((n : Int) != (n : Int)) = false := by simp
  have FNO := Lib.hid (fun (W : World) (hf : fb = false) (hS : Side w0 (cellE i q L C ++ E) W) => (by rw [← hP]; exact .inr ⟨hfb.trans hf, rfl, Lib.hid hS⟩ : P (.returned (.int .i64 12)) W))
  have FYE := Lib.hid (fun (W : World) (st' : List (Nat × Sv)) (hf : fb = true) (ha : Added xs ids C.st st') (hvs : vals st' = vals C.st) (hS : Side w0 (cellE i q L (addC C st') ++ E) W) => (by rw [← hP]; exact .inl ⟨hfb.trans hf, rfl, st', ha, hvs, Lib.hid hS⟩ : P (.returned (.int .i64 0)) W))
  have HS := Lib.hid h
  have HE := Lib.hid hE
  replace HV := Lib.hid HV
  replace HI := Lib.hid HI
  have HL := Lib.hid hl
  have HLI := Lib.hid hli
  have HST := Lib.hid hst
  have HSM := Lib.hid hsm
  have HFI := Lib.hid hfine
  have HFB := Lib.hid hfb
  have HM := Lib.hid hm
  have HSV := Lib.hid hsv
  have HRR := Lib.hid hR
  have HRW := Lib.hid hrows
  clear h h1 h2 h3 hq hT hsv hE hl hli hst hsm hfine hx hok hfb hP hk ht hm hR hrows
  go_enter Tryz.func12, Tryz.ntmps12
  go_wp2_with fail
  refine KM.mono ?_
  rintro e w1 ⟨rfl, rfl⟩
  clear KM
  go_wp2_with fail
  refine KF.mono ?_
  rintro e w2 ⟨rfl, hb2⟩
  have S2 := Lib.hid (HS.out.below hb2)
  clear KF
  cases fb
  · have FI := FNO.out w2 rfl S2.out
    clear FNO FYE S2 HS hb2
    go_wp2_with fail
    exact FI
  have hq2 : w2.heap[q]? = some (celO L C) := S2.out.heapO (i := i) (by unfold cellE; simp)
  have d6 : w2.cell? ⟨q, 6, none⟩ = some (.int .i64 (R : Int)) := by rw [cell_of_row _ _ _ _ _ _ hq2]; show some (Value.int .i64 (C.rows : Int)) = _; rw [HRR.out]
  have f6 := free_of_row hq2 6
  have KP : Calls Tryz.prog 38 #[.int .i64 (R : Int), .int .i64 1] w2 fun e w' => e = .returned (.int .i64 ((R + 1 : Nat) : Int)) ∧ w2 = w' := cplus_any R 1 (by have := HRW.out; have := HRR.out; omega) w2
  have S3 : Hid (∃ A, Adding xs ids C.st 0 A ∧ vals (A ++ C.st.drop 0) = vals C.st ∧ Side w0 (cellE i q L (addC C (A ++ C.st.drop 0)) ++ E) (w2.setCell ⟨q, 6, none⟩ (.int .i64 ((R + 1 : Nat) : Int)))) := Lib.hid (by
    refine ⟨[], ⟨rfl, fun j _ _ _ hj => absurd hj (by omega)⟩, by simp, ?_⟩
    have hS := S2.out
    unfold cellE at hS
    have := Side.set (j := 6) (E := (i + 1, RowT 25 2 L.mv C.ms.length (fl2 (C.ms.map meaC))) :: (i + 2, RowT 97 1 L.sv C.st.length (vals C.st)) :: (i + 3, RowT 3 1 L.kv C.ks.length (i64s C.ks)) :: (i + 4, SeedT L.g C.S) :: (stE (i + 5) C.st ++ E)) (by simpa [celO] using hS) (fun e he => by
      simp only [List.mem_cons, List.mem_append] at he
      rcases he with rfl | rfl | rfl | rfl | he | he
      · intro h; dsimp only at h; omega
      · intro h; dsimp only at h; omega
      · intro h; dsimp only at h; omega
      · intro h; dsimp only at h; omega
      · have := stE_mem _ _ _ he; omega
      · have := HE.out e he; omega) (.int .i64 ((R + 1 : Nat) : Int))
    unfold cellE celO addC
    rw [HRR.out]
    simpa using this)
  clear FNO HS hb2 hq2 S2
  go_wp2_with fail
  refine KP.mono ?_
  rintro e w3 ⟨rfl, rfl⟩
  clear KP
  go_wp2_with fail
  go_loopw [47] (fun s47 W => ∃ k : Nat, s47 = .int .i64 k ∧ k ≤ n ∧ Hid (∃ A, Adding xs ids C.st k A ∧ vals (A ++ C.st.drop k) = vals C.st ∧ Side w0 (cellE i q L (addC C (A ++ C.st.drop k)) ++ E) W)) (fun s47 _ => n - (RowKit.intOf s47).toNat)
  case atStart => exact ⟨0, rfl, by omega, S3⟩
  case round =>
    clear S3
    obtain ⟨k, rfl, hk, HR⟩ := hrel
    by_cases hlt : k < n
    · obtain ⟨A, hA, hvs, hS⟩ := HR.out
      obtain ⟨⟨vk, vn, vs⟩, hv⟩ : ∃ v, xs[k]? = some v := ⟨_, List.getElem?_eq_getElem (by rw [HL.out]; exact hlt)⟩
      obtain ⟨d, hd⟩ : ∃ x, ids[k]? = some x := ⟨_, List.getElem?_eq_getElem (by rw [HLI.out]; exact hlt)⟩
      obtain ⟨⟨b, s⟩, hs⟩ : ∃ x, C.st[k]? = some x := ⟨_, List.getElem?_eq_getElem (by rw [HST.out]; exact hlt)⟩
      have hdr : C.st.drop k = (b, s) :: C.st.drop (k + 1) := by
        have hlk : k < C.st.length := by rw [HST.out]; exact hlt
        rw [List.drop_eq_getElem_cons hlk]
        rw [List.getElem?_eq_getElem hlk] at hs
        rw [Option.some.inj hs]
      obtain ⟨D, hD⟩ : ∃ D, C.st.drop (k + 1) = D := ⟨_, rfl⟩
      rw [hD] at hdr
      rw [hdr] at hvs hS
      have hlA := hA.1
      have hvv := HV.out wr (hS.sub (fun x hx => List.mem_append_right _ hx))
      have hii := HI.out wr (hS.sub (fun x hx => List.mem_append_right _ hx))
      obtain ⟨ad, ha, v0, v1, v2⟩ := hvv.at_ hv
      obtain ⟨iad, hia⟩ := hii.ptr (by omega)
      rcases ha with rfl
      rcases hia with rfl
      simp only at v0 v1 v2
      have HII := Lib.hid (fun (V : World) (hV : Side w0 E V) => (HI.out V hV).cell (j := k) (u := .int .i64 d) (by unfold i64s; rw [List.getElem?_map, hd]; rfl))
      have hfi := HFI.out HFB.out _ (List.mem_of_getElem? hv)
      have hsm := HSM.out _ (List.mem_of_getElem? hs)
      have l0 : (0 : Int) ≤ (k : Int) := Int.natCast_nonneg k
      have l1 : (k : Int) < (n : Int) := Int.ofNat_lt.2 hlt
      have hwk : IntKind.i64.wrap ((k : Int) + 1) = (k : Int) + 1 := by rw [IntKind.wrap_i64]; omega
      have S9 := Lib.hid (hS.alloc (i + 91) (.cells #[.int .i64 vk, .int .i64 vn, .string vs] 36))
      have HLT := Lib.hid hlt
      have HNX : Hid (∀ st, addS ⟨vk, vn, vs⟩ d (b, s) = st → Adding xs ids C.st (k + 1) (A ++ [st])) := Lib.hid fun st e => by rw [← e]; exact hA.next hv hd hs
      have HVN : Hid (∀ st, addS ⟨vk, vn, vs⟩ d (b, s) = st → vals ((A ++ [st]) ++ C.st.drop (k + 1)) = vals C.st) := Lib.hid fun st e => by
        rw [← e, ← hvs, hD]
        simp only [vals, List.map_append, List.map_cons, List.append_assoc, List.cons_append, List.nil_append, val_add]
      have HDD := Lib.hid hD
      have HLA := Lib.hid hlA
      have HVS := Lib.hid hvs
      have HDR := Lib.hid hdr
      have HHK := Lib.hid hk
      by_cases hz : vk = 0
      · have e1 : (vk == 0) = true := by simpa using hz
        have e2 : (vk != 0) = false := by simp [hz]
        have HE1 := Lib.hid e1
        have S10 : Hid (Side w0 (cellE i q L (addC C ((A ++ [(b, s)]) ++ C.st.drop (k + 1))) ++ E) (wr.alloc (.cells #[.int .i64 vk, .int .i64 vn, .string vs] 36))) := Lib.hid (by
          rw [HDD.out, List.append_assoc]
          exact S9.out.sub (fun x hx => List.mem_cons_of_mem _ hx))
        clear hA hvs hS hv hd hs hdr hD hvv hii hfi hsm hz hk HR hlA S9
        go_wp2_with fail
        go_roundw
        case rel => exact ⟨k + 1, by go_num, by have := HLT.out; omega, Lib.hid ⟨A ++ [(b, s)], HNX.out _ (by unfold addS; rw [if_pos HE1.out]), HVN.out _ (by unfold addS; rw [if_pos HE1.out]), S10.out⟩⟩
        case measure => have := HLT.out; simp [RowKit.intOf]; omega
      · have e1 : (vk == 0) = false := by simpa using hz
        have e2 : (vk != 0) = true := by simp [hz]
        have HE1 := Lib.hid e1
        obtain ⟨ty, f, HT⟩ := take_call b s
        have HTC := Lib.hid HT
        have hval := HT.val
        have hmeth := HT.meth
        have hent := HT.ent
        unfold EntC at hent
        have hX : Side w0 ((i + 5 + k, StT b s) :: (i + 91, Box wr.heap.size (.cells #[.int .i64 vk, .int .i64 vn, .string vs] 36)) :: (i, OBox q (celO L (addC C (A ++ (b, s) :: D)))) :: (i + 1, RowT 25 2 L.mv C.ms.length (fl2 (C.ms.map meaC))) :: (i + 2, RowT 97 1 L.sv (A ++ (b, s) :: D).length (vals (A ++ (b, s) :: D))) :: (i + 3, RowT 3 1 L.kv C.ks.length (i64s C.ks)) :: (i + 4, SeedT L.g C.S) :: (stE (i + 5) A ++ (stE (i + 5 + k + 1) D ++ E))) (wr.alloc (.cells #[.int .i64 vk, .int .i64 vn, .string vs] 36)) := S9.out.sub (fun x hx => by
          unfold cellE addC
          rw [stE_app, HLA.out, stE]
          simp only [List.mem_cons, List.mem_append] at hx ⊢
          rcases hx with hx | hx | hx | hx | hx | hx | hx | hx | hx | hx <;> simp [hx, addC])
        have HX9 := Lib.hid hX.drew
        have hqq := HX9.out.heapO (i := i) (b := q) (ob := celO L (addC C (A ++ (b, s) :: D))) (by simp)
        have hbx := HX9.out.heap (i := i + 91) (b := wr.heap.size) (ob := .cells #[.int .i64 vk, .int .i64 vn, .string vs] 36 (0, 0)) (by simp)
        obtain ⟨T9, hT9⟩ := side_thing HX9.out (i := i + 2) (A := RowT 97 1 L.sv (A ++ (b, s) :: D).length (vals (A ++ (b, s) :: D))) (by simp)
        have hr9 := hT9.1
        rw [HSV.out] at hr9
        obtain ⟨sad, hsad, hsc⟩ := row_cell1 hr9 (j := k) (u := .iface ty (.pointer (some ⟨b, 0, none⟩))) (by
          unfold vals
          rw [List.getElem?_map, List.getElem?_append_right (by rw [HLA.out]; exact Nat.le_refl _), HLA.out, Nat.sub_self]
          show some (Sv.val b s) = _
          rw [hval])
        rcases hsad with rfl
        have C9 : (wr.alloc (.cells #[.int .i64 vk, .int .i64 vn, .string vs] 36)).drew.cell? ⟨q, 7, none⟩ = some (.slice (some sad) n sc) ∧ (wr.alloc (.cells #[.int .i64 vk, .int .i64 vn, .string vs] 36)).drew.cell? (sad.add k) = some (.iface ty (.pointer (some ⟨b, 0, none⟩))) ∧ ((wr.alloc (.cells #[.int .i64 vk, .int .i64 vn, .string vs] 36)).drew.cell? ⟨wr.heap.size, 0, none⟩ = some (.int .i64 vk) ∧ (wr.alloc (.cells #[.int .i64 vk, .int .i64 vn, .string vs] 36)).drew.cell? ⟨wr.heap.size, 1, none⟩ = some (.int .i64 vn) ∧ (wr.alloc (.cells #[.int .i64 vk, .int .i64 vn, .string vs] 36)).drew.cell? ⟨wr.heap.size, 2, none⟩ = some (.string vs)) ∧ (wr.alloc (.cells #[.int .i64 vk, .int .i64 vn, .string vs] 36)).drew.cell? (iad.add k) = some (.int .i64 d) :=
          ⟨by rw [cell_of_row _ _ _ _ _ _ hqq]; show some L.sv = _; rw [HSV.out], hsc, ⟨by rw [cell_of_row _ _ _ _ _ _ hbx]; rfl, by rw [cell_of_row _ _ _ _ _ _ hbx]; rfl, by rw [cell_of_row _ _ _ _ _ _ hbx]; rfl⟩, HII.out _ (HX9.out.sub (fun x hx => by simp [hx]))⟩
        have KT := HTC.out.call (m := m) (v := ⟨vk, vn, vs⟩) (id := d) HX9.out (fun e he => by
          simp only [List.mem_cons, List.mem_append] at he
          rcases he with rfl | rfl | rfl | rfl | rfl | rfl | he | he | he
          · intro h; dsimp only at h; omega
          · intro h; dsimp only at h; omega
          · intro h; dsimp only at h; omega
          · intro h; dsimp only at h; omega
          · intro h; dsimp only at h; omega
          · intro h; dsimp only at h; omega
          · have := stE_mem _ _ _ he; have := HLA.out; omega
          · have := stE_mem _ _ _ he; omega
          · have := HE.out e he; have := HHK.out; omega) hsm HM.out hfi
        rw [one_val] at KT
        simp only at KT
        have S11 : Hid (∀ W, Side w0 ((i + 5 + k, StT b (takeS ⟨vk, vn, vs⟩ d s)) :: (i + 91, Box wr.heap.size (.cells #[.int .i64 vk, .int .i64 vn, .string vs] 36)) :: (i, OBox q (celO L (addC C (A ++ (b, s) :: D)))) :: (i + 1, RowT 25 2 L.mv C.ms.length (fl2 (C.ms.map meaC))) :: (i + 2, RowT 97 1 L.sv (A ++ (b, s) :: D).length (vals (A ++ (b, s) :: D))) :: (i + 3, RowT 3 1 L.kv C.ks.length (i64s C.ks)) :: (i + 4, SeedT L.g C.S) :: (stE (i + 5) A ++ (stE (i + 5 + k + 1) D ++ E))) W → Side w0 (cellE i q L (addC C ((A ++ [(b, takeS ⟨vk, vn, vs⟩ d s)]) ++ C.st.drop (k + 1))) ++ E) W) := Lib.hid fun W hW => by
          rw [HDD.out, List.append_assoc]
          refine hW.sub (fun x hx => ?_)
          unfold cellE addC at hx
          have hve : vals (A ++ ([(b, takeS ⟨vk, vn, vs⟩ d s)] ++ D)) = vals (A ++ (b, s) :: D) := by simp [vals, val_take]
          simp only at hx
          rw [hve, stE_app, HLA.out, List.singleton_append, stE] at hx
          simp only [List.mem_cons, List.mem_append, List.length_append, List.length_cons] at hx ⊢
          rcases hx with (hx | hx | hx | hx | hx | hx | hx | hx) | hx
          · subst hx; simp [celO, addC]
          · simp [hx]
          · subst hx; simp
          · simp [hx]
          · simp [hx]
          · simp [hx]
          · simp [hx]
          · simp [hx]
          · simp [hx]
        clear hA hvs hS hv hd hs hdr hD hvv hii hfi hsm hz hk HR hlA S9 hX HT hval hqq hbx hT9 hr9 hsc
        go_upto_region 12 with (fail)
        refine wp_region_mix (fun V => V.cell? ⟨q, 7, none⟩ = some (.slice (some sad) n sc) ∧ V.cell? (sad.add k) = some (.iface ty (.pointer (some ⟨b, 0, none⟩))) ∧ (V.cell? ⟨wr.heap.size, 0, none⟩ = some (.int .i64 vk) ∧ V.cell? ⟨wr.heap.size, 1, none⟩ = some (.int .i64 vn) ∧ V.cell? ⟨wr.heap.size, 2, none⟩ = some (.string vs)) ∧ V.cell? (iad.add k) = some (.int .i64 d)) 14 [(true, 0), (true, 1), (true, 2), (true, 3), (true, 4), (true, 5), (true, 6), (true, 7), (true, 8), (true, 9), (true, 10), (true, 11), (true, 12), (true, 13), (false, 14)] (by kernel_rfl) (by decide +kernel) rfl (by decide +kernel) C9 ?_
        iterate 14
          refine wpMix_take (v := ?_) rfl rfl ?_ ?_
          rotate_left
          · (intro W hW; (try dsimp only at hW); go_simp) <;> with_reducible rfl
          simp only [Act.put, List.setIfInBounds_toArray, List.set_cons_zero, List.set_cons_succ]
        refine wpMix_run rfl ?_
        intro K' hK'
        go_wp2_with fail
        refine KT.mono ?_
        rintro e w9 ⟨rfl, S12⟩
        have S13 := Lib.hid (S11.out _ S12.out)
        clear KT S12 S11 C9 HX9
        go_wp2_with fail
        refine hK'.out _ _ (fun h => absurd rfl h) ?_
        clear hK' K'
        refine wpMix_nil ?_
        go_wp2_with fail
        go_roundw
        case rel => exact ⟨k + 1, by go_num, by have := HLT.out; omega, Lib.hid ⟨A ++ [(b, takeS ⟨vk, vn, vs⟩ d s)], HNX.out _ (by unfold addS; rw [if_neg (by rw [HE1.out]; simp)]), HVN.out _ (by unfold addS; rw [if_neg (by rw [HE1.out]; simp)]), S13.out⟩⟩
        case measure => have := HLT.out; simp [RowKit.intOf]; omega
    · obtain ⟨A, hA, hvs, hS⟩ := HR.out
      have hkn : k = n := by omega
      have hd0 : C.st.drop k = [] := List.drop_eq_nil_of_le (by rw [HST.out]; omega)
      rw [hd0, List.append_nil] at hvs hS
      have FI := FYE.out wr A (by first | rfl | trivial) ⟨by rw [hA.1, HST.out]; exact hkn, fun j v d s e1 e2 e3 => hA.2 j v d s (by have h := (List.getElem?_eq_some_iff.1 e3).1; rw [HST.out] at h; omega) e1 e2 e3⟩ hvs hS
      have hlt' : ¬ ((k : Int) < (n : Int)) := by omega
      clear hA hvs hS HR hlt hk hkn hd0
      go_wp2_with fail
      exact FI
end Go.Proofs.YtlhpbfjelgmkeaaGreat
/- The settings of the document's example. Conditions: none. -/
set_option maxRecDepth 100000
namespace Go.Proofs.YtlhpbfjelgmkeaaGreat
open Go.RowKit Go.Maps Go.Sort Go.Lib
open Wide

def seedO : Obj := .cells #[.int .u64 3, .int .u64 1] 95 (0, 0)
theorem set_box {w : World} {b : Nat} (h : w.heap[b]? = some seedO) : SetAt w (some ⟨b, 0, none⟩) 1 1 [(3, 1)] where
  len := rfl
  cap := ⟨Nat.le_refl _, by unfold maxLen; omega⟩
  lt := fun s hs => by simp at hs; subst hs; exact ⟨by decide, by decide⟩
  at_ := fun _ => ⟨_, rfl, fun j u hj => by
    rw [Addr.add_at, Nat.zero_add, cell_of_row _ _ _ _ _ _ h]
    simpa [flat] using hj⟩
theorem set_any {w0 w : World} {E : List (Nat × Thing)} (h : Side w0 E w) (j : Nat) : Calls Tryz.prog 10 #[] w fun e w' => ∃ b, e = .returned (setV 4 (some ⟨b, 0, none⟩) 1 1 4 2) ∧ Hid (Side w0 ((j, Box b seedO) :: E) w') := by
  have hb := below_c w (.cells #[.int .i64 4, .slice (some ⟨w.heap.size + 1, 0, none⟩) 1 1, .int .i64 4, .int .i64 2] 32)
  have hn := heap_alloc_new w (.cells #[.int .i64 4, .slice (some ⟨w.heap.size + 1, 0, none⟩) 1 1, .int .i64 4, .int .i64 2] 32)
  have hz : (w.alloc (.cells #[.int .i64 4, .slice (some ⟨w.heap.size + 1, 0, none⟩) 1 1, .int .i64 4, .int .i64 2] 32)).heap.size = w.heap.size + 1 := by simp
  have S := (h.below hb).alloc j seedO
  rw [hz] at S
  have hx := ((below_c (w.alloc (.cells #[.int .i64 4, .slice (some ⟨w.heap.size + 1, 0, none⟩) 1 1, .int .i64 4, .int .i64 2] 32)) seedO).block _ (by rw [hz]; omega)).trans hn
  have r0 : ((w.alloc (.cells #[.int .i64 4, .slice (some ⟨w.heap.size + 1, 0, none⟩) 1 1, .int .i64 4, .int .i64 2] 32)).alloc seedO).cell? ⟨w.heap.size, 0, none⟩ = some (.int .i64 4) := by rw [cell_of_row _ _ _ _ _ _ hx]; rfl
  have r1 : ((w.alloc (.cells #[.int .i64 4, .slice (some ⟨w.heap.size + 1, 0, none⟩) 1 1, .int .i64 4, .int .i64 2] 32)).alloc seedO).cell? ⟨w.heap.size, 1, none⟩ = some (.slice (some ⟨w.heap.size + 1, 0, none⟩) 1 1) := by rw [cell_of_row _ _ _ _ _ _ hx]; rfl
  have r2 : ((w.alloc (.cells #[.int .i64 4, .slice (some ⟨w.heap.size + 1, 0, none⟩) 1 1, .int .i64 4, .int .i64 2] 32)).alloc seedO).cell? ⟨w.heap.size, 2, none⟩ = some (.int .i64 4) := by rw [cell_of_row _ _ _ _ _ _ hx]; rfl
  have r3 : ((w.alloc (.cells #[.int .i64 4, .slice (some ⟨w.heap.size + 1, 0, none⟩) 1 1, .int .i64 4, .int .i64 2] 32)).alloc seedO).cell? ⟨w.heap.size, 3, none⟩ = some (.int .i64 2) := by rw [cell_of_row _ _ _ _ _ _ hx]; rfl
  have FIN := Lib.hid S
  unfold seedO at r0 r1 r2 r3
  clear hb hn hz S hx h
  go_enter Tryz.func10, Tryz.ntmps10
  go_wp2_with fail
  refine bodyPost_ret (v := setV 4 (some ⟨w.heap.size + 1, 0, none⟩) 1 1 4 2) ?_ rfl ⟨_, rfl, FIN⟩
  simp [results, Tryz.results10, go_sem, r0, r1, r2, r3, setV]
theorem holds2_heap {w : World} {b : Nat} {T : TypeId} {l : List (Value × Value)} {n : Nat} (hn : l.length = n) {cs : Array Value} (hb : w.heap[b]? = some (.cells cs T (0, 0))) (hc : cs.toList = fl2 l) : Holds2 w (.slice (some ⟨b, 0, none⟩) n n) l := by
  subst hn
  refine ⟨_, _, rfl, Nat.le_refl _, .inr ⟨_, rfl, fun i x hx => ?_⟩⟩
  obtain ⟨a0, a1⟩ := fl2_at l i x hx
  rw [Addr.add_at, Nat.zero_add, cell_of_row _ _ _ _ _ _ hb, cell_of_row _ _ _ _ _ _ hb, ← Array.getElem?_toList, ← Array.getElem?_toList, hc]
  exact ⟨a0, a1⟩
/-- two values alike in a block -/
def twoO (v : VV) : Obj := .cells #[.int .i64 v.k, .int .i64 v.n, .string v.s, .int .i64 v.k, .int .i64 v.n, .string v.s] 36 (0, 0)
theorem holds_two {w : World} {b : Nat} {v : VV} (h : w.heap[b]? = some (twoO v)) : HoldsV w (.slice (some ⟨b, 0, none⟩) 2 2) [v, v] := by
  refine ⟨_, _, rfl, Nat.le_refl _, .inr ⟨_, rfl, fun i x hx => ?_⟩⟩
  rcases i with _ | _ | i
  · simp only [List.getElem?_cons_zero, Option.some.injEq] at hx
    subst hx
    simp only [Addr.add_at, cell_of_row _ _ _ _ _ _ h]
    exact ⟨rfl, rfl, rfl⟩
  · simp only [List.getElem?_cons_succ, List.getElem?_cons_zero, Option.some.injEq] at hx
    subst hx
    simp only [Addr.add_at, cell_of_row _ _ _ _ _ _ h]
    exact ⟨rfl, rfl, rfl⟩
  · simp at hx
theorem added_two {v : VV} {s0 s1 : Nat × Sv} {st : List (Nat × Sv)} (h : Added [v, v] [0, 0] [s0, s1] st) : st = [addS v 0 s0, addS v 0 s1] := by
  obtain ⟨h1, h2⟩ := h
  have e0 := h2 0 v 0 s0 rfl rfl rfl
  have e1 := h2 1 v 0 s1 rfl rfl rfl
  match st, h1 with
  | [a, b], _ =>
    simp only [List.getElem?_cons_zero, List.getElem?_cons_succ, Option.some.injEq] at e0 e1
    rw [e0, e1]
end Go.Proofs.YtlhpbfjelgmkeaaGreat
