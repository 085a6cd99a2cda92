/- The texts CelJ CelK CelV CelOff CeqB CeqC Args, one behind the other; each one's own comment says what it holds. -/
import Derived.Test.YtlhpbfjelgmkeaaGreatCellCopiesRowGJ
import Derived.Test.YtlhpbfjelgmkeaaGreatCellCopiesRowGI
import Derived.Test.YtlhpbfjelgmkeaaGreatCellCopiesRowGC
import Derived.Deep.Strs
import Derived.Lib.Strings
/- Add of a row: whether it fits, and what each measure takes. Conditions: as many values and ids as measures, of which there are few; kinds 1 to 4. -/
set_option maxRecDepth 100000
namespace Go.Proofs.YtlhpbfjelgmkeaaGreat
open Go.RowKit Go.Maps Go.Sort Go.Lib

set_option maxHeartbeats 3200000 in
theorem cfits_any {w0 w : World} {E : List (Nat × Thing)} {i q : Nat} {L : Lay} {C : Cv} (h : Side w0 E w) (h1 : (i, OBox q (celO L C)) ∈ E) (h2 : (i + 3, RowT 3 1 L.kv C.ks.length (i64s C.ks)) ∈ E)
    {va : Option Addr} {n c : Nat} {xs : List VV} (HV : HoldsV w (.slice va n c) xs) (hn : n ≤ 1000) (hl : xs.length = n) (hk : C.ks.length = n) (hx : ∀ v ∈ xs, v.inI) (hok : ∀ k ∈ C.ks, 1 ≤ k ∧ k ≤ 4) :
    Calls Tryz.prog 37 #[.pointer (some ⟨q, 0, none⟩), .slice va n c] w fun e w' => e = .returned (.bool (fitsL xs C.ks)) ∧ Below w.heap.size w w' := by
  have hq := h.heapO h1
  obtain ⟨T, hT⟩ := side_thing h h2
  have hrow := hT.1
  obtain ⟨ka, kc, hkv, _⟩ := ownsRow_form hrow
  rw [hkv] at hrow
  rw [hk] at hkv
  have c1 : w.cell? ⟨q, 1, none⟩ = some L.kv := by rw [cell_of_row _ _ _ _ _ _ hq]; rfl
  rw [hkv] at c1
  generalize C.ks = ks at *
  have hlq := World.block_lt_of_cell? w _ c1
  have HC1 := Lib.hid (fun (V : World) (hV : Below w.heap.size w V) => (show V.cell? ⟨q, 1, none⟩ = some (.slice ka n kc) from by rw [hV.cell hlq]; exact c1))
  have HR := Lib.hid (fun (V : World) (hV : Below w.heap.size w V) => ownsRow_below hrow hV)
  have HHV := Lib.hid (fun (V : World) (hV : Below w.heap.size w V) => HV.below hV)
  have HL := Lib.hid hl
  have HK := Lib.hid hk
  have HX := Lib.hid hx
  have HOK := Lib.hid hok
  have FNO := Lib.hid (fun (j : Nat) (v : VV) (k : Int) (e1 : xs[j]? = some v) (e2 : ks[j]? = some k) (e3 : fitsV k v = false) => fitsL_no e1 e2 e3)
  obtain ⟨R, hR⟩ : ∃ R, fitsL xs ks = R := ⟨_, rfl⟩
  rw [hR] at FNO ⊢
  have FYE := Lib.hid (fun (e : ∀ (j : Nat) v k, xs[j]? = some v → ks[j]? = some k → fitsV k v = true) => (hR.symm.trans (fitsL_yes e) : R = true))
  clear h h1 h2 hq hT hrow hkv c1 hlq HV hl hk hx hok hR
  go_enter Tryz.func37, Tryz.ntmps37
  go_wp2_with fail
  go_loopw [9] (fun s9 W => ∃ k : Nat, s9 = .int .i64 k ∧ k ≤ n ∧ Hid (Below w.heap.size w W) ∧ Hid (∀ (j : Nat) v kk, j < k → xs[j]? = some v → ks[j]? = some kk → fitsV kk v = true)) (fun s9 _ => n - (RowKit.intOf s9).toNat)
  case atStart => exact ⟨0, rfl, by omega, Lib.hid (Below.refl _ _), Lib.hid (fun j _ _ hj => absurd hj (by omega))⟩
  case round =>
    obtain ⟨k, rfl, hk, HB, HY⟩ := hrel
    by_cases hlt : k < n
    · obtain ⟨⟨vk, vn, vs⟩, hv⟩ : ∃ v, xs[k]? = some v := ⟨_, List.getElem?_eq_getElem (by rw [HL.out]; exact hlt)⟩
      obtain ⟨kk, hkk⟩ : ∃ x, ks[k]? = some x := ⟨_, List.getElem?_eq_getElem (by rw [HK.out]; exact hlt)⟩
      obtain ⟨ad, ha, v0, v1, v2⟩ := (HHV.out wr HB.out).at_ hv
      obtain ⟨kad, hka, hck⟩ := row_cell1 (HR.out wr HB.out) (j := k) (u := .int .i64 kk) (by unfold i64s; rw [List.getElem?_map, hkk]; rfl)
      rcases ha with rfl
      rcases hka with rfl
      have hxx := HX.out _ (List.mem_of_getElem? hv)
      obtain ⟨hk1, hk4⟩ := HOK.out _ (List.mem_of_getElem? hkk)
      have KF := fun V => fits_any hxx hk1 hk4 V
      rw [one_val] at KF
      simp only at v0 v1 v2 KF
      have hbx := below_c wr (.cells #[.int .i64 vk, .int .i64 vn, .string vs] 36)
      have hbd := hbx.trans ((below_drew1 _).mono hbx.size)
      have HBW := Lib.hid (HB.out.trans (hbd.mono HB.out.size))
      have hnew := heap_alloc_new wr (.cells #[.int .i64 vk, .int .i64 vn, .string vs] 36)
      have HST := Lib.hid (fun (V : World) (hV : Below (wr.alloc (.cells #[.int .i64 vk, .int .i64 vn, .string vs] 36)).heap.size (wr.alloc (.cells #[.int .i64 vk, .int .i64 vn, .string vs] 36)) V) => (show (V.cell? ⟨wr.heap.size, 0, none⟩ = some (.int .i64 vk) ∧ V.cell? ⟨wr.heap.size, 1, none⟩ = some (.int .i64 vn) ∧ V.cell? ⟨wr.heap.size, 2, none⟩ = some (.string vs)) ∧ V.cell? ⟨q, 1, none⟩ = some (.slice (some kad) n kc) ∧ V.cell? (kad.add k) = some (.int .i64 kk) from by
        have g1 := (hV.block _ (lt_of_heap hnew)).trans hnew
        have hbV := hbx.trans (hV.mono hbx.size)
        exact ⟨⟨by rw [cell_of_row _ _ _ _ _ _ g1]; rfl, by rw [cell_of_row _ _ _ _ _ _ g1]; rfl, by rw [cell_of_row _ _ _ _ _ _ g1]; rfl⟩, HC1.out _ (HB.out.trans (hbV.mono HB.out.size)), by rw [hbV.cell (World.block_lt_of_cell? wr _ hck)]; exact hck⟩))
      have l0 : (0 : Int) ≤ (k : Int) := Int.natCast_nonneg k
      have l1 : (k : Int) < (n : Int) := Int.ofNat_lt.2 hlt
      have hwk : IntKind.i64.wrap ((k : Int) + 1) = (k : Int) + 1 := by rw [IntKind.wrap_i64]; omega
      have HLT := Lib.hid hlt
      have HFN := Lib.hid (fun e3 => FNO.out k _ _ hv hkk e3)
      have HVV := Lib.hid hv
      have HKK := Lib.hid hkk
      clear hv hkk hck hxx hk1 hk4 hbx hbd hnew hk
      go_upto_region 4 with (fail)
      refine wp_region_mix (fun V => (V.cell? ⟨wr.heap.size, 0, none⟩ = some (.int .i64 vk) ∧ V.cell? ⟨wr.heap.size, 1, none⟩ = some (.int .i64 vn) ∧ V.cell? ⟨wr.heap.size, 2, none⟩ = some (.string vs)) ∧ V.cell? ⟨q, 1, none⟩ = some (.slice (some kad) n kc) ∧ V.cell? (kad.add k) = some (.int .i64 kk)) 10 [(true, 0), (true, 1), (true, 2), (true, 3), (true, 4), (true, 5), (true, 6), (true, 7), (false, 8), (true, 9)] (by kernel_rfl) (by decide +kernel) rfl (by decide +kernel) (HST.out _ (below_drew1 _)) ?_
      iterate 8
        refine wpMix_take (v := ?_) rfl rfl ?_ ?_
        rotate_left
        · (intro W hW; (try dsimp only at hW); go_simp) <;> with_reducible rfl
        simp only [Act.put, List.setIfInBounds_toArray, List.set_cons_zero, List.set_cons_succ]
      obtain ⟨fb, hfb⟩ : ∃ fb, fitsV kk ⟨vk, vn, vs⟩ = fb := ⟨_, rfl⟩
      rw [hfb] at KF
      have HFB := Lib.hid hfb
      clear hfb
      refine wpMix_run rfl ?_
      intro K' hK'
      go_wp2_with fail
      refine (KF _).mono ?_
      rintro e w3 ⟨rfl, hb3⟩
      have hb4 : Below (wr.alloc (.cells #[.int .i64 vk, .int .i64 vn, .string vs] 36)).heap.size (wr.alloc (.cells #[.int .i64 vk, .int .i64 vn, .string vs] 36)) w3 := (below_drew1 _).trans (hb3.mono (Nat.le_refl _))
      have HB5 := Lib.hid (HBW.out.trans (hb3.mono HBW.out.size))
      have C3 := HST.out _ hb4
      clear hb3 hb4 KF HST
      go_wp2_with fail
      refine hK'.out _ _ (fun _ => C3) ?_
      clear hK' K' C3
      iterate 1
        refine wpMix_take (v := ?_) rfl rfl ?_ ?_
        rotate_left
        · (intro W hW; (try dsimp only at hW); go_simp) <;> with_reducible rfl
        simp only [Act.put, List.setIfInBounds_toArray, List.set_cons_zero, List.set_cons_succ]
      refine wpMix_nil ?_
      cases fb
      · have hR0 := HFN.out HFB.out
        subst hR0
        have FI := HB5.out
        clear HB5 HBW HB HY HFN
        go_wp2_with fail
        go_ret
        exact ⟨rfl, FI⟩
      · have HY2 : Hid (∀ (j : Nat) v kk, j < k + 1 → xs[j]? = some v → ks[j]? = some kk → fitsV kk v = true) := Lib.hid fun j v k' hj e1 e2 => by
          rcases Nat.lt_or_ge j k with h | h
          · exact HY.out j v k' h e1 e2
          · have : j = k := by omega
            subst this
            rw [HVV.out] at e1
            rw [HKK.out] at e2
            simp only [Option.some.injEq] at e1 e2
            subst e1 e2
            exact HFB.out
        clear HBW HB HY HFN
        go_wp2_with fail
        go_roundw
        case rel => exact ⟨k + 1, by go_num, by have := HLT.out; omega, HB5, HY2⟩
        case measure => have := HLT.out; simp [RowKit.intOf]; omega
    · have hR1 := FYE.out (fun j v k' e1 e2 => HY.out j v k' (by have h := (List.getElem?_eq_some_iff.1 e1).1; rw [HL.out] at h; omega) e1 e2)
      subst hR1
      have hlt' : ¬ ((k : Int) < (n : Int)) := by omega
      have FI := HB.out
      clear HB HY hlt hk
      go_wp2_with fail
      go_ret
      exact ⟨rfl, FI⟩
end Go.Proofs.YtlhpbfjelgmkeaaGreat
/- Add: a row. Conditions: as many values and ids as measures, of which there are few; kinds 1 to 4; few values so far. -/
set_option maxRecDepth 100000
namespace Go.Proofs.YtlhpbfjelgmkeaaGreat
open Go.RowKit Go.Maps Go.Sort Go.Lib

theorem stE_app : ∀ (j : Nat) (l m : List (Nat × Sv)), stE j (l ++ m) = stE j l ++ stE (j + l.length) m
  | j, [], m => by simp [stE]
  | j, a :: r, m => by
    rw [List.cons_append, stE, stE_app (j + 1) r m, stE]
    simp only [List.length_cons, List.cons_append]
    rw [show j + 1 + r.length = j + (r.length + 1) by omega]
def addS (v : VV) (d : Int) (s : Nat × Sv) : Nat × Sv := if (v.k == 0) = true then s else (s.1, takeS v d s.2)
theorem val_take (b : Nat) (v : VV) (d : Int) (s : Sv) : Sv.val b (takeS v d s) = Sv.val b s := by cases s <;> rfl
theorem val_add (v : VV) (d : Int) (s : Nat × Sv) : Sv.val (addS v d s).1 (addS v d s).2 = Sv.val s.1 s.2 := by
  unfold addS
  split
  · rfl
  · exact val_take _ _ _ _
/-- what a row leaves -/
def Added (xs : List VV) (ids : List Int) (st st' : List (Nat × Sv)) : Prop := st'.length = st.length ∧ ∀ (j : Nat) v d s, xs[j]? = some v → ids[j]? = some d → st[j]? = some s → st'[j]? = some (addS v d s)
/-- a row so far -/
def Adding (xs : List VV) (ids : List Int) (st : List (Nat × Sv)) (k : Nat) (A : List (Nat × Sv)) : Prop := A.length = k ∧ ∀ (j : Nat) v d s, j < k → xs[j]? = some v → ids[j]? = some d → st[j]? = some s → A[j]? = some (addS v d s)
theorem Adding.next {xs : List VV} {ids : List Int} {st : List (Nat × Sv)} {k : Nat} {A : List (Nat × Sv)} (h : Adding xs ids st k A) {v : VV} {d : Int} {s : Nat × Sv} (hv : xs[k]? = some v) (hd : ids[k]? = some d) (hs : st[k]? = some s) : Adding xs ids st (k + 1) (A ++ [addS v d s]) := by
  refine ⟨by rw [List.length_append, h.1]; rfl, fun j v' d' s' hj e1 e2 e3 => ?_⟩
  rcases Nat.lt_or_ge j k with g | g
  · rw [List.getElem?_append_left (by rw [h.1]; exact g)]
    exact h.2 j v' d' s' g e1 e2 e3
  · have : j = k := by omega
    subst this
    rw [hv] at e1
    rw [hd] at e2
    rw [hs] at e3
    simp only [Option.some.injEq] at e1 e2 e3
    subst e1 e2 e3
    rw [List.getElem?_append_right (by rw [h.1]; exact Nat.le_refl _), h.1, Nat.sub_self]
    rfl
def addC (C : Cv) (st : List (Nat × Sv)) : Cv := { C with rows := C.rows + 1, st := st }
def AddP (w0 : World) (E : List (Nat × Thing)) (i q : Nat) (L : Lay) (C : Cv) (xs : List VV) (ids : List Int) (e : Ending) (w' : World) : Prop :=
  (fitsL xs C.ks = true ∧ e = .returned (.int .i64 0) ∧ ∃ st', Added xs ids C.st st' ∧ vals st' = vals C.st ∧ Hid (Side w0 (cellE i q L (addC C st') ++ E) w')) ∨ (fitsL xs C.ks = false ∧ e = .returned (.int .i64 12) ∧ Hid (Side w0 (cellE i q L C ++ E) w'))
set_option maxHeartbeats 12800000 in
theorem cadd_any {w0 w : World} {E : List (Nat × Thing)} {i q : Nat} {L : Lay} {C : Cv} (h : Side w0 (cellE i q L C ++ E) w) (hE : tagsOff i E) {va ia : Option Addr} {n c c2 m : Nat} {xs : List VV} {ids : List Int}
    (HV : ∀ W, Side w0 E W → HoldsV W (.slice va n c) xs) (HI : ∀ W, Side w0 E W → Holds W (.slice ia n c2) (i64s ids)) (hn : n ≤ 16) (hl : xs.length = n) (hli : ids.length = n) (hk : C.ks.length = n) (hst : C.st.length = n)
    (ht : 1 ≤ C.t) (hrows : C.rows ≤ 1000000) (hm : m ≤ 1000000) (hsm : ∀ s ∈ C.st, smallS m s.2) (hx : ∀ v ∈ xs, v.inI) (hids : ∀ d ∈ ids, -9223372036854775808 ≤ d ∧ d < 9223372036854775808) (hfine : fitsL xs C.ks = true → ∀ v ∈ xs, v.fine) (hok : ∀ k ∈ C.ks, 1 ≤ k ∧ k ≤ 4) :
    Calls Tryz.prog 12 #[.pointer (some ⟨q, 0, none⟩), .slice va n c, .slice ia n c2] w (AddP w0 E i q L C xs ids) := by
  have h1 : (i, OBox q (celO L C)) ∈ cellE i q L C ++ E := by unfold cellE; simp
  have h2 : (i + 3, RowT 3 1 L.kv C.ks.length (i64s C.ks)) ∈ cellE i q L C ++ E := by unfold cellE; simp
  have h3 : (i + 2, RowT 97 1 L.sv C.st.length (vals C.st)) ∈ cellE i q L C ++ E := by unfold cellE; simp
  have hq := h.heapO h1
  have KM := cmade_yes hq ht
  have KF := cfits_any h h1 h2 (HV w (h.sub fun x hx => List.mem_append_right _ hx)) (by omega) hl hk hx hok
  obtain ⟨T, hT⟩ := side_thing h h3
  obtain ⟨sa, sc, hsv, _⟩ := ownsRow_form hT.1
  rw [hst] at hsv
  have c7 : w.cell? ⟨q, 7, none⟩ = some L.sv := by rw [cell_of_row _ _ _ _ _ _ hq]; rfl
  rw [hsv] at c7
  have c6 : w.cell? ⟨q, 6, none⟩ = some (.int .i64 (C.rows : Int)) := by rw [cell_of_row _ _ _ _ _ _ hq]; rfl
  obtain ⟨P, hP⟩ : ∃ P, AddP w0 E i q L C xs ids = P := ⟨_, rfl⟩
  rw [hP]
  obtain ⟨fb, hfb⟩ : ∃ fb, fitsL xs C.ks = fb := ⟨_, rfl⟩
  rw [hfb] at KF
  obtain ⟨R, hR⟩ : ∃ R, C.rows = R := ⟨_, rfl⟩
  rw [hR] at c6
  have t0 : ((n : Int) != (n : Int)) = false := by simp
  have FNO := Lib.hid (fun (W : World) (hf : fb = false) (hS : Side w0 (cellE i q L C ++ E) W) => (by rw [← hP]; exact .inr ⟨hfb.trans hf, rfl, Lib.hid hS⟩ : P (.returned (.int .i64 12)) W))
  have FYE := Lib.hid (fun (W : World) (st' : List (Nat × Sv)) (hf : fb = true) (ha : Added xs ids C.st st') (hvs : vals st' = vals C.st) (hS : Side w0 (cellE i q L (addC C st') ++ E) W) => (by rw [← hP]; exact .inl ⟨hfb.trans hf, rfl, st', ha, hvs, Lib.hid hS⟩ : P (.returned (.int .i64 0)) W))
  have HS := Lib.hid h
  have HE := Lib.hid hE
  replace HV := Lib.hid HV
  replace HI := Lib.hid HI
  have HL := Lib.hid hl
  have HLI := Lib.hid hli
  have HST := Lib.hid hst
  have HSM := Lib.hid hsm
  have HFI := Lib.hid hfine
  have HIDS := Lib.hid hids
  have HFB := Lib.hid hfb
  have HM := Lib.hid hm
  have HSV := Lib.hid hsv
  have HRR := Lib.hid hR
  have HRW := Lib.hid hrows
  clear h h1 h2 h3 hq hT hsv hE hl hli hst hsm hfine hids hx hok hfb hP hk ht hm hR hrows
  go_enter Tryz.func12, Tryz.ntmps12
  go_wp2_with fail
  refine KM.mono ?_
  rintro e w1 ⟨rfl, rfl⟩
  clear KM
  go_wp2_with fail
  refine KF.mono ?_
  rintro e w2 ⟨rfl, hb2⟩
  have S2 := Lib.hid (HS.out.below hb2)
  clear KF
  cases fb
  · have FI := FNO.out w2 rfl S2.out
    clear FNO FYE S2 HS hb2
    go_wp2_with fail
    exact FI
  have hq2 : w2.heap[q]? = some (celO L C) := S2.out.heapO (i := i) (by unfold cellE; simp)
  have d6 : w2.cell? ⟨q, 6, none⟩ = some (.int .i64 (R : Int)) := by rw [cell_of_row _ _ _ _ _ _ hq2]; show some (Value.int .i64 (C.rows : Int)) = _; rw [HRR.out]
  have f6 := free_of_row hq2 6
  have KP : Calls Tryz.prog 38 #[.int .i64 (R : Int), .int .i64 1] w2 fun e w' => e = .returned (.int .i64 ((R + 1 : Nat) : Int)) ∧ w2 = w' := cplus_any R 1 (by have := HRW.out; have := HRR.out; omega) w2
  have S3 : Hid (∃ A, Adding xs ids C.st 0 A ∧ vals (A ++ C.st.drop 0) = vals C.st ∧ Side w0 (cellE i q L (addC C (A ++ C.st.drop 0)) ++ E) (w2.setCell ⟨q, 6, none⟩ (.int .i64 ((R + 1 : Nat) : Int)))) := Lib.hid (by
    refine ⟨[], ⟨rfl, fun j _ _ _ hj => absurd hj (by omega)⟩, by simp, ?_⟩
    have hS := S2.out
    unfold cellE at hS
    have := Side.set (j := 6) (E := (i + 1, RowT 25 2 L.mv C.ms.length (fl2 (C.ms.map meaC))) :: (i + 2, RowT 97 1 L.sv C.st.length (vals C.st)) :: (i + 3, RowT 3 1 L.kv C.ks.length (i64s C.ks)) :: (i + 4, SeedT L.g C.S) :: (stE (i + 5) C.st ++ E)) (by simpa [celO] using hS) (fun e he => by
      simp only [List.mem_cons, List.mem_append] at he
      rcases he with rfl | rfl | rfl | rfl | he | he
      · intro h; dsimp only at h; omega
      · intro h; dsimp only at h; omega
      · intro h; dsimp only at h; omega
      · intro h; dsimp only at h; omega
      · have := stE_mem _ _ _ he; omega
      · have := HE.out e he; omega) (.int .i64 ((R + 1 : Nat) : Int))
    unfold cellE celO addC
    rw [HRR.out]
    simpa using this)
  clear FNO HS hb2 hq2 S2
  go_wp2_with fail
  refine KP.mono ?_
  rintro e w3 ⟨rfl, rfl⟩
  clear KP
  go_wp2_with fail
  go_loopw [47] (fun s47 W => ∃ k : Nat, s47 = .int .i64 k ∧ k ≤ n ∧ Hid (∃ A, Adding xs ids C.st k A ∧ vals (A ++ C.st.drop k) = vals C.st ∧ Side w0 (cellE i q L (addC C (A ++ C.st.drop k)) ++ E) W)) (fun s47 _ => n - (RowKit.intOf s47).toNat)
  case atStart => exact ⟨0, rfl, by omega, S3⟩
  case round =>
    clear S3
    obtain ⟨k, rfl, hk, HR⟩ := hrel
    by_cases hlt : k < n
    · obtain ⟨A, hA, hvs, hS⟩ := HR.out
      obtain ⟨⟨vk, vn, vs⟩, hv⟩ : ∃ v, xs[k]? = some v := ⟨_, List.getElem?_eq_getElem (by rw [HL.out]; exact hlt)⟩
      obtain ⟨d, hd⟩ : ∃ x, ids[k]? = some x := ⟨_, List.getElem?_eq_getElem (by rw [HLI.out]; exact hlt)⟩
      obtain ⟨⟨b, s⟩, hs⟩ : ∃ x, C.st[k]? = some x := ⟨_, List.getElem?_eq_getElem (by rw [HST.out]; exact hlt)⟩
      have hdr : C.st.drop k = (b, s) :: C.st.drop (k + 1) := by
        have hlk : k < C.st.length := by rw [HST.out]; exact hlt
        rw [List.drop_eq_getElem_cons hlk]
        rw [List.getElem?_eq_getElem hlk] at hs
        rw [Option.some.inj hs]
      obtain ⟨D, hD⟩ : ∃ D, C.st.drop (k + 1) = D := ⟨_, rfl⟩
      rw [hD] at hdr
      rw [hdr] at hvs hS
      have hlA := hA.1
      have hvv := HV.out wr (hS.sub (fun x hx => List.mem_append_right _ hx))
      have hii := HI.out wr (hS.sub (fun x hx => List.mem_append_right _ hx))
      obtain ⟨ad, ha, v0, v1, v2⟩ := hvv.at_ hv
      obtain ⟨iad, hia⟩ := hii.ptr (by omega)
      rcases ha with rfl
      rcases hia with rfl
      simp only at v0 v1 v2
      have HII := Lib.hid (fun (V : World) (hV : Side w0 E V) => (HI.out V hV).cell (j := k) (u := .int .i64 d) (by unfold i64s; rw [List.getElem?_map, hd]; rfl))
      have hfi := HFI.out HFB.out _ (List.mem_of_getElem? hv)
      have hsm := HSM.out _ (List.mem_of_getElem? hs)
      have hdi := HIDS.out _ (List.mem_of_getElem? hd)
      have l0 : (0 : Int) ≤ (k : Int) := Int.natCast_nonneg k
      have l1 : (k : Int) < (n : Int) := Int.ofNat_lt.2 hlt
      have hwk : IntKind.i64.wrap ((k : Int) + 1) = (k : Int) + 1 := by rw [IntKind.wrap_i64]; omega
      have S9 := Lib.hid (hS.alloc (i + 91) (.cells #[.int .i64 vk, .int .i64 vn, .string vs] 36))
      have HLT := Lib.hid hlt
      have HNX : Hid (∀ st, addS ⟨vk, vn, vs⟩ d (b, s) = st → Adding xs ids C.st (k + 1) (A ++ [st])) := Lib.hid fun st e => by rw [← e]; exact hA.next hv hd hs
      have HVN : Hid (∀ st, addS ⟨vk, vn, vs⟩ d (b, s) = st → vals ((A ++ [st]) ++ C.st.drop (k + 1)) = vals C.st) := Lib.hid fun st e => by
        rw [← e, ← hvs, hD]
        simp only [vals, List.map_append, List.map_cons, List.append_assoc, List.cons_append, List.nil_append, val_add]
      have HDD := Lib.hid hD
      have HLA := Lib.hid hlA
      have HVS := Lib.hid hvs
      have HDR := Lib.hid hdr
      have HHK := Lib.hid hk
      by_cases hz : vk = 0
      · have e1 : (vk == 0) = true := by simpa using hz
        have e2 : (vk != 0) = false := by simp [hz]
        have HE1 := Lib.hid e1
        have S10 : Hid (Side w0 (cellE i q L (addC C ((A ++ [(b, s)]) ++ C.st.drop (k + 1))) ++ E) (wr.alloc (.cells #[.int .i64 vk, .int .i64 vn, .string vs] 36))) := Lib.hid (by
          rw [HDD.out, List.append_assoc]
          exact S9.out.sub (fun x hx => List.mem_cons_of_mem _ hx))
        clear hA hvs hS hv hd hs hdr hD hvv hii hfi hsm hdi hz hk HR hlA S9
        go_wp2_with fail
        go_roundw
        case rel => exact ⟨k + 1, by go_num, by have := HLT.out; omega, Lib.hid ⟨A ++ [(b, s)], HNX.out _ (by unfold addS; rw [if_pos HE1.out]), HVN.out _ (by unfold addS; rw [if_pos HE1.out]), S10.out⟩⟩
        case measure => have := HLT.out; simp [RowKit.intOf]; omega
      · have e1 : (vk == 0) = false := by simpa using hz
        have e2 : (vk != 0) = true := by simp [hz]
        have HE1 := Lib.hid e1
        obtain ⟨ty, f, HT⟩ := take_call b s
        have HTC := Lib.hid HT
        have hval := HT.val
        have hmeth := HT.meth
        have hent := HT.ent
        unfold EntC at hent
        have hX : Side w0 ((i + 5 + k, StT b s) :: (i + 91, Box wr.heap.size (.cells #[.int .i64 vk, .int .i64 vn, .string vs] 36)) :: (i, OBox q (celO L (addC C (A ++ (b, s) :: D)))) :: (i + 1, RowT 25 2 L.mv C.ms.length (fl2 (C.ms.map meaC))) :: (i + 2, RowT 97 1 L.sv (A ++ (b, s) :: D).length (vals (A ++ (b, s) :: D))) :: (i + 3, RowT 3 1 L.kv C.ks.length (i64s C.ks)) :: (i + 4, SeedT L.g C.S) :: (stE (i + 5) A ++ (stE (i + 5 + k + 1) D ++ E))) (wr.alloc (.cells #[.int .i64 vk, .int .i64 vn, .string vs] 36)) := S9.out.sub (fun x hx => by
          unfold cellE addC
          rw [stE_app, HLA.out, stE]
          simp only [List.mem_cons, List.mem_append] at hx ⊢
          rcases hx with hx | hx | hx | hx | hx | hx | hx | hx | hx | hx <;> simp [hx, addC])
        have HX9 := Lib.hid hX.drew
        have hqq := HX9.out.heapO (i := i) (b := q) (ob := celO L (addC C (A ++ (b, s) :: D))) (by simp)
        have hbx := HX9.out.heap (i := i + 91) (b := wr.heap.size) (ob := .cells #[.int .i64 vk, .int .i64 vn, .string vs] 36 (0, 0)) (by simp)
        obtain ⟨T9, hT9⟩ := side_thing HX9.out (i := i + 2) (A := RowT 97 1 L.sv (A ++ (b, s) :: D).length (vals (A ++ (b, s) :: D))) (by simp)
        have hr9 := hT9.1
        rw [HSV.out] at hr9
        obtain ⟨sad, hsad, hsc⟩ := row_cell1 hr9 (j := k) (u := .iface ty (.pointer (some ⟨b, 0, none⟩))) (by
          unfold vals
          rw [List.getElem?_map, List.getElem?_append_right (by rw [HLA.out]; exact Nat.le_refl _), HLA.out, Nat.sub_self]
          show some (Sv.val b s) = _
          rw [hval])
        rcases hsad with rfl
        have C9 : (wr.alloc (.cells #[.int .i64 vk, .int .i64 vn, .string vs] 36)).drew.cell? ⟨q, 7, none⟩ = some (.slice (some sad) n sc) ∧ (wr.alloc (.cells #[.int .i64 vk, .int .i64 vn, .string vs] 36)).drew.cell? (sad.add k) = some (.iface ty (.pointer (some ⟨b, 0, none⟩))) ∧ ((wr.alloc (.cells #[.int .i64 vk, .int .i64 vn, .string vs] 36)).drew.cell? ⟨wr.heap.size, 0, none⟩ = some (.int .i64 vk) ∧ (wr.alloc (.cells #[.int .i64 vk, .int .i64 vn, .string vs] 36)).drew.cell? ⟨wr.heap.size, 1, none⟩ = some (.int .i64 vn) ∧ (wr.alloc (.cells #[.int .i64 vk, .int .i64 vn, .string vs] 36)).drew.cell? ⟨wr.heap.size, 2, none⟩ = some (.string vs)) ∧ (wr.alloc (.cells #[.int .i64 vk, .int .i64 vn, .string vs] 36)).drew.cell? (iad.add k) = some (.int .i64 d) :=
          ⟨by rw [cell_of_row _ _ _ _ _ _ hqq]; show some L.sv = _; rw [HSV.out], hsc, ⟨by rw [cell_of_row _ _ _ _ _ _ hbx]; rfl, by rw [cell_of_row _ _ _ _ _ _ hbx]; rfl, by rw [cell_of_row _ _ _ _ _ _ hbx]; rfl⟩, HII.out _ (HX9.out.sub (fun x hx => by simp [hx]))⟩
        have KT := HTC.out.call (m := m) (v := ⟨vk, vn, vs⟩) (id := d) HX9.out (fun e he => by
          simp only [List.mem_cons, List.mem_append] at he
          rcases he with rfl | rfl | rfl | rfl | rfl | rfl | he | he | he
          · intro h; dsimp only at h; omega
          · intro h; dsimp only at h; omega
          · intro h; dsimp only at h; omega
          · intro h; dsimp only at h; omega
          · intro h; dsimp only at h; omega
          · intro h; dsimp only at h; omega
          · have := stE_mem _ _ _ he; have := HLA.out; omega
          · have := stE_mem _ _ _ he; omega
          · have := HE.out e he; have := HHK.out; omega) hsm HM.out hfi hdi
        rw [one_val] at KT
        simp only at KT
        have S11 : Hid (∀ W, Side w0 ((i + 5 + k, StT b (takeS ⟨vk, vn, vs⟩ d s)) :: (i + 91, Box wr.heap.size (.cells #[.int .i64 vk, .int .i64 vn, .string vs] 36)) :: (i, OBox q (celO L (addC C (A ++ (b, s) :: D)))) :: (i + 1, RowT 25 2 L.mv C.ms.length (fl2 (C.ms.map meaC))) :: (i + 2, RowT 97 1 L.sv (A ++ (b, s) :: D).length (vals (A ++ (b, s) :: D))) :: (i + 3, RowT 3 1 L.kv C.ks.length (i64s C.ks)) :: (i + 4, SeedT L.g C.S) :: (stE (i + 5) A ++ (stE (i + 5 + k + 1) D ++ E))) W → Side w0 (cellE i q L (addC C ((A ++ [(b, takeS ⟨vk, vn, vs⟩ d s)]) ++ C.st.drop (k + 1))) ++ E) W) := Lib.hid fun W hW => by
          rw [HDD.out, List.append_assoc]
          refine hW.sub (fun x hx => ?_)
          unfold cellE addC at hx
          have hve : vals (A ++ ([(b, takeS ⟨vk, vn, vs⟩ d s)] ++ D)) = vals (A ++ (b, s) :: D) := by simp [vals, val_take]
          simp only at hx
          rw [hve, stE_app, HLA.out, List.singleton_append, stE] at hx
          simp only [List.mem_cons, List.mem_append, List.length_append, List.length_cons] at hx ⊢
          rcases hx with (hx | hx | hx | hx | hx | hx | hx | hx) | hx
          · subst hx; simp [celO, addC]
          · simp [hx]
          · subst hx; simp
          · simp [hx]
          · simp [hx]
          · simp [hx]
          · simp [hx]
          · simp [hx]
          · simp [hx]
        clear hA hvs hS hv hd hs hdr hD hvv hii hfi hsm hdi hz hk HR hlA S9 hX HT hval hqq hbx hT9 hr9 hsc
        go_upto_region 12 with (fail)
        refine wp_region_mix (fun V => V.cell? ⟨q, 7, none⟩ = some (.slice (some sad) n sc) ∧ V.cell? (sad.add k) = some (.iface ty (.pointer (some ⟨b, 0, none⟩))) ∧ (V.cell? ⟨wr.heap.size, 0, none⟩ = some (.int .i64 vk) ∧ V.cell? ⟨wr.heap.size, 1, none⟩ = some (.int .i64 vn) ∧ V.cell? ⟨wr.heap.size, 2, none⟩ = some (.string vs)) ∧ V.cell? (iad.add k) = some (.int .i64 d)) 14 [(true, 0), (true, 1), (true, 2), (true, 3), (true, 4), (true, 5), (true, 6), (true, 7), (true, 8), (true, 9), (true, 10), (true, 11), (true, 12), (true, 13), (false, 14)] (by kernel_rfl) (by decide +kernel) rfl (by decide +kernel) C9 ?_
        iterate 14
          refine wpMix_take (v := ?_) rfl rfl ?_ ?_
          rotate_left
          · (intro W hW; (try dsimp only at hW); go_simp) <;> with_reducible rfl
          simp only [Act.put, List.setIfInBounds_toArray, List.set_cons_zero, List.set_cons_succ]
        refine wpMix_run rfl ?_
        intro K' hK'
        go_wp2_with fail
        refine KT.mono ?_
        rintro e w9 ⟨rfl, S12⟩
        have S13 := Lib.hid (S11.out _ S12.out)
        clear KT S12 S11 C9 HX9
        go_wp2_with fail
        refine hK'.out _ _ (fun h => absurd rfl h) ?_
        clear hK' K'
        refine wpMix_nil ?_
        go_wp2_with fail
        go_roundw
        case rel => exact ⟨k + 1, by go_num, by have := HLT.out; omega, Lib.hid ⟨A ++ [(b, takeS ⟨vk, vn, vs⟩ d s)], HNX.out _ (by unfold addS; rw [if_neg (by rw [HE1.out]; simp)]), HVN.out _ (by unfold addS; rw [if_neg (by rw [HE1.out]; simp)]), S13.out⟩⟩
        case measure => have := HLT.out; simp [RowKit.intOf]; omega
    · obtain ⟨A, hA, hvs, hS⟩ := HR.out
      have hkn : k = n := by omega
      have hd0 : C.st.drop k = [] := List.drop_eq_nil_of_le (by rw [HST.out]; omega)
      rw [hd0, List.append_nil] at hvs hS
      have FI := FYE.out wr A (by first | rfl | trivial) ⟨by rw [hA.1, HST.out]; exact hkn, fun j v d s e1 e2 e3 => hA.2 j v d s (by have h := (List.getElem?_eq_some_iff.1 e3).1; rw [HST.out] at h; omega) e1 e2 e3⟩ hvs hS
      have hlt' : ¬ ((k : Int) < (n : Int)) := by omega
      clear hA hvs hS HR hlt hk hkn hd0
      go_wp2_with fail
      exact FI
end Go.Proofs.YtlhpbfjelgmkeaaGreat
/- Merge of a cell with another one of its shape. Conditions: both made, of the same measures, kinds and settings; few values. -/
set_option maxRecDepth 100000
namespace Go.Proofs.YtlhpbfjelgmkeaaGreat
open Go.RowKit Go.Maps Go.Sort Go.Lib

def mrg2 (s s' : Nat × Sv) : Nat × Sv := (s.1, mrgS s.2 s'.2)
theorem val_mrg2 (s s' : Nat × Sv) : Sv.val (mrg2 s s').1 (mrg2 s s').2 = Sv.val s.1 s.2 := mrg_val _ _ _
/-- what a merge leaves -/
def Merged (st st2 st' : List (Nat × Sv)) : Prop := st'.length = st.length ∧ ∀ (j : Nat) s s', st[j]? = some s → st2[j]? = some s' → st'[j]? = some (mrg2 s s')
def Merging (st st2 : List (Nat × Sv)) (k : Nat) (A : List (Nat × Sv)) : Prop := A.length = k ∧ ∀ (j : Nat) s s', j < k → st[j]? = some s → st2[j]? = some s' → A[j]? = some (mrg2 s s')
theorem Merging.next {st st2 : List (Nat × Sv)} {k : Nat} {A : List (Nat × Sv)} (h : Merging st st2 k A) {s s' : Nat × Sv} (hs : st[k]? = some s) (hs' : st2[k]? = some s') : Merging st st2 (k + 1) (A ++ [mrg2 s s']) := by
  refine ⟨by rw [List.length_append, h.1]; rfl, fun j t t' hj e1 e2 => ?_⟩
  rcases Nat.lt_or_ge j k with g | g
  · rw [List.getElem?_append_left (by rw [h.1]; exact g)]
    exact h.2 j t t' g e1 e2
  · have : j = k := by omega
    subst this
    rw [hs] at e1
    rw [hs'] at e2
    simp only [Option.some.injEq] at e1 e2
    subst e1 e2
    rw [List.getElem?_append_right (by rw [h.1]; exact Nat.le_refl _), h.1, Nat.sub_self]
    rfl
def mrgC (C C2 : Cv) (st : List (Nat × Sv)) : Cv := { C with rows := C.rows + C2.rows, st := st }
set_option maxHeartbeats 12800000 in
theorem cmerge_two {w0 w : World} {E : List (Nat × Thing)} {i i2 q r : Nat} {L L2 : Lay} {C C2 : Cv} (h : Side w0 (cellE i q L C ++ (cellE i2 r L2 C2 ++ E)) w) (hE : tagsOff i E) (hii : i + 100 ≤ i2 ∨ i2 + 100 ≤ i) {n m1 m2 : Nat}
    (e1 : C2.ms = C.ms) (e2 : C2.ks = C.ks) (e3 : C2.t = C.t) (e4 : C2.S = C.S) (e5 : C2.K = C.K) (e6 : C2.M = C.M) (h16 : C.ms.length ≤ 16) (k16 : C.ks.length ≤ 16) (s16 : C.S.length ≤ 16)
    (hn : n ≤ 16) (hst : C.st.length = n) (hst2 : C2.st.length = n) (ht : 1 ≤ C.t) (hrows : C.rows ≤ 100000) (hrows2 : C2.rows ≤ 100000) (hm : m1 + m2 ≤ 1000000)
    (hal : ∀ (j : Nat) s s', C.st[j]? = some s → C2.st[j]? = some s' → alikeS s.2 s'.2) (hs1 : ∀ s ∈ C.st, smallS m1 s.2) (hs2 : ∀ s ∈ C2.st, smallS m2 s.2) :
    Calls Tryz.prog 13 #[.pointer (some ⟨q, 0, none⟩), .pointer (some ⟨r, 0, none⟩)] w fun e w' => e = .returned (.int .i64 0) ∧ ∃ st', Merged C.st C2.st st' ∧ vals st' = vals C.st ∧ Hid (Side w0 (cellE i q L (mrgC C C2 st') ++ (cellE i2 r L2 C2 ++ E)) w') := by
  have g1 : (i, OBox q (celO L C)) ∈ cellE i q L C ++ (cellE i2 r L2 C2 ++ E) := by unfold cellE; simp
  have g2 : (i2, OBox r (celO L2 C2)) ∈ cellE i q L C ++ (cellE i2 r L2 C2 ++ E) := by unfold cellE; simp
  have hq := h.heapO g1
  have hr := h.heapO g2
  have KM := cmade_yes hq ht
  have KM2 := cmade_yes hr (by rw [e3]; exact ht)
  have KA := calike_yes h g1 (by unfold cellE; simp) (by unfold cellE; simp) (by unfold cellE; simp) g2 (by unfold cellE; simp) (by unfold cellE; simp) (by unfold cellE; simp) e1 e2 e3 e4 e5 e6 h16 k16 s16
  have g3 : (i + 2, RowT 97 1 L.sv C.st.length (vals C.st)) ∈ cellE i q L C ++ (cellE i2 r L2 C2 ++ E) := by unfold cellE; simp
  have g4 : (i2 + 2, RowT 97 1 L2.sv C2.st.length (vals C2.st)) ∈ cellE i q L C ++ (cellE i2 r L2 C2 ++ E) := by unfold cellE; simp
  obtain ⟨T, hT⟩ := side_thing h g3
  obtain ⟨T2, hT2⟩ := side_thing h g4
  obtain ⟨sa, sc, hsv, _⟩ := ownsRow_form hT.1
  obtain ⟨sb, sd, hsv2, _⟩ := ownsRow_form hT2.1
  rw [hst] at hsv
  rw [hst2] at hsv2
  obtain ⟨P, hP⟩ : ∃ P : Ending → World → Prop, (fun e w' => e = .returned (.int .i64 0) ∧ ∃ st', Merged C.st C2.st st' ∧ vals st' = vals C.st ∧ Hid (Side w0 (cellE i q L (mrgC C C2 st') ++ (cellE i2 r L2 C2 ++ E)) w')) = P := ⟨_, rfl⟩
  rw [hP]
  have FYE := Lib.hid (fun (W : World) (st' : List (Nat × Sv)) (ha : Merged C.st C2.st st') (hvs : vals st' = vals C.st) (hS : Side w0 (cellE i q L (mrgC C C2 st') ++ (cellE i2 r L2 C2 ++ E)) W) => (by rw [← hP]; exact ⟨rfl, st', ha, hvs, Lib.hid hS⟩ : P (.returned (.int .i64 0)) W))
  obtain ⟨R, hR⟩ : ∃ R, C.rows = R := ⟨_, rfl⟩
  obtain ⟨R2, hR2⟩ : ∃ R, C2.rows = R := ⟨_, rfl⟩
  have HS := Lib.hid h
  have HE := Lib.hid hE
  have HII := Lib.hid hii
  have HST := Lib.hid hst
  have HST2 := Lib.hid hst2
  have HSM := Lib.hid hs1
  have HSM2 := Lib.hid hs2
  have HAL := Lib.hid hal
  have HM := Lib.hid hm
  have HSV := Lib.hid hsv
  have HSV2 := Lib.hid hsv2
  have HRR := Lib.hid hR
  have HRR2 := Lib.hid hR2
  have HRW := Lib.hid hrows
  have HRW2 := Lib.hid hrows2
  clear h g1 g2 g3 g4 hq hr hT hT2 hsv hsv2 hE hii hst hst2 hs1 hs2 hal hm hP ht hR hR2 hrows hrows2 e1 e2 e3 e4 e5 e6 h16 k16 s16
  go_enter Tryz.func13, Tryz.ntmps13
  go_wp2_with fail
  refine KM.mono ?_
  rintro e w1 ⟨rfl, rfl⟩
  clear KM
  go_wp2_with fail
  refine KM2.mono ?_
  rintro e w1 ⟨rfl, rfl⟩
  clear KM2
  go_wp2_with fail
  refine KA.mono ?_
  rintro e w2 ⟨rfl, hb2⟩
  have S2 := Lib.hid ((HS.out.below hb2).drew)
  clear KA hb2 HS
  have hq2 := S2.out.heapO (i := i) (b := q) (ob := celO L C) (by unfold cellE; simp)
  have hr2 := S2.out.heapO (i := i2) (b := r) (ob := celO L2 C2) (by unfold cellE; simp)
  have C5 : w2.drew.cell? ⟨q, 6, none⟩ = some (.int .i64 (R : Int)) ∧ w2.drew.cell? ⟨r, 6, none⟩ = some (.int .i64 (R2 : Int)) := ⟨by rw [cell_of_row _ _ _ _ _ _ hq2]; show some (Value.int .i64 (C.rows : Int)) = _; rw [HRR.out], by rw [cell_of_row _ _ _ _ _ _ hr2]; show some (Value.int .i64 (C2.rows : Int)) = _; rw [HRR2.out]⟩
  have f6 := free_of_row hq2 6
  have KP := cplus_any R R2 (by have := HRW.out; have := HRR.out; have := HRW2.out; have := HRR2.out; omega) w2.drew
  have S3 : Hid (∃ A, Merging C.st C2.st 0 A ∧ vals (A ++ C.st.drop 0) = vals C.st ∧ Side w0 (cellE i q L (mrgC C C2 (A ++ C.st.drop 0)) ++ (cellE i2 r L2 C2 ++ E)) (w2.drew.setCell ⟨q, 6, none⟩ (.int .i64 ((R + R2 : Nat) : Int)))) := Lib.hid (by
    refine ⟨[], ⟨rfl, fun j _ _ hj => absurd hj (by omega)⟩, by simp, ?_⟩
    have hS := S2.out
    have hoff : ∀ e ∈ cellE i2 r L2 C2 ++ E, e.1 ≠ i := fun e he => by
      rcases List.mem_append.1 he with he | he
      · have := cell_tags (by rw [HST2.out]; exact hn) e he
        have := HII.out
        omega
      · have := HE.out e he; omega
    have hS1 := hS.sub (E' := (i, OBox q (celO L C)) :: (i + 1, RowT 25 2 L.mv C.ms.length (fl2 (C.ms.map meaC))) :: (i + 2, RowT 97 1 L.sv C.st.length (vals C.st)) :: (i + 3, RowT 3 1 L.kv C.ks.length (i64s C.ks)) :: (i + 4, SeedT L.g C.S) :: (stE (i + 5) C.st ++ (cellE i2 r L2 C2 ++ E))) (fun x hx => by
      rw [show cellE i q L C = (i, OBox q (celO L C)) :: (i + 1, RowT 25 2 L.mv C.ms.length (fl2 (C.ms.map meaC))) :: (i + 2, RowT 97 1 L.sv C.st.length (vals C.st)) :: (i + 3, RowT 3 1 L.kv C.ks.length (i64s C.ks)) :: (i + 4, SeedT L.g C.S) :: stE (i + 5) C.st from rfl]
      simpa using hx)
    have := Side.set (j := 6) hS1 (fun e he => by
      rcases List.mem_cons.1 he with rfl | he
      · intro h; dsimp only at h; omega
      rcases List.mem_cons.1 he with rfl | he
      · intro h; dsimp only at h; omega
      rcases List.mem_cons.1 he with rfl | he
      · intro h; dsimp only at h; omega
      rcases List.mem_cons.1 he with rfl | he
      · intro h; dsimp only at h; omega
      rcases List.mem_append.1 he with he | he
      · have := stE_mem _ _ _ he; omega
      · exact hoff e he) (.int .i64 ((R + R2 : Nat) : Int))
    refine this.sub (fun x hx => ?_)
    rw [show cellE i q L (mrgC C C2 ([] ++ List.drop 0 C.st)) = (i, OBox q (celO L (mrgC C C2 C.st))) :: (i + 1, RowT 25 2 L.mv C.ms.length (fl2 (C.ms.map meaC))) :: (i + 2, RowT 97 1 L.sv C.st.length (vals C.st)) :: (i + 3, RowT 3 1 L.kv C.ks.length (i64s C.ks)) :: (i + 4, SeedT L.g C.S) :: stE (i + 5) C.st from rfl] at hx
    unfold celO mrgC at hx
    rw [HRR.out, HRR2.out] at hx
    simpa using hx)
  clear S2 hq2 hr2
  obtain ⟨R3, hR3⟩ : ∃ x, R + R2 = x := ⟨_, rfl⟩
  rw [hR3] at KP S3
  clear hR3
  go_upto_region 5 with (fail)
  refine wp_region_mix (fun V => V.cell? ⟨q, 6, none⟩ = some (.int .i64 (R : Int)) ∧ V.cell? ⟨r, 6, none⟩ = some (.int .i64 (R2 : Int))) 12 [(true, 0), (true, 1), (true, 2), (true, 3), (true, 4), (true, 5), (true, 6), (true, 7), (true, 8), (false, 9), (true, 10), (true, 11), (false, 12)] (by kernel_rfl) (by decide +kernel) rfl (by decide +kernel) C5 ?_
  iterate 9
    refine wpMix_take (v := ?_) rfl rfl ?_ ?_
    rotate_left
    · (intro W hW; (try dsimp only at hW); go_simp) <;> with_reducible rfl
    simp only [Act.put, List.setIfInBounds_toArray, List.set_cons_zero, List.set_cons_succ]
  refine wpMix_run rfl ?_
  intro K' hK'
  go_wp2_with fail
  refine KP.mono ?_
  rintro e w' ⟨rfl, rfl⟩
  go_wp2_with fail
  refine hK'.out _ _ (fun _ => C5) ?_
  clear hK' K' KP
  iterate 2
    refine wpMix_take (v := ?_) rfl rfl ?_ ?_
    rotate_left
    · (intro W hW; (try dsimp only at hW); go_simp) <;> with_reducible rfl
    simp only [Act.put, List.setIfInBounds_toArray, List.set_cons_zero, List.set_cons_succ]
  obtain ⟨c0, _⟩ := C5
  refine wpMix_run rfl ?_
  intro K' hK'
  go_wp2_with fail
  refine hK'.out _ _ (fun h => absurd rfl h) ?_
  clear hK' K' c0 f6
  refine wpMix_nil ?_
  have c7 : (w2.setCell ⟨q, 6, none⟩ (.int .i64 (R3 : Int))).cell? ⟨q, 7, none⟩ = some (.slice sa n sc) := by
    obtain ⟨A0, _, _, hS0⟩ := S3.out
    have hV := hS0.heapO (i := i) (b := q) (ob := celO L (mrgC C C2 (A0 ++ C.st.drop 0))) (by unfold cellE; simp)
    have hV' : (w2.setCell ⟨q, 6, none⟩ (.int .i64 (R3 : Int))).heap[q]? = some (celO L (mrgC C C2 (A0 ++ C.st.drop 0))) := hV
    rw [cell_of_row _ _ _ _ _ _ hV']
    show some L.sv = _
    rw [HSV.out]
  go_wp2_with fail
  go_loopw [38] (fun s38 W => ∃ k : Nat, s38 = .int .i64 k ∧ k ≤ n ∧ Hid (∃ A, Merging C.st C2.st k A ∧ vals (A ++ C.st.drop k) = vals C.st ∧ Side w0 (cellE i q L (mrgC C C2 (A ++ C.st.drop k)) ++ (cellE i2 r L2 C2 ++ E)) W)) (fun s38 _ => n - (RowKit.intOf s38).toNat)
  case atStart => exact ⟨0, rfl, by omega, S3⟩
  case round =>
    clear S3 c7
    obtain ⟨k, rfl, hk, HR⟩ := hrel
    by_cases hlt : k < n
    · obtain ⟨A, hA, hvs, hS⟩ := HR.out
      obtain ⟨⟨b, s⟩, hs⟩ : ∃ x, C.st[k]? = some x := ⟨_, List.getElem?_eq_getElem (by rw [HST.out]; exact hlt)⟩
      obtain ⟨⟨c, s'⟩, hs'⟩ : ∃ x, C2.st[k]? = some x := ⟨_, List.getElem?_eq_getElem (by rw [HST2.out]; exact hlt)⟩
      have hdr : C.st.drop k = (b, s) :: C.st.drop (k + 1) := by
        have hlk : k < C.st.length := by rw [HST.out]; exact hlt
        rw [List.drop_eq_getElem_cons hlk]
        rw [List.getElem?_eq_getElem hlk] at hs
        rw [Option.some.inj hs]
      obtain ⟨D, hD⟩ : ∃ D, C.st.drop (k + 1) = D := ⟨_, rfl⟩
      rw [hD] at hdr
      rw [hdr] at hvs hS
      have hlA := hA.1
      have hal := HAL.out k _ _ hs hs'
      have hsm1 := HSM.out _ (List.mem_of_getElem? hs)
      have hsm2 := HSM2.out _ (List.mem_of_getElem? hs')
      simp only at hal hsm1 hsm2
      have l0 : (0 : Int) ≤ (k : Int) := Int.natCast_nonneg k
      have l1 : (k : Int) < (n : Int) := Int.ofNat_lt.2 hlt
      have hwk : IntKind.i64.wrap ((k : Int) + 1) = (k : Int) + 1 := by rw [IntKind.wrap_i64]; omega
      have HLT := Lib.hid hlt
      have HNX := Lib.hid (hA.next hs hs')
      have HVN : Hid (vals ((A ++ [mrg2 (b, s) (c, s')]) ++ C.st.drop (k + 1)) = vals C.st) := Lib.hid (by
        rw [← hvs, hD]
        simp only [vals, List.map_append, List.map_cons, List.append_assoc, List.cons_append, List.nil_append, val_mrg2])
      have HDD := Lib.hid hD
      have HLA := Lib.hid hlA
      have HHK := Lib.hid hk
      obtain ⟨ty, f, HT⟩ := mrg_call b s
      obtain ⟨ty2, f2, HT2⟩ := mrg_call c s'
      have HTC := Lib.hid HT
      have hval := HT.val
      have hval2 := HT2.val
      have hmeth := HT.meth
      have hahead := HT.ahead
      have hent := HT.ent
      unfold EntC at hent
      have hX : Side w0 ((i + 5 + k, StT b s) :: (i, OBox q (celO L (mrgC C C2 (A ++ (b, s) :: D)))) :: (i + 1, RowT 25 2 L.mv C.ms.length (fl2 (C.ms.map meaC))) :: (i + 2, RowT 97 1 L.sv (A ++ (b, s) :: D).length (vals (A ++ (b, s) :: D))) :: (i + 3, RowT 3 1 L.kv C.ks.length (i64s C.ks)) :: (i + 4, SeedT L.g C.S) :: (stE (i + 5) A ++ (stE (i + 5 + k + 1) D ++ (cellE i2 r L2 C2 ++ E)))) wr := hS.sub (fun x hx => by
        rw [show cellE i q L (mrgC C C2 (A ++ (b, s) :: D)) = (i, OBox q (celO L (mrgC C C2 (A ++ (b, s) :: D)))) :: (i + 1, RowT 25 2 L.mv C.ms.length (fl2 (C.ms.map meaC))) :: (i + 2, RowT 97 1 L.sv (A ++ (b, s) :: D).length (vals (A ++ (b, s) :: D))) :: (i + 3, RowT 3 1 L.kv C.ks.length (i64s C.ks)) :: (i + 4, SeedT L.g C.S) :: stE (i + 5) (A ++ (b, s) :: D) from rfl, stE_app, HLA.out, stE]
        simp only [List.mem_cons, List.mem_append] at hx ⊢
        rcases hx with hx | hx | hx | hx | hx | hx | hx | hx | hx | hx <;> simp [hx])
      have HX9 := Lib.hid hX.drew
      have hqq := HX9.out.heapO (i := i) (b := q) (ob := celO L (mrgC C C2 (A ++ (b, s) :: D))) (by simp)
      have hrr := HX9.out.heapO (i := i2) (b := r) (ob := celO L2 C2) (by unfold cellE; simp)
      obtain ⟨T9, hT9⟩ := side_thing HX9.out (i := i + 2) (A := RowT 97 1 L.sv (A ++ (b, s) :: D).length (vals (A ++ (b, s) :: D))) (by simp)
      obtain ⟨T8, hT8⟩ := side_thing HX9.out (i := i2 + 2) (A := RowT 97 1 L2.sv C2.st.length (vals C2.st)) (by unfold cellE; simp)
      have hr9 := hT9.1
      have hr8 := hT8.1
      rw [HSV.out] at hr9
      rw [HSV2.out] at hr8
      obtain ⟨sad, hsad, hsc⟩ := row_cell1 hr9 (j := k) (u := .iface ty (.pointer (some ⟨b, 0, none⟩))) (by
        unfold vals
        rw [List.getElem?_map, List.getElem?_append_right (by rw [HLA.out]; exact Nat.le_refl _), HLA.out, Nat.sub_self]
        show some (Sv.val b s) = _
        rw [hval])
      obtain ⟨sbd, hsbd, hsd⟩ := row_cell1 hr8 (j := k) (u := .iface ty2 (.pointer (some ⟨c, 0, none⟩))) (by
        unfold vals
        rw [List.getElem?_map, hs']
        show some (Sv.val c s') = _
        rw [hval2])
      rcases hsad with rfl
      rcases hsbd with rfl
      have x0 : wr.cell? (sad.add k) = some (.iface ty (.pointer (some ⟨b, 0, none⟩))) := hsc
      have C9 : wr.drew.cell? ⟨r, 7, none⟩ = some (.slice (some sbd) n sd) ∧ wr.drew.cell? (sbd.add k) = some (.iface ty2 (.pointer (some ⟨c, 0, none⟩))) := ⟨by rw [cell_of_row _ _ _ _ _ _ hrr]; show some L2.sv = _; rw [HSV2.out], hsd⟩
      have KT := HTC.out.call (m := m1) (n := m2) (j' := i2 + 5 + k) (c := c) (s' := s') HX9.out (fun e he => by
        simp only [List.mem_cons, List.mem_append] at he
        rcases he with rfl | rfl | rfl | rfl | rfl | he | he | he | he
        · intro h; dsimp only at h; omega
        · intro h; dsimp only at h; omega
        · intro h; dsimp only at h; omega
        · intro h; dsimp only at h; omega
        · intro h; dsimp only at h; omega
        · have := stE_mem _ _ _ he; have := HLA.out; omega
        · have := stE_mem _ _ _ he; omega
        · have := cell_tags (by rw [HST2.out]; exact hn) e he; have := HII.out; have := HHK.out; omega
        · have := HE.out e he; have := HHK.out; omega) (by
        have := stE_at (i2 + 5) C2.st k (c, s') hs'
        unfold cellE
        simp [this]) hal hsm1 hsm2 HM.out
      rw [hval2] at KT
      have S11 : Hid (∀ W, Side w0 ((i + 5 + k, StT b (mrgS s s')) :: (i, OBox q (celO L (mrgC C C2 (A ++ (b, s) :: D)))) :: (i + 1, RowT 25 2 L.mv C.ms.length (fl2 (C.ms.map meaC))) :: (i + 2, RowT 97 1 L.sv (A ++ (b, s) :: D).length (vals (A ++ (b, s) :: D))) :: (i + 3, RowT 3 1 L.kv C.ks.length (i64s C.ks)) :: (i + 4, SeedT L.g C.S) :: (stE (i + 5) A ++ (stE (i + 5 + k + 1) D ++ (cellE i2 r L2 C2 ++ E)))) W → Side w0 (cellE i q L (mrgC C C2 ((A ++ [mrg2 (b, s) (c, s')]) ++ C.st.drop (k + 1))) ++ (cellE i2 r L2 C2 ++ E)) W) := Lib.hid fun W hW => by
        rw [HDD.out, List.append_assoc, List.singleton_append]
        refine hW.sub (fun x hx => ?_)
        have hve : vals (A ++ mrg2 (b, s) (c, s') :: D) = vals (A ++ (b, s) :: D) := by simp [vals, mrg2, mrg_val]
        rw [show cellE i q L (mrgC C C2 (A ++ mrg2 (b, s) (c, s') :: D)) = (i, OBox q (celO L (mrgC C C2 (A ++ (b, s) :: D)))) :: (i + 1, RowT 25 2 L.mv C.ms.length (fl2 (C.ms.map meaC))) :: (i + 2, RowT 97 1 L.sv (A ++ mrg2 (b, s) (c, s') :: D).length (vals (A ++ mrg2 (b, s) (c, s') :: D))) :: (i + 3, RowT 3 1 L.kv C.ks.length (i64s C.ks)) :: (i + 4, SeedT L.g C.S) :: stE (i + 5) (A ++ mrg2 (b, s) (c, s') :: D) from rfl, hve, stE_app, HLA.out, stE] at hx
        simp only [List.mem_cons, List.mem_append, List.length_append, List.length_cons] at hx ⊢
        rcases hx with (hx | hx | hx | hx | hx | hx | hx | hx) | hx | hx
        · simp [hx]
        · simp [hx]
        · simp [hx]
        · simp [hx]
        · simp [hx]
        · simp [hx]
        · subst hx; simp [mrg2]
        · simp [hx]
        · simp [hx]
        · simp [hx]
      clear hA hvs hS hs hs' hdr hD hal hsm1 hsm2 hk HR hlA hX HT HT2 hval hval2 hqq hrr hT9 hT8 hr9 hr8 hsc hsd
      go_upto_region 9 with (fail)
      refine wp_region_mix (fun V => V.cell? ⟨r, 7, none⟩ = some (.slice (some sbd) n sd) ∧ V.cell? (sbd.add k) = some (.iface ty2 (.pointer (some ⟨c, 0, none⟩)))) 11 [(true, 0), (true, 1), (true, 2), (true, 3), (true, 4), (true, 5), (true, 6), (true, 7), (true, 8), (true, 9), (true, 10), (false, 11)] (by kernel_rfl) (by decide +kernel) rfl (by decide +kernel) C9 ?_
      iterate 11
        refine wpMix_take (v := ?_) rfl rfl ?_ ?_
        rotate_left
        · (intro W hW; (try dsimp only at hW); go_simp) <;> with_reducible rfl
        simp only [Act.put, List.setIfInBounds_toArray, List.set_cons_zero, List.set_cons_succ]
      refine wpMix_run rfl ?_
      intro K' hK'
      go_wp2_with fail
      refine KT.mono ?_
      rintro e w9 ⟨rfl, S12⟩
      have S13 := Lib.hid (S11.out _ S12.out)
      clear KT S12 S11 C9 HX9
      go_wp2_with fail
      refine hK'.out _ _ (fun h => absurd rfl h) ?_
      clear hK' K'
      refine wpMix_nil ?_
      go_wp2_with fail
      go_roundw
      case rel => exact ⟨k + 1, by go_num, by have := HLT.out; omega, Lib.hid ⟨A ++ [mrg2 (b, s) (c, s')], HNX.out, HVN.out, S13.out⟩⟩
      case measure => have := HLT.out; simp [RowKit.intOf]; omega
    · obtain ⟨A, hA, hvs, hS⟩ := HR.out
      have hkn : k = n := by omega
      have hd0 : C.st.drop k = [] := List.drop_eq_nil_of_le (by rw [HST.out]; omega)
      rw [hd0, List.append_nil] at hvs hS
      have FI := FYE.out wr A ⟨by rw [hA.1, HST.out]; exact hkn, fun j s s' e1 e2 => hA.2 j s s' (by have h := (List.getElem?_eq_some_iff.1 e1).1; rw [HST.out] at h; omega) e1 e2⟩ hvs hS
      have hlt' : ¬ ((k : Int) < (n : Int)) := by omega
      clear hA hvs hS HR hlt hk hkn hd0
      go_wp2_with fail
      exact FI
end Go.Proofs.YtlhpbfjelgmkeaaGreat
/- Tags out of a cell's way. Conditions: none. -/
set_option maxRecDepth 100000
namespace Go.Proofs.YtlhpbfjelgmkeaaGreat
open Go.RowKit Go.Maps Go.Sort Go.Lib

theorem off_cell {i j q : Nat} {L : Lay} {C : Cv} (hl : C.st.length ≤ 16) (h : i + 100 ≤ j ∨ j + 100 ≤ i) {E : List (Nat × Thing)} (hE : tagsOff i E) : tagsOff i (cellE j q L C ++ E) := fun e he => by
  rcases List.mem_append.1 he with he | he
  · have := cell_tags hl e he
    omega
  · exact hE e he
theorem off_cons {i j : Nat} {A : Thing} (h : i + 100 ≤ j) {E : List (Nat × Thing)} (hE : tagsOff i E) : tagsOff i ((j, A) :: E) := fun e he => by
  rcases List.mem_cons.1 he with rfl | he
  · exact .inr h
  · exact hE e he
theorem off_nil (i : Nat) : tagsOff i [] := fun e he => by cases he
end Go.Proofs.YtlhpbfjelgmkeaaGreat
/- A cell of any measures that got so many rows, plain: which state each measure has, and that few values are kept. Conditions: none. -/
set_option maxRecDepth 100000
namespace Go.Proofs.YtlhpbfjelgmkeaaGreat
open Go.RowKit Go.Maps Go.Sort Go.Lib

/-- a state of a measure of this kind -/
def shp (t : Nat) (S : List (Nat × Nat)) (K M : Int) (mk k : Int) (s : Sv) : Prop :=
  (mk = 1 ∧ ∃ n, s = .cnt n) ∨ (mk = 2 ∧ ∃ N n, s = .sum N n) ∨ (mk = 3 ∧ ∃ v, s = .low v) ∨ (mk = 4 ∧ ∃ v, s = .high v) ∨ (mk = 5 ∧ ∃ p V, s = .dis p V ∧ V.t = t ∧ V.seeds = S) ∨ (mk = 6 ∧ ∃ p n, s = .qua k p K.toNat n) ∨ (mk = 7 ∧ ∃ p n, s = .top p M.toNat n)
section
variable {t : Nat} {S : List (Nat × Nat)} {K M mk k : Int} {s s' : Sv}
theorem shp_begun (h : Begun t S K M mk k s) : shp t S K M mk k s := by
  rcases h with ⟨h, rfl⟩ | ⟨h, rfl⟩ | ⟨h, rfl⟩ | ⟨h, rfl⟩ | ⟨h, p, rfl⟩ | ⟨h, p, rfl⟩ | ⟨h, p, rfl⟩
  · exact .inl ⟨h, _, rfl⟩
  · exact .inr (.inl ⟨h, _, _, rfl⟩)
  · exact .inr (.inr (.inl ⟨h, _, rfl⟩))
  · exact .inr (.inr (.inr (.inl ⟨h, _, rfl⟩)))
  · exact .inr (.inr (.inr (.inr (.inl ⟨h, p, _, rfl, rfl, rfl⟩))))
  · exact .inr (.inr (.inr (.inr (.inr (.inl ⟨h, p, _, rfl⟩)))))
  · exact .inr (.inr (.inr (.inr (.inr (.inr ⟨h, p, _, rfl⟩)))))
theorem shp_take (h : shp t S K M mk k s) (v : VV) (d : Int) : shp t S K M mk k (takeS v d s) := by
  rcases h with ⟨h, n, rfl⟩ | ⟨h, N, n, rfl⟩ | ⟨h, o, rfl⟩ | ⟨h, o, rfl⟩ | ⟨h, p, V, rfl, h1, h2⟩ | ⟨h, p, n, rfl⟩ | ⟨h, p, n, rfl⟩
  · exact .inl ⟨h, _, rfl⟩
  · exact .inr (.inl ⟨h, _, _, rfl⟩)
  · exact .inr (.inr (.inl ⟨h, _, rfl⟩))
  · exact .inr (.inr (.inr (.inl ⟨h, _, rfl⟩)))
  · exact .inr (.inr (.inr (.inr (.inl ⟨h, p, _, rfl, h1, h2⟩))))
  · exact .inr (.inr (.inr (.inr (.inr (.inl ⟨h, p, _, rfl⟩)))))
  · exact .inr (.inr (.inr (.inr (.inr (.inr ⟨h, p, _, rfl⟩)))))
theorem shp_alike (h : shp t S K M mk k s) (g : shp t S K M mk k s') : alikeS s s' := by
  rcases h with ⟨h, n, rfl⟩ | ⟨h, N, n, rfl⟩ | ⟨h, o, rfl⟩ | ⟨h, o, rfl⟩ | ⟨h, p, V, rfl, h1, h2⟩ | ⟨h, p, n, rfl⟩ | ⟨h, p, n, rfl⟩
  all_goals rcases g with ⟨g, n', rfl⟩ | ⟨g, N', n', rfl⟩ | ⟨g, o', rfl⟩ | ⟨g, o', rfl⟩ | ⟨g, p', V', rfl, g1, g2⟩ | ⟨g, p', n', rfl⟩ | ⟨g, p', n', rfl⟩
  all_goals first
    | (exfalso; omega)
    | trivial
    | exact ⟨g1.trans h1.symm, g2.trans h2.symm⟩
    | exact ⟨rfl, rfl⟩
    | rfl
theorem shp_mrg (h : shp t S K M mk k s) (g : shp t S K M mk k s') : shp t S K M mk k (mrgS s s') := by
  rcases h with ⟨h, n, rfl⟩ | ⟨h, N, n, rfl⟩ | ⟨h, o, rfl⟩ | ⟨h, o, rfl⟩ | ⟨h, p, V, rfl, h1, h2⟩ | ⟨h, p, n, rfl⟩ | ⟨h, p, n, rfl⟩
  all_goals rcases g with ⟨g, n', rfl⟩ | ⟨g, N', n', rfl⟩ | ⟨g, o', rfl⟩ | ⟨g, o', rfl⟩ | ⟨g, p', V', rfl, g1, g2⟩ | ⟨g, p', n', rfl⟩ | ⟨g, p', n', rfl⟩
  all_goals first
    | (exfalso; omega)
    | exact .inl ⟨h, _, rfl⟩
    | exact .inr (.inl ⟨h, _, _, rfl⟩)
    | exact .inr (.inr (.inl ⟨h, _, rfl⟩))
    | exact .inr (.inr (.inr (.inl ⟨h, _, rfl⟩)))
    | exact .inr (.inr (.inr (.inr (.inl ⟨h, p, _, rfl, h1, h2⟩))))
    | exact .inr (.inr (.inr (.inr (.inr (.inl ⟨h, p, _, rfl⟩)))))
    | exact .inr (.inr (.inr (.inr (.inr (.inr ⟨h, p, _, rfl⟩)))))
end
theorem small_up {m m' : Nat} (hm : m ≤ m') : ∀ {s : Sv}, smallS m s → smallS m' s
  | .cnt n, h => Nat.le_trans h hm
  | .sum N n, h => by
    unfold smallS at *
    refine ⟨by omega, ?_, ?_⟩ <;> omega
  | .low o, h => h
  | .high o, h => h
  | .dis _ _, _ => trivial
  | .qua _ _ _ n, h => ⟨Nat.le_trans h.1 hm, h.2⟩
  | .top _ _ n, h => Nat.le_trans h hm
/-- what a cell is made of -/
structure Mk where
  ms : List (Int × ByteArray)
  ks : List Int
  t : Nat
  S : List (Nat × Nat)
  K : Int
  M : Int
structure Mk.Ok (A : Mk) : Prop where
  len : A.ks.length = A.ms.length
  l16 : A.ms.length ≤ 16
  good : goodB A.t A.S A.K A.M = true
  all : allOk A.ms A.ks
  sz : ∀ (j : Nat) m, A.ms[j]? = some m → m.2.size ≤ 140737488355328
theorem Mk.Ok.t1 {A : Mk} (h : A.Ok) : 1 ≤ A.t := by
  obtain ⟨tn, h1, h2⟩ := goodB_set h.good
  have := h2.t2
  omega
theorem Mk.Ok.s16 {A : Mk} (h : A.Ok) : A.S.length ≤ 16 := by
  obtain ⟨tn, h1, h2⟩ := goodB_set h.good
  have := h2.n7
  omega
theorem Mk.Ok.kinds {A : Mk} (h : A.Ok) : ∀ k ∈ A.ks, 1 ≤ k ∧ k ≤ 4 := fun k hk => by
  obtain ⟨j, hj⟩ := List.mem_iff_getElem?.1 hk
  obtain ⟨m, hm⟩ : ∃ m, A.ms[j]? = some m := ⟨_, List.getElem?_eq_getElem (by have := (List.getElem?_eq_some_iff.1 hj).1; have := h.len; omega)⟩
  exact (h.all j m k hm hj).1
/-- a cell that got n rows -/
structure CI (A : Mk) (n : Nat) (C : Cv) : Prop where
  ms : C.ms = A.ms
  ks : C.ks = A.ks
  t : C.t = A.t
  S : C.S = A.S
  K : C.K = A.K
  M : C.M = A.M
  rows : C.rows = n
  len : C.st.length = A.ms.length
  sh : ∀ (j : Nat) m k s, A.ms[j]? = some m → A.ks[j]? = some k → C.st[j]? = some s → shp A.t A.S A.K A.M m.1 k s.2
  sm : ∀ s ∈ C.st, smallS n s.2
theorem at_mem {α : Type} {l : List α} {x : α} (h : x ∈ l) : ∃ j : Nat, l[j]? = some x := List.mem_iff_getElem?.1 h
theorem ci_new {A : Mk} (hA : A.Ok) {C : Cv} (h : NewC A.ms A.ks A.t A.S A.K A.M A.ms.length C) : CI A 0 C where
  ms := by rw [h.ems, List.take_length]
  ks := h.eks
  t := h.et
  S := h.eS
  K := h.eK
  M := h.eM
  rows := h.erows
  len := h.elen
  sh := fun j m k s h1 h2 h3 => shp_begun (h.est j m k s h1 h2 h3)
  sm := fun s hs => by
    obtain ⟨j, hj⟩ := at_mem hs
    have hlt := (List.getElem?_eq_some_iff.1 hj).1
    obtain ⟨m, hm⟩ : ∃ m, A.ms[j]? = some m := ⟨_, List.getElem?_eq_getElem (by rw [← h.elen]; exact hlt)⟩
    obtain ⟨k, hk⟩ : ∃ m, A.ks[j]? = some m := ⟨_, List.getElem?_eq_getElem (by rw [hA.len, ← h.elen]; exact hlt)⟩
    exact small_begun (hA.all j m k hm hk) (h.est j m k s hm hk hj)
theorem CI.add {A : Mk} {n : Nat} {C : Cv} (h : CI A n C) {xs : List VV} {ids : List Int} (hx : xs.length = A.ms.length) (hi : ids.length = A.ms.length) (hf : ∀ v ∈ xs, v.fine) {st' : List (Nat × Sv)} (ha : Added xs ids C.st st') : CI A (n + 1) (addC C st') := by
  obtain ⟨a1, a2⟩ := ha
  have key : ∀ (j : Nat) s, st'[j]? = some s → ∃ v d s0, v ∈ xs ∧ C.st[j]? = some s0 ∧ s = addS v d s0 := fun j s hs => by
    have hlt : j < A.ms.length := by rw [← h.len, ← a1]; exact (List.getElem?_eq_some_iff.1 hs).1
    obtain ⟨v, hv⟩ : ∃ v, xs[j]? = some v := ⟨_, List.getElem?_eq_getElem (by rw [hx]; exact hlt)⟩
    obtain ⟨d, hd⟩ : ∃ d, ids[j]? = some d := ⟨_, List.getElem?_eq_getElem (by rw [hi]; exact hlt)⟩
    obtain ⟨s0, h0⟩ : ∃ s, C.st[j]? = some s := ⟨_, List.getElem?_eq_getElem (by rw [h.len]; exact hlt)⟩
    have := a2 j v d s0 hv hd h0
    rw [hs] at this
    exact ⟨v, d, s0, List.mem_of_getElem? hv, h0, Option.some.inj this⟩
  refine ⟨h.ms, h.ks, h.t, h.S, h.K, h.M, by show C.rows + 1 = _; rw [h.rows], a1.trans h.len, fun j m k s e1 e2 e3 => ?_, fun s hs => ?_⟩
  · obtain ⟨v, d, s0, _, h0, rfl⟩ := key j s e3
    have := h.sh j m k s0 e1 e2 h0
    unfold addS
    split
    · exact this
    · exact shp_take this v d
  · obtain ⟨j, hj⟩ := at_mem hs
    obtain ⟨v, d, s0, hv, h0, rfl⟩ := key j s hj
    have := h.sm s0 (List.mem_of_getElem? h0)
    unfold addS
    split
    · exact small_up (Nat.le_succ n) this
    · exact small_take (hf v hv) this
theorem CI.alike {A : Mk} (hA : A.Ok) {n m : Nat} {C D : Cv} (h : CI A n C) (g : CI A m D) : ∀ (j : Nat) s s', C.st[j]? = some s → D.st[j]? = some s' → alikeS s.2 s'.2 := fun j s s' h1 h2 => by
  have hlt : j < A.ms.length := by rw [← h.len]; exact (List.getElem?_eq_some_iff.1 h1).1
  obtain ⟨mm, hm⟩ : ∃ v, A.ms[j]? = some v := ⟨_, List.getElem?_eq_getElem hlt⟩
  obtain ⟨k, hk⟩ : ∃ v, A.ks[j]? = some v := ⟨_, List.getElem?_eq_getElem (by rw [hA.len]; exact hlt)⟩
  exact shp_alike (h.sh j mm k s hm hk h1) (g.sh j mm k s' hm hk h2)
theorem CI.merge {A : Mk} (hA : A.Ok) {n m : Nat} {C D : Cv} (h : CI A n C) (g : CI A m D) {st' : List (Nat × Sv)} (ha : Merged C.st D.st st') : CI A (n + m) (mrgC C D st') := by
  obtain ⟨a1, a2⟩ := ha
  have key : ∀ (j : Nat) s, st'[j]? = some s → ∃ s0 s1, C.st[j]? = some s0 ∧ D.st[j]? = some s1 ∧ s = mrg2 s0 s1 := fun j s hs => by
    have hlt : j < A.ms.length := by rw [← h.len, ← a1]; exact (List.getElem?_eq_some_iff.1 hs).1
    obtain ⟨s0, h0⟩ : ∃ s, C.st[j]? = some s := ⟨_, List.getElem?_eq_getElem (by rw [h.len]; exact hlt)⟩
    obtain ⟨s1, h1⟩ : ∃ s, D.st[j]? = some s := ⟨_, List.getElem?_eq_getElem (by rw [g.len]; exact hlt)⟩
    have := a2 j s0 s1 h0 h1
    rw [hs] at this
    exact ⟨s0, s1, h0, h1, Option.some.inj this⟩
  refine ⟨h.ms, h.ks, h.t, h.S, h.K, h.M, by show C.rows + D.rows = _; rw [h.rows, g.rows], a1.trans h.len, fun j mm k s e1 e2 e3 => ?_, fun s hs => ?_⟩
  · obtain ⟨s0, s1, h0, h1, rfl⟩ := key j s e3
    exact shp_mrg (h.sh j mm k s0 e1 e2 h0) (g.sh j mm k s1 e1 e2 h1)
  · obtain ⟨j, hj⟩ := at_mem hs
    obtain ⟨s0, s1, h0, h1, rfl⟩ := key j s hj
    exact small_mrg (h.alike hA g j s0 s1 h0 h1) (h.sm s0 (List.mem_of_getElem? h0)) (g.sm s1 (List.mem_of_getElem? h1))
/-- values that fit are short -/
theorem fits_fine {K : Int} {v : VV} (h : fitsV K v = true) (hv : v.inI) : v.fine := by
  refine ⟨?_, hv.1, hv.2⟩
  obtain ⟨k, n, s⟩ := v
  unfold fitsV VV.good goodV at h
  simp only [Bool.and_eq_true] at h
  obtain ⟨h1, _⟩ := h
  have nil : s.toList = [] → s.size ≤ 1000000 := fun e => by
    rw [Lib.toList_data] at e
    have : s.size = s.data.toList.length := Lib.size_eq s
    rw [this, e]; simp
  simp only
  split at h1
  · simp only [Bool.and_eq_true, beq_iff_eq] at h1; exact nil h1.2
  split at h1
  · simp only [beq_iff_eq] at h1; exact nil h1
  split at h1
  · simp only [Bool.and_eq_true, beq_iff_eq] at h1; exact nil h1.2
  split at h1
  · simp only [Bool.and_eq_true, decide_eq_true_eq] at h1; have := h1.1; omega
  split at h1
  · simp only [Bool.and_eq_true, beq_iff_eq] at h1; exact nil h1.2
  · cases h1
theorem fitsL_all {xs : List VV} {ks : List Int} (h : fitsL xs ks = true) (hl : xs.length ≤ ks.length) (hx : ∀ v ∈ xs, v.inI) : ∀ v ∈ xs, v.fine := fun v hv => by
  obtain ⟨j, hj⟩ := at_mem hv
  obtain ⟨k, hk⟩ : ∃ v, ks[j]? = some v := ⟨_, List.getElem?_eq_getElem (by have := (List.getElem?_eq_some_iff.1 hj).1; omega)⟩
  cases e : fitsV k v with
  | true => exact fits_fine e (hx v hv)
  | false => rw [fitsL_no hj hk e] at h; cases h
end Go.Proofs.YtlhpbfjelgmkeaaGreat
/- New where there is none, Add of a row of another length, and Copy. Conditions: as stated. -/
set_option maxRecDepth 100000
namespace Go.Proofs.YtlhpbfjelgmkeaaGreat
open Go.RowKit Go.Maps Go.Sort Go.Lib

set_option maxHeartbeats 1600000 in
theorem cnew_bad {w : World} {a1 a2 sa : Option Addr} {n1 n2 ns c1 c2 sc : Nat} {S : List (Nat × Nat)} (HSet : SetAt w sa ns sc S) (t K M : Int) (hbad : n2 ≠ n1 ∨ 16 < n1 ∨ goodB t S K M = false) :
    Calls Tryz.prog 9 #[.slice a1 n1 c1, .slice a2 n2 c2, setV t sa ns sc K M] w fun e w' => e = .returned (.pointer none) ∧ Below w.heap.size w w' := by
  have hb := below_c w (setO t sa ns sc K M)
  have KG := kgood_any (HSet.below hb) t K M
  have HB := Lib.hid hb
  obtain ⟨g, hg⟩ : ∃ g, goodB t S K M = g := ⟨_, rfl⟩
  rw [hg] at KG hbad
  have hC := set_cells (heap_alloc_new w (setO t sa ns sc K M))
  unfold setV setO at *
  clear hb HSet hg
  by_cases h1 : n2 = n1
  · subst h1
    by_cases h2 : 16 < n2
    · have t2 : (16 : Int) < (n2 : Int) := by omega
      clear hbad KG
      go_enter Tryz.func9, Tryz.ntmps9
      go_wp2_with fail
      go_ret
      exact ⟨rfl, HB.out⟩
    · have t2 : ¬ (16 : Int) < (n2 : Int) := by omega
      have hg0 : g = false := by
        rcases hbad with h | h | h
        · exact absurd rfl h
        · exact absurd h h2
        · exact h
      subst hg0
      clear hbad h2
      go_enter Tryz.func9, Tryz.ntmps9
      go_wp2_with fail
      refine KG.mono ?_
      rintro e w2 ⟨rfl, hb2⟩
      have F2 := HB.out.trans (hb2.mono HB.out.size)
      clear KG hb2 HB hC
      go_wp2_with fail
      go_ret
      exact ⟨rfl, F2⟩
  · have h1' : (n2 != n1) = true := by simpa using h1
    have h1'' : (n2 == n1) = false := by simpa using h1
    clear hbad KG
    go_enter Tryz.func9, Tryz.ntmps9
    go_wp2_with fail
    go_ret
    exact ⟨rfl, HB.out⟩
theorem cadd_len {w : World} {q : Nat} {L : Lay} {C : Cv} (h : w.heap[q]? = some (celO L C)) (ht : 1 ≤ C.t) {sa : Option Addr} {sc : Nat} (hsv : L.sv = .slice sa C.st.length sc) {va ia : Option Addr} {n c n2 c2 : Nat} (hn : n ≠ C.st.length) :
    Calls Tryz.prog 12 #[.pointer (some ⟨q, 0, none⟩), .slice va n c, .slice ia n2 c2] w fun e w' => e = .returned (.int .i64 2) ∧ w = w' := by
  have KM := cmade_yes h ht
  have c7 : w.cell? ⟨q, 7, none⟩ = some (.slice sa C.st.length sc) := by rw [cell_of_row _ _ _ _ _ _ h, ← hsv]; rfl
  obtain ⟨N, hN⟩ : ∃ N, C.st.length = N := ⟨_, rfl⟩
  rw [hN] at c7 hn
  have t1 : (n != N) = true := by simpa using hn
  have t2 : (n == N) = false := by simpa using hn
  clear h ht hsv hN
  go_enter Tryz.func12, Tryz.ntmps12
  go_wp2_with fail
  refine KM.mono ?_
  rintro e w1 ⟨rfl, rfl⟩
  clear KM
  go_wp2_with fail
  go_ret
  exact ⟨rfl, rfl⟩
set_option maxHeartbeats 3200000 in
theorem ccopy_at {w0 w : World} {E : List (Nat × Thing)} {i i3 q n : Nat} {L : Lay} {C : Cv} {A : Mk} (h : Side w0 (cellE i q L C ++ E) w) (hA : A.Ok) (hC : CI A n C) (hn : n ≤ 1000) (hcap : A.S.length ≤ L.c ∧ L.c ≤ maxLen) (hi : i + 100 ≤ i3 ∨ i3 + 100 ≤ i) (hE : tagsOff i3 E) :
    Calls Tryz.prog 20 #[.pointer (some ⟨q, 0, none⟩)] w fun e w' => ∃ q' L' C', e = .returned (.pointer (some ⟨q', 0, none⟩)) ∧ CI A n C' ∧ Hid (Side w0 (cellE i3 q' L' C' ++ (cellE i q L C ++ E)) w') := by
  have g0 : (i, OBox q (celO L C)) ∈ cellE i q L C ++ E := by unfold cellE; simp
  have g1 : (i + 1, RowT 25 2 L.mv C.ms.length (fl2 (C.ms.map meaC))) ∈ cellE i q L C ++ E := by unfold cellE; simp
  have g3 : (i + 3, RowT 3 1 L.kv C.ks.length (i64s C.ks)) ∈ cellE i q L C ++ E := by unfold cellE; simp
  have g4 : (i + 4, SeedT L.g C.S) ∈ cellE i q L C ++ E := by unfold cellE; simp
  have hq := h.heapO g0
  have KM := cmade_yes hq (by rw [hC.t]; exact hA.t1)
  obtain ⟨tn, htn, hgS⟩ := goodB_set hA.good
  have hlt : ∀ s ∈ A.S, s.1 < 18446744073709551616 ∧ s.2 < 18446744073709551616 := fun s hs => by have := hgS.seed s hs; omega
  have h16 := hA.l16
  have hS16 := hA.s16
  have hst16 : C.st.length ≤ 16 := by rw [hC.len]; exact h16
  have hE3 : tagsOff i3 (cellE i q L C ++ E) := off_cell hst16 (by omega) hE
  obtain ⟨T, hT⟩ := side_thing h g1
  obtain ⟨ma, mc, hmv, _⟩ := ownsRow_form hT.1
  obtain ⟨T2, hT2⟩ := side_thing h g3
  obtain ⟨ka, kc, hkv, _⟩ := ownsRow_form hT2.1
  rw [hC.ms] at hmv
  rw [hC.ks] at hkv
  have KN := fun (W : World) (hW : Side w0 (cellE i q L C ++ E) W) => cnew_any (E := cellE i q L C ++ E) hW i3 hE3 (ms := A.ms) (ks := A.ks) (S := A.S) (sa := some ⟨L.g, 0, none⟩) (ns := A.S.length) (sc := L.c)
    (a1 := ma) (n1 := A.ms.length) (c1 := mc) (a2 := ka) (n2 := A.ks.length) (c2 := kc)
    (fun V hV => by
      obtain ⟨T, hT⟩ := side_thing hV g1
      have h1 := holds2_own hT.1 (by simp)
      rw [hC.ms, hmv] at h1
      exact h1)
    (fun V hV => by
      obtain ⟨T, hT⟩ := side_thing hV g3
      have h1 : V.ownsRow 0 3 1 L.kv (i64s C.ks).length (i64s C.ks) := by rw [i64s_len]; exact hT.1
      have h2 := Holds.of_row h1
      rw [hC.ks, hkv] at h2
      exact h2)
    (fun V hV => by
      obtain ⟨T, hT⟩ := side_thing hV g4
      have h3 := hT.2.2
      rw [hC.S] at h3
      exact ⟨rfl, hcap, hlt, fun _ => ⟨_, rfl, h3⟩⟩)
    A.t A.K A.M hA.good hA.len h16 (fun j m k e1 e2 => ⟨hA.all j m k e1 e2, hA.sz j m e1⟩)
  have HC9 := Lib.hid (fun (V : World) (hV : Side w0 (cellE i q L C ++ E) V) => (show V.cell? ⟨q, 0, none⟩ = some (.slice ma A.ms.length mc) ∧ V.cell? ⟨q, 1, none⟩ = some (.slice ka A.ks.length kc) ∧ V.cell? ⟨q, 2, none⟩ = some (.int .i64 (A.t : Int)) ∧ V.cell? ⟨q, 3, none⟩ = some (.slice (some ⟨L.g, 0, none⟩) A.S.length L.c) ∧ V.cell? ⟨q, 4, none⟩ = some (.int .i64 A.K) ∧ V.cell? ⟨q, 5, none⟩ = some (.int .i64 A.M) from by
    have e := hV.heapO g0
    have e2 : celO L C = .cells #[.slice ma A.ms.length mc, .slice ka A.ks.length kc, .int .i64 (A.t : Int), .slice (some ⟨L.g, 0, none⟩) A.S.length L.c, .int .i64 A.K, .int .i64 A.M, .int .i64 (C.rows : Int), L.sv] 92 (0, 0) := by unfold celO; rw [hmv, hkv, hC.t, hC.S, hC.K, hC.M]
    rw [e2] at e
    exact ⟨by rw [cell_of_row _ _ _ _ _ _ e]; rfl, by rw [cell_of_row _ _ _ _ _ _ e]; rfl, by rw [cell_of_row _ _ _ _ _ _ e]; rfl, by rw [cell_of_row _ _ _ _ _ _ e]; rfl, by rw [cell_of_row _ _ _ _ _ _ e]; rfl, by rw [cell_of_row _ _ _ _ _ _ e]; rfl⟩))
  have C9 := HC9.out _ h.drew
  have KN1 := KN _ h.drew
  unfold setV at KN1
  unfold NewP at KN1
  have HMG := Lib.hid (fun (W : World) (q' : Nat) (L' : Lay) (C' : Cv) (hN : NewC A.ms A.ks A.t A.S A.K A.M A.ms.length C') (hS : Side w0 (cellE i3 q' L' C' ++ (cellE i q L C ++ E)) W) => (show Calls Tryz.prog 13 #[.pointer (some ⟨q', 0, none⟩), .pointer (some ⟨q, 0, none⟩)] W fun e w' => e = .returned (.int .i64 0) ∧ ∃ C2, CI A n C2 ∧ Hid (Side w0 (cellE i3 q' L' C2 ++ (cellE i q L C ++ E)) w') from by
    have hI := ci_new hA hN
    refine (cmerge_two (n := A.ms.length) (m1 := 0) (m2 := n) hS hE (by omega) (by rw [hC.ms, hI.ms]) (by rw [hC.ks, hI.ks]) (by rw [hC.t, hI.t]) (by rw [hC.S, hI.S]) (by rw [hC.K, hI.K]) (by rw [hC.M, hI.M]) (by rw [hI.ms]; exact h16) (by rw [hI.ks, hA.len]; exact h16) (by rw [hI.S]; exact hS16) h16 hI.len hC.len (by rw [hI.t]; exact hA.t1) (by rw [hI.rows]; decide) (by rw [hC.rows]; omega) (by omega) (hI.alike hA hC) hI.sm hC.sm).mono ?_
    rintro e w' ⟨rfl, st', hm, _, hS'⟩
    have := hI.merge hA hC hm
    rw [Nat.zero_add] at this
    exact ⟨rfl, _, this, hS'⟩))
  obtain ⟨P, hP⟩ : ∃ P : Ending → World → Prop, (fun e w' => ∃ q' L' C', e = .returned (.pointer (some ⟨q', 0, none⟩)) ∧ CI A n C' ∧ Hid (Side w0 (cellE i3 q' L' C' ++ (cellE i q L C ++ E)) w')) = P := ⟨_, rfl⟩
  rw [hP]
  obtain ⟨G, hG⟩ : ∃ G : World → Prop, (fun V => Side w0 (cellE i q L C ++ E) V) = G := ⟨_, rfl⟩
  have KN2 : Calls Tryz.prog 9 #[.slice ma A.ms.length mc, .slice ka A.ks.length kc, .agg #[.int .i64 (A.t : Int), .slice (some ⟨L.g, 0, none⟩) A.S.length L.c, .int .i64 A.K, .int .i64 A.M]] w.drew fun e w' => ∃ q', e = .returned (.pointer (some ⟨q', 0, none⟩)) ∧ G w' ∧ Hid (Calls Tryz.prog 13 #[.pointer (some ⟨q', 0, none⟩), .pointer (some ⟨q, 0, none⟩)] w' fun e w'' => e = .returned (.int .i64 0) ∧ P (.returned (.pointer (some ⟨q', 0, none⟩))) w'') := by
    refine KN1.mono ?_
    rintro e w' ⟨q', L', C', rfl, hN, S2⟩
    refine ⟨q', rfl, by rw [← hG]; exact S2.out.sub (fun x hx => List.mem_append_right _ hx), Lib.hid ?_⟩
    refine (HMG.out w' q' L' C' hN S2.out).mono ?_
    rintro e w'' ⟨rfl, C2, h1, h2⟩
    rw [← hP]
    exact ⟨rfl, q', L', C2, rfl, h1, h2⟩
  have HC9' : ∀ V, G V → _ := fun V hV => HC9.out V (by rw [← hG] at hV; exact hV)
  obtain ⟨n1, hn1⟩ : ∃ n1, A.ms.length = n1 := ⟨_, rfl⟩
  obtain ⟨n2, hn2⟩ : ∃ n2, A.ks.length = n2 := ⟨_, rfl⟩
  obtain ⟨n3, hn3⟩ : ∃ n3, A.S.length = n3 := ⟨_, rfl⟩
  obtain ⟨tt, htt⟩ : ∃ tt : Int, (A.t : Int) = tt := ⟨_, rfl⟩
  obtain ⟨kk, hkk⟩ : ∃ x, A.K = x := ⟨_, rfl⟩
  obtain ⟨mm, hmm⟩ : ∃ x, A.M = x := ⟨_, rfl⟩
  obtain ⟨lg, hlg⟩ : ∃ x, L.g = x := ⟨_, rfl⟩
  obtain ⟨lc, hlc⟩ : ∃ x, L.c = x := ⟨_, rfl⟩
  rw [hn1, hn2, hn3, htt, hkk, hmm, hlg, hlc] at C9 KN2
  rw [hn1, hn2, hn3, htt, hkk, hmm, hlg, hlc] at HC9'
  replace HC9 := Lib.hid HC9'
  clear HC9' h g0 g1 g3 g4 hq hgS hlt h16 hS16 hst16 hE3 KN KN1 hT hT2 hmv hkv hE hcap hi hP htn HMG hG hn1 hn2 hn3 htt hkk hmm hlg hlc hA hC hn
  go_enter Tryz.func20, Tryz.ntmps20
  go_wp2_with fail
  refine KM.mono ?_
  rintro e w1 ⟨rfl, rfl⟩
  clear KM
  go_upto_region 3 with (fail)
  refine wp_region_mix (fun V => V.cell? ⟨q, 0, none⟩ = some (.slice ma n1 mc) ∧ V.cell? ⟨q, 1, none⟩ = some (.slice ka n2 kc) ∧ V.cell? ⟨q, 2, none⟩ = some (.int .i64 tt) ∧ V.cell? ⟨q, 3, none⟩ = some (.slice (some ⟨lg, 0, none⟩) n3 lc) ∧ V.cell? ⟨q, 4, none⟩ = some (.int .i64 kk) ∧ V.cell? ⟨q, 5, none⟩ = some (.int .i64 mm)) 14 [(true, 0), (true, 1), (true, 2), (true, 3), (true, 4), (true, 5), (true, 6), (true, 7), (true, 8), (true, 9), (true, 10), (true, 11), (false, 12), (true, 13)] (by kernel_rfl) (by decide +kernel) rfl (by decide +kernel) C9 ?_
  iterate 12
    refine wpMix_take (v := ?_) rfl rfl ?_ ?_
    rotate_left
    · (intro W hW; (try dsimp only at hW); go_simp) <;> with_reducible rfl
    simp only [Act.put, List.setIfInBounds_toArray, List.set_cons_zero, List.set_cons_succ]
  refine wpMix_run rfl ?_
  intro K' hK'
  go_wp2_with fail
  refine KN2.mono ?_
  rintro e w2 ⟨q', rfl, hg, KG⟩
  have C10 := HC9.out w2 hg
  clear KN2 C9 HC9 hg
  go_wp2_with fail
  refine hK'.out _ _ (fun _ => C10) ?_
  clear hK' K' C10
  iterate 1
    refine wpMix_take (v := ?_) rfl rfl ?_ ?_
    rotate_left
    · (intro W hW; (try dsimp only at hW); go_simp) <;> with_reducible rfl
    simp only [Act.put, List.setIfInBounds_toArray, List.set_cons_zero, List.set_cons_succ]
  refine wpMix_nil ?_
  go_wp2_with fail
  refine KG.out.mono ?_
  rintro e w3 ⟨rfl, F3⟩
  clear KG
  go_wp2_with fail
  exact F3
end Go.Proofs.YtlhpbfjelgmkeaaGreat
/- Arguments opened: texts, slices of texts, columns, measures, tables and rollups that came in, and how great their parts may be. Conditions: as stated. -/
set_option maxRecDepth 100000
namespace Go.Proofs.YtlhpbfjelgmkeaaGreat
open Go.ChangeShapes Go.WideShapes Go.ChangeAt Go.RowKit Go.Maps Go.Sort Go.Deep Go.Joins Go.Lib

/-- a bound on the parts of a datum -/
structure LimOk {H : Type} (Lim : TypeId → DataW H → Prop) (M : Nat) : Prop where
  agg : ∀ (t : TypeId) (fs : Array Field) (ds : List (DataW H)) (j : Nat) (f : Field) (d : DataW H), Tryz.prog.underlying t = some (.struct fs) → Lim t (.agg ds) → fs[j]? = some f → ds[j]? = some d → Lim f.type d
  slc : ∀ (t e : TypeId) (es sp : List (DataW H)), Tryz.prog.underlying t = some (.slice e) → 0 < Tryz.prog.bytesOf e → Lim t (.slice es sp) → es.length ≤ M ∧ ∀ d ∈ es, Lim e d
  str : ∀ (t : TypeId) (b : List UInt8), Lim t (.lit (.string b)) → b.length ≤ M
section
variable {H : Type} {enc : TypeId × Value → H} {w : World} {Lim : TypeId → DataW H → Prop} {M : Nat}
abbrev Tr (enc : TypeId × Value → H) (w : World) (fuel : Nat) (t : TypeId) (cs : List Value) (y : DataW H × List MemPlace) : Prop := DataW.trod enc Tryz.prog w 0 (fun _ => true) true fuel t cs = some y
theorem str_of (L : LimOk Lim M) {fuel : Nat} {v : Value} {y : DataW H × List MemPlace} (h : Tr enc w fuel 9 [v] y) (hl : Lim 9 y.1) : ∃ s : ByteArray, v = .string s ∧ s.size ≤ M := by
  obtain ⟨s, e, ey, _⟩ := DataW.trod_string Tryz.underlying9 h
  simp only [List.cons.injEq, and_true] at e
  subst e ey
  have := L.str _ _ hl
  rw [show s.data.toList.length = s.size from (Lib.size_eq s).symm] at this
  exact ⟨s, rfl, this⟩
theorem int_of {fuel : Nat} {v : Value} {y : DataW H × List MemPlace} (h : Tr enc w fuel 3 [v] y) : ∃ n : Int, v = .int .i64 n ∧ -9223372036854775808 ≤ n ∧ n < 9223372036854775808 := by
  obtain ⟨n, e, _, hw⟩ := DataW.trod_int Tryz.underlying3 h
  simp only [List.cons.injEq, and_true] at e
  subst e
  exact ⟨n, rfl, bounds_of_i64 hw⟩
theorem two_list {cs : List Value} (h : cs.length = 2) : ∃ a b, cs = [a, b] := by
  match cs, h with
  | [a, b], _ => exact ⟨a, b, rfl⟩
/-- the elements of a slice that came in -/
theorem els_of (L : LimOk Lim M) {t e : TypeId} {fuel : Nat} {v : Value} {y : DataW H × List MemPlace} (ht : Tryz.prog.underlying t = some (.slice e)) (hb : 0 < Tryz.prog.bytesOf e) (h : Tr enc w fuel t [v] y) (hl : Lim t y.1) :
    v = .slice none 0 0 ∨ ∃ (a : Addr) (n c : Nat), v = .slice (some a) n c ∧ n ≤ c ∧ n ≤ M ∧ ∀ i, i < n → ∃ (m : Nat) (cs : List Value) (z : DataW H × List MemPlace), Tr enc w m e cs z ∧ Lim e z.1 ∧ ∀ j u, cs[j]? = some u → w.cell? (a.add (i * Tryz.prog.cellsOf e + j)) = some u := by
  rcases open_slice ht h with ⟨h0, _⟩ | ⟨a, len, cap, m, n, D, Pl, hcs, _, hc, _, hm, rfl, hi⟩
  · exact .inl (by simpa using h0)
  · simp only [List.cons.injEq, and_true] at hcs
    obtain ⟨l1, l2⟩ := L.slc t e _ _ ht hb hl
    simp at l1
    refine .inr ⟨a, len, cap, hcs, hc, l1, fun i hil => ?_⟩
    obtain ⟨cs, hcell, htr⟩ := hi i (by rw [hm]; simp; omega)
    refine ⟨n, cs, _, htr, l2 _ (List.mem_map.2 ⟨i, List.mem_range.2 hil, rfl⟩), fun j u hu => ?_⟩
    obtain ⟨_, hlen, hat⟩ := World.cells?_some hcell
    have hj : j < Tryz.prog.cellsOf e := by rw [← hlen]; exact (List.getElem?_eq_some_iff.1 hu).1
    rw [← Go.Deep.add_add, hat j hj, hu]
/-- a list out of places -/
theorem list_of {α : Type} {n : Nat} {P : Nat → α → Prop} (h : ∀ i, i < n → ∃ x, P i x) : ∃ l : List α, l.length = n ∧ ∀ i x, l[i]? = some x → P i x := by
  have h' : ∀ i : Nat, ∃ x : Option α, i < n → ∃ y, x = some y ∧ P i y := fun i => by
    by_cases hi : i < n
    · obtain ⟨x, hx⟩ := h i hi
      exact ⟨some x, fun _ => ⟨x, rfl, hx⟩⟩
    · exact ⟨none, fun g => absurd g hi⟩
  obtain ⟨f, hf⟩ := Classical.skolem.1 h'
  refine ⟨(List.range n).filterMap f, ?_, ?_⟩
  · have key : ∀ k, k ≤ n → ((List.range k).filterMap f).length = k := by
      intro k
      induction k with
      | zero => simp
      | succ k ih =>
        intro hk
        obtain ⟨y, hy, _⟩ := hf k (by omega)
        rw [List.range_succ, List.filterMap_append, List.length_append, ih (by omega)]
        simp [hy]
    exact key n (Nat.le_refl _)
  · have key : ∀ k, k ≤ n → ∀ i x, ((List.range k).filterMap f)[i]? = some x → P i x := by
      intro k
      induction k with
      | zero => intro _ i x hx; simp at hx
      | succ k ih =>
        intro hk i x hx
        obtain ⟨y, hy, hp⟩ := hf k (by omega)
        have hl : ((List.range k).filterMap f).length = k := by
          have key2 : ∀ k, k ≤ n → ((List.range k).filterMap f).length = k := by
            intro k
            induction k with
            | zero => simp
            | succ k ih =>
              intro hk
              obtain ⟨y, hy, _⟩ := hf k (by omega)
              rw [List.range_succ, List.filterMap_append, List.length_append, ih (by omega)]
              simp [hy]
          exact key2 k (by omega)
        rw [List.range_succ, List.filterMap_append] at hx
        rcases Nat.lt_or_ge i k with g | g
        · rw [List.getElem?_append_left (by omega)] at hx
          exact ih (by omega) i x hx
        · rw [List.getElem?_append_right (by omega), hl] at hx
          have e : [k].filterMap f = [y] := by simp [hy]
          rw [e] at hx
          have hik : i - k = 0 := by
            rcases Nat.eq_zero_or_pos (i - k) with g2 | g2
            · exact g2
            · rw [List.getElem?_eq_none (by simp; omega)] at hx; cases hx
          rw [hik] at hx
          simp at hx
          subst hx
          have : i = k := by omega
          subst this
          exact hp
    exact key n (Nat.le_refl _)
theorem cells_col : Tryz.prog.cellsOf 130 = 2 := by kernel_rfl
theorem cells_mea : Tryz.prog.cellsOf 25 = 2 := by kernel_rfl
theorem cells_str : Tryz.prog.cellsOf 9 = 1 := by kernel_rfl
theorem cells_int : Tryz.prog.cellsOf 3 = 1 := by kernel_rfl
theorem cells_tab : Tryz.prog.cellsOf 63 = 2 := by kernel_rfl
theorem cells_rol : Tryz.prog.cellsOf 60 = 4 := by kernel_rfl
theorem cells_cols : Tryz.prog.cellsOf 61 = 1 := by kernel_rfl
theorem cells_meas : Tryz.prog.cellsOf 26 = 1 := by kernel_rfl
theorem cells_strs : Tryz.prog.cellsOf 58 = 1 := by kernel_rfl
theorem col_of (L : LimOk Lim M) {fuel : Nat} {cs : List Value} {y : DataW H × List MemPlace} (h : Tr enc w fuel 130 cs y) (hl : Lim 130 y.1) : ∃ c : ByteArray × Int, cs = [.string c.1, .int .i64 c.2] ∧ c.1.size ≤ M ∧ -9223372036854775808 ≤ c.2 ∧ c.2 < 9223372036854775808 := by
  obtain ⟨xs, n, _, ex, hlen, hxl, hf⟩ := DataW.trod_struct Tryz.underlying130 h
  rw [cells_col] at hlen
  obtain ⟨u0, u1, rfl⟩ := two_list hlen
  have f0 : DataW.trod enc Tryz.prog w 0 (fun _ => true) true n 9 (([u0, u1].drop 0).take (Tryz.prog.cellsOf 9)) = xs[0]? := hf 0 _ rfl
  have f1 : DataW.trod enc Tryz.prog w 0 (fun _ => true) true n 3 (([u0, u1].drop 1).take (Tryz.prog.cellsOf 3)) = xs[1]? := hf 1 _ rfl
  rw [cells_str] at f0
  rw [cells_int] at f1
  obtain ⟨z0, x0⟩ : ∃ z, xs[0]? = some z := ⟨_, List.getElem?_eq_getElem (l := xs) (i := 0) (by rw [hxl]; decide)⟩
  obtain ⟨z1, x1⟩ : ∃ z, xs[1]? = some z := ⟨_, List.getElem?_eq_getElem (l := xs) (i := 1) (by rw [hxl]; decide)⟩
  rw [x0] at f0
  rw [x1] at f1
  rw [ex] at hl
  have l0 := L.agg _ _ _ 0 _ z0.1 Tryz.underlying130 hl rfl (by rw [List.getElem?_map, x0]; rfl)
  obtain ⟨s, rfl, hs⟩ := str_of (enc := enc) (w := w) L f0 l0
  obtain ⟨z, rfl, hz⟩ := int_of (enc := enc) (w := w) f1
  exact ⟨(s, z), rfl, hs, hz⟩
theorem mea_of (L : LimOk Lim M) {fuel : Nat} {cs : List Value} {y : DataW H × List MemPlace} (h : Tr enc w fuel 25 cs y) (hl : Lim 25 y.1) : ∃ c : Int × ByteArray, cs = [.int .i64 c.1, .string c.2] ∧ c.2.size ≤ M ∧ -9223372036854775808 ≤ c.1 ∧ c.1 < 9223372036854775808 := by
  obtain ⟨xs, n, _, ex, hlen, hxl, hf⟩ := DataW.trod_struct Tryz.underlying25 h
  rw [cells_mea] at hlen
  obtain ⟨u0, u1, rfl⟩ := two_list hlen
  have f0 : DataW.trod enc Tryz.prog w 0 (fun _ => true) true n 3 (([u0, u1].drop 0).take (Tryz.prog.cellsOf 3)) = xs[0]? := hf 0 _ rfl
  have f1 : DataW.trod enc Tryz.prog w 0 (fun _ => true) true n 9 (([u0, u1].drop 1).take (Tryz.prog.cellsOf 9)) = xs[1]? := hf 1 _ rfl
  rw [cells_int] at f0
  rw [cells_str] at f1
  obtain ⟨z0, x0⟩ : ∃ z, xs[0]? = some z := ⟨_, List.getElem?_eq_getElem (l := xs) (i := 0) (by rw [hxl]; decide)⟩
  obtain ⟨z1, x1⟩ : ∃ z, xs[1]? = some z := ⟨_, List.getElem?_eq_getElem (l := xs) (i := 1) (by rw [hxl]; decide)⟩
  rw [x0] at f0
  rw [x1] at f1
  rw [ex] at hl
  have l1 := L.agg _ _ _ 1 _ z1.1 Tryz.underlying25 hl rfl (by rw [List.getElem?_map, x1]; rfl)
  obtain ⟨z, rfl, hz⟩ := int_of (enc := enc) (w := w) f0
  obtain ⟨s, rfl, hs⟩ := str_of (enc := enc) (w := w) L f1 l1
  exact ⟨(z, s), rfl, hs, hz⟩
theorem cell_off {a : Addr} {k i j : Nat} (hj : 0 < j) {u : Value} (h : w.cell? (a.add (i * k + j)) = some u) : w.cell? ⟨(a.add (i * k)).block, (a.add (i * k)).off + j, none⟩ = some u := by
  rw [← add_offn a (i * k) j hj]; exact h
theorem cols_of (L : LimOk Lim M) {fuel : Nat} {v : Value} {y : DataW H × List MemPlace} (h : Tr enc w fuel 61 [v] y) (hl : Lim 61 y.1) :
    ∃ l : List (ByteArray × Int), Holds2 w v (l.map colC) ∧ l.length ≤ M ∧ ∀ c ∈ l, c.1.size ≤ M ∧ -9223372036854775808 ≤ c.2 ∧ c.2 < 9223372036854775808 := by
  rcases els_of (enc := enc) L Tryz.underlying61 (of_decide_eq_true (by kernel_rfl)) h hl with rfl | ⟨a, n, c, rfl, hc, hM, hi⟩
  · exact ⟨[], ⟨none, 0, rfl, Nat.le_refl _, .inl ⟨rfl, rfl, rfl⟩⟩, Nat.zero_le _, fun c hc => by cases hc⟩
  obtain ⟨l, hll, hp⟩ := list_of (P := fun i (c : ByteArray × Int) => (w.cell? (a.add (i * 2)) = some (.string c.1) ∧ w.cell? ⟨(a.add (i * 2)).block, (a.add (i * 2)).off + 1, none⟩ = some (.int .i64 c.2)) ∧ c.1.size ≤ M ∧ -9223372036854775808 ≤ c.2 ∧ c.2 < 9223372036854775808) (fun i hil => by
    obtain ⟨m, cs, z, ht, hlz, hcell⟩ := hi i hil
    obtain ⟨c, rfl, h1⟩ := col_of (enc := enc) (w := w) L ht hlz
    rw [cells_col] at hcell
    exact ⟨c, ⟨by simpa using hcell 0 _ rfl, cell_off (by omega) (hcell 1 _ rfl)⟩, h1⟩)
  refine ⟨l, ⟨some a, c, by rw [List.length_map, hll], by rw [List.length_map, hll]; exact hc, .inr ⟨a, rfl, fun i x hx => ?_⟩⟩, by omega, fun c hc => ?_⟩
  · rw [List.getElem?_map] at hx
    obtain ⟨c, hc, rfl⟩ := Option.map_eq_some_iff.1 hx
    exact (hp i c hc).1
  · obtain ⟨i, hic⟩ := List.mem_iff_getElem?.1 hc
    exact (hp i c hic).2
theorem meas_of (L : LimOk Lim M) {fuel : Nat} {v : Value} {y : DataW H × List MemPlace} (h : Tr enc w fuel 26 [v] y) (hl : Lim 26 y.1) :
    ∃ l : List (Int × ByteArray), Holds2 w v (l.map meaC) ∧ l.length ≤ M ∧ ∀ c ∈ l, c.2.size ≤ M ∧ -9223372036854775808 ≤ c.1 ∧ c.1 < 9223372036854775808 := by
  rcases els_of (enc := enc) L Tryz.underlying26 (of_decide_eq_true (by kernel_rfl)) h hl with rfl | ⟨a, n, c, rfl, hc, hM, hi⟩
  · exact ⟨[], ⟨none, 0, rfl, Nat.le_refl _, .inl ⟨rfl, rfl, rfl⟩⟩, Nat.zero_le _, fun c hc => by cases hc⟩
  obtain ⟨l, hll, hp⟩ := list_of (P := fun i (c : Int × ByteArray) => (w.cell? (a.add (i * 2)) = some (.int .i64 c.1) ∧ w.cell? ⟨(a.add (i * 2)).block, (a.add (i * 2)).off + 1, none⟩ = some (.string c.2)) ∧ c.2.size ≤ M ∧ -9223372036854775808 ≤ c.1 ∧ c.1 < 9223372036854775808) (fun i hil => by
    obtain ⟨m, cs, z, ht, hlz, hcell⟩ := hi i hil
    obtain ⟨c, rfl, h1⟩ := mea_of (enc := enc) (w := w) L ht hlz
    rw [cells_mea] at hcell
    exact ⟨c, ⟨by simpa using hcell 0 _ rfl, cell_off (by omega) (hcell 1 _ rfl)⟩, h1⟩)
  refine ⟨l, ⟨some a, c, by rw [List.length_map, hll], by rw [List.length_map, hll]; exact hc, .inr ⟨a, rfl, fun i x hx => ?_⟩⟩, by omega, fun c hc => ?_⟩
  · rw [List.getElem?_map] at hx
    obtain ⟨c, hc, rfl⟩ := Option.map_eq_some_iff.1 hx
    exact (hp i c hc).1
  · obtain ⟨i, hic⟩ := List.mem_iff_getElem?.1 hc
    exact (hp i c hic).2
theorem strs_of (L : LimOk Lim M) {fuel : Nat} {v : Value} {y : DataW H × List MemPlace} (h : Tr enc w fuel 58 [v] y) (hl : Lim 58 y.1) :
    ∃ l : List ByteArray, Holds w v (strs l) ∧ l.length ≤ M ∧ ∀ s ∈ l, s.size ≤ M := by
  rcases els_of (enc := enc) L Tryz.underlying58 (of_decide_eq_true (by kernel_rfl)) h hl with rfl | ⟨a, n, c, rfl, hc, hM, hi⟩
  · exact ⟨[], Holds.nil w, Nat.zero_le _, fun c hc => by cases hc⟩
  obtain ⟨l, hll, hp⟩ := list_of (P := fun i (s : ByteArray) => w.cell? (a.add i) = some (.string s) ∧ s.size ≤ M) (fun i hil => by
    obtain ⟨m, cs, z, ht, hlz, hcell⟩ := hi i hil
    obtain ⟨s, ecs, _, _⟩ := DataW.trod_string Tryz.underlying9 ht
    subst ecs
    obtain ⟨s', e, hs⟩ := str_of (enc := enc) (w := w) L ht hlz
    cases e
    rw [cells_str] at hcell
    exact ⟨s, by simpa using hcell 0 _ rfl, hs⟩)
  refine ⟨l, ⟨some a, c, by rw [strs_len, hll], by rw [strs_len, hll]; exact hc, .inr ⟨a, rfl, fun i u hu => ?_⟩⟩, by omega, fun c hc => ?_⟩
  · unfold strs at hu
    rw [List.getElem?_map] at hu
    obtain ⟨s, hs, rfl⟩ := Option.map_eq_some_iff.1 hu
    exact (hp i s hs).1
  · obtain ⟨i, hic⟩ := List.mem_iff_getElem?.1 hc
    exact (hp i c hic).2
theorem four_list {cs : List Value} (h : cs.length = 4) : ∃ a b c d, cs = [a, b, c, d] := by
  match cs, h with
  | [a, b, c, d], _ => exact ⟨a, b, c, d, rfl⟩
theorem tab_of (L : LimOk Lim M) {fuel : Nat} {cs : List Value} {y : DataW H × List MemPlace} (h : Tr enc w fuel 63 cs y) (hl : Lim 63 y.1) :
    ∃ (tn : ByteArray) (tc : List (ByteArray × Int)) (a : Value), cs = [.string tn, a] ∧ Holds2 w a (tc.map colC) ∧ tn.size ≤ M ∧ tc.length ≤ M ∧ ∀ c ∈ tc, c.1.size ≤ M ∧ -9223372036854775808 ≤ c.2 ∧ c.2 < 9223372036854775808 := by
  obtain ⟨xs, n, _, ex, hlen, hxl, hf⟩ := DataW.trod_struct Tryz.underlying63 h
  rw [cells_tab] at hlen
  obtain ⟨u0, u1, rfl⟩ := two_list hlen
  have f0 : DataW.trod enc Tryz.prog w 0 (fun _ => true) true n 9 (([u0, u1].drop 0).take (Tryz.prog.cellsOf 9)) = xs[0]? := hf 0 _ rfl
  have f1 : DataW.trod enc Tryz.prog w 0 (fun _ => true) true n 61 (([u0, u1].drop 1).take (Tryz.prog.cellsOf 61)) = xs[1]? := hf 1 _ rfl
  rw [cells_str] at f0
  rw [cells_cols] at f1
  rw [ex] at hl
  obtain ⟨z0, x0⟩ : ∃ z, xs[0]? = some z := ⟨_, List.getElem?_eq_getElem (l := xs) (i := 0) (by rw [hxl]; decide)⟩
  rw [x0] at f0
  have l0 := L.agg _ _ _ 0 _ z0.1 Tryz.underlying63 hl rfl (by rw [List.getElem?_map, x0]; rfl)
  obtain ⟨z1, x1⟩ : ∃ z, xs[1]? = some z := ⟨_, List.getElem?_eq_getElem (l := xs) (i := 1) (by rw [hxl]; decide)⟩
  rw [x1] at f1
  have l1 := L.agg _ _ _ 1 _ z1.1 Tryz.underlying63 hl rfl (by rw [List.getElem?_map, x1]; rfl)
  obtain ⟨tn, rfl, hs⟩ := str_of (enc := enc) (w := w) L f0 l0
  obtain ⟨tc, g1, g2, g3⟩ := cols_of (enc := enc) (w := w) L f1 l1
  exact ⟨tn, tc, u1, rfl, g1, hs, g2, g3⟩
theorem rol_of (L : LimOk Lim M) {fuel : Nat} {cs : List Value} {y : DataW H × List MemPlace} (h : Tr enc w fuel 60 cs y) (hl : Lim 60 y.1) :
    ∃ (rn rt : ByteArray) (rd : List ByteArray) (rm : List (Int × ByteArray)) (b c : Value), cs = [.string rn, .string rt, b, c] ∧ Holds w b (strs rd) ∧ Holds2 w c (rm.map meaC) ∧ rn.size ≤ M ∧ rt.size ≤ M ∧ (rd.length ≤ M ∧ ∀ s ∈ rd, s.size ≤ M) ∧ rm.length ≤ M ∧ ∀ c ∈ rm, c.2.size ≤ M ∧ -9223372036854775808 ≤ c.1 ∧ c.1 < 9223372036854775808 := by
  obtain ⟨xs, n, _, ex, hlen, hxl, hf⟩ := DataW.trod_struct Tryz.underlying60 h
  rw [cells_rol] at hlen
  obtain ⟨u0, u1, u2, u3, rfl⟩ := four_list hlen
  have f0 : DataW.trod enc Tryz.prog w 0 (fun _ => true) true n 9 (([u0, u1, u2, u3].drop 0).take (Tryz.prog.cellsOf 9)) = xs[0]? := hf 0 _ rfl
  have f1 : DataW.trod enc Tryz.prog w 0 (fun _ => true) true n 9 (([u0, u1, u2, u3].drop 1).take (Tryz.prog.cellsOf 9)) = xs[1]? := hf 1 _ rfl
  have f2 : DataW.trod enc Tryz.prog w 0 (fun _ => true) true n 58 (([u0, u1, u2, u3].drop 2).take (Tryz.prog.cellsOf 58)) = xs[2]? := hf 2 _ rfl
  have f3 : DataW.trod enc Tryz.prog w 0 (fun _ => true) true n 26 (([u0, u1, u2, u3].drop 3).take (Tryz.prog.cellsOf 26)) = xs[3]? := hf 3 _ rfl
  rw [cells_str] at f0
  rw [cells_str] at f1
  rw [cells_strs] at f2
  rw [cells_meas] at f3
  rw [ex] at hl
  obtain ⟨z0, x0⟩ : ∃ z, xs[0]? = some z := ⟨_, List.getElem?_eq_getElem (l := xs) (i := 0) (by rw [hxl]; decide)⟩
  rw [x0] at f0
  have l0 := L.agg _ _ _ 0 _ z0.1 Tryz.underlying60 hl rfl (by rw [List.getElem?_map, x0]; rfl)
  obtain ⟨z1, x1⟩ : ∃ z, xs[1]? = some z := ⟨_, List.getElem?_eq_getElem (l := xs) (i := 1) (by rw [hxl]; decide)⟩
  rw [x1] at f1
  have l1 := L.agg _ _ _ 1 _ z1.1 Tryz.underlying60 hl rfl (by rw [List.getElem?_map, x1]; rfl)
  obtain ⟨z2, x2⟩ : ∃ z, xs[2]? = some z := ⟨_, List.getElem?_eq_getElem (l := xs) (i := 2) (by rw [hxl]; decide)⟩
  rw [x2] at f2
  have l2 := L.agg _ _ _ 2 _ z2.1 Tryz.underlying60 hl rfl (by rw [List.getElem?_map, x2]; rfl)
  obtain ⟨z3, x3⟩ : ∃ z, xs[3]? = some z := ⟨_, List.getElem?_eq_getElem (l := xs) (i := 3) (by rw [hxl]; decide)⟩
  rw [x3] at f3
  have l3 := L.agg _ _ _ 3 _ z3.1 Tryz.underlying60 hl rfl (by rw [List.getElem?_map, x3]; rfl)
  obtain ⟨rn, rfl, hs⟩ := str_of (enc := enc) (w := w) L f0 l0
  obtain ⟨rt, rfl, hs2⟩ := str_of (enc := enc) (w := w) L f1 l1
  obtain ⟨rd, g1, g2, g3⟩ := strs_of (enc := enc) (w := w) L f2 l2
  obtain ⟨rm, k1, k2, k3⟩ := meas_of (enc := enc) (w := w) L f3 l3
  exact ⟨rn, rt, rd, rm, u2, u3, rfl, g1, k1, hs, hs2, ⟨g2, g3⟩, k2, k3⟩
end
abbrev LimW (H : Type) : TypeId → DataW H → Prop := fun t d => ∀ n ∈ DataW.weights Tryz.prog t d, n ≤ 140737488355328
theorem weights_all {H : Type} {e : TypeId} {d : DataW H} : ∀ {l : List (DataW H)}, d ∈ l → ∀ n ∈ DataW.weights Tryz.prog e d, n ∈ DataW.weightsAll Tryz.prog e l
  | [], h, _, _ => by cases h
  | x :: r, h, n, hn => by
    simp only [DataW.weightsAll, List.mem_append]
    rcases List.mem_cons.1 h with rfl | h
    · exact .inl hn
    · exact .inr (weights_all h n hn)
theorem limW (H : Type) : LimOk (LimW H) 140737488355328 where
  agg := fun t fs ds j f d ht h hf hd n hn => by
    refine h n ?_
    simp only [DataW.weights, ht]
    exact DataW.weights_mem_each (j := j) (by simpa using congrArg (Option.map (·.type)) hf) hd n hn
  slc := fun t e es sp ht hb h => by
    have h1 := h ((es.length + sp.length) * Tryz.prog.bytesOf e) (by simp only [DataW.weights, ht]; exact List.mem_cons_self ..)
    refine ⟨?_, fun d hd n hn => h n ?_⟩
    · have h2 : (es.length + sp.length) * 1 ≤ (es.length + sp.length) * Tryz.prog.bytesOf e := Nat.mul_le_mul_left _ hb
      omega
    · simp only [DataW.weights, ht]
      exact List.mem_cons_of_mem _ (List.mem_append_left _ (weights_all hd n hn))
  str := fun t b h => h _ (by simp [DataW.weights])
end Go.Proofs.YtlhpbfjelgmkeaaGreat
