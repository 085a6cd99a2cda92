/- Contracts of Has on both sides; the walk of SchemaRight. Conditions: none. -/
import Derived.Test.YtjlpmhjnfgmmcaaSchTables
set_option maxRecDepth 100000
namespace Go.Proofs.Ytjlpmhjnfgmmcaa
open Go.RowKit Go.Maps Go.Sort Go.Lib

/-- is it one of them? -/
def memM (v : Int × ByteArray) (l : Ml) : Bool := l.any fun x => decide (x = v)
theorem memM_yes {v : Int × ByteArray} {l : Ml} (h : v ∈ l) : memM v l = true := List.any_eq_true.2 ⟨v, h, decide_eq_true rfl⟩
theorem memM_no {v : Int × ByteArray} {l : Ml} (h : ¬ v ∈ l) : memM v l = false := by
  rw [Bool.eq_false_iff]
  intro g
  obtain ⟨x, hx, e⟩ := List.any_eq_true.1 g
  exact h (of_decide_eq_true e ▸ hx)
set_option maxHeartbeats 1600000 in
theorem pos_mea {w : World} {p : Option Addr} {n k : Nat} {l : List (Int × ByteArray)} (hr : Holds2 w (.slice p n k) (l.map meaC)) (hl : l.length = n) (hn : n ≤ 9223372036854775807) (v : (Int × ByteArray)) :
    Calls Try.prog 55 #[.slice p n k, .agg #[.int .i64 v.1, .string v.2]] w fun e w' => (∃ i : Int, e = .returned (.int .i64 i) ∧ decide (0 ≤ i) = memM v l) ∧ Below w.heap.size w w' := by
  have HR := Lib.hid hr
  have HN := Lib.hid hn
  have HF := Lib.hid hl
  obtain ⟨v1', v2'⟩ := v
  have hb1 : Hid (Below w.heap.size w (w.alloc (.cells #[.int .i64 v1', .string v2'] 41)) ∧ (w.alloc (.cells #[.int .i64 v1', .string v2'] 41)).heap[w.heap.size]? = some (.cells #[.int .i64 v1', .string v2'] 41 (0, 0))) := Lib.hid ⟨box_below w _, heap_alloc_new w _⟩
  clear hr hn hl
  go_enter Try.func55, Try.ntmps55
  go_wp2_with fail
  go_loopw [8] (fun s' W => ∃ i : Nat, s' = .int .i64 i ∧ i ≤ n ∧ Hid (Below w.heap.size w W ∧ W.heap[w.heap.size]? = some (.cells #[.int .i64 v1', .string v2'] 41 (0, 0))) ∧ Hid (∀ (j : Nat), j < i → l[j]? ≠ some (v1', v2'))) (fun s' _ => n - (intOf s').toNat)
  case atStart => exact ⟨0, rfl, by omega, hb1, Lib.hid (fun j hj => by omega)⟩
  case round =>
    obtain ⟨i, rfl, hi, hb, hno⟩ := hrel
    by_cases hlt : i < n
    · obtain ⟨x, hx⟩ : ∃ x, l[i]? = some x := ⟨_, List.getElem?_eq_getElem (by rw [HF.out]; exact hlt)⟩
      obtain ⟨ad, rfl, c0, c1⟩ := (HR.out.below hb.out.1).at_ (show (l.map meaC)[i]? = some (meaC x) by rw [List.getElem?_map, hx]; rfl)
      simp only [meaC] at c0 c1
      have v0 := cell_of_row _ _ 0 _ _ _ hb.out.2
      have v1 := cell_of_row _ _ 1 _ _ _ hb.out.2
      simp at v0 v1
      obtain ⟨x, z⟩ := x
      simp only at c0 c1
      have KE := fun W => eql_mea W v1' v2' x z
      have KU := fun W o a b => guard_mea W o a b v1' v2' x z
      have HX := Lib.hid hx
      have hlt' : (i : Int) < (n : Int) := Int.ofNat_lt.2 hlt
      have b0 : (0 : Int) ≤ (i : Int) := Int.natCast_nonneg i
      have hw := i_next (p := i) (by have := HN.out; omega)
      have HLT := Lib.hid hlt
      have t0 := same_mea (v1', v2') (x, z)
      cases hq : decide ((v1', v2') = (x, z))
      · rw [hq] at t0
        have HNO : Hid (∀ (j : Nat), j < i + 1 → l[j]? ≠ some (v1', v2')) := Lib.hid (fun j hj hy => by
          by_cases e : j = i
          · subst e; rw [HX.out] at hy; cases hy; exact absurd rfl (of_decide_eq_false hq)
          · exact hno.out j (by omega) hy)
        clear hno hx hq hi hlt
        go_wp2_with fail
        go_quiet (fail)
        go_wp2_with fail
        go_roundw
        case rel => exact ⟨i + 1, by go_num, by have := HLT.out; omega, Lib.hid ⟨bel_dN hb.out.1 _, hb.out.2⟩, HNO⟩
        case measure => have := HLT.out; simp [intOf]; omega
      · rw [hq] at t0
        have hv := of_decide_eq_true hq
        cases hv
        clear hx hq hi hlt
        go_wp2_with fail
        go_quiet (fail)
        go_wp2_with fail
        go_ret
        exact ⟨⟨(i : Int), rfl, by rw [decide_eq_true b0, memM_yes (List.mem_of_getElem? HX.out)]⟩, bel_dN hb.out.1 _⟩
    · have HE : Hid (¬ (v1', v2') ∈ l) := Lib.hid (fun h => by
        obtain ⟨j, hj⟩ := List.getElem?_of_mem h
        exact hno.out j (by have := (List.getElem?_eq_some_iff.1 hj).1; have := HF.out; omega) hj)
      have hlt' : ¬ ((i : Int) < (n : Int)) := by omega
      go_wp2_with fail
      go_ret
      exact ⟨⟨-1, rfl, by rw [memM_no HE.out]; rfl⟩, hb.out.1⟩
theorem contains_mea {w : World} {p : Option Addr} {n k : Nat} {l : Ml} (hr : Holds2 w (.slice p n k) (l.map meaC)) (hl : l.length = n) (hn : n ≤ 9223372036854775807) (v : Int × ByteArray) :
    Calls Try.prog 50 #[.slice p n k, .agg #[.int .i64 v.1, .string v.2]] w fun e w' => e = .returned (.bool (memM v l)) ∧ Below w.heap.size w w' := by
  obtain ⟨z, x⟩ := v
  have hb1 := box_below w (.cells #[.int .i64 z, .string x] 41)
  have KI := pos_mea (hr.below hb1) hl hn (z, x)
  have HB := Lib.hid hb1
  simp only at KI ⊢
  generalize memM (z, x) l = b at *
  clear hr hl hn hb1
  go_enter Try.func50, Try.ntmps50
  go_wp2_with fail
  refine KI.mono ?_
  rintro e w' ⟨⟨i, rfl, hi⟩, hb⟩
  cases b
  all_goals (
    go_wp2_with fail
    go_ret
    exact ⟨by rw [← hi]; rfl, HB.out.trans (hb.mono HB.out.size)⟩)
theorem hasM_any {w : World} {rn rt : ByteArray} {pd pm : Option Addr} {nd kd nm km : Nat} {ms : Ml} (hm : Holds2 w (.slice pm nm km) (ms.map meaC)) (lm : ms.length = nm) (hnm : nm ≤ 9223372036854775807) (v : Int × ByteArray) :
    Calls Try.prog 19 #[.agg #[.string rn, .string rt, .slice pd nd kd, .slice pm nm km], .agg #[.int .i64 v.1, .string v.2]] w fun e w' => e = .returned (.bool (memM v ms)) ∧ Below w.heap.size w w' := by
  obtain ⟨z, x⟩ := v
  have hb1 := box_below w (.cells #[.string rn, .string rt, .slice pd nd kd, .slice pm nm km] 30)
  have hb2 := box_below (w.alloc (.cells #[.string rn, .string rt, .slice pd nd kd, .slice pm nm km] 30)) (.cells #[.int .i64 z, .string x] 41)
  have KI := contains_mea ((hm.below hb1).below hb2) lm hnm (z, x)
  have HB := Lib.hid (hb1.trans (hb2.mono hb1.size))
  simp only at KI ⊢
  generalize memM (z, x) ms = b at *
  clear hm lm hnm hb1 hb2
  go_enter Try.func19, Try.ntmps19
  go_wp2_with fail
  refine KI.mono ?_
  rintro e w' ⟨rfl, hb⟩
  go_wp2_with fail
  go_ret
  exact ⟨rfl, HB.out.trans (hb.mono HB.out.size)⟩
/-- what a table that may be has -/
theorem tab_ok {tn : ByteArray} {cs : Cl} (h : tabE tn cs = 0) : (∀ c ∈ cs, nmB c.1 = true) ∧ (cs.map (·.1)).Nodup ∧ cs.length ≤ 8 := by
  unfold tabE at h
  cases h1 : (!nmB tn || cs.any misB)
  · rw [h1, if_neg (by decide)] at h
    cases h2 : (!fewN cs.length 8 || cs.any oddB)
    · rw [h2, if_neg (by decide)] at h
      cases h3 : dupL (cs.map (·.1))
      · rw [Bool.or_eq_false_iff] at h1 h2
        refine ⟨fun c hc => ?_, ?_, ?_⟩
        · have := List.any_eq_false.1 h1.2 c hc
          unfold misB at this
          simpa using this
        · unfold dupL at h3
          simpa using h3
        · have := h2.1
          unfold fewN at this
          simp at this
          omega
      · rw [h3] at h; simp at h
    · rw [h2] at h; simp at h
  · rw [h1] at h; simp at h
/-- each column is found at its place -/
theorem col_right {cs : Cl} (h : (cs.map (·.1)).Nodup) {i : Nat} {c : ByteArray × Int} (hc : cs[i]? = some c) : colAt cs c.1 = some (i, c.2) := by
  have hself : (c.1 == c.1) = true := by rw [← beq_list]; simp
  refine col_some hc hself (fun j d hj hd => ?_)
  rw [Bool.eq_false_iff]
  intro he
  have he' : d.1 = c.1 := by
    rw [← beq_list, same_str, decide_eq_true_iff] at he
    exact he
  have h1 : (cs.map (·.1))[j]? = some d.1 := by rw [List.getElem?_map, hd]; rfl
  have h2 : (cs.map (·.1))[i]? = some c.1 := by rw [List.getElem?_map, hc]; rfl
  have := dup_yes hj (he' ▸ h1) h2
  unfold dupL at this
  rw [decide_eq_true h] at this
  cases this
/-- what a rollup that may be has -/
theorem rol_ok {rn rt tn : ByteArray} {ds : List ByteArray} {ms : Ml} {cs : Cl} (h : rolE rn rt ds ms tn cs = 0) : (∀ d ∈ ds, lacksB cs d = false) ∧ ms.length ≤ 16 := by
  cases h1 : nmB rn
  · rw [rol_3 h1] at h; cases h
  cases h2 : (rt == tn)
  · rw [rol_14 h1 h2] at h; cases h
  cases h3 : (decide (8 < ds.length) || (decide (16 < ms.length) || ms.any strB))
  · cases h4 : (ds.any (lacksB cs) || ms.any fun m => lacksB cs m.2)
    · rw [Bool.or_eq_false_iff] at h3 h4
      refine ⟨fun d hd => ?_, ?_⟩
      · have := List.any_eq_false.1 h4.1 d hd
        simpa using this
      · have := (Bool.or_eq_false_iff.1 h3.2).1
        simp at this
        omega
    · rw [rol_13 h1 h2 h3 h4] at h; cases h
  · rw [rol_2 h1 h2 h3] at h; cases h
set_option maxHeartbeats 12800000 in
theorem right_walk {w : World} {rn rt tn : ByteArray} {pd pm p : Option Addr} {nd kd nm km n k : Nat} {ds : List ByteArray} {ms : Ml} {cs : Cl} (hd : Holds w (.slice pd nd kd) (strs ds)) (hm : Holds2 w (.slice pm nm km) (ms.map meaC)) (hc : Holds2 w (.slice p n k) (cs.map colC))
    (ld : ds.length = nd) (lm : ms.length = nm) (lc : cs.length = n) (hn : n ≤ 9223372036854775807) (hnd : nd ≤ 9223372036854775807) (hnm : nm ≤ 9223372036854775807) :
    Calls Try.prog 6 #[.agg #[.string tn, .slice p n k], .agg #[.string rn, .string rt, .slice pd nd kd, .slice pm nm km]] w fun e w' => e = .returned (.bool true) ∧ Below w.heap.size w w' := by
  have HS := Lib.hid (TR.start (rn := rn) (rt := rt) (tn := tn) hd hm hc ld lm lc)
  have KL := Lib.hid lives_any
  have N1 := Lib.hid hn
  have N2 := Lib.hid hnd
  have N3 := Lib.hid hnm
  have LC := Lib.hid lc
  have LD := Lib.hid ld
  have LM := Lib.hid lm
  clear hd hm hc ld lm lc hn hnd hnm
  have KT1 := table_any HS.out.tab.cols HS.out.tab.len N1.out tn
  by_cases hE1 : tabE tn cs = 0
  rotate_left
  · have t1 : (tabE tn cs != 0) = true := by rw [bne_iff_ne]; exact hE1
    have KL1 := KL.out
    generalize tabE tn cs = E1 at *
    clear hE1
    go_enter Try.func6, Try.ntmps6
    go_wp2_with fail
    refine KT1.mono ?_
    rintro e w1 ⟨rfl, hb⟩
    have S1 := Lib.hid (HS.out.next hb)
    clear hb
    go_wp2_with fail
    refine (KL1 _).mono ?_
    rintro e w2 ⟨rfl, hb⟩
    go_wp2_with fail
    go_ret
    exact ⟨rfl, (S1.out.next hb).below⟩
  have HT := Lib.hid (tab_ok hE1)
  rw [hE1] at KT1
  clear hE1
  by_cases h2 : 100 < nd
  · have t2 : decide ((100 : Int) < (nd : Int)) = true := decide_eq_true (by omega)
    have KL1 := KL.out
    go_enter Try.func6, Try.ntmps6
    go_wp2_with fail
    refine KT1.mono ?_
    rintro e w1 ⟨rfl, hb⟩
    have S1 := HS.out.next hb
    obtain ⟨_, c2, c3, c4, c5⟩ := S1.cells
    have S1 := Lib.hid S1
    clear hb
    go_wp2_with fail
    refine (KL1 _).mono ?_
    rintro e w2 ⟨rfl, hb⟩
    go_wp2_with fail
    go_ret
    exact ⟨rfl, (S1.out.next hb).below⟩
  have t2 : decide ((100 : Int) < (nd : Int)) = false := decide_eq_false (by omega)
  have D1 : Hid (nd ≤ 100) := Lib.hid (by omega)
  clear h2
  go_enter Try.func6, Try.ntmps6
  go_wp2_with fail
  refine KT1.mono ?_
  rintro e w1 ⟨rfl, hb⟩
  have S1 := HS.out.next hb
  obtain ⟨⟨c0, c1⟩, c2, c3, c4, c5⟩ := S1.cells
  have HS1 := Lib.hid S1
  clear S1 hb KT1 HS
  go_wp2_with fail
  clear c0 c1 c2 c3 c4 c5 t2
  -- the columns
  go_loopw [30] (fun s' W => ∃ i : Nat, s' = .int .i64 i ∧ i ≤ n ∧ Hid (TR w W rn rt pd nd kd ds pm nm km ms tn p n k cs)) (fun s' _ => n - (intOf s').toNat)
  case atStart => exact ⟨0, rfl, by omega, HS1⟩
  case round =>
    clear HS1
    obtain ⟨i, rfl, hi, hb⟩ := hrel
    by_cases hlt : i < n
    · obtain ⟨x, hx⟩ : ∃ x, cs[i]? = some x := ⟨_, List.getElem?_eq_getElem (by rw [LC.out]; exact hlt)⟩
      obtain ⟨ad, rfl, c0, c1⟩ := hb.out.tab.cols.at_ (show (cs.map colC)[i]? = some (colC x) by rw [List.getElem?_map, hx]; rfl)
      have hcol := col_right HT.out.2.1 hx
      have hnm := HT.out.1 x (List.mem_of_getElem? hx)
      obtain ⟨x, z⟩ := x
      simp only [colC] at c0 c1
      simp only at hcol hnm
      have hB1 := hb.out.next (box_below wr (.cells #[.string x, .int .i64 z] 49))
      obtain ⟨⟨d0, d1⟩, _⟩ := hB1.cells
      have KC := column_any hB1.tab.cols hB1.tab.len N1.out tn x
      have hval : colVal cs x = .tuple #[.int .i64 (i : Int), .int .i64 z, .bool true] := by unfold colVal; rw [hcol]
      rw [hval] at KC
      have KN := name_any x
      unfold nmB at hnm
      rw [hnm] at KN
      have HB1 := Lib.hid hB1
      have hlt' : (i : Int) < (n : Int) := Int.ofNat_lt.2 hlt
      have b0 : (0 : Int) ≤ (i : Int) := Int.natCast_nonneg i
      have hw := i_next (p := i) (by have := N1.out; omega)
      have HLT := Lib.hid hlt
      clear hx hi hlt hval hcol hnm hB1 hb
      go_wp2_with fail
      refine KC.mono ?_
      rintro e w2 ⟨rfl, hb2⟩
      have HB2 := Lib.hid (HB1.out.next hb2)
      have e0 := cell_of_row _ _ 0 _ _ _ (boxed hb2)
      have e1 := cell_of_row _ _ 1 _ _ _ (boxed hb2)
      simp at e0 e1
      clear hb2 KC c0 c1 d0 d1 HB1
      go_wp2_with fail
      refine (KN _).mono ?_
      rintro e w3 ⟨rfl, hb3⟩
      have HB3 := Lib.hid (HB2.out.next hb3)
      clear hb3 KN e0 e1 HB2
      go_wp2_with fail
      go_roundw
      case rel => exact ⟨i + 1, by go_num, by have := HLT.out; omega, HB3⟩
      case measure => have := HLT.out; simp [intOf]; omega
    have hlt' : ¬ ((i : Int) < (n : Int)) := by omega
    obtain ⟨⟨d0, d1⟩, d2, d3, d4, d5⟩ := hb.out.cells
    have KR := rollup_any (rn := rn) (rt := rt) (tn := tn) hb.out.rol.dims hb.out.rol.meas hb.out.tab.cols hb.out.rol.ld hb.out.rol.lm hb.out.tab.len N1.out N2.out N3.out
    clear hlt hi
    by_cases hE2 : rolE rn rt ds ms tn cs = 0
    rotate_left
    · have t1 : (rolE rn rt ds ms tn cs != 0) = true := by rw [bne_iff_ne]; exact hE2
      have KL1 := KL.out
      generalize rolE rn rt ds ms tn cs = E2 at *
      clear hE2
      go_wp2_with fail
      refine KR.mono ?_
      rintro e w2 ⟨rfl, hb2⟩
      have S2 := Lib.hid (hb.out.next hb2)
      clear hb2
      go_wp2_with fail
      refine (KL1 _).mono ?_
      rintro e w3 ⟨rfl, hb3⟩
      go_wp2_with fail
      go_ret
      exact ⟨rfl, (S2.out.next hb3).below⟩
    have HR := Lib.hid (rol_ok hE2)
    rw [hE2] at KR
    clear hE2
    go_wp2_with fail
    refine KR.mono ?_
    rintro e w2 ⟨rfl, hb2⟩
    have S2 := hb.out.next hb2
    clear d0 d1 d2 d3 d4 d5 KR hb2 hb
    obtain ⟨⟨d0, d1⟩, d2, d3, d4, d5⟩ := S2.cells
    have HS2 := Lib.hid S2
    clear S2
    go_wp2_with fail
    clear d0 d1 d2 d3 d4 d5 hlt'
    -- the dims
    go_loopw [71] (fun s' W => ∃ i : Nat, s' = .int .i64 i ∧ i ≤ nd ∧ Hid (TR w W rn rt pd nd kd ds pm nm km ms tn p n k cs)) (fun s' _ => nd - (intOf s').toNat)
    case atStart => exact ⟨0, rfl, by omega, HS2⟩
    case round =>
      clear HS2
      obtain ⟨i, rfl, hi, hb⟩ := hrel
      by_cases hlt : i < nd
      · obtain ⟨x, hx⟩ : ∃ x, ds[i]? = some x := ⟨_, List.getElem?_eq_getElem (by rw [LD.out]; exact hlt)⟩
        obtain ⟨ad, rfl⟩ := hb.out.rol.dims.ptr (by omega)
        have c0 := hb.out.rol.dims.cell (show (strs ds)[i]? = some (.string x) by unfold strs; rw [List.getElem?_map, hx]; rfl)
        obtain ⟨⟨d0, d1⟩, _⟩ := hb.out.cells
        have KC := column_any hb.out.tab.cols hb.out.tab.len N1.out tn x
        obtain ⟨v, hv⟩ := colVal_form cs x
        rw [hv, HR.out.1 x (List.mem_of_getElem? hx)] at KC
        have hlt' : (i : Int) < (nd : Int) := Int.ofNat_lt.2 hlt
        have b0 : (0 : Int) ≤ (i : Int) := Int.natCast_nonneg i
        have hw := i_next (p := i) (by have := D1.out; omega)
        have HLT := Lib.hid hlt
        generalize kindAt cs x = K at *
        clear hx hi hlt hv
        go_wp2_with fail
        refine KC.mono ?_
        rintro e w2 ⟨rfl, hb2⟩
        have HB2 := Lib.hid (hb.out.next hb2)
        clear hb hb2 KC c0 d0 d1
        go_wp2_with fail
        go_roundw
        case rel => exact ⟨i + 1, by go_num, by have := HLT.out; omega, HB2⟩
        case measure => have := HLT.out; simp [intOf]; omega
      have hlt' : ¬ ((i : Int) < (nd : Int)) := by omega
      obtain ⟨⟨d0, d1⟩, d2, d3, d4, d5⟩ := hb.out.cells
      clear hlt hi
      go_wp2_with fail
      clear d0 d1 d2 d3 d4 d5 hlt'
      -- the measures
      go_loopw [88] (fun s' W => ∃ i : Nat, s' = .int .i64 i ∧ i ≤ nm ∧ Hid (TR w W rn rt pd nd kd ds pm nm km ms tn p n k cs)) (fun s' _ => nm - (intOf s').toNat)
      case atStart => exact ⟨0, rfl, by omega, hb⟩
      case round =>
        clear hb
        obtain ⟨i, rfl, hi, hb⟩ := hrel
        by_cases hlt : i < nm
        · obtain ⟨x, hx⟩ : ∃ x, ms[i]? = some x := ⟨_, List.getElem?_eq_getElem (by rw [LM.out]; exact hlt)⟩
          obtain ⟨ad, rfl, c0, c1⟩ := hb.out.rol.meas.at_ (show (ms.map meaC)[i]? = some (meaC x) by rw [List.getElem?_map, hx]; rfl)
          have hmem := List.mem_of_getElem? hx
          obtain ⟨z, x⟩ := x
          simp only [meaC] at c0 c1
          have hB1 := hb.out.next (box_below wr (.cells #[.int .i64 z, .string x] 41))
          obtain ⟨_, d2, d3, d4, d5⟩ := hB1.cells
          have KC := hasM_any (rn := rn) (rt := rt) (pd := pd) (nd := nd) (kd := kd) hB1.rol.meas hB1.rol.lm N3.out (z, x)
          rw [memM_yes hmem] at KC
          have HB1 := Lib.hid hB1
          have hlt' : (i : Int) < (nm : Int) := Int.ofNat_lt.2 hlt
          have b0 : (0 : Int) ≤ (i : Int) := Int.natCast_nonneg i
          have hw := i_next (p := i) (by have := N3.out; omega)
          have HLT := Lib.hid hlt
          clear hx hi hlt hmem hB1 hb
          go_wp2_with fail
          refine KC.mono ?_
          rintro e w2 ⟨rfl, hb2⟩
          have HB2 := Lib.hid (HB1.out.next hb2)
          clear hb2 KC c0 c1 d2 d3 d4 d5 HB1
          go_wp2_with fail
          go_roundw
          case rel => exact ⟨i + 1, by go_num, by have := HLT.out; omega, HB2⟩
          case measure => have := HLT.out; simp [intOf]; omega
        have hlt' : ¬ ((i : Int) < (nm : Int)) := by omega
        have KL1 := KL.out
        clear hlt hi
        go_wp2_with fail
        refine (KL1 _).mono ?_
        rintro e w3 ⟨rfl, hb3⟩
        go_wp2_with fail
        go_ret
        exact ⟨rfl, (hb.out.next hb3).below⟩
end Go.Proofs.Ytjlpmhjnfgmmcaa
