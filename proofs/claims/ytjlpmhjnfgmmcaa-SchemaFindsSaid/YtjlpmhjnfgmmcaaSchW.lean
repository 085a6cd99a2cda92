/- Contract of the document's Rollup. Conditions: none. -/
import Derived.Test.YtjlpmhjnfgmmcaaSchV
set_option maxRecDepth 100000
namespace Go.Proofs.Ytjlpmhjnfgmmcaa
open Go.RowKit Go.Maps Go.Sort Go.Lib

section
variable {rn rt tn : ByteArray} {ds : List ByteArray} {ms : Ml} {cs : Cl}
theorem rol_3 (h : nmB rn = false) : rolE rn rt ds ms tn cs = 3 := by unfold rolE; rw [h]; rfl
theorem rol_14 (h1 : nmB rn = true) (h : (rt == tn) = false) : rolE rn rt ds ms tn cs = 14 := by unfold rolE; rw [h1, h]; rfl
theorem rol_2 (h1 : nmB rn = true) (h2 : (rt == tn) = true) (h : (decide (8 < ds.length) || (decide (16 < ms.length) || ms.any strB)) = true) : rolE rn rt ds ms tn cs = 2 := by unfold rolE; rw [h1, h2, h]; rfl
theorem rol_13 (h1 : nmB rn = true) (h2 : (rt == tn) = true) (h3 : (decide (8 < ds.length) || (decide (16 < ms.length) || ms.any strB)) = false) (h : (ds.any (lacksB cs) || ms.any fun m => lacksB cs m.2) = true) : rolE rn rt ds ms tn cs = 13 := by unfold rolE; rw [h1, h2, h3, h]; rfl
theorem rol_5 (h1 : nmB rn = true) (h2 : (rt == tn) = true) (h3 : (decide (8 < ds.length) || (decide (16 < ms.length) || ms.any strB)) = false) (h4 : (ds.any (lacksB cs) || ms.any fun m => lacksB cs m.2) = false) (h : (dupL ds || dupL ms) = true) : rolE rn rt ds ms tn cs = 5 := by unfold rolE; rw [h1, h2, h3, h4, h]; rfl
theorem rol_l (h1 : nmB rn = true) (h2 : (rt == tn) = true) (h3 : (decide (8 < ds.length) || (decide (16 < ms.length) || ms.any strB)) = false) (h4 : (ds.any (lacksB cs) || ms.any fun m => lacksB cs m.2) = false) (h5 : (dupL ds || dupL ms) = false) : rolE rn rt ds ms tn cs = if (ms.any fun m => noMea m.1 (kindAt cs m.2)) = true then 12 else 0 := by unfold rolE; rw [h1, h2, h3, h4, h5]; rfl
end
/-- the state of the walk -/
structure RT (w W : World) (rn rt : ByteArray) (pd : Option Addr) (nd kd : Nat) (ds : List ByteArray) (pm : Option Addr) (nm km : Nat) (ms : Ml) (tn : ByteArray) (p : Option Addr) (n k : Nat) (cs : Cl) : Prop where
  rol : RolBox W w.heap.size rn rt pd nd kd ds pm nm km ms
  tab : TabBox W (w.heap.size + 1) tn p n k cs
  below : Below w.heap.size w W
theorem RT.next {w W V : World} {rn rt tn : ByteArray} {pd pm p : Option Addr} {nd kd nm km n k : Nat} {ds : List ByteArray} {ms : Ml} {cs : Cl} (h : RT w W rn rt pd nd kd ds pm nm km ms tn p n k cs) (hb : Below W.heap.size W V) : RT w V rn rt pd nd kd ds pm nm km ms tn p n k cs :=
  ⟨h.rol.below hb, h.tab.below hb, h.below.trans (hb.mono h.below.size)⟩
theorem RT.drewN {w W : World} {rn rt tn : ByteArray} {pd pm p : Option Addr} {nd kd nm km n k : Nat} {ds : List ByteArray} {ms : Ml} {cs : Cl} (h : RT w W rn rt pd nd kd ds pm nm km ms tn p n k cs) (m : Nat) : RT w (W.drewN m) rn rt pd nd kd ds pm nm km ms tn p n k cs :=
  ⟨⟨h.rol.box, h.rol.dims, h.rol.meas, h.rol.ld, h.rol.lm⟩, ⟨h.tab.box, h.tab.cols, h.tab.len⟩, bel_dN h.below m⟩
theorem boxed {w : World} {o : Obj} {V : World} (hb : Below (w.alloc o).heap.size (w.alloc o) V) : V.heap[w.heap.size]? = some o := (hb.block _ (by simp)).trans (heap_alloc_new w o)
def asked (x k : Int) : Bool := ((x == 2) && (k != 1)) || ((x == 6) && (k != 1) && (k != 2))
theorem asked_eq (x k : Int) : asked x k = noMea x k := by unfold asked noMea; rw [Bool.and_assoc]
set_option maxHeartbeats 12800000 in
theorem refRollup_any {w : World} {rn rt tn : ByteArray} {pd pm p : Option Addr} {nd kd nm km n k : Nat} {ds : List ByteArray} {ms : Ml} {cs : Cl} (hd : Holds w (.slice pd nd kd) (strs ds)) (hm : Holds2 w (.slice pm nm km) (ms.map meaC)) (hc : Holds2 w (.slice p n k) (cs.map colC))
    (ld : ds.length = nd) (lm : ms.length = nm) (lc : cs.length = n) (hn : n ≤ 9223372036854775807) :
    Calls Try.prog 16 #[.agg #[.string rn, .string rt, .slice pd nd kd, .slice pm nm km], .agg #[.string tn, .slice p n k]] w fun e w' => e = .returned (.int .i64 (rolE rn rt ds ms tn cs)) ∧ Below w.heap.size w w' := by
  have hS : RT w ((w.alloc (.cells #[.string rn, .string rt, .slice pd nd kd, .slice pm nm km] 30)).alloc (.cells #[.string tn, .slice p n k] 26)) rn rt pd nd kd ds pm nm km ms tn p n k cs := by
    have hb1 := box_below w (.cells #[.string rn, .string rt, .slice pd nd kd, .slice pm nm km] 30)
    have hb2 := box_below (w.alloc (.cells #[.string rn, .string rt, .slice pd nd kd, .slice pm nm km] 30)) (.cells #[.string tn, .slice p n k] 26)
    have hs : (w.alloc (.cells #[.string rn, .string rt, .slice pd nd kd, .slice pm nm km] 30)).heap.size = w.heap.size + 1 := by simp
    exact ⟨⟨(hb2.block _ (by simp)).trans (heap_alloc_new w _), (hd.below hb1).below hb2, (hm.below hb1).below hb2, ld, lm⟩, ⟨by rw [← hs]; exact heap_alloc_new _ _, (hc.below hb1).below hb2, lc⟩, hb1.trans (hb2.mono hb1.size)⟩
  have HS := Lib.hid hS
  have LD := Lib.hid ld
  have LM := Lib.hid lm
  have HN := Lib.hid hn
  obtain ⟨R, hR⟩ : ∃ R, rolE rn rt ds ms tn cs = R := ⟨_, rfl⟩
  rw [hR]
  have HR := Lib.hid hR
  have K1 := refName_any rn
  obtain ⟨b1, h1⟩ : ∃ b, nameL rn.data.toList = b := ⟨_, rfl⟩
  rw [h1] at K1
  have H1 : Hid (nmB rn = b1) := Lib.hid h1
  clear hS ld lm lc hn hd hm hc hR h1
  cases b1
  · have HE : Hid (R = 3) := Lib.hid (by rw [← HR.out]; exact rol_3 H1.out)
    go_enter Try.func16, Try.ntmps16
    go_wp2_with fail
    refine (K1 _).mono ?_
    rintro e w1 ⟨rfl, rfl⟩
    go_wp2_with fail
    go_ret
    exact ⟨ret_int HE.out.symm, HS.out.below⟩
  have t1 := beq_list rt tn
  obtain ⟨b2, h2⟩ : ∃ b, (rt == tn) = b := ⟨_, rfl⟩
  rw [h2] at t1
  have H2 := Lib.hid h2
  clear h2
  cases b2
  · have HE : Hid (R = 14) := Lib.hid (by rw [← HR.out]; exact rol_14 H1.out H2.out)
    have t2 : (rt.toList != tn.toList) = true := by rw [bne, t1]; rfl
    go_enter Try.func16, Try.ntmps16
    go_wp2_with fail
    refine (K1 _).mono ?_
    rintro e w1 ⟨rfl, rfl⟩
    go_wp2_with fail
    go_ret
    exact ⟨ret_int HE.out.symm, HS.out.below⟩
  have t2 : (rt.toList != tn.toList) = false := by rw [bne, t1]; rfl
  by_cases hd8 : 8 < nd
  · have HE : Hid (R = 2) := Lib.hid (by rw [← HR.out]; exact rol_2 H1.out H2.out (by rw [LD.out, decide_eq_true hd8]; rfl))
    have t3 : decide ((8 : Int) < (nd : Int)) = true := decide_eq_true (by omega)
    go_enter Try.func16, Try.ntmps16
    go_wp2_with fail
    refine (K1 _).mono ?_
    rintro e w1 ⟨rfl, rfl⟩
    go_wp2_with fail
    go_ret
    exact ⟨ret_int HE.out.symm, HS.out.below⟩
  have t3 : decide ((8 : Int) < (nd : Int)) = false := decide_eq_false (by omega)
  by_cases hm16 : 16 < nm
  · have HE : Hid (R = 2) := Lib.hid (by rw [← HR.out]; exact rol_2 H1.out H2.out (by rw [LM.out, decide_eq_true hm16]; simp))
    have t4 : decide ((16 : Int) < (nm : Int)) = true := decide_eq_true (by omega)
    go_enter Try.func16, Try.ntmps16
    go_wp2_with fail
    refine (K1 _).mono ?_
    rintro e w1 ⟨rfl, rfl⟩
    go_wp2_with fail
    go_ret
    exact ⟨ret_int HE.out.symm, HS.out.below⟩
  have t4 : decide ((16 : Int) < (nm : Int)) = false := decide_eq_false (by omega)
  have D8 : Hid (nd ≤ 8) := Lib.hid (by omega)
  have M16 : Hid (nm ≤ 16) := Lib.hid (by omega)
  clear hd8 hm16
  go_enter Try.func16, Try.ntmps16
  go_wp2_with fail
  refine (K1 _).mono ?_
  rintro e w1 ⟨rfl, rfl⟩
  go_wp2_with fail
  clear t1 t2 t3 t4 K1
  -- 1: kinds of measures
  go_loopw [51] (fun s' W => ∃ i : Nat, s' = .int .i64 i ∧ i ≤ nm ∧ Hid (RT w W rn rt pd nd kd ds pm nm km ms tn p n k cs) ∧ Hid (∀ (j : Nat) (y : Int × ByteArray), j < i → ms[j]? = some y → strB y = false)) (fun s' _ => nm - (intOf s').toNat)
  case atStart => exact ⟨0, rfl, by omega, HS, Lib.hid (fun j y hj => by omega)⟩
  case round =>
    clear HS
    obtain ⟨i, rfl, hi, hb, hno⟩ := hrel
    by_cases hlt : i < nm
    · obtain ⟨x, hx⟩ : ∃ x, ms[i]? = some x := ⟨_, List.getElem?_eq_getElem (by rw [LM.out]; exact hlt)⟩
      obtain ⟨ad, rfl, c0, c1⟩ := hb.out.rol.meas.at_ (show (ms.map meaC)[i]? = some (meaC x) by rw [List.getElem?_map, hx]; rfl)
      obtain ⟨z, x⟩ := x
      simp only [meaC] at c0 c1
      have HX := Lib.hid hx
      have hlt' : (i : Int) < (nm : Int) := Int.ofNat_lt.2 hlt
      have b0 : (0 : Int) ≤ (i : Int) := Int.natCast_nonneg i
      have hw := i_next (p := i) (by have := M16.out; omega)
      have HLT := Lib.hid hlt
      have HB2 := Lib.hid (hb.out.next (box_below wr (.cells #[.int .i64 z, .string x] 41)))
      clear hx hi hlt hb
      by_cases z1 : z < 1
      · have u1 : decide (z < 1) = true := decide_eq_true z1
        have HE : Hid (R = 2) := Lib.hid (by rw [← HR.out]; exact rol_2 H1.out H2.out (by rw [is_any (p := strB) HX.out (decide_eq_true (.inl z1))]; simp))
        clear z1 hno
        go_wp2_with fail
        go_ret
        exact ⟨ret_int HE.out.symm, HB2.out.below⟩
      have u1 : decide (z < 1) = false := decide_eq_false z1
      by_cases z2 : 7 < z
      · have u2' : decide (7 < z) = true := decide_eq_true z2
        have HE : Hid (R = 2) := Lib.hid (by rw [← HR.out]; exact rol_2 H1.out H2.out (by rw [is_any (p := strB) HX.out (decide_eq_true (.inr z2))]; simp))
        clear z1 z2 hno
        go_wp2_with fail
        go_ret
        exact ⟨ret_int HE.out.symm, HB2.out.below⟩
      have u2' : decide (7 < z) = false := decide_eq_false z2
      have HNO := Lib.hid (no_next hno.out HX.out (show strB (z, x) = false from decide_eq_false (by omega)))
      clear z1 z2 hno
      go_wp2_with fail
      go_roundw
      case rel => exact ⟨i + 1, by go_num, by have := HLT.out; omega, HB2, HNO⟩
      case measure => have := HLT.out; simp [intOf]; omega
    have hin : i = nm := by omega
    subst hin
    have H3 : Hid ((decide (8 < ds.length) || (decide (16 < ms.length) || ms.any strB)) = false) := Lib.hid (by
      rw [LD.out, LM.out, decide_eq_false (show ¬ 8 < nd by have := D8.out; omega), decide_eq_false (show ¬ 16 < i by have := M16.out; omega), no_any LM.out hno.out]; rfl)
    obtain ⟨d0, d1, d2, d3⟩ := hb.out.rol.cells
    have hlt' : ¬ ((i : Int) < (i : Int)) := by omega
    clear hno hlt hi
    obtain ⟨N, hN⟩ : ∃ N, N = i := ⟨_, rfl⟩
    subst hN
    go_wp2_with fail
    clear d0 d1 d2 d3 hlt'
    -- 2: dims
    go_loopw [67] (fun s' W => ∃ i : Nat, s' = .int .i64 i ∧ i ≤ nd ∧ Hid (RT w W rn rt pd nd kd ds pm N km ms tn p n k cs) ∧ Hid (∀ (j : Nat) (y : ByteArray), j < i → ds[j]? = some y → lacksB cs y = false)) (fun s' _ => nd - (intOf s').toNat)
    case atStart => exact ⟨0, rfl, by omega, hb, Lib.hid (fun j y hj => by omega)⟩
    case round =>
      clear hb
      obtain ⟨i, rfl, hi, hb, hno⟩ := hrel
      by_cases hlt : i < nd
      · obtain ⟨x, hx⟩ : ∃ x, ds[i]? = some x := ⟨_, List.getElem?_eq_getElem (by rw [LD.out]; exact hlt)⟩
        obtain ⟨ad, rfl⟩ := hb.out.rol.dims.ptr (by omega)
        have c0 := hb.out.rol.dims.cell (show (strs ds)[i]? = some (.string x) by unfold strs; rw [List.getElem?_map, hx]; rfl)
        obtain ⟨d0, d1⟩ := hb.out.tab.cells
        have KC := refColumn_any hb.out.tab.cols hb.out.tab.len HN.out tn x
        obtain ⟨v, hv⟩ := colVal_form cs x
        rw [hv] at KC
        have HX := Lib.hid hx
        have hlt' : (i : Int) < (nd : Int) := Int.ofNat_lt.2 hlt
        have b0 : (0 : Int) ≤ (i : Int) := Int.natCast_nonneg i
        have hw := i_next (p := i) (by have := D8.out; omega)
        have HLT := Lib.hid hlt
        obtain ⟨lb, hlb⟩ : ∃ b, lacksB cs x = b := ⟨_, rfl⟩
        rw [hlb] at KC
        have HLB := Lib.hid hlb
        generalize kindAt cs x = K at *
        clear hx hi hlt hv hlb
        cases lb
        · have HNO := Lib.hid (no_next hno.out HX.out HLB.out)
          clear hno
          go_wp2_with fail
          refine KC.mono ?_
          rintro e w2 ⟨rfl, hb2⟩
          have HB2 := Lib.hid (hb.out.next hb2)
          clear hb hb2 KC c0 d0 d1
          go_wp2_with fail
          go_roundw
          case rel => exact ⟨i + 1, by go_num, by have := HLT.out; omega, HB2, HNO⟩
          case measure => have := HLT.out; simp [intOf]; omega
        · have HE : Hid (R = 13) := Lib.hid (by rw [← HR.out]; exact rol_13 H1.out H2.out H3.out (by rw [is_any HX.out HLB.out]; rfl))
          clear hno
          go_wp2_with fail
          refine KC.mono ?_
          rintro e w2 ⟨rfl, hb2⟩
          have HB2 := Lib.hid (hb.out.next hb2)
          clear hb hb2 KC c0 d0 d1
          go_wp2_with fail
          go_ret
          exact ⟨ret_int HE.out.symm, HB2.out.below⟩
      have hin : i = nd := by omega
      subst hin
      have H4a : Hid (ds.any (lacksB cs) = false) := Lib.hid (no_any LD.out hno.out)
      obtain ⟨d0, d1, d2, d3⟩ := hb.out.rol.cells
      have hlt' : ¬ ((i : Int) < (i : Int)) := by omega
      clear hno hlt hi
      obtain ⟨D, hD⟩ : ∃ N, N = i := ⟨_, rfl⟩
      subst hD
      go_wp2_with fail
      clear d0 d1 d2 d3 hlt'
      -- 3: columns of measures
      go_loopw [84] (fun s' W => ∃ i : Nat, s' = .int .i64 i ∧ i ≤ N ∧ Hid (RT w W rn rt pd D kd ds pm N km ms tn p n k cs) ∧ Hid (∀ (j : Nat) (y : Int × ByteArray), j < i → ms[j]? = some y → lacksB cs y.2 = false)) (fun s' _ => N - (intOf s').toNat)
      case atStart => exact ⟨0, rfl, by omega, hb, Lib.hid (fun j y hj => by omega)⟩
      case round =>
        clear hb
        obtain ⟨i, rfl, hi, hb, hno⟩ := hrel
        by_cases hlt : i < N
        · obtain ⟨x, hx⟩ : ∃ x, ms[i]? = some x := ⟨_, List.getElem?_eq_getElem (by rw [LM.out]; exact hlt)⟩
          obtain ⟨ad, rfl, c0, c1⟩ := hb.out.rol.meas.at_ (show (ms.map meaC)[i]? = some (meaC x) by rw [List.getElem?_map, hx]; rfl)
          obtain ⟨z, x⟩ := x
          simp only [meaC] at c0 c1
          have hB1 := hb.out.next (box_below wr (.cells #[.int .i64 z, .string x] 41))
          obtain ⟨d0, d1⟩ := hB1.tab.cells
          have KC := refColumn_any hB1.tab.cols hB1.tab.len HN.out tn x
          obtain ⟨v, hv⟩ := colVal_form cs x
          rw [hv] at KC
          have HB1 := Lib.hid hB1
          have HX := Lib.hid hx
          have hlt' : (i : Int) < (N : Int) := Int.ofNat_lt.2 hlt
          have b0 : (0 : Int) ≤ (i : Int) := Int.natCast_nonneg i
          have hw := i_next (p := i) (by have := M16.out; omega)
          have HLT := Lib.hid hlt
          obtain ⟨lb, hlb⟩ : ∃ b, lacksB cs x = b := ⟨_, rfl⟩
          rw [hlb] at KC
          have HLB := Lib.hid hlb
          generalize kindAt cs x = K at *
          clear hx hi hlt hv hlb hB1 hb
          cases lb
          · have HNO := Lib.hid (no_next hno.out HX.out HLB.out)
            clear hno
            go_wp2_with fail
            refine KC.mono ?_
            rintro e w2 ⟨rfl, hb2⟩
            have HB2 := Lib.hid (HB1.out.next hb2)
            clear hb2 KC c0 c1 d0 d1 HB1
            go_wp2_with fail
            go_roundw
            case rel => exact ⟨i + 1, by go_num, by have := HLT.out; omega, HB2, HNO⟩
            case measure => have := HLT.out; simp [intOf]; omega
          · have HE : Hid (R = 13) := Lib.hid (by rw [← HR.out]; exact rol_13 H1.out H2.out H3.out (by rw [is_any (p := fun m : Int × ByteArray => lacksB cs m.2) HX.out HLB.out]; simp))
            clear hno
            go_wp2_with fail
            refine KC.mono ?_
            rintro e w2 ⟨rfl, hb2⟩
            have HB2 := Lib.hid (HB1.out.next hb2)
            clear hb2 KC c0 c1 d0 d1 HB1
            go_wp2_with fail
            go_ret
            exact ⟨ret_int HE.out.symm, HB2.out.below⟩
        have hin : i = N := by omega
        have H4 : Hid ((ds.any (lacksB cs) || ms.any fun m => lacksB cs m.2) = false) := Lib.hid (by rw [H4a.out, no_any (p := fun m : Int × ByteArray => lacksB cs m.2) LM.out (by rw [← hin]; exact hno.out)]; rfl)
        obtain ⟨d0, d1, d2, d3⟩ := hb.out.rol.cells
        have hlt' : ¬ ((i : Int) < (N : Int)) := by omega
        clear hno hlt hi hin
        go_wp2_with fail
        clear d0 d1 d2 d3 hlt'
        -- 4: dims twice
        go_loopw [102] (fun s' W => ∃ i : Nat, s' = .int .i64 i ∧ i ≤ D ∧ Hid (RT w W rn rt pd D kd ds pm N km ms tn p n k cs) ∧ Hid ((ds.take i).Nodup)) (fun s' _ => D - (intOf s').toNat)
        case atStart => exact ⟨0, rfl, by omega, hb, Lib.hid (by simp)⟩
        case round =>
          clear hb
          obtain ⟨i, rfl, hi, hb, hno⟩ := hrel
          by_cases hlt : i < D
          · obtain ⟨x, hx⟩ : ∃ x, ds[i]? = some x := ⟨_, List.getElem?_eq_getElem (by rw [LD.out]; exact hlt)⟩
            obtain ⟨ad, rfl⟩ := hb.out.rol.dims.ptr (by omega)
            have c0 := hb.out.rol.dims.cell (show (strs ds)[i]? = some (.string x) by unfold strs; rw [List.getElem?_map, hx]; rfl)
            have HX := Lib.hid hx
            have hlt' : (i : Int) < (D : Int) := Int.ofNat_lt.2 hlt
            have b0 : (0 : Int) ≤ (i : Int) := Int.natCast_nonneg i
            have hw := i_next (p := i) (by have := D8.out; omega)
            have HLT := Lib.hid hlt
            clear hx hi hlt
            go_wp2_with fail
            clear c0
            go_loopw [19] (fun s' W => ∃ j : Nat, s' = .int .i64 j ∧ j ≤ i ∧ Hid (RT w W rn rt (some ad) D kd ds pm N km ms tn p n k cs) ∧ Hid (∀ (m : Nat), m < j → ds[m]? ≠ some x)) (fun s' _ => i - (intOf s').toNat)
            case atStart => exact ⟨0, rfl, by omega, hb, Lib.hid (fun m hm => by omega)⟩
            case round =>
              clear hb
              obtain ⟨j, rfl, hj, hb, hnoj⟩ := hrel
              obtain ⟨y, hy⟩ : ∃ y, ds[j]? = some y := ⟨_, List.getElem?_eq_getElem (by have := LD.out; have := HLT.out; omega)⟩
              have HLJ : Hid (j < D) := Lib.hid (by have := HLT.out; omega)
              by_cases hji : j < i
              · have c0 := hb.out.rol.dims.cell (show (strs ds)[j]? = some (.string y) by unfold strs; rw [List.getElem?_map, hy]; rfl)
                obtain ⟨d0, d1, d2, d3⟩ := hb.out.rol.cells
                have HY := Lib.hid hy
                have l1 : (j : Int) < (i : Int) := Int.ofNat_lt.2 hji
                have l2 : (j : Int) < (D : Int) := by have := HLJ.out; omega
                have l0 : (0 : Int) ≤ (j : Int) := Int.natCast_nonneg j
                have hwj := i_next (p := j) (by have := D8.out; have := HLJ.out; omega)
                have HJI := Lib.hid hji
                have t0 := same_str y x
                cases hq : decide (y = x)
                · rw [hq] at t0
                  have HNO : Hid (∀ (m : Nat), m < j + 1 → ds[m]? ≠ some x) := Lib.hid (fun m hm h => by
                    by_cases e : m = j
                    · subst e; rw [HY.out] at h; cases h; exact absurd rfl (of_decide_eq_false hq)
                    · exact hnoj.out m (by omega) h)
                  clear hy hq hji hj hnoj
                  go_wp2_with fail
                  go_roundw
                  case rel => exact ⟨j + 1, by go_num, by have := HJI.out; omega, hb, HNO⟩
                  case measure => have := HJI.out; simp [intOf]; omega
                · rw [hq] at t0
                  have hv := of_decide_eq_true hq
                  subst hv
                  have HE : Hid (R = 5) := Lib.hid (by
                    rw [← HR.out]; exact rol_5 H1.out H2.out H3.out H4.out (by rw [dup_yes hji HY.out HX.out]; rfl))
                  clear hy hq hji hj hnoj
                  go_wp2_with fail
                  go_ret
                  exact ⟨ret_int HE.out.symm, hb.out.below⟩
              · have hji2 : j = i := by omega
                subst hji2
                have HNO := Lib.hid (nodup_snoc HX.out hno.out hnoj.out)
                have l1 : ¬ ((j : Int) < (j : Int)) := by omega
                clear hy hji hj hnoj hno
                go_wp2_with fail
                go_roundw
                case rel => exact ⟨j + 1, by go_num, by have := HLT.out; omega, hb, HNO⟩
                case measure => have := HLT.out; simp [intOf]; omega
          have hin : i = D := by omega
          have H5a : Hid (dupL ds = false) := Lib.hid (dup_no (by rw [LD.out, ← hin]; exact hno.out))
          obtain ⟨d0, d1, d2, d3⟩ := hb.out.rol.cells
          have hlt' : ¬ ((i : Int) < (D : Int)) := by omega
          clear hno hlt hi hin
          go_wp2_with fail
          clear d0 d1 d2 d3 hlt'
          -- 5: measures twice
          go_loopw [123] (fun s' W => ∃ i : Nat, s' = .int .i64 i ∧ i ≤ N ∧ Hid (RT w W rn rt pd D kd ds pm N km ms tn p n k cs) ∧ Hid ((ms.take i).Nodup)) (fun s' _ => N - (intOf s').toNat)
          case atStart => exact ⟨0, rfl, by omega, hb, Lib.hid (by simp)⟩
          case round =>
            clear hb
            obtain ⟨i, rfl, hi, hb, hno⟩ := hrel
            obtain ⟨vr, hvr⟩ : ∃ v, v = wr := ⟨_, rfl⟩
            subst hvr
            by_cases hlt : i < N
            · obtain ⟨x, hx⟩ : ∃ x, ms[i]? = some x := ⟨_, List.getElem?_eq_getElem (by rw [LM.out]; exact hlt)⟩
              obtain ⟨ad, rfl, c0, c1⟩ := hb.out.rol.meas.at_ (show (ms.map meaC)[i]? = some (meaC x) by rw [List.getElem?_map, hx]; rfl)
              obtain ⟨z, x⟩ := x
              simp only [meaC] at c0 c1
              have HX := Lib.hid hx
              have hlt' : (i : Int) < (N : Int) := Int.ofNat_lt.2 hlt
              have b0 : (0 : Int) ≤ (i : Int) := Int.natCast_nonneg i
              have hw := i_next (p := i) (by have := M16.out; omega)
              have HLT := Lib.hid hlt
              have HS0 : Hid (RT w (vr.alloc (.cells #[.int .i64 z, .string x] 41)) rn rt pd D kd ds (some ad) N km ms tn p n k cs ∧ (vr.alloc (.cells #[.int .i64 z, .string x] 41)).heap[vr.heap.size]? = some (.cells #[.int .i64 z, .string x] 41 (0, 0))) :=
                Lib.hid ⟨hb.out.next (box_below vr _), heap_alloc_new vr _⟩
              clear hx hi hlt hb
              go_wp2_with fail
              clear c0 c1
              go_loopw [22] (fun s' W => ∃ j : Nat, s' = .int .i64 j ∧ j ≤ i ∧ Hid (RT w W rn rt pd D kd ds (some ad) N km ms tn p n k cs ∧ W.heap[vr.heap.size]? = some (.cells #[.int .i64 z, .string x] 41 (0, 0))) ∧ Hid (∀ (m : Nat), m < j → ms[m]? ≠ some (z, x))) (fun s' _ => i - (intOf s').toNat)
              case atStart => exact ⟨0, rfl, by omega, HS0, Lib.hid (fun m hm => by omega)⟩
              case round =>
                clear HS0
                obtain ⟨j, rfl, hj, hb, hnoj⟩ := hrel
                obtain ⟨y, hy⟩ : ∃ y, ms[j]? = some y := ⟨_, List.getElem?_eq_getElem (by have := LM.out; have := HLT.out; omega)⟩
                have HLJ : Hid (j < N) := Lib.hid (by have := HLT.out; omega)
                by_cases hji : j < i
                · obtain ⟨ad', e', c0, c1⟩ := hb.out.1.rol.meas.at_ (show (ms.map meaC)[j]? = some (meaC y) by rw [List.getElem?_map, hy]; rfl)
                  cases e'
                  obtain ⟨z', y⟩ := y
                  simp only [meaC] at c0 c1
                  obtain ⟨d0, d1, d2, d3⟩ := hb.out.1.rol.cells
                  have e0 := cell_of_row _ _ 0 _ _ _ hb.out.2
                  have e1 := cell_of_row _ _ 1 _ _ _ hb.out.2
                  simp at e0 e1
                  have KE := fun W => eql_mea W z' y z x
                  have KU := fun W o a b => guard_mea W o a b z' y z x
                  have HY := Lib.hid hy
                  have l1 : (j : Int) < (i : Int) := Int.ofNat_lt.2 hji
                  have l2 : (j : Int) < (N : Int) := by have := HLJ.out; omega
                  have l0 : (0 : Int) ≤ (j : Int) := Int.natCast_nonneg j
                  have hwj := i_next (p := j) (by have := M16.out; have := HLJ.out; omega)
                  have HJI := Lib.hid hji
                  have t0 := same_mea (z', y) (z, x)
                  cases hq : decide ((z', y) = (z, x))
                  · rw [hq] at t0
                    have HNO : Hid (∀ (m : Nat), m < j + 1 → ms[m]? ≠ some (z, x)) := Lib.hid (fun m hm h => by
                      by_cases e : m = j
                      · subst e; rw [HY.out] at h; cases h; exact absurd rfl (of_decide_eq_false hq)
                      · exact hnoj.out m (by omega) h)
                    have HS2 := Lib.hid (fun n' => And.intro (hb.out.1.drewN n') (show (wr.drewN n').heap[vr.heap.size]? = some (.cells #[.int .i64 z, .string x] 41 (0, 0)) from hb.out.2))
                    clear hy hq hji hj hb hnoj
                    go_wp2_with fail
                    go_quiet (fail)
                    go_wp2_with fail
                    go_roundw
                    case rel => exact ⟨j + 1, by go_num, by have := HJI.out; omega, Lib.hid (HS2.out _), HNO⟩
                    case measure => have := HJI.out; simp [intOf]; omega
                  · rw [hq] at t0
                    have hv := of_decide_eq_true hq
                    cases hv
                    have HE : Hid (R = 5) := Lib.hid (by
                      rw [← HR.out]; exact rol_5 H1.out H2.out H3.out H4.out (by rw [dup_yes hji HY.out HX.out]; simp))
                    clear hy hq hji hj hnoj
                    go_wp2_with fail
                    go_quiet (fail)
                    go_wp2_with fail
                    go_ret
                    exact ⟨ret_int HE.out.symm, bel_dN hb.out.1.below _⟩
                · have hji2 : j = i := by omega
                  subst hji2
                  have HNO := Lib.hid (nodup_snoc HX.out hno.out hnoj.out)
                  have HB := Lib.hid hb.out.1
                  have l1 : ¬ ((j : Int) < (j : Int)) := by omega
                  clear hy hji hj hnoj hno hb
                  go_wp2_with fail
                  go_roundw
                  case rel => exact ⟨j + 1, by go_num, by have := HLT.out; omega, HB, HNO⟩
                  case measure => have := HLT.out; simp [intOf]; omega
            have hin : i = N := by omega
            have H6 := Lib.hid (rol_l H1.out H2.out H3.out H4.out (show (dupL ds || dupL ms) = false by rw [H5a.out, dup_no (by rw [LM.out, ← hin]; exact hno.out)]; rfl))
            obtain ⟨d0, d1, d2, d3⟩ := hb.out.rol.cells
            have hlt' : ¬ ((i : Int) < (N : Int)) := by omega
            clear hno hlt hi hin
            go_wp2_with fail
            clear d0 d1 d2 d3 hlt'
            -- 6: kinds that do not fit
            go_loopw [144] (fun s' W => ∃ i : Nat, s' = .int .i64 i ∧ i ≤ N ∧ Hid (RT w W rn rt pd D kd ds pm N km ms tn p n k cs) ∧ Hid (∀ (j : Nat) (y : Int × ByteArray), j < i → ms[j]? = some y → noMea y.1 (kindAt cs y.2) = false)) (fun s' _ => N - (intOf s').toNat)
            case atStart => exact ⟨0, rfl, by omega, hb, Lib.hid (fun j y hj => by omega)⟩
            case round =>
              clear hb
              obtain ⟨i, rfl, hi, hb, hno⟩ := hrel
              by_cases hlt : i < N
              · obtain ⟨x, hx⟩ : ∃ x, ms[i]? = some x := ⟨_, List.getElem?_eq_getElem (by rw [LM.out]; exact hlt)⟩
                obtain ⟨ad, rfl, c0, c1⟩ := hb.out.rol.meas.at_ (show (ms.map meaC)[i]? = some (meaC x) by rw [List.getElem?_map, hx]; rfl)
                obtain ⟨z, x⟩ := x
                simp only [meaC] at c0 c1
                have hB1 := hb.out.next (box_below wr (.cells #[.int .i64 z, .string x] 41))
                obtain ⟨d0, d1⟩ := hB1.tab.cells
                have KC := refColumn_any hB1.tab.cols hB1.tab.len HN.out tn x
                obtain ⟨v, hv⟩ := colVal_form cs x
                rw [hv] at KC
                have HB1 := Lib.hid hB1
                have HX := Lib.hid hx
                have hlt' : (i : Int) < (N : Int) := Int.ofNat_lt.2 hlt
                have b0 : (0 : Int) ≤ (i : Int) := Int.natCast_nonneg i
                have hw := i_next (p := i) (by have := M16.out; omega)
                have HLT := Lib.hid hlt
                obtain ⟨K, hK⟩ : ∃ K, kindAt cs x = K := ⟨_, rfl⟩
                rw [hK] at KC
                have HKK := Lib.hid hK
                generalize (!lacksB cs x) = LB at *
                clear hx hi hlt hv hB1 hb hK
                cases q1 : (z == 2)
                all_goals cases q2 : (z == 6)
                all_goals cases q3 : (K == 1)
                all_goals cases q4 : (K == 2)
                all_goals (
                  have r3 : (K != 1) = !(K == 1) := rfl
                  have r4 : (K != 2) = !(K == 2) := rfl
                  rw [q3] at r3
                  rw [q4] at r4
                  have HA : Hid (noMea z K = (((z == 2) && (K != 1)) || ((z == 6) && ((K != 1) && (K != 2))))) := Lib.hid rfl
                  go_wp2_with fail
                  refine KC.mono ?_
                  rintro e w2 ⟨rfl, hb2⟩
                  have HB2 := Lib.hid (HB1.out.next hb2)
                  have e0 := cell_of_row _ _ 0 _ _ _ (boxed hb2)
                  simp at e0
                  clear hb2 KC c0 c1 d0 d1 HB1
                  go_wp2_with fail
                  first
                  | (have HE : Hid (R = 12) := Lib.hid (by
                       rw [← HR.out, H6.out, is_any (p := fun m : Int × ByteArray => noMea m.1 (kindAt cs m.2)) HX.out (by simp only [HKK.out]; rw [HA.out, q1, q2, r3, r4]; rfl)]; rfl)
                     go_ret
                     exact ⟨ret_int HE.out.symm, HB2.out.below⟩)
                  | (have HNO := Lib.hid (no_next (p := fun m : Int × ByteArray => noMea m.1 (kindAt cs m.2)) hno.out HX.out (by simp only [HKK.out]; rw [HA.out, q1, q2, r3, r4]; rfl))
                     go_roundw
                     case rel => exact ⟨i + 1, by go_num, by have := HLT.out; omega, HB2, HNO⟩
                     case measure => have := HLT.out; simp [intOf]; omega))
              have hin : i = N := by omega
              have HE : Hid (R = 0) := Lib.hid (by rw [← HR.out, H6.out, no_any (p := fun m : Int × ByteArray => noMea m.1 (kindAt cs m.2)) LM.out (by rw [← hin]; exact hno.out)]; rfl)
              have hlt' : ¬ ((i : Int) < (N : Int)) := by omega
              clear hno hlt hi hin
              go_wp2_with fail
              go_ret
              exact ⟨ret_int HE.out.symm, hb.out.below⟩
end Go.Proofs.Ytjlpmhjnfgmmcaa
