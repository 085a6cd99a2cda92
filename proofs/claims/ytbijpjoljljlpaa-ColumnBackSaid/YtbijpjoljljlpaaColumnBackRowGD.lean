/- The texts ColJ ColK ColM ColN, one behind the other; each one's own comment says what it holds. -/
import Derived.Test.YtbijpjoljljlpaaColumnBackRowGC
import Derived.Test.YtbijpjoljljlpaaCodecPut
import Derived.Test.YtbijpjoljljlpaaColumnBackRowGB
import Derived.Test.YtbijpjoljljlpaaColumnBackRowGA
import Derived.Test.YtbijpjoljljlpaaSched2
import Derived.Test.YtbijpjoljljlpaaCodecGet
/- The shortest encoding. Conditions: none. -/
set_option maxRecDepth 100000
namespace Go.Proofs.Ytbijpjoljljlpaa
open Go.RowKit Go.Maps Go.Sort

theorem best_pos (l : List Int) (m : Nat) (hm : 0 < m) : 0 < (bestAt l m).length := by
  have a : 0 < (bA l).length := by simp [bA]
  have b : 0 < (bB l).length := by simp [bB]
  have c : 0 < (bC l).length := by simp [bC]
  have d : 0 < (best2 l).length := by unfold best2; split <;> assumption
  have e : 0 < (shortL l).length := by unfold shortL; split <;> assumption
  rcases m with _ | _ | _ | m
  · omega
  · exact a
  · exact d
  · exact e
theorem encs_len (l : List Int) (hl : l.length ≤ 1000) : (encA (idsU l)).length ≤ 1000000 ∧ (encB (idsU l)).length ≤ 1000000 ∧ (deltaL 0 l).length ≤ 1000000 := by
  have h1 := packAns_len (wdU (idsU l)) (idsU l)
  have h2 : (idsU l).length = l.length := by simp [idsU]
  have h3 := runsB_len (runsOf (idsU l)) (fun p hp => by have := (runs_le (idsU l)).2 p hp; omega)
  have h4 := (runs_le (idsU l)).1
  have h5 := deltaL_len l 0
  refine ⟨?_, ?_, by omega⟩
  · simp only [encA, List.length_cons]; omega
  · have : 20 * (runsOf (idsU l)).length ≤ 20 * l.length := by omega
    unfold encB; omega
theorem app_empty (L : List UInt8) (x : UInt8) : (x :: L).length = L.length + 1 := rfl
theorem index_fns (G B : Nat) (w : World) : ((Instr.index 56 (fnsV G B) (.int .i64 0)).run Try.prog w = .ok (.func (.func 35) #[] #[.pointer (some ⟨G, 0, none⟩)]) w ∧
    (Instr.index 56 (fnsV G B) (.int .i64 1)).run Try.prog w = .ok (.func (.func 37) #[] #[.pointer (some ⟨G, 0, none⟩)]) w) ∧ (Instr.index 56 (fnsV G B) (.int .i64 2)).run Try.prog w = .ok (.func (.func 39) #[] #[.pointer (some ⟨B, 0, none⟩)]) w :=
  ⟨⟨by kernel_rfl, by kernel_rfl⟩, by kernel_rfl⟩
set_option maxHeartbeats 1600000 in
theorem shortest_any {w : World} {a : Option Addr} {n k : Nat} {l : List Int} (h : Holds w (.slice a n k) (i64s l)) (hl : l.length ≤ 1000) :
    Calls Try.prog 16 #[.slice a n k] w (OutH w (u8s (shortL l))) := by
  have KE := encodings_any h hl
  have HX := Lib.hid (fun (V : World) (hv : Below w.heap.size w V) => h.below hv)
  have HL := Lib.hid (encs_len l hl)
  have HLL := Lib.hid hl
  have w0 : IntKind.u8.wrap 0 = 0 := by rw [IntKind.wrap_u8]; omega
  have w1 : IntKind.u8.wrap 1 = 1 := by rw [IntKind.wrap_u8]; omega
  have w2 : IntKind.u8.wrap 2 = 2 := by rw [IntKind.wrap_u8]; omega
  have x0 : IntKind.i64.wrap 1 = 1 := by rw [IntKind.wrap_i64]; omega
  have x1 : IntKind.i64.wrap 2 = 2 := by rw [IntKind.wrap_i64]; omega
  have x2 : IntKind.i64.wrap 3 = 3 := by rw [IntKind.wrap_i64]; omega
  clear h hl
  go_enter Try.func16, Try.ntmps16
  go_wp2_with fail
  refine KE.mono ?_
  rintro e V1 ⟨G, B, ua, uk, rfl, HE⟩
  clear KE
  have hi0 := fun V => (index_fns G B V).1.1
  have hi1 := fun V => (index_fns G B V).1.2
  have hi2 := fun V => (index_fns G B V).2
  unfold fnsV at *
  have HB1 : Hid (Below V1.heap.size V1 V1) := Lib.hid (Below.refl _ _)
  go_wp2_with fail
  go_loopw [3, 9] (fun v s wr => ∃ (m q : Nat) (va : Option Addr) (vc : Nat), v = .slice va q vc ∧ s = .int .i64 m ∧ m ≤ 3 ∧ Hid (q = (bestAt l m).length ∧ Holds wr (.slice va q vc) (u8s (bestAt l m)) ∧ Below V1.heap.size V1 wr)) (fun _ s _ => 3 - (RowKit.intOf s).toNat)
  case atStart => exact ⟨0, 0, none, 0, rfl, rfl, by omega, Lib.hid ⟨rfl, Holds.nil _, Below.refl _ _⟩⟩
  case round =>
    obtain ⟨m, q, va, vc, rfl, rfl, hm, HS⟩ := hrel
    by_cases hlt : m < 3
    · obtain ⟨hq, hv, hb⟩ := HS.out
      have hcG : wr.cell? ⟨G, 0, none⟩ = some (.slice ua n uk) := by rw [hb.cell (World.block_lt_of_cell? V1 _ HE.out.1)]; exact HE.out.1
      have hu := HE.out.2.1.below hb
      have hcB : wr.cell? ⟨B, 0, none⟩ = some (.slice a n k) := by rw [hb.cell (World.block_lt_of_cell? V1 _ HE.out.2.2.1)]; exact HE.out.2.2.1
      have hi := HX.out wr (HE.out.2.2.2.trans (hb.mono HE.out.2.2.2.size))
      have hul : (idsU l).length ≤ 1000 := by simp only [idsU, List.length_map]; exact HLL.out
      obtain rfl | rfl | rfl : m = 0 ∨ m = 1 ∨ m = 2 := by omega
      · have hbx := below_box wr (.cells #[.int .u8 0] 5)
        have K := enc1_any (cell_more hcG (.cells #[.int .u8 0] 5)) (hu.below hbx) hul
        have hel : (u8s (encA (idsU l))).length = (encA (idsU l)).length := u8s_len _
        unfold OutH at K
        rw [hel] at K
        have HA := Lib.hid (fun (W3 : World) (sv : Value) (hb3 : Below (wr.heap.size + 1) (wr.alloc (.cells #[.int .u8 0] 5)) W3) (hs3 : Holds W3 sv (u8s (encA (idsU l)))) => @app_lit wr W3 0 0 rfl _ sv hb3 hs3 HL.out.1)
        have hbl : 0 :: encA (idsU l) = bA l := rfl
        rw [hbl] at HA
        have HB := Lib.hid hb
        have hq0 : q = 0 := hq
        subst hq0
        clear hcG hu hcB hi hul hbx hq hv hb hel hbl HS
        generalize (encA (idsU l)).length = el at *
        generalize hbq : (bA l).length = bq at *
        have HBQ := Lib.hid hbq
        clear hbq
        go_wp2_with fail
        refine K.mono ?_
        rintro e W3 ⟨ea, ek, rfl, hs3, hb3⟩
        obtain ⟨ra, rk, W4, R, HR⟩ := HA.out W3 _ (hb3.mono (by simp)) hs3
        have hh : Hid (bq = (bestAt l 1).length ∧ Holds W4 (.slice ra bq rk) (u8s (bestAt l 1)) ∧ Below V1.heap.size V1 W4) := Lib.hid ⟨HBQ.out.symm, HR.out.1, HB.out.trans (HR.out.2.mono HB.out.size)⟩
        clear K HA hs3 hb3 HR
        go_wp2_with (at_builtin; refine wpList_append_run rfl _ _ 28 rfl rfl rfl (R.out _) ?_)
        go_roundw
        case rel => exact ⟨1, bq, ra, rk, rfl, rfl, by omega, hh⟩
        case measure => simp [RowKit.intOf]
      · have hbx := below_box wr (.cells #[.int .u8 1] 5)
        have K := enc2_any (cell_more hcG (.cells #[.int .u8 1] 5)) (hu.below hbx) hul
        have hel : (u8s (encB (idsU l))).length = (encB (idsU l)).length := u8s_len _
        unfold OutH at K
        rw [hel] at K
        have HA := Lib.hid (fun (W3 : World) (sv : Value) (hb3 : Below (wr.heap.size + 1) (wr.alloc (.cells #[.int .u8 1] 5)) W3) (hs3 : Holds W3 sv (u8s (encB (idsU l)))) => @app_lit wr W3 1 1 rfl _ sv hb3 hs3 HL.out.2.1)
        have hbl : 1 :: encB (idsU l) = bB l := rfl
        rw [hbl] at HA
        have HB := Lib.hid hb
        have hqp := best_pos l 1 (by omega)
        have t0 : (q == 0) = false := by rw [beq_eq_false_iff_ne]; omega
        have t1 : ((q : Int) == 0) = false := by rw [beq_eq_false_iff_ne]; omega
        have HQ := Lib.hid hq
        have HV := Lib.hid hv
        have hnx : bestAt l 2 = if (bB l).length < (bestAt l 1).length then bB l else bestAt l 1 := rfl
        rw [← hq] at hnx
        clear hcG hu hcB hi hul hbx hq hv hb hel hbl HS hqp
        generalize (encB (idsU l)).length = el at *
        obtain ⟨bq, hbq⟩ : ∃ bq, (bB l).length = bq := ⟨_, rfl⟩
        rw [hbq] at HA hnx
        have HBQ := Lib.hid hbq
        clear hbq
        by_cases hlt2 : bq < q
        · rw [if_pos hlt2] at hnx
          have HN := Lib.hid hnx
          have t2 : decide ((bq : Int) < (q : Int)) = true := decide_eq_true (by omega)
          have t3 : decide (bq < q) = true := decide_eq_true hlt2
          clear hnx hlt2
          go_wp2_with fail
          refine K.mono ?_
          rintro e W3 ⟨ea, ek, rfl, hs3, hb3⟩
          obtain ⟨ra, rk, W4, R, HR⟩ := HA.out W3 _ (hb3.mono (by simp)) hs3
          have hh : Hid (bq = (bestAt l 2).length ∧ Holds W4 (.slice ra bq rk) (u8s (bestAt l 2)) ∧ Below V1.heap.size V1 W4) := Lib.hid (by rw [HN.out]; exact ⟨HBQ.out.symm, HR.out.1, HB.out.trans (HR.out.2.mono HB.out.size)⟩)
          clear K HA hs3 hb3 HR
          go_wp2_with (at_builtin; refine wpList_append_run rfl _ _ 28 rfl rfl rfl (R.out _) ?_)
          go_roundw
          case rel => exact ⟨2, bq, ra, rk, rfl, rfl, by omega, hh⟩
          case measure => simp [RowKit.intOf]
        · rw [if_neg hlt2] at hnx
          have HN := Lib.hid hnx
          have t2 : decide ((bq : Int) < (q : Int)) = false := decide_eq_false (by omega)
          have t3 : decide (bq < q) = false := decide_eq_false hlt2
          clear hnx hlt2
          go_wp2_with fail
          refine K.mono ?_
          rintro e W3 ⟨ea, ek, rfl, hs3, hb3⟩
          obtain ⟨ra, rk, W4, R, HR⟩ := HA.out W3 _ (hb3.mono (by simp)) hs3
          have hh : Hid (q = (bestAt l 2).length ∧ Holds W4 (.slice va q vc) (u8s (bestAt l 2)) ∧ Below V1.heap.size V1 W4) := Lib.hid (by rw [HN.out]; exact ⟨HQ.out, HV.out.below HR.out.2, HB.out.trans (HR.out.2.mono HB.out.size)⟩)
          clear K HA hs3 hb3 HR
          go_wp2_with (at_builtin; refine wpList_append_run rfl _ _ 28 rfl rfl rfl (R.out _) ?_)
          go_roundw
          case rel => exact ⟨2, q, va, vc, rfl, rfl, by omega, hh⟩
          case measure => simp [RowKit.intOf]
      · have hbx := below_box wr (.cells #[.int .u8 2] 5)
        have K := enc3_any (cell_more hcB (.cells #[.int .u8 2] 5)) (hi.below hbx) HLL.out
        have hel : (u8s (deltaL 0 l)).length = (deltaL 0 l).length := u8s_len _
        unfold OutH at K
        rw [hel] at K
        have HA := Lib.hid (fun (W3 : World) (sv : Value) (hb3 : Below (wr.heap.size + 1) (wr.alloc (.cells #[.int .u8 2] 5)) W3) (hs3 : Holds W3 sv (u8s (deltaL 0 l))) => @app_lit wr W3 2 2 rfl _ sv hb3 hs3 HL.out.2.2)
        have hbl : 2 :: deltaL 0 l = bC l := rfl
        rw [hbl] at HA
        have HB := Lib.hid hb
        have hqp := best_pos l 2 (by omega)
        have t0 : (q == 0) = false := by rw [beq_eq_false_iff_ne]; omega
        have t1 : ((q : Int) == 0) = false := by rw [beq_eq_false_iff_ne]; omega
        have HQ := Lib.hid hq
        have HV := Lib.hid hv
        have hnx : bestAt l 3 = if (bC l).length < (bestAt l 2).length then bC l else bestAt l 2 := rfl
        rw [← hq] at hnx
        clear hcG hu hcB hi hul hbx hq hv hb hel hbl HS hqp
        generalize (deltaL 0 l).length = el at *
        obtain ⟨bq, hbq⟩ : ∃ bq, (bC l).length = bq := ⟨_, rfl⟩
        rw [hbq] at HA hnx
        have HBQ := Lib.hid hbq
        clear hbq
        by_cases hlt2 : bq < q
        · rw [if_pos hlt2] at hnx
          have HN := Lib.hid hnx
          have t2 : decide ((bq : Int) < (q : Int)) = true := decide_eq_true (by omega)
          have t3 : decide (bq < q) = true := decide_eq_true hlt2
          clear hnx hlt2
          go_wp2_with fail
          refine K.mono ?_
          rintro e W3 ⟨ea, ek, rfl, hs3, hb3⟩
          obtain ⟨ra, rk, W4, R, HR⟩ := HA.out W3 _ (hb3.mono (by simp)) hs3
          have hh : Hid (bq = (bestAt l 3).length ∧ Holds W4 (.slice ra bq rk) (u8s (bestAt l 3)) ∧ Below V1.heap.size V1 W4) := Lib.hid (by rw [HN.out]; exact ⟨HBQ.out.symm, HR.out.1, HB.out.trans (HR.out.2.mono HB.out.size)⟩)
          clear K HA hs3 hb3 HR
          go_wp2_with (at_builtin; refine wpList_append_run rfl _ _ 28 rfl rfl rfl (R.out _) ?_)
          go_roundw
          case rel => exact ⟨3, bq, ra, rk, rfl, rfl, by omega, hh⟩
          case measure => simp [RowKit.intOf]
        · rw [if_neg hlt2] at hnx
          have HN := Lib.hid hnx
          have t2 : decide ((bq : Int) < (q : Int)) = false := decide_eq_false (by omega)
          have t3 : decide (bq < q) = false := decide_eq_false hlt2
          clear hnx hlt2
          go_wp2_with fail
          refine K.mono ?_
          rintro e W3 ⟨ea, ek, rfl, hs3, hb3⟩
          obtain ⟨ra, rk, W4, R, HR⟩ := HA.out W3 _ (hb3.mono (by simp)) hs3
          have hh : Hid (q = (bestAt l 3).length ∧ Holds W4 (.slice va q vc) (u8s (bestAt l 3)) ∧ Below V1.heap.size V1 W4) := Lib.hid (by rw [HN.out]; exact ⟨HQ.out, HV.out.below HR.out.2, HB.out.trans (HR.out.2.mono HB.out.size)⟩)
          clear K HA hs3 hb3 HR
          go_wp2_with (at_builtin; refine wpList_append_run rfl _ _ 28 rfl rfl rfl (R.out _) ?_)
          go_roundw
          case rel => exact ⟨3, q, va, vc, rfl, rfl, by omega, hh⟩
          case measure => simp [RowKit.intOf]
    · obtain rfl : m = 3 := by omega
      have HF : Hid (OutH w (u8s (shortL l)) (.returned (.slice va q vc)) wr) := Lib.hid (by
        obtain ⟨hq, hv, hb⟩ := HS.out
        have hq2 : (u8s (shortL l)).length = q := by rw [u8s_len]; exact hq.symm
        exact ⟨va, vc, by rw [hq2], by rw [hq2]; exact hv, HE.out.2.2.2.trans (hb.mono HE.out.2.2.2.size)⟩)
      clear HS
      go_wp2_with fail
      go_ret
      exact HF.out
end Go.Proofs.Ytbijpjoljljlpaa
/- Bytes of a vector. Conditions: none. -/
set_option maxRecDepth 100000
namespace Go.Proofs.Ytbijpjoljljlpaa
open Go.RowKit Go.Maps Go.Sort

def bytesC (c : CV) : List UInt8 := dig c.il.length ++ (packAns 1 (c.nl.map markU)).1 ++ shortL c.il
def bytV (c : CV) : List UInt8 := if goodC c then bytesC c else []
def bytE (c : CV) : Int := if goodC c then 0 else 2
/-- bytes and an error come out -/
def OutB (w : World) (L : List UInt8) (E : Int) (e : Ending) (w' : World) : Prop := ∃ a k, e = .returned (.tuple #[.slice a L.length k, .int .i64 E]) ∧ Holds w' (.slice a L.length k) (u8s L) ∧ Below w.heap.size w w'
theorem short_len (l : List Int) (hl : l.length ≤ 1000) : (shortL l).length ≤ 2000001 := by
  obtain ⟨h1, h2, h3⟩ := encs_len l hl
  have a : (bA l).length ≤ 2000001 := by simp only [bA, List.length_cons]; omega
  have b : (bB l).length ≤ 2000001 := by simp only [bB, List.length_cons]; omega
  have c : (bC l).length ≤ 2000001 := by simp only [bC, List.length_cons]; omega
  have d : (best2 l).length ≤ 2000001 := by unfold best2; split <;> assumption
  unfold shortL; split <;> assumption
theorem marks_len (c : CV) : (packAns 1 (c.nl.map markU)).1.length ≤ 8 * c.nl.length + 1 := by
  have := packAns_len 1 (c.nl.map markU)
  simp only [List.length_map] at this
  exact this
set_option maxHeartbeats 1600000 in
theorem cbytes_any {w : World} {a1 a2 : Option Addr} {n1 n2 k1 k2 : Nat} {c : CV} (h1 : Holds w (.slice a1 n1 k1) (bls c.nl)) (h2 : Holds w (.slice a2 n2 k2) (i64s c.il)) :
    Calls Try.prog 5 #[.agg #[.slice a1 n1 k1, .slice a2 n2 k2]] w (OutB w (bytV c) (bytE c)) := by
  have hb0 := below_box w (.cells #[.slice a1 n1 k1, .slice a2 n2 k2] 25)
  have HB := Lib.hid hb0
  have KG := cgood_any (h1.below hb0) (h2.below hb0)
  cases hg : goodC c
  · rw [hg] at KG
    have HP : Hid (∀ w', Below w.heap.size w w' → OutB w (bytV c) (bytE c) (.returned (.tuple #[.slice none 0 0, .int .i64 2])) w') := Lib.hid fun w' hb => by
      simp only [bytV, bytE, hg, Bool.false_eq_true, if_false]
      exact ⟨none, 0, rfl, Holds.nil _, hb⟩
    clear h1 h2 hb0 hg
    go_enter Try.func5, Try.ntmps5
    go_wp2_with fail
    refine KG.mono ?_
    rintro e w1 ⟨rfl, hb⟩
    go_wp2_with fail
    go_ret2
    exact HP.out _ (HB.out.trans (hb.mono (by simp)))
  rw [hg] at KG
  obtain ⟨hn, hl, _⟩ := good_iff.1 hg
  have e1 := h1.len.1
  have e2 := h2.len.1
  rw [bls_len] at e1
  rw [i64s_len] at e2
  obtain rfl : n2 = n1 := by omega
  have hml := marks_len c
  have hsl := short_len c.il hl
  have hdl := dig_len10 (u := n2) (by omega)
  have KPut := fun (V : World) => Put_any (xs := []) (show Holds V (.slice none 0 0) (u8s []) from Holds.nil V) n2 (by omega) (by simp)
  simp only [List.nil_append] at KPut
  have H1 := Lib.hid (fun (V : World) (hv : Below w.heap.size w V) => h1.below hv)
  have H2 := Lib.hid (fun (V : World) (hv : Below w.heap.size w V) => h2.below hv)
  have HN : Hid (c.nl.length ≤ 1000 ∧ c.il.length ≤ 1000 ∧ (u64s (c.nl.map markU)).length = n2) := Lib.hid ⟨by omega, hl, by rw [u64s_len, List.length_map, e1]⟩
  have HL : Hid ((dig n2).length + (packAns 1 (c.nl.map markU)).1.length + (shortL c.il).length ≤ 3000000) := Lib.hid (by omega)
  have HF : Hid (bytV c = dig n2 ++ (packAns 1 (c.nl.map markU)).1 ++ shortL c.il ∧ bytE c = 0) := Lib.hid ⟨by simp only [bytV, hg, if_true, bytesC, e2], by simp only [bytE, hg, if_true]⟩
  have hw : IntKind.u64.wrap (n2 : Int) = (n2 : Int) := by rw [IntKind.wrap_u64]; omega
  clear h1 h2 hb0 hg hn hl e1 e2 hml hsl hdl
  obtain ⟨D, hD⟩ : ∃ D, dig n2 = D := ⟨_, rfl⟩
  obtain ⟨M, hM⟩ : ∃ M, (packAns 1 (c.nl.map markU)).1 = M := ⟨_, rfl⟩
  obtain ⟨Z, hZ⟩ : ∃ Z, shortL c.il = Z := ⟨_, rfl⟩
  rw [hD] at KPut
  rw [hD, hM, hZ] at HL HF
  have HM := Lib.hid hM
  have HZ := Lib.hid hZ
  obtain ⟨dl, hdl⟩ : ∃ dl, D.length = dl := ⟨_, rfl⟩
  obtain ⟨ml, hml⟩ : ∃ ml, M.length = ml := ⟨_, rfl⟩
  obtain ⟨zl, hzl⟩ : ∃ zl, Z.length = zl := ⟨_, rfl⟩
  have HDL := Lib.hid hdl
  have HML := Lib.hid hml
  have HZL := Lib.hid hzl
  rw [hdl] at KPut
  rw [hdl, hml, hzl] at HL
  clear hD hM hZ hdl hml hzl
  go_enter Try.func5, Try.ntmps5
  go_wp2_with fail
  refine KG.mono ?_
  rintro e w1 ⟨rfl, hb⟩
  have hb1 : Below (w.heap.size + 1) (w.alloc (.cells #[.slice a1 n2 k1, .slice a2 n2 k2] 25)) w1 := hb.mono (by simp)
  obtain ⟨f0, f1⟩ := box2 hb1
  have HB1 := Lib.hid hb1
  have hs1 : w.heap.size + 1 ≤ w1.heap.size := by have := hb1.size; simpa using this
  have HS1 := Lib.hid hs1
  clear KG hb hb1 hs1
  go_wp2_with fail
  refine (KPut w1).mono ?_
  rintro e w2 ⟨v, rfl, ho, hb2⟩
  obtain ⟨pa, pk, rfl, _⟩ := ownsRow_form ho
  have hbx2 := HB1.out.trans (hb2.mono HS1.out)
  have hbw2 := HB.out.trans (hbx2.mono (by omega))
  obtain ⟨g0, g1⟩ := box2 hbx2
  have KM := marks_any (H1.out w2 hbw2) (by have := HN.out.1; omega)
  rw [map_mark] at KM
  unfold OutF at KM
  rw [HN.out.2.2] at KM
  have HO := Lib.hid ho
  have HBX2 := Lib.hid hbx2
  have HB2 := Lib.hid hb2
  clear KPut f0 f1 ho hb2 hbx2 hbw2
  go_wp2_with fail
  refine KM.mono ?_
  rintro e w3 ⟨rfl, hm3, hb3⟩
  have KP := packed_any hm3 (by rw [List.length_map]; have := HN.out.1; omega) 1
  rw [HM.out] at KP
  unfold OutH at KP
  rw [u8s_len, HML.out] at KP
  have HB3 := Lib.hid hb3
  clear KM hm3 hb3 g0 g1
  go_wp2_with fail
  refine KP.mono ?_
  rintro e w4 ⟨qa, qk, rfl, hq, hb4⟩
  have hb24 := HB3.out.trans (hb4.mono HB3.out.size)
  have ho4 := ownsRow_below HO.out hb24
  have hs24 : w1.heap.size ≤ w4.heap.size := Nat.le_trans HB2.out.size hb24.size
  obtain ⟨v5, w5, R5, o5, g5, _⟩ := app8 (xs := D) (by rw [HDL.out]; exact ho4) hs24 hq (by have := HL.out; have := HDL.out; have := HML.out; omega)
  have hb5 : Below w1.heap.size w1 w5 := (HB2.out.trans (hb24.mono HB2.out.size)).trans (below_grown g5 hs24 (fun k e => (ho4.lt k e).1))
  have hbx5 := HB1.out.trans (hb5.mono HS1.out)
  obtain ⟨f0, f1⟩ := box2 hbx5
  obtain ⟨ra, rk, rfl, _⟩ := ownsRow_form o5
  obtain ⟨dm, hdm⟩ : ∃ dm, (D ++ M).length = dm := ⟨_, rfl⟩
  rw [hdm] at R5 o5
  have HDM := Lib.hid hdm
  clear hdm
  have KS := shortest_any (H2.out w5 (HB.out.trans (hbx5.mono (by omega)))) HN.out.2.1
  rw [HZ.out] at KS
  unfold OutH at KS
  rw [u8s_len, HZL.out] at KS
  have R5' := Lib.hid R5
  have O5 := Lib.hid o5
  have HB5 := Lib.hid hb5
  clear KP hq hb4 hb24 ho4 hs24 R5 o5 g5 hb5 hbx5
  go_wp2_with (at_builtin; refine wpList_append_run rfl _ _ 28 rfl rfl rfl (R5'.out _) ?_)
  refine KS.mono ?_
  rintro e w6 ⟨sa, sk, rfl, hs6, hb6⟩
  have ho6 := ownsRow_below O5.out hb6
  rw [← HDM.out] at ho6
  have hs56 : w1.heap.size ≤ w6.heap.size := Nat.le_trans HB5.out.size hb6.size
  obtain ⟨v7, w7, R7, o7, g7, _⟩ := app8 ho6 hs56 hs6 (by have := HL.out; have := HDL.out; have := HML.out; have := HZL.out; simp only [List.length_append]; omega)
  obtain ⟨ta, tk, rfl, _⟩ := ownsRow_form o7
  have hb7 : Below w.heap.size w w7 := HB.out.trans ((HB1.out.mono (by omega)).trans (((HB5.out.trans (hb6.mono HB5.out.size)).trans (below_grown g7 hs56 (fun k e => (ho6.lt k e).1))).mono (by have := HS1.out; omega)))
  obtain ⟨tl, htl⟩ : ∃ tl, (D ++ M ++ Z).length = tl := ⟨_, rfl⟩
  rw [htl] at R7 o7
  rw [HDM.out] at R7
  have R7' := Lib.hid R7
  have FIN : Hid (OutB w (bytV c) (bytE c) (.returned (.tuple #[.slice ta tl tk, .int .i64 0])) w7) := Lib.hid (by
    rw [HF.out.1, HF.out.2]
    exact ⟨ta, tk, by rw [htl], by rw [htl]; exact Holds.of_row (by rw [u8s_len, htl]; exact o7), hb7⟩)
  clear KS hs6 hb6 ho6 hs56 R7 o7 g7 hb7 htl
  go_wp2_with (at_builtin; refine wpList_append_run rfl _ _ 28 rfl rfl rfl (R7'.out _) ?_)
  go_ret2
  exact FIN.out
end Go.Proofs.Ytbijpjoljljlpaa
/- The ways back of a vector's ids. Conditions: at most 300000 bytes. -/
set_option maxRecDepth 100000
namespace Go.Proofs.Ytbijpjoljljlpaa
open Go.RowKit Go.Maps Go.Sort

/-- what bytes tell as ids, by the way's number -/
def decI (kind N : Nat) (r : List UInt8) : List Int :=
  match kind with
  | 0 => match r with
    | [] => []
    | x :: r' => (unpackAns (x.toNat : Int) (N : Int) r').1.map sgnU
  | 1 => (unrAns r).1.map sgnU
  | _ => (undAns r).1
/-- a list comes out, in a block of the call's own -/
def OutG (w : World) (xs : List Value) (e : Ending) (w' : World) : Prop := ∃ a c, e = .returned (.slice a xs.length c) ∧ Holds w' (.slice a xs.length c) xs ∧ Below w.heap.size w w' ∧ ∀ ad, a = some ad → w.heap.size ≤ ad.block
theorem unpackAns_len (wd N : Int) (bs : List UInt8) : (unpackAns wd N bs).1.length ≤ 100000 := by
  unfold unpackAns
  split
  · simp
  · split
    · rw [unpackL_len]; omega
    · simp
theorem unrAns_len (bs : List UInt8) : (unrAns bs).1.length ≤ 100000 := by
  unfold unrAns
  split
  · simp
  · split
    · simp
    · rename_i a h
      exact unr_len h
theorem addr_one (a : Addr) : a.add 1 = ⟨a.block, a.off + 1, none⟩ := by unfold Addr.add; simp
theorem addr_zero (a : Addr) : a.add 0 = a := by unfold Addr.add; simp
theorem cut_one {w : World} {ad : Addr} {bn bc U : Nat} {xs : List UInt8} (hH : Holds w (.slice (some ad) bn bc) (u8s xs)) (hU : U ≤ bn) :
    ∃ A, (if bc = U then ad else ad.add U) = A ∧ (if bc = U then some ad else some (ad.add U)) = some A ∧ Holds w (.slice (some A) (bn - U) (bc - U)) (u8s (xs.drop U)) := by
  have hl := hH.len
  rw [u8s_len] at hl
  have HH := hH.drop U hU
  have hd : (u8s xs).drop U = u8s (xs.drop U) := by simp [u8s, List.map_drop]
  rw [hd] at HH
  by_cases e : bc = U
  · rw [if_pos e]
    refine ⟨ad, rfl, by rw [if_pos e], ?_⟩
    have : bn = U := by omega
    subst this
    subst e
    have h0 : xs.drop bc = [] := List.drop_eq_nil_of_le (by omega)
    rw [h0, Nat.sub_self]
    exact ⟨some ad, 0, rfl, Nat.le_refl _, .inr ⟨ad, rfl, fun j u hj => by simp [u8s] at hj⟩⟩
  · rw [if_neg e]
    exact ⟨ad.add U, rfl, by rw [if_neg e], HH⟩
theorem dec1_nil {W : World} {B C : Nat} {a : Option Addr} {k : Nat} (hb : W.cell? ⟨B, 0, none⟩ = some (.slice a 0 k)) :
    Calls Try.prog 41 #[.pointer (some ⟨B, 0, none⟩), .pointer (some ⟨C, 0, none⟩)] W fun e w' => e = .returned (.slice none 0 0) ∧ w' = W := by
  go_enter Try.func41, Try.ntmps41
  go_wp2_with fail
  go_ret
  exact ⟨rfl, rfl⟩
set_option maxHeartbeats 1600000 in
theorem dec1_any {W : World} {B C : Nat} {a : Option Addr} {n k N : Nat} {r : List UInt8} (hb : W.cell? ⟨B, 0, none⟩ = some (.slice a n k)) (hn : W.cell? ⟨C, 0, none⟩ = some (.int .i64 (N : Int))) (h : Holds W (.slice a n k) (u8s r)) :
    Calls Try.prog 41 #[.pointer (some ⟨B, 0, none⟩), .pointer (some ⟨C, 0, none⟩)] W (OutG W (i64s (decI 0 N r))) := by
  have e1 := h.len.1
  rw [u8s_len] at e1
  cases r with
  | nil =>
    obtain rfl : n = 0 := e1.symm
    refine (dec1_nil hb).mono ?_
    rintro e w' ⟨rfl, rfl⟩
    exact ⟨none, 0, rfl, Holds.nil _, Below.refl _ _, fun ad e => by cases e⟩
  | cons x r =>
    have hpos : 0 < n := by rw [← e1]; simp
    obtain ⟨ad, rfl⟩ := h.ptr hpos
    have c0 := h.cell (j := 0) (u := .int .u8 (x.toNat : Int)) (by simp [u8s])
    rw [addr_zero] at c0
    have hkn := h.len.2
    obtain ⟨A, i1, i2, hc⟩ := cut_one h (show 1 ≤ n by omega)
    simp only [List.drop_one, List.tail_cons] at hc
    rw [addr_one] at i1 i2
    have KU := fun (V : World) (hv : Below W.heap.size W V) => unpacked_any (hc.below hv) (x.toNat : Int) (N : Int)
    have hul := unpackAns_len (x.toNat : Int) (N : Int) r
    have HD : Hid (decI 0 N (x :: r) = (unpackAns (x.toNat : Int) (N : Int) r).1.map sgnU) := Lib.hid rfl
    obtain ⟨L, hL⟩ : ∃ L, (unpackAns (x.toNat : Int) (N : Int) r).1 = L := ⟨_, rfl⟩
    rw [hL] at HD hul
    have hx : x.toNat < 256 := x.toNat_lt
    obtain ⟨xn, hxn⟩ : ∃ xn, x.toNat = xn := ⟨_, rfl⟩
    simp only [hL] at KU
    rw [hxn] at KU c0 hx
    obtain ⟨ul, hul2⟩ : ∃ ul, (u64s L).length = ul := ⟨_, rfl⟩
    unfold OutH at KU
    simp only [hul2] at KU
    have HKU := Lib.hid KU
    have HUL := Lib.hid hul
    have hwx : IntKind.i64.wrap (xn : Int) = (xn : Int) := by rw [IntKind.wrap_i64]; omega
    have t0 : ((n : Int) == 0) = false := by rw [beq_eq_false_iff_ne]; omega
    have t1 : (n == 0) = false := by rw [beq_eq_false_iff_ne]; omega
    have b1 : (1 : Int) ≤ (n : Int) := by omega
    have b2 : (0 : Int) < (n : Int) := by omega
    have b3 : (1 : Int) ≤ (k : Int) := by omega
    have b4 : (n : Int) ≤ (k : Int) := by omega
    have hd1 : W.drew.cell? ⟨B, 0, none⟩ = some (.slice (some ad) n k) := hb
    have HB1 : Hid (Below W.heap.size W W.drew) := Lib.hid (below_drew1 W)
    clear h hc KU hul hul2 hL hxn hx e1
    go_enter Try.func41, Try.ntmps41
    go_wp2_with fail
    refine wp_region_mix (fun V => V.cell? ⟨B, 0, none⟩ = some (.slice (some ad) n k) ∧ V.cell? ⟨C, 0, none⟩ = some (.int .i64 (N : Int)) ∧ V.cell? ad = some (.int .u8 (xn : Int))) 10 [(true, 0), (true, 1), (true, 2), (true, 3), (true, 4), (true, 5), (false, 6), (false, 7), (false, 8), (true, 9)] (by kernel_rfl) (by decide +kernel) rfl (by decide +kernel) ⟨hb, hn, c0⟩ ?_
    iterate 6
      refine wpMix_take (v := ?_) rfl rfl ?_ ?_
      rotate_left
      · (intro V hV; (try dsimp only at hV); go_simp) <;> with_reducible rfl
      simp only [Act.put, List.setIfInBounds_toArray, List.set_cons_zero, List.set_cons_succ]
    refine wpMix_run rfl ?_
    intro K' hK
    go_wp2_with fail
    refine hK.out _ _ (fun _ => ⟨hb, hn, c0⟩) ?_
    clear hK K'
    refine wpMix_run rfl ?_
    intro K' hK
    go_wp2_with fail
    refine (HKU.out _ HB1.out).mono ?_
    rintro e w1 ⟨ua, uk, rfl, hu, hb1⟩
    have hbb := HB1.out.trans (hb1.mono HB1.out.size)
    have s0 : w1.cell? ⟨B, 0, none⟩ = some (.slice (some ad) n k) := by rw [hbb.cell (World.block_lt_of_cell? W _ hb)]; exact hb
    have s1 : w1.cell? ⟨C, 0, none⟩ = some (.int .i64 (N : Int)) := by rw [hbb.cell (World.block_lt_of_cell? W _ hn)]; exact hn
    have s2 : w1.cell? ad = some (.int .u8 (xn : Int)) := by rw [hbb.cell (World.block_lt_of_cell? W _ c0)]; exact c0
    have HS : Hid (w1.cell? ⟨B, 0, none⟩ = some (.slice (some ad) n k) ∧ w1.cell? ⟨C, 0, none⟩ = some (.int .i64 (N : Int)) ∧ w1.cell? ad = some (.int .u8 (xn : Int))) := Lib.hid ⟨s0, s1, s2⟩
    have KS := signed_any hu HUL.out
    obtain ⟨ll, hll⟩ : ∃ ll, (L.map fSgn).length = ll := ⟨_, rfl⟩
    unfold OutF at KS
    rw [hll] at KS
    have HLL := Lib.hid hll
    clear hll
    have HBB := Lib.hid hbb
    clear s0 s1 s2 hu hb1 hbb HKU
    go_wp2_with fail
    refine hK.out _ _ (fun _ => HS.out) ?_
    clear hK K'
    refine wpMix_run rfl ?_
    intro K' hK
    go_wp2_with fail
    refine KS.mono ?_
    rintro e w2 ⟨rfl, hv, hb2⟩
    have HS2 : Hid (w2.cell? ⟨B, 0, none⟩ = some (.slice (some ad) n k) ∧ w2.cell? ⟨C, 0, none⟩ = some (.int .i64 (N : Int)) ∧ w2.cell? ad = some (.int .u8 (xn : Int))) := Lib.hid ⟨by rw [hb2.cell (World.block_lt_of_cell? w1 _ HS.out.1)]; exact HS.out.1, by rw [hb2.cell (World.block_lt_of_cell? w1 _ HS.out.2.1)]; exact HS.out.2.1, by rw [hb2.cell (World.block_lt_of_cell? w1 _ HS.out.2.2)]; exact HS.out.2.2⟩
    have FIN : Hid (OutG W (i64s (decI 0 N (x :: r))) (.returned (.slice (some ⟨w1.heap.size, 0, none⟩) ll ll)) w2) := Lib.hid (by
      rw [HD.out, ← map_sgn]
      unfold OutG
      rw [HLL.out]
      exact ⟨_, _, rfl, hv, HBB.out.trans (hb2.mono HBB.out.size), fun ad e => by cases e; exact HBB.out.size⟩)
    clear KS hv hb2
    go_wp2_with fail
    refine hK.out _ _ (fun _ => HS2.out) ?_
    clear hK K'
    refine wpMix_take (v := ?_) rfl rfl ?_ ?_
    rotate_left
    · (intro V hV; (try dsimp only at hV); go_simp) <;> with_reducible rfl
    simp only [Act.put, List.setIfInBounds_toArray, List.set_cons_zero, List.set_cons_succ]
    refine wpMix_nil ?_
    go_wp2_with fail
    go_ret
    exact FIN.out
theorem dec2_any {W : World} {B : Nat} {a : Option Addr} {n k N : Nat} {r : List UInt8} (hb : W.cell? ⟨B, 0, none⟩ = some (.slice a n k)) (h : Holds W (.slice a n k) (u8s r)) (hl : r.length ≤ 300000) :
    Calls Try.prog 43 #[.pointer (some ⟨B, 0, none⟩)] W (OutG W (i64s (decI 1 N r))) := by
  have KR := Unruns_any h hl
  have HUL := Lib.hid (unrAns_len r)
  have HD : Hid (decI 1 N r = (unrAns r).1.map sgnU) := Lib.hid rfl
  generalize (unrAns r).2 = re at *
  obtain ⟨L, hL⟩ : ∃ L, (unrAns r).1 = L := ⟨_, rfl⟩
  rw [hL] at HD HUL KR
  clear h hl hL
  go_enter Try.func43, Try.ntmps43
  go_wp2_with fail
  refine KR.mono ?_
  rintro e w1 ⟨v, rfl, HR⟩
  obtain ⟨ra, rk, rfl, _⟩ := ownsRow_form HR.out.1
  have KS := signed_any (Holds.of_row (by rw [u64s_len]; exact HR.out.1)) HUL.out
  obtain ⟨ll, hll⟩ : ∃ ll, (L.map fSgn).length = ll := ⟨_, rfl⟩
  unfold OutF at KS
  rw [hll] at KS
  have HLL := Lib.hid hll
  clear hll
  clear KR
  go_wp2_with fail
  refine KS.mono ?_
  rintro e w2 ⟨rfl, hv, hb2⟩
  have FIN : Hid (OutG W (i64s (decI 1 N r)) (.returned (.slice (some ⟨w1.heap.size, 0, none⟩) ll ll)) w2) := Lib.hid (by
    rw [HD.out, ← map_sgn]
    unfold OutG
    rw [HLL.out]
    exact ⟨_, _, rfl, hv, HR.out.2.trans (hb2.mono HR.out.2.size), fun ad e => by cases e; exact HR.out.2.size⟩)
  clear KS hv hb2
  go_wp2_with fail
  go_ret
  exact FIN.out
theorem dec3_any {W : World} {B : Nat} {a : Option Addr} {n k N m : Nat} {r : List UInt8} (hb : W.cell? ⟨B, 0, none⟩ = some (.slice a n k)) (h : Holds W (.slice a n k) (u8s r)) (hl : r.length ≤ 300000) :
    Calls Try.prog 45 #[.pointer (some ⟨B, 0, none⟩)] W (OutG W (i64s (decI (m + 2) N r))) := by
  have KR := Undeltas_any h hl
  have HD : Hid (decI (m + 2) N r = (undAns r).1) := Lib.hid rfl
  generalize (undAns r).2 = re at *
  obtain ⟨L, hL⟩ : ∃ L, (undAns r).1 = L := ⟨_, rfl⟩
  rw [hL] at HD KR
  clear h hl hL
  go_enter Try.func45, Try.ntmps45
  go_wp2_with fail
  refine KR.mono ?_
  rintro e w1 ⟨v, rfl, HR⟩
  obtain ⟨ra, rk, rfl, _⟩ := ownsRow_form HR.out.1
  have FIN : Hid (OutG W (i64s (decI (m + 2) N r)) (.returned (.slice ra L.length rk)) w1) := Lib.hid (by
    rw [HD.out]
    exact ⟨ra, rk, by rw [i64s_len], by rw [i64s_len]; exact Holds.of_row (by rw [i64s_len]; exact HR.out.1), HR.out.2, fun ad e => (HR.out.1.lt ad.block (by rw [e]; rfl)).1⟩)
  clear KR HR
  go_wp2_with fail
  go_ret
  exact FIN.out
end Go.Proofs.Ytbijpjoljljlpaa
/- What bytes seem to be a vector of. Conditions: at most 300000 bytes. -/
set_option maxRecDepth 100000
namespace Go.Proofs.Ytbijpjoljljlpaa
open Go.RowKit Go.Maps Go.Sort

def fnsD (B C : Nat) : Value := .agg #[.func (.func 41) #[] #[.pointer (some ⟨B, 0, none⟩), .pointer (some ⟨C, 0, none⟩)], .func (.func 43) #[] #[.pointer (some ⟨B, 0, none⟩)], .func (.func 45) #[] #[.pointer (some ⟨B, 0, none⟩)]]
theorem addr_succ (a : Addr) (n : Nat) : a.add (n + 1) = ⟨a.block, a.off + (n + 1), none⟩ := by unfold Addr.add; simp
theorem three_boxes (w : World) (A B C : Obj) : (((w.alloc A).alloc B).alloc C).heap[w.heap.size]? = some A ∧ (((w.alloc A).alloc B).alloc C).heap[w.heap.size + 1]? = some B ∧ (((w.alloc A).alloc B).alloc C).heap[w.heap.size + 2]? = some C := by
  obtain ⟨_, q1, q2⟩ := two_boxes w A B
  have h1 : ((w.alloc A).alloc B).heap.size = w.heap.size + 2 := by simp
  refine ⟨?_, ?_, ?_⟩
  · rw [heap_alloc_old _ _ (by omega)]; exact q1
  · rw [heap_alloc_old _ _ (by omega)]; exact q2
  · rw [← h1]; exact heap_alloc_new _ C
set_option maxHeartbeats 800000 in
theorem decodings_any (w : World) (a : Option Addr) (n k : Nat) (N : Int) :
    Calls Try.prog 27 #[.int .i64 N, .slice a n k] w fun e w' => ∃ B C, e = .returned (fnsD B C) ∧ Hid (w'.cell? ⟨C, 0, none⟩ = some (.int .i64 N) ∧ w'.cell? ⟨B, 0, none⟩ = some (.slice a n k) ∧ Below w.heap.size w w') := by
  obtain ⟨W, hW⟩ : ∃ W, ((w.alloc (.cells #[.int .i64 N] 3)).alloc (.cells #[.slice a n k] 28)).alloc (.cells #[.nilFunc, .nilFunc, .nilFunc] 61) = W := ⟨_, rfl⟩
  obtain ⟨q0, q1, q2⟩ := three_boxes w (.cells #[.int .i64 N] 3) (.cells #[.slice a n k] 28) (.cells #[.nilFunc, .nilFunc, .nilFunc] 61)
  have hb0 : Below w.heap.size w W := by rw [← hW]; exact (((Below.refl _ _).alloc (Nat.le_refl _) _).alloc (by simp) _).alloc (by simp; omega) _
  rw [hW] at q0 q1 q2
  obtain ⟨⟨c3, c4, c5, c6, c7, c8⟩, ⟨r0, r1, r2⟩, s3, s4⟩ := set3 (y0 := .func (.func 41) #[] #[.pointer (some ⟨w.heap.size + 1, 0, none⟩), .pointer (some ⟨w.heap.size, 0, none⟩)]) (y1 := .func (.func 43) #[] #[.pointer (some ⟨w.heap.size + 1, 0, none⟩)]) (y2 := .func (.func 45) #[] #[.pointer (some ⟨w.heap.size + 1, 0, none⟩)]) q2
  have p0 := cell_of_row _ _ 0 _ _ _ ((s4 w.heap.size (by omega)).trans q0)
  have p1 := cell_of_row _ _ 0 _ _ _ ((s4 (w.heap.size + 1) (by omega)).trans q1)
  have HF := Lib.hid (And.intro p0 (And.intro p1 (hb0.trans (s3.mono (by omega)))))
  clear q0 q1 q2 hb0 s3 s4 p0 p1
  go_enter Try.func27, Try.ntmps27
  go_wp2_with fail
  refine bodyPost_ret (v := fnsD (w.heap.size + 1) w.heap.size) ?_ rfl ⟨_, _, rfl, HF⟩
  simp [results, Try.results27, go_sem, r0, r1, r2, fnsD]
/-- what bytes seem to be of -/
def readC (bs : List UInt8) : CV :=
  if (getN bs).2 = 0 ∨ 1000 < (getN bs).1 then ⟨[], []⟩ else
  if bs.length ≤ (getN bs).2 + ((getN bs).1 + 7) / 8 then ⟨[], []⟩ else
  if 3 ≤ (bs.getD ((getN bs).2 + ((getN bs).1 + 7) / 8) 0).toNat then ⟨[], []⟩ else
  ⟨(unpackAns 1 ((getN bs).1 : Int) ((bs.take ((getN bs).2 + ((getN bs).1 + 7) / 8)).drop (getN bs).2)).1.map unmU,
   decI (bs.getD ((getN bs).2 + ((getN bs).1 + 7) / 8) 0).toNat (getN bs).1 (bs.drop ((getN bs).2 + ((getN bs).1 + 7) / 8 + 1))⟩
/-- a vector comes out -/
def OutC (w : World) (c : CV) (e : Ending) (w' : World) : Prop := ∃ a1 n1 k1 a2 n2 k2, e = .returned (.agg #[.slice a1 n1 k1, .slice a2 n2 k2]) ∧ Holds w' (.slice a1 n1 k1) (bls c.nl) ∧ Holds w' (.slice a2 n2 k2) (i64s c.il) ∧ Below w.heap.size w w' ∧ (∀ ad, a1 = some ad → w.heap.size ≤ ad.block) ∧ (∀ ad, a2 = some ad → w.heap.size ≤ ad.block)
theorem outC_none {w w' : World} (h : Below w.heap.size w w') : OutC w ⟨[], []⟩ (.returned (.agg #[.slice none 0 0, .slice none 0 0])) w' := ⟨_, _, _, _, _, _, rfl, Holds.nil _, Holds.nil _, h, fun ad e => (by cases e), fun ad e => (by cases e)⟩
set_option maxHeartbeats 1600000 in
theorem cread_any {w : World} {a : Option Addr} {n k : Nat} {bs : List UInt8} (h : Holds w (.slice a n k) (u8s bs)) (hl : bs.length ≤ 300000) :
    Calls Try.prog 18 #[.slice a n k] w (OutC w (readC bs)) := by
  have e1 := h.len.1
  rw [u8s_len] at e1
  have hkn := h.len.2
  obtain ⟨W, hW⟩ : ∃ W, w.alloc (.cells #[.slice none 0 0, .slice none 0 0] 25) = W := ⟨_, rfl⟩
  have hb0 : Below w.heap.size w W := by rw [← hW]; exact below_box _ _
  have hs : W.heap.size = w.heap.size + 1 := by rw [← hW]; simp
  have KG := Get_any (h.below hb0) (by omega)
  obtain ⟨hq1, hu1⟩ := getN_bd bs
  have hC := fun (w1 : World) (x y : Value) => @vclear1 w w1 25 x y
  rw [hW] at hC
  have HC := Lib.hid hC
  obtain ⟨u, hu⟩ : ∃ u, (getN bs).1 = u := ⟨_, rfl⟩
  obtain ⟨q, hq⟩ : ∃ q, (getN bs).2 = q := ⟨_, rfl⟩
  rw [hu, hq] at KG
  rw [hq] at hq1
  have hR : readC bs = if q = 0 ∨ 1000 < u then ⟨[], []⟩ else if bs.length ≤ q + (u + 7) / 8 then ⟨[], []⟩ else if 3 ≤ (bs.getD (q + (u + 7) / 8) 0).toNat then ⟨[], []⟩ else
      ⟨(unpackAns 1 (u : Int) ((bs.take (q + (u + 7) / 8)).drop q)).1.map unmU, decI (bs.getD (q + (u + 7) / 8) 0).toNat u (bs.drop (q + (u + 7) / 8 + 1))⟩ := by rw [← hu, ← hq]; rfl
  by_cases hq0 : q = 0
  · rw [if_pos (.inl hq0)] at hR
    rw [hR]
    subst hq0
    obtain ⟨⟨y0, y1, y2, y3⟩, ⟨r0, r1⟩, x2⟩ := HC.out W (.slice none 0 0) (.slice none 0 0) (Below.refl _ _)
    clear h hl hb0 hs hq1 hu1 hC hu hq hR e1
    go_enter Try.func18, Try.ntmps18
    go_wp2_with fail
    refine KG.mono ?_
    rintro e w' ⟨rfl, rfl⟩
    go_wp2_with fail
    refine bodyPost_ret (v := .agg #[.slice none 0 0, .slice none 0 0]) ?_ rfl (outC_none x2)
    simp [results, Try.results18, go_sem, r0, r1]
  have t0 : (q == 0) = false := by rw [beq_eq_false_iff_ne]; exact hq0
  have t1 : ((q : Int) == 0) = false := by rw [beq_eq_false_iff_ne]; omega
  by_cases hu0 : 1000 < u
  · rw [if_pos (.inr hu0)] at hR
    rw [hR]
    have t2 : decide ((1000 : Int) < (u : Int)) = true := decide_eq_true (by omega)
    have t3 : decide (1000 < u) = true := decide_eq_true hu0
    obtain ⟨⟨y0, y1, y2, y3⟩, ⟨r0, r1⟩, x2⟩ := HC.out W (.slice none 0 0) (.slice none 0 0) (Below.refl _ _)
    clear h hl hb0 hs hq1 hu1 hC hu hq hR e1 hu0 hq0
    go_enter Try.func18, Try.ntmps18
    go_wp2_with fail
    refine KG.mono ?_
    rintro e w' ⟨rfl, rfl⟩
    go_wp2_with fail
    refine bodyPost_ret (v := .agg #[.slice none 0 0, .slice none 0 0]) ?_ rfl (outC_none x2)
    simp [results, Try.results18, go_sem, r0, r1]
  rw [if_neg (by omega)] at hR
  have t2 : decide ((1000 : Int) < (u : Int)) = false := decide_eq_false (by omega)
  have t3 : decide (1000 < u) = false := decide_eq_false hu0
  have hwu : IntKind.i64.wrap (u : Int) = (u : Int) := by rw [IntKind.wrap_i64]; omega
  obtain ⟨T, hT⟩ : ∃ T, q + (u + 7) / 8 = T := ⟨_, rfl⟩
  rw [hT] at hR
  by_cases hTn : n ≤ T
  · rw [if_pos (by omega)] at hR
    rw [hR]
    obtain ⟨⟨y0, y1, y2, y3⟩, ⟨r0, r1⟩, x2⟩ := HC.out W (.slice none 0 0) (.slice none 0 0) (Below.refl _ _)
    have hq9 : q ≤ 300000 := by omega
    clear h hl hb0 hs hq1 hu1 hC hu hq hR e1 hq0
    go_enter Try.func18, Try.ntmps18
    go_wp2_with fail
    refine KG.mono ?_
    rintro e w' ⟨rfl, rfl⟩
    go_wp2_with fail
    refine bodyPost_ret (v := .agg #[.slice none 0 0, .slice none 0 0]) ?_ rfl (outC_none x2)
    simp [results, Try.results18, go_sem, r0, r1]
  rw [if_neg (by omega)] at hR
  obtain ⟨ad, rfl⟩ := h.ptr (by omega)
  have hTq : q ≤ T := by omega
  have hTi : (q : Int) + ((u : Int) + 7) / 8 = (T : Int) := by omega
  obtain ⟨x, hx⟩ : ∃ x, bs[T]? = some x := ⟨_, List.getElem?_eq_getElem (by omega)⟩
  have hxd : bs.getD T 0 = x := by rw [List.getD_eq_getElem?_getD, hx]; rfl
  rw [hxd] at hR
  have hx256 : x.toNat < 256 := x.toNat_lt
  have cT := h.cell (j := T) (u := .int .u8 (x.toNat : Int)) (by simp [u8s, hx])
  obtain ⟨A1, i1, i2, hc1⟩ := cut_one h (show T + 1 ≤ n by omega)
  rw [addr_succ] at i1 i2
  have hdr : (u8s bs).drop q = u8s (bs.drop q) := by simp [u8s, List.map_drop]
  have hc2 : Holds w (.slice (some (ad.add q)) (T - q) (k - q)) (u8s ((bs.take T).drop q)) := by
    have := (h.take T (by omega)).drop q hTq
    simpa [u8s, List.map_drop, List.map_take] using this
  have hkq : ¬ k = q := by omega
  obtain ⟨kd, hkd⟩ : ∃ kd, x.toNat = kd := ⟨_, rfl⟩
  rw [hkd] at hR cT hx256
  have hwk : IntKind.i64.wrap (kd : Int) = (kd : Int) := by rw [IntKind.wrap_i64]; omega
  have hw1 : IntKind.i64.wrap ((T : Int) + 1) = (T : Int) + 1 := by rw [IntKind.wrap_i64]; omega
  have HDe := Lib.hid (fun (V : World) => decodings_any V (some A1) (n - (T + 1)) (k - (T + 1)) (u : Int))
  have H0 := Lib.hid (fun (V : World) (hv : Below w.heap.size w V) => hc1.below hv)
  have H2 := Lib.hid (fun (V : World) (hv : Below w.heap.size w V) => hc2.below hv)
  have HT := Lib.hid (fun (V : World) (hv : Below w.heap.size w V) => show V.cell? (ad.add T) = some (.int .u8 (kd : Int)) by rw [hv.cell (World.block_lt_of_cell? w _ cT)]; exact cT)
  have HBW := Lib.hid hb0
  have HS := Lib.hid hs
  have HR := Lib.hid hR
  have HL : Hid ((bs.drop (T + 1)).length ≤ 300000) := Lib.hid (by rw [List.length_drop]; omega)
  have hq9 : q ≤ 300000 := by omega
  have hn9 : n ≤ 300000 := by omega
  have b0 : (0 : Int) ≤ (T : Int) := Int.natCast_nonneg T
  have b1 : (T : Int) < (n : Int) := by omega
  have b2 : (q : Int) ≤ (T : Int) := by omega
  have b3 : (T : Int) ≤ (k : Int) := by omega
  have b4 : (T : Int) + 1 ≤ (n : Int) := by omega
  have b5 : (T : Int) + 1 ≤ (k : Int) := by omega
  have b6 : (0 : Int) ≤ (q : Int) := Int.natCast_nonneg q
  have b7 : (n : Int) ≤ (k : Int) := by omega
  have q9 : decide ((n : Int) ≤ (T : Int)) = false := decide_eq_false (by omega)
  have q8 : decide (n ≤ T) = false := decide_eq_false (by omega)
  have tT1 : ((T : Int) + 1).toNat = T + 1 := by omega
  clear h hl hb0 hs hq1 hu1 hC hu hq hR e1 hq0 hx hxd cT hc1 hc2 hdr hkd hT
  by_cases hk3 : 3 ≤ kd
  · have hR3 := HR.out
    rw [if_pos hk3] at hR3
    rw [hR3]
    have t5 : decide ((3 : Int) ≤ (kd : Int)) = true := decide_eq_true (by omega)
    have t6 : decide (3 ≤ kd) = true := decide_eq_true hk3
    clear hk3 HR hR3
    go_enter Try.func18, Try.ntmps18
    go_wp2_with fail
    refine KG.mono ?_
    rintro e w' ⟨rfl, rfl⟩
    go_wp2_with fail
    clear hW
    refine (HDe.out _).mono ?_
    rintro e w1 ⟨B, C, rfl, HD⟩
    unfold fnsD
    have hb1 := HD.out.2.2
    have hbw : Below w.heap.size w w1 := HBW.out.trans (hb1.mono HBW.out.size)
    have hTc := HT.out w1 hbw
    have hsz : w.heap.size + 1 ≤ w1.heap.size := by have := hb1.size; have := HS.out; omega
    have hbx := below_box w1 (.cells #[.func (.func 41) #[] #[.pointer (some ⟨B, 0, none⟩), .pointer (some ⟨C, 0, none⟩)], .func (.func 43) #[] #[.pointer (some ⟨B, 0, none⟩)], .func (.func 45) #[] #[.pointer (some ⟨B, 0, none⟩)]] 61)
    obtain ⟨X, hX⟩ : ∃ X, w1.alloc (.cells #[.func (.func 41) #[] #[.pointer (some ⟨B, 0, none⟩), .pointer (some ⟨C, 0, none⟩)], .func (.func 43) #[] #[.pointer (some ⟨B, 0, none⟩)], .func (.func 45) #[] #[.pointer (some ⟨B, 0, none⟩)]] 61) = X := ⟨_, rfl⟩
    rw [hX] at hbx
    have hTX := HT.out X (hbw.trans (hbx.mono hbw.size))
    obtain ⟨⟨y0, y1, y2, y3⟩, ⟨r0, r1⟩, x2⟩ := HC.out X (.slice none 0 0) (.slice none 0 0) ((hb1.mono (by rw [HS.out]; omega)).trans (hbx.mono hsz))
    clear hb1 hbw hsz hbx hTc HDe HD
    go_wp2_with fail
    refine bodyPost_ret (v := .agg #[.slice none 0 0, .slice none 0 0]) ?_ rfl (outC_none x2)
    simp [results, Try.results18, go_sem, r0, r1]
  have hR3 := HR.out
  rw [if_neg hk3] at hR3
  have HR := Lib.hid hR3
  have t5 : decide ((3 : Int) ≤ (kd : Int)) = false := decide_eq_false (by omega)
  have t6 : decide (3 ≤ kd) = false := decide_eq_false hk3
  obtain rfl | rfl | rfl : kd = 0 ∨ kd = 1 ∨ kd = 2 := by omega
  · clear t5 t6 hR3 hk3
    have t5 : decide ((3 : Int) ≤ ((0 : Nat) : Int)) = false := rfl
    go_enter Try.func18, Try.ntmps18
    go_wp2_with fail
    refine KG.mono ?_
    rintro e w' ⟨rfl, rfl⟩
    go_wp2_with fail
    clear hW
    refine (HDe.out _).mono ?_
    rintro e w1 ⟨B, C, rfl, HD⟩
    unfold fnsD
    have hb1 := HD.out.2.2
    have hbw : Below w.heap.size w w1 := HBW.out.trans (hb1.mono HBW.out.size)
    have hTc := HT.out w1 hbw
    have hsz : w.heap.size + 1 ≤ w1.heap.size := by have := hb1.size; have := HS.out; omega
    have hbx := below_box w1 (.cells #[.func (.func 41) #[] #[.pointer (some ⟨B, 0, none⟩), .pointer (some ⟨C, 0, none⟩)], .func (.func 43) #[] #[.pointer (some ⟨B, 0, none⟩)], .func (.func 45) #[] #[.pointer (some ⟨B, 0, none⟩)]] 61)
    obtain ⟨X, hX⟩ : ∃ X, w1.alloc (.cells #[.func (.func 41) #[] #[.pointer (some ⟨B, 0, none⟩), .pointer (some ⟨C, 0, none⟩)], .func (.func 43) #[] #[.pointer (some ⟨B, 0, none⟩)], .func (.func 45) #[] #[.pointer (some ⟨B, 0, none⟩)]] 61) = X := ⟨_, rfl⟩
    have hx0 : X.heap[w1.heap.size]? = some ((.cells #[.func (.func 41) #[] #[.pointer (some ⟨B, 0, none⟩), .pointer (some ⟨C, 0, none⟩)], .func (.func 43) #[] #[.pointer (some ⟨B, 0, none⟩)], .func (.func 45) #[] #[.pointer (some ⟨B, 0, none⟩)]] 61)) := by rw [← hX]; exact heap_alloc_new _ _
    rw [hX] at hbx
    have hbwX := hbw.trans (hbx.mono hbw.size)
    have hTX := HT.out X hbwX
    have hXs : X.heap.size = w1.heap.size + 1 := by rw [← hX]; simp
    have hf : X.cell? ⟨w1.heap.size, 0, none⟩ = some (.func (.func 41) #[] #[.pointer (some ⟨B, 0, none⟩), .pointer (some ⟨C, 0, none⟩)]) := by rw [cell_of_row _ _ _ _ _ _ hx0]; rfl
    have hbSX : Below (w.heap.size + 1) W X := (hb1.mono (by rw [HS.out]; omega)).trans (hbx.mono hsz)
    have hcBX : X.cell? ⟨B, 0, none⟩ = some (.slice (some A1) (n - (T + 1)) (k - (T + 1))) := by rw [hbx.cell (World.block_lt_of_cell? w1 _ HD.out.2.1)]; exact HD.out.2.1
    have hcCX : X.cell? ⟨C, 0, none⟩ = some (.int .i64 (u : Int)) := by rw [hbx.cell (World.block_lt_of_cell? w1 _ HD.out.1)]; exact HD.out.1
    have KU := unpacked_any (H2.out X.drew (hbwX.trans ((below_drew1 X).mono hbwX.size))) 1 (u : Int)
    have hul := unpackAns_len 1 (u : Int) ((bs.take T).drop q)
    obtain ⟨L, hL⟩ : ∃ L, (unpackAns 1 (u : Int) ((bs.take T).drop q)).1 = L := ⟨_, rfl⟩
    obtain ⟨ul, hul2⟩ : ∃ ul, (u64s L).length = ul := ⟨_, rfl⟩
    unfold OutH at KU
    rw [hL, hul2] at KU
    rw [hL] at hul
    have HRR := HR.out
    rw [hL] at HRR
    have HR2 := Lib.hid HRR
    have HUL := Lib.hid hul
    have HXs := Lib.hid hXs
    have HbSX := Lib.hid hbSX
    have HbwX := Lib.hid hbwX
    have HcBX := Lib.hid hcBX
    have HcCX := Lib.hid hcCX
    have HXw : Hid (w.heap.size + 1 ≤ X.heap.size) := Lib.hid (by omega)
    have hfd : X.drew.cell? ⟨w1.heap.size, 0, none⟩ = some (.func (.func 41) #[] #[.pointer (some ⟨B, 0, none⟩), .pointer (some ⟨C, 0, none⟩)]) := hf
    clear hb1 hbw hsz hbx hTc HDe HD hx0 hbwX hXs hbSX hcBX hcCX hul hL hul2 HRR HR
    go_wp2_with fail
    (try rw [hX])
    clear hX
    refine wp_region_mix (fun V => V.cell? ⟨w1.heap.size, 0, none⟩ = some (.func (.func 41) #[] #[.pointer (some ⟨B, 0, none⟩), .pointer (some ⟨C, 0, none⟩)])) 12 [(true, 0), (true, 1), (true, 2), (true, 3), (true, 7), (true, 8), (true, 9), (false, 4), (false, 5), (false, 6), (false, 10), (true, 11), (false, 12)] (by kernel_rfl) (by decide +kernel) rfl (by decide +kernel) hfd ?_
    iterate 7
      refine wpMix_take (v := ?_) rfl rfl ?_ ?_
      rotate_left
      · (intro V hV; (try dsimp only at hV); go_simp) <;> with_reducible rfl
      simp only [Act.put, List.setIfInBounds_toArray, List.set_cons_zero, List.set_cons_succ]
    refine wpMix_run rfl ?_
    intro K' hK
    go_wp2_with fail
    refine hK.out _ _ (fun _ => hfd) ?_
    clear hK K'
    refine wpMix_run rfl ?_
    intro K' hK
    go_wp2_with fail
    refine KU.mono ?_
    rintro e w4 ⟨ua, uk, rfl, hu, hb4⟩
    have hb4' : Below X.heap.size X w4 := undrew hb4
    have hf4 : w4.cell? ⟨w1.heap.size, 0, none⟩ = some (.func (.func 41) #[] #[.pointer (some ⟨B, 0, none⟩), .pointer (some ⟨C, 0, none⟩)]) := by rw [hb4'.cell (World.block_lt_of_cell? X _ hf)]; exact hf
    have KM := unmarked_any hu HUL.out
    obtain ⟨ml, hml⟩ : ∃ ml, (L.map fUnm).length = ml := ⟨_, rfl⟩
    unfold OutF at KM
    rw [hml] at KM
    have HML := Lib.hid hml
    have HB4 := Lib.hid hb4'
    clear hu hb4 hb4' KU hml
    go_wp2_with fail
    refine hK.out _ _ (fun _ => hf4) ?_
    clear hK K'
    refine wpMix_run rfl ?_
    intro K' hK
    go_wp2_with fail
    refine KM.mono ?_
    rintro e w5 ⟨rfl, hm5, hb5⟩
    have hbX5 : Below X.heap.size X w5 := HB4.out.trans (hb5.mono HB4.out.size)
    have hf5 : w5.cell? ⟨w1.heap.size, 0, none⟩ = some (.func (.func 41) #[] #[.pointer (some ⟨B, 0, none⟩), .pointer (some ⟨C, 0, none⟩)]) := by rw [hbX5.cell (World.block_lt_of_cell? X _ hf)]; exact hf
    have hcB : w5.cell? ⟨B, 0, none⟩ = some (.slice (some A1) (n - (T + 1)) (k - (T + 1))) := by rw [hbX5.cell (World.block_lt_of_cell? X _ HcBX.out)]; exact HcBX.out
    have hcC : w5.cell? ⟨C, 0, none⟩ = some (.int .i64 (u : Int)) := by rw [hbX5.cell (World.block_lt_of_cell? X _ HcCX.out)]; exact HcCX.out
    have hbw5 : Below w.heap.size w w5 := HbwX.out.trans (hbX5.mono HbwX.out.size)
    have KI := dec1_any hcB hcC (H0.out w5 hbw5)
    obtain ⟨ID, hID⟩ : ∃ ID, decI 0 u (bs.drop (T + 1)) = ID := ⟨_, rfl⟩
    obtain ⟨il, hil⟩ : ∃ il, (i64s ID).length = il := ⟨_, rfl⟩
    have HRR := HR2.out
    rw [hID] at HRR
    unfold OutG at KI
    (try simp only [Nat.zero_add] at KI)
    rw [hID, hil] at KI
    have HR3 := Lib.hid HRR
    have HM5 := Lib.hid hm5
    have HX5 := Lib.hid hbX5
    have HW5 := Lib.hid hbw5
    clear KM hm5 hb5 hbX5 hcB hcC hbw5 hID hil HRR HR2 hf4
    go_wp2_with fail
    refine hK.out _ _ (fun _ => hf5) ?_
    clear hK K'
    refine wpMix_run rfl ?_
    intro K' hK
    go_wp2_with fail
    refine KI.mono ?_
    rintro e w6 ⟨ia, ik, rfl, hi6, hb6, hfr⟩
    have hf6 : w6.cell? ⟨w1.heap.size, 0, none⟩ = some (.func (.func 41) #[] #[.pointer (some ⟨B, 0, none⟩), .pointer (some ⟨C, 0, none⟩)]) := by rw [hb6.cell (World.block_lt_of_cell? w5 _ hf5)]; exact hf5
    have hb56 : Below X.heap.size X w6 := HX5.out.trans (hb6.mono HX5.out.size)
    obtain ⟨⟨y0, y1, y2, y3⟩, ⟨r0, r1⟩, x2⟩ := HC.out w6 (.slice (some ⟨w4.heap.size, 0, none⟩) ml ml) (.slice ia il ik) (HbSX.out.trans (hb56.mono HXw.out))
    have FIN : Hid (OutC w (readC bs) (.returned (.agg #[.slice (some ⟨w4.heap.size, 0, none⟩) ml ml, .slice ia il ik])) ((w6.setCell ⟨w.heap.size, 0, none⟩ (.slice (some ⟨w4.heap.size, 0, none⟩) ml ml)).setCell ⟨w.heap.size, 1, none⟩ (.slice ia il ik))) := Lib.hid (by
      rw [HR3.out]
      have hne : ∀ k, k ≠ w.heap.size → ((w6.setCell ⟨w.heap.size, 0, none⟩ (.slice (some ⟨w4.heap.size, 0, none⟩) ml ml)).setCell ⟨w.heap.size, 1, none⟩ (.slice ia il ik)).heap[k]? = w6.heap[k]? := fun k hk => by rw [vset_other hk, vset_other hk]
      refine ⟨_, _, _, _, _, _, rfl, ?_, ?_, x2, (fun ad e => by cases e; show _ ≤ w4.heap.size; have := HB4.out.size; have := HXw.out; omega), (fun ad e => by have := hfr ad e; have := HX5.out.size; have := HXw.out; omega)⟩
      · rw [← map_unm]
        exact (HM5.out.below hb6).of_blocks (S := w.heap.size) (fun ad _ j => Addr.add_block ad j) (fun ad e _ => by cases e; show w4.heap.size ≠ _; have := HB4.out.size; have := HXw.out; omega) hne
      · exact hi6.of_blocks (S := w.heap.size) (fun ad _ j => Addr.add_block ad j) (fun ad e _ => by have := hfr ad e; have := HX5.out.size; have := HXw.out; omega) hne)
    clear KI hi6 hb6 hfr hb56 hf5 x2
    go_wp2_with fail
    refine hK.out _ _ (fun _ => hf6) ?_
    clear hK K'
    iterate 1
      refine wpMix_take (v := ?_) rfl rfl ?_ ?_
      rotate_left
      · (intro V hV; (try dsimp only at hV); go_simp) <;> with_reducible rfl
      simp only [Act.put, List.setIfInBounds_toArray, List.set_cons_zero, List.set_cons_succ]
    refine wpMix_run rfl ?_
    intro K' hK
    go_wp2_with fail
    refine hK.out _ _ (fun h => absurd rfl h) ?_
    clear hK K'
    refine wpMix_nil ?_
    go_wp2_with fail
    refine bodyPost_ret (v := .agg #[.slice (some ⟨w4.heap.size, 0, none⟩) ml ml, .slice ia il ik]) ?_ rfl FIN.out
    simp [results, Try.results18, go_sem, r0, r1]
  · clear t5 t6 hR3 hk3
    have t5 : decide ((3 : Int) ≤ ((1 : Nat) : Int)) = false := rfl
    go_enter Try.func18, Try.ntmps18
    go_wp2_with fail
    refine KG.mono ?_
    rintro e w' ⟨rfl, rfl⟩
    go_wp2_with fail
    clear hW
    refine (HDe.out _).mono ?_
    rintro e w1 ⟨B, C, rfl, HD⟩
    unfold fnsD
    have hb1 := HD.out.2.2
    have hbw : Below w.heap.size w w1 := HBW.out.trans (hb1.mono HBW.out.size)
    have hTc := HT.out w1 hbw
    have hsz : w.heap.size + 1 ≤ w1.heap.size := by have := hb1.size; have := HS.out; omega
    have hbx := below_box w1 (.cells #[.func (.func 41) #[] #[.pointer (some ⟨B, 0, none⟩), .pointer (some ⟨C, 0, none⟩)], .func (.func 43) #[] #[.pointer (some ⟨B, 0, none⟩)], .func (.func 45) #[] #[.pointer (some ⟨B, 0, none⟩)]] 61)
    obtain ⟨X, hX⟩ : ∃ X, w1.alloc (.cells #[.func (.func 41) #[] #[.pointer (some ⟨B, 0, none⟩), .pointer (some ⟨C, 0, none⟩)], .func (.func 43) #[] #[.pointer (some ⟨B, 0, none⟩)], .func (.func 45) #[] #[.pointer (some ⟨B, 0, none⟩)]] 61) = X := ⟨_, rfl⟩
    have hx0 : X.heap[w1.heap.size]? = some ((.cells #[.func (.func 41) #[] #[.pointer (some ⟨B, 0, none⟩), .pointer (some ⟨C, 0, none⟩)], .func (.func 43) #[] #[.pointer (some ⟨B, 0, none⟩)], .func (.func 45) #[] #[.pointer (some ⟨B, 0, none⟩)]] 61)) := by rw [← hX]; exact heap_alloc_new _ _
    rw [hX] at hbx
    have hbwX := hbw.trans (hbx.mono hbw.size)
    have hTX := HT.out X hbwX
    have hXs : X.heap.size = w1.heap.size + 1 := by rw [← hX]; simp
    have hf : X.cell? ⟨w1.heap.size, 1, none⟩ = some (.func (.func 43) #[] #[.pointer (some ⟨B, 0, none⟩)]) := by rw [cell_of_row _ _ _ _ _ _ hx0]; rfl
    have hbSX : Below (w.heap.size + 1) W X := (hb1.mono (by rw [HS.out]; omega)).trans (hbx.mono hsz)
    have hcBX : X.cell? ⟨B, 0, none⟩ = some (.slice (some A1) (n - (T + 1)) (k - (T + 1))) := by rw [hbx.cell (World.block_lt_of_cell? w1 _ HD.out.2.1)]; exact HD.out.2.1
    have hcCX : X.cell? ⟨C, 0, none⟩ = some (.int .i64 (u : Int)) := by rw [hbx.cell (World.block_lt_of_cell? w1 _ HD.out.1)]; exact HD.out.1
    have KU := unpacked_any (H2.out X.drew (hbwX.trans ((below_drew1 X).mono hbwX.size))) 1 (u : Int)
    have hul := unpackAns_len 1 (u : Int) ((bs.take T).drop q)
    obtain ⟨L, hL⟩ : ∃ L, (unpackAns 1 (u : Int) ((bs.take T).drop q)).1 = L := ⟨_, rfl⟩
    obtain ⟨ul, hul2⟩ : ∃ ul, (u64s L).length = ul := ⟨_, rfl⟩
    unfold OutH at KU
    rw [hL, hul2] at KU
    rw [hL] at hul
    have HRR := HR.out
    rw [hL] at HRR
    have HR2 := Lib.hid HRR
    have HUL := Lib.hid hul
    have HXs := Lib.hid hXs
    have HbSX := Lib.hid hbSX
    have HbwX := Lib.hid hbwX
    have HcBX := Lib.hid hcBX
    have HcCX := Lib.hid hcCX
    have HXw : Hid (w.heap.size + 1 ≤ X.heap.size) := Lib.hid (by omega)
    have hfd : X.drew.cell? ⟨w1.heap.size, 1, none⟩ = some (.func (.func 43) #[] #[.pointer (some ⟨B, 0, none⟩)]) := hf
    clear hb1 hbw hsz hbx hTc HDe HD hx0 hbwX hXs hbSX hcBX hcCX hul hL hul2 HRR HR
    go_wp2_with fail
    (try rw [hX])
    clear hX
    refine wp_region_mix (fun V => V.cell? ⟨w1.heap.size, 1, none⟩ = some (.func (.func 43) #[] #[.pointer (some ⟨B, 0, none⟩)])) 12 [(true, 0), (true, 1), (true, 2), (true, 3), (true, 7), (true, 8), (true, 9), (false, 4), (false, 5), (false, 6), (false, 10), (true, 11), (false, 12)] (by kernel_rfl) (by decide +kernel) rfl (by decide +kernel) hfd ?_
    iterate 7
      refine wpMix_take (v := ?_) rfl rfl ?_ ?_
      rotate_left
      · (intro V hV; (try dsimp only at hV); go_simp) <;> with_reducible rfl
      simp only [Act.put, List.setIfInBounds_toArray, List.set_cons_zero, List.set_cons_succ]
    refine wpMix_run rfl ?_
    intro K' hK
    go_wp2_with fail
    refine hK.out _ _ (fun _ => hfd) ?_
    clear hK K'
    refine wpMix_run rfl ?_
    intro K' hK
    go_wp2_with fail
    refine KU.mono ?_
    rintro e w4 ⟨ua, uk, rfl, hu, hb4⟩
    have hb4' : Below X.heap.size X w4 := undrew hb4
    have hf4 : w4.cell? ⟨w1.heap.size, 1, none⟩ = some (.func (.func 43) #[] #[.pointer (some ⟨B, 0, none⟩)]) := by rw [hb4'.cell (World.block_lt_of_cell? X _ hf)]; exact hf
    have KM := unmarked_any hu HUL.out
    obtain ⟨ml, hml⟩ : ∃ ml, (L.map fUnm).length = ml := ⟨_, rfl⟩
    unfold OutF at KM
    rw [hml] at KM
    have HML := Lib.hid hml
    have HB4 := Lib.hid hb4'
    clear hu hb4 hb4' KU hml
    go_wp2_with fail
    refine hK.out _ _ (fun _ => hf4) ?_
    clear hK K'
    refine wpMix_run rfl ?_
    intro K' hK
    go_wp2_with fail
    refine KM.mono ?_
    rintro e w5 ⟨rfl, hm5, hb5⟩
    have hbX5 : Below X.heap.size X w5 := HB4.out.trans (hb5.mono HB4.out.size)
    have hf5 : w5.cell? ⟨w1.heap.size, 1, none⟩ = some (.func (.func 43) #[] #[.pointer (some ⟨B, 0, none⟩)]) := by rw [hbX5.cell (World.block_lt_of_cell? X _ hf)]; exact hf
    have hcB : w5.cell? ⟨B, 0, none⟩ = some (.slice (some A1) (n - (T + 1)) (k - (T + 1))) := by rw [hbX5.cell (World.block_lt_of_cell? X _ HcBX.out)]; exact HcBX.out
    have hcC : w5.cell? ⟨C, 0, none⟩ = some (.int .i64 (u : Int)) := by rw [hbX5.cell (World.block_lt_of_cell? X _ HcCX.out)]; exact HcCX.out
    have hbw5 : Below w.heap.size w w5 := HbwX.out.trans (hbX5.mono HbwX.out.size)
    have KI := dec2_any (N := u) hcB (H0.out w5 hbw5) HL.out
    obtain ⟨ID, hID⟩ : ∃ ID, decI 1 u (bs.drop (T + 1)) = ID := ⟨_, rfl⟩
    obtain ⟨il, hil⟩ : ∃ il, (i64s ID).length = il := ⟨_, rfl⟩
    have HRR := HR2.out
    rw [hID] at HRR
    unfold OutG at KI
    (try simp only [Nat.zero_add] at KI)
    rw [hID, hil] at KI
    have HR3 := Lib.hid HRR
    have HM5 := Lib.hid hm5
    have HX5 := Lib.hid hbX5
    have HW5 := Lib.hid hbw5
    clear KM hm5 hb5 hbX5 hcB hcC hbw5 hID hil HRR HR2 hf4
    go_wp2_with fail
    refine hK.out _ _ (fun _ => hf5) ?_
    clear hK K'
    refine wpMix_run rfl ?_
    intro K' hK
    go_wp2_with fail
    refine KI.mono ?_
    rintro e w6 ⟨ia, ik, rfl, hi6, hb6, hfr⟩
    have hf6 : w6.cell? ⟨w1.heap.size, 1, none⟩ = some (.func (.func 43) #[] #[.pointer (some ⟨B, 0, none⟩)]) := by rw [hb6.cell (World.block_lt_of_cell? w5 _ hf5)]; exact hf5
    have hb56 : Below X.heap.size X w6 := HX5.out.trans (hb6.mono HX5.out.size)
    obtain ⟨⟨y0, y1, y2, y3⟩, ⟨r0, r1⟩, x2⟩ := HC.out w6 (.slice (some ⟨w4.heap.size, 0, none⟩) ml ml) (.slice ia il ik) (HbSX.out.trans (hb56.mono HXw.out))
    have FIN : Hid (OutC w (readC bs) (.returned (.agg #[.slice (some ⟨w4.heap.size, 0, none⟩) ml ml, .slice ia il ik])) ((w6.setCell ⟨w.heap.size, 0, none⟩ (.slice (some ⟨w4.heap.size, 0, none⟩) ml ml)).setCell ⟨w.heap.size, 1, none⟩ (.slice ia il ik))) := Lib.hid (by
      rw [HR3.out]
      have hne : ∀ k, k ≠ w.heap.size → ((w6.setCell ⟨w.heap.size, 0, none⟩ (.slice (some ⟨w4.heap.size, 0, none⟩) ml ml)).setCell ⟨w.heap.size, 1, none⟩ (.slice ia il ik)).heap[k]? = w6.heap[k]? := fun k hk => by rw [vset_other hk, vset_other hk]
      refine ⟨_, _, _, _, _, _, rfl, ?_, ?_, x2, (fun ad e => by cases e; show _ ≤ w4.heap.size; have := HB4.out.size; have := HXw.out; omega), (fun ad e => by have := hfr ad e; have := HX5.out.size; have := HXw.out; omega)⟩
      · rw [← map_unm]
        exact (HM5.out.below hb6).of_blocks (S := w.heap.size) (fun ad _ j => Addr.add_block ad j) (fun ad e _ => by cases e; show w4.heap.size ≠ _; have := HB4.out.size; have := HXw.out; omega) hne
      · exact hi6.of_blocks (S := w.heap.size) (fun ad _ j => Addr.add_block ad j) (fun ad e _ => by have := hfr ad e; have := HX5.out.size; have := HXw.out; omega) hne)
    clear KI hi6 hb6 hfr hb56 hf5 x2
    go_wp2_with fail
    refine hK.out _ _ (fun _ => hf6) ?_
    clear hK K'
    iterate 1
      refine wpMix_take (v := ?_) rfl rfl ?_ ?_
      rotate_left
      · (intro V hV; (try dsimp only at hV); go_simp) <;> with_reducible rfl
      simp only [Act.put, List.setIfInBounds_toArray, List.set_cons_zero, List.set_cons_succ]
    refine wpMix_run rfl ?_
    intro K' hK
    go_wp2_with fail
    refine hK.out _ _ (fun h => absurd rfl h) ?_
    clear hK K'
    refine wpMix_nil ?_
    go_wp2_with fail
    refine bodyPost_ret (v := .agg #[.slice (some ⟨w4.heap.size, 0, none⟩) ml ml, .slice ia il ik]) ?_ rfl FIN.out
    simp [results, Try.results18, go_sem, r0, r1]
  · clear t5 t6 hR3 hk3
    have t5 : decide ((3 : Int) ≤ ((2 : Nat) : Int)) = false := rfl
    go_enter Try.func18, Try.ntmps18
    go_wp2_with fail
    refine KG.mono ?_
    rintro e w' ⟨rfl, rfl⟩
    go_wp2_with fail
    clear hW
    refine (HDe.out _).mono ?_
    rintro e w1 ⟨B, C, rfl, HD⟩
    unfold fnsD
    have hb1 := HD.out.2.2
    have hbw : Below w.heap.size w w1 := HBW.out.trans (hb1.mono HBW.out.size)
    have hTc := HT.out w1 hbw
    have hsz : w.heap.size + 1 ≤ w1.heap.size := by have := hb1.size; have := HS.out; omega
    have hbx := below_box w1 (.cells #[.func (.func 41) #[] #[.pointer (some ⟨B, 0, none⟩), .pointer (some ⟨C, 0, none⟩)], .func (.func 43) #[] #[.pointer (some ⟨B, 0, none⟩)], .func (.func 45) #[] #[.pointer (some ⟨B, 0, none⟩)]] 61)
    obtain ⟨X, hX⟩ : ∃ X, w1.alloc (.cells #[.func (.func 41) #[] #[.pointer (some ⟨B, 0, none⟩), .pointer (some ⟨C, 0, none⟩)], .func (.func 43) #[] #[.pointer (some ⟨B, 0, none⟩)], .func (.func 45) #[] #[.pointer (some ⟨B, 0, none⟩)]] 61) = X := ⟨_, rfl⟩
    have hx0 : X.heap[w1.heap.size]? = some ((.cells #[.func (.func 41) #[] #[.pointer (some ⟨B, 0, none⟩), .pointer (some ⟨C, 0, none⟩)], .func (.func 43) #[] #[.pointer (some ⟨B, 0, none⟩)], .func (.func 45) #[] #[.pointer (some ⟨B, 0, none⟩)]] 61)) := by rw [← hX]; exact heap_alloc_new _ _
    rw [hX] at hbx
    have hbwX := hbw.trans (hbx.mono hbw.size)
    have hTX := HT.out X hbwX
    have hXs : X.heap.size = w1.heap.size + 1 := by rw [← hX]; simp
    have hf : X.cell? ⟨w1.heap.size, 2, none⟩ = some (.func (.func 45) #[] #[.pointer (some ⟨B, 0, none⟩)]) := by rw [cell_of_row _ _ _ _ _ _ hx0]; rfl
    have hbSX : Below (w.heap.size + 1) W X := (hb1.mono (by rw [HS.out]; omega)).trans (hbx.mono hsz)
    have hcBX : X.cell? ⟨B, 0, none⟩ = some (.slice (some A1) (n - (T + 1)) (k - (T + 1))) := by rw [hbx.cell (World.block_lt_of_cell? w1 _ HD.out.2.1)]; exact HD.out.2.1
    have hcCX : X.cell? ⟨C, 0, none⟩ = some (.int .i64 (u : Int)) := by rw [hbx.cell (World.block_lt_of_cell? w1 _ HD.out.1)]; exact HD.out.1
    have KU := unpacked_any (H2.out X.drew (hbwX.trans ((below_drew1 X).mono hbwX.size))) 1 (u : Int)
    have hul := unpackAns_len 1 (u : Int) ((bs.take T).drop q)
    obtain ⟨L, hL⟩ : ∃ L, (unpackAns 1 (u : Int) ((bs.take T).drop q)).1 = L := ⟨_, rfl⟩
    obtain ⟨ul, hul2⟩ : ∃ ul, (u64s L).length = ul := ⟨_, rfl⟩
    unfold OutH at KU
    rw [hL, hul2] at KU
    rw [hL] at hul
    have HRR := HR.out
    rw [hL] at HRR
    have HR2 := Lib.hid HRR
    have HUL := Lib.hid hul
    have HXs := Lib.hid hXs
    have HbSX := Lib.hid hbSX
    have HbwX := Lib.hid hbwX
    have HcBX := Lib.hid hcBX
    have HcCX := Lib.hid hcCX
    have HXw : Hid (w.heap.size + 1 ≤ X.heap.size) := Lib.hid (by omega)
    have hfd : X.drew.cell? ⟨w1.heap.size, 2, none⟩ = some (.func (.func 45) #[] #[.pointer (some ⟨B, 0, none⟩)]) := hf
    clear hb1 hbw hsz hbx hTc HDe HD hx0 hbwX hXs hbSX hcBX hcCX hul hL hul2 HRR HR
    go_wp2_with fail
    (try rw [hX])
    clear hX
    refine wp_region_mix (fun V => V.cell? ⟨w1.heap.size, 2, none⟩ = some (.func (.func 45) #[] #[.pointer (some ⟨B, 0, none⟩)])) 12 [(true, 0), (true, 1), (true, 2), (true, 3), (true, 7), (true, 8), (true, 9), (false, 4), (false, 5), (false, 6), (false, 10), (true, 11), (false, 12)] (by kernel_rfl) (by decide +kernel) rfl (by decide +kernel) hfd ?_
    iterate 7
      refine wpMix_take (v := ?_) rfl rfl ?_ ?_
      rotate_left
      · (intro V hV; (try dsimp only at hV); go_simp) <;> with_reducible rfl
      simp only [Act.put, List.setIfInBounds_toArray, List.set_cons_zero, List.set_cons_succ]
    refine wpMix_run rfl ?_
    intro K' hK
    go_wp2_with fail
    refine hK.out _ _ (fun _ => hfd) ?_
    clear hK K'
    refine wpMix_run rfl ?_
    intro K' hK
    go_wp2_with fail
    refine KU.mono ?_
    rintro e w4 ⟨ua, uk, rfl, hu, hb4⟩
    have hb4' : Below X.heap.size X w4 := undrew hb4
    have hf4 : w4.cell? ⟨w1.heap.size, 2, none⟩ = some (.func (.func 45) #[] #[.pointer (some ⟨B, 0, none⟩)]) := by rw [hb4'.cell (World.block_lt_of_cell? X _ hf)]; exact hf
    have KM := unmarked_any hu HUL.out
    obtain ⟨ml, hml⟩ : ∃ ml, (L.map fUnm).length = ml := ⟨_, rfl⟩
    unfold OutF at KM
    rw [hml] at KM
    have HML := Lib.hid hml
    have HB4 := Lib.hid hb4'
    clear hu hb4 hb4' KU hml
    go_wp2_with fail
    refine hK.out _ _ (fun _ => hf4) ?_
    clear hK K'
    refine wpMix_run rfl ?_
    intro K' hK
    go_wp2_with fail
    refine KM.mono ?_
    rintro e w5 ⟨rfl, hm5, hb5⟩
    have hbX5 : Below X.heap.size X w5 := HB4.out.trans (hb5.mono HB4.out.size)
    have hf5 : w5.cell? ⟨w1.heap.size, 2, none⟩ = some (.func (.func 45) #[] #[.pointer (some ⟨B, 0, none⟩)]) := by rw [hbX5.cell (World.block_lt_of_cell? X _ hf)]; exact hf
    have hcB : w5.cell? ⟨B, 0, none⟩ = some (.slice (some A1) (n - (T + 1)) (k - (T + 1))) := by rw [hbX5.cell (World.block_lt_of_cell? X _ HcBX.out)]; exact HcBX.out
    have hcC : w5.cell? ⟨C, 0, none⟩ = some (.int .i64 (u : Int)) := by rw [hbX5.cell (World.block_lt_of_cell? X _ HcCX.out)]; exact HcCX.out
    have hbw5 : Below w.heap.size w w5 := HbwX.out.trans (hbX5.mono HbwX.out.size)
    have KI := dec3_any (N := u) (m := 0) hcB (H0.out w5 hbw5) HL.out
    obtain ⟨ID, hID⟩ : ∃ ID, decI 2 u (bs.drop (T + 1)) = ID := ⟨_, rfl⟩
    obtain ⟨il, hil⟩ : ∃ il, (i64s ID).length = il := ⟨_, rfl⟩
    have HRR := HR2.out
    rw [hID] at HRR
    unfold OutG at KI
    (try simp only [Nat.zero_add] at KI)
    rw [hID, hil] at KI
    have HR3 := Lib.hid HRR
    have HM5 := Lib.hid hm5
    have HX5 := Lib.hid hbX5
    have HW5 := Lib.hid hbw5
    clear KM hm5 hb5 hbX5 hcB hcC hbw5 hID hil HRR HR2 hf4
    go_wp2_with fail
    refine hK.out _ _ (fun _ => hf5) ?_
    clear hK K'
    refine wpMix_run rfl ?_
    intro K' hK
    go_wp2_with fail
    refine KI.mono ?_
    rintro e w6 ⟨ia, ik, rfl, hi6, hb6, hfr⟩
    have hf6 : w6.cell? ⟨w1.heap.size, 2, none⟩ = some (.func (.func 45) #[] #[.pointer (some ⟨B, 0, none⟩)]) := by rw [hb6.cell (World.block_lt_of_cell? w5 _ hf5)]; exact hf5
    have hb56 : Below X.heap.size X w6 := HX5.out.trans (hb6.mono HX5.out.size)
    obtain ⟨⟨y0, y1, y2, y3⟩, ⟨r0, r1⟩, x2⟩ := HC.out w6 (.slice (some ⟨w4.heap.size, 0, none⟩) ml ml) (.slice ia il ik) (HbSX.out.trans (hb56.mono HXw.out))
    have FIN : Hid (OutC w (readC bs) (.returned (.agg #[.slice (some ⟨w4.heap.size, 0, none⟩) ml ml, .slice ia il ik])) ((w6.setCell ⟨w.heap.size, 0, none⟩ (.slice (some ⟨w4.heap.size, 0, none⟩) ml ml)).setCell ⟨w.heap.size, 1, none⟩ (.slice ia il ik))) := Lib.hid (by
      rw [HR3.out]
      have hne : ∀ k, k ≠ w.heap.size → ((w6.setCell ⟨w.heap.size, 0, none⟩ (.slice (some ⟨w4.heap.size, 0, none⟩) ml ml)).setCell ⟨w.heap.size, 1, none⟩ (.slice ia il ik)).heap[k]? = w6.heap[k]? := fun k hk => by rw [vset_other hk, vset_other hk]
      refine ⟨_, _, _, _, _, _, rfl, ?_, ?_, x2, (fun ad e => by cases e; show _ ≤ w4.heap.size; have := HB4.out.size; have := HXw.out; omega), (fun ad e => by have := hfr ad e; have := HX5.out.size; have := HXw.out; omega)⟩
      · rw [← map_unm]
        exact (HM5.out.below hb6).of_blocks (S := w.heap.size) (fun ad _ j => Addr.add_block ad j) (fun ad e _ => by cases e; show w4.heap.size ≠ _; have := HB4.out.size; have := HXw.out; omega) hne
      · exact hi6.of_blocks (S := w.heap.size) (fun ad _ j => Addr.add_block ad j) (fun ad e _ => by have := hfr ad e; have := HX5.out.size; have := HXw.out; omega) hne)
    clear KI hi6 hb6 hfr hb56 hf5 x2
    go_wp2_with fail
    refine hK.out _ _ (fun _ => hf6) ?_
    clear hK K'
    iterate 1
      refine wpMix_take (v := ?_) rfl rfl ?_ ?_
      rotate_left
      · (intro V hV; (try dsimp only at hV); go_simp) <;> with_reducible rfl
      simp only [Act.put, List.setIfInBounds_toArray, List.set_cons_zero, List.set_cons_succ]
    refine wpMix_run rfl ?_
    intro K' hK
    go_wp2_with fail
    refine hK.out _ _ (fun h => absurd rfl h) ?_
    clear hK K'
    refine wpMix_nil ?_
    go_wp2_with fail
    refine bodyPost_ret (v := .agg #[.slice (some ⟨w4.heap.size, 0, none⟩) ml ml, .slice ia il ik]) ?_ rfl FIN.out
    simp [results, Try.results18, go_sem, r0, r1]
end Go.Proofs.Ytbijpjoljljlpaa
