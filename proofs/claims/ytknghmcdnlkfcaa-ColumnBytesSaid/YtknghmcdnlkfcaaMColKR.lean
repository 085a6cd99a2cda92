/- Bytes of the document. Conditions: none. -/
import Derived.Test.YtknghmcdnlkfcaaPackBC
import Derived.Test.YtknghmcdnlkfcaaMRefRuns
set_option maxRecDepth 100000
namespace Go.Proofs.Ytknghmcdnlkfcaa
open Go.RowKit Go.Maps Go.Sort

theorem pow_wrap (t : Nat) (ht : t ≤ 9) : wrap64 ((2 : Int) ^ min t 64) = ((2 ^ t : Nat) : Int) := by
  have h2 : 2 ^ t ≤ 2 ^ 9 := Nat.pow_le_pow_right (by omega) ht
  have : (2 : Int) ^ t = ((2 ^ t : Nat) : Int) := by simp
  rw [Nat.min_eq_left (by omega), this]
  generalize 2 ^ t = p at *
  unfold wrap64
  omega
theorem width_step {x t : Nat} (hx : x < 512) (h : 2 ^ t ≤ x) : t + 1 ≤ Lib.bitLen x := by
  have := bitLen_lt (x := x) (by omega)
  rcases Nat.lt_or_ge t (Lib.bitLen x) with g | g
  · exact g
  · have := Nat.pow_le_pow_right (n := 2) (by omega) g
    omega
theorem width_end {x t : Nat} (ht : t ≤ 64) (h : ¬ 2 ^ t ≤ x) : Lib.bitLen x ≤ t := Lib.bitLen_le _ _ ht (by omega)
set_option maxHeartbeats 3200000 in
theorem rcbytes_any {w : World} {a1 a2 : Option Addr} {n1 n2 k1 k2 : Nat} {c : CV} (h1 : Holds w (.slice a1 n1 k1) (bls c.nl)) (h2 : Holds w (.slice a2 n2 k2) (i64s c.il)) :
    Calls Try.prog 10 #[.agg #[.slice a1 n1 k1, .slice a2 n2 k2]] w (OutB w (bytV c) (bytE c)) := by
  have hb0 := below_box w (.cells #[.slice a1 n1 k1, .slice a2 n2 k2] 33)
  have HB := Lib.hid hb0
  have KG := rcgood_any (h1.below hb0) (h2.below hb0)
  cases hg : goodC c
  · rw [hg] at KG
    have HP : Hid (∀ w', Below w.heap.size w w' → OutB w (bytV c) (bytE c) (.returned (.tuple #[.slice none 0 0, .int .i64 2])) w') := Lib.hid fun w' hb => by
      simp only [bytV, bytE, hg, Bool.false_eq_true, if_false]
      exact ⟨none, 0, rfl, Holds.nil _, hb⟩
    clear h1 h2 hb0 hg
    go_enter Try.func10, Try.ntmps10
    go_wp2_with fail
    refine KG.mono ?_
    rintro e w1 ⟨rfl, hb⟩
    go_wp2_with fail
    go_ret2
    exact HP.out _ (HB.out.trans (hb.mono (by simp)))
  rw [hg] at KG
  obtain ⟨hn, hl, _⟩ := good_iff.1 hg
  have e1 := h1.len.1
  have e2 := h2.len.1
  rw [bls_len] at e1
  rw [i64s_len] at e2
  obtain rfl : n2 = n1 := by omega
  have hsm := good_small hg
  have hwd := wdU_small hsm
  have HSM := Lib.hid hsm
  have hml := marks_len c
  obtain ⟨hA, hB2, hC⟩ := encs_len c.il hl
  have hdl := dig_len10 (u := n2) (by omega)
  have H1 := Lib.hid (fun (V : World) (hv : Below w.heap.size w V) => h1.below hv)
  have H2 := Lib.hid (fun (V : World) (hv : Below w.heap.size w V) => h2.below hv)
  have E1 := Lib.hid e1
  have E2 := Lib.hid e2
  have HL : Hid (n2 ≤ 1000) := Lib.hid (by omega)
  have HLN : Hid ((dig n2).length ≤ 10 ∧ (packAns 1 (c.nl.map markU)).1.length ≤ 10000 ∧ (packAns (wdU (idsU c.il) : Int) (idsU c.il)).1.length ≤ 1000000 ∧ (encB (idsU c.il)).length ≤ 1000000 ∧ (deltaL 0 c.il).length ≤ 1000000 ∧ wdU (idsU c.il) ≤ 9) := Lib.hid ⟨hdl, by omega, by simp only [encA, List.length_cons] at hA; omega, hB2, hC, hwd⟩
  have HF : Hid (bytV c = dig n2 ++ (packAns 1 (c.nl.map markU)).1 ++ shortL c.il ∧ bytE c = 0) := Lib.hid ⟨by simp only [bytV, hg, if_true, bytesC, e2], by simp only [bytE, hg, if_true]⟩
  have hw : IntKind.u64.wrap (n2 : Int) = (n2 : Int) := by rw [IntKind.wrap_u64]; omega
  clear h1 h2 hb0 hg hn hl e1 e2 hml hdl hsm hwd hA hB2 hC
  go_enter Try.func10, Try.ntmps10
  go_wp2_with fail
  refine KG.mono ?_
  rintro e w1 ⟨rfl, hb⟩
  have hb1 : Below (w.heap.size + 1) (w.alloc (.cells #[.slice a1 n2 k1, .slice a2 n2 k2] 33)) w1 := hb.mono (by simp)
  obtain ⟨f0, f1⟩ := box2 hb1
  have HB1 := Lib.hid hb1
  clear KG hb hb1
  go_wp2_with fail
  go_loopw [4, 5, 6, 22] (fun nv iv wv s wr => ∃ (m t : Nat) (na ia : Option Addr) (nc ic : Nat), .slice na m nc = nv ∧ .slice ia m ic = iv ∧ wv = .int .i64 t ∧ s = .int .i64 m ∧ m ≤ n2 ∧
    Hid (t = wdU (idsU (c.il.take m)) ∧ RowU (w.heap.size + 1) (.slice na m nc) ((c.nl.take m).map markU) wr ∧ RowU (w.heap.size + 1) (.slice ia m ic) (idsU (c.il.take m)) wr ∧ Apart2 (.slice na m nc) (.slice ia m ic) ∧ Below (w.heap.size + 1) (w.alloc (.cells #[.slice a1 n2 k1, .slice a2 n2 k2] 33)) wr)) (fun _ _ _ s _ => n2 - (RowKit.intOf s).toNat)
  case atStart => exact ⟨0, 0, none, none, 0, 0, rfl, rfl, rfl, rfl, Nat.zero_le _, Lib.hid ⟨wdU_nil.symm, RowU.nil _ _, RowU.nil _ _, (fun g hg => by simp [Value.ownBlock] at hg), HB1.out⟩⟩
  case round =>
    obtain ⟨m, t, na, ia, nc, ic, rfl, rfl, rfl, rfl, hm, HS⟩ := hrel
    by_cases hlt : m < n2
    · have hk1 : m < c.nl.length := by have := E1.out; omega
      have hk2 : m < c.il.length := by have := E2.out; omega
      obtain ⟨htw, hrn, hri, hap, hb⟩ := HS.out
      have hbw : Below w.heap.size w wr := HB.out.trans (hb.mono (by omega))
      have G1 := H1.out wr hbw
      have G2 := H2.out wr hbw
      obtain ⟨d1, rfl⟩ := G1.ptr (by omega)
      obtain ⟨d2, rfl⟩ := G2.ptr (by omega)
      obtain ⟨b, hbe⟩ : ∃ b, c.nl[m]? = some b := ⟨_, List.getElem?_eq_getElem hk1⟩
      obtain ⟨x, hx⟩ : ∃ x, c.il[m]? = some x := ⟨_, List.getElem?_eq_getElem hk2⟩
      have c1 := G1.cell (j := m) (u := .bool b) (by simp [bls, hbe])
      have c2 := G2.cell (j := m) (u := .int .i64 x) (by simp [i64s, hx])
      obtain ⟨f0, f1⟩ := box2 hb
      obtain ⟨hx0, hx1⟩ := HSM.out x (List.mem_of_getElem? hx)
      obtain ⟨xn, rfl⟩ : ∃ xn : Nat, x = xn := ⟨x.toNat, by omega⟩
      have hxn : xn < 512 := by omega
      have b0 : (0 : Int) ≤ (m : Int) := Int.natCast_nonneg m
      have b1 : (m : Int) < (n2 : Int) := Int.ofNat_lt.2 hlt
      have hw64 := col_next hlt HL.out
      have hwx : IntKind.u64.wrap (xn : Int) = (xn : Int) := by rw [IntKind.wrap_u64]; omega
      have hsz : w.heap.size + 1 ≤ wr.heap.size := by have := hb.size; simpa using this
      have hlm : ((c.nl.take m).map markU).length ≤ 1000000 := by rw [List.length_map, List.length_take]; have := HL.out; omega
      have hlm2 : (idsU (c.il.take m)).length ≤ 1000000 := by rw [idsU, List.length_map, List.length_take]; have := HL.out; omega
      obtain ⟨v', Y, r1, o1⟩ := pushU hrn hri hap hsz hlm (x := markU b) (n := if b then 1 else 0) (by cases b <;> rfl)
      obtain ⟨hrn2, hri2, hap2, hb2⟩ := o1.out
      have hszY : w.heap.size + 1 ≤ Y.heap.size := Nat.le_trans hsz hb2.size
      obtain ⟨u', Z, r2, o2⟩ := pushU hri2 hrn2 hap2.symm hszY hlm2 (x := idU (xn : Int)) (n := (xn : Int)) (by rw [idU_small hx0 hx1]; rfl)
      have hl1 : ((c.nl.take m).map markU ++ [markU b]).length = m + 1 := by simp; omega
      have hl2 : (idsU (c.il.take m) ++ [idU (xn : Int)]).length = m + 1 := by simp [idsU]; omega
      unfold RowU at o2
      rw [hl1, hl2] at o2
      obtain ⟨va, vc, rfl, _⟩ := ownsRow_form o2.out.2.1
      obtain ⟨ua, uc, rfl, _⟩ := ownsRow_form o2.out.1
      have HW : Hid (∀ t', max t (Lib.bitLen xn) = t' → t' = wdU (idsU (c.il.take (m + 1)))) := Lib.hid (fun t' h => by
        rw [take_snoc hx, idsU, List.map_append, List.map_cons, List.map_nil, wdU_snoc, idU_small hx0 hx1, ← h, htw]; rfl)
      have HR : Hid (RowU (w.heap.size + 1) (.slice va (m + 1) vc) ((c.nl.take (m + 1)).map markU) Z ∧ RowU (w.heap.size + 1) (.slice ua (m + 1) uc) (idsU (c.il.take (m + 1))) Z ∧ Apart2 (.slice va (m + 1) vc) (.slice ua (m + 1) uc) ∧ Below (w.heap.size + 1) (w.alloc (.cells #[.slice (some d1) n2 k1, .slice (some d2) n2 k2] 33)) Z) := Lib.hid (by
        unfold RowU
        rw [take_snoc hx, take_snoc hbe, List.map_append, idsU, List.map_append]
        rw [← idsU]
        refine ⟨?_, ?_, o2.out.2.2.1.symm, (hb.trans hb2).trans o2.out.2.2.2⟩
        · show World.ownsRow _ _ _ _ _ (_ ++ [markU b]).length _
          rw [hl1]; exact o2.out.2.1
        · show World.ownsRow _ _ _ _ _ (_ ++ [idU (xn : Int)]).length _
          rw [hl2]; exact o2.out.1)
      have ht9 : t ≤ 9 := by
        have := wdU_small (l := c.il.take m) (fun y hy => HSM.out y (List.mem_of_mem_take hy))
        omega
      have hbl : Lib.bitLen xn ≤ 9 := Lib.bitLen_le _ 9 (by omega) hxn
      have HT : Hid (t ≤ max t (Lib.bitLen xn) ∧ max t (Lib.bitLen xn) ≤ 9) := Lib.hid (by omega)
      have HX := Lib.hid hxn
      clear hk1 hk2 htw hrn hri hap hb hbw G1 G2 hbe hx hx0 hx1 hxn hsz hlm hlm2 o1 o2 hrn2 hri2 hap2 hb2 hszY hl1 hl2 ht9 hbl HS HB1
      obtain ⟨T, hT⟩ : ∃ T, max t (Lib.bitLen xn) = T := ⟨_, rfl⟩
      have HTT := Lib.hid hT
      rw [hT] at HT
      clear hT
      cases b
      · simp only [Bool.false_eq_true, if_false] at r1
        go_wp2_with (at_builtin; first | (refine wpList_append_run (sv := .slice na m nc) rfl _ _ 63 rfl rfl rfl (r1.out _) ?_; clear r1) | (refine wpList_append_run (sv := .slice ia m ic) rfl _ _ 63 rfl rfl rfl (r2.out _) ?_))
        go_loopw [6] (fun wv wr => ∃ t' : Nat, wv = .int .i64 t' ∧ Hid (t ≤ t' ∧ t' ≤ T) ∧ wr = Z) (fun wv _ => T - (RowKit.intOf wv).toNat)
        case atStart => exact ⟨t, rfl, Lib.hid ⟨Nat.le_refl _, HT.out.1⟩, rfl⟩
        case round =>
          obtain ⟨t', rfl, HI, rfl⟩ := hrel
          have ht9 : t' ≤ 9 := by have := HI.out; have := HT.out; omega
          have hws := pow_wrap t' ht9
          have HSt := Lib.hid (@width_step xn t' HX.out)
          have HSe := Lib.hid (@width_end xn t' (by omega))
          have hwt : IntKind.u64.wrap (t' : Int) = (t' : Int) := by rw [IntKind.wrap_u64]; omega
          have hwn : IntKind.i64.wrap ((t' : Int) + 1) = (t' : Int) + 1 := by rw [IntKind.wrap_i64]; omega
          obtain ⟨P, hP⟩ : ∃ P, 2 ^ t' = P := ⟨_, rfl⟩
          rw [hP] at hws HSt HSe
          clear hP ht9
          by_cases hc : P ≤ xn
          · have q0 : decide (wrap64 ((2 : Int) ^ min t' 64) ≤ (xn : Int)) = true := decide_eq_true (by rw [hws]; omega)
            clear hws
            have HN : Hid (t ≤ t' + 1 ∧ t' + 1 ≤ T) := Lib.hid (by have := HSt.out hc; have := HI.out; have := HTT.out; omega)
            have HM : Hid (T - (t' + 1) < T - t') := Lib.hid (by have := HN.out; omega)
            clear hc HSt HSe HI
            go_wp2_with fail
            go_roundw
            case rel => exact ⟨t' + 1, by go_num, HN, trivial⟩
            case measure => have := HM.out; simp [RowKit.intOf]; omega
          · have q0 : decide (wrap64 ((2 : Int) ^ min t' 64) ≤ (xn : Int)) = false := decide_eq_false (by rw [hws]; omega)
            clear hws
            have HWT := Lib.hid (HW.out t' (by have := HSe.out hc; have := HI.out; have := HTT.out; omega))
            clear hc HSt HSe HI HTT HT
            go_wp2_with fail
            go_roundw
            case rel => exact ⟨m + 1, t', _, _, _, _, rfl, rfl, rfl, by go_num, hlt, Lib.hid ⟨HWT.out, HR.out⟩⟩
            case measure => simp [RowKit.intOf]; omega
      · simp only [if_true] at r1
        go_wp2_with (at_builtin; first | (refine wpList_append_run (sv := .slice na m nc) rfl _ _ 63 rfl rfl rfl (r1.out _) ?_; clear r1) | (refine wpList_append_run (sv := .slice ia m ic) rfl _ _ 63 rfl rfl rfl (r2.out _) ?_))
        go_loopw [6] (fun wv wr => ∃ t' : Nat, wv = .int .i64 t' ∧ Hid (t ≤ t' ∧ t' ≤ T) ∧ wr = Z) (fun wv _ => T - (RowKit.intOf wv).toNat)
        case atStart => exact ⟨t, rfl, Lib.hid ⟨Nat.le_refl _, HT.out.1⟩, rfl⟩
        case round =>
          obtain ⟨t', rfl, HI, rfl⟩ := hrel
          have ht9 : t' ≤ 9 := by have := HI.out; have := HT.out; omega
          have hws := pow_wrap t' ht9
          have HSt := Lib.hid (@width_step xn t' HX.out)
          have HSe := Lib.hid (@width_end xn t' (by omega))
          have hwt : IntKind.u64.wrap (t' : Int) = (t' : Int) := by rw [IntKind.wrap_u64]; omega
          have hwn : IntKind.i64.wrap ((t' : Int) + 1) = (t' : Int) + 1 := by rw [IntKind.wrap_i64]; omega
          obtain ⟨P, hP⟩ : ∃ P, 2 ^ t' = P := ⟨_, rfl⟩
          rw [hP] at hws HSt HSe
          clear hP ht9
          by_cases hc : P ≤ xn
          · have q0 : decide (wrap64 ((2 : Int) ^ min t' 64) ≤ (xn : Int)) = true := decide_eq_true (by rw [hws]; omega)
            clear hws
            have HN : Hid (t ≤ t' + 1 ∧ t' + 1 ≤ T) := Lib.hid (by have := HSt.out hc; have := HI.out; have := HTT.out; omega)
            have HM : Hid (T - (t' + 1) < T - t') := Lib.hid (by have := HN.out; omega)
            clear hc HSt HSe HI
            go_wp2_with fail
            go_roundw
            case rel => exact ⟨t' + 1, by go_num, HN, trivial⟩
            case measure => have := HM.out; simp [RowKit.intOf]; omega
          · have q0 : decide (wrap64 ((2 : Int) ^ min t' 64) ≤ (xn : Int)) = false := decide_eq_false (by rw [hws]; omega)
            clear hws
            have HWT := Lib.hid (HW.out t' (by have := HSe.out hc; have := HI.out; have := HTT.out; omega))
            clear hc HSt HSe HI HTT HT
            go_wp2_with fail
            go_roundw
            case rel => exact ⟨m + 1, t', _, _, _, _, rfl, rfl, rfl, by go_num, hlt, Lib.hid ⟨HWT.out, HR.out⟩⟩
            case measure => simp [RowKit.intOf]; omega
    · obtain rfl : m = n2 := by omega
      obtain ⟨htw, hrn, hri, hap, hb⟩ := HS.out
      have hta : c.nl.take m = c.nl := by rw [← E1.out]; exact List.take_length
      have htb : c.il.take m = c.il := by rw [← E2.out]; exact List.take_length
      rw [htb] at htw hri
      rw [hta] at hrn
      have hbw : Below w.heap.size w wr := HB.out.trans (hb.mono (by omega))
      obtain ⟨I, hI⟩ : ∃ I, idsU c.il = I := ⟨_, rfl⟩
      obtain ⟨Mk, hMk⟩ : ∃ Mk, c.nl.map markU = Mk := ⟨_, rfl⟩
      have hIl : I.length = m := by rw [← hI, idsU, List.length_map]; exact E2.out
      have hMl : Mk.length = m := by rw [← hMk, List.length_map]; exact E1.out
      have hsh : shortL c.il = (let b2 := if (1 :: encB I).length < (0 :: UInt8.ofNat (wdU I) :: (packAns (wdU I : Int) I).1).length then 1 :: encB I else 0 :: UInt8.ofNat (wdU I) :: (packAns (wdU I : Int) I).1; if (2 :: deltaL 0 c.il).length < b2.length then 2 :: deltaL 0 c.il else b2) := by rw [← hI]; rfl
      rw [hI] at htw hri
      rw [hMk] at hrn
      have hnN : Holds wr (.slice na m nc) (u64s Mk) := hrn.holds
      have hiN : Holds wr (.slice ia m ic) (u64s I) := hri.holds
      have hln := HLN.out
      rw [hI, hMk, ← htw] at hln
      have hf := HF.out
      rw [hMk] at hf
      rw [← htw] at hsh
      obtain ⟨PK, hPK⟩ : ∃ PK, (packAns (t : Int) I).1 = PK := ⟨_, rfl⟩
      obtain ⟨RB, hRB⟩ : ∃ RB, encB I = RB := ⟨_, rfl⟩
      obtain ⟨DL, hDL⟩ : ∃ DL, deltaL 0 c.il = DL := ⟨_, rfl⟩
      obtain ⟨D, hD⟩ : ∃ D, dig m = D := ⟨_, rfl⟩
      obtain ⟨M, hM⟩ : ∃ M, (packAns 1 Mk).1 = M := ⟨_, rfl⟩
      rw [hPK, hRB, hDL] at hsh
      rw [hD, hM, hPK, hRB, hDL] at hln
      rw [hD, hM] at hf
      have KPut := refPut_any (xs := []) (show Holds wr (.slice none 0 0) (u8s []) from Holds.nil wr) m (by have := HL.out; omega) (by simp)
      simp only [List.nil_append] at KPut
      rw [hD] at KPut
      obtain ⟨dl, hdl⟩ : ∃ dl, D.length = dl := ⟨_, rfl⟩
      rw [hdl] at KPut
      have HM := Lib.hid (fun (V : World) (hv : Below wr.heap.size wr V) => by
        have := refPack_all (l := Mk) (w := V) (a := na) (cap := nc) (by rw [hMl]; exact hnN.below hv) (by have := HL.out; omega) 1
        rw [hMl, hM] at this
        exact this)
      have HP := Lib.hid (fun (V : World) (hv : Below wr.heap.size wr V) => by
        have := refPack_all (l := I) (w := V) (a := ia) (cap := ic) (by rw [hIl]; exact hiN.below hv) (by have := HL.out; omega) (t : Int)
        rw [hIl, hPK] at this
        exact this)
      have HRu := Lib.hid (fun (V : World) (hv : Below wr.heap.size wr V) => by
        have := refRuns_any (l := I) (w := V) (hiN.below hv) (by have := HL.out; omega)
        rw [show runsB (runsOf I) = encB I from rfl, hRB] at this
        exact this)
      have HDe := Lib.hid (fun (V : World) (hv : Below w.heap.size w V) => by
        have := refDeltas_any (H2.out V hv) (by have := E2.out; have := HL.out; omega)
        rw [hDL] at this
        exact this)
      have HDL2 := Lib.hid hdl
      have HLN2 := Lib.hid hln
      have HFF := Lib.hid hf
      have HSH := Lib.hid hsh
      have HBr := Lib.hid hb
      have HBw := Lib.hid hbw
      have hszr : w.heap.size + 1 ≤ wr.heap.size := by have := hb.size; simpa using this
      have HSZ := Lib.hid hszr
      have hw8 : IntKind.u8.wrap (t : Int) = (t : Int) := by rw [IntKind.wrap_u8]; omega
      have HT8 : Hid ((t : Int) = ((UInt8.ofNat t).toNat : Int)) := Lib.hid (by rw [UInt8.toNat_ofNat']; omega)
      clear htw hrn hri hap hb hta htb hbw hI hMk hIl hMl hsh hnN hiN hln hf hPK hRB hDL hD hM hdl hszr HS HB1 HLN HF HSM
      go_wp2_with fail
      refine KPut.mono ?_
      rintro e w2 ⟨v, rfl, ho, hb2⟩
      obtain ⟨pa, pk, rfl, _⟩ := ownsRow_form ho
      have KM := HM.out w2 hb2
      have HO := Lib.hid ho
      have HB2 := Lib.hid hb2
      clear KPut ho hb2 HM
      go_wp2_with fail
      refine KM.mono ?_
      rintro e w3 ⟨qv, rfl, HQ⟩
      obtain ⟨qa, qk, rfl, _⟩ := HQ.out.1.form
      have ho3 := ownsRow_below HO.out HQ.out.2
      have hs3 : wr.heap.size ≤ w3.heap.size := Nat.le_trans HB2.out.size HQ.out.2.size
      obtain ⟨v4, w4, R4, o4, g4, _⟩ := app8 (xs := D) (by rw [HDL2.out]; exact ho3) hs3 HQ.out.1 (by have := HLN2.out; omega)
      have hb4 : Below wr.heap.size wr w4 := (HB2.out.trans (HQ.out.2.mono HB2.out.size)).trans (below_grown g4 hs3 (fun k e => (ho3.lt k e).1))
      obtain ⟨ra, rk, rfl, _⟩ := ownsRow_form o4
      obtain ⟨dm, hdm⟩ : ∃ dm, (D ++ M).length = dm := ⟨_, rfl⟩
      rw [hdm] at R4 o4
      have HDM := Lib.hid hdm
      obtain ⟨ml, hml⟩ : ∃ ml, (u8s M).length = ml := ⟨_, rfl⟩
      rw [hml] at R4
      have R4' := Lib.hid R4
      have O4 := Lib.hid o4
      have HB4 := Lib.hid hb4
      have KP := HP.out w4 hb4
      (try rw [hml])
      clear KM ho3 hs3 R4 o4 g4 hb4 hdm hml HP HQ HO
      go_wp2_with (at_builtin; refine wpList_append_run rfl _ _ 26 rfl rfl rfl (R4'.out _) ?_)
      refine KP.mono ?_
      rintro e w5 ⟨sv, rfl, HQ⟩
      obtain ⟨sa, sk, rfl, _⟩ := HQ.out.1.form
      obtain ⟨sl, hsl⟩ : ∃ sl, (u8s PK).length = sl := ⟨_, rfl⟩
      obtain ⟨ba, bk, w6, R6, H6⟩ := app_lit2 (W := w5) (c := 0) (d := UInt8.ofNat t) (x := 0) (y := (t : Int)) rfl HT8.out (below_box w5 (.cells #[.int .u8 0, .int .u8 (t : Int)] 5) |>.mono (Nat.le_refl _) |> fun h => (Below.refl (w5.heap.size + 1) _)) (HQ.out.1.below (below_box w5 (.cells #[.int .u8 0, .int .u8 (t : Int)] 5))) (by have := HLN2.out; omega)
      rw [hsl] at R6
      obtain ⟨la, hla⟩ : ∃ la, (0 :: UInt8.ofNat t :: PK).length = la := ⟨_, rfl⟩
      rw [hla] at R6 H6
      have HLA := Lib.hid hla
      have hb56 : Below wr.heap.size wr w5 := HB4.out.trans (HQ.out.2.mono HB4.out.size)
      have hb6 : Below wr.heap.size wr w6 := hb56.trans (H6.out.2.mono hb56.size)
      have hO6 := ownsRow_below (ownsRow_below O4.out HQ.out.2) H6.out.2
      have HB6 := Lib.hid hb6
      have O6 := Lib.hid hO6
      have HK := Lib.hid H6.out.1
      have hbx7 := below_box w6 (.cells #[.int .u8 1] 5)
      have KR := HRu.out (w6.alloc (.cells #[.int .u8 1] 5)) (hb6.trans (hbx7.mono hb6.size))
      (try rw [hsl])
      clear KP R4' O4 HQ hsl hla hb56 hb6 hO6 hbx7 H6 HRu
      go_wp2_with (at_builtin; refine wpList_append_run rfl _ _ 26 rfl rfl rfl (R6.out _) ?_)
      refine KR.mono ?_
      rintro e w7 ⟨tv, rfl, HQ⟩
      obtain ⟨ta, tk, rfl, _⟩ := HQ.out.1.form
      obtain ⟨tl, htl⟩ : ∃ tl, (u8s RB).length = tl := ⟨_, rfl⟩
      obtain ⟨ca, ck, w8, R8, H8⟩ := app_lit (W := w6) (c := 1) (x := 1) rfl (HQ.out.2.mono (by simp)) HQ.out.1 (by have := HLN2.out; omega)
      rw [htl] at R8
      obtain ⟨lb, hlb⟩ : ∃ lb, (1 :: RB).length = lb := ⟨_, rfl⟩
      rw [hlb] at R8 H8
      have HLB := Lib.hid hlb
      have hb8 : Below wr.heap.size wr w8 := HB6.out.trans (H8.out.2.mono HB6.out.size)
      have hO8 := ownsRow_below O6.out H8.out.2
      have HA8 := Lib.hid (HK.out.below H8.out.2)
      have HB8 := Lib.hid hb8
      have O8 := Lib.hid hO8
      have HC8 := Lib.hid H8.out.1
      have hbx9 := below_box w8 (.cells #[.int .u8 2] 5)
      have hbw8 : Below w.heap.size w w8 := HBw.out.trans (hb8.mono HBw.out.size)
      have KD := HDe.out (w8.alloc (.cells #[.int .u8 2] 5)) (hbw8.trans (hbx9.mono hbw8.size))
      have hbb8 : Below (w.heap.size + 1) (w.alloc (.cells #[.slice a1 m k1, .slice a2 m k2] 33)) w8 := HBr.out.trans (hb8.mono HSZ.out)
      obtain ⟨f0, f1⟩ := box2 hbb8
      have f1' := cell_more f1 (.cells #[.int .u8 2] 5)
      have HBW8 := Lib.hid hbw8
      (try rw [htl])
      clear KR R6 O6 HQ htl hlb hb8 hO8 hbx9 H8 HDe HK hbb8 f0 hbw8
      obtain ⟨lc, hlc⟩ : ∃ lc, (2 :: DL).length = lc := ⟨_, rfl⟩
      have HLC := Lib.hid hlc
      clear hlc
      by_cases hBA : lb < la
      · have u0 : decide ((lb : Int) < (la : Int)) = true := decide_eq_true (by omega)
        have u1 : decide (lb < la) = true := decide_eq_true (by omega)
        have hsh := HSH.out
        rw [HLA.out, HLB.out, if_pos hBA] at hsh
        obtain ⟨BST, hBST⟩ : ∃ B, 1 :: RB = B := ⟨_, rfl⟩
        rw [hBST] at hsh HC8 HLB
        have hsh : shortL c.il = if (2 :: DL).length < BST.length then 2 :: DL else BST := hsh
        rw [HLC.out, HLB.out] at hsh
        have HBL : Hid (BST.length ≤ 1000005) := Lib.hid (by rw [← hBST]; simp only [List.length_cons]; have := HLN2.out; omega)
        clear hBST hBA
        by_cases hCB : lc < lb
        · have u2 : decide ((lc : Int) < (lb : Int)) = true := decide_eq_true (by omega)
          have u3 : decide (lc < lb) = true := decide_eq_true (by omega)
          rw [if_pos hCB] at hsh
          have HSH2 := Lib.hid hsh
          clear hsh hCB HSH
          go_wp2_with (at_builtin; refine wpList_append_run rfl _ _ 26 rfl rfl rfl (R8.out _) ?_)
          refine KD.mono ?_
          rintro e w9 ⟨uv, rfl, HQ⟩
          obtain ⟨ua, uk, rfl, _⟩ := HQ.out.1.form
          obtain ⟨ul, hul⟩ : ∃ ul, (u8s DL).length = ul := ⟨_, rfl⟩
          obtain ⟨ea, ek, wA, RA, HA⟩ := app_lit (W := w8) (c := 2) (x := 2) rfl (HQ.out.2.mono (by simp)) HQ.out.1 (by have := HLN2.out; omega)
          rw [hul] at RA
          obtain ⟨lc', hlc'⟩ : ∃ lc', (2 :: DL).length = lc' := ⟨_, rfl⟩
          rw [hlc'] at RA HA
          obtain rfl : lc' = lc := hlc'.symm.trans HLC.out
          have hbest : Holds wA (.slice ca lb ck) (u8s BST) := HC8.out.below HA.out.2
          have hx2 : Holds wA (.slice ea lc' ek) (u8s (2 :: DL)) := HA.out.1
          have hOA := ownsRow_below O8.out HA.out.2
          have hsA : wr.heap.size ≤ wA.heap.size := Nat.le_trans HB8.out.size HA.out.2.size
          obtain ⟨vB, wB, RB2, oB, gB, _⟩ := app8 (xs := D ++ M) (by rw [HDM.out]; exact hOA) hsA hx2 (by have := HLN2.out; have := HLA.out; have := HLB.out; have := HLC.out; have := HBL.out; simp only [List.length_append, List.length_cons] at *; omega)
          obtain ⟨fa, fk, rfl, _⟩ := ownsRow_form oB
          obtain ⟨fl, hfl⟩ : ∃ fl, (D ++ M ++ 2 :: DL).length = fl := ⟨_, rfl⟩
          rw [hfl] at RB2 oB
          have RBB := Lib.hid RB2
          have FIN : Hid (OutB w (bytV c) (bytE c) (.returned (.tuple #[.slice fa fl fk, .int .i64 0])) wB) := Lib.hid (by
            rw [HFF.out.1, HFF.out.2, HSH2.out]
            exact ⟨fa, fk, by rw [hfl], by rw [hfl]; exact Holds.of_row (by rw [u8s_len, hfl]; exact oB), HBW8.out.trans ((HA.out.2.mono HBW8.out.size).trans (below_grown gB (Nat.le_trans HBW8.out.size HA.out.2.size) (fun k e => by have := (hOA.lt k e).1; have := HSZ.out; omega)))⟩)
          (try rw [hul])
          clear KD R8 O8 HQ hul hlc' HA hbest hx2 hOA hsA RB2 oB gB hfl
          go_wp2_with (at_builtin; first | (refine wpList_append_run rfl _ _ 26 rfl rfl rfl (RA.out _) ?_; clear RA) | (refine wpList_append_run rfl _ _ 26 rfl rfl rfl (RBB.out _) ?_))
          go_ret2
          exact FIN.out
        · have u2 : decide ((lc : Int) < (lb : Int)) = false := decide_eq_false (by omega)
          have u3 : decide (lc < lb) = false := decide_eq_false (by omega)
          rw [if_neg hCB] at hsh
          have HSH2 := Lib.hid hsh
          clear hsh hCB HSH
          go_wp2_with (at_builtin; refine wpList_append_run rfl _ _ 26 rfl rfl rfl (R8.out _) ?_)
          refine KD.mono ?_
          rintro e w9 ⟨uv, rfl, HQ⟩
          obtain ⟨ua, uk, rfl, _⟩ := HQ.out.1.form
          obtain ⟨ul, hul⟩ : ∃ ul, (u8s DL).length = ul := ⟨_, rfl⟩
          obtain ⟨ea, ek, wA, RA, HA⟩ := app_lit (W := w8) (c := 2) (x := 2) rfl (HQ.out.2.mono (by simp)) HQ.out.1 (by have := HLN2.out; omega)
          rw [hul] at RA
          obtain ⟨lc', hlc'⟩ : ∃ lc', (2 :: DL).length = lc' := ⟨_, rfl⟩
          rw [hlc'] at RA HA
          obtain rfl : lc' = lc := hlc'.symm.trans HLC.out
          have hbest : Holds wA (.slice ca lb ck) (u8s BST) := HC8.out.below HA.out.2
          have hx2 : Holds wA (.slice ea lc' ek) (u8s (2 :: DL)) := HA.out.1
          have hOA := ownsRow_below O8.out HA.out.2
          have hsA : wr.heap.size ≤ wA.heap.size := Nat.le_trans HB8.out.size HA.out.2.size
          obtain ⟨vB, wB, RB2, oB, gB, _⟩ := app8 (xs := D ++ M) (by rw [HDM.out]; exact hOA) hsA hbest (by have := HLN2.out; have := HLA.out; have := HLB.out; have := HLC.out; have := HBL.out; simp only [List.length_append, List.length_cons] at *; omega)
          obtain ⟨fa, fk, rfl, _⟩ := ownsRow_form oB
          obtain ⟨fl, hfl⟩ : ∃ fl, (D ++ M ++ BST).length = fl := ⟨_, rfl⟩
          rw [hfl] at RB2 oB
          have RBB := Lib.hid RB2
          have FIN : Hid (OutB w (bytV c) (bytE c) (.returned (.tuple #[.slice fa fl fk, .int .i64 0])) wB) := Lib.hid (by
            rw [HFF.out.1, HFF.out.2, HSH2.out]
            exact ⟨fa, fk, by rw [hfl], by rw [hfl]; exact Holds.of_row (by rw [u8s_len, hfl]; exact oB), HBW8.out.trans ((HA.out.2.mono HBW8.out.size).trans (below_grown gB (Nat.le_trans HBW8.out.size HA.out.2.size) (fun k e => by have := (hOA.lt k e).1; have := HSZ.out; omega)))⟩)
          (try rw [hul])
          clear KD R8 O8 HQ hul hlc' HA hbest hx2 hOA hsA RB2 oB gB hfl
          go_wp2_with (at_builtin; first | (refine wpList_append_run rfl _ _ 26 rfl rfl rfl (RA.out _) ?_; clear RA) | (refine wpList_append_run rfl _ _ 26 rfl rfl rfl (RBB.out _) ?_))
          go_ret2
          exact FIN.out
      · have u0 : decide ((lb : Int) < (la : Int)) = false := decide_eq_false (by omega)
        have u1 : decide (lb < la) = false := decide_eq_false (by omega)
        have hsh := HSH.out
        rw [HLA.out, HLB.out, if_neg hBA] at hsh
        obtain ⟨BST, hBST⟩ : ∃ B, 0 :: UInt8.ofNat t :: PK = B := ⟨_, rfl⟩
        rw [hBST] at hsh HA8 HLA
        have hsh : shortL c.il = if (2 :: DL).length < BST.length then 2 :: DL else BST := hsh
        rw [HLC.out, HLA.out] at hsh
        have HBL : Hid (BST.length ≤ 1000005) := Lib.hid (by rw [← hBST]; simp only [List.length_cons]; have := HLN2.out; omega)
        clear hBST hBA
        by_cases hCB : lc < la
        · have u2 : decide ((lc : Int) < (la : Int)) = true := decide_eq_true (by omega)
          have u3 : decide (lc < la) = true := decide_eq_true (by omega)
          rw [if_pos hCB] at hsh
          have HSH2 := Lib.hid hsh
          clear hsh hCB HSH
          go_wp2_with (at_builtin; refine wpList_append_run rfl _ _ 26 rfl rfl rfl (R8.out _) ?_)
          refine KD.mono ?_
          rintro e w9 ⟨uv, rfl, HQ⟩
          obtain ⟨ua, uk, rfl, _⟩ := HQ.out.1.form
          obtain ⟨ul, hul⟩ : ∃ ul, (u8s DL).length = ul := ⟨_, rfl⟩
          obtain ⟨ea, ek, wA, RA, HA⟩ := app_lit (W := w8) (c := 2) (x := 2) rfl (HQ.out.2.mono (by simp)) HQ.out.1 (by have := HLN2.out; omega)
          rw [hul] at RA
          obtain ⟨lc', hlc'⟩ : ∃ lc', (2 :: DL).length = lc' := ⟨_, rfl⟩
          rw [hlc'] at RA HA
          obtain rfl : lc' = lc := hlc'.symm.trans HLC.out
          have hbest : Holds wA (.slice ba la bk) (u8s BST) := HA8.out.below HA.out.2
          have hx2 : Holds wA (.slice ea lc' ek) (u8s (2 :: DL)) := HA.out.1
          have hOA := ownsRow_below O8.out HA.out.2
          have hsA : wr.heap.size ≤ wA.heap.size := Nat.le_trans HB8.out.size HA.out.2.size
          obtain ⟨vB, wB, RB2, oB, gB, _⟩ := app8 (xs := D ++ M) (by rw [HDM.out]; exact hOA) hsA hx2 (by have := HLN2.out; have := HLA.out; have := HLB.out; have := HLC.out; have := HBL.out; simp only [List.length_append, List.length_cons] at *; omega)
          obtain ⟨fa, fk, rfl, _⟩ := ownsRow_form oB
          obtain ⟨fl, hfl⟩ : ∃ fl, (D ++ M ++ 2 :: DL).length = fl := ⟨_, rfl⟩
          rw [hfl] at RB2 oB
          have RBB := Lib.hid RB2
          have FIN : Hid (OutB w (bytV c) (bytE c) (.returned (.tuple #[.slice fa fl fk, .int .i64 0])) wB) := Lib.hid (by
            rw [HFF.out.1, HFF.out.2, HSH2.out]
            exact ⟨fa, fk, by rw [hfl], by rw [hfl]; exact Holds.of_row (by rw [u8s_len, hfl]; exact oB), HBW8.out.trans ((HA.out.2.mono HBW8.out.size).trans (below_grown gB (Nat.le_trans HBW8.out.size HA.out.2.size) (fun k e => by have := (hOA.lt k e).1; have := HSZ.out; omega)))⟩)
          (try rw [hul])
          clear KD R8 O8 HQ hul hlc' HA hbest hx2 hOA hsA RB2 oB gB hfl
          go_wp2_with (at_builtin; first | (refine wpList_append_run rfl _ _ 26 rfl rfl rfl (RA.out _) ?_; clear RA) | (refine wpList_append_run rfl _ _ 26 rfl rfl rfl (RBB.out _) ?_))
          go_ret2
          exact FIN.out
        · have u2 : decide ((lc : Int) < (la : Int)) = false := decide_eq_false (by omega)
          have u3 : decide (lc < la) = false := decide_eq_false (by omega)
          rw [if_neg hCB] at hsh
          have HSH2 := Lib.hid hsh
          clear hsh hCB HSH
          go_wp2_with (at_builtin; refine wpList_append_run rfl _ _ 26 rfl rfl rfl (R8.out _) ?_)
          refine KD.mono ?_
          rintro e w9 ⟨uv, rfl, HQ⟩
          obtain ⟨ua, uk, rfl, _⟩ := HQ.out.1.form
          obtain ⟨ul, hul⟩ : ∃ ul, (u8s DL).length = ul := ⟨_, rfl⟩
          obtain ⟨ea, ek, wA, RA, HA⟩ := app_lit (W := w8) (c := 2) (x := 2) rfl (HQ.out.2.mono (by simp)) HQ.out.1 (by have := HLN2.out; omega)
          rw [hul] at RA
          obtain ⟨lc', hlc'⟩ : ∃ lc', (2 :: DL).length = lc' := ⟨_, rfl⟩
          rw [hlc'] at RA HA
          obtain rfl : lc' = lc := hlc'.symm.trans HLC.out
          have hbest : Holds wA (.slice ba la bk) (u8s BST) := HA8.out.below HA.out.2
          have hx2 : Holds wA (.slice ea lc' ek) (u8s (2 :: DL)) := HA.out.1
          have hOA := ownsRow_below O8.out HA.out.2
          have hsA : wr.heap.size ≤ wA.heap.size := Nat.le_trans HB8.out.size HA.out.2.size
          obtain ⟨vB, wB, RB2, oB, gB, _⟩ := app8 (xs := D ++ M) (by rw [HDM.out]; exact hOA) hsA hbest (by have := HLN2.out; have := HLA.out; have := HLB.out; have := HLC.out; have := HBL.out; simp only [List.length_append, List.length_cons] at *; omega)
          obtain ⟨fa, fk, rfl, _⟩ := ownsRow_form oB
          obtain ⟨fl, hfl⟩ : ∃ fl, (D ++ M ++ BST).length = fl := ⟨_, rfl⟩
          rw [hfl] at RB2 oB
          have RBB := Lib.hid RB2
          have FIN : Hid (OutB w (bytV c) (bytE c) (.returned (.tuple #[.slice fa fl fk, .int .i64 0])) wB) := Lib.hid (by
            rw [HFF.out.1, HFF.out.2, HSH2.out]
            exact ⟨fa, fk, by rw [hfl], by rw [hfl]; exact Holds.of_row (by rw [u8s_len, hfl]; exact oB), HBW8.out.trans ((HA.out.2.mono HBW8.out.size).trans (below_grown gB (Nat.le_trans HBW8.out.size HA.out.2.size) (fun k e => by have := (hOA.lt k e).1; have := HSZ.out; omega)))⟩)
          (try rw [hul])
          clear KD R8 O8 HQ hul hlc' HA hbest hx2 hOA hsA RB2 oB gB hfl
          go_wp2_with (at_builtin; first | (refine wpList_append_run rfl _ _ 26 rfl rfl rfl (RA.out _) ?_; clear RA) | (refine wpList_append_run rfl _ _ 26 rfl rfl rfl (RBB.out _) ?_))
          go_ret2
          exact FIN.out
end Go.Proofs.Ytknghmcdnlkfcaa
