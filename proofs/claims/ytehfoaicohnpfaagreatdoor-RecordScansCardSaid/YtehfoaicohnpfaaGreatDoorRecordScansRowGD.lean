/- The texts RecM RecN RecR RecO, one behind the other; each one's own comment says what it holds. -/
import Derived.Test.YtehfoaicohnpfaaGreatDoorRecordScansRowGC
import Derived.Test.YtehfoaicohnpfaaGreatDoorSched3
import Derived.Test.YtehfoaicohnpfaaGreatDoorRecQ
import Derived.Test.YtehfoaicohnpfaaGreatDoorRecordScansRowGE
/- A record's bytes: what a rollup and a batch put. Conditions: at most 2^43 bytes. -/
set_option maxRecDepth 100000
namespace Go.Proofs.YtehfoaicohnpfaaGreatDoor
open Go.RowKit Go.Maps Go.Sort Go.Lib

theorem strs_at {l : List ByteArray} {i : Nat} {s : ByteArray} (h : l[i]? = some s) : (strs l)[i]? = some (.string s) := by unfold strs; rw [List.getElem?_map, h]; rfl
set_option maxHeartbeats 3200000 in
theorem rput_at {w wz : World} {v : Value} {acc : List UInt8} (h : Out w wz v acc) (rn rt : ByteArray) (ds : List ByteArray) (ms : List (Int × ByteArray)) {b c : Value} (hb : Holds w b (strs ds)) (hc : Holds2 w c (ms.map meaC))
    (hl : acc.length + (txL rn ++ (txL rt ++ (dig ds.length ++ (manyL txL ds ++ (dig ms.length ++ manyL meaL ms))))).length ≤ 8796093022208) (hn : ds.length ≤ 1000000000) (hm : ms.length ≤ 1000000000) :
    Calls Tryz.prog 96 #[.agg #[.string rn, .string rt, b, c], v] wz (PutP w wz (acc ++ (txL rn ++ (txL rt ++ (dig ds.length ++ (manyL txL ds ++ (dig ms.length ++ manyL meaL ms))))))) := by
  obtain ⟨b1, bc, rfl, hbc⟩ := hb.form
  obtain ⟨c1, cc, rfl, hcc⟩ := hc.form
  rw [strs_len] at *
  rw [List.length_map] at *
  obtain ⟨F, hF⟩ : ∃ F, acc ++ (txL rn ++ (txL rt ++ (dig ds.length ++ (manyL txL ds ++ (dig ms.length ++ manyL meaL ms))))) = F := ⟨_, rfl⟩
  rw [hF]
  obtain ⟨A1, hA1⟩ : ∃ A1, A1 = acc ++ txL rn ++ txL rt := ⟨_, rfl⟩
  obtain ⟨A2, hA2⟩ : ∃ A2, A2 = A1 ++ dig ds.length ++ manyL txL ds := ⟨_, rfl⟩
  have hF2 : A2 ++ dig ms.length ++ manyL meaL ms = F := by rw [← hF, hA2, hA1]; simp only [List.append_assoc]
  simp only [List.length_append] at hl
  have htl := txL_len rn
  have htl2 := txL_len rt
  have l1 : A1.length = acc.length + (txL rn).length + (txL rt).length := by rw [hA1]; simp only [List.length_append]
  have l2 : A2.length = A1.length + (dig ds.length).length + (manyL txL ds).length := by rw [hA2]; simp only [List.length_append]
  obtain ⟨va, vc, hv, _⟩ := ownsRow_form h.1
  have HTb := Lib.hid (fun (o : Obj) => Typ.below (below_o wz o))
  have KT := fun (o : Obj) => putText_at (h.typ o) rn (by omega)
  have KT2 := Lib.hid (fun (W : World) (v' : Value) (ho : Out w W v' (acc ++ txL rn)) => putText_at ho rt (by rw [List.length_append]; omega))
  rw [← hA1] at KT2
  have KN := Lib.hid (fun (W : World) (v' : Value) (ho : Out w W v' A1) => putNumber_at ho (ds.length : Int) (by omega))
  rw [inL_nat (by omega)] at KN
  have KM := Lib.hid (fun (W : World) (v' : Value) (ho : Out w W v' A2) => putNumber_at ho (ms.length : Int) (by omega))
  rw [inL_nat (by omega)] at KM
  have HR := Lib.hid (fun (i : Nat) (s : ByteArray) (hi : ds[i]? = some s) => (by
    have h1 := put_room (e := txL) hi
    have h2 := txL_len s
    simp only [List.length_append]
    omega : (A1 ++ dig ds.length ++ manyL txL (ds.take i)).length + s.size + 10 ≤ 17592186044000))
  have HR2 := Lib.hid (fun (i : Nat) (z : Int) (s : ByteArray) (hi : ms[i]? = some (z, s)) => (by
    have h1 := put_room (e := meaL) hi
    simp only [meaL, List.length_append] at h1
    have h2 := txL_len s
    have h3 := inL_len z
    simp only [List.length_append]
    exact ⟨by omega, by omega⟩ : (A2 ++ dig ms.length ++ manyL meaL (ms.take i)).length ≤ 17592186044000 ∧ ((A2 ++ dig ms.length ++ manyL meaL (ms.take i)) ++ inL z).length + s.size + 10 ≤ 17592186044000))
  have HBD := Lib.hid hb
  have HCM := Lib.hid hc
  have HF := Lib.hid hF2
  have HA2 := Lib.hid hA2
  subst hv
  generalize acc.length = m at *
  obtain ⟨n, hn'⟩ : ∃ n, n = ds.length := ⟨_, rfl⟩
  obtain ⟨k2, hm'⟩ : ∃ k2, k2 = ms.length := ⟨_, rfl⟩
  rw [← hn'] at KN HR HA2 hn hbc HBD ⊢
  rw [← hm'] at KM HR2 HF hm hcc HCM ⊢
  have HN := Lib.hid hn'
  have HNL := Lib.hid hn
  have HM := Lib.hid hm'
  have HML := Lib.hid hm
  clear h hb hc hl hF hF2 hA1 hA2 htl htl2 l1 l2 hn' hn hm' hm
  go_enter Tryz.func96, Tryz.ntmps96
  go_wp2_with fail
  refine (KT _).mono ?_
  rintro e w0 ⟨v0, rfl, ho0, hT0⟩
  have hq := hT0.2 _ _ _ (heap_alloc_new wz _) (by decide)
  have q1 : w0.cell? ⟨wz.heap.size, 1, none⟩ = some (.string rt) := by rw [cell_of_row _ _ _ _ _ _ hq]; rfl
  have KT2' := KT2.out w0 v0 ho0
  have HT0 := Lib.hid ((HTb.out _).trans hT0)
  obtain ⟨va0, vc0, hv0, _⟩ := ownsRow_form ho0.1
  generalize (acc ++ txL rn).length = m0 at hv0
  subst hv0
  have HQ := Lib.hid hq
  clear ho0 hT0 hq KT KT2
  go_wp2_with fail
  refine KT2'.mono ?_
  rintro e w1 ⟨v1, rfl, ho1, hT1⟩
  have hq := hT1.2 _ _ _ HQ.out (by decide)
  have q2 : w1.cell? ⟨wz.heap.size, 2, none⟩ = some (.slice b1 n bc) := by rw [cell_of_row _ _ _ _ _ _ hq]; rfl
  have KN1 := KN.out w1 v1 ho1
  have HT1 := Lib.hid (HT0.out.trans hT1)
  obtain ⟨va1, vc1, hv1, _⟩ := ownsRow_form ho1.1
  generalize A1.length = m1 at hv1
  subst hv1
  replace HQ := Lib.hid hq
  clear ho1 hT1 hq KT2' KN q1 HT0
  go_wp2_with fail
  refine KN1.mono ?_
  rintro e w2 ⟨v2, rfl, ho2, hT2⟩
  have hq := hT2.2 _ _ _ HQ.out (by decide)
  have q3 : w2.cell? ⟨wz.heap.size, 2, none⟩ = some (.slice b1 n bc) := by rw [cell_of_row _ _ _ _ _ _ hq]; rfl
  have HT2 := Lib.hid (HT1.out.trans hT2)
  have HO2 := Lib.hid ho2
  replace HQ := Lib.hid hq
  clear ho2 hT2 KN1 q2 HT1 hq
  go_wp2_with fail
  go_loopw [1, 25] (fun s1 k W => ∃ (i : Nat) (v' : Value), k = .int .i64 i ∧ v' = s1 ∧ i ≤ n ∧ Hid (Out w W v' (A1 ++ dig n ++ manyL txL (ds.take i)) ∧ Typ wz W ∧ W.heap[wz.heap.size]? = some (.cells #[.string rn, .string rt, .slice b1 n bc, .slice c1 k2 cc] 87 (0, 0)))) (fun _ k _ => n - (RowKit.intOf k).toNat)
  case atStart => exact ⟨0, v2, rfl, rfl, Nat.zero_le _, Lib.hid ⟨by simpa [manyL] using HO2.out, HT2.out, HQ.out⟩⟩
  case round =>
    clear HO2 HT2 q3 HQ
    obtain ⟨i, v', rfl, rfl, hin, HS⟩ := hrel
    by_cases hlt : i < n
    · obtain ⟨s, hx⟩ : ∃ s, ds[i]? = some s := ⟨ds[i]'(HN.out ▸ hlt), List.getElem?_eq_getElem _⟩
      have HH := HBD.out.kept (kept_below HS.out.1.2)
      obtain ⟨ad, rfl⟩ := HH.ptr (by omega)
      have d0 := HH.cell (strs_at hx)
      have b0 : (0 : Int) ≤ (i : Int) := Int.natCast_nonneg i
      have b1' : (i : Int) < (n : Int) := Int.ofNat_lt.2 hlt
      have hw64 := wi_next hlt HNL.out
      have r1 := HR.out i s hx
      have hnx : A1 ++ dig n ++ manyL txL (ds.take (i + 1)) = (A1 ++ dig n ++ manyL txL (ds.take i)) ++ txL s := by
        rw [many_take hx]
        simp only [List.append_assoc]
      have HNX := Lib.hid hnx
      generalize A1 ++ dig n ++ manyL txL (ds.take i) = X at *
      have KT := putText_at HS.out.1 s r1
      have HS2 := Lib.hid HS.out.2
      obtain ⟨va, vc, hv, _⟩ := ownsRow_form HS.out.1.1
      generalize X.length = m3 at hv
      subst hv
      clear HS hnx r1 hx HH
      go_wp2_with fail
      refine KT.mono ?_
      rintro e w3 ⟨v3, rfl, ho3, hT3⟩
      have HFIN : Hid (Out w w3 v3 (A1 ++ dig n ++ manyL txL (ds.take (i + 1))) ∧ Typ wz w3 ∧ w3.heap[wz.heap.size]? = some (.cells #[.string rn, .string rt, .slice (some ad) n bc, .slice c1 k2 cc] 87 (0, 0))) := Lib.hid ⟨by rw [HNX.out]; exact ho3, HS2.out.1.trans hT3, hT3.2 _ _ _ HS2.out.2 (by decide)⟩
      clear ho3 hT3 KT HS2
      go_wp2_with fail
      go_roundw
      case rel => exact ⟨i + 1, v3, by go_num, rfl, hlt, HFIN⟩
      case measure => simp [RowKit.intOf]; omega
    · have hei : i = n := end_eq hin hlt
      have hO : Out w wr v' A2 := by
        have := HS.out.1
        rw [hei, HN.out, List.take_length] at this
        rw [HA2.out, HN.out]
        exact this
      have KM1 := KM.out wr v' hO
      have hq := HS.out.2.2
      have q3 : wr.cell? ⟨wz.heap.size, 3, none⟩ = some (.slice c1 k2 cc) := by rw [cell_of_row _ _ _ _ _ _ hq]; rfl
      have HT3 := Lib.hid HS.out.2.1
      have HQ := Lib.hid hq
      obtain ⟨va, vc, hv, _⟩ := ownsRow_form hO.1
      generalize A2.length = m3 at hv
      subst hv
      clear HS HA2 hO hq KM
      go_wp2_with fail
      refine KM1.mono ?_
      rintro e w4 ⟨v4, rfl, ho4, hT4⟩
      have hq := hT4.2 _ _ _ HQ.out (by decide)
      have q4 : w4.cell? ⟨wz.heap.size, 3, none⟩ = some (.slice c1 k2 cc) := by rw [cell_of_row _ _ _ _ _ _ hq]; rfl
      have HT4 := Lib.hid (HT3.out.trans hT4)
      have HO4 := Lib.hid ho4
      clear ho4 hT4 KM1 q3 HT3 hq HQ
      go_wp2_with fail
      obtain ⟨V0, rfl⟩ : ∃ V, V = wr := ⟨_, rfl⟩
      go_loopw [1, 41] (fun s1 k W => ∃ (j : Nat) (u : Value), k = .int .i64 j ∧ u = s1 ∧ j ≤ k2 ∧ Hid (Out w W u (A2 ++ dig k2 ++ manyL meaL (ms.take j)) ∧ Typ wz W)) (fun _ k _ => k2 - (RowKit.intOf k).toNat)
      case atStart => exact ⟨0, v4, rfl, rfl, Nat.zero_le _, Lib.hid ⟨by simpa [manyL] using HO4.out, HT4.out⟩⟩
      case round =>
        clear HO4 HT4 q4
        obtain ⟨j, u, rfl, rfl, hjn, HS⟩ := hrel
        by_cases hjt : j < k2
        · obtain ⟨⟨z, s⟩, hx⟩ : ∃ c, ms[j]? = some c := ⟨ms[j]'(HM.out ▸ hjt), List.getElem?_eq_getElem _⟩
          obtain ⟨ad, rfl, d0, d1⟩ := (HCM.out.kept (kept_below HS.out.1.2)).at_ (i := j) (x := meaC (z, s)) (by rw [List.getElem?_map, hx]; rfl)
          have b0 : (0 : Int) ≤ (j : Int) := Int.natCast_nonneg j
          have b1' : (j : Int) < (k2 : Int) := Int.ofNat_lt.2 hjt
          have hw64 := wi_next hjt HML.out
          obtain ⟨r1, r2⟩ := HR2.out j z s hx
          have hnx : A2 ++ dig k2 ++ manyL meaL (ms.take (j + 1)) = (A2 ++ dig k2 ++ manyL meaL (ms.take j)) ++ inL z ++ txL s := by
            rw [many_take hx]
            simp only [meaL, List.append_assoc]
          have HNX := Lib.hid hnx
          generalize A2 ++ dig k2 ++ manyL meaL (ms.take j) = X at *
          simp only [meaC] at d0 d1
          have KN := fun (o : Obj) => putNumber_at (HS.out.1.typ o) z r1
          have KT := Lib.hid (fun (W : World) (v' : Value) (ho : Out w W v' (X ++ inL z)) => putText_at ho s r2)
          have HTW := Lib.hid (fun (o : Obj) => HS.out.2.trans (Typ.below (below_o wr o)))
          obtain ⟨va, vc, hv, _⟩ := ownsRow_form HS.out.1.1
          generalize X.length = m3 at hv
          subst hv
          clear HS hnx r1 r2 hx
          go_wp2_with fail
          refine (KN _).mono ?_
          rintro e w5 ⟨v5, rfl, ho5, hT5⟩
          have hq := hT5.2 _ _ _ (heap_alloc_new wr _) (by decide)
          have q0 : w5.cell? ⟨wr.heap.size, 0, none⟩ = some (.int .i64 z) := by rw [cell_of_row _ _ _ _ _ _ hq]; rfl
          have q1 : w5.cell? ⟨wr.heap.size, 1, none⟩ = some (.string s) := by rw [cell_of_row _ _ _ _ _ _ hq]; rfl
          have KT1 := KT.out w5 v5 ho5
          have HT5 := Lib.hid ((HTW.out _).trans hT5)
          obtain ⟨va1, vc1, hv1, _⟩ := ownsRow_form ho5.1
          generalize (X ++ inL z).length = m4 at hv1
          subst hv1
          clear ho5 hT5 hq KT KN HTW
          go_wp2_with fail
          refine KT1.mono ?_
          rintro e w6 ⟨v6, rfl, ho6, hT6⟩
          have HFIN : Hid (Out w w6 v6 (A2 ++ dig k2 ++ manyL meaL (ms.take (j + 1))) ∧ Typ wz w6) := Lib.hid ⟨by rw [HNX.out]; exact ho6, HT5.out.trans hT6⟩
          clear ho6 hT6 KT1 HT5 q0 q1
          go_wp2_with fail
          go_roundw
          case rel => exact ⟨j + 1, v6, by go_num, rfl, hjt, HFIN⟩
          case measure => simp [RowKit.intOf]; omega
        · have hej : j = k2 := end_eq hjn hjt
          have FIN : Hid (PutP w wz F (.returned u) wr) := Lib.hid ⟨u, rfl, by
            rw [← HF.out]
            have := HS.out.1
            rw [hej, HM.out, List.take_length] at this
            rw [HM.out]
            exact this, HS.out.2⟩
          clear HS HF
          go_wp2_with fail
          go_ret
          exact FIN.out
set_option maxHeartbeats 3200000 in
theorem bput_at {w wz : World} {v : Value} {acc : List UInt8} (h : Out w wz v acc) (nm : ByteArray) (ws : List (List VV)) {d : Value} (hd : RowsH w d ws) (hi : ∀ r ∈ ws, ∀ x ∈ r, x.inI) (hr : ∀ r ∈ ws, r.length ≤ 1000000000)
    (hl : acc.length + (txL nm ++ (dig ws.length ++ manyL rowL ws)).length ≤ 8796093022208) (hn : ws.length ≤ 1000000000) :
    Calls Tryz.prog 98 #[.agg #[.string nm, d], v] wz (PutP w wz (acc ++ (txL nm ++ (dig ws.length ++ manyL rowL ws)))) := by
  obtain ⟨d1, dc, rfl, hdc⟩ := hd.form
  obtain ⟨F, hF⟩ : ∃ F, acc ++ (txL nm ++ (dig ws.length ++ manyL rowL ws)) = F := ⟨_, rfl⟩
  rw [hF]
  have hF2 : (acc ++ txL nm) ++ dig ws.length ++ manyL rowL ws = F := by rw [← hF]; simp only [List.append_assoc]
  simp only [List.length_append] at hl
  have htl := txL_len nm
  obtain ⟨va, vc, hv, _⟩ := ownsRow_form h.1
  have HTb := Lib.hid (fun (o : Obj) => Typ.below (below_o wz o))
  have KT := fun (o : Obj) => putText_at (h.typ o) nm (by omega)
  have KN := Lib.hid (fun (W : World) (v' : Value) (ho : Out w W v' (acc ++ txL nm)) => putNumber_at ho (ws.length : Int) (by rw [List.length_append]; omega))
  rw [inL_nat (by omega)] at KN
  have HR := Lib.hid (fun (i : Nat) (r : List VV) (hi : ws[i]? = some r) => (by
    have h1 := put_room (e := rowL) hi
    have h2 := rowL_len r
    simp only [List.length_append]
    omega : ((acc ++ txL nm) ++ dig ws.length ++ manyL rowL (ws.take i)).length + (bytesV r).length + 10 ≤ 17592186044000))
  have HD := Lib.hid hd
  have HF := Lib.hid hF2
  have HI := Lib.hid hi
  have HRL := Lib.hid hr
  subst hv
  generalize acc.length = m at *
  obtain ⟨n, hn'⟩ : ∃ n, n = ws.length := ⟨_, rfl⟩
  rw [← hn'] at KN HR HF hn hdc HD ⊢
  have HN := Lib.hid hn'
  have HNL := Lib.hid hn
  clear h hd hl hF hF2 htl hn' hn hi hr
  go_enter Tryz.func98, Tryz.ntmps98
  go_wp2_with fail
  refine (KT _).mono ?_
  rintro e w1 ⟨v1, rfl, ho1, hT1⟩
  have hq := hT1.2 _ _ _ (heap_alloc_new wz _) (by decide)
  have q1 : w1.cell? ⟨wz.heap.size, 1, none⟩ = some (.slice d1 n dc) := by rw [cell_of_row _ _ _ _ _ _ hq]; rfl
  have KN1 := KN.out w1 v1 ho1
  have HT1 := Lib.hid ((HTb.out _).trans hT1)
  obtain ⟨va1, vc1, hv1, _⟩ := ownsRow_form ho1.1
  generalize (acc ++ txL nm).length = m1 at hv1
  subst hv1
  have HQ := Lib.hid hq
  clear ho1 hT1 hq KT KN
  go_wp2_with fail
  refine KN1.mono ?_
  rintro e w2 ⟨v2, rfl, ho2, hT2⟩
  have q2 : w2.cell? ⟨wz.heap.size, 1, none⟩ = some (.slice d1 n dc) := by rw [cell_of_row _ _ _ _ _ _ (hT2.2 _ _ _ HQ.out (by decide))]; rfl
  have HT2 := Lib.hid (HT1.out.trans hT2)
  have HO2 := Lib.hid ho2
  clear ho2 hT2 KN1 q1 HQ HT1
  go_wp2_with fail
  go_loopw [1, 19] (fun s1 k W => ∃ (i : Nat) (v' : Value), k = .int .i64 i ∧ v' = s1 ∧ i ≤ n ∧ Hid (Out w W v' ((acc ++ txL nm) ++ dig n ++ manyL rowL (ws.take i)) ∧ Typ wz W)) (fun _ k _ => n - (RowKit.intOf k).toNat)
  case atStart => exact ⟨0, v2, rfl, rfl, Nat.zero_le _, Lib.hid ⟨by simpa [manyL] using HO2.out, HT2.out⟩⟩
  case round =>
    clear HO2 HT2 q2
    obtain ⟨i, v', rfl, rfl, hin, HS⟩ := hrel
    by_cases hlt : i < n
    · obtain ⟨r, hx⟩ : ∃ c, ws[i]? = some c := ⟨ws[i]'(HN.out ▸ hlt), List.getElem?_eq_getElem _⟩
      obtain ⟨ad, u, k, rfl, d0, hvr⟩ := (HD.out.kept (kept_below HS.out.1.2)).at_ hx
      have b0 : (0 : Int) ≤ (i : Int) := Int.natCast_nonneg i
      have b1 : (i : Int) < (n : Int) := Int.ofNat_lt.2 hlt
      have hw64 := wi_next hlt HNL.out
      have r1 := HR.out i r hx
      have hmem := List.mem_of_getElem? hx
      have KB := vbytes_any hvr (HRL.out r hmem) (HI.out r hmem)
      have hnx : (acc ++ txL nm) ++ dig n ++ manyL rowL (ws.take (i + 1)) = ((acc ++ txL nm) ++ dig n ++ manyL rowL (ws.take i)) ++ rowL r := by
        rw [many_take hx]
        simp only [List.append_assoc]
      have HNX := Lib.hid hnx
      generalize (acc ++ txL nm) ++ dig n ++ manyL rowL (ws.take i) = X at *
      have hbz : (⟨(bytesV r).toArray⟩ : ByteArray).size = (bytesV r).length := by rw [Lib.size_eq]
      have htx : txL ⟨(bytesV r).toArray⟩ = rowL r := by unfold txL rowL blL; rw [hbz]
      have KT := Lib.hid (fun (W : World) (ho : Out w W v' X) => putText_at ho ⟨(bytesV r).toArray⟩ (by rw [hbz]; exact r1))
      rw [htx] at KT
      have HS1 := Lib.hid HS.out
      obtain ⟨va, vc, hv, _⟩ := ownsRow_form HS.out.1.1
      generalize X.length = m3 at hv
      subst hv
      generalize r.length = rl at *
      clear HS hnx r1 hx hvr hmem hbz htx
      go_wp2_with fail
      refine KB.mono ?_
      rintro e w3 ⟨v3, rfl, ho3, hb3⟩
      have hO : Holds w3 v3 (u8s (bytesV r)) := Holds.of_row (by rw [u8s_len]; exact ho3)
      have hT := toStr hO
      have hO3 := HS1.out.1.next hb3
      have KT1 := KT.out w3 hO3
      have HT3 := Lib.hid (HS1.out.2.trans (Typ.below hb3))
      clear ho3 hb3 hO hO3 KT KB HS1
      go_wp2_with fail
      refine KT1.mono ?_
      rintro e w4 ⟨v4, rfl, ho4, hT4⟩
      have HFIN : Hid (Out w w4 v4 ((acc ++ txL nm) ++ dig n ++ manyL rowL (ws.take (i + 1))) ∧ Typ wz w4) := Lib.hid ⟨by rw [HNX.out]; exact ho4, HT3.out.trans hT4⟩
      clear ho4 hT4 KT1 HT3 hT
      go_wp2_with fail
      go_roundw
      case rel => exact ⟨i + 1, v4, by go_num, rfl, hlt, HFIN⟩
      case measure => simp [RowKit.intOf]; omega
    · have hei : i = n := end_eq hin hlt
      have FIN : Hid (PutP w wz F (.returned v') wr) := Lib.hid ⟨v', rfl, by
        rw [← HF.out]
        have := HS.out.1
        rw [hei, HN.out, List.take_length] at this
        rw [HN.out]
        exact this, HS.out.2⟩
      clear HS HF
      go_wp2_with fail
      go_ret
      exact FIN.out
end Go.Proofs.YtehfoaicohnpfaaGreatDoor
/- Contract of record.Bytes at any record. Conditions: a good one has at most 2^43 bytes. -/
set_option maxRecDepth 100000
namespace Go.Proofs.YtehfoaicohnpfaaGreatDoor
open Go.RowKit Go.Maps Go.Sort Go.Lib

/-- what Bytes answers -/
def BytP (w : World) (x : RV) (e : Ending) (w' : World) : Prop := Below w.heap.size w w' ∧
  ((goodR x = false ∧ e = .returned (.tuple #[.slice none 0 0, .int .i64 2])) ∨ (goodR x = true ∧ 262144 < (bytR x).length ∧ e = .returned (.tuple #[.slice none 0 0, .int .i64 7])) ∨
    (goodR x = true ∧ (bytR x).length ≤ 262144 ∧ ∃ v, e = .returned (.tuple #[v, .int .i64 0]) ∧ w'.ownsRow w.heap.size 5 1 v (bytR x).length (u8s (bytR x))))
theorem m_table_put (v : Value) (w : World) : (method 256 86 v "talus/record.put").run Tryz.prog w = .ok (92, v) w := by kernel_rfl
theorem m_rollup_put (v : Value) (w : World) : (method 256 87 v "talus/record.put").run Tryz.prog w = .ok (96, v) w := by kernel_rfl
theorem m_batch_put (v : Value) (w : World) : (method 256 89 v "talus/record.put").run Tryz.prog w = .ok (98, v) w := by kernel_rfl
theorem n_table_put (v : Array Value) (w : World) : (nilAhead 256 86 (.agg v) "talus/record.put").run Tryz.prog w = .ok (some false) w := by kernel_rfl
theorem n_rollup_put (v : Array Value) (w : World) : (nilAhead 256 87 (.agg v) "talus/record.put").run Tryz.prog w = .ok (some false) w := by kernel_rfl
theorem n_batch_put (v : Array Value) (w : World) : (nilAhead 256 89 (.agg v) "talus/record.put").run Tryz.prog w = .ok (some false) w := by kernel_rfl
theorem good_kind {x : RV} (h : goodR x = true) : x.k = 1 ∨ x.k = 2 ∨ x.k = 3 := by
  rcases good_shape h with ⟨e, _⟩ | ⟨e, _⟩ | ⟨e, _⟩
  · exact .inl (by rw [e]; rfl)
  · exact .inr (.inl (by rw [e]; rfl))
  · exact .inr (.inr (by rw [e]; rfl))
set_option maxHeartbeats 1600000 in
theorem rbytes_no {w : World} {x : RV} {a b c d : Value} (h : RecH w x a b c d) (hi : x.inI) (hf : x.fit) (hg : goodR x = false) :
    Calls Tryz.prog 44 #[recV x a b c d] w (BytP w x) := by
  obtain ⟨a1, ac, b1, bc, c1, cc, d1, dc, rfl, rfl, rfl, rfl⟩ := h.form
  have KG := Lib.hid (fun (W : World) (hb : Below w.heap.size w W) => rgood_all (h.below hb) hi hf)
  rw [hg] at KG
  unfold recV at *
  have HB0 := Lib.hid (below_o w (.cells #[.int .i64 x.k, .string x.tn, .slice a1 x.tc.length ac, .string x.rn, .string x.rt, .slice b1 x.rd.length bc, .slice c1 x.rm.length cc, .string x.nm, .slice d1 x.ws.length dc] 43))
  have KG1 := KG.out _ HB0.out
  have FIN := Lib.hid (fun (w' : World) (hb : Below w.heap.size w w') => (show BytP w x (.returned (.tuple #[.slice none 0 0, .int .i64 2])) w' from ⟨hb, .inl ⟨hg, rfl⟩⟩))
  clear h hi hf hg KG
  generalize x.tc.length = an at *
  generalize x.rd.length = bn at *
  generalize x.rm.length = cn at *
  generalize x.ws.length = dn at *
  go_enter Tryz.func44, Tryz.ntmps44
  go_wp2_with fail
  refine KG1.mono ?_
  rintro e w1 ⟨rfl, hb1⟩
  have FI := FIN.out w1 (HB0.out.trans (hb1.mono HB0.out.size))
  clear hb1 KG1
  go_wp2_with fail
  go_ret2
  exact FI
set_option maxHeartbeats 6400000 in
theorem rbytes_1 {w : World} {x : RV} {a b c d : Value} (h : RecH w x a b c d) (hi : x.inI) (hf : x.fit) (hg : goodR x = true) (hk : x.k = 1) (hl : (bytR x).length ≤ 8796093022208) :
    Calls Tryz.prog 44 #[recV x a b c d] w (BytP w x) := by
  obtain ⟨a1, ac, b1, bc, c1, cc, d1, dc, rfl, rfl, rfl, rfl⟩ := h.form
  have KG := Lib.hid (fun (W : World) (hb : Below w.heap.size w W) => rgood_all (h.below hb) hi hf)
  rw [hg] at KG
  unfold recV at KG ⊢
  rw [hk] at KG ⊢
  have HB0 := Lib.hid (below_o w (.cells #[.int .i64 1, .string x.tn, .slice a1 x.tc.length ac, .string x.rn, .string x.rt, .slice b1 x.rd.length bc, .slice c1 x.rm.length cc, .string x.nm, .slice d1 x.ws.length dc] 43))
  have KG1 := KG.out _ HB0.out
  have KS := split_1 x.tn x.rn x.rt x.nm a1 b1 c1 d1 x.tc.length ac x.rd.length bc x.rm.length cc x.ws.length dc
  have eb : bytR x = inL 1 ++ tabL x := by unfold bytR bodL; rw [hk]; rfl
  have FIN0 : ∀ (w' : World), Below w.heap.size w w' → 262144 < (inL 1 ++ tabL x).length → BytP w x (.returned (.tuple #[.slice none 0 0, .int .i64 7])) w' := fun w' hb hl' => ⟨hb, .inr (.inl ⟨hg, by rw [eb]; exact hl', rfl⟩)⟩
  have FIN1 : ∀ (w' : World) (v : Value), Out w w' v (inL 1 ++ tabL x) → (inL 1 ++ tabL x).length ≤ 262144 → BytP w x (.returned (.tuple #[v, .int .i64 0])) w' := fun w' v ho hl' => ⟨ho.2, .inr (.inr ⟨hg, by rw [eb]; exact hl', v, rfl, by rw [eb]; exact ho.1⟩)⟩
  obtain ⟨hx, h1, h2⟩ | ⟨e, _⟩ | ⟨e, _⟩ := good_shape hg
  rotate_left
  · rw [e] at hk; cases hk
  · rw [e] at hk; cases hk
  have hn : x.tc.length ≤ 1000000000 := by omega
  have KP := Lib.hid (fun (W : World) (v : Value) (ho : Out w W v (inL 1)) => tput_at ho x.tn x.tc h.tc (by rw [eb, List.length_append] at hl; exact hl) hn)
  have KN := Lib.hid (fun (W : World) (hb : Below w.heap.size w W) => putNumber_at (w := w) (wr := W) (v := .slice none 0 0) (acc := []) ⟨World.ownsRow_nil _ _ _ _, hb⟩ 1 (by simp))
  rw [List.nil_append] at KN
  have mp := m_table_put
  have mn := n_table_put
  have hmf : ∀ (fn : Fn) (first cap : Array Value) (w : World), (Instr.makeFunc fn first cap).run Tryz.prog w = .ok (.func fn first cap) w := fun _ _ _ _ => rfl
  obtain ⟨L, hL⟩ : ∃ L, inL 1 ++ tabL x = L := ⟨_, rfl⟩
  rw [hL] at FIN0 FIN1
  have HP := Lib.hid (fun (W : World) (v : Value) (ho : Out w W v (inL 1)) => (KP.out W v ho).mono (fun e w' hp => PutP.eq hL hp))
  have HF0 := Lib.hid FIN0
  have HF1 := Lib.hid FIN1
  clear h hi hf hg hk KG hl eb FIN0 FIN1 KP hL hn h1 h2 hx
  generalize x.tc.length = an at *
  generalize x.rd.length = bn at *
  generalize x.rm.length = cn at *
  generalize x.ws.length = dn at *
  go_enter Tryz.func44, Tryz.ntmps44
  go_wp2_with fail
  refine KG1.mono ?_
  rintro e w1 ⟨rfl, hb1⟩
  have HB1 := Lib.hid (HB0.out.trans (hb1.mono HB0.out.size))
  have hq := (hb1.block _ (by simp)).trans (heap_alloc_new w (.cells #[.int .i64 1, .string x.tn, .slice a1 an ac, .string x.rn, .string x.rt, .slice b1 bn bc, .slice c1 cn cc, .string x.nm, .slice d1 dn dc] 43))
  have HQ := Lib.hid hq
  obtain ⟨q0, q1, q2, q3, q4, q5, q6, q7, q8, _⟩ := nine_cells hq
  clear hb1 KG1 hq HB0
  go_wp2_with fail
  refine (KS _).mono ?_
  rintro e w2 ⟨rfl, hb2⟩
  have HB2 := Lib.hid (HB1.out.trans (hb2.mono HB1.out.size))
  have hq := (hb2.block _ (lt_of_heap HQ.out)).trans HQ.out
  replace HQ := Lib.hid hq
  clear hb2 KS hq HB1 q0 q1 q2 q3 q4 q5 q6 q7 q8
  go_wp2_with fail
  obtain ⟨W, hW⟩ : ∃ W, w2.alloc (.cells #[.int .i64 1, .string ⟨#[]⟩, .slice none 0 0, .string x.rn, .string x.rt, .slice b1 bn bc, .slice c1 cn cc, .string x.nm, .slice d1 dn dc] 43) = W := ⟨_, rfl⟩
  have hbW : Below w2.heap.size w2 W := by rw [← hW]; exact below_o _ _
  have hq := (hbW.block _ (lt_of_heap HQ.out)).trans HQ.out
  (try rw [hW])
  have q0 : W.drew.cell? ⟨w.heap.size, 0, none⟩ = some (.int .i64 1) := by rw [show W.drew.cell? ⟨w.heap.size, 0, none⟩ = W.cell? ⟨w.heap.size, 0, none⟩ from rfl, cell_of_row _ _ _ _ _ _ hq]; rfl
  have HQW := Lib.hid (show W.drew.heap[w.heap.size]? = _ from hq)
  have HBW : Hid (Below w.heap.size w W.drew) := Lib.hid (below_drewR (HB2.out.trans (hbW.mono HB2.out.size)))
  clear hW hbW hq HQ HB2
  refine wp_region_mix (fun V => V.cell? ⟨w.heap.size, 0, none⟩ = some (.int .i64 1)) 9 [(true, 0), (true, 1), (true, 2), (true, 4), (true, 5), (true, 6), (false, 3), (false, 7), (true, 8)] (by kernel_rfl) (by decide +kernel) rfl (by decide +kernel) q0 ?_
  iterate 6
    refine wpMix_take (v := ?_) rfl rfl ?_ ?_
    rotate_left
    · (intro W hW; (try dsimp only at hW); go_simp) <;> with_reducible rfl
    simp only [Act.put, List.setIfInBounds_toArray, List.set_cons_zero, List.set_cons_succ]
  refine wpMix_run rfl ?_
  intro K hK
  go_wp2_with fail
  refine (KN.out _ HBW.out).mono ?_
  rintro e w3 ⟨v3, rfl, ho3, hT3⟩
  have hq3 := hT3.2 _ _ _ HQW.out (by decide)
  have c3 : w3.cell? ⟨w.heap.size, 0, none⟩ = some (.int .i64 1) := by rw [cell_of_row _ _ _ _ _ _ hq3]; rfl
  have HP3 := HP.out w3 v3 ho3
  have HQ3 := Lib.hid hq3
  obtain ⟨va, vc, hv, _⟩ := ownsRow_form ho3.1
  generalize (inL 1).length = m3 at hv
  subst hv
  clear ho3 hT3 hq3 HP KN HQW HBW q0
  go_wp2_with fail
  refine hK.out _ _ (fun _ => c3) ?_
  clear hK K
  refine wpMix_run rfl ?_
  intro K hK
  go_wp2_with fail
  refine HP3.mono ?_
  rintro e w4 ⟨v4, rfl, ho4, hT4⟩
  have hq4 := hT4.2 _ _ _ HQ3.out (by decide)
  have c4 : w4.cell? ⟨w.heap.size, 0, none⟩ = some (.int .i64 1) := by rw [cell_of_row _ _ _ _ _ _ hq4]; rfl
  have HO4 := Lib.hid ho4
  obtain ⟨va4, vc4, hv, _⟩ := ownsRow_form ho4.1
  obtain ⟨N, hN⟩ : ∃ N, L.length = N := ⟨_, rfl⟩
  rw [hN] at hv HF0 HF1
  subst hv
  clear ho4 hT4 hq4 HP3 HQ3 c3 hN
  go_wp2_with fail
  refine hK.out _ _ (fun _ => c4) ?_
  clear hK K
  refine wpMix_take (v := ?_) rfl rfl ?_ ?_
  rotate_left
  · (intro W hW; (try dsimp only at hW); go_simp) <;> with_reducible rfl
  simp only [Act.put, List.setIfInBounds_toArray, List.set_cons_zero, List.set_cons_succ]
  refine wpMix_nil ?_
  by_cases hlt : 262144 < N
  · have t0 : decide ((262144 : Int) < (N : Int)) = true := decide_eq_true (by omega)
    have FI := HF0.out w4 HO4.out.2 hlt
    clear hlt HF0 HF1 HO4 c4
    go_wp2_with fail
    go_ret2
    exact FI
  · have t0 : decide ((262144 : Int) < (N : Int)) = false := decide_eq_false (by omega)
    have FI := HF1.out w4 _ HO4.out (by omega)
    clear hlt HF0 HF1 HO4 c4
    go_wp2_with fail
    go_ret2
    exact FI
set_option maxHeartbeats 6400000 in
theorem rbytes_2 {w : World} {x : RV} {a b c d : Value} (h : RecH w x a b c d) (hi : x.inI) (hf : x.fit) (hg : goodR x = true) (hk : x.k = 2) (hl : (bytR x).length ≤ 8796093022208) :
    Calls Tryz.prog 44 #[recV x a b c d] w (BytP w x) := by
  obtain ⟨a1, ac, b1, bc, c1, cc, d1, dc, rfl, rfl, rfl, rfl⟩ := h.form
  have KG := Lib.hid (fun (W : World) (hb : Below w.heap.size w W) => rgood_all (h.below hb) hi hf)
  rw [hg] at KG
  unfold recV at KG ⊢
  rw [hk] at KG ⊢
  have HB0 := Lib.hid (below_o w (.cells #[.int .i64 2, .string x.tn, .slice a1 x.tc.length ac, .string x.rn, .string x.rt, .slice b1 x.rd.length bc, .slice c1 x.rm.length cc, .string x.nm, .slice d1 x.ws.length dc] 43))
  have KG1 := KG.out _ HB0.out
  have KS := split_2 x.tn x.rn x.rt x.nm a1 b1 c1 d1 x.tc.length ac x.rd.length bc x.rm.length cc x.ws.length dc
  have eb : bytR x = inL 2 ++ rolL x := by unfold bytR bodL; rw [hk]; rfl
  have FIN0 : ∀ (w' : World), Below w.heap.size w w' → 262144 < (inL 2 ++ rolL x).length → BytP w x (.returned (.tuple #[.slice none 0 0, .int .i64 7])) w' := fun w' hb hl' => ⟨hb, .inr (.inl ⟨hg, by rw [eb]; exact hl', rfl⟩)⟩
  have FIN1 : ∀ (w' : World) (v : Value), Out w w' v (inL 2 ++ rolL x) → (inL 2 ++ rolL x).length ≤ 262144 → BytP w x (.returned (.tuple #[v, .int .i64 0])) w' := fun w' v ho hl' => ⟨ho.2, .inr (.inr ⟨hg, by rw [eb]; exact hl', v, rfl, by rw [eb]; exact ho.1⟩)⟩
  obtain ⟨e, _⟩ | ⟨hx, h1, h2⟩ | ⟨e, _⟩ := good_shape hg
  · rw [e] at hk; cases hk
  rotate_left
  · rw [e] at hk; cases hk
  have hn : x.rd.length ≤ 1000000000 := by omega
  have hm : x.rm.length ≤ 1000000000 := by omega
  have KP := Lib.hid (fun (W : World) (v : Value) (ho : Out w W v (inL 2)) => rput_at ho x.rn x.rt x.rd x.rm h.rd h.rm (by rw [eb, List.length_append] at hl; exact hl) hn hm)
  have KN := Lib.hid (fun (W : World) (hb : Below w.heap.size w W) => putNumber_at (w := w) (wr := W) (v := .slice none 0 0) (acc := []) ⟨World.ownsRow_nil _ _ _ _, hb⟩ 2 (by simp))
  rw [List.nil_append] at KN
  have mp := m_rollup_put
  have mn := n_rollup_put
  have hmf : ∀ (fn : Fn) (first cap : Array Value) (w : World), (Instr.makeFunc fn first cap).run Tryz.prog w = .ok (.func fn first cap) w := fun _ _ _ _ => rfl
  obtain ⟨L, hL⟩ : ∃ L, inL 2 ++ rolL x = L := ⟨_, rfl⟩
  rw [hL] at FIN0 FIN1
  have HP := Lib.hid (fun (W : World) (v : Value) (ho : Out w W v (inL 2)) => (KP.out W v ho).mono (fun e w' hp => PutP.eq hL hp))
  have HF0 := Lib.hid FIN0
  have HF1 := Lib.hid FIN1
  clear h hi hf hg hk KG hl eb FIN0 FIN1 KP hL hn hm h1 h2 hx
  generalize x.tc.length = an at *
  generalize x.rd.length = bn at *
  generalize x.rm.length = cn at *
  generalize x.ws.length = dn at *
  go_enter Tryz.func44, Tryz.ntmps44
  go_wp2_with fail
  refine KG1.mono ?_
  rintro e w1 ⟨rfl, hb1⟩
  have HB1 := Lib.hid (HB0.out.trans (hb1.mono HB0.out.size))
  have hq := (hb1.block _ (by simp)).trans (heap_alloc_new w (.cells #[.int .i64 2, .string x.tn, .slice a1 an ac, .string x.rn, .string x.rt, .slice b1 bn bc, .slice c1 cn cc, .string x.nm, .slice d1 dn dc] 43))
  have HQ := Lib.hid hq
  obtain ⟨q0, q1, q2, q3, q4, q5, q6, q7, q8, _⟩ := nine_cells hq
  clear hb1 KG1 hq HB0
  go_wp2_with fail
  refine (KS _).mono ?_
  rintro e w2 ⟨rfl, hb2⟩
  have HB2 := Lib.hid (HB1.out.trans (hb2.mono HB1.out.size))
  have hq := (hb2.block _ (lt_of_heap HQ.out)).trans HQ.out
  replace HQ := Lib.hid hq
  clear hb2 KS hq HB1 q0 q1 q2 q3 q4 q5 q6 q7 q8
  go_wp2_with fail
  obtain ⟨W, hW⟩ : ∃ W, w2.alloc (.cells #[.int .i64 2, .string x.tn, .slice a1 an ac, .string ⟨#[]⟩, .string ⟨#[]⟩, .slice none 0 0, .slice none 0 0, .string x.nm, .slice d1 dn dc] 43) = W := ⟨_, rfl⟩
  have hbW : Below w2.heap.size w2 W := by rw [← hW]; exact below_o _ _
  have hq := (hbW.block _ (lt_of_heap HQ.out)).trans HQ.out
  (try rw [hW])
  have q0 : W.drew.cell? ⟨w.heap.size, 0, none⟩ = some (.int .i64 2) := by rw [show W.drew.cell? ⟨w.heap.size, 0, none⟩ = W.cell? ⟨w.heap.size, 0, none⟩ from rfl, cell_of_row _ _ _ _ _ _ hq]; rfl
  have HQW := Lib.hid (show W.drew.heap[w.heap.size]? = _ from hq)
  have HBW : Hid (Below w.heap.size w W.drew) := Lib.hid (below_drewR (HB2.out.trans (hbW.mono HB2.out.size)))
  clear hW hbW hq HQ HB2
  refine wp_region_mix (fun V => V.cell? ⟨w.heap.size, 0, none⟩ = some (.int .i64 2)) 9 [(true, 0), (true, 1), (true, 2), (true, 4), (true, 5), (true, 6), (false, 3), (false, 7), (true, 8)] (by kernel_rfl) (by decide +kernel) rfl (by decide +kernel) q0 ?_
  iterate 6
    refine wpMix_take (v := ?_) rfl rfl ?_ ?_
    rotate_left
    · (intro W hW; (try dsimp only at hW); go_simp) <;> with_reducible rfl
    simp only [Act.put, List.setIfInBounds_toArray, List.set_cons_zero, List.set_cons_succ]
  refine wpMix_run rfl ?_
  intro K hK
  go_wp2_with fail
  refine (KN.out _ HBW.out).mono ?_
  rintro e w3 ⟨v3, rfl, ho3, hT3⟩
  have hq3 := hT3.2 _ _ _ HQW.out (by decide)
  have c3 : w3.cell? ⟨w.heap.size, 0, none⟩ = some (.int .i64 2) := by rw [cell_of_row _ _ _ _ _ _ hq3]; rfl
  have HP3 := HP.out w3 v3 ho3
  have HQ3 := Lib.hid hq3
  obtain ⟨va, vc, hv, _⟩ := ownsRow_form ho3.1
  generalize (inL 2).length = m3 at hv
  subst hv
  clear ho3 hT3 hq3 HP KN HQW HBW q0
  go_wp2_with fail
  refine hK.out _ _ (fun _ => c3) ?_
  clear hK K
  refine wpMix_run rfl ?_
  intro K hK
  go_wp2_with fail
  refine HP3.mono ?_
  rintro e w4 ⟨v4, rfl, ho4, hT4⟩
  have hq4 := hT4.2 _ _ _ HQ3.out (by decide)
  have c4 : w4.cell? ⟨w.heap.size, 0, none⟩ = some (.int .i64 2) := by rw [cell_of_row _ _ _ _ _ _ hq4]; rfl
  have HO4 := Lib.hid ho4
  obtain ⟨va4, vc4, hv, _⟩ := ownsRow_form ho4.1
  obtain ⟨N, hN⟩ : ∃ N, L.length = N := ⟨_, rfl⟩
  rw [hN] at hv HF0 HF1
  subst hv
  clear ho4 hT4 hq4 HP3 HQ3 c3 hN
  go_wp2_with fail
  refine hK.out _ _ (fun _ => c4) ?_
  clear hK K
  refine wpMix_take (v := ?_) rfl rfl ?_ ?_
  rotate_left
  · (intro W hW; (try dsimp only at hW); go_simp) <;> with_reducible rfl
  simp only [Act.put, List.setIfInBounds_toArray, List.set_cons_zero, List.set_cons_succ]
  refine wpMix_nil ?_
  by_cases hlt : 262144 < N
  · have t0 : decide ((262144 : Int) < (N : Int)) = true := decide_eq_true (by omega)
    have FI := HF0.out w4 HO4.out.2 hlt
    clear hlt HF0 HF1 HO4 c4
    go_wp2_with fail
    go_ret2
    exact FI
  · have t0 : decide ((262144 : Int) < (N : Int)) = false := decide_eq_false (by omega)
    have FI := HF1.out w4 _ HO4.out (by omega)
    clear hlt HF0 HF1 HO4 c4
    go_wp2_with fail
    go_ret2
    exact FI
set_option maxHeartbeats 6400000 in
theorem rbytes_3 {w : World} {x : RV} {a b c d : Value} (h : RecH w x a b c d) (hi : x.inI) (hf : x.fit) (hg : goodR x = true) (hk : x.k = 3) (hl : (bytR x).length ≤ 8796093022208) :
    Calls Tryz.prog 44 #[recV x a b c d] w (BytP w x) := by
  obtain ⟨a1, ac, b1, bc, c1, cc, d1, dc, rfl, rfl, rfl, rfl⟩ := h.form
  have KG := Lib.hid (fun (W : World) (hb : Below w.heap.size w W) => rgood_all (h.below hb) hi hf)
  rw [hg] at KG
  unfold recV at KG ⊢
  rw [hk] at KG ⊢
  have HB0 := Lib.hid (below_o w (.cells #[.int .i64 3, .string x.tn, .slice a1 x.tc.length ac, .string x.rn, .string x.rt, .slice b1 x.rd.length bc, .slice c1 x.rm.length cc, .string x.nm, .slice d1 x.ws.length dc] 43))
  have KG1 := KG.out _ HB0.out
  have KS := split_3 x.tn x.rn x.rt x.nm a1 b1 c1 d1 x.tc.length ac x.rd.length bc x.rm.length cc x.ws.length dc
  have eb : bytR x = inL 3 ++ batL x := by unfold bytR bodL; rw [hk]; rfl
  have FIN0 : ∀ (w' : World), Below w.heap.size w w' → 262144 < (inL 3 ++ batL x).length → BytP w x (.returned (.tuple #[.slice none 0 0, .int .i64 7])) w' := fun w' hb hl' => ⟨hb, .inr (.inl ⟨hg, by rw [eb]; exact hl', rfl⟩)⟩
  have FIN1 : ∀ (w' : World) (v : Value), Out w w' v (inL 3 ++ batL x) → (inL 3 ++ batL x).length ≤ 262144 → BytP w x (.returned (.tuple #[v, .int .i64 0])) w' := fun w' v ho hl' => ⟨ho.2, .inr (.inr ⟨hg, by rw [eb]; exact hl', v, rfl, by rw [eb]; exact ho.1⟩)⟩
  obtain ⟨e, _⟩ | ⟨e, _⟩ | ⟨hx, h1⟩ := good_shape hg
  · rw [e] at hk; cases hk
  · rw [e] at hk; cases hk
  obtain ⟨n0, h2, h3, h4, h5, h6⟩ := bat_iff.1 h1
  have hn : x.ws.length ≤ 1000000000 := by omega
  have hm : ∀ r ∈ x.ws, r.length ≤ 1000000000 := fun r hr => by have := (h6 r hr).1; omega
  have KP := Lib.hid (fun (W : World) (v : Value) (ho : Out w W v (inL 3)) => bput_at ho x.nm x.ws h.ws hi.ws hm (by rw [eb, List.length_append] at hl; exact hl) hn)
  have KN := Lib.hid (fun (W : World) (hb : Below w.heap.size w W) => putNumber_at (w := w) (wr := W) (v := .slice none 0 0) (acc := []) ⟨World.ownsRow_nil _ _ _ _, hb⟩ 3 (by simp))
  rw [List.nil_append] at KN
  have mp := m_batch_put
  have mn := n_batch_put
  have hmf : ∀ (fn : Fn) (first cap : Array Value) (w : World), (Instr.makeFunc fn first cap).run Tryz.prog w = .ok (.func fn first cap) w := fun _ _ _ _ => rfl
  obtain ⟨L, hL⟩ : ∃ L, inL 3 ++ batL x = L := ⟨_, rfl⟩
  rw [hL] at FIN0 FIN1
  have HP := Lib.hid (fun (W : World) (v : Value) (ho : Out w W v (inL 3)) => (KP.out W v ho).mono (fun e w' hp => PutP.eq hL hp))
  have HF0 := Lib.hid FIN0
  have HF1 := Lib.hid FIN1
  clear h hi hf hg hk KG hl eb FIN0 FIN1 KP hL hn hm h1 h2 h3 h4 h5 h6 hx
  generalize x.tc.length = an at *
  generalize x.rd.length = bn at *
  generalize x.rm.length = cn at *
  generalize x.ws.length = dn at *
  go_enter Tryz.func44, Tryz.ntmps44
  go_wp2_with fail
  refine KG1.mono ?_
  rintro e w1 ⟨rfl, hb1⟩
  have HB1 := Lib.hid (HB0.out.trans (hb1.mono HB0.out.size))
  have hq := (hb1.block _ (by simp)).trans (heap_alloc_new w (.cells #[.int .i64 3, .string x.tn, .slice a1 an ac, .string x.rn, .string x.rt, .slice b1 bn bc, .slice c1 cn cc, .string x.nm, .slice d1 dn dc] 43))
  have HQ := Lib.hid hq
  obtain ⟨q0, q1, q2, q3, q4, q5, q6, q7, q8, _⟩ := nine_cells hq
  clear hb1 KG1 hq HB0
  go_wp2_with fail
  refine (KS _).mono ?_
  rintro e w2 ⟨rfl, hb2⟩
  have HB2 := Lib.hid (HB1.out.trans (hb2.mono HB1.out.size))
  have hq := (hb2.block _ (lt_of_heap HQ.out)).trans HQ.out
  replace HQ := Lib.hid hq
  clear hb2 KS hq HB1 q0 q1 q2 q3 q4 q5 q6 q7 q8
  go_wp2_with fail
  obtain ⟨W, hW⟩ : ∃ W, w2.alloc (.cells #[.int .i64 3, .string x.tn, .slice a1 an ac, .string x.rn, .string x.rt, .slice b1 bn bc, .slice c1 cn cc, .string ⟨#[]⟩, .slice none 0 0] 43) = W := ⟨_, rfl⟩
  have hbW : Below w2.heap.size w2 W := by rw [← hW]; exact below_o _ _
  have hq := (hbW.block _ (lt_of_heap HQ.out)).trans HQ.out
  (try rw [hW])
  have q0 : W.drew.cell? ⟨w.heap.size, 0, none⟩ = some (.int .i64 3) := by rw [show W.drew.cell? ⟨w.heap.size, 0, none⟩ = W.cell? ⟨w.heap.size, 0, none⟩ from rfl, cell_of_row _ _ _ _ _ _ hq]; rfl
  have HQW := Lib.hid (show W.drew.heap[w.heap.size]? = _ from hq)
  have HBW : Hid (Below w.heap.size w W.drew) := Lib.hid (below_drewR (HB2.out.trans (hbW.mono HB2.out.size)))
  clear hW hbW hq HQ HB2
  refine wp_region_mix (fun V => V.cell? ⟨w.heap.size, 0, none⟩ = some (.int .i64 3)) 9 [(true, 0), (true, 1), (true, 2), (true, 4), (true, 5), (true, 6), (false, 3), (false, 7), (true, 8)] (by kernel_rfl) (by decide +kernel) rfl (by decide +kernel) q0 ?_
  iterate 6
    refine wpMix_take (v := ?_) rfl rfl ?_ ?_
    rotate_left
    · (intro W hW; (try dsimp only at hW); go_simp) <;> with_reducible rfl
    simp only [Act.put, List.setIfInBounds_toArray, List.set_cons_zero, List.set_cons_succ]
  refine wpMix_run rfl ?_
  intro K hK
  go_wp2_with fail
  refine (KN.out _ HBW.out).mono ?_
  rintro e w3 ⟨v3, rfl, ho3, hT3⟩
  have hq3 := hT3.2 _ _ _ HQW.out (by decide)
  have c3 : w3.cell? ⟨w.heap.size, 0, none⟩ = some (.int .i64 3) := by rw [cell_of_row _ _ _ _ _ _ hq3]; rfl
  have HP3 := HP.out w3 v3 ho3
  have HQ3 := Lib.hid hq3
  obtain ⟨va, vc, hv, _⟩ := ownsRow_form ho3.1
  generalize (inL 3).length = m3 at hv
  subst hv
  clear ho3 hT3 hq3 HP KN HQW HBW q0
  go_wp2_with fail
  refine hK.out _ _ (fun _ => c3) ?_
  clear hK K
  refine wpMix_run rfl ?_
  intro K hK
  go_wp2_with fail
  refine HP3.mono ?_
  rintro e w4 ⟨v4, rfl, ho4, hT4⟩
  have hq4 := hT4.2 _ _ _ HQ3.out (by decide)
  have c4 : w4.cell? ⟨w.heap.size, 0, none⟩ = some (.int .i64 3) := by rw [cell_of_row _ _ _ _ _ _ hq4]; rfl
  have HO4 := Lib.hid ho4
  obtain ⟨va4, vc4, hv, _⟩ := ownsRow_form ho4.1
  obtain ⟨N, hN⟩ : ∃ N, L.length = N := ⟨_, rfl⟩
  rw [hN] at hv HF0 HF1
  subst hv
  clear ho4 hT4 hq4 HP3 HQ3 c3 hN
  go_wp2_with fail
  refine hK.out _ _ (fun _ => c4) ?_
  clear hK K
  refine wpMix_take (v := ?_) rfl rfl ?_ ?_
  rotate_left
  · (intro W hW; (try dsimp only at hW); go_simp) <;> with_reducible rfl
  simp only [Act.put, List.setIfInBounds_toArray, List.set_cons_zero, List.set_cons_succ]
  refine wpMix_nil ?_
  by_cases hlt : 262144 < N
  · have t0 : decide ((262144 : Int) < (N : Int)) = true := decide_eq_true (by omega)
    have FI := HF0.out w4 HO4.out.2 hlt
    clear hlt HF0 HF1 HO4 c4
    go_wp2_with fail
    go_ret2
    exact FI
  · have t0 : decide ((262144 : Int) < (N : Int)) = false := decide_eq_false (by omega)
    have FI := HF1.out w4 _ HO4.out (by omega)
    clear hlt HF0 HF1 HO4 c4
    go_wp2_with fail
    go_ret2
    exact FI
/-- Bytes, at any record -/
theorem rbytes_all {w : World} {x : RV} {a b c d : Value} (h : RecH w x a b c d) (hi : x.inI) (hf : x.fit) (hl : goodR x = true → (bytR x).length ≤ 8796093022208) :
    Calls Tryz.prog 44 #[recV x a b c d] w (BytP w x) := by
  cases hg : goodR x
  · exact rbytes_no h hi hf hg
  · rcases good_kind hg with hk | hk | hk
    · exact rbytes_1 h hi hf hg hk (hl hg)
    · exact rbytes_2 h hi hf hg hk (hl hg)
    · exact rbytes_3 h hi hf hg hk (hl hg)
end Go.Proofs.YtehfoaicohnpfaaGreatDoor
/- Plain mathematics of the document's reader of records: it reads what the program's reads. Conditions: none. -/
set_option maxRecDepth 100000
namespace Go.Proofs.YtehfoaicohnpfaaGreatDoor
open Go.RowKit Go.Lib

/-- the document's count: at most as many as there are bytes -/
def qCnt : Ps Nat := fun l => (pNum l).bind fun q => if q.1 < 0 ∨ (q.2.length : Int) < q.1 then none else some (q.1.toNat, q.2)
def qTab : Ps (ByteArray × List (ByteArray × Int)) := fun l => (pTxt l).bind fun q => (qCnt q.2).bind fun c => (pMany pCol c.1 c.2).bind fun s => some ((q.1, s.1), s.2)
def qRol : Ps (ByteArray × ByteArray × List ByteArray × List (Int × ByteArray)) := fun l => (pTxt l).bind fun q => (pTxt q.2).bind fun t => (qCnt t.2).bind fun c => (pMany pTxt c.1 c.2).bind fun d =>
  (qCnt d.2).bind fun k => (pMany pMea k.1 k.2).bind fun m => some ((q.1, t.1, d.1, m.1), m.2)
def qBat : Ps (ByteArray × List (List VV)) := fun l => (pTxt l).bind fun q => (qCnt q.2).bind fun c => (pMany pRow c.1 c.2).bind fun s => some ((q.1, s.1), s.2)
def qRead : Ps RV := fun l => (pNum l).bind fun q =>
  if q.1 = 1 then (qTab q.2).bind fun s => some (tabV s.1, s.2)
  else if q.1 = 2 then (qRol q.2).bind fun s => some (rolV s.1, s.2)
  else if q.1 = 3 then (qBat q.2).bind fun s => some (batV s.1.1 s.1.2, s.2)
  else none
def qLoad (b : List UInt8) : Option RV := (qRead b).bind fun s => if s.2 = [] ∧ goodR s.1 = true ∧ b.length ≤ 262144 then some s.1 else none

theorem qCnt_some {l : List UInt8} {n : Nat} {r : List UInt8} (h : qCnt l = some (n, r)) : l = dig n ++ r ∧ n ≤ r.length ∧ r.length ≤ l.length := by
  unfold qCnt at h
  obtain ⟨⟨m, q⟩, h1, h2⟩ := bind_some' h
  simp only at h2
  split at h2
  · cases h2
  · simp only [Option.some.injEq, Prod.mk.injEq] at h2
    obtain ⟨rfl, rfl⟩ := h2
    obtain ⟨_, _, _, e, hl, hb⟩ := pNum_some h1
    refine ⟨?_, by omega, hl⟩
    rw [e]
    congr 1
    unfold inL
    congr 1
    unfold uN
    omega
theorem dig_qcnt {n : Nat} {r : List UInt8} (h : n ≤ r.length) (hm : n ≤ 1000000) : qCnt (dig n ++ r) = some (n, r) := by
  unfold qCnt
  rw [dig_num (by omega)]
  simp only [Option.bind_some]
  rw [if_neg (by omega)]
  simp
theorem many_pos {α : Type} {e : α → List UInt8} : ∀ (l : List α), (∀ x ∈ l, 0 < (e x).length) → l.length ≤ (manyL e l).length
  | [], _ => by simp
  | x :: r, h => by
    have h1 := h x (List.mem_cons_self ..)
    have h2 := many_pos r (fun y hy => h y (List.mem_cons_of_mem _ hy))
    rw [manyL_cons, List.length_append, List.length_cons]
    omega
theorem txL_pos (s : ByteArray) : 0 < (txL s).length := by
  unfold txL
  rw [List.length_append]
  have := dig_pos s.size
  omega
theorem inL_pos (n : Int) : 0 < (inL n).length := dig_pos _
theorem colL_pos (c : ByteArray × Int) : 0 < (colL c).length := by
  unfold colL
  rw [List.length_append]
  have := txL_pos c.1
  omega
theorem meaL_pos (m : Int × ByteArray) : 0 < (meaL m).length := by
  unfold meaL
  rw [List.length_append]
  have := txL_pos m.2
  omega
theorem rowL_pos (r : List VV) : 0 < (rowL r).length := by
  unfold rowL blL
  rw [List.length_append]
  have := dig_pos (bytesV r).length
  omega
theorem many_row : ∀ (k : Nat) (l : List UInt8) (xs : List (List VV)) (r : List UInt8), l.length ≤ 1000000 → pMany pRow k l = some (xs, r) → l = manyL rowL xs ++ r ∧ xs.length = k ∧ r.length ≤ l.length ∧ ∀ x ∈ xs, RowQ' x 1000000 := by
  intro k
  induction k with
  | zero =>
    intro l xs r _ h
    simp only [pMany, Option.some.injEq, Prod.mk.injEq] at h
    obtain ⟨rfl, rfl⟩ := h
    exact ⟨rfl, rfl, Nat.le_refl _, fun x hx => by cases hx⟩
  | succ k ih =>
    intro l xs r hl h
    unfold pMany at h
    obtain ⟨⟨x, q⟩, g1, g2⟩ := bind_some' h
    obtain ⟨⟨ys, q2⟩, g3, g4⟩ := bind_some' g2
    simp only [Option.some.injEq, Prod.mk.injEq] at g4
    obtain ⟨rfl, rfl⟩ := g4
    obtain ⟨e1, q1, l1⟩ := pRow_some _ hl _ _ g1
    obtain ⟨e2, n2, l2, q2⟩ := ih _ _ _ (by simp only; omega) g3
    simp only at e2 l2
    refine ⟨by rw [manyL_cons, List.append_assoc, ← e2]; exact e1, by simp [n2], by omega, fun y hy => ?_⟩
    rcases List.mem_cons.1 hy with rfl | hy
    · exact ⟨Nat.le_trans q1.1 hl, q1.2⟩
    · exact q2 y hy
/-- what the document's reader reads is what the bytes begin with -/
theorem qRead_some {l : List UInt8} (hl : l.length ≤ 1000000) {x : RV} {r : List UInt8} (h : qRead l = some (x, r)) : l = bytR x ++ r ∧ x.inI := by
  unfold qRead at h
  obtain ⟨⟨k, q⟩, h1, h2⟩ := bind_some' h
  obtain ⟨_, _, _, e1, l1, _⟩ := pNum_some h1
  simp only at h2 l1 e1
  split at h2
  · rename_i hk
    obtain ⟨⟨s, q2⟩, h3, h4⟩ := bind_some' h2
    simp only [Option.some.injEq, Prod.mk.injEq] at h4
    obtain ⟨rfl, rfl⟩ := h4
    unfold qTab at h3
    obtain ⟨⟨a, q3⟩, h5, h6⟩ := bind_some' h3
    obtain ⟨⟨c, q4⟩, h7, h8⟩ := bind_some' h6
    obtain ⟨⟨m, q5⟩, h9, h10⟩ := bind_some' h8
    simp only [Option.some.injEq, Prod.mk.injEq] at h10
    obtain ⟨rfl, rfl⟩ := h10
    obtain ⟨e5, _, _⟩ := pTxt_some h5
    obtain ⟨e7, _, _⟩ := qCnt_some h7
    obtain ⟨e9, n9, _, g9⟩ := pMany_some (Q := ColQ) (fun x a b hab hq => ⟨Nat.le_trans hq.1 hab, hq.2⟩) pCol_some _ _ _ _ h9
    simp only at e5 e7 e9 n9
    refine ⟨?_, ⟨fun c hc => (g9 c hc).2, fun m hm => (by cases hm), fun r hr => (by cases hr)⟩⟩
    have eb : bytR (tabV (a, m)) = inL 1 ++ (txL a ++ (dig m.length ++ manyL colL m)) := rfl
    rw [eb, e1, hk, n9]
    simp only [List.append_assoc]
    rw [← e9, ← e7, ← e5]
  · split at h2
    · rename_i hk
      obtain ⟨⟨s, q2⟩, h3, h4⟩ := bind_some' h2
      simp only [Option.some.injEq, Prod.mk.injEq] at h4
      obtain ⟨rfl, rfl⟩ := h4
      unfold qRol at h3
      obtain ⟨⟨a, q3⟩, h5, h6⟩ := bind_some' h3
      obtain ⟨⟨b, q4⟩, h7, h8⟩ := bind_some' h6
      obtain ⟨⟨c, q5⟩, h9, h10⟩ := bind_some' h8
      obtain ⟨⟨d, q6⟩, h11, h12⟩ := bind_some' h10
      obtain ⟨⟨k2, q7⟩, h13, h14⟩ := bind_some' h12
      obtain ⟨⟨m, q8⟩, h15, h16⟩ := bind_some' h14
      simp only [Option.some.injEq, Prod.mk.injEq] at h16
      obtain ⟨rfl, rfl⟩ := h16
      obtain ⟨e5, _, _⟩ := pTxt_some h5
      obtain ⟨e7, _, _⟩ := pTxt_some h7
      obtain ⟨e9, _, _⟩ := qCnt_some h9
      obtain ⟨e11, n11, _, _⟩ := pMany_some (p := pTxt) (e := txL) (Q := fun _ _ => True) (fun _ _ _ _ _ => trivial) (fun l x r hx => ⟨(pTxt_some hx).1, trivial, (pTxt_some hx).2.2⟩) _ _ _ _ h11
      obtain ⟨e13, _, _⟩ := qCnt_some h13
      obtain ⟨e15, n15, _, g15⟩ := pMany_some (Q := MeaQ) (fun x a b hab hq => ⟨Nat.le_trans hq.1 hab, hq.2⟩) pMea_some _ _ _ _ h15
      simp only at e5 e7 e9 e11 e13 e15 n11 n15
      refine ⟨?_, ⟨fun c hc => (by cases hc), fun m hm => (g15 m hm).2, fun r hr => (by cases hr)⟩⟩
      have eb : bytR (rolV (a, b, d, m)) = inL 2 ++ (txL a ++ (txL b ++ (dig d.length ++ (manyL txL d ++ (dig m.length ++ manyL meaL m))))) := rfl
      rw [eb, e1, hk, n11, n15]
      simp only [List.append_assoc]
      rw [← e15, ← e13, ← e11, ← e9, ← e7, ← e5]
    · split at h2
      · rename_i hk
        obtain ⟨⟨s, q2⟩, h3, h4⟩ := bind_some' h2
        simp only [Option.some.injEq, Prod.mk.injEq] at h4
        obtain ⟨rfl, rfl⟩ := h4
        unfold qBat at h3
        obtain ⟨⟨a, q3⟩, h5, h6⟩ := bind_some' h3
        obtain ⟨⟨c, q4⟩, h7, h8⟩ := bind_some' h6
        obtain ⟨⟨m, q5⟩, h9, h10⟩ := bind_some' h8
        simp only [Option.some.injEq, Prod.mk.injEq] at h10
        obtain ⟨rfl, rfl⟩ := h10
        obtain ⟨e5, _, l5⟩ := pTxt_some h5
        obtain ⟨e7, _, l7⟩ := qCnt_some h7
        simp only at e5 e7 l5 l7 h9
        obtain ⟨e9, n9, _, g9⟩ := many_row _ _ _ _ (by omega) h9
        refine ⟨?_, ⟨fun c hc => (by cases hc), fun m hm => (by cases hm), fun r hr v hv => ((g9 r hr).2 v hv).2⟩⟩
        have eb : bytR (batV a m) = inL 3 ++ (txL a ++ (dig m.length ++ manyL rowL m)) := rfl
        rw [eb, e1, hk, n9]
        simp only [List.append_assoc]
        rw [← e9, ← e7, ← e5]
      · cases h2
/-- what a good record tells is read as that record by the document's reader -/
theorem qRead_bytR {x : RV} (h : goodR x = true) (hi : x.inI) (hl : (bytR x).length ≤ 262144) : qRead (bytR x) = some (x, []) := by
  have hb : (bodL x).length ≤ 262144 := by unfold bytR at hl; rw [List.length_append] at hl; omega
  rcases good_shape h with ⟨e, h1, h2⟩ | ⟨e, h1, h2⟩ | ⟨e, h1⟩
  · have hk : x.k = 1 := by rw [e]; rfl
    have e2 : bodL x = tabL x := by unfold bodL; rw [if_pos hk]
    have et : qTab (tabL x) = some ((x.tn, x.tc), []) := by
      rw [e2] at hb
      unfold tabL at hb
      simp only [List.length_append] at hb
      have ht := txL_len x.tn
      unfold qTab tabL
      rw [txL_txt (by omega)]
      simp only [Option.bind_some]
      rw [dig_qcnt (many_pos _ fun c _ => colL_pos c) (by omega)]
      simp only [Option.bind_some]
      have := many_ok (p := pCol) (e := colL) x.tc (fun c hc r => col_ok (by
        have := many_len (e := colL) hc
        have := colL_len c
        omega) (hi.tc c hc) r) []
      rw [List.append_nil] at this
      rw [this]
      rfl
    unfold bytR qRead
    rw [inL_num (by omega) (by omega), hk, e2]
    simp only [Option.bind_some]
    rw [if_pos trivial, et]
    simp only [Option.bind_some]
    rw [← e]
  · have hk : x.k = 2 := by rw [e]; rfl
    have e2 : bodL x = rolL x := by unfold bodL; rw [if_neg (by omega), if_pos hk]
    have et : qRol (rolL x) = some ((x.rn, x.rt, x.rd, x.rm), []) := by
      rw [e2] at hb
      unfold rolL at hb
      simp only [List.length_append] at hb
      have ht := txL_len x.rn
      have ht2 := txL_len x.rt
      have p1 := many_pos (e := txL) x.rd fun c _ => txL_pos c
      have p2 := many_pos (e := meaL) x.rm fun c _ => meaL_pos c
      unfold qRol rolL
      rw [txL_txt (by omega)]
      simp only [Option.bind_some]
      rw [txL_txt (by omega)]
      simp only [Option.bind_some]
      rw [dig_qcnt (by rw [List.length_append]; omega) (by omega)]
      simp only [Option.bind_some]
      rw [many_ok (p := pTxt) (e := txL) x.rd (fun c hc r => txL_txt (by
        have := many_len (e := txL) hc
        have := txL_len c
        omega) r)]
      simp only [Option.bind_some]
      rw [dig_qcnt p2 (by omega)]
      simp only [Option.bind_some]
      have := many_ok (p := pMea) (e := meaL) x.rm (fun c hc r => mea_ok (by
        have := many_len (e := meaL) hc
        have := meaL_len c
        omega) (hi.rm c hc) r) []
      rw [List.append_nil] at this
      rw [this]
      rfl
    unfold bytR qRead
    rw [inL_num (by omega) (by omega), hk, e2]
    simp only [Option.bind_some]
    rw [if_neg (by omega), if_pos trivial, et]
    simp only [Option.bind_some]
    rw [← e]
  · have hk : x.k = 3 := by rw [e]; rfl
    have e2 : bodL x = batL x := by unfold bodL; rw [if_neg (by omega), if_neg (by omega)]
    obtain ⟨n, n1, n8, w1, w2, hr⟩ := bat_iff.1 h1
    have et : qBat (batL x) = some ((x.nm, x.ws), []) := by
      rw [e2] at hb
      unfold batL at hb
      simp only [List.length_append] at hb
      have ht := txL_len x.nm
      unfold qBat batL
      rw [txL_txt (by omega)]
      simp only [Option.bind_some]
      rw [dig_qcnt (many_pos _ fun c _ => rowL_pos c) (by omega)]
      simp only [Option.bind_some]
      have := many_ok (p := pRow) (e := rowL) x.ws (fun c hc r => row_ok (by
        have := many_len (e := rowL) hc
        have := rowL_len c
        omega) (by have := (hr c hc).1; omega) (fun v hv => ⟨(hr c hc).2 v hv, hi.ws c hc v hv⟩) r) []
      rw [List.append_nil] at this
      rw [this]
      rfl
    unfold bytR qRead
    rw [inL_num (by omega) (by omega), hk, e2]
    simp only [Option.bind_some]
    rw [if_neg (by omega), if_neg (by omega), if_pos trivial, et]
    simp only [Option.bind_some]
    rw [← e]
/-- the document's Load answers what the program's does -/
theorem qLoad_eq {b : List UInt8} (hb : b.length ≤ 1000000) : qLoad b = loadR b := by
  cases e : loadR b with
  | some x =>
    obtain ⟨h1, h2, h3, h4⟩ := (loadR_iff hb).1 e
    subst h4
    unfold qLoad
    rw [qRead_bytR h1 h2 h3]
    simp only [Option.bind_some]
    rw [if_pos ⟨trivial, h1, h3⟩]
  | none =>
    cases e2 : qLoad b with
    | none => rfl
    | some x =>
      unfold qLoad at e2
      obtain ⟨⟨y, r⟩, h1, h2⟩ := bind_some' e2
      simp only at h2
      split at h2
      · rename_i hc
        obtain ⟨rfl, hg, hl⟩ := hc
        simp only [Option.some.injEq] at h2
        subst h2
        obtain ⟨e3, hi⟩ := qRead_some hb h1
        rw [List.append_nil] at e3
        exact absurd e3 ((loadR_none hb).1 e y hg hi (by rw [← e3]; exact hl))
      · cases h2
end Go.Proofs.YtehfoaicohnpfaaGreatDoor
/- Contract of record.Load at any bytes. Conditions: at most 1000000 bytes. -/
set_option maxRecDepth 100000
namespace Go.Proofs.YtehfoaicohnpfaaGreatDoor
open Go.RowKit Go.Maps Go.Sort Go.Lib

theorem m_catch_idle (p q : Addr) (w : World) :
    CallsD Tryz.prog 42 #[.pointer (some p), .pointer (some q)] .returning w fun e u' w' => e = .returned (.tuple #[]) ∧ u' = .returning ∧ w' = w := by
  refine callsD_of_wpS Tryz.func42 rfl fun c₀ cs hu => ?_
  apply wpS_seq
  apply wpS_region
  simp [wpOpsS, go_sem, recoverD, hu, Tryz.ntmps42, Exit.thenS]
  simp only [Array.replicate_succ, Array.replicate_zero, List.push_toArray, List.append_toArray, List.nil_append, List.cons_append, List.setIfInBounds_toArray, List.set_cons_succ, List.set_cons_zero]
  refine wpS_of_wp ?_
  go_wp2
  cases c₀
  simp_all [bodyPostS, results, Tryz.results42]
set_option maxHeartbeats 3200000 in
theorem m_catch_errno (b c : Nat) (n : Int) (w : World) (hp : w.heap[b]? = some (.cells #[.int .i64 0, .string ⟨#[]⟩, .slice none 0 0, .string ⟨#[]⟩, .string ⟨#[]⟩, .slice none 0 0, .slice none 0 0, .string ⟨#[]⟩, .slice none 0 0] 43 (0, 0))) (hq : w.heap[c]? = some (.cells #[.int .i64 0] 49 (0, 0))) (hne : b ≠ c) :
    CallsD Tryz.prog 42 #[.pointer (some ⟨b, 0, none⟩), .pointer (some ⟨c, 0, none⟩)] (.panicking [{ v := .iface 49 (.int .i64 n), recovered := false }]) w fun e u' w' =>
      e = .returned (.tuple #[]) ∧ u' = .panicking [{ v := .iface 49 (.int .i64 n), recovered := true }] ∧ w' = (set9 w b (.int .i64 0) (.string ⟨#[]⟩) (.slice none 0 0) (.string ⟨#[]⟩) (.string ⟨#[]⟩) (.slice none 0 0) (.slice none 0 0) (.string ⟨#[]⟩) (.slice none 0 0)).setCell ⟨c, 0, none⟩ (.int .i64 8) := by
  obtain ⟨q0, q1, q2, q3, q4, q5, q6, q7, q8, qf⟩ := nine_cells hp
  have c0 : w.cell? ⟨c, 0, none⟩ = some (.int .i64 0) := by rw [cell_of_row _ _ _ _ _ _ hq]; rfl
  have cf := free_of_row hq
  clear hp hq
  refine callsD_of_wpS Tryz.func42 rfl fun c₀ cs hu => ?_
  apply wpS_seq
  apply wpS_region
  simp [wpOpsS, go_sem, recoverD, hu, Tryz.ntmps42, Exit.thenS]
  simp only [Array.replicate_succ, Array.replicate_zero, List.push_toArray, List.append_toArray, List.nil_append, List.cons_append, List.setIfInBounds_toArray, List.set_cons_succ, List.set_cons_zero]
  refine wpS_of_wp ?_
  have hc := Ne.symm hne
  unfold set9
  go_wp2
  cases c₀
  simp_all [bodyPostS, results, Tryz.results42]
/-- what is read begins the bytes -/
theorem pRead_bytes {l : List UInt8} (hl : l.length ≤ 1000000) {x : RV} (h : pRead l = some x) : (bytR x).length ≤ l.length := by
  unfold pRead at h
  obtain ⟨⟨k, q⟩, h1, h2⟩ := bind_some' h
  obtain ⟨_, _, _, e1, l1, _⟩ := pNum_some h1
  have e1l := congrArg List.length e1
  rw [List.length_append] at e1l
  simp only at h2 l1
  split at h2
  · rename_i hk
    obtain ⟨⟨s, q2⟩, h3, h4⟩ := bind_some' h2
    simp only [Option.some.injEq] at h4
    subst h4
    unfold pTab at h3
    obtain ⟨⟨a, q3⟩, h5, h6⟩ := bind_some' h3
    obtain ⟨⟨c, q4⟩, h7, h8⟩ := bind_some' h6
    obtain ⟨⟨m, q5⟩, h9, h10⟩ := bind_some' h8
    simp only [Option.some.injEq, Prod.mk.injEq] at h10
    obtain ⟨rfl, rfl⟩ := h10
    obtain ⟨e5, _, _⟩ := pTxt_some h5
    obtain ⟨e7, _, _⟩ := pCnt_some h7
    obtain ⟨e9, n9, _, _⟩ := pMany_some (Q := ColQ) (fun x a b hab hq => ⟨Nat.le_trans hq.1 hab, hq.2⟩) pCol_some _ _ _ _ h9
    have eb : bytR (tabV (a, m)) = inL 1 ++ (txL a ++ (dig m.length ++ manyL colL m)) := rfl
    have l5 := congrArg List.length e5
    have l7 := congrArg List.length e7
    have l9 := congrArg List.length e9
    simp only [List.length_append] at l5 l7 l9
    simp only at n9
    rw [eb, ← hk, n9]
    simp only [List.length_append]
    omega
  · split at h2
    · rename_i hk
      obtain ⟨⟨s, q2⟩, h3, h4⟩ := bind_some' h2
      simp only [Option.some.injEq] at h4
      subst h4
      unfold pRol at h3
      obtain ⟨⟨a, q3⟩, h5, h6⟩ := bind_some' h3
      obtain ⟨⟨b, q4⟩, h7, h8⟩ := bind_some' h6
      obtain ⟨⟨c, q5⟩, h9, h10⟩ := bind_some' h8
      obtain ⟨⟨d, q6⟩, h11, h12⟩ := bind_some' h10
      obtain ⟨⟨k2, q7⟩, h13, h14⟩ := bind_some' h12
      obtain ⟨⟨m, q8⟩, h15, h16⟩ := bind_some' h14
      simp only [Option.some.injEq, Prod.mk.injEq] at h16
      obtain ⟨rfl, rfl⟩ := h16
      obtain ⟨e5, _, _⟩ := pTxt_some h5
      obtain ⟨e7, _, _⟩ := pTxt_some h7
      obtain ⟨e9, _, _⟩ := pCnt_some h9
      obtain ⟨e11, n11, _, _⟩ := pMany_some (p := pTxt) (e := txL) (Q := fun _ _ => True) (fun _ _ _ _ _ => trivial) (fun l x r hx => ⟨(pTxt_some hx).1, trivial, (pTxt_some hx).2.2⟩) _ _ _ _ h11
      obtain ⟨e13, _, _⟩ := pCnt_some h13
      obtain ⟨e15, n15, _, _⟩ := pMany_some (Q := MeaQ) (fun x a b hab hq => ⟨Nat.le_trans hq.1 hab, hq.2⟩) pMea_some _ _ _ _ h15
      have eb : bytR (rolV (a, b, d, m)) = inL 2 ++ (txL a ++ (txL b ++ (dig d.length ++ (manyL txL d ++ (dig m.length ++ manyL meaL m))))) := rfl
      have l5 := congrArg List.length e5
      have l7 := congrArg List.length e7
      have l9 := congrArg List.length e9
      have l11 := congrArg List.length e11
      have l13 := congrArg List.length e13
      have l15 := congrArg List.length e15
      simp only [List.length_append] at l5 l7 l9 l11 l13 l15
      simp only at n11 n15
      rw [eb, ← hk, n11, n15]
      simp only [List.length_append]
      omega
    · split at h2
      · rename_i hk
        obtain ⟨⟨s, q2⟩, h3, h4⟩ := bind_some' h2
        obtain ⟨⟨t, q3⟩, h5, h6⟩ := bind_some' h4
        simp only [Option.some.injEq] at h6
        subst h6
        obtain ⟨e3, _, l3⟩ := pTxt_some h3
        unfold pRows at h5
        obtain ⟨⟨c, q4⟩, h7, h8⟩ := bind_some' h5
        obtain ⟨e7, _, l7⟩ := pCnt_some h7
        simp only at l3 l7 h8
        obtain ⟨e9, n9, _, _⟩ := many_row _ _ _ _ (by omega) h8
        have eb : bytR (batV s t) = inL 3 ++ (txL s ++ (dig t.length ++ manyL rowL t)) := rfl
        have m3 := congrArg List.length e3
        have m7 := congrArg List.length e7
        have m9 := congrArg List.length e9
        simp only [List.length_append] at m3 m7 m9
        rw [eb, ← hk, n9]
        simp only [List.length_append]
        omega
      · cases h2
def zeroR : RV := ⟨0, nilS, [], nilS, nilS, [], [], nilS, []⟩
def nilV : Value := .slice none 0 0
/-- what Load answers -/
def LoadRP (w : World) (l : List UInt8) (e : Ending) (w' : World) : Prop := Below w.heap.size w w' ∧
  ((∃ x a b c d, loadR l = some x ∧ e = .returned (.tuple #[recV x a b c d, .int .i64 0]) ∧ RecOk w.heap.size x a b c d w') ∨ (loadR l = none ∧ e = .returned (.tuple #[recV zeroR nilV nilV nilV nilV, .int .i64 8])))
theorem RecOk.rebase {A B : Nat} {x : RV} {a b c d : Value} {w : World} (h : RecOk A x a b c d w) (hb : B ≤ A) : RecOk B x a b c d w := ⟨rebaseV h.tc hb, rebaseV h.rd hb, rebaseV h.rm hb, h.ws.rebase hb⟩
theorem RecOk.next {B : Nat} {x : RV} {a b c d : Value} {w w' : World} (h : RecOk B x a b c d w) (hb : Below w.heap.size w w') : RecOk B x a b c d w' := by
  obtain ⟨vs, hv, hw⟩ := h.ws
  exact ⟨ownsRow_below h.tc hb, ownsRow_below h.rd hb, ownsRow_below h.rm hb, ⟨vs, ownsRow_below hv hb, hw.of_block fun g cur hg _ => hb.block g (lt_of_heap hg)⟩⟩
theorem below_two (w : World) (A B : Obj) : Below w.heap.size w ((w.alloc A).alloc B) := ((Below.refl _ _).alloc (Nat.le_refl _) _).alloc (by simp) _
/-- the two boxes of Load's results -/
structure LdSt (w : World) (v0 v1 v2 v3 v4 v5 v6 v7 v8 : Value) (W : World) : Prop where
  bel : Below w.heap.size w W
  bxr : W.heap[w.heap.size]? = some (.cells #[v0, v1, v2, v3, v4, v5, v6, v7, v8] 43 (0, 0))
  bxe : W.heap[w.heap.size + 1]? = some (.cells #[.int .i64 0] 49 (0, 0))
section
variable {w W : World} {v0 v1 v2 v3 v4 v5 v6 v7 v8 : Value}
theorem LdSt.next {W' : World} (h : LdSt w v0 v1 v2 v3 v4 v5 v6 v7 v8 W) (hb : Below W.heap.size W W') : LdSt w v0 v1 v2 v3 v4 v5 v6 v7 v8 W' :=
  ⟨h.bel.trans (hb.mono h.bel.size), (hb.block _ (lt_of_heap h.bxr)).trans h.bxr, (hb.block _ (lt_of_heap h.bxe)).trans h.bxe⟩
theorem LdSt.start (w : World) : LdSt w (.int .i64 0) (.string ⟨#[]⟩) (.slice none 0 0) (.string ⟨#[]⟩) (.string ⟨#[]⟩) (.slice none 0 0) (.slice none 0 0) (.string ⟨#[]⟩) (.slice none 0 0) ((w.alloc (.cells #[.int .i64 0, .string ⟨#[]⟩, .slice none 0 0, .string ⟨#[]⟩, .string ⟨#[]⟩, .slice none 0 0, .slice none 0 0, .string ⟨#[]⟩, .slice none 0 0] 43)).alloc (.cells #[.int .i64 0] 49)) := by
  have hs : (w.alloc (.cells #[.int .i64 0, .string ⟨#[]⟩, .slice none 0 0, .string ⟨#[]⟩, .string ⟨#[]⟩, .slice none 0 0, .slice none 0 0, .string ⟨#[]⟩, .slice none 0 0] 43)).heap.size = w.heap.size + 1 := by simp
  exact ⟨below_two _ _ _, (heap_alloc_old _ _ (by omega)).trans (heap_alloc_new w _), by rw [← hs]; exact heap_alloc_new _ _⟩
theorem set9_at {w : World} {r : Nat} {t : TypeId} {v0 v1 v2 v3 v4 v5 v6 v7 v8 u0 u1 u2 u3 u4 u5 u6 u7 u8 : Value} (h : w.heap[r]? = some (.cells #[v0, v1, v2, v3, v4, v5, v6, v7, v8] t (0, 0))) :
    (set9 w r u0 u1 u2 u3 u4 u5 u6 u7 u8).heap[r]? = some (.cells #[u0, u1, u2, u3, u4, u5, u6, u7, u8] t (0, 0)) ∧ ∀ k, k ≠ r → (set9 w r u0 u1 u2 u3 u4 u5 u6 u7 u8).heap[k]? = w.heap[k]? := by
  have h0 : (w.setCell ⟨r, 0, none⟩ u0).heap[r]? = some (.cells #[u0, v1, v2, v3, v4, v5, v6, v7, v8] t (0, 0)) := heap_set (j := 0) h u0
  have h1 : ((w.setCell ⟨r, 0, none⟩ u0).setCell ⟨r, 1, none⟩ u1).heap[r]? = some (.cells #[u0, u1, v2, v3, v4, v5, v6, v7, v8] t (0, 0)) := heap_set (j := 1) h0 u1
  have h2 : (((w.setCell ⟨r, 0, none⟩ u0).setCell ⟨r, 1, none⟩ u1).setCell ⟨r, 2, none⟩ u2).heap[r]? = some (.cells #[u0, u1, u2, v3, v4, v5, v6, v7, v8] t (0, 0)) := heap_set (j := 2) h1 u2
  have h3 : ((((w.setCell ⟨r, 0, none⟩ u0).setCell ⟨r, 1, none⟩ u1).setCell ⟨r, 2, none⟩ u2).setCell ⟨r, 3, none⟩ u3).heap[r]? = some (.cells #[u0, u1, u2, u3, v4, v5, v6, v7, v8] t (0, 0)) := heap_set (j := 3) h2 u3
  have h4 : (((((w.setCell ⟨r, 0, none⟩ u0).setCell ⟨r, 1, none⟩ u1).setCell ⟨r, 2, none⟩ u2).setCell ⟨r, 3, none⟩ u3).setCell ⟨r, 4, none⟩ u4).heap[r]? = some (.cells #[u0, u1, u2, u3, u4, v5, v6, v7, v8] t (0, 0)) := heap_set (j := 4) h3 u4
  have h5 : ((((((w.setCell ⟨r, 0, none⟩ u0).setCell ⟨r, 1, none⟩ u1).setCell ⟨r, 2, none⟩ u2).setCell ⟨r, 3, none⟩ u3).setCell ⟨r, 4, none⟩ u4).setCell ⟨r, 5, none⟩ u5).heap[r]? = some (.cells #[u0, u1, u2, u3, u4, u5, v6, v7, v8] t (0, 0)) := heap_set (j := 5) h4 u5
  have h6 : (((((((w.setCell ⟨r, 0, none⟩ u0).setCell ⟨r, 1, none⟩ u1).setCell ⟨r, 2, none⟩ u2).setCell ⟨r, 3, none⟩ u3).setCell ⟨r, 4, none⟩ u4).setCell ⟨r, 5, none⟩ u5).setCell ⟨r, 6, none⟩ u6).heap[r]? = some (.cells #[u0, u1, u2, u3, u4, u5, u6, v7, v8] t (0, 0)) := heap_set (j := 6) h5 u6
  have h7 : ((((((((w.setCell ⟨r, 0, none⟩ u0).setCell ⟨r, 1, none⟩ u1).setCell ⟨r, 2, none⟩ u2).setCell ⟨r, 3, none⟩ u3).setCell ⟨r, 4, none⟩ u4).setCell ⟨r, 5, none⟩ u5).setCell ⟨r, 6, none⟩ u6).setCell ⟨r, 7, none⟩ u7).heap[r]? = some (.cells #[u0, u1, u2, u3, u4, u5, u6, u7, v8] t (0, 0)) := heap_set (j := 7) h6 u7
  have h8 : (((((((((w.setCell ⟨r, 0, none⟩ u0).setCell ⟨r, 1, none⟩ u1).setCell ⟨r, 2, none⟩ u2).setCell ⟨r, 3, none⟩ u3).setCell ⟨r, 4, none⟩ u4).setCell ⟨r, 5, none⟩ u5).setCell ⟨r, 6, none⟩ u6).setCell ⟨r, 7, none⟩ u7).setCell ⟨r, 8, none⟩ u8).heap[r]? = some (.cells #[u0, u1, u2, u3, u4, u5, u6, u7, u8] t (0, 0)) := heap_set (j := 8) h7 u8
  unfold set9
  exact ⟨h8, fun k hk => (Below.heap_setCell _ _ _ k hk).trans ((Below.heap_setCell _ _ _ k hk).trans ((Below.heap_setCell _ _ _ k hk).trans ((Below.heap_setCell _ _ _ k hk).trans ((Below.heap_setCell _ _ _ k hk).trans ((Below.heap_setCell _ _ _ k hk).trans ((Below.heap_setCell _ _ _ k hk).trans ((Below.heap_setCell _ _ _ k hk).trans (Below.heap_setCell _ _ _ k hk))))))))⟩
/-- a record into its box -/
theorem LdSt.put (h : LdSt w v0 v1 v2 v3 v4 v5 v6 v7 v8 W) (u0 u1 u2 u3 u4 u5 u6 u7 u8 : Value) : LdSt w u0 u1 u2 u3 u4 u5 u6 u7 u8 (set9 W w.heap.size u0 u1 u2 u3 u4 u5 u6 u7 u8) := by
  obtain ⟨h1, h2⟩ := set9_at (u0 := u0) (u1 := u1) (u2 := u2) (u3 := u3) (u4 := u4) (u5 := u5) (u6 := u6) (u7 := u7) (u8 := u8) h.bxr
  exact ⟨set9_below h.bel (Nat.le_refl _) _ _ _ _ _ _ _ _ _, h1, (h2 _ (by omega)).trans h.bxe⟩
/-- and an error behind it -/
theorem LdSt.fin (h : LdSt w v0 v1 v2 v3 v4 v5 v6 v7 v8 W) (z : Value) : Below w.heap.size w (W.setCell ⟨w.heap.size + 1, 0, none⟩ z) ∧ (W.setCell ⟨w.heap.size + 1, 0, none⟩ z).heap[w.heap.size]? = some (.cells #[v0, v1, v2, v3, v4, v5, v6, v7, v8] 43 (0, 0)) ∧
    (W.setCell ⟨w.heap.size + 1, 0, none⟩ z).heap[w.heap.size + 1]? = some (.cells #[z] 49 (0, 0)) ∧ ∀ k, k ≠ w.heap.size + 1 → (W.setCell ⟨w.heap.size + 1, 0, none⟩ z).heap[k]? = W.heap[k]? :=
  ⟨h.bel.setCell (p := ⟨w.heap.size + 1, 0, none⟩) (by simp) z, (Below.heap_setCell _ _ _ _ (by simp)).trans h.bxr, heap_set h.bxe z, fun k hk => Below.heap_setCell _ _ _ k hk⟩
theorem LdSt.ecell (h : LdSt w v0 v1 v2 v3 v4 v5 v6 v7 v8 W) : W.cell? ⟨w.heap.size + 1, 0, none⟩ = some (.int .i64 0) ∧ ∀ j, W.frozen? ⟨w.heap.size + 1, j, none⟩ = false :=
  ⟨by rw [cell_of_row _ _ _ _ _ _ h.bxe]; rfl, free_of_row h.bxe⟩
/-- where Load gives up: the boxes that it leaves -/
theorem LdSt.giveUp (h : LdSt w v0 v1 v2 v3 v4 v5 v6 v7 v8 W) {l : List UInt8} (hn : loadR l = none) : ((set9 W w.heap.size (.int .i64 0) (.string ⟨#[]⟩) (.slice none 0 0) (.string ⟨#[]⟩) (.string ⟨#[]⟩) (.slice none 0 0) (.slice none 0 0) (.string ⟨#[]⟩) (.slice none 0 0)).setCell ⟨w.heap.size + 1, 0, none⟩ (.int .i64 8)).heap[w.heap.size]? = some (.cells #[.int .i64 0, .string ⟨#[]⟩, .slice none 0 0, .string ⟨#[]⟩, .string ⟨#[]⟩, .slice none 0 0, .slice none 0 0, .string ⟨#[]⟩, .slice none 0 0] 43 (0, 0)) ∧
    ((set9 W w.heap.size (.int .i64 0) (.string ⟨#[]⟩) (.slice none 0 0) (.string ⟨#[]⟩) (.string ⟨#[]⟩) (.slice none 0 0) (.slice none 0 0) (.string ⟨#[]⟩) (.slice none 0 0)).setCell ⟨w.heap.size + 1, 0, none⟩ (.int .i64 8)).cell? ⟨w.heap.size + 1, 0, none⟩ = some (.int .i64 8) ∧
    LoadRP w l (.returned (.tuple #[.agg #[.int .i64 0, .string ⟨#[]⟩, .slice none 0 0, .string ⟨#[]⟩, .string ⟨#[]⟩, .slice none 0 0, .slice none 0 0, .string ⟨#[]⟩, .slice none 0 0], .int .i64 8])) ((set9 W w.heap.size (.int .i64 0) (.string ⟨#[]⟩) (.slice none 0 0) (.string ⟨#[]⟩) (.string ⟨#[]⟩) (.slice none 0 0) (.slice none 0 0) (.string ⟨#[]⟩) (.slice none 0 0)).setCell ⟨w.heap.size + 1, 0, none⟩ (.int .i64 8)) := by
  obtain ⟨a, b, c, _⟩ := (h.put (.int .i64 0) (.string ⟨#[]⟩) (.slice none 0 0) (.string ⟨#[]⟩) (.string ⟨#[]⟩) (.slice none 0 0) (.slice none 0 0) (.string ⟨#[]⟩) (.slice none 0 0)).fin (.int .i64 8)
  exact ⟨b, by rw [cell_of_row _ _ _ _ _ _ c]; rfl, a, .inr ⟨hn, rfl⟩⟩
end
set_option maxHeartbeats 6400000 in
theorem rload_any {w : World} {p0 : Option Addr} {n k0 : Nat} {l : List UInt8} (h : Holds w (.slice p0 n k0) (u8s l)) (hl : l.length ≤ 1000000) :
    Calls Tryz.prog 26 #[.slice p0 n k0] w (LoadRP w l) := by
  have hmf : ∀ (fn : Fn) (first cap : Array Value) (w : World), (Instr.makeFunc fn first cap).run Tryz.prog w = .ok (.func fn first cap) w := fun _ _ _ _ => rfl
  have HK := Lib.hid (fun (W : World) (hb : Below w.heap.size w W) => read_at (h.below hb) hl)
  have HH := Lib.hid (fun (W : World) (hb : Below w.heap.size w W) => toStr (h.below hb))
  have HPB := Lib.hid (fun (x : RV) (hx : pRead l = some x) => pRead_bytes hl hx)
  have HPS := Lib.hid (fun (x : RV) (hx : pRead l = some x) => pRead_some hl hx)
  have HL := Lib.hid hl
  clear h hl
  go_enter_defers Tryz.func26, Tryz.ntmps26
  go_wp2_with fail
  refine (HK.out _ (below_two _ _ _)).mono ?_
  rintro e w1 ⟨hB, ⟨x, a, b, c, d, hp, rfl, ho⟩ | ⟨hp, rfl⟩⟩
  rotate_left
  · have hn : loadR l = none := by unfold loadR; rw [hp]; rfl
    have S1 := (LdSt.start w).next hB
    obtain ⟨f0, f1, FIN⟩ := S1.giveUp hn
    have KC := m_catch_errno w.heap.size (w.heap.size + 1) 8 w1 S1.bxr S1.bxe (by omega)
    obtain ⟨q0, q1, q2, q3, q4, q5, q6, q7, q8, _⟩ := nine_cells f0
    have FI := Lib.hid FIN
    clear hn S1 f0 FIN hB hp HK HH HPB HPS
    go_wp2_with fail
    refine leaves_cons (f := 42) (args := #[.pointer (some ⟨w.heap.size, 0, none⟩), .pointer (some ⟨w.heap.size + 1, 0, none⟩)]) (by simp) (by simp [go_sem]) ?_
    refine KC.mono ?_
    rintro e u' w'' ⟨rfl, rfl, rfl⟩
    simp [Leaves, settle, results, Tryz.results26, go_sem, q0, q1, q2, q3, q4, q5, q6, q7, q8, f1]
    exact FI.out
  obtain ⟨hxi, hxs, _⟩ := HPS.out x hp
  have hbl := HPB.out x hp
  have S1 := (LdSt.start w).next hB
  have hor : RecOk w.heap.size x a b c d w1 := ho.rebase (below_two _ _ _).size
  have hfit : x.fit := ⟨Nat.le_trans hxs.tc (by decide), Nat.le_trans hxs.rd (by decide), Nat.le_trans hxs.rm (by decide), Nat.le_trans hxs.ws (by decide)⟩
  have ho2 : RecOk w.heap.size x a b c d (set9 w1 w.heap.size (.int .i64 x.k) (.string x.tn) a (.string x.rn) (.string x.rt) b c (.string x.nm) d) := hor.of_block S1.bxr (by decide) (by decide) (by decide) (by decide) (by decide) (set9_at S1.bxr).2
  have S2 := S1.put (.int .i64 x.k) (.string x.tn) a (.string x.rn) (.string x.rt) b c (.string x.nm) d
  have KB := rbytes_all ho2.holds hxi hfit (fun _ => by have := HL.out; omega)
  obtain ⟨a1, ac, b1, bc, c1, cc, d1, dc, rfl, rfl, rfl, rfl⟩ := ho2.holds.form
  obtain ⟨q0, q1, q2, q3, q4, q5, q6, q7, q8, qf⟩ := nine_cells S1.bxr
  obtain ⟨z0, z1, z2, z3, z4, z5, z6, z7, z8, zf⟩ := nine_cells S2.bxr
  have HS2 := Lib.hid S2
  have HO2 := Lib.hid ho2
  have HBL := Lib.hid hbl
  have HP := Lib.hid hp
  unfold recV at *
  clear hB ho hxi hxs hbl S1 hor hfit ho2 S2 hp HPB HPS HK
  generalize x.tc.length = an at *
  generalize x.rd.length = bn at *
  generalize x.rm.length = cn at *
  generalize x.ws.length = dn at *
  obtain ⟨W2, hW2⟩ : ∃ W2, set9 w1 w.heap.size (.int .i64 x.k) (.string x.tn) (.slice a1 an ac) (.string x.rn) (.string x.rt) (.slice b1 bn bc) (.slice c1 cn cc) (.string x.nm) (.slice d1 dn dc) = W2 := ⟨_, rfl⟩
  rw [hW2] at KB HS2 HO2 z0 z1 z2 z3 z4 z5 z6 z7 z8 zf
  unfold set9 at hW2
  go_wp2_with fail
  clear hW2 z0 z1 z2 z3 z4 z5 z6 z7 z8 zf q0 q1 q2 q3 q4 q5 q6 q7 q8 qf hmf
  refine KB.mono ?_
  rintro e w2 ⟨hB2, ⟨hg, rfl⟩ | ⟨hg, hlt, rfl⟩ | ⟨hg, hle, v, rfl, hov⟩⟩
  · have hn : loadR l = none := by unfold loadR; rw [HP.out]; simp only [Option.bind_some]; rw [if_neg (fun g => by rw [hg] at g; cases g.1)]
    have S3 := HS2.out.next hB2
    obtain ⟨f0, f1, FIN⟩ := S3.giveUp hn
    obtain ⟨q0, q1, q2, q3, q4, q5, q6, q7, q8, qf⟩ := nine_cells S3.bxr
    obtain ⟨r0, r1, r2, r3, r4, r5, r6, r7, r8, _⟩ := nine_cells f0
    obtain ⟨e0, ef⟩ := S3.ecell
    have FI := Lib.hid FIN
    unfold set9 at f1 r0 r1 r2 r3 r4 r5 r6 r7 r8
    clear hn S3 f0 FIN hB2 hg KB HS2 HO2 HP HBL HH
    go_wp2_with fail
    refine leaves_cons (f := 42) (args := #[.pointer (some ⟨w.heap.size, 0, none⟩), .pointer (some ⟨w.heap.size + 1, 0, none⟩)]) (by simp) (by simp [go_sem]) ?_
    refine (m_catch_idle _ _ _).mono ?_
    rintro e u' w'' ⟨rfl, rfl, rfl⟩
    simp [Leaves, settle, results, Tryz.results26, go_sem, r0, r1, r2, r3, r4, r5, r6, r7, r8, f1]
    exact FI.out
  · have hn : loadR l = none := by unfold loadR; rw [HP.out]; simp only [Option.bind_some]; rw [if_neg (fun g => by have := g.2.1; omega)]
    have S3 := HS2.out.next hB2
    obtain ⟨f0, f1, FIN⟩ := S3.giveUp hn
    obtain ⟨q0, q1, q2, q3, q4, q5, q6, q7, q8, qf⟩ := nine_cells S3.bxr
    obtain ⟨r0, r1, r2, r3, r4, r5, r6, r7, r8, _⟩ := nine_cells f0
    obtain ⟨e0, ef⟩ := S3.ecell
    have FI := Lib.hid FIN
    unfold set9 at f1 r0 r1 r2 r3 r4 r5 r6 r7 r8
    clear hn S3 f0 FIN hB2 hg hlt KB HS2 HO2 HP HBL HH
    go_wp2_with fail
    refine leaves_cons (f := 42) (args := #[.pointer (some ⟨w.heap.size, 0, none⟩), .pointer (some ⟨w.heap.size + 1, 0, none⟩)]) (by simp) (by simp [go_sem]) ?_
    refine (m_catch_idle _ _ _).mono ?_
    rintro e u' w'' ⟨rfl, rfl, rfl⟩
    simp [Leaves, settle, results, Tryz.results26, go_sem, r0, r1, r2, r3, r4, r5, r6, r7, r8, f1]
    exact FI.out
  have hbw : Below w.heap.size w w2 := HS2.out.bel.trans (hB2.mono HS2.out.bel.size)
  have hOv : Holds w2 v (u8s (bytR x)) := Holds.of_row (by rw [u8s_len]; exact hov)
  have KE := Tryz.bytes_Equal_strs v (.slice p0 n k0) _ _ w2 (toStr hOv) (HH.out w2 hbw)
  rw [str_eq] at KE
  by_cases heq : bytR x = l
  · rw [decide_eq_true heq] at KE
    have hs : loadR l = some x := by unfold loadR; rw [HP.out]; simp only [Option.bind_some]; rw [if_pos ⟨hg, hle, heq⟩]
    have S3 := HS2.out.next hB2
    have ho3 := HO2.out.next hB2
    have S4 := S3.put (.int .i64 x.k) (.string x.tn) (.slice a1 an ac) (.string x.rn) (.string x.rt) (.slice b1 bn bc) (.slice c1 cn cc) (.string x.nm) (.slice d1 dn dc)
    obtain ⟨fb, f0, fe, fk⟩ := S4.fin (.int .i64 0)
    have ho4 := ho3.of_block (w' := set9 w2 w.heap.size (.int .i64 x.k) (.string x.tn) (.slice a1 an ac) (.string x.rn) (.string x.rt) (.slice b1 bn bc) (.slice c1 cn cc) (.string x.nm) (.slice d1 dn dc)) S3.bxr (by decide) (by decide) (by decide) (by decide) (by decide) (set9_at S3.bxr).2
    have ho5 := ho4.of_block (w' := (set9 w2 w.heap.size (.int .i64 x.k) (.string x.tn) (.slice a1 an ac) (.string x.rn) (.string x.rt) (.slice b1 bn bc) (.slice c1 cn cc) (.string x.nm) (.slice d1 dn dc)).setCell ⟨w.heap.size + 1, 0, none⟩ (.int .i64 0)) S4.bxe (by decide) (by decide) (by decide) (by decide) (by decide) fk
    have FI : Hid (LoadRP w l (.returned (.tuple #[.agg #[.int .i64 x.k, .string x.tn, .slice a1 an ac, .string x.rn, .string x.rt, .slice b1 bn bc, .slice c1 cn cc, .string x.nm, .slice d1 dn dc], .int .i64 0])) ((set9 w2 w.heap.size (.int .i64 x.k) (.string x.tn) (.slice a1 an ac) (.string x.rn) (.string x.rt) (.slice b1 bn bc) (.slice c1 cn cc) (.string x.nm) (.slice d1 dn dc)).setCell ⟨w.heap.size + 1, 0, none⟩ (.int .i64 0))) :=
      Lib.hid ⟨fb, .inl ⟨x, _, _, _, _, hs, rfl, ho5⟩⟩
    have f1 : ((set9 w2 w.heap.size (.int .i64 x.k) (.string x.tn) (.slice a1 an ac) (.string x.rn) (.string x.rt) (.slice b1 bn bc) (.slice c1 cn cc) (.string x.nm) (.slice d1 dn dc)).setCell ⟨w.heap.size + 1, 0, none⟩ (.int .i64 0)).cell? ⟨w.heap.size + 1, 0, none⟩ = some (.int .i64 0) := by rw [cell_of_row _ _ _ _ _ _ fe]; rfl
    obtain ⟨q0, q1, q2, q3, q4, q5, q6, q7, q8, qf⟩ := nine_cells S3.bxr
    obtain ⟨r0, r1, r2, r3, r4, r5, r6, r7, r8, _⟩ := nine_cells f0
    obtain ⟨e0, ef⟩ := S3.ecell
    obtain ⟨va, vc, hv, _⟩ := ownsRow_form hov
    generalize (bytR x).length = bl at *
    subst hv
    unfold set9 at f1 r0 r1 r2 r3 r4 r5 r6 r7 r8
    clear hs S3 S4 f0 fb fe fk ho3 ho4 ho5 hB2 hg hle KB HS2 HO2 HP HBL HH hbw hOv heq hov
    go_wp2_with fail
    refine KE.mono ?_
    rintro e w3 ⟨rfl, rfl⟩
    clear KE
    go_wp2_with fail
    refine leaves_cons (f := 42) (args := #[.pointer (some ⟨w.heap.size, 0, none⟩), .pointer (some ⟨w.heap.size + 1, 0, none⟩)]) (by simp) (by simp [go_sem]) ?_
    refine (m_catch_idle _ _ _).mono ?_
    rintro e u' w'' ⟨rfl, rfl, rfl⟩
    simp [Leaves, settle, results, Tryz.results26, go_sem, r0, r1, r2, r3, r4, r5, r6, r7, r8, f1]
    exact FI.out
  · rw [decide_eq_false heq] at KE
    have hn : loadR l = none := by unfold loadR; rw [HP.out]; simp only [Option.bind_some]; rw [if_neg (fun g => heq g.2.2)]
    have S3 := HS2.out.next hB2
    obtain ⟨f0, f1, FIN⟩ := S3.giveUp hn
    obtain ⟨q0, q1, q2, q3, q4, q5, q6, q7, q8, qf⟩ := nine_cells S3.bxr
    obtain ⟨r0, r1, r2, r3, r4, r5, r6, r7, r8, _⟩ := nine_cells f0
    obtain ⟨e0, ef⟩ := S3.ecell
    have FI := Lib.hid FIN
    unfold set9 at f1 r0 r1 r2 r3 r4 r5 r6 r7 r8
    obtain ⟨va, vc, hv, _⟩ := ownsRow_form hov
    generalize (bytR x).length = bl at *
    subst hv
    clear hn S3 f0 FIN hB2 hg hle KB HS2 HO2 HP HBL HH hbw hOv heq hov
    go_wp2_with fail
    refine KE.mono ?_
    rintro e w3 ⟨rfl, rfl⟩
    clear KE
    go_wp2_with fail
    refine leaves_cons (f := 42) (args := #[.pointer (some ⟨w.heap.size, 0, none⟩), .pointer (some ⟨w.heap.size + 1, 0, none⟩)]) (by simp) (by simp [go_sem]) ?_
    refine (m_catch_idle _ _ _).mono ?_
    rintro e u' w'' ⟨rfl, rfl, rfl⟩
    simp [Leaves, settle, results, Tryz.results26, go_sem, r0, r1, r2, r3, r4, r5, r6, r7, r8, f1]
    exact FI.out
end Go.Proofs.YtehfoaicohnpfaaGreatDoor
