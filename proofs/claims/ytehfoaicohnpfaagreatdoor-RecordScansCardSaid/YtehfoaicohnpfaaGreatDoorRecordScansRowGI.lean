/- The texts RefD RefE RefF, one behind the other; each one's own comment says what it holds. -/
import Derived.Test.YtehfoaicohnpfaaGreatDoorRecordScansRowGH
import Derived.Test.YtehfoaicohnpfaaGreatDoorRecordScansRowGC
import Derived.Test.YtehfoaicohnpfaaGreatDoorRecordScansRowGD
import Derived.Test.YtehfoaicohnpfaaGreatDoorTells
/- The document's side of a record: what it writes of a table. Conditions: at most 2^43 bytes. -/
set_option maxRecDepth 100000
namespace Go.Proofs.YtehfoaicohnpfaaGreatDoor
open Go.RowKit Go.Maps Go.Sort Go.Lib

theorem box_typ {t : TypeId} (ht : t ≠ 5) {w V : World} {k : Int} {s1 s2 s3 s4 : ByteArray} {a b c d : Value} (h : Typ (w.alloc (.cells #[.int .i64 k, .string s1, a, .string s2, .string s3, b, c, .string s4, d] t)) V) :
    V.cell? ⟨w.heap.size, 0, none⟩ = some (.int .i64 k) ∧ V.cell? ⟨w.heap.size, 1, none⟩ = some (.string s1) ∧ V.cell? ⟨w.heap.size, 2, none⟩ = some a ∧ V.cell? ⟨w.heap.size, 3, none⟩ = some (.string s2) ∧ V.cell? ⟨w.heap.size, 4, none⟩ = some (.string s3) ∧ V.cell? ⟨w.heap.size, 5, none⟩ = some b ∧ V.cell? ⟨w.heap.size, 6, none⟩ = some c ∧ V.cell? ⟨w.heap.size, 7, none⟩ = some (.string s4) ∧ V.cell? ⟨w.heap.size, 8, none⟩ = some d :=
  boxT (h.2 _ _ _ (heap_alloc_new w _) ht)
theorem typ_drew {a b : World} (h : Typ a b) : Typ a b.drew := h
theorem out_drew {w wr : World} {v : Value} {acc : List UInt8} (h : Out w wr v acc) : Out w wr.drew v acc := h.next (below_drew_v wr)
theorem two_typ {t : TypeId} (ht : t ≠ 5) {w V : World} {x y : Value} (h : Typ (w.alloc (.cells #[x, y] t)) V) : V.cell? ⟨w.heap.size, 0, none⟩ = some x ∧ V.cell? ⟨w.heap.size, 1, none⟩ = some y := by
  have hq := h.2 _ _ _ (heap_alloc_new w (.cells #[x, y] t)) ht
  exact ⟨by rw [cell_of_row _ _ _ _ _ _ hq]; rfl, by rw [cell_of_row _ _ _ _ _ _ hq]; rfl⟩
set_option maxHeartbeats 12800000 in
theorem rwrite_1 {w : World} (tn rn rt nm : ByteArray) (cs : List (ByteArray × Int)) (a1 b1 c1 d1 : Option Addr) (n ac bn bc cn cc dn dc : Nat) (ha : Holds2 w (.slice a1 n ac) (cs.map colC)) (hn : n = cs.length) (hn9 : n ≤ 1000000000) (hl : (inL 1 ++ (txL tn ++ (dig n ++ manyL colL cs))).length ≤ 8796093022208) :
    Calls Tryz.prog 38 #[.agg #[.int .i64 1, .string tn, .slice a1 n ac, .string rn, .string rt, .slice b1 bn bc, .slice c1 cn cc, .string nm, .slice d1 dn dc]] w (OwnP w (inL 1 ++ (txL tn ++ (dig n ++ manyL colL cs)))) := by
  have hF2 : ((inL 1 ++ txL tn) ++ dig n) ++ manyL colL cs = inL 1 ++ (txL tn ++ (dig n ++ manyL colL cs)) := by simp only [List.append_assoc]
  simp only [List.length_append] at hl
  have htl := txL_len tn
  have hi1 : (inL 1).length ≤ 10 := inL_len 1
  have HT := Lib.hid (fun (V : World) (h : Typ (w.alloc (.cells #[.int .i64 1, .string tn, .slice a1 n ac, .string rn, .string rt, .slice b1 bn bc, .slice c1 cn cc, .string nm, .slice d1 dn dc] 44)) V) => box_typ (t := 44) (by decide) h)
  have K0 := refput_at ((Out.start w).typ (.cells #[.int .i64 1, .string tn, .slice a1 n ac, .string rn, .string rt, .slice b1 bn bc, .slice c1 cn cc, .string nm, .slice d1 dn dc] 44)) 1 (by simp)
  rw [List.nil_append, show uN 1 = 1 from rfl] at K0
  obtain ⟨D1, hD1⟩ : ∃ D, inL 1 = D := ⟨_, rfl⟩
  rw [hD1] at K0 hF2 hl hi1 ⊢
  have hw1 : IntKind.u64.wrap 1 = 1 := rfl
  have hwn : IntKind.u64.wrap (n : Int) = (n : Int) := by rw [IntKind.wrap_u64]; omega
  have KT := Lib.hid (fun (W : World) (v' : Value) (ho : Out w W v' D1) => reftext_at ho tn (by omega))
  have KN := Lib.hid (fun (W : World) (v' : Value) (ho : Out w W v' (D1 ++ txL tn)) => (by
    have := refput_at ho (n : Int) (by rw [List.length_append]; omega)
    rw [inL_nat (by omega), uN_nat (by omega)] at this
    exact this : Calls Tryz.prog 19 #[v', .int .u64 (n : Int)] W (PutP w W (D1 ++ txL tn ++ dig n))))
  have HR := Lib.hid (fun (i : Nat) (s : ByteArray) (z : Int) (hi : cs[i]? = some (s, z)) => (by
    have h1 := put_room (e := colL) hi
    simp only [colL, List.length_append] at h1
    have h2 := txL_len s
    have h3 := inL_len z
    simp only [List.length_append]
    exact ⟨by omega, by omega⟩ : (((D1 ++ txL tn) ++ dig n) ++ manyL colL (cs.take i)).length + s.size + 10 ≤ 17592186044000 ∧ ((((D1 ++ txL tn) ++ dig n) ++ manyL colL (cs.take i)) ++ txL s).length ≤ 17592186044000))
  have HA := Lib.hid ha
  have HF := Lib.hid hF2
  have HN := Lib.hid hn
  have HNL := Lib.hid hn9
  obtain ⟨G, hG⟩ : ∃ G, w.heap.size = G := ⟨_, rfl⟩
  have HGz := Lib.hid hG
  obtain ⟨F, hFe⟩ : ∃ F, D1 ++ (txL tn ++ (dig n ++ manyL colL cs)) = F := ⟨_, rfl⟩
  rw [hFe] at HF ⊢
  clear ha hl hF2 htl hn hn9 hi1 hD1 hG hFe
  go_enter Tryz.func38, Tryz.ntmps38
  go_wp2_with fail
  refine K0.mono ?_
  rintro e w1 ⟨v1, rfl, ho1, hT1⟩
  obtain ⟨e0, e1, e2, _, _, _, _, _, _⟩ := HT.out w1 hT1
  rw [HGz.out] at e0 e1 e2 HT
  have HT1 := Lib.hid hT1
  have KT1 := KT.out w1.drew v1 (out_drew ho1)
  obtain ⟨va1, vc1, hv1, _⟩ := ownsRow_form ho1.1
  generalize D1.length = m1 at hv1
  subst hv1
  clear ho1 hT1 K0 KT
  (try rw [HGz.out])
  go_wp2_with fail
  refine wp_region_mix (fun W => W.cell? ⟨G, 1, none⟩ = some (.string tn) ∧ W.cell? ⟨G, 2, none⟩ = some (.slice a1 n ac)) 11 [(true, 0), (true, 1), (true, 2), (true, 3), (true, 5), (true, 6), (true, 7), (true, 8), (true, 9), (false, 4), (false, 10), (false, 11)] (by kernel_rfl) (by decide +kernel) rfl (by decide +kernel) ⟨e1, e2⟩ ?_
  iterate 9
    refine wpMix_take (v := ?_) rfl rfl ?_ ?_
    rotate_left
    · (intro W hW; (try dsimp only at hW); go_simp) <;> with_reducible rfl
    simp only [Act.put, List.setIfInBounds_toArray, List.set_cons_zero, List.set_cons_succ]
  refine wpMix_run rfl ?_
  intro K hK
  go_wp2_with fail
  refine (KT1).mono ?_
  rintro e w2 ⟨v2, rfl, ho2, hT2⟩
  have hT2' := HT1.out.trans hT2
  have hc2 := HT.out w2 hT2'
  have KN2 := KN.out w2 v2 ho2
  go_wp2_with fail
  refine hK.out _ _ (fun _ => ⟨hc2.2.1, hc2.2.2.1⟩) ?_
  clear hK K
  refine wpMix_run rfl ?_
  intro K hK
  go_wp2_with fail
  refine (KN2).mono ?_
  rintro e w3 ⟨v3, rfl, ho3, hT3⟩
  have hT3' := hT2'.trans hT3
  have hc3 := HT.out w3 hT3'
  go_wp2_with fail
  refine hK.out _ _ (fun _ => ⟨hc3.2.1, hc3.2.2.1⟩) ?_
  clear hK K
  refine wpMix_run rfl ?_
  intro K hK
  go_wp2_with fail
  refine hK.out _ _ (fun _ => ⟨hc3.2.1, hc3.2.2.1⟩) ?_
  clear hK K
  refine wpMix_nil ?_
  obtain ⟨e0', _, e2', _⟩ := hc3
  have HO3 := Lib.hid ho3
  have HT3 := Lib.hid hT3'
  clear ho2 hT2 hT2' hc2 KN2 ho3 hT3 hT3' KT1 KN e0 e1 e2 HT1
  go_wp2_with fail
  clear e0' e2' HT
  go_loopw [3, 62] (fun s3 k W => ∃ (i : Nat) (v' : Value), k = .int .i64 i ∧ v' = s3 ∧ i ≤ n ∧ Hid (Out w W v' (((D1 ++ txL tn) ++ dig n) ++ manyL colL (cs.take i)))) (fun _ k _ => n - (RowKit.intOf k).toNat)
  case atStart => exact ⟨0, v3, rfl, rfl, Nat.zero_le _, Lib.hid (by simpa [manyL] using HO3.out)⟩
  case round =>
    clear HO3 HT3
    obtain ⟨i, v', rfl, rfl, hin, HS⟩ := hrel
    by_cases hlt : i < n
    · obtain ⟨⟨s, z⟩, hx⟩ : ∃ c, cs[i]? = some c := ⟨cs[i]'(HN.out ▸ hlt), List.getElem?_eq_getElem _⟩
      obtain ⟨ad, rfl, d0, d1⟩ := (HA.out.kept (kept_below HS.out.2)).at_ (i := i) (x := colC (s, z)) (by rw [List.getElem?_map, hx]; rfl)
      have b0 : (0 : Int) ≤ (i : Int) := Int.natCast_nonneg i
      have b1 : (i : Int) < (n : Int) := Int.ofNat_lt.2 hlt
      have hw64 := wi_next hlt HNL.out
      obtain ⟨r1, r2⟩ := HR.out i s z hx
      have hnx : ((D1 ++ txL tn) ++ dig n) ++ manyL colL (cs.take (i + 1)) = (((D1 ++ txL tn) ++ dig n) ++ manyL colL (cs.take i)) ++ txL s ++ inL z := by
        rw [many_take hx]
        simp only [colL, List.append_assoc]
      have HNX := Lib.hid hnx
      generalize ((D1 ++ txL tn) ++ dig n) ++ manyL colL (cs.take i) = X at *
      simp only [colC] at d0 d1
      have hwz := uN_wrap z
      obtain ⟨Gb, hGb⟩ : ∃ G, wr.heap.size = G := ⟨_, rfl⟩
      obtain ⟨W1, hW1⟩ : ∃ W1, wr.alloc (.cells #[.string s, .int .i64 z] 48) = W1 := ⟨_, rfl⟩
      have ST := Lib.hid (fun (V : World) (hV : Typ W1 V) => (by rw [← hW1] at hV; rw [← hGb]; exact two_typ (t := 48) (by decide) hV : V.cell? ⟨Gb, 0, none⟩ = some (.string s) ∧ V.cell? ⟨Gb, 1, none⟩ = some (.int .i64 z)))
      have O1 : Out w W1.drew v' X := by rw [← hW1]; exact out_drew (HS.out.typ _)
      have K1 := reftext_at O1 s r1
      have K2 := Lib.hid (fun (W : World) (v' : Value) (ho : Out w W v' (X ++ txL s)) => refput_at ho z r2)
      have q := ST.out W1 (Typ.refl _)
      obtain ⟨va, vc, hv, _⟩ := ownsRow_form O1.1
      generalize X.length = m3 at hv
      subst hv
      clear HS hnx r1 r2 hx O1
      go_wp2_with fail
      clear hW1 hGb d0 d1
      refine wp_region_mix (fun W => W.cell? ⟨Gb, 0, none⟩ = some (.string s) ∧ W.cell? ⟨Gb, 1, none⟩ = some (.int .i64 z)) 8 [(true, 0), (true, 1), (true, 2), (true, 4), (true, 5), (true, 6), (false, 3), (false, 7), (false, 8)] (by kernel_rfl) (by decide +kernel) rfl (by decide +kernel) q ?_
      iterate 6
        refine wpMix_take (v := ?_) rfl rfl ?_ ?_
        rotate_left
        · (intro W hW; (try dsimp only at hW); go_simp) <;> with_reducible rfl
        simp only [Act.put, List.setIfInBounds_toArray, List.set_cons_zero, List.set_cons_succ]
      refine wpMix_run rfl ?_
      intro K hK
      go_wp2_with fail
      refine (K1).mono ?_
      rintro e w2 ⟨v2, rfl, ho2, hT2⟩
      have hc2 := ST.out w2 (show Typ W1 w2 from hT2)
      have KN2 := K2.out w2 v2 ho2
      go_wp2_with fail
      refine hK.out _ _ (fun _ => hc2) ?_
      clear hK K
      refine wpMix_run rfl ?_
      intro K hK
      go_wp2_with fail
      refine (KN2).mono ?_
      rintro e w3 ⟨v3, rfl, ho3, hT3⟩
      have hc3 := ST.out w3 (Typ.trans (show Typ W1 w2 from hT2) hT3)
      go_wp2_with fail
      refine hK.out _ _ (fun _ => hc3) ?_
      clear hK K
      refine wpMix_run rfl ?_
      intro K hK
      go_wp2_with fail
      refine hK.out _ _ (fun _ => hc3) ?_
      clear hK K
      refine wpMix_nil ?_
      have HFIN : Hid (Out w w3 v3 (((D1 ++ txL tn) ++ dig n) ++ manyL colL (cs.take (i + 1)))) := Lib.hid (by rw [HNX.out]; exact ho3)
      clear ho2 hT2 hc2 KN2 ho3 hT3 hc3 K1 K2 ST HNX q hwz
      go_wp2_with fail
      go_roundw
      case rel => exact ⟨i + 1, v3, by go_num, rfl, hlt, HFIN⟩
      case measure => simp [RowKit.intOf]; omega
    · have hei : i = n := end_eq hin hlt
      have FIN : Hid (OwnP w F (.returned v') wr) := Lib.hid ⟨v', rfl, by
        rw [← HF.out]
        have := HS.out
        rw [hei, HN.out, List.take_length] at this
        rw [HN.out]
        exact this⟩
      clear HS HF
      go_wp2_with fail
      go_ret
      exact FIN.out
end Go.Proofs.YtehfoaicohnpfaaGreatDoor
/- The document's side of a record: what it writes of a rollup and of a batch. Conditions: at most 2^43 bytes. -/
set_option maxRecDepth 100000
namespace Go.Proofs.YtehfoaicohnpfaaGreatDoor
open Go.RowKit Go.Maps Go.Sort Go.Lib

set_option maxHeartbeats 12800000 in
theorem rwrite_2 {w : World} (tn rn rt nm : ByteArray) (ds : List ByteArray) (ms : List (Int × ByteArray)) (a1 b1 c1 d1 : Option Addr) (an ac bn bc cn cc dn dc : Nat) (hb : Holds w (.slice b1 bn bc) (strs ds)) (hc : Holds2 w (.slice c1 cn cc) (ms.map meaC)) (hbn : bn = ds.length) (hcn : cn = ms.length) (hb9 : bn ≤ 1000000000) (hc9 : cn ≤ 1000000000)
    (hl : (inL 2 ++ (txL rn ++ (txL rt ++ (dig bn ++ (manyL txL ds ++ (dig cn ++ manyL meaL ms)))))).length ≤ 8796093022208) :
    Calls Tryz.prog 38 #[.agg #[.int .i64 2, .string tn, .slice a1 an ac, .string rn, .string rt, .slice b1 bn bc, .slice c1 cn cc, .string nm, .slice d1 dn dc]] w (OwnP w (inL 2 ++ (txL rn ++ (txL rt ++ (dig bn ++ (manyL txL ds ++ (dig cn ++ manyL meaL ms))))))) := by
  simp only [List.length_append] at hl
  have htl := txL_len rn
  have htl2 := txL_len rt
  have hi1 : (inL 2).length ≤ 10 := inL_len 2
  have HT := Lib.hid (fun (V : World) (h : Typ (w.alloc (.cells #[.int .i64 2, .string tn, .slice a1 an ac, .string rn, .string rt, .slice b1 bn bc, .slice c1 cn cc, .string nm, .slice d1 dn dc] 44)) V) => box_typ (t := 44) (by decide) h)
  have K0 := refput_at ((Out.start w).typ (.cells #[.int .i64 2, .string tn, .slice a1 an ac, .string rn, .string rt, .slice b1 bn bc, .slice c1 cn cc, .string nm, .slice d1 dn dc] 44)) 2 (by simp)
  rw [List.nil_append, show uN 2 = 2 from rfl] at K0
  obtain ⟨D1, hD1⟩ : ∃ D, inL 2 = D := ⟨_, rfl⟩
  obtain ⟨X0, hX0⟩ : ∃ X, ((D1 ++ txL rn) ++ txL rt) ++ dig bn = X := ⟨_, rfl⟩
  obtain ⟨Y0, hY0⟩ : ∃ X, (X0 ++ manyL txL ds) ++ dig cn = X := ⟨_, rfl⟩
  have hF2 : Y0 ++ manyL meaL ms = inL 2 ++ (txL rn ++ (txL rt ++ (dig bn ++ (manyL txL ds ++ (dig cn ++ manyL meaL ms))))) := by rw [← hY0, ← hX0, hD1]; simp only [List.append_assoc]
  rw [hD1] at K0 hl hi1
  have hXl : X0.length = D1.length + (txL rn).length + (txL rt).length + (dig bn).length := by rw [← hX0]; simp only [List.length_append]
  have hYl : Y0.length = X0.length + (manyL txL ds).length + (dig cn).length := by rw [← hY0]; simp only [List.length_append]
  have hw1 : IntKind.u64.wrap 2 = 2 := rfl
  have hwn : IntKind.u64.wrap (bn : Int) = (bn : Int) := by rw [IntKind.wrap_u64]; omega
  have hwc : IntKind.u64.wrap (cn : Int) = (cn : Int) := by rw [IntKind.wrap_u64]; omega
  have KT := Lib.hid (fun (W : World) (v' : Value) (ho : Out w W v' D1) => reftext_at ho rn (by omega))
  have KT2 := Lib.hid (fun (W : World) (v' : Value) (ho : Out w W v' (D1 ++ txL rn)) => reftext_at ho rt (by rw [List.length_append]; omega))
  have KN := Lib.hid (fun (W : World) (v' : Value) (ho : Out w W v' ((D1 ++ txL rn) ++ txL rt)) => (by
    have := refput_at ho (bn : Int) (by rw [List.length_append, List.length_append]; omega)
    rw [inL_nat (by omega), uN_nat (by omega), hX0] at this
    exact this : Calls Tryz.prog 19 #[v', .int .u64 (bn : Int)] W (PutP w W X0)))
  have KM := Lib.hid (fun (W : World) (v' : Value) (ho : Out w W v' (X0 ++ manyL txL ds)) => (by
    have := refput_at ho (cn : Int) (by rw [List.length_append]; omega)
    rw [inL_nat (by omega), uN_nat (by omega), hY0] at this
    exact this : Calls Tryz.prog 19 #[v', .int .u64 (cn : Int)] W (PutP w W Y0)))
  have HR1 := Lib.hid (fun (i : Nat) (s : ByteArray) (hi : ds[i]? = some s) => (by
    have h1 := put_room (e := txL) hi
    have h2 := txL_len s
    rw [List.length_append]
    omega : (X0 ++ manyL txL (ds.take i)).length + s.size + 10 ≤ 17592186044000))
  have HR2 := Lib.hid (fun (i : Nat) (z : Int) (s : ByteArray) (hi : ms[i]? = some (z, s)) => (by
    have h1 := put_room (e := meaL) hi
    simp only [meaL, List.length_append] at h1
    have h2 := txL_len s
    have h3 := inL_len z
    simp only [List.length_append]
    exact ⟨by omega, by omega⟩ : (Y0 ++ manyL meaL (ms.take i)).length ≤ 17592186044000 ∧ ((Y0 ++ manyL meaL (ms.take i)) ++ inL z).length + s.size + 10 ≤ 17592186044000))
  have HA := Lib.hid hb
  have HC := Lib.hid hc
  have HF := Lib.hid hF2
  have HN := Lib.hid hbn
  have HM := Lib.hid hcn
  have HNL := Lib.hid hb9
  have HML := Lib.hid hc9
  obtain ⟨G, hG⟩ : ∃ G, w.heap.size = G := ⟨_, rfl⟩
  have HGz := Lib.hid hG
  obtain ⟨F, hFe⟩ : ∃ F, inL 2 ++ (txL rn ++ (txL rt ++ (dig bn ++ (manyL txL ds ++ (dig cn ++ manyL meaL ms))))) = F := ⟨_, rfl⟩
  rw [hFe] at HF ⊢
  clear hb hc hl hF2 htl htl2 hbn hcn hb9 hc9 hi1 hD1 hG hFe hX0 hY0 hXl hYl
  go_enter Tryz.func38, Tryz.ntmps38
  go_wp2_with fail
  refine K0.mono ?_
  rintro e w1 ⟨v1, rfl, ho1, hT1⟩
  have hc1 := HT.out w1 hT1
  rw [HGz.out] at hc1 HT
  obtain ⟨e0, _, _, e3, e4, e5, e6, _, _⟩ := hc1
  have HT1 := Lib.hid hT1
  have KT1 := KT.out w1.drew v1 (out_drew ho1)
  obtain ⟨va1, vc1, hv1, _⟩ := ownsRow_form ho1.1
  generalize D1.length = m1 at hv1
  subst hv1
  clear ho1 hT1 K0 KT
  (try rw [HGz.out])
  go_wp2_with fail
  refine wp_region_mix (fun W => W.cell? ⟨G, 3, none⟩ = some (.string rn) ∧ W.cell? ⟨G, 4, none⟩ = some (.string rt) ∧ W.cell? ⟨G, 5, none⟩ = some (.slice b1 bn bc)) 15 [(true, 0), (true, 1), (true, 2), (true, 3), (true, 5), (true, 6), (true, 7), (true, 9), (true, 10), (true, 11), (true, 12), (true, 13), (false, 4), (false, 8), (false, 14), (false, 15)] (by kernel_rfl) (by decide +kernel) rfl (by decide +kernel) ⟨e3, e4, e5⟩ ?_
  iterate 12
    refine wpMix_take (v := ?_) rfl rfl ?_ ?_
    rotate_left
    · (intro W hW; (try dsimp only at hW); go_simp) <;> with_reducible rfl
    simp only [Act.put, List.setIfInBounds_toArray, List.set_cons_zero, List.set_cons_succ]
  refine wpMix_run rfl ?_
  intro K hK
  go_wp2_with fail
  refine (KT1).mono ?_
  rintro e w2 ⟨v2, rfl, ho2, hT2⟩
  have hT2' := HT1.out.trans hT2
  have hc2 := HT.out w2 hT2'
  have KTa := KT2.out w2 v2 ho2
  go_wp2_with fail
  refine hK.out _ _ (fun _ => ⟨hc2.2.2.2.1, hc2.2.2.2.2.1, hc2.2.2.2.2.2.1⟩) ?_
  clear hK K
  refine wpMix_run rfl ?_
  intro K hK
  go_wp2_with fail
  refine (KTa).mono ?_
  rintro e w3 ⟨v3, rfl, ho3, hT3⟩
  have hT3' := hT2'.trans hT3
  have hc3 := HT.out w3 hT3'
  have KNa := KN.out w3 v3 ho3
  go_wp2_with fail
  refine hK.out _ _ (fun _ => ⟨hc3.2.2.2.1, hc3.2.2.2.2.1, hc3.2.2.2.2.2.1⟩) ?_
  clear hK K
  refine wpMix_run rfl ?_
  intro K hK
  go_wp2_with fail
  refine (KNa).mono ?_
  rintro e w4 ⟨v4, rfl, ho4, hT4⟩
  have hT4' := hT3'.trans hT4
  have hc4 := HT.out w4 hT4'
  go_wp2_with fail
  refine hK.out _ _ (fun _ => ⟨hc4.2.2.2.1, hc4.2.2.2.2.1, hc4.2.2.2.2.2.1⟩) ?_
  clear hK K
  refine wpMix_run rfl ?_
  intro K hK
  go_wp2_with fail
  refine hK.out _ _ (fun _ => ⟨hc4.2.2.2.1, hc4.2.2.2.2.1, hc4.2.2.2.2.2.1⟩) ?_
  clear hK K
  refine wpMix_nil ?_
  obtain ⟨_, _, _, _, _, e5', _, _, _⟩ := hc4
  have HO4 := Lib.hid ho4
  have HT4 := Lib.hid hT4'
  clear ho2 hT2 hT2' hc2 KTa ho3 hT3 hT3' hc3 KNa ho4 hT4 hT4' KT1 KT2 KN e0 e3 e4 e5 e6 HT1
  go_wp2_with fail
  clear e5'
  go_loopw [3, 96] (fun s3 k W => ∃ (i : Nat) (v' : Value), k = .int .i64 i ∧ v' = s3 ∧ i ≤ bn ∧ Hid (Out w W v' (X0 ++ manyL txL (ds.take i)) ∧ Typ (w.alloc (.cells #[.int .i64 2, .string tn, .slice a1 an ac, .string rn, .string rt, .slice b1 bn bc, .slice c1 cn cc, .string nm, .slice d1 dn dc] 44)) W)) (fun _ k _ => bn - (RowKit.intOf k).toNat)
  case atStart => exact ⟨0, v4, rfl, rfl, Nat.zero_le _, Lib.hid ⟨by simpa [manyL] using HO4.out, HT4.out⟩⟩
  case round =>
    clear HO4 HT4
    obtain ⟨i, v', rfl, rfl, hin, HS⟩ := hrel
    by_cases hlt : i < bn
    · obtain ⟨s, hx⟩ : ∃ s, ds[i]? = some s := ⟨ds[i]'(HN.out ▸ hlt), List.getElem?_eq_getElem _⟩
      have HH := HA.out.kept (kept_below HS.out.1.2)
      obtain ⟨ad, rfl⟩ := HH.ptr (by omega)
      have d0 := HH.cell (strs_at hx)
      have b0 : (0 : Int) ≤ (i : Int) := Int.natCast_nonneg i
      have b1' : (i : Int) < (bn : Int) := Int.ofNat_lt.2 hlt
      have hw64 := wi_next hlt HNL.out
      have KX := reftext_at HS.out.1 s (HR1.out i s hx)
      have HNX := Lib.hid (show X0 ++ manyL txL (ds.take (i + 1)) = (X0 ++ manyL txL (ds.take i)) ++ txL s by rw [many_take hx, List.append_assoc])
      have HTW := Lib.hid HS.out.2
      obtain ⟨va, vc, hv, _⟩ := ownsRow_form HS.out.1.1
      generalize (X0 ++ manyL txL (ds.take i)).length = m3 at hv
      subst hv
      clear HS hx HH
      go_wp2_with fail
      refine KX.mono ?_
      rintro e w5 ⟨v5, rfl, ho5, hT5⟩
      have HFIN : Hid (Out w w5 v5 (X0 ++ manyL txL (ds.take (i + 1))) ∧ Typ (w.alloc (.cells #[.int .i64 2, .string tn, .slice a1 an ac, .string rn, .string rt, .slice (some ad) bn bc, .slice c1 cn cc, .string nm, .slice d1 dn dc] 44)) w5) := Lib.hid ⟨by rw [HNX.out]; exact ho5, HTW.out.trans hT5⟩
      clear ho5 hT5 KX HTW
      go_wp2_with fail
      go_roundw
      case rel => exact ⟨i + 1, v5, by go_num, rfl, hlt, HFIN⟩
      case measure => simp [RowKit.intOf]; omega
    · have hei : i = bn := end_eq hin hlt
      have hO : Out w wr v' (X0 ++ manyL txL ds) := by
        have := HS.out.1
        rw [hei, HN.out, List.take_length] at this
        exact this
      have hc5 := HT.out wr HS.out.2
      obtain ⟨_, _, _, _, _, _, e6, _, _⟩ := hc5
      have KMa := KM.out wr v' hO
      have HTW := Lib.hid HS.out.2
      obtain ⟨va, vc, hv, _⟩ := ownsRow_form hO.1
      generalize (X0 ++ manyL txL ds).length = m3 at hv
      subst hv
      clear HS hO KM
      go_wp2_with fail
      refine KMa.mono ?_
      rintro e w6 ⟨v6, rfl, ho6, hT6⟩
      have hc6 := HT.out w6 (HTW.out.trans hT6)
      obtain ⟨_, _, _, _, _, _, e6', _, _⟩ := hc6
      have HO6 := Lib.hid ho6
      clear ho6 hT6 KMa e6 HTW HT
      go_wp2_with fail
      clear e6'
      go_loopw [3, 115] (fun s3 k W => ∃ (j : Nat) (v' : Value), k = .int .i64 j ∧ v' = s3 ∧ j ≤ cn ∧ Hid (Out w W v' (Y0 ++ manyL meaL (ms.take j)))) (fun _ k _ => cn - (RowKit.intOf k).toNat)
      case atStart => exact ⟨0, v6, rfl, rfl, Nat.zero_le _, Lib.hid (by simpa [manyL] using HO6.out)⟩
      case round =>
        clear HO6
        obtain ⟨j, v', rfl, rfl, hjn, HS⟩ := hrel
        by_cases hjt : j < cn
        · obtain ⟨⟨z, s⟩, hx⟩ : ∃ c, ms[j]? = some c := ⟨ms[j]'(HM.out ▸ hjt), List.getElem?_eq_getElem _⟩
          obtain ⟨ad, rfl, d0, d1'⟩ := (HC.out.kept (kept_below HS.out.2)).at_ (i := j) (x := meaC (z, s)) (by rw [List.getElem?_map, hx]; rfl)
          have b0 : (0 : Int) ≤ (j : Int) := Int.natCast_nonneg j
          have b1' : (j : Int) < (cn : Int) := Int.ofNat_lt.2 hjt
          have hw64 := wi_next hjt HML.out
          obtain ⟨r1, r2⟩ := HR2.out j z s hx
          have hnx : Y0 ++ manyL meaL (ms.take (j + 1)) = (Y0 ++ manyL meaL (ms.take j)) ++ inL z ++ txL s := by
            rw [many_take hx]
            simp only [meaL, List.append_assoc]
          have HNX := Lib.hid hnx
          generalize Y0 ++ manyL meaL (ms.take j) = X at *
          simp only [meaC] at d0 d1'
          have hwz := uN_wrap z
          obtain ⟨Gb, hGb⟩ : ∃ G, wr.heap.size = G := ⟨_, rfl⟩
          obtain ⟨W1, hW1⟩ : ∃ W1, wr.alloc (.cells #[.int .i64 z, .string s] 78) = W1 := ⟨_, rfl⟩
          have ST := Lib.hid (fun (V : World) (hV : Typ W1 V) => (by rw [← hW1] at hV; rw [← hGb]; exact two_typ (t := 78) (by decide) hV : V.cell? ⟨Gb, 0, none⟩ = some (.int .i64 z) ∧ V.cell? ⟨Gb, 1, none⟩ = some (.string s)))
          have O1 : Out w W1.drew v' X := by rw [← hW1]; exact out_drew (HS.out.typ _)
          have K1 := refput_at O1 z r1
          have K2 := Lib.hid (fun (W : World) (v' : Value) (ho : Out w W v' (X ++ inL z)) => reftext_at ho s r2)
          have q := ST.out W1 (Typ.refl _)
          obtain ⟨va, vc, hv, _⟩ := ownsRow_form O1.1
          generalize X.length = m3 at hv
          subst hv
          clear HS hnx r1 r2 hx O1
          go_wp2_with fail
          clear hW1 hGb d0 d1'
          refine wp_region_mix (fun W => W.cell? ⟨Gb, 0, none⟩ = some (.int .i64 z) ∧ W.cell? ⟨Gb, 1, none⟩ = some (.string s)) 8 [(true, 0), (true, 1), (true, 2), (true, 3), (true, 5), (true, 6), (false, 4), (false, 7), (false, 8)] (by kernel_rfl) (by decide +kernel) rfl (by decide +kernel) q ?_
          iterate 6
            refine wpMix_take (v := ?_) rfl rfl ?_ ?_
            rotate_left
            · (intro W hW; (try dsimp only at hW); go_simp) <;> with_reducible rfl
            simp only [Act.put, List.setIfInBounds_toArray, List.set_cons_zero, List.set_cons_succ]
          refine wpMix_run rfl ?_
          intro K hK
          go_wp2_with fail
          refine (K1).mono ?_
          rintro e w2 ⟨v2, rfl, ho2, hT2⟩
          have hc2 := ST.out w2 (show Typ W1 w2 from hT2)
          have KN2 := K2.out w2 v2 ho2
          go_wp2_with fail
          refine hK.out _ _ (fun _ => hc2) ?_
          clear hK K
          refine wpMix_run rfl ?_
          intro K hK
          go_wp2_with fail
          refine (KN2).mono ?_
          rintro e w3 ⟨v3, rfl, ho3, hT3⟩
          have hc3 := ST.out w3 (Typ.trans (show Typ W1 w2 from hT2) hT3)
          go_wp2_with fail
          refine hK.out _ _ (fun _ => hc3) ?_
          clear hK K
          refine wpMix_run rfl ?_
          intro K hK
          go_wp2_with fail
          refine hK.out _ _ (fun _ => hc3) ?_
          clear hK K
          refine wpMix_nil ?_
          have HFIN : Hid (Out w w3 v3 (Y0 ++ manyL meaL (ms.take (j + 1)))) := Lib.hid (by rw [HNX.out]; exact ho3)
          clear ho2 hT2 hc2 KN2 ho3 hT3 hc3 K1 K2 ST HNX q hwz
          go_wp2_with fail
          go_roundw
          case rel => exact ⟨j + 1, v3, by go_num, rfl, hjt, HFIN⟩
          case measure => simp [RowKit.intOf]; omega
        · have hej : j = cn := end_eq hjn hjt
          have FIN : Hid (OwnP w F (.returned v') wr) := Lib.hid ⟨v', rfl, by
            rw [← HF.out]
            have := HS.out
            rw [hej, HM.out, List.take_length] at this
            exact this⟩
          clear HS HF
          go_wp2_with fail
          go_ret
          exact FIN.out
set_option maxHeartbeats 12800000 in
theorem rwrite_3 {w : World} (tn rn rt nm : ByteArray) (ws : List (List VV)) (a1 b1 c1 d1 : Option Addr) (an ac bn bc cn cc dn dc : Nat) (hd : RowsH w (.slice d1 dn dc) ws) (hi : ∀ r ∈ ws, ∀ x ∈ r, x.inI) (hr : ∀ r ∈ ws, r.length ≤ 1000000000) (hdn : dn = ws.length) (hd9 : dn ≤ 1000000000)
    (hl : (inL 3 ++ (txL nm ++ (dig dn ++ manyL rowL ws))).length ≤ 8796093022208) :
    Calls Tryz.prog 38 #[.agg #[.int .i64 3, .string tn, .slice a1 an ac, .string rn, .string rt, .slice b1 bn bc, .slice c1 cn cc, .string nm, .slice d1 dn dc]] w (OwnP w (inL 3 ++ (txL nm ++ (dig dn ++ manyL rowL ws)))) := by
  have hF2 : ((inL 3 ++ txL nm) ++ dig dn) ++ manyL rowL ws = inL 3 ++ (txL nm ++ (dig dn ++ manyL rowL ws)) := by simp only [List.append_assoc]
  simp only [List.length_append] at hl
  have htl := txL_len nm
  have hi1 : (inL 3).length ≤ 10 := inL_len 3
  have HT := Lib.hid (fun (V : World) (h : Typ (w.alloc (.cells #[.int .i64 3, .string tn, .slice a1 an ac, .string rn, .string rt, .slice b1 bn bc, .slice c1 cn cc, .string nm, .slice d1 dn dc] 44)) V) => box_typ (t := 44) (by decide) h)
  have K0 := refput_at ((Out.start w).typ (.cells #[.int .i64 3, .string tn, .slice a1 an ac, .string rn, .string rt, .slice b1 bn bc, .slice c1 cn cc, .string nm, .slice d1 dn dc] 44)) 3 (by simp)
  rw [List.nil_append, show uN 3 = 3 from rfl] at K0
  obtain ⟨D1, hD1⟩ : ∃ D, inL 3 = D := ⟨_, rfl⟩
  rw [hD1] at K0 hF2 hl hi1 ⊢
  have hw1 : IntKind.u64.wrap 3 = 3 := rfl
  have hwn : IntKind.u64.wrap (dn : Int) = (dn : Int) := by rw [IntKind.wrap_u64]; omega
  obtain ⟨X0, hX0⟩ : ∃ X, (D1 ++ txL nm) ++ dig dn = X := ⟨_, rfl⟩
  have hXl : X0.length = D1.length + (txL nm).length + (dig dn).length := by rw [← hX0]; simp only [List.length_append]
  have KT := Lib.hid (fun (W : World) (v' : Value) (ho : Out w W v' D1) => reftext_at ho nm (by omega))
  have KN := Lib.hid (fun (W : World) (v' : Value) (ho : Out w W v' (D1 ++ txL nm)) => (by
    have := refput_at ho (dn : Int) (by rw [List.length_append]; omega)
    rw [inL_nat (by omega), uN_nat (by omega), hX0] at this
    exact this : Calls Tryz.prog 19 #[v', .int .u64 (dn : Int)] W (PutP w W X0)))
  have HR := Lib.hid (fun (i : Nat) (r : List VV) (hi : ws[i]? = some r) => (by
    have h1 := put_room (e := rowL) hi
    have h2 := rowL_len r
    have h3 : (rowL r).length = (dig (bytesV r).length).length + (bytesV r).length := by unfold rowL blL; rw [List.length_append]
    have h4 := dig_len10 (u := (bytesV r).length) (by omega)
    simp only [List.length_append]
    exact ⟨by omega, by omega, by omega⟩ : (X0 ++ manyL rowL (ws.take i)).length ≤ 17592186044000 ∧ ((X0 ++ manyL rowL (ws.take i)) ++ dig (bytesV r).length).length + (bytesV r).length ≤ 17592186044416 ∧ (bytesV r).length < 9223372036854775808))
  rw [hX0] at hF2
  have HD := Lib.hid hd
  have HI := Lib.hid hi
  have HRL := Lib.hid hr
  have HF := Lib.hid hF2
  have HN := Lib.hid hdn
  have HNL := Lib.hid hd9
  obtain ⟨G, hG⟩ : ∃ G, w.heap.size = G := ⟨_, rfl⟩
  have HGz := Lib.hid hG
  obtain ⟨F, hFe⟩ : ∃ F, D1 ++ (txL nm ++ (dig dn ++ manyL rowL ws)) = F := ⟨_, rfl⟩
  rw [hFe] at HF ⊢
  clear hd hi hr hl hF2 htl hdn hd9 hi1 hD1 hG hFe hX0 hXl
  go_enter Tryz.func38, Tryz.ntmps38
  go_wp2_with fail
  refine K0.mono ?_
  rintro e w1 ⟨v1, rfl, ho1, hT1⟩
  have hc1 := HT.out w1 hT1
  rw [HGz.out] at hc1 HT
  obtain ⟨e0, _, _, _, _, _, _, e7, e8⟩ := hc1
  have HT1 := Lib.hid hT1
  have KT1 := KT.out w1.drew v1 (out_drew ho1)
  obtain ⟨va1, vc1, hv1, _⟩ := ownsRow_form ho1.1
  generalize D1.length = m1 at hv1
  subst hv1
  clear ho1 hT1 K0 KT
  (try rw [HGz.out])
  go_wp2_with fail
  refine wp_region_mix (fun W => W.cell? ⟨G, 7, none⟩ = some (.string nm) ∧ W.cell? ⟨G, 8, none⟩ = some (.slice d1 dn dc)) 9 [(true, 0), (true, 1), (true, 2), (true, 4), (true, 5), (true, 6), (true, 7), (false, 3), (false, 8), (false, 9)] (by kernel_rfl) (by decide +kernel) rfl (by decide +kernel) ⟨e7, e8⟩ ?_
  iterate 7
    refine wpMix_take (v := ?_) rfl rfl ?_ ?_
    rotate_left
    · (intro W hW; (try dsimp only at hW); go_simp) <;> with_reducible rfl
    simp only [Act.put, List.setIfInBounds_toArray, List.set_cons_zero, List.set_cons_succ]
  refine wpMix_run rfl ?_
  intro K hK
  go_wp2_with fail
  refine (KT1).mono ?_
  rintro e w2 ⟨v2, rfl, ho2, hT2⟩
  have hT2' := HT1.out.trans hT2
  have hc2 := HT.out w2 hT2'
  have KNa := KN.out w2 v2 ho2
  go_wp2_with fail
  refine hK.out _ _ (fun _ => ⟨hc2.2.2.2.2.2.2.2.1, hc2.2.2.2.2.2.2.2.2⟩) ?_
  clear hK K
  refine wpMix_run rfl ?_
  intro K hK
  go_wp2_with fail
  refine (KNa).mono ?_
  rintro e w3 ⟨v3, rfl, ho3, hT3⟩
  have hT3' := hT2'.trans hT3
  have hc3 := HT.out w3 hT3'
  go_wp2_with fail
  refine hK.out _ _ (fun _ => ⟨hc3.2.2.2.2.2.2.2.1, hc3.2.2.2.2.2.2.2.2⟩) ?_
  clear hK K
  refine wpMix_run rfl ?_
  intro K hK
  go_wp2_with fail
  refine hK.out _ _ (fun _ => ⟨hc3.2.2.2.2.2.2.2.1, hc3.2.2.2.2.2.2.2.2⟩) ?_
  clear hK K
  refine wpMix_nil ?_
  obtain ⟨_, _, _, _, _, _, _, _, e8'⟩ := hc3
  have HO3 := Lib.hid ho3
  clear ho2 hT2 hT2' hc2 KNa ho3 hT3 hT3' KT1 KN e0 e7 e8 HT1 HT
  go_wp2_with fail
  clear e8'
  go_loopw [3, 31] (fun s3 k W => ∃ (i : Nat) (v' : Value), k = .int .i64 i ∧ v' = s3 ∧ i ≤ dn ∧ Hid (Out w W v' (X0 ++ manyL rowL (ws.take i)))) (fun _ k _ => dn - (RowKit.intOf k).toNat)
  case atStart => exact ⟨0, v3, rfl, rfl, Nat.zero_le _, Lib.hid (by simpa [manyL] using HO3.out)⟩
  case round =>
    clear HO3
    obtain ⟨i, v', rfl, rfl, hin, HS⟩ := hrel
    by_cases hlt : i < dn
    · obtain ⟨r, hx⟩ : ∃ c, ws[i]? = some c := ⟨ws[i]'(HN.out ▸ hlt), List.getElem?_eq_getElem _⟩
      obtain ⟨ad, u, k, rfl, d0, hvr⟩ := (HD.out.kept (kept_below HS.out.2)).at_ hx
      have b0 : (0 : Int) ≤ (i : Int) := Int.natCast_nonneg i
      have b1' : (i : Int) < (dn : Int) := Int.ofNat_lt.2 hlt
      have hw64 := wi_next hlt HNL.out
      obtain ⟨r1, r2, r3⟩ := HR.out i r hx
      have hmem := List.mem_of_getElem? hx
      have KB := refvbytes_any hvr (HRL.out r hmem) (HI.out r hmem)
      have HNX := Lib.hid (show X0 ++ manyL rowL (ws.take (i + 1)) = (X0 ++ manyL rowL (ws.take i)) ++ dig (bytesV r).length ++ bytesV r by rw [many_take hx]; simp only [rowL, blL, List.append_assoc])
      generalize X0 ++ manyL rowL (ws.take i) = X at *
      generalize bytesV r = BV at *
      generalize r.length = rl at *
      obtain ⟨bl, hbl⟩ : ∃ n, BV.length = n := ⟨_, rfl⟩
      have hwb : IntKind.u64.wrap (bl : Int) = (bl : Int) := by rw [IntKind.wrap_u64]; omega
      have HX := Lib.hid HS.out
      have HBL := Lib.hid (And.intro hbl (And.intro r1 (And.intro r2 r3)))
      obtain ⟨va, vc, hv, _⟩ := ownsRow_form HS.out.1
      generalize X.length = m3 at hv
      subst hv
      clear HS hx hvr hmem hbl r1 r2 r3
      go_wp2_with fail
      refine KB.mono ?_
      rintro e w4 ⟨v4, rfl, ho4, hb4⟩
      have hX4 := HX.out.next hb4
      have KP := hX4.rput bl (by have := HBL.out.2.2.2; have := HBL.out.1; omega) HBL.out.2.1
      have hO4 : Holds w4 v4 (u8s BV) := Holds.of_row (by rw [u8s_len]; exact ho4)
      have HO4 := Lib.hid hO4
      obtain ⟨va4, vc4, hv4, _⟩ := ownsRow_form ho4
      rw [HBL.out.1] at hv4
      subst hv4
      clear ho4 hO4 hX4 KB hb4
      go_wp2_with fail
      refine KP.mono ?_
      rintro e w5 ⟨v5, rfl, ho5, hb5⟩
      have ho5 := ho5.out
      obtain ⟨v6, w6, r6, o6, g6, _⟩ := app8 ho5.1 ho5.2.size (HO4.out.below hb5) (by have h := HBL.out.2.2.1; rw [HBL.out.1] at h ⊢; exact h)
      have HFIN : Hid (Out w w6 v6 (X0 ++ manyL rowL (ws.take (i + 1)))) := Lib.hid ⟨by rw [HNX.out, HBL.out.1]; exact o6, ho5.2.trans (below_grown g6 ho5.2.size (ownsRow_ge ho5.1))⟩
      have R6 := Lib.hid r6
      obtain ⟨va5, vc5, hv5, _⟩ := ownsRow_form ho5.1
      generalize (X ++ dig bl).length = m5 at hv5
      subst hv5
      clear ho5 hb5 o6 g6 r6 KP
      go_wp2_with (at_builtin; refine wpList_append_run rfl _ _ 22 rfl rfl rfl (R6.out _) ?_)
      go_roundw
      case rel => exact ⟨i + 1, v6, by go_num, rfl, hlt, HFIN⟩
      case measure => simp [RowKit.intOf]; omega
    · have hei : i = dn := end_eq hin hlt
      have FIN : Hid (OwnP w F (.returned v') wr) := Lib.hid ⟨v', rfl, by
        rw [← HF.out]
        have := HS.out
        rw [hei, HN.out, List.take_length] at this
        exact this⟩
      clear HS HF
      go_wp2_with fail
      go_ret
      exact FIN.out
end Go.Proofs.YtehfoaicohnpfaaGreatDoor
/- The document's side of a record: its bytes; the law's own 'same'. Conditions: as stated. -/
set_option maxRecDepth 100000
namespace Go.Proofs.YtehfoaicohnpfaaGreatDoor
open Go.RowKit Go.Maps Go.Sort Go.Lib

theorem rwrite_all {w : World} {x : RV} {a b c d : Value} (h : RecH w x a b c d) (hi : x.inI) (hg : goodR x = true) (hl : (bytR x).length ≤ 8796093022208) :
    Calls Tryz.prog 38 #[recV x a b c d] w (OwnP w (bytR x)) := by
  have h' := h
  obtain ⟨a1, ac, b1, bc, c1, cc, d1, dc, rfl, rfl, rfl, rfl⟩ := h'.form
  unfold recV
  rcases good_shape hg with ⟨e, g1, g2⟩ | ⟨e, g1, g2⟩ | ⟨e, g1⟩
  · have hk : x.k = 1 := by rw [e]; rfl
    have eb : bytR x = inL 1 ++ (txL x.tn ++ (dig x.tc.length ++ manyL colL x.tc)) := by unfold bytR bodL tabL; rw [if_pos hk, hk]
    rw [eb] at hl ⊢
    rw [hk]
    exact rwrite_1 _ _ _ _ _ _ _ _ _ _ _ _ _ _ _ _ _ h.tc rfl (by omega) hl
  · have hk : x.k = 2 := by rw [e]; rfl
    have eb : bytR x = inL 2 ++ (txL x.rn ++ (txL x.rt ++ (dig x.rd.length ++ (manyL txL x.rd ++ (dig x.rm.length ++ manyL meaL x.rm))))) := by unfold bytR bodL rolL; rw [if_neg (by omega), if_pos hk, hk]
    rw [eb] at hl ⊢
    rw [hk]
    exact rwrite_2 _ _ _ _ _ _ _ _ _ _ _ _ _ _ _ _ _ _ h.rd h.rm rfl rfl (by omega) (by omega) hl
  · have hk : x.k = 3 := by rw [e]; rfl
    have eb : bytR x = inL 3 ++ (txL x.nm ++ (dig x.ws.length ++ manyL rowL x.ws)) := by unfold bytR bodL batL; rw [if_neg (by omega), if_neg (by omega), hk]
    obtain ⟨n, n1, n8, w1, w2, hr⟩ := bat_iff.1 g1
    rw [eb] at hl ⊢
    rw [hk]
    exact rwrite_3 _ _ _ _ _ _ _ _ _ _ _ _ _ _ _ _ _ h.ws hi.ws (fun r hrm => by have := (hr r hrm).1; omega) rfl (by omega) hl
theorem boxN {t : TypeId} {V : World} {n : Nat} {k : Int} {s1 s2 s3 s4 : ByteArray} {a b c d : Value} (h : V.heap[n]? = some (.cells #[.int .i64 k, .string s1, a, .string s2, .string s3, b, c, .string s4, d] t (0, 0))) :
    V.cell? ⟨n, 0, none⟩ = some (.int .i64 k) ∧ V.cell? ⟨n, 1, none⟩ = some (.string s1) ∧ V.cell? ⟨n, 2, none⟩ = some a ∧ V.cell? ⟨n, 3, none⟩ = some (.string s2) ∧ V.cell? ⟨n, 4, none⟩ = some (.string s3) ∧ V.cell? ⟨n, 5, none⟩ = some b ∧ V.cell? ⟨n, 6, none⟩ = some c ∧ V.cell? ⟨n, 7, none⟩ = some (.string s4) ∧ V.cell? ⟨n, 8, none⟩ = some d := by
  refine ⟨?_, ?_, ?_, ?_, ?_, ?_, ?_, ?_, ?_⟩ <;> (rw [cell_of_row _ _ _ _ _ _ h]; rfl)
set_option maxHeartbeats 6400000 in
/-- a record in bytes, as the document tells it -/
theorem refbytes_all {w : World} {x : RV} {a b c d : Value} (h : RecH w x a b c d) (hi : x.inI) (hr : ∀ r ∈ x.ws, r.length ≤ 9223372036854775807) (hl : goodR x = true → (bytR x).length ≤ 8796093022208) :
    Calls Tryz.prog 20 #[recV x a b c d] w (BytP w x) := by
  have h' := h
  obtain ⟨a1, ac, b1, bc, c1, cc, d1, dc, rfl, rfl, rfl, rfl⟩ := h'.form
  obtain ⟨an, bn, cn, dn, ea, eb, ec, ed⟩ : ∃ an bn cn dn, x.tc.length = an ∧ x.rd.length = bn ∧ x.rm.length = cn ∧ x.ws.length = dn := ⟨_, _, _, _, rfl, rfl, rfl, rfl⟩
  have hb0 := below_o w (.cells #[.int .i64 x.k, .string x.tn, .slice a1 an ac, .string x.rn, .string x.rt, .slice b1 bn bc, .slice c1 cn cc, .string x.nm, .slice d1 dn dc] 44)
  have KG := refgood_all (h.below hb0) hi hr
  have HW := Lib.hid (fun (hg : goodR x = true) (V : World) (hb : Below w.heap.size w V) => rwrite_all (h.below hb) hi hg (hl hg))
  have hh0 := heap_alloc_new w (.cells #[.int .i64 x.k, .string x.tn, .slice a1 an ac, .string x.rn, .string x.rt, .slice b1 bn bc, .slice c1 cn cc, .string x.nm, .slice d1 dn dc] 44)
  have HH0 := Lib.hid hh0
  have HB0 := Lib.hid hb0
  unfold recV at *
  rw [ea, eb, ec, ed] at KG HW ⊢
  clear h hi hr hl hb0 hh0 ea eb ec ed
  cases hg : goodR x
  · have FIN := Lib.hid (fun (w' : World) (hb : Below w.heap.size w w') => (show BytP w x (.returned (.tuple #[.slice none 0 0, .int .i64 2])) w' from ⟨hb, .inl ⟨hg, rfl⟩⟩))
    rw [hg] at KG
    clear hg HW HH0
    go_enter Tryz.func20, Tryz.ntmps20
    go_wp2_with fail
    refine KG.mono ?_
    rintro e w1 ⟨rfl, hb1⟩
    have FI := FIN.out w1 (HB0.out.trans (hb1.mono HB0.out.size))
    clear hb1 KG
    go_wp2_with fail
    go_ret2
    exact FI
  · have KW := Lib.hid (HW.out hg)
    have FIN7 := Lib.hid (fun (w' : World) (hb : Below w.heap.size w w') (hl : 262144 < (bytR x).length) => (show BytP w x (.returned (.tuple #[.slice none 0 0, .int .i64 7])) w' from ⟨hb, .inr (.inl ⟨hg, hl, rfl⟩)⟩))
    have FIN0 := Lib.hid (fun (w' : World) (v : Value) (hb : Below w.heap.size w w') (hl : (bytR x).length ≤ 262144) (ho : w'.ownsRow w.heap.size 5 1 v (bytR x).length (u8s (bytR x))) => (show BytP w x (.returned (.tuple #[v, .int .i64 0])) w' from ⟨hb, .inr (.inr ⟨hg, hl, v, rfl, ho⟩)⟩))
    rw [hg] at KG
    clear hg HW
    go_enter Tryz.func20, Tryz.ntmps20
    go_wp2_with fail
    refine KG.mono ?_
    rintro e w1 ⟨rfl, hb1⟩
    obtain ⟨q0, q1, q2, q3, q4, q5, q6, q7, q8⟩ := boxN (n := w.heap.size) ((hb1.block _ (by simp)).trans HH0.out)
    have HB1 := Lib.hid (HB0.out.trans (hb1.mono HB0.out.size))
    have KW1 := KW.out w1 HB1.out
    clear hb1 KG KW HH0
    go_wp2_with fail
    refine KW1.mono ?_
    rintro e w2 ⟨v2, rfl, ho2, hb2⟩
    have HB2 := HB1.out.trans (hb2.mono HB1.out.size)
    have hos : w2.ownsRow w.heap.size 5 1 v2 (bytR x).length (u8s (bytR x)) := ownsRow_rebase ho2 (fun g hg => Nat.le_trans HB1.out.size (ho2.lt g hg).1)
    obtain ⟨v2a, v2c, hv2, _⟩ := ownsRow_form ho2
    by_cases hlen : 262144 < (bytR x).length
    · have FI := FIN7.out w2 HB2 hlen
      have t0 : decide ((262144 : Int) < ((bytR x).length : Int)) = true := decide_eq_true (by omega)
      generalize (bytR x).length = L at *
      subst hv2
      clear ho2 hb2 HB2 hos KW1 FIN0 FIN7 hlen
      go_wp2_with fail
      go_ret2
      exact FI
    · have FI := FIN0.out w2 v2 HB2 (by omega) hos
      have t0 : decide ((262144 : Int) < ((bytR x).length : Int)) = false := decide_eq_false (by omega)
      generalize (bytR x).length = L at *
      subst hv2
      clear ho2 hb2 HB2 hos KW1 FIN0 FIN7 hlen
      go_wp2_with fail
      go_ret2
      exact FI
set_option maxHeartbeats 6400000 in
/-- 'same' at a good record, twice -/
theorem same_good {w : World} {x : RV} {a b c d a' b' c' d' : Value} (h : RecH w x a b c d) (h' : RecH w x a' b' c' d') (hi : x.inI) (hg : goodR x = true) (hl : (bytR x).length ≤ 262144) (hr : ∀ r ∈ x.ws, r.length ≤ 9223372036854775807) :
    Calls Tryz.prog 10 #[recV x a b c d, recV x a' b' c' d'] w fun e w' => e = .returned (.bool true) ∧ Below w.heap.size w w' := by
  have hk := good_kind hg
  have g := h
  have g' := h'
  obtain ⟨a1, ac, b1, bc, c1, cc, d1, dc, rfl, rfl, rfl, rfl⟩ := g.form
  obtain ⟨a2, ac2, b2, bc2, c2, cc2, d2, dc2, rfl, rfl, rfl, rfl⟩ := g'.form
  obtain ⟨an, bn, cn, dn, ea, eb, ec, ed⟩ : ∃ an bn cn dn, x.tc.length = an ∧ x.rd.length = bn ∧ x.rm.length = cn ∧ x.ws.length = dn := ⟨_, _, _, _, rfl, rfl, rfl, rfl⟩
  have hb1 := below_o w (.cells #[.int .i64 x.k, .string x.tn, .slice a1 an ac, .string x.rn, .string x.rt, .slice b1 bn bc, .slice c1 cn cc, .string x.nm, .slice d1 dn dc] 43)
  have hb2 := hb1.alloc (by simp) (.cells #[.int .i64 x.k, .string x.tn, .slice a2 an ac2, .string x.rn, .string x.rt, .slice b2 bn bc2, .slice c2 cn cc2, .string x.nm, .slice d2 dn dc2] 44)
  have hq2 := heap_alloc_new (w.alloc (.cells #[.int .i64 x.k, .string x.tn, .slice a1 an ac, .string x.rn, .string x.rt, .slice b1 bn bc, .slice c1 cn cc, .string x.nm, .slice d1 dn dc] 43)) (.cells #[.int .i64 x.k, .string x.tn, .slice a2 an ac2, .string x.rn, .string x.rt, .slice b2 bn bc2, .slice c2 cn cc2, .string x.nm, .slice d2 dn dc2] 44)
  rw [show (w.alloc (.cells #[.int .i64 x.k, .string x.tn, .slice a1 an ac, .string x.rn, .string x.rt, .slice b1 bn bc, .slice c1 cn cc, .string x.nm, .slice d1 dn dc] 43)).heap.size = w.heap.size + 1 by simp] at hq2
  have HQ2 := Lib.hid hq2
  have HB0 := Lib.hid hb2
  have K1 := Lib.hid (fun (V : World) (hb : Below w.heap.size w V) => refbytes_all (h.below hb) hi hr (fun _ => by omega))
  have K2 := Lib.hid (fun (V : World) (hb : Below w.heap.size w V) => refbytes_all (h'.below hb) hi hr (fun _ => by omega))
  have KP := fun (V : World) => plain_any x.k x.tn x.rn x.rt x.nm a1 b1 c1 d1 an ac bn bc cn cc dn dc V
  have HG := Lib.hid hg
  have HL := Lib.hid hl
  have t0 : (x.k != x.k) = false := by simp
  have t1 : ((dn : Int) != (dn : Int)) = false := by simp
  have t2 : (x.k == 0) = false := by rw [beq_eq_false_iff_ne]; omega
  unfold recV at *
  rw [ea, eb, ec, ed] at K1 K2 ⊢
  clear h h' g g' hi hg hl hr hk hb1 hb2 hq2 ea eb ec ed
  generalize x.k = xk at *
  go_enter Tryz.func10, Tryz.ntmps10
  go_wp2_with fail
  refine (KP _).mono ?_
  rintro e w1 ⟨rfl, hb1⟩
  have HB1 := Lib.hid (HB0.out.trans (hb1.mono HB0.out.size))
  have hx1 := (hb1.block (w.heap.size + 1) (by simp)).trans HQ2.out
  have HX1 := Lib.hid hx1
  have KA := K1.out w1 HB1.out
  clear hb1 hx1 KP K1 HQ2
  go_wp2_with fail
  refine KA.mono ?_
  rintro e w2 ⟨hb2, hcase⟩
  rcases hcase with ⟨hx, _⟩ | ⟨_, hx, _⟩ | ⟨_, _, v2, rfl, ho2⟩
  · rw [HG.out] at hx; cases hx
  · exact absurd hx (by have := HL.out; omega)
  have hx2 := (hb2.block (w.heap.size + 1) (lt_of_heap HX1.out)).trans HX1.out
  obtain ⟨q0, q1, q2, q3, q4, q5, q6, q7, q8⟩ := boxN (n := w.heap.size + 1) hx2
  have HB2 := Lib.hid (HB1.out.trans (hb2.mono HB1.out.size))
  have KB := K2.out w2 HB2.out
  have HO2 : Hid (Holds w2 v2 (u8s (bytR x))) := Lib.hid (Holds.of_row (by rw [u8s_len]; exact ho2))
  clear hb2 ho2 hx2 KA K2
  go_wp2_with fail
  refine KB.mono ?_
  rintro e w3 ⟨hb3, hcase⟩
  rcases hcase with ⟨hx, _⟩ | ⟨_, hx, _⟩ | ⟨_, _, v3, rfl, ho3⟩
  · rw [HG.out] at hx; cases hx
  · exact absurd hx (by have := HL.out; omega)
  have FIN := HB2.out.trans (hb3.mono HB2.out.size)
  have KS := Same_any (HO2.out.below hb3) (Holds.of_row (by rw [u8s_len]; exact ho3) : Holds w3 v3 (u8s (bytR x)))
  rw [decide_eq_true rfl] at KS
  clear hb3 ho3 KB
  go_wp2_with fail
  refine KS.mono ?_
  rintro e w4 ⟨rfl, rfl⟩
  go_wp2_with fail
  go_ret
  exact ⟨rfl, FIN⟩
end Go.Proofs.YtehfoaicohnpfaaGreatDoor
