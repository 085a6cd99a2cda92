/- The texts RefD RefE RefF RecCutW RecCutX RecBulk CodecLaid, one behind the other; each one's own comment says what it holds. -/
import Derived.Test.YtkjdilhhdphjgaaDoorRecordCutsRowGG
import Derived.Test.YtkjdilhhdphjgaaDoorRecordCutsRowGC
import Derived.Test.YtkjdilhhdphjgaaDoorRecordCutsRowGD
import Derived.Test.YtkjdilhhdphjgaaDoorTells
import Derived.Test.YtkjdilhhdphjgaaDoorRecordCutsRowGF
import Derived.Test.YtkjdilhhdphjgaaDoorRows
import Derived.Test.YtkjdilhhdphjgaaDoorCodecSum
import Derived.Test.YtkjdilhhdphjgaaDoorTie
import Derived.ProofKit
import Derived.LaidMore
import Derived.Lay
import Derived.SevenTiedAt
import Derived.Stop.Joined
import Derived.ShutString
import Derived.ChangeOld
/- The document's side of a record: what it writes of a table. Conditions: at most 2^43 bytes. -/
set_option maxRecDepth 100000
namespace Go.Proofs.YtkjdilhhdphjgaaDoor
open Go.RowKit Go.Maps Go.Sort Go.Lib

theorem box_typ {t : TypeId} (ht : t ≠ 5) {w V : World} {k : Int} {s1 s2 s3 s4 : ByteArray} {a b c d : Value} (h : Typ (w.alloc (.cells #[.int .i64 k, .string s1, a, .string s2, .string s3, b, c, .string s4, d] t)) V) :
    V.cell? ⟨w.heap.size, 0, none⟩ = some (.int .i64 k) ∧ V.cell? ⟨w.heap.size, 1, none⟩ = some (.string s1) ∧ V.cell? ⟨w.heap.size, 2, none⟩ = some a ∧ V.cell? ⟨w.heap.size, 3, none⟩ = some (.string s2) ∧ V.cell? ⟨w.heap.size, 4, none⟩ = some (.string s3) ∧ V.cell? ⟨w.heap.size, 5, none⟩ = some b ∧ V.cell? ⟨w.heap.size, 6, none⟩ = some c ∧ V.cell? ⟨w.heap.size, 7, none⟩ = some (.string s4) ∧ V.cell? ⟨w.heap.size, 8, none⟩ = some d :=
  boxT (h.2 _ _ _ (heap_alloc_new w _) ht)
theorem typ_drew {a b : World} (h : Typ a b) : Typ a b.drew := h
theorem out_drew {w wr : World} {v : Value} {acc : List UInt8} (h : Out w wr v acc) : Out w wr.drew v acc := h.next (below_drew_v wr)
theorem two_typ {t : TypeId} (ht : t ≠ 5) {w V : World} {x y : Value} (h : Typ (w.alloc (.cells #[x, y] t)) V) : V.cell? ⟨w.heap.size, 0, none⟩ = some x ∧ V.cell? ⟨w.heap.size, 1, none⟩ = some y := by
  have hq := h.2 _ _ _ (heap_alloc_new w (.cells #[x, y] t)) ht
  exact ⟨by rw [cell_of_row _ _ _ _ _ _ hq]; rfl, by rw [cell_of_row _ _ _ _ _ _ hq]; rfl⟩
set_option maxHeartbeats 12800000 in
theorem rwrite_1 {w : World} (tn rn rt nm : ByteArray) (cs : List (ByteArray × Int)) (a1 b1 c1 d1 : Option Addr) (n ac bn bc cn cc dn dc : Nat) (ha : Holds2 w (.slice a1 n ac) (cs.map colC)) (hn : n = cs.length) (hn9 : n ≤ 1000000000) (hl : (inL 1 ++ (txL tn ++ (dig n ++ manyL colL cs))).length ≤ 8796093022208) :
    Calls Tryd.prog 28 #[.agg #[.int .i64 1, .string tn, .slice a1 n ac, .string rn, .string rt, .slice b1 bn bc, .slice c1 cn cc, .string nm, .slice d1 dn dc]] w (OwnP w (inL 1 ++ (txL tn ++ (dig n ++ manyL colL cs)))) := by
  have hF2 : ((inL 1 ++ txL tn) ++ dig n) ++ manyL colL cs = inL 1 ++ (txL tn ++ (dig n ++ manyL colL cs)) := by simp only [List.append_assoc]
  simp only [List.length_append] at hl
  have htl := txL_len tn
  have hi1 : (inL 1).length ≤ 10 := inL_len 1
  have HT := Lib.hid (fun (V : World) (h : Typ (w.alloc (.cells #[.int .i64 1, .string tn, .slice a1 n ac, .string rn, .string rt, .slice b1 bn bc, .slice c1 cn cc, .string nm, .slice d1 dn dc] 46)) V) => box_typ (t := 46) (by decide) h)
  have K0 := refput_at ((Out.start w).typ (.cells #[.int .i64 1, .string tn, .slice a1 n ac, .string rn, .string rt, .slice b1 bn bc, .slice c1 cn cc, .string nm, .slice d1 dn dc] 46)) 1 (by simp)
  rw [List.nil_append, show uN 1 = 1 from rfl] at K0
  obtain ⟨D1, hD1⟩ : ∃ D, inL 1 = D := ⟨_, rfl⟩
  rw [hD1] at K0 hF2 hl hi1 ⊢
  have hw1 : IntKind.u64.wrap 1 = 1 := rfl
  have hwn : IntKind.u64.wrap (n : Int) = (n : Int) := by rw [IntKind.wrap_u64]; omega
  have KT := Lib.hid (fun (W : World) (v' : Value) (ho : Out w W v' D1) => reftext_at ho tn (by omega))
  have KN := Lib.hid (fun (W : World) (v' : Value) (ho : Out w W v' (D1 ++ txL tn)) => (by
    have := refput_at ho (n : Int) (by rw [List.length_append]; omega)
    rw [inL_nat (by omega), uN_nat (by omega)] at this
    exact this : Calls Tryd.prog 37 #[v', .int .u64 (n : Int)] W (PutP w W (D1 ++ txL tn ++ dig n))))
  have HR := Lib.hid (fun (i : Nat) (s : ByteArray) (z : Int) (hi : cs[i]? = some (s, z)) => (by
    have h1 := put_room (e := colL) hi
    simp only [colL, List.length_append] at h1
    have h2 := txL_len s
    have h3 := inL_len z
    simp only [List.length_append]
    exact ⟨by omega, by omega⟩ : (((D1 ++ txL tn) ++ dig n) ++ manyL colL (cs.take i)).length + s.size + 10 ≤ 17592186044000 ∧ ((((D1 ++ txL tn) ++ dig n) ++ manyL colL (cs.take i)) ++ txL s).length ≤ 17592186044000))
  have HA := Lib.hid ha
  have HF := Lib.hid hF2
  have HN := Lib.hid hn
  have HNL := Lib.hid hn9
  obtain ⟨G, hG⟩ : ∃ G, w.heap.size = G := ⟨_, rfl⟩
  have HGz := Lib.hid hG
  obtain ⟨F, hFe⟩ : ∃ F, D1 ++ (txL tn ++ (dig n ++ manyL colL cs)) = F := ⟨_, rfl⟩
  rw [hFe] at HF ⊢
  clear ha hl hF2 htl hn hn9 hi1 hD1 hG hFe
  go_enter Tryd.func28, Tryd.ntmps28
  go_wp2_with fail
  refine K0.mono ?_
  rintro e w1 ⟨v1, rfl, ho1, hT1⟩
  obtain ⟨e0, e1, e2, _, _, _, _, _, _⟩ := HT.out w1 hT1
  rw [HGz.out] at e0 e1 e2 HT
  have HT1 := Lib.hid hT1
  have KT1 := KT.out w1.drew v1 (out_drew ho1)
  obtain ⟨va1, vc1, hv1, _⟩ := ownsRow_form ho1.1
  generalize D1.length = m1 at hv1
  subst hv1
  clear ho1 hT1 K0 KT
  (try rw [HGz.out])
  go_wp2_with fail
  refine wp_region_mix (fun W => W.cell? ⟨G, 1, none⟩ = some (.string tn) ∧ W.cell? ⟨G, 2, none⟩ = some (.slice a1 n ac)) 11 [(true, 0), (true, 1), (true, 2), (true, 3), (true, 5), (true, 6), (true, 7), (true, 8), (true, 9), (false, 4), (false, 10), (false, 11)] (by kernel_rfl) (by decide +kernel) rfl (by decide +kernel) ⟨e1, e2⟩ ?_
  iterate 9
    refine wpMix_take (v := ?_) rfl rfl ?_ ?_
    rotate_left
    · (intro W hW; (try dsimp only at hW); go_simp) <;> with_reducible rfl
    simp only [Act.put, List.setIfInBounds_toArray, List.set_cons_zero, List.set_cons_succ]
  refine wpMix_run rfl ?_
  intro K hK
  go_wp2_with fail
  refine (KT1).mono ?_
  rintro e w2 ⟨v2, rfl, ho2, hT2⟩
  have hT2' := HT1.out.trans hT2
  have hc2 := HT.out w2 hT2'
  have KN2 := KN.out w2 v2 ho2
  go_wp2_with fail
  refine hK.out _ _ (fun _ => ⟨hc2.2.1, hc2.2.2.1⟩) ?_
  clear hK K
  refine wpMix_run rfl ?_
  intro K hK
  go_wp2_with fail
  refine (KN2).mono ?_
  rintro e w3 ⟨v3, rfl, ho3, hT3⟩
  have hT3' := hT2'.trans hT3
  have hc3 := HT.out w3 hT3'
  go_wp2_with fail
  refine hK.out _ _ (fun _ => ⟨hc3.2.1, hc3.2.2.1⟩) ?_
  clear hK K
  refine wpMix_run rfl ?_
  intro K hK
  go_wp2_with fail
  refine hK.out _ _ (fun _ => ⟨hc3.2.1, hc3.2.2.1⟩) ?_
  clear hK K
  refine wpMix_nil ?_
  obtain ⟨e0', _, e2', _⟩ := hc3
  have HO3 := Lib.hid ho3
  have HT3 := Lib.hid hT3'
  clear ho2 hT2 hT2' hc2 KN2 ho3 hT3 hT3' KT1 KN e0 e1 e2 HT1
  go_wp2_with fail
  clear e0' e2' HT
  go_loopw [3, 62] (fun s3 k W => ∃ (i : Nat) (v' : Value), k = .int .i64 i ∧ v' = s3 ∧ i ≤ n ∧ Hid (Out w W v' (((D1 ++ txL tn) ++ dig n) ++ manyL colL (cs.take i)))) (fun _ k _ => n - (RowKit.intOf k).toNat)
  case atStart => exact ⟨0, v3, rfl, rfl, Nat.zero_le _, Lib.hid (by simpa [manyL] using HO3.out)⟩
  case round =>
    clear HO3 HT3
    obtain ⟨i, v', rfl, rfl, hin, HS⟩ := hrel
    by_cases hlt : i < n
    · obtain ⟨⟨s, z⟩, hx⟩ : ∃ c, cs[i]? = some c := ⟨cs[i]'(HN.out ▸ hlt), List.getElem?_eq_getElem _⟩
      obtain ⟨ad, rfl, d0, d1⟩ := (HA.out.kept (kept_below HS.out.2)).at_ (i := i) (x := colC (s, z)) (by rw [List.getElem?_map, hx]; rfl)
      have b0 : (0 : Int) ≤ (i : Int) := Int.natCast_nonneg i
      have b1 : (i : Int) < (n : Int) := Int.ofNat_lt.2 hlt
      have hw64 := wi_next hlt HNL.out
      obtain ⟨r1, r2⟩ := HR.out i s z hx
      have hnx : ((D1 ++ txL tn) ++ dig n) ++ manyL colL (cs.take (i + 1)) = (((D1 ++ txL tn) ++ dig n) ++ manyL colL (cs.take i)) ++ txL s ++ inL z := by
        rw [many_take hx]
        simp only [colL, List.append_assoc]
      have HNX := Lib.hid hnx
      generalize ((D1 ++ txL tn) ++ dig n) ++ manyL colL (cs.take i) = X at *
      simp only [colC] at d0 d1
      have hwz := uN_wrap z
      obtain ⟨Gb, hGb⟩ : ∃ G, wr.heap.size = G := ⟨_, rfl⟩
      obtain ⟨W1, hW1⟩ : ∃ W1, wr.alloc (.cells #[.string s, .int .i64 z] 56) = W1 := ⟨_, rfl⟩
      have ST := Lib.hid (fun (V : World) (hV : Typ W1 V) => (by rw [← hW1] at hV; rw [← hGb]; exact two_typ (t := 56) (by decide) hV : V.cell? ⟨Gb, 0, none⟩ = some (.string s) ∧ V.cell? ⟨Gb, 1, none⟩ = some (.int .i64 z)))
      have O1 : Out w W1.drew v' X := by rw [← hW1]; exact out_drew (HS.out.typ _)
      have K1 := reftext_at O1 s r1
      have K2 := Lib.hid (fun (W : World) (v' : Value) (ho : Out w W v' (X ++ txL s)) => refput_at ho z r2)
      have q := ST.out W1 (Typ.refl _)
      obtain ⟨va, vc, hv, _⟩ := ownsRow_form O1.1
      generalize X.length = m3 at hv
      subst hv
      clear HS hnx r1 r2 hx O1
      go_wp2_with fail
      clear hW1 hGb d0 d1
      refine wp_region_mix (fun W => W.cell? ⟨Gb, 0, none⟩ = some (.string s) ∧ W.cell? ⟨Gb, 1, none⟩ = some (.int .i64 z)) 8 [(true, 0), (true, 1), (true, 2), (true, 4), (true, 5), (true, 6), (false, 3), (false, 7), (false, 8)] (by kernel_rfl) (by decide +kernel) rfl (by decide +kernel) q ?_
      iterate 6
        refine wpMix_take (v := ?_) rfl rfl ?_ ?_
        rotate_left
        · (intro W hW; (try dsimp only at hW); go_simp) <;> with_reducible rfl
        simp only [Act.put, List.setIfInBounds_toArray, List.set_cons_zero, List.set_cons_succ]
      refine wpMix_run rfl ?_
      intro K hK
      go_wp2_with fail
      refine (K1).mono ?_
      rintro e w2 ⟨v2, rfl, ho2, hT2⟩
      have hc2 := ST.out w2 (show Typ W1 w2 from hT2)
      have KN2 := K2.out w2 v2 ho2
      go_wp2_with fail
      refine hK.out _ _ (fun _ => hc2) ?_
      clear hK K
      refine wpMix_run rfl ?_
      intro K hK
      go_wp2_with fail
      refine (KN2).mono ?_
      rintro e w3 ⟨v3, rfl, ho3, hT3⟩
      have hc3 := ST.out w3 (Typ.trans (show Typ W1 w2 from hT2) hT3)
      go_wp2_with fail
      refine hK.out _ _ (fun _ => hc3) ?_
      clear hK K
      refine wpMix_run rfl ?_
      intro K hK
      go_wp2_with fail
      refine hK.out _ _ (fun _ => hc3) ?_
      clear hK K
      refine wpMix_nil ?_
      have HFIN : Hid (Out w w3 v3 (((D1 ++ txL tn) ++ dig n) ++ manyL colL (cs.take (i + 1)))) := Lib.hid (by rw [HNX.out]; exact ho3)
      clear ho2 hT2 hc2 KN2 ho3 hT3 hc3 K1 K2 ST HNX q hwz
      go_wp2_with fail
      go_roundw
      case rel => exact ⟨i + 1, v3, by go_num, rfl, hlt, HFIN⟩
      case measure => simp [RowKit.intOf]; omega
    · have hei : i = n := end_eq hin hlt
      have FIN : Hid (OwnP w F (.returned v') wr) := Lib.hid ⟨v', rfl, by
        rw [← HF.out]
        have := HS.out
        rw [hei, HN.out, List.take_length] at this
        rw [HN.out]
        exact this⟩
      clear HS HF
      go_wp2_with fail
      go_ret
      exact FIN.out
end Go.Proofs.YtkjdilhhdphjgaaDoor
/- The document's side of a record: what it writes of a rollup and of a batch. Conditions: at most 2^43 bytes. -/
set_option maxRecDepth 100000
namespace Go.Proofs.YtkjdilhhdphjgaaDoor
open Go.RowKit Go.Maps Go.Sort Go.Lib

set_option maxHeartbeats 12800000 in
theorem rwrite_2 {w : World} (tn rn rt nm : ByteArray) (ds : List ByteArray) (ms : List (Int × ByteArray)) (a1 b1 c1 d1 : Option Addr) (an ac bn bc cn cc dn dc : Nat) (hb : Holds w (.slice b1 bn bc) (strs ds)) (hc : Holds2 w (.slice c1 cn cc) (ms.map meaC)) (hbn : bn = ds.length) (hcn : cn = ms.length) (hb9 : bn ≤ 1000000000) (hc9 : cn ≤ 1000000000)
    (hl : (inL 2 ++ (txL rn ++ (txL rt ++ (dig bn ++ (manyL txL ds ++ (dig cn ++ manyL meaL ms)))))).length ≤ 8796093022208) :
    Calls Tryd.prog 28 #[.agg #[.int .i64 2, .string tn, .slice a1 an ac, .string rn, .string rt, .slice b1 bn bc, .slice c1 cn cc, .string nm, .slice d1 dn dc]] w (OwnP w (inL 2 ++ (txL rn ++ (txL rt ++ (dig bn ++ (manyL txL ds ++ (dig cn ++ manyL meaL ms))))))) := by
  simp only [List.length_append] at hl
  have htl := txL_len rn
  have htl2 := txL_len rt
  have hi1 : (inL 2).length ≤ 10 := inL_len 2
  have HT := Lib.hid (fun (V : World) (h : Typ (w.alloc (.cells #[.int .i64 2, .string tn, .slice a1 an ac, .string rn, .string rt, .slice b1 bn bc, .slice c1 cn cc, .string nm, .slice d1 dn dc] 46)) V) => box_typ (t := 46) (by decide) h)
  have K0 := refput_at ((Out.start w).typ (.cells #[.int .i64 2, .string tn, .slice a1 an ac, .string rn, .string rt, .slice b1 bn bc, .slice c1 cn cc, .string nm, .slice d1 dn dc] 46)) 2 (by simp)
  rw [List.nil_append, show uN 2 = 2 from rfl] at K0
  obtain ⟨D1, hD1⟩ : ∃ D, inL 2 = D := ⟨_, rfl⟩
  obtain ⟨X0, hX0⟩ : ∃ X, ((D1 ++ txL rn) ++ txL rt) ++ dig bn = X := ⟨_, rfl⟩
  obtain ⟨Y0, hY0⟩ : ∃ X, (X0 ++ manyL txL ds) ++ dig cn = X := ⟨_, rfl⟩
  have hF2 : Y0 ++ manyL meaL ms = inL 2 ++ (txL rn ++ (txL rt ++ (dig bn ++ (manyL txL ds ++ (dig cn ++ manyL meaL ms))))) := by rw [← hY0, ← hX0, hD1]; simp only [List.append_assoc]
  rw [hD1] at K0 hl hi1
  have hXl : X0.length = D1.length + (txL rn).length + (txL rt).length + (dig bn).length := by rw [← hX0]; simp only [List.length_append]
  have hYl : Y0.length = X0.length + (manyL txL ds).length + (dig cn).length := by rw [← hY0]; simp only [List.length_append]
  have hw1 : IntKind.u64.wrap 2 = 2 := rfl
  have hwn : IntKind.u64.wrap (bn : Int) = (bn : Int) := by rw [IntKind.wrap_u64]; omega
  have hwc : IntKind.u64.wrap (cn : Int) = (cn : Int) := by rw [IntKind.wrap_u64]; omega
  have KT := Lib.hid (fun (W : World) (v' : Value) (ho : Out w W v' D1) => reftext_at ho rn (by omega))
  have KT2 := Lib.hid (fun (W : World) (v' : Value) (ho : Out w W v' (D1 ++ txL rn)) => reftext_at ho rt (by rw [List.length_append]; omega))
  have KN := Lib.hid (fun (W : World) (v' : Value) (ho : Out w W v' ((D1 ++ txL rn) ++ txL rt)) => (by
    have := refput_at ho (bn : Int) (by rw [List.length_append, List.length_append]; omega)
    rw [inL_nat (by omega), uN_nat (by omega), hX0] at this
    exact this : Calls Tryd.prog 37 #[v', .int .u64 (bn : Int)] W (PutP w W X0)))
  have KM := Lib.hid (fun (W : World) (v' : Value) (ho : Out w W v' (X0 ++ manyL txL ds)) => (by
    have := refput_at ho (cn : Int) (by rw [List.length_append]; omega)
    rw [inL_nat (by omega), uN_nat (by omega), hY0] at this
    exact this : Calls Tryd.prog 37 #[v', .int .u64 (cn : Int)] W (PutP w W Y0)))
  have HR1 := Lib.hid (fun (i : Nat) (s : ByteArray) (hi : ds[i]? = some s) => (by
    have h1 := put_room (e := txL) hi
    have h2 := txL_len s
    rw [List.length_append]
    omega : (X0 ++ manyL txL (ds.take i)).length + s.size + 10 ≤ 17592186044000))
  have HR2 := Lib.hid (fun (i : Nat) (z : Int) (s : ByteArray) (hi : ms[i]? = some (z, s)) => (by
    have h1 := put_room (e := meaL) hi
    simp only [meaL, List.length_append] at h1
    have h2 := txL_len s
    have h3 := inL_len z
    simp only [List.length_append]
    exact ⟨by omega, by omega⟩ : (Y0 ++ manyL meaL (ms.take i)).length ≤ 17592186044000 ∧ ((Y0 ++ manyL meaL (ms.take i)) ++ inL z).length + s.size + 10 ≤ 17592186044000))
  have HA := Lib.hid hb
  have HC := Lib.hid hc
  have HF := Lib.hid hF2
  have HN := Lib.hid hbn
  have HM := Lib.hid hcn
  have HNL := Lib.hid hb9
  have HML := Lib.hid hc9
  obtain ⟨G, hG⟩ : ∃ G, w.heap.size = G := ⟨_, rfl⟩
  have HGz := Lib.hid hG
  obtain ⟨F, hFe⟩ : ∃ F, inL 2 ++ (txL rn ++ (txL rt ++ (dig bn ++ (manyL txL ds ++ (dig cn ++ manyL meaL ms))))) = F := ⟨_, rfl⟩
  rw [hFe] at HF ⊢
  clear hb hc hl hF2 htl htl2 hbn hcn hb9 hc9 hi1 hD1 hG hFe hX0 hY0 hXl hYl
  go_enter Tryd.func28, Tryd.ntmps28
  go_wp2_with fail
  refine K0.mono ?_
  rintro e w1 ⟨v1, rfl, ho1, hT1⟩
  have hc1 := HT.out w1 hT1
  rw [HGz.out] at hc1 HT
  obtain ⟨e0, _, _, e3, e4, e5, e6, _, _⟩ := hc1
  have HT1 := Lib.hid hT1
  have KT1 := KT.out w1.drew v1 (out_drew ho1)
  obtain ⟨va1, vc1, hv1, _⟩ := ownsRow_form ho1.1
  generalize D1.length = m1 at hv1
  subst hv1
  clear ho1 hT1 K0 KT
  (try rw [HGz.out])
  go_wp2_with fail
  refine wp_region_mix (fun W => W.cell? ⟨G, 3, none⟩ = some (.string rn) ∧ W.cell? ⟨G, 4, none⟩ = some (.string rt) ∧ W.cell? ⟨G, 5, none⟩ = some (.slice b1 bn bc)) 15 [(true, 0), (true, 1), (true, 2), (true, 3), (true, 5), (true, 6), (true, 7), (true, 9), (true, 10), (true, 11), (true, 12), (true, 13), (false, 4), (false, 8), (false, 14), (false, 15)] (by kernel_rfl) (by decide +kernel) rfl (by decide +kernel) ⟨e3, e4, e5⟩ ?_
  iterate 12
    refine wpMix_take (v := ?_) rfl rfl ?_ ?_
    rotate_left
    · (intro W hW; (try dsimp only at hW); go_simp) <;> with_reducible rfl
    simp only [Act.put, List.setIfInBounds_toArray, List.set_cons_zero, List.set_cons_succ]
  refine wpMix_run rfl ?_
  intro K hK
  go_wp2_with fail
  refine (KT1).mono ?_
  rintro e w2 ⟨v2, rfl, ho2, hT2⟩
  have hT2' := HT1.out.trans hT2
  have hc2 := HT.out w2 hT2'
  have KTa := KT2.out w2 v2 ho2
  go_wp2_with fail
  refine hK.out _ _ (fun _ => ⟨hc2.2.2.2.1, hc2.2.2.2.2.1, hc2.2.2.2.2.2.1⟩) ?_
  clear hK K
  refine wpMix_run rfl ?_
  intro K hK
  go_wp2_with fail
  refine (KTa).mono ?_
  rintro e w3 ⟨v3, rfl, ho3, hT3⟩
  have hT3' := hT2'.trans hT3
  have hc3 := HT.out w3 hT3'
  have KNa := KN.out w3 v3 ho3
  go_wp2_with fail
  refine hK.out _ _ (fun _ => ⟨hc3.2.2.2.1, hc3.2.2.2.2.1, hc3.2.2.2.2.2.1⟩) ?_
  clear hK K
  refine wpMix_run rfl ?_
  intro K hK
  go_wp2_with fail
  refine (KNa).mono ?_
  rintro e w4 ⟨v4, rfl, ho4, hT4⟩
  have hT4' := hT3'.trans hT4
  have hc4 := HT.out w4 hT4'
  go_wp2_with fail
  refine hK.out _ _ (fun _ => ⟨hc4.2.2.2.1, hc4.2.2.2.2.1, hc4.2.2.2.2.2.1⟩) ?_
  clear hK K
  refine wpMix_run rfl ?_
  intro K hK
  go_wp2_with fail
  refine hK.out _ _ (fun _ => ⟨hc4.2.2.2.1, hc4.2.2.2.2.1, hc4.2.2.2.2.2.1⟩) ?_
  clear hK K
  refine wpMix_nil ?_
  obtain ⟨_, _, _, _, _, e5', _, _, _⟩ := hc4
  have HO4 := Lib.hid ho4
  have HT4 := Lib.hid hT4'
  clear ho2 hT2 hT2' hc2 KTa ho3 hT3 hT3' hc3 KNa ho4 hT4 hT4' KT1 KT2 KN e0 e3 e4 e5 e6 HT1
  go_wp2_with fail
  clear e5'
  go_loopw [3, 96] (fun s3 k W => ∃ (i : Nat) (v' : Value), k = .int .i64 i ∧ v' = s3 ∧ i ≤ bn ∧ Hid (Out w W v' (X0 ++ manyL txL (ds.take i)) ∧ Typ (w.alloc (.cells #[.int .i64 2, .string tn, .slice a1 an ac, .string rn, .string rt, .slice b1 bn bc, .slice c1 cn cc, .string nm, .slice d1 dn dc] 46)) W)) (fun _ k _ => bn - (RowKit.intOf k).toNat)
  case atStart => exact ⟨0, v4, rfl, rfl, Nat.zero_le _, Lib.hid ⟨by simpa [manyL] using HO4.out, HT4.out⟩⟩
  case round =>
    clear HO4 HT4
    obtain ⟨i, v', rfl, rfl, hin, HS⟩ := hrel
    by_cases hlt : i < bn
    · obtain ⟨s, hx⟩ : ∃ s, ds[i]? = some s := ⟨ds[i]'(HN.out ▸ hlt), List.getElem?_eq_getElem _⟩
      have HH := HA.out.kept (kept_below HS.out.1.2)
      obtain ⟨ad, rfl⟩ := HH.ptr (by omega)
      have d0 := HH.cell (strs_at hx)
      have b0 : (0 : Int) ≤ (i : Int) := Int.natCast_nonneg i
      have b1' : (i : Int) < (bn : Int) := Int.ofNat_lt.2 hlt
      have hw64 := wi_next hlt HNL.out
      have KX := reftext_at HS.out.1 s (HR1.out i s hx)
      have HNX := Lib.hid (show X0 ++ manyL txL (ds.take (i + 1)) = (X0 ++ manyL txL (ds.take i)) ++ txL s by rw [many_take hx, List.append_assoc])
      have HTW := Lib.hid HS.out.2
      obtain ⟨va, vc, hv, _⟩ := ownsRow_form HS.out.1.1
      generalize (X0 ++ manyL txL (ds.take i)).length = m3 at hv
      subst hv
      clear HS hx HH
      go_wp2_with fail
      refine KX.mono ?_
      rintro e w5 ⟨v5, rfl, ho5, hT5⟩
      have HFIN : Hid (Out w w5 v5 (X0 ++ manyL txL (ds.take (i + 1))) ∧ Typ (w.alloc (.cells #[.int .i64 2, .string tn, .slice a1 an ac, .string rn, .string rt, .slice (some ad) bn bc, .slice c1 cn cc, .string nm, .slice d1 dn dc] 46)) w5) := Lib.hid ⟨by rw [HNX.out]; exact ho5, HTW.out.trans hT5⟩
      clear ho5 hT5 KX HTW
      go_wp2_with fail
      go_roundw
      case rel => exact ⟨i + 1, v5, by go_num, rfl, hlt, HFIN⟩
      case measure => simp [RowKit.intOf]; omega
    · have hei : i = bn := end_eq hin hlt
      have hO : Out w wr v' (X0 ++ manyL txL ds) := by
        have := HS.out.1
        rw [hei, HN.out, List.take_length] at this
        exact this
      have hc5 := HT.out wr HS.out.2
      obtain ⟨_, _, _, _, _, _, e6, _, _⟩ := hc5
      have KMa := KM.out wr v' hO
      have HTW := Lib.hid HS.out.2
      obtain ⟨va, vc, hv, _⟩ := ownsRow_form hO.1
      generalize (X0 ++ manyL txL ds).length = m3 at hv
      subst hv
      clear HS hO KM
      go_wp2_with fail
      refine KMa.mono ?_
      rintro e w6 ⟨v6, rfl, ho6, hT6⟩
      have hc6 := HT.out w6 (HTW.out.trans hT6)
      obtain ⟨_, _, _, _, _, _, e6', _, _⟩ := hc6
      have HO6 := Lib.hid ho6
      clear ho6 hT6 KMa e6 HTW HT
      go_wp2_with fail
      clear e6'
      go_loopw [3, 115] (fun s3 k W => ∃ (j : Nat) (v' : Value), k = .int .i64 j ∧ v' = s3 ∧ j ≤ cn ∧ Hid (Out w W v' (Y0 ++ manyL meaL (ms.take j)))) (fun _ k _ => cn - (RowKit.intOf k).toNat)
      case atStart => exact ⟨0, v6, rfl, rfl, Nat.zero_le _, Lib.hid (by simpa [manyL] using HO6.out)⟩
      case round =>
        clear HO6
        obtain ⟨j, v', rfl, rfl, hjn, HS⟩ := hrel
        by_cases hjt : j < cn
        · obtain ⟨⟨z, s⟩, hx⟩ : ∃ c, ms[j]? = some c := ⟨ms[j]'(HM.out ▸ hjt), List.getElem?_eq_getElem _⟩
          obtain ⟨ad, rfl, d0, d1'⟩ := (HC.out.kept (kept_below HS.out.2)).at_ (i := j) (x := meaC (z, s)) (by rw [List.getElem?_map, hx]; rfl)
          have b0 : (0 : Int) ≤ (j : Int) := Int.natCast_nonneg j
          have b1' : (j : Int) < (cn : Int) := Int.ofNat_lt.2 hjt
          have hw64 := wi_next hjt HML.out
          obtain ⟨r1, r2⟩ := HR2.out j z s hx
          have hnx : Y0 ++ manyL meaL (ms.take (j + 1)) = (Y0 ++ manyL meaL (ms.take j)) ++ inL z ++ txL s := by
            rw [many_take hx]
            simp only [meaL, List.append_assoc]
          have HNX := Lib.hid hnx
          generalize Y0 ++ manyL meaL (ms.take j) = X at *
          simp only [meaC] at d0 d1'
          have hwz := uN_wrap z
          obtain ⟨Gb, hGb⟩ : ∃ G, wr.heap.size = G := ⟨_, rfl⟩
          obtain ⟨W1, hW1⟩ : ∃ W1, wr.alloc (.cells #[.int .i64 z, .string s] 58) = W1 := ⟨_, rfl⟩
          have ST := Lib.hid (fun (V : World) (hV : Typ W1 V) => (by rw [← hW1] at hV; rw [← hGb]; exact two_typ (t := 58) (by decide) hV : V.cell? ⟨Gb, 0, none⟩ = some (.int .i64 z) ∧ V.cell? ⟨Gb, 1, none⟩ = some (.string s)))
          have O1 : Out w W1.drew v' X := by rw [← hW1]; exact out_drew (HS.out.typ _)
          have K1 := refput_at O1 z r1
          have K2 := Lib.hid (fun (W : World) (v' : Value) (ho : Out w W v' (X ++ inL z)) => reftext_at ho s r2)
          have q := ST.out W1 (Typ.refl _)
          obtain ⟨va, vc, hv, _⟩ := ownsRow_form O1.1
          generalize X.length = m3 at hv
          subst hv
          clear HS hnx r1 r2 hx O1
          go_wp2_with fail
          clear hW1 hGb d0 d1'
          refine wp_region_mix (fun W => W.cell? ⟨Gb, 0, none⟩ = some (.int .i64 z) ∧ W.cell? ⟨Gb, 1, none⟩ = some (.string s)) 8 [(true, 0), (true, 1), (true, 2), (true, 3), (true, 5), (true, 6), (false, 4), (false, 7), (false, 8)] (by kernel_rfl) (by decide +kernel) rfl (by decide +kernel) q ?_
          iterate 6
            refine wpMix_take (v := ?_) rfl rfl ?_ ?_
            rotate_left
            · (intro W hW; (try dsimp only at hW); go_simp) <;> with_reducible rfl
            simp only [Act.put, List.setIfInBounds_toArray, List.set_cons_zero, List.set_cons_succ]
          refine wpMix_run rfl ?_
          intro K hK
          go_wp2_with fail
          refine (K1).mono ?_
          rintro e w2 ⟨v2, rfl, ho2, hT2⟩
          have hc2 := ST.out w2 (show Typ W1 w2 from hT2)
          have KN2 := K2.out w2 v2 ho2
          go_wp2_with fail
          refine hK.out _ _ (fun _ => hc2) ?_
          clear hK K
          refine wpMix_run rfl ?_
          intro K hK
          go_wp2_with fail
          refine (KN2).mono ?_
          rintro e w3 ⟨v3, rfl, ho3, hT3⟩
          have hc3 := ST.out w3 (Typ.trans (show Typ W1 w2 from hT2) hT3)
          go_wp2_with fail
          refine hK.out _ _ (fun _ => hc3) ?_
          clear hK K
          refine wpMix_run rfl ?_
          intro K hK
          go_wp2_with fail
          refine hK.out _ _ (fun _ => hc3) ?_
          clear hK K
          refine wpMix_nil ?_
          have HFIN : Hid (Out w w3 v3 (Y0 ++ manyL meaL (ms.take (j + 1)))) := Lib.hid (by rw [HNX.out]; exact ho3)
          clear ho2 hT2 hc2 KN2 ho3 hT3 hc3 K1 K2 ST HNX q hwz
          go_wp2_with fail
          go_roundw
          case rel => exact ⟨j + 1, v3, by go_num, rfl, hjt, HFIN⟩
          case measure => simp [RowKit.intOf]; omega
        · have hej : j = cn := end_eq hjn hjt
          have FIN : Hid (OwnP w F (.returned v') wr) := Lib.hid ⟨v', rfl, by
            rw [← HF.out]
            have := HS.out
            rw [hej, HM.out, List.take_length] at this
            exact this⟩
          clear HS HF
          go_wp2_with fail
          go_ret
          exact FIN.out
set_option maxHeartbeats 12800000 in
theorem rwrite_3 {w : World} (tn rn rt nm : ByteArray) (ws : List (List VV)) (a1 b1 c1 d1 : Option Addr) (an ac bn bc cn cc dn dc : Nat) (hd : RowsH w (.slice d1 dn dc) ws) (hi : ∀ r ∈ ws, ∀ x ∈ r, x.inI) (hr : ∀ r ∈ ws, r.length ≤ 1000000000) (hdn : dn = ws.length) (hd9 : dn ≤ 1000000000)
    (hl : (inL 3 ++ (txL nm ++ (dig dn ++ manyL rowL ws))).length ≤ 8796093022208) :
    Calls Tryd.prog 28 #[.agg #[.int .i64 3, .string tn, .slice a1 an ac, .string rn, .string rt, .slice b1 bn bc, .slice c1 cn cc, .string nm, .slice d1 dn dc]] w (OwnP w (inL 3 ++ (txL nm ++ (dig dn ++ manyL rowL ws)))) := by
  have hF2 : ((inL 3 ++ txL nm) ++ dig dn) ++ manyL rowL ws = inL 3 ++ (txL nm ++ (dig dn ++ manyL rowL ws)) := by simp only [List.append_assoc]
  simp only [List.length_append] at hl
  have htl := txL_len nm
  have hi1 : (inL 3).length ≤ 10 := inL_len 3
  have HT := Lib.hid (fun (V : World) (h : Typ (w.alloc (.cells #[.int .i64 3, .string tn, .slice a1 an ac, .string rn, .string rt, .slice b1 bn bc, .slice c1 cn cc, .string nm, .slice d1 dn dc] 46)) V) => box_typ (t := 46) (by decide) h)
  have K0 := refput_at ((Out.start w).typ (.cells #[.int .i64 3, .string tn, .slice a1 an ac, .string rn, .string rt, .slice b1 bn bc, .slice c1 cn cc, .string nm, .slice d1 dn dc] 46)) 3 (by simp)
  rw [List.nil_append, show uN 3 = 3 from rfl] at K0
  obtain ⟨D1, hD1⟩ : ∃ D, inL 3 = D := ⟨_, rfl⟩
  rw [hD1] at K0 hF2 hl hi1 ⊢
  have hw1 : IntKind.u64.wrap 3 = 3 := rfl
  have hwn : IntKind.u64.wrap (dn : Int) = (dn : Int) := by rw [IntKind.wrap_u64]; omega
  obtain ⟨X0, hX0⟩ : ∃ X, (D1 ++ txL nm) ++ dig dn = X := ⟨_, rfl⟩
  have hXl : X0.length = D1.length + (txL nm).length + (dig dn).length := by rw [← hX0]; simp only [List.length_append]
  have KT := Lib.hid (fun (W : World) (v' : Value) (ho : Out w W v' D1) => reftext_at ho nm (by omega))
  have KN := Lib.hid (fun (W : World) (v' : Value) (ho : Out w W v' (D1 ++ txL nm)) => (by
    have := refput_at ho (dn : Int) (by rw [List.length_append]; omega)
    rw [inL_nat (by omega), uN_nat (by omega), hX0] at this
    exact this : Calls Tryd.prog 37 #[v', .int .u64 (dn : Int)] W (PutP w W X0)))
  have HR := Lib.hid (fun (i : Nat) (r : List VV) (hi : ws[i]? = some r) => (by
    have h1 := put_room (e := rowL) hi
    have h2 := rowL_len r
    have h3 : (rowL r).length = (dig (bytesV r).length).length + (bytesV r).length := by unfold rowL blL; rw [List.length_append]
    have h4 := dig_len10 (u := (bytesV r).length) (by omega)
    simp only [List.length_append]
    exact ⟨by omega, by omega, by omega⟩ : (X0 ++ manyL rowL (ws.take i)).length ≤ 17592186044000 ∧ ((X0 ++ manyL rowL (ws.take i)) ++ dig (bytesV r).length).length + (bytesV r).length ≤ 17592186044416 ∧ (bytesV r).length < 9223372036854775808))
  rw [hX0] at hF2
  have HD := Lib.hid hd
  have HI := Lib.hid hi
  have HRL := Lib.hid hr
  have HF := Lib.hid hF2
  have HN := Lib.hid hdn
  have HNL := Lib.hid hd9
  obtain ⟨G, hG⟩ : ∃ G, w.heap.size = G := ⟨_, rfl⟩
  have HGz := Lib.hid hG
  obtain ⟨F, hFe⟩ : ∃ F, D1 ++ (txL nm ++ (dig dn ++ manyL rowL ws)) = F := ⟨_, rfl⟩
  rw [hFe] at HF ⊢
  clear hd hi hr hl hF2 htl hdn hd9 hi1 hD1 hG hFe hX0 hXl
  go_enter Tryd.func28, Tryd.ntmps28
  go_wp2_with fail
  refine K0.mono ?_
  rintro e w1 ⟨v1, rfl, ho1, hT1⟩
  have hc1 := HT.out w1 hT1
  rw [HGz.out] at hc1 HT
  obtain ⟨e0, _, _, _, _, _, _, e7, e8⟩ := hc1
  have HT1 := Lib.hid hT1
  have KT1 := KT.out w1.drew v1 (out_drew ho1)
  obtain ⟨va1, vc1, hv1, _⟩ := ownsRow_form ho1.1
  generalize D1.length = m1 at hv1
  subst hv1
  clear ho1 hT1 K0 KT
  (try rw [HGz.out])
  go_wp2_with fail
  refine wp_region_mix (fun W => W.cell? ⟨G, 7, none⟩ = some (.string nm) ∧ W.cell? ⟨G, 8, none⟩ = some (.slice d1 dn dc)) 9 [(true, 0), (true, 1), (true, 2), (true, 4), (true, 5), (true, 6), (true, 7), (false, 3), (false, 8), (false, 9)] (by kernel_rfl) (by decide +kernel) rfl (by decide +kernel) ⟨e7, e8⟩ ?_
  iterate 7
    refine wpMix_take (v := ?_) rfl rfl ?_ ?_
    rotate_left
    · (intro W hW; (try dsimp only at hW); go_simp) <;> with_reducible rfl
    simp only [Act.put, List.setIfInBounds_toArray, List.set_cons_zero, List.set_cons_succ]
  refine wpMix_run rfl ?_
  intro K hK
  go_wp2_with fail
  refine (KT1).mono ?_
  rintro e w2 ⟨v2, rfl, ho2, hT2⟩
  have hT2' := HT1.out.trans hT2
  have hc2 := HT.out w2 hT2'
  have KNa := KN.out w2 v2 ho2
  go_wp2_with fail
  refine hK.out _ _ (fun _ => ⟨hc2.2.2.2.2.2.2.2.1, hc2.2.2.2.2.2.2.2.2⟩) ?_
  clear hK K
  refine wpMix_run rfl ?_
  intro K hK
  go_wp2_with fail
  refine (KNa).mono ?_
  rintro e w3 ⟨v3, rfl, ho3, hT3⟩
  have hT3' := hT2'.trans hT3
  have hc3 := HT.out w3 hT3'
  go_wp2_with fail
  refine hK.out _ _ (fun _ => ⟨hc3.2.2.2.2.2.2.2.1, hc3.2.2.2.2.2.2.2.2⟩) ?_
  clear hK K
  refine wpMix_run rfl ?_
  intro K hK
  go_wp2_with fail
  refine hK.out _ _ (fun _ => ⟨hc3.2.2.2.2.2.2.2.1, hc3.2.2.2.2.2.2.2.2⟩) ?_
  clear hK K
  refine wpMix_nil ?_
  obtain ⟨_, _, _, _, _, _, _, _, e8'⟩ := hc3
  have HO3 := Lib.hid ho3
  clear ho2 hT2 hT2' hc2 KNa ho3 hT3 hT3' KT1 KN e0 e7 e8 HT1 HT
  go_wp2_with fail
  clear e8'
  go_loopw [3, 31] (fun s3 k W => ∃ (i : Nat) (v' : Value), k = .int .i64 i ∧ v' = s3 ∧ i ≤ dn ∧ Hid (Out w W v' (X0 ++ manyL rowL (ws.take i)))) (fun _ k _ => dn - (RowKit.intOf k).toNat)
  case atStart => exact ⟨0, v3, rfl, rfl, Nat.zero_le _, Lib.hid (by simpa [manyL] using HO3.out)⟩
  case round =>
    clear HO3
    obtain ⟨i, v', rfl, rfl, hin, HS⟩ := hrel
    by_cases hlt : i < dn
    · obtain ⟨r, hx⟩ : ∃ c, ws[i]? = some c := ⟨ws[i]'(HN.out ▸ hlt), List.getElem?_eq_getElem _⟩
      obtain ⟨ad, u, k, rfl, d0, hvr⟩ := (HD.out.kept (kept_below HS.out.2)).at_ hx
      have b0 : (0 : Int) ≤ (i : Int) := Int.natCast_nonneg i
      have b1' : (i : Int) < (dn : Int) := Int.ofNat_lt.2 hlt
      have hw64 := wi_next hlt HNL.out
      obtain ⟨r1, r2, r3⟩ := HR.out i r hx
      have hmem := List.mem_of_getElem? hx
      have KB := refvbytes_any hvr (HRL.out r hmem) (HI.out r hmem)
      have HNX := Lib.hid (show X0 ++ manyL rowL (ws.take (i + 1)) = (X0 ++ manyL rowL (ws.take i)) ++ dig (bytesV r).length ++ bytesV r by rw [many_take hx]; simp only [rowL, blL, List.append_assoc])
      generalize X0 ++ manyL rowL (ws.take i) = X at *
      generalize bytesV r = BV at *
      generalize r.length = rl at *
      obtain ⟨bl, hbl⟩ : ∃ n, BV.length = n := ⟨_, rfl⟩
      have hwb : IntKind.u64.wrap (bl : Int) = (bl : Int) := by rw [IntKind.wrap_u64]; omega
      have HX := Lib.hid HS.out
      have HBL := Lib.hid (And.intro hbl (And.intro r1 (And.intro r2 r3)))
      obtain ⟨va, vc, hv, _⟩ := ownsRow_form HS.out.1
      generalize X.length = m3 at hv
      subst hv
      clear HS hx hvr hmem hbl r1 r2 r3
      go_wp2_with fail
      refine KB.mono ?_
      rintro e w4 ⟨v4, rfl, ho4, hb4⟩
      have hX4 := HX.out.next hb4
      have KP := hX4.rput bl (by have := HBL.out.2.2.2; have := HBL.out.1; omega) HBL.out.2.1
      have hO4 : Holds w4 v4 (u8s BV) := Holds.of_row (by rw [u8s_len]; exact ho4)
      have HO4 := Lib.hid hO4
      obtain ⟨va4, vc4, hv4, _⟩ := ownsRow_form ho4
      rw [HBL.out.1] at hv4
      subst hv4
      clear ho4 hO4 hX4 KB hb4
      go_wp2_with fail
      refine KP.mono ?_
      rintro e w5 ⟨v5, rfl, ho5, hb5⟩
      have ho5 := ho5.out
      obtain ⟨v6, w6, r6, o6, g6, _⟩ := app8 ho5.1 ho5.2.size (HO4.out.below hb5) (by have h := HBL.out.2.2.1; rw [HBL.out.1] at h ⊢; exact h)
      have HFIN : Hid (Out w w6 v6 (X0 ++ manyL rowL (ws.take (i + 1)))) := Lib.hid ⟨by rw [HNX.out, HBL.out.1]; exact o6, ho5.2.trans (below_grown g6 ho5.2.size (ownsRow_ge ho5.1))⟩
      have R6 := Lib.hid r6
      obtain ⟨va5, vc5, hv5, _⟩ := ownsRow_form ho5.1
      generalize (X ++ dig bl).length = m5 at hv5
      subst hv5
      clear ho5 hb5 o6 g6 r6 KP
      go_wp2_with (at_builtin; refine wpList_append_run rfl _ _ 25 rfl rfl rfl (R6.out _) ?_)
      go_roundw
      case rel => exact ⟨i + 1, v6, by go_num, rfl, hlt, HFIN⟩
      case measure => simp [RowKit.intOf]; omega
    · have hei : i = dn := end_eq hin hlt
      have FIN : Hid (OwnP w F (.returned v') wr) := Lib.hid ⟨v', rfl, by
        rw [← HF.out]
        have := HS.out
        rw [hei, HN.out, List.take_length] at this
        exact this⟩
      clear HS HF
      go_wp2_with fail
      go_ret
      exact FIN.out
end Go.Proofs.YtkjdilhhdphjgaaDoor
/- The document's side of a record: its bytes; the law's own 'same'. Conditions: as stated. -/
set_option maxRecDepth 100000
namespace Go.Proofs.YtkjdilhhdphjgaaDoor
open Go.RowKit Go.Maps Go.Sort Go.Lib

theorem rwrite_all {w : World} {x : RV} {a b c d : Value} (h : RecH w x a b c d) (hi : x.inI) (hg : goodR x = true) (hl : (bytR x).length ≤ 8796093022208) :
    Calls Tryd.prog 28 #[recV x a b c d] w (OwnP w (bytR x)) := by
  have h' := h
  obtain ⟨a1, ac, b1, bc, c1, cc, d1, dc, rfl, rfl, rfl, rfl⟩ := h'.form
  unfold recV
  rcases good_shape hg with ⟨e, g1, g2⟩ | ⟨e, g1, g2⟩ | ⟨e, g1⟩
  · have hk : x.k = 1 := by rw [e]; rfl
    have eb : bytR x = inL 1 ++ (txL x.tn ++ (dig x.tc.length ++ manyL colL x.tc)) := by unfold bytR bodL tabL; rw [if_pos hk, hk]
    rw [eb] at hl ⊢
    rw [hk]
    exact rwrite_1 _ _ _ _ _ _ _ _ _ _ _ _ _ _ _ _ _ h.tc rfl (by omega) hl
  · have hk : x.k = 2 := by rw [e]; rfl
    have eb : bytR x = inL 2 ++ (txL x.rn ++ (txL x.rt ++ (dig x.rd.length ++ (manyL txL x.rd ++ (dig x.rm.length ++ manyL meaL x.rm))))) := by unfold bytR bodL rolL; rw [if_neg (by omega), if_pos hk, hk]
    rw [eb] at hl ⊢
    rw [hk]
    exact rwrite_2 _ _ _ _ _ _ _ _ _ _ _ _ _ _ _ _ _ _ h.rd h.rm rfl rfl (by omega) (by omega) hl
  · have hk : x.k = 3 := by rw [e]; rfl
    have eb : bytR x = inL 3 ++ (txL x.nm ++ (dig x.ws.length ++ manyL rowL x.ws)) := by unfold bytR bodL batL; rw [if_neg (by omega), if_neg (by omega), hk]
    obtain ⟨n, n1, n8, w1, w2, hr⟩ := bat_iff.1 g1
    rw [eb] at hl ⊢
    rw [hk]
    exact rwrite_3 _ _ _ _ _ _ _ _ _ _ _ _ _ _ _ _ _ h.ws hi.ws (fun r hrm => by have := (hr r hrm).1; omega) rfl (by omega) hl
theorem boxN {t : TypeId} {V : World} {n : Nat} {k : Int} {s1 s2 s3 s4 : ByteArray} {a b c d : Value} (h : V.heap[n]? = some (.cells #[.int .i64 k, .string s1, a, .string s2, .string s3, b, c, .string s4, d] t (0, 0))) :
    V.cell? ⟨n, 0, none⟩ = some (.int .i64 k) ∧ V.cell? ⟨n, 1, none⟩ = some (.string s1) ∧ V.cell? ⟨n, 2, none⟩ = some a ∧ V.cell? ⟨n, 3, none⟩ = some (.string s2) ∧ V.cell? ⟨n, 4, none⟩ = some (.string s3) ∧ V.cell? ⟨n, 5, none⟩ = some b ∧ V.cell? ⟨n, 6, none⟩ = some c ∧ V.cell? ⟨n, 7, none⟩ = some (.string s4) ∧ V.cell? ⟨n, 8, none⟩ = some d := by
  refine ⟨?_, ?_, ?_, ?_, ?_, ?_, ?_, ?_, ?_⟩ <;> (rw [cell_of_row _ _ _ _ _ _ h]; rfl)
set_option maxHeartbeats 6400000 in
/-- a record in bytes, as the document tells it -/
theorem refbytes_all {w : World} {x : RV} {a b c d : Value} (h : RecH w x a b c d) (hi : x.inI) (hr : ∀ r ∈ x.ws, r.length ≤ 9223372036854775807) (hl : goodR x = true → (bytR x).length ≤ 8796093022208) :
    Calls Tryd.prog 20 #[recV x a b c d] w (BytP w x) := by
  have h' := h
  obtain ⟨a1, ac, b1, bc, c1, cc, d1, dc, rfl, rfl, rfl, rfl⟩ := h'.form
  obtain ⟨an, bn, cn, dn, ea, eb, ec, ed⟩ : ∃ an bn cn dn, x.tc.length = an ∧ x.rd.length = bn ∧ x.rm.length = cn ∧ x.ws.length = dn := ⟨_, _, _, _, rfl, rfl, rfl, rfl⟩
  have hb0 := below_o w (.cells #[.int .i64 x.k, .string x.tn, .slice a1 an ac, .string x.rn, .string x.rt, .slice b1 bn bc, .slice c1 cn cc, .string x.nm, .slice d1 dn dc] 46)
  have KG := refgood_all (h.below hb0) hi hr
  have HW := Lib.hid (fun (hg : goodR x = true) (V : World) (hb : Below w.heap.size w V) => rwrite_all (h.below hb) hi hg (hl hg))
  have hh0 := heap_alloc_new w (.cells #[.int .i64 x.k, .string x.tn, .slice a1 an ac, .string x.rn, .string x.rt, .slice b1 bn bc, .slice c1 cn cc, .string x.nm, .slice d1 dn dc] 46)
  have HH0 := Lib.hid hh0
  have HB0 := Lib.hid hb0
  unfold recV at *
  rw [ea, eb, ec, ed] at KG HW ⊢
  clear h hi hr hl hb0 hh0 ea eb ec ed
  cases hg : goodR x
  · have FIN := Lib.hid (fun (w' : World) (hb : Below w.heap.size w w') => (show BytP w x (.returned (.tuple #[.slice none 0 0, .int .i64 2])) w' from ⟨hb, .inl ⟨hg, rfl⟩⟩))
    rw [hg] at KG
    clear hg HW HH0
    go_enter Tryd.func20, Tryd.ntmps20
    go_wp2_with fail
    refine KG.mono ?_
    rintro e w1 ⟨rfl, hb1⟩
    have FI := FIN.out w1 (HB0.out.trans (hb1.mono HB0.out.size))
    clear hb1 KG
    go_wp2_with fail
    go_ret2
    exact FI
  · have KW := Lib.hid (HW.out hg)
    have FIN7 := Lib.hid (fun (w' : World) (hb : Below w.heap.size w w') (hl : 262144 < (bytR x).length) => (show BytP w x (.returned (.tuple #[.slice none 0 0, .int .i64 7])) w' from ⟨hb, .inr (.inl ⟨hg, hl, rfl⟩)⟩))
    have FIN0 := Lib.hid (fun (w' : World) (v : Value) (hb : Below w.heap.size w w') (hl : (bytR x).length ≤ 262144) (ho : w'.ownsRow w.heap.size 5 1 v (bytR x).length (u8s (bytR x))) => (show BytP w x (.returned (.tuple #[v, .int .i64 0])) w' from ⟨hb, .inr (.inr ⟨hg, hl, v, rfl, ho⟩)⟩))
    rw [hg] at KG
    clear hg HW
    go_enter Tryd.func20, Tryd.ntmps20
    go_wp2_with fail
    refine KG.mono ?_
    rintro e w1 ⟨rfl, hb1⟩
    obtain ⟨q0, q1, q2, q3, q4, q5, q6, q7, q8⟩ := boxN (n := w.heap.size) ((hb1.block _ (by simp)).trans HH0.out)
    have HB1 := Lib.hid (HB0.out.trans (hb1.mono HB0.out.size))
    have KW1 := KW.out w1 HB1.out
    clear hb1 KG KW HH0
    go_wp2_with fail
    refine KW1.mono ?_
    rintro e w2 ⟨v2, rfl, ho2, hb2⟩
    have HB2 := HB1.out.trans (hb2.mono HB1.out.size)
    have hos : w2.ownsRow w.heap.size 5 1 v2 (bytR x).length (u8s (bytR x)) := ownsRow_rebase ho2 (fun g hg => Nat.le_trans HB1.out.size (ho2.lt g hg).1)
    obtain ⟨v2a, v2c, hv2, _⟩ := ownsRow_form ho2
    by_cases hlen : 262144 < (bytR x).length
    · have FI := FIN7.out w2 HB2 hlen
      have t0 : decide ((262144 : Int) < ((bytR x).length : Int)) = true := decide_eq_true (by omega)
      generalize (bytR x).length = L at *
      subst hv2
      clear ho2 hb2 HB2 hos KW1 FIN0 FIN7 hlen
      go_wp2_with fail
      go_ret2
      exact FI
    · have FI := FIN0.out w2 v2 HB2 (by omega) hos
      have t0 : decide ((262144 : Int) < ((bytR x).length : Int)) = false := decide_eq_false (by omega)
      generalize (bytR x).length = L at *
      subst hv2
      clear ho2 hb2 HB2 hos KW1 FIN0 FIN7 hlen
      go_wp2_with fail
      go_ret2
      exact FI
set_option maxHeartbeats 6400000 in
/-- 'same' at a good record, twice -/
theorem same_good {w : World} {x : RV} {a b c d a' b' c' d' : Value} (h : RecH w x a b c d) (h' : RecH w x a' b' c' d') (hi : x.inI) (hg : goodR x = true) (hl : (bytR x).length ≤ 262144) (hr : ∀ r ∈ x.ws, r.length ≤ 9223372036854775807) :
    Calls Tryd.prog 10 #[recV x a b c d, recV x a' b' c' d'] w fun e w' => e = .returned (.bool true) ∧ Below w.heap.size w w' := by
  have hk := good_kind hg
  have g := h
  have g' := h'
  obtain ⟨a1, ac, b1, bc, c1, cc, d1, dc, rfl, rfl, rfl, rfl⟩ := g.form
  obtain ⟨a2, ac2, b2, bc2, c2, cc2, d2, dc2, rfl, rfl, rfl, rfl⟩ := g'.form
  obtain ⟨an, bn, cn, dn, ea, eb, ec, ed⟩ : ∃ an bn cn dn, x.tc.length = an ∧ x.rd.length = bn ∧ x.rm.length = cn ∧ x.ws.length = dn := ⟨_, _, _, _, rfl, rfl, rfl, rfl⟩
  have hb1 := below_o w (.cells #[.int .i64 x.k, .string x.tn, .slice a1 an ac, .string x.rn, .string x.rt, .slice b1 bn bc, .slice c1 cn cc, .string x.nm, .slice d1 dn dc] 36)
  have hb2 := hb1.alloc (by simp) (.cells #[.int .i64 x.k, .string x.tn, .slice a2 an ac2, .string x.rn, .string x.rt, .slice b2 bn bc2, .slice c2 cn cc2, .string x.nm, .slice d2 dn dc2] 46)
  have hq2 := heap_alloc_new (w.alloc (.cells #[.int .i64 x.k, .string x.tn, .slice a1 an ac, .string x.rn, .string x.rt, .slice b1 bn bc, .slice c1 cn cc, .string x.nm, .slice d1 dn dc] 36)) (.cells #[.int .i64 x.k, .string x.tn, .slice a2 an ac2, .string x.rn, .string x.rt, .slice b2 bn bc2, .slice c2 cn cc2, .string x.nm, .slice d2 dn dc2] 46)
  rw [show (w.alloc (.cells #[.int .i64 x.k, .string x.tn, .slice a1 an ac, .string x.rn, .string x.rt, .slice b1 bn bc, .slice c1 cn cc, .string x.nm, .slice d1 dn dc] 36)).heap.size = w.heap.size + 1 by simp] at hq2
  have HQ2 := Lib.hid hq2
  have HB0 := Lib.hid hb2
  have K1 := Lib.hid (fun (V : World) (hb : Below w.heap.size w V) => refbytes_all (h.below hb) hi hr (fun _ => by omega))
  have K2 := Lib.hid (fun (V : World) (hb : Below w.heap.size w V) => refbytes_all (h'.below hb) hi hr (fun _ => by omega))
  have KP := fun (V : World) => plain_any x.k x.tn x.rn x.rt x.nm a1 b1 c1 d1 an ac bn bc cn cc dn dc V
  have HG := Lib.hid hg
  have HL := Lib.hid hl
  have t0 : (x.k != x.k) = false := by simp
  have t1 : ((dn : Int) != (dn : Int)) = false := by simp
  have t2 : (x.k == 0) = false := by rw [beq_eq_false_iff_ne]; omega
  unfold recV at *
  rw [ea, eb, ec, ed] at K1 K2 ⊢
  clear h h' g g' hi hg hl hr hk hb1 hb2 hq2 ea eb ec ed
  generalize x.k = xk at *
  go_enter Tryd.func10, Tryd.ntmps10
  go_wp2_with fail
  refine (KP _).mono ?_
  rintro e w1 ⟨rfl, hb1⟩
  have HB1 := Lib.hid (HB0.out.trans (hb1.mono HB0.out.size))
  have hx1 := (hb1.block (w.heap.size + 1) (by simp)).trans HQ2.out
  have HX1 := Lib.hid hx1
  have KA := K1.out w1 HB1.out
  clear hb1 hx1 KP K1 HQ2
  go_wp2_with fail
  refine KA.mono ?_
  rintro e w2 ⟨hb2, hcase⟩
  rcases hcase with ⟨hx, _⟩ | ⟨_, hx, _⟩ | ⟨_, _, v2, rfl, ho2⟩
  · rw [HG.out] at hx; cases hx
  · exact absurd hx (by have := HL.out; omega)
  have hx2 := (hb2.block (w.heap.size + 1) (lt_of_heap HX1.out)).trans HX1.out
  obtain ⟨q0, q1, q2, q3, q4, q5, q6, q7, q8⟩ := boxN (n := w.heap.size + 1) hx2
  have HB2 := Lib.hid (HB1.out.trans (hb2.mono HB1.out.size))
  have KB := K2.out w2 HB2.out
  have HO2 : Hid (Holds w2 v2 (u8s (bytR x))) := Lib.hid (Holds.of_row (by rw [u8s_len]; exact ho2))
  clear hb2 ho2 hx2 KA K2
  go_wp2_with fail
  refine KB.mono ?_
  rintro e w3 ⟨hb3, hcase⟩
  rcases hcase with ⟨hx, _⟩ | ⟨_, hx, _⟩ | ⟨_, _, v3, rfl, ho3⟩
  · rw [HG.out] at hx; cases hx
  · exact absurd hx (by have := HL.out; omega)
  have FIN := HB2.out.trans (hb3.mono HB2.out.size)
  have KS := Same_any (HO2.out.below hb3) (Holds.of_row (by rw [u8s_len]; exact ho3) : Holds w3 v3 (u8s (bytR x)))
  rw [decide_eq_true rfl] at KS
  clear hb3 ho3 KB
  go_wp2_with fail
  refine KS.mono ?_
  rintro e w4 ⟨rfl, rfl⟩
  go_wp2_with fail
  go_ret
  exact ⟨rfl, FIN⟩
end Go.Proofs.YtkjdilhhdphjgaaDoor
/- The walk of RecordCuts: its first loop. Conditions: the table of Sum; sizes as a narrow input has them. -/
set_option maxRecDepth 100000
namespace Go.Proofs.YtkjdilhhdphjgaaDoor
open Go.ChangeShapes Go.WideShapes Go.RowKit Go.Maps Go.Sort Go.Lib

def fsts (ys : List RQ) : List RV := ys.map (·.1)
/-- a record that came in and is told -/
def ToldR (w : World) (q : RQ) : Prop := RecH w q.1 q.2.1 q.2.2.1 q.2.2.2.1 q.2.2.2.2 ∧ q.1.inI ∧ Sizes 1048576 q.1 ∧ WhR q.1
/-- the first loop's state -/
structure CutS (w : World) (HD : List UInt8) (W : World) (bv iv : Value) (ys : List RQ) : Prop where
  base : Below w.heap.size w W
  b : W.ownsRow w.heap.size 5 1 bv (HD ++ logL (fsts ys)).length (u8s (HD ++ logL (fsts ys)))
  i : W.ownsRow w.heap.size 36 9 iv ys.length (fl9 ys)
  all : ∀ y ∈ ys, ToldR w y
  len : (HD ++ logL (fsts ys)).length ≤ 800000
theorem CutS.next {w W W' : World} {HD : List UInt8} {bv iv : Value} {ys : List RQ} (h : CutS w HD W bv iv ys) (hb : Below W.heap.size W W') : CutS w HD W' bv iv ys :=
  ⟨h.base.trans (hb.mono h.base.size), ownsRow_below h.b hb, ownsRow_below h.i hb, h.all, h.len⟩
theorem CutS.hold {w W : World} {HD : List UInt8} {bv iv : Value} {ys : List RQ} (h : CutS w HD W bv iv ys) : Holds W bv (u8s (HD ++ logL (fsts ys))) := Holds.of_row (by rw [u8s_len]; exact h.b)
/-- a record more: its frame behind the bytes, itself behind the list -/
theorem CutS.push {w W V : World} {HD : List UInt8} {bv iv b2 : Value} {ys : List RQ} {q : RQ} (h : CutS w HD W bv iv ys) (hb : Below W.heap.size W V) (hq : ToldR w q) (ho : V.ownsRow w.heap.size 5 1 b2 ((HD ++ logL (fsts ys)) ++ frameL (bytR q.1)).length (u8s ((HD ++ logL (fsts ys)) ++ frameL (bytR q.1))))
    (hl : (HD ++ logL (fsts ys)).length ≤ 500000) (hy : ys.length ≤ 1000000) :
    ∃ a c W2, Hid (∀ ty, (Builtin.append_ #[22, 22] ty #[iv, .slice (some ⟨V.heap.size, 0, none⟩) 1 1]).run Tryd.prog (V.alloc (.cells (rcells q).toArray 36)) = .ok (.slice a (ys.length + 1) c) W2) ∧ Hid (CutS w HD W2 b2 (.slice a (ys.length + 1) c) (ys ++ [q])) := by
  have hV := h.next hb
  have hb1 := below_o V (.cells (rcells q).toArray 36)
  have hV1 := hV.next hb1
  obtain ⟨v3, W3, r, o, g⟩ := app_recs (M := 1048576) hV1.i hV1.base.size (one_rec (heap_alloc_new V _) ⟨hq.1.below hV1.base, hq.2.1, hq.2.2.1⟩) (by simp; omega)
  have ho1 := ownsRow_below ho hb1
  have hb3 : W3.ownsRow w.heap.size 5 1 b2 ((HD ++ logL (fsts ys)) ++ frameL (bytR q.1)).length (u8s ((HD ++ logL (fsts ys)) ++ frameL (bytR q.1))) := ownsRow_of_block ho1 fun k hk => by
    obtain ⟨cur, hc⟩ := row_typ ho1 k hk
    exact g.block k (lt_of_heap hc) (fun e => row_ne hV1.i hc (by decide) k e.symm rfl)
  obtain ⟨a, c, rfl, _⟩ := ownsRow_form o
  have e : HD ++ logL (fsts (ys ++ [q])) = (HD ++ logL (fsts ys)) ++ frameL (bytR q.1) := by
    have : fsts (ys ++ [q]) = fsts ys ++ [q.1] := by simp [fsts]
    rw [this, log_snoc, List.append_assoc]
  have hn : (ys ++ [q]).length = ys.length + 1 := by simp
  rw [hn] at r o
  refine ⟨a, c, W3, Lib.hid r, Lib.hid ⟨hV1.base.trans (below_grown g hV1.base.size (ownsRow_ge hV1.i)), by rw [e]; exact hb3, by rw [hn]; exact o, fun y hy => ?_, ?_⟩⟩
  · rcases List.mem_append.1 hy with hy | hy
    · exact h.all y hy
    · rw [List.mem_singleton] at hy
      subst hy
      exact hq
  · have := hq.2.2.2.2.2
    rw [e, List.length_append, frameL_len]
    omega
end Go.Proofs.YtkjdilhhdphjgaaDoor
/- The walk of RecordCuts. Conditions: the table of Sum; sizes as a narrow input has them. -/
set_option maxRecDepth 100000
namespace Go.Proofs.YtkjdilhhdphjgaaDoor
open Go.ChangeShapes Go.WideShapes Go.RowKit Go.Maps Go.Sort Go.Lib

theorem fsts_len (ys : List RQ) : (fsts ys).length = ys.length := by simp [fsts]
theorem rec_at_own {W : World} {B : Nat} {a : Option Addr} {n c : Nat} {qs : List RQ} (h : W.ownsRow B 36 9 (.slice a n c) qs.length (fl9 qs)) {i : Nat} {q : RQ} (hq : qs[i]? = some q) :
    ∃ ad : Addr, a = some ad ∧ ∀ j u, (rcells q)[j]? = some u → W.cell? (ad.add (i * 9 + j)) = some u := by
  rcases h.2 with ⟨e, hn⟩ | ⟨g, cap, cur, e, _⟩
  · have : qs = [] := List.eq_nil_of_length_eq_zero hn
    subst this
    simp at hq
  · cases e
    exact ⟨_, rfl, fun j u hu => h.cells (g := g) rfl _ _ (fl9_at qs i q hq j u hu)⟩
theorem first_nil : firstR [] = none := by
  have : unfL [] = none := by unfold unfL; rw [if_pos (by simp)]
  unfold firstR
  rw [this]
  rfl
theorem u8s_take (l : List UInt8) (m : Nat) : (u8s l).take m = u8s (l.take m) := by simp [u8s, List.map_take]
theorem CutS.told {w W : World} {HD : List UInt8} {bv iv : Value} {ys : List RQ} (h : CutS w HD W bv iv ys) : ∀ x ∈ fsts ys, WhR x := fun x hx => by
  obtain ⟨y, hy, rfl⟩ := List.mem_map.1 hx
  exact (h.all y hy).2.2.2
/-- what a cut log tells -/
structure PartR (V : World) (ys : List RQ) (L kk : Nat) (qs : List RQ) (a : Option Addr) (j c n3 : Nat) (W : World) : Prop where
  recs : RecsOk V.heap.size qs (.slice a j c) W
  fst : fsts qs = (fsts ys).take j
  len : qs.length = j
  le : j ≤ ys.length
  num : n3 ≤ kk
  whole : kk = L → j = ys.length
theorem cut_scan {w W V : World} {HD : List UInt8} {iv : Value} {ys : List RQ} {pb : Option Addr} {L cb id kk : Nat} (hq : Quads V) (h : CutS w HD W (.slice pb L cb) iv ys) (hb : Below W.heap.size W V) (hL : (HD ++ logL (fsts ys)).length = L) (hH : headL id = HD) (hid : id < 18446744073709551616) (hk : kk ≤ L) :
    Calls Tryd.prog 8 #[.slice pb kk cb, .int .u64 (id : Int)] V fun e w' => Below V.heap.size V w' ∧
      ((kk < HD.length ∧ e = .returned (.tuple #[.slice none 0 0, .int .i64 0, .bool false])) ∨
       (HD.length ≤ kk ∧ ∃ qs a j c n3, e = .returned (.tuple #[.slice a j c, .int .i64 ((n3 : Nat) : Int), .bool true]) ∧ PartR V ys L kk qs a j c n3 w')) := by
  have hh := ((h.hold).below hb).take kk (by rw [hL] at *; exact hk)
  rw [u8s_take] at hh
  have hlen := h.len
  refine (scan_any hq hh (by rw [List.length_take]; omega) id hid).mono ?_
  subst hH
  rintro e w' ⟨hb2, ⟨hp, qs, v, h1, rfl, h2⟩ | ⟨hp, rfl⟩⟩
  · refine ⟨hb2, .inr ?_⟩
    have hkk : (headL id).length ≤ kk := by
      rcases Nat.lt_or_ge kk (headL id).length with g | g
      · rw [head_cut g] at hp; cases hp
      · exact g
    obtain ⟨_, hd⟩ := head_whole (i := id) (l := logL (fsts ys)) hkk
    rw [hd] at h1
    rw [hd]
    obtain ⟨j, j1, j2, j3, j4⟩ := scan_cut (fsts ys) (kk - (headL id).length) h.told
    rw [j2] at h1
    have hql : qs.length = j := by
      have : (qs.map (·.1)).length = ((fsts ys).take j).length := by rw [h1]
      rw [List.length_map, List.length_take] at this
      omega
    obtain ⟨a, c, hv, _⟩ := ownsRow_form h2.row
    rw [hql] at hv
    subst hv
    refine ⟨hkk, qs, a, j, c, _, rfl, ⟨h2, h1, hql, by rw [← fsts_len ys]; exact j1, by omega, fun e => ?_⟩⟩
    rw [j4 (by rw [e, ← hL, List.length_append]; omega), fsts_len]
  · refine ⟨hb2, .inl ⟨?_, rfl⟩⟩
    rcases Nat.lt_or_ge kk (headL id).length with g | g
    · exact g
    · rw [(head_whole g).1] at hp; cases hp
set_option maxHeartbeats 12800000 in
theorem cuts_walk {w : World} (hqd : Quads w) {lv : Value} {qs : List RQ} (hl : RecsH 1048576 w lv qs) (hll : qs.length ≤ 1048576) (id : Nat) (hid : id < 18446744073709551616) (cut : Nat) (hcut : cut < 18446744073709551616) :
    Calls Tryd.prog 3 #[lv, .int .u64 (id : Int), .int .u64 (cut : Int)] w fun e w' => e = .returned (.bool true) ∧ Below w.heap.size w w' := by
  have HQ := Lib.hid (fun (W : World) (hb : Below w.heap.size w W) => hqd.below hb hqd.1)
  have KB := begin_any hqd id hid
  have hhl := head_len hid
  obtain ⟨HD, hHD⟩ : ∃ H, headL id = H := ⟨_, rfl⟩
  rw [hHD] at KB hhl
  have HHD := Lib.hid hHD
  have HHL := Lib.hid hhl
  have HID := Lib.hid hid
  have HCUT := Lib.hid hcut
  obtain ⟨N, hN⟩ : ∃ n, qs.length = n := ⟨_, rfl⟩
  obtain ⟨pR, cR, hv⟩ := hl.slice
  subst hv
  have HR := Lib.hid hl
  have HN := Lib.hid hN
  rw [hN] at hll HR ⊢
  have HLL := Lib.hid hll
  clear hqd hl hHD hid hcut hhl hN hll
  go_enter Tryd.func3, Tryd.ntmps3
  go_wp2_with fail
  refine KB.mono ?_
  rintro e w1 ⟨v1, rfl, ho1, hb1⟩
  have HS0 : Hid (CutS w HD w1 v1 (.slice none 0 0) []) := Lib.hid ⟨hb1, by (rw [show HD ++ logL (fsts []) = HD by simp [logL, manyL, fsts]]; exact ho1), World.ownsRow_nil _ _ _ _, fun y hy => (by cases hy), by (rw [show HD ++ logL (fsts []) = HD by simp [logL, manyL, fsts]]; have := HHL.out; omega)⟩
  clear ho1 hb1 KB
  go_wp2_with fail
  go_loopw [7, 8, 27] (fun s7 s8 s27 W => ∃ (i : Nat) (bv iv : Value) (ys : List RQ), s27 = .int .i64 i ∧ bv = s7 ∧ iv = s8 ∧ i ≤ N ∧ Hid (CutS w HD W bv iv ys)) (fun _ _ k _ => N - (RowKit.intOf k).toNat)
  case atStart => exact ⟨0, _, _, [], rfl, rfl, rfl, Nat.zero_le _, HS0⟩
  case round =>
    clear HS0
    obtain ⟨i, bv, iv, ys, rfl, rfl, rfl, hiN, HS⟩ := hrel
    by_cases hlt : i < N
    · obtain ⟨⟨y, ya, yb, yc, yd⟩, hq⟩ : ∃ q, qs[i]? = some q := ⟨_, List.getElem?_eq_getElem (by rw [HN.out]; exact hlt)⟩
      obtain ⟨ad, rfl, hcw⟩ := HR.out.at_ hq
      have hQ := HR.out.all _ (List.mem_of_getElem? hq)
      simp only at hQ
      obtain ⟨p1, pc, q1, qc, r1, rc, s1, sc, rfl, rfl, rfl, rfl⟩ := hQ.1.form
      obtain ⟨pn, qn, rn, sn, e1, e2, e3, e4⟩ : ∃ an bn cn dn, y.tc.length = an ∧ y.rd.length = bn ∧ y.rm.length = cn ∧ y.ws.length = dn := ⟨_, _, _, _, rfl, rfl, rfl, rfl⟩
      have hwr := HS.out.base
      obtain ⟨c0, c1, c2, c3, c4, c5, c6, c7, c8⟩ := rec_cells (fun j u hu => kept_below hwr _ _ (hcw j u hu))
      have KY := Lib.hid (fun (V : World) (hb : Below w.heap.size w V) => rbytes_all (hQ.1.below hb) hQ.2.1 (hQ.2.2.fit (by omega)) (narrow_bytes hQ.2.1 hQ.2.2))
      have KG := Lib.hid (fun (V : World) (hb : Below w.heap.size w V) => great_any (hQ.1.below hb) (hQ.2.2.len (by omega)))
      have HW := Lib.hid (fun (hg : goodR y = true) (ht : Fits y → tot4 y ≤ 100000) => (⟨hQ.1, hQ.2.1, hQ.2.2, hg, hQ.2.1, by
        have hf := hQ.2.2.fits (by omega) hg
        exact small_bytes hg hQ.2.1 hf (ht hf)⟩ : ToldR w (y, .slice p1 y.tc.length pc, .slice q1 y.rd.length qc, .slice r1 y.rm.length rc, .slice s1 y.ws.length sc)))
      unfold recV at KY KG
      rw [e1] at c2
      rw [e2] at c5
      rw [e3] at c6
      rw [e4] at c8
      rw [e1, e2, e3, e4] at KY KG
      have HE := Lib.hid (And.intro e1 (And.intro e2 (And.intro e3 e4)))
      have b0 : (0 : Int) ≤ (i : Int) := Int.natCast_nonneg i
      have b1 : (i : Int) < (N : Int) := Int.ofNat_lt.2 hlt
      have hw64 := wrap_next hlt (by have := HLL.out; omega)
      have hb4 := below_o wr (.cells #[.int .i64 y.k, .string y.tn, .slice p1 pn pc, .string y.rn, .string y.rt, .slice q1 qn qc, .slice r1 rn rc, .string y.nm, .slice s1 sn sc] 36)
      have hbx := heap_alloc_new wr (.cells #[.int .i64 y.k, .string y.tn, .slice p1 pn pc, .string y.rn, .string y.rt, .slice q1 qn qc, .slice r1 rn rc, .string y.nm, .slice s1 sn sc] 36)
      have KYw := KY.out _ (hwr.trans (hb4.mono hwr.size))
      have HX4 := Lib.hid hbx
      have S4 := Lib.hid (HS.out.next hb4)
      obtain ⟨pb, cb, hbv, hcb⟩ := ownsRow_form HS.out.b
      have hL8 := HS.out.len
      obtain ⟨L, hL⟩ : ∃ L, L = (HD ++ logL (fsts ys)).length := ⟨_, rfl⟩
      rw [← hL] at hbv hL8 hcb
      subst hbv
      have HL8 := Lib.hid (And.intro hL hL8)
      have hm8 : ys.length * 8 ≤ L := by have := log_len (fsts ys); rw [fsts_len] at this; rw [hL, List.length_append]; omega
      have HM8 := Lib.hid hm8
      have hi1 : i + 1 ≤ N := hlt
      have hmz : N - (i + 1) < N - i := by omega
      have HMZ := Lib.hid (And.intro hi1 hmz)
      clear hQ hq hcw hwr e1 e2 e3 e4 hlt hiN hb4 hbx hL hL8 hm8 hmz hi1 HS KY
      go_wp2_with fail
      refine KYw.mono ?_
      rintro e w4 ⟨hb4, hcase⟩
      have S5 := Lib.hid (S4.out.next hb4)
      rcases hcase with ⟨hg, rfl⟩ | ⟨hg, hlong, rfl⟩ | ⟨hg, hlen, v4, rfl, ho4⟩
      · clear hb4 hg S4 KYw KG HW
        go_wp2_with fail
        go_roundw
        case rel => exact ⟨i + 1, _, _, ys, by go_num, rfl, rfl, HMZ.out.1, S5⟩
        case measure => have := HMZ.out.2; simp [RowKit.intOf]; omega
      · clear hb4 hg hlong S4 KYw KG HW
        go_wp2_with fail
        go_roundw
        case rel => exact ⟨i + 1, _, _, ys, by go_num, rfl, rfl, HMZ.out.1, S5⟩
        case measure => have := HMZ.out.2; simp [RowKit.intOf]; omega
      · have hx5 : w4.heap[wr.heap.size]? = some (.cells #[.int .i64 y.k, .string y.tn, .slice p1 pn pc, .string y.rn, .string y.rt, .slice q1 qn qc, .slice r1 rn rc, .string y.nm, .slice s1 sn sc] 36 (0, 0)) := by
          rw [hb4.block _ (by simp)]; exact HX4.out
        obtain ⟨d0, d1, d2, d3, d4, d5, d6, d7, d8⟩ := box_cells hx5
        have KGw := KG.out w4 S5.out.base
        have HO4 : Hid (Holds w4 v4 (u8s (bytR y))) := Lib.hid (Holds.of_row (by rw [u8s_len]; exact ho4))
        obtain ⟨v4a, v4c, hv4, _⟩ := ownsRow_form ho4
        subst hv4
        have HG := Lib.hid hg
        have HLE := Lib.hid hlen
        have HX5 := Lib.hid hx5
        clear hb4 hg hlen ho4 S4 hx5 KYw KG
        go_wp2_with fail
        refine KGw.mono ?_
        rintro e w5 ⟨bq, rfl, hbq, hb5⟩
        have S6 := Lib.hid (S5.out.next hb5)
        have HO5 := Lib.hid (HO4.out.below hb5)
        have HX6 := Lib.hid ((hb5.block wr.heap.size (lt_of_heap HX5.out)).trans HX5.out)
        clear d0 d1 d2 d3 d4 d5 d6 d7 d8
        cases bq
        · have HWY := Lib.hid (HW.out HG.out (hbq rfl))
          clear hb5 hbq KGw HW S5 HO4
          by_cases h5 : 500000 < L
          · have t0 : decide ((500000 : Int) < (L : Int)) = true := decide_eq_true (by omega)
            clear h5
            go_wp2_with fail
            go_roundw
            case rel => exact ⟨i + 1, _, _, ys, by go_num, rfl, rfl, HMZ.out.1, S6⟩
            case measure => have := HMZ.out.2; simp [RowKit.intOf]; omega
          · have t0 : decide ((500000 : Int) < (L : Int)) = false := decide_eq_false (by omega)
            have hL5 : L ≤ 500000 := by omega
            have hS6 := S6.out
            have hh6 := hS6.hold
            obtain ⟨v2, w6, r6, o6, hb6⟩ := copy_more hh6 (Nat.le_trans hS6.len (by decide))
            have hB6 := hS6.base.trans (hb6.mono hS6.base.size)
            have KF := Frame_any (HQ.out w6 hB6) (HO5.out.below hb6) HLE.out
            have O6 := Lib.hid o6
            have HB6 := Lib.hid hb6
            have HL5 := Lib.hid hL5
            obtain ⟨bl, hbl⟩ : ∃ n, (bytR y).length = n := ⟨_, rfl⟩
            rw [hbl] at KF ⊢
            clear h5 hL5 o6 hb6 hB6 hbl hS6 hh6
            go_wp2_with (at_builtin; refine wpList_append_run rfl _ _ 25 rfl rfl rfl (r6.out _) ?_)
            refine KF.mono ?_
            rintro e w7 ⟨v7, rfl, h7⟩
            have h7 := h7.out
            have hO7 : Holds w7 v7 (u8s (frameL (bytR y))) := Holds.of_row (by rw [u8s_len]; exact h7.1)
            obtain ⟨v8, w8, r8, o8, hb8⟩ := more_at (ownsRow_below O6.out h7.2) (HB6.out.trans (h7.2.mono HB6.out.size)) hO7 (Nat.le_trans S6.out.len (by decide)) (by rw [frameL_len]; have := HLE.out; omega)
            have o8' := ownsRow_rebase (B := w.heap.size) o8 (fun g hg => Nat.le_trans S6.out.base.size (o8.lt g hg).1)
            obtain ⟨a9, c9, W9, r9, S9⟩ := CutS.push (q := (y, .slice p1 y.tc.length pc, .slice q1 y.rd.length qc, .slice r1 y.rm.length rc, .slice s1 y.ws.length sc)) S6.out hb8 HWY.out o8' (by rw [← HL8.out.1]; exact HL5.out) (by have := HM8.out; have := HL5.out; omega)
            have hx8 := (hb8.block wr.heap.size (lt_of_heap HX6.out)).trans HX6.out
            obtain ⟨d0, d1, d2, d3, d4, d5, d6, d7, d8⟩ := box_cells hx8
            have R8 := r8
            simp only [rcells] at r9
            rw [HE.out.1, HE.out.2.1, HE.out.2.2.1, HE.out.2.2.2] at r9
            have R9 := r9
            clear h7 hO7 r8 o8 hb8 KF O6 HB6 S6 HO5 o8' hx8 r9
            go_wp2_with (at_builtin; first | refine wpList_append_run rfl (.tmp 49) (.tmp 51) 25 rfl rfl rfl (R8.out _) ?_ | refine wpList_append_run rfl (.tmp 53) (.tmp 55) 22 rfl rfl rfl (R9.out _) ?_)
            go_roundw
            case rel => exact ⟨i + 1, _, _, _, by go_num, rfl, rfl, HMZ.out.1, S9⟩
            case measure => have := HMZ.out.2; simp [RowKit.intOf]; omega
        · clear hb5 hbq KGw HW S5 HO4
          go_wp2_with fail
          go_roundw
          case rel => exact ⟨i + 1, _, _, ys, by go_num, rfl, rfl, HMZ.out.1, S6⟩
          case measure => have := HMZ.out.2; simp [RowKit.intOf]; omega
    · obtain ⟨pb, cb, hbv, hcb⟩ := ownsRow_form HS.out.b
      obtain ⟨pi, ci, hiv, hci⟩ := ownsRow_form HS.out.i
      obtain ⟨L, hL⟩ : ∃ L, (HD ++ logL (fsts ys)).length = L := ⟨_, rfl⟩
      obtain ⟨M, hM⟩ : ∃ M, ys.length = M := ⟨_, rfl⟩
      rw [hL] at hbv hcb
      rw [hM] at hiv hci
      subst hbv hiv
      have hlen := HS.out.len
      rw [hL] at hlen
      have hwr := HS.out.base
      have KS1 : Calls Tryd.prog 8 #[.slice pb L cb, .int .u64 (id : Int)] wr fun e w' => ∃ a c, e = .returned (.tuple #[.slice a M c, .int .i64 (L : Int), .bool true]) ∧ Below wr.heap.size wr w' := by
        have h1 := scan_built (ext := []) (id := id) (xs := fsts ys) (HQ.out wr hwr) HHD.out (by rw [List.append_nil]; exact HS.out.hold) (by rw [List.append_nil, hL]; omega) HID.out HS.out.told first_nil
        rw [hL, fsts_len, hM] at h1
        exact h1
      obtain ⟨id2, hid2, hw2, hne⟩ : ∃ id2 : Nat, id2 < 18446744073709551616 ∧ IntKind.u64.wrap ((id : Int) + 1) = (id2 : Int) ∧ id2 ≠ id := by
        have := HID.out
        refine ⟨(id + 1) % 18446744073709551616, Nat.mod_lt _ (by decide), by rw [IntKind.wrap_u64]; omega, by omega⟩
      have KS2 := Lib.hid (fun (V : World) (hb : Below wr.heap.size wr V) => scan_any (HQ.out V (hwr.trans (hb.mono hwr.size))) (HS.out.hold.below hb) (by rw [hL]; omega) id2 hid2)
      have HP2 : Hid ((headL id2).isPrefixOf (HD ++ logL (fsts ys)) = false) := Lib.hid (by rw [← HHD.out]; exact head_other HID.out hid2 hne _)
      obtain ⟨kk, hkk⟩ : ∃ kk, cut % (L + 1) = kk := ⟨_, rfl⟩
      have hkL : kk ≤ L := by have := Nat.mod_lt cut (show 0 < L + 1 by omega); omega
      have KS3 := Lib.hid (fun (V : World) (hb : Below wr.heap.size wr V) => cut_scan (HQ.out V (hwr.trans (hb.mono hwr.size))) HS.out hb hL HHD.out HID.out hkL)
      have HKL := Lib.hid hkL
      have HLM := Lib.hid (And.intro hL (And.intro hM hlen))
      have HKK := Lib.hid hkk
      have HW := Lib.hid hwr
      have hlt' : ¬ ((i : Int) < (N : Int)) := by omega
      clear hlt hiN hcb hci hL hM hlen hwr hid2 hne hkk hkL
      go_wp2_with fail
      refine KS1.mono ?_
      rintro e w2 ⟨a2, c2, rfl, hb2⟩
      have HB2 := Lib.hid hb2
      have KS2' := KS2.out w2 hb2
      clear KS1 KS2 hb2
      go_wp2_with fail
      refine KS2'.mono ?_
      rintro e w3 ⟨hb3, ⟨hp, _⟩ | ⟨_, rfl⟩⟩
      · rw [HP2.out] at hp; cases hp
      have HB3 := Lib.hid (HB2.out.trans (hb3.mono HB2.out.size))
      have KS3' := KS3.out w3 HB3.out
      clear KS2' KS3 hb3 HP2 HB2
      have x1 : wrap64 ((L : Int) + 1) = (L : Int) + 1 := by have := HLM.out.2.2; unfold wrap64; omega
      have x2 : IntKind.u64.wrap ((L : Int) + 1) = (L : Int) + 1 := by have := HLM.out.2.2; rw [IntKind.wrap_u64]; omega
      have x3 : (cut : Int) % ((L : Int) + 1) = (kk : Int) := by rw [← HKK.out]; simp
      have x4 : wrap64 (kk : Int) = (kk : Int) := by have := HLM.out.2.2; have := HKL.out; unfold wrap64; omega
      have x5 : ¬ ((L : Int) + 1 = 0) := by omega
      have x6 : (0 : Int) ≤ (kk : Int) := Int.natCast_nonneg kk
      have x7 : (kk : Int) ≤ (cb : Int) := by
        have h1 := HS.out.b
        rw [HLM.out.1] at h1
        obtain ⟨_, _, e, h2⟩ := ownsRow_form h1
        cases e
        have := HKL.out
        omega
      go_wp2_with fail
      refine KS3'.mono ?_
      rintro e w4 ⟨hb4, ⟨hk4, rfl⟩ | ⟨hk4, ps, a4, j, c4, n4, rfl, hP⟩⟩
      · have HB4 := Lib.hid (HB3.out.trans (hb4.mono HB3.out.size))
        have hBw := HW.out.trans (HB4.out.mono HW.out.size)
        have KB4 := begin_any (HQ.out w4 hBw) id HID.out
        rw [HHD.out] at KB4
        have HBW := Lib.hid hBw
        obtain ⟨hn, hhn⟩ : ∃ n, HD.length = n := ⟨_, rfl⟩
        rw [hhn] at hk4
        have t1 : decide ((kk : Int) < (hn : Int)) = true := decide_eq_true (by omega)
        have HHN := Lib.hid hhn
        clear hb4 hBw KS3' x1 x2 x3 x5 x6 x7 hhn HHL
        go_wp2_with fail
        refine KB4.mono ?_
        rintro e w5 ⟨v5, rfl, ho5, hb5⟩
        obtain ⟨va5, vc5, hv5, _⟩ := ownsRow_form ho5
        rw [HHN.out] at hv5
        subst hv5
        have hb5w := HBW.out.trans (hb5.mono HBW.out.size)
        have KL5 := rlives_any (HQ.out w5 hb5w)
        have HB5 := Lib.hid hb5w
        clear hb5w hb5 ho5 KB4
        go_wp2_with fail
        refine KL5.mono ?_
        rintro e w6 ⟨rfl, hb6⟩
        go_wp2_with fail
        go_ret
        exact ⟨rfl, HB5.out.trans (hb6.mono HB5.out.size)⟩
      · have HP := Lib.hid hP
        have HB4 := Lib.hid (HB3.out.trans (hb4.mono HB3.out.size))
        have HBW := Lib.hid (HW.out.trans (HB4.out.mono HW.out.size))
        have hn4 : n4 ≤ kk := hP.num
        have hn4' : ¬ kk < n4 := by omega
        have hjM : j ≤ M := by rw [← HLM.out.2.1]; exact hP.le
        have hjM' : ¬ M < j := by omega
        have HJM := Lib.hid hjM
        have t3 : (((kk : Int) == (L : Int)) && ((j : Int) != (M : Int))) = false := by
          by_cases e : kk = L
          · have := hP.whole e
            rw [HLM.out.2.1] at this
            subst this
            simp
          · have : ((kk : Int) == (L : Int)) = false := by rw [beq_eq_false_iff_ne]; omega
            rw [this]; rfl
        have hJ : ((kk : Int) == (L : Int)) = false ∨ ((kk : Int) == (L : Int)) = true ∧ ((j : Int) != (M : Int)) = false := by
          cases e : ((kk : Int) == (L : Int))
          · exact .inl rfl
          · rw [e] at t3; exact .inr ⟨rfl, t3⟩
        have HHP := Lib.hid (fun (V : World) (hV : Below w4.heap.size w4 V) => And.intro (RecsOk.next hP.recs hV) (HS.out.next (HB4.out.trans (hV.mono HB4.out.size))))
        clear hb4 KS3' hk4 x1 x2 x3 x5 x6 x7 hP t3
        have main : ∀ (b1 b2 : Bool), ((kk : Int) == (L : Int)) = b1 → (b1 = true → ((j : Int) != (M : Int)) = false) → True := fun _ _ _ _ => trivial
        clear main
        rcases hJ with hJ | ⟨hJ, hJ2⟩
        · go_wp2_with fail
          clear hn4 hn4' hjM hjM' x4
          go_loopw [149] (fun s' W => ∃ q : Nat, s' = .int .i64 q ∧ q ≤ j ∧ Hid (Below w4.heap.size w4 W)) (fun s' _ => j - (RowKit.intOf s').toNat)
          case atStart => exact ⟨0, rfl, by omega, Lib.hid (Below.refl _ _)⟩
          case round =>
            obtain ⟨q, rfl, hqj, hbq⟩ := hrel
            by_cases hlq : q < j
            · obtain ⟨hPW, hSW⟩ := HHP.out wr hbq.out
              obtain ⟨⟨x, pa, pb1, pc1, pd1⟩, hp⟩ : ∃ p, ps[q]? = some p := ⟨_, List.getElem?_eq_getElem (by rw [HP.out.len]; exact hlq)⟩
              have hqM : q < M := by have := HJM.out; omega
              obtain ⟨⟨y, ya, yb, yc, yd⟩, hy⟩ : ∃ y, ys[q]? = some y := ⟨_, List.getElem?_eq_getElem (by rw [HLM.out.2.1]; exact hqM)⟩
              have hxy : x = y := by
                have h1 : (fsts ps)[q]? = some x := by unfold fsts; rw [List.getElem?_map, hp]; rfl
                have h2 : (fsts ys)[q]? = some y := by unfold fsts; rw [List.getElem?_map, hy]; rfl
                rw [HP.out.fst, List.getElem?_take, if_pos hlq, h2] at h1
                exact (Option.some.inj h1).symm
              subst hxy
              have hT := HS.out.all _ (List.mem_of_getElem? hy)
              have hR1 := (hPW.all _ (List.mem_of_getElem? hp)).holds
              have hR2 : RecH wr x ya yb yc yd := hT.1.below (HBW.out.trans (hbq.out.mono HBW.out.size))
              simp only at hR1
              obtain ⟨ad1, rfl, hc1⟩ := rec_at_own hPW.row hp
              obtain ⟨ad2, rfl, hc2⟩ := rec_at_own hSW.i hy
              obtain ⟨p1, pc, q1, qc, r1, rc, s1, sc, rfl, rfl, rfl, rfl⟩ := hR1.form
              obtain ⟨p2, pc2, q2, qc2, r2, rc2, s2, sc2, rfl, rfl, rfl, rfl⟩ := hR2.form
              have hcx1 := rec_cells hc1
              have hcx2 := rec_cells hc2
              have KSm := fun (V : World) (hV : Below wr.heap.size wr V) => same_good (hR1.below hV) (hR2.below hV) hT.2.1 hT.2.2.2.1 hT.2.2.2.2.2 (hT.2.2.1.len (by omega)).2.2.2.2
              have SC1 := fun (V : World) (hV : Below wr.heap.size wr V) => And.intro (rec_cells fun j u hu => kept_below hV _ _ (hc1 j u hu)) (rec_cells fun j u hu => kept_below hV _ _ (hc2 j u hu))
              unfold recV at KSm
              obtain ⟨an, bn, cn, dn, e1, e2, e3, e4⟩ : ∃ an bn cn dn, x.tc.length = an ∧ x.rd.length = bn ∧ x.rm.length = cn ∧ x.ws.length = dn := ⟨_, _, _, _, rfl, rfl, rfl, rfl⟩
              rw [e1, e2, e3, e4] at KSm SC1
              have KSM := Lib.hid KSm
              have SC := Lib.hid SC1
              have KPl := fun (V : World) => plain_any x.k x.tn x.rn x.rt x.nm p2 q2 r2 s2 an pc2 bn qc2 cn rc2 dn sc2 V
              have l1 : (q : Int) < (j : Int) := Int.ofNat_lt.2 hlq
              have l2 : (q : Int) < (M : Int) := Int.ofNat_lt.2 hqM
              have l0 : (0 : Int) ≤ (q : Int) := Int.natCast_nonneg q
              have hwq := wrap_next hlq (by have := HJM.out; have := HLM.out.2.1; have := HS.out.len; have h8 := log_len (fsts ys); rw [fsts_len] at h8; rw [List.length_append] at this; omega)
              have HLQ := Lib.hid hlq
              clear hp hy hT hR1 hR2 hc1 hc2 hcx1 hcx2 KSm SC1 e1 e2 e3 e4 hlq hqM hPW hSW hqj
              go_wp2_with fail
              have hbr : Below wr.heap.size wr (wr.drewN 1) := below_dN (Below.refl _ _) 1
              refine wp_region_mix (fun W => (W.cell? (ad1.add (q * 9)) = some (.int .i64 x.k) ∧ W.cell? ⟨(ad1.add (q * 9)).block, (ad1.add (q * 9)).off + 1, none⟩ = some (.string x.tn) ∧ W.cell? ⟨(ad1.add (q * 9)).block, (ad1.add (q * 9)).off + 2, none⟩ = some (.slice p1 an pc) ∧ W.cell? ⟨(ad1.add (q * 9)).block, (ad1.add (q * 9)).off + 3, none⟩ = some (.string x.rn) ∧ W.cell? ⟨(ad1.add (q * 9)).block, (ad1.add (q * 9)).off + 4, none⟩ = some (.string x.rt) ∧ W.cell? ⟨(ad1.add (q * 9)).block, (ad1.add (q * 9)).off + 5, none⟩ = some (.slice q1 bn qc) ∧ W.cell? ⟨(ad1.add (q * 9)).block, (ad1.add (q * 9)).off + 6, none⟩ = some (.slice r1 cn rc) ∧ W.cell? ⟨(ad1.add (q * 9)).block, (ad1.add (q * 9)).off + 7, none⟩ = some (.string x.nm) ∧ W.cell? ⟨(ad1.add (q * 9)).block, (ad1.add (q * 9)).off + 8, none⟩ = some (.slice s1 dn sc)) ∧ (W.cell? (ad2.add (q * 9)) = some (.int .i64 x.k) ∧ W.cell? ⟨(ad2.add (q * 9)).block, (ad2.add (q * 9)).off + 1, none⟩ = some (.string x.tn) ∧ W.cell? ⟨(ad2.add (q * 9)).block, (ad2.add (q * 9)).off + 2, none⟩ = some (.slice p2 an pc2) ∧ W.cell? ⟨(ad2.add (q * 9)).block, (ad2.add (q * 9)).off + 3, none⟩ = some (.string x.rn) ∧ W.cell? ⟨(ad2.add (q * 9)).block, (ad2.add (q * 9)).off + 4, none⟩ = some (.string x.rt) ∧ W.cell? ⟨(ad2.add (q * 9)).block, (ad2.add (q * 9)).off + 5, none⟩ = some (.slice q2 bn qc2) ∧ W.cell? ⟨(ad2.add (q * 9)).block, (ad2.add (q * 9)).off + 6, none⟩ = some (.slice r2 cn rc2) ∧ W.cell? ⟨(ad2.add (q * 9)).block, (ad2.add (q * 9)).off + 7, none⟩ = some (.string x.nm) ∧ W.cell? ⟨(ad2.add (q * 9)).block, (ad2.add (q * 9)).off + 8, none⟩ = some (.slice s2 dn sc2))) 11 [(true, 0), (true, 1), (true, 2), (true, 3), (true, 4), (true, 5), (true, 6), (true, 7), (false, 8), (false, 9), (true, 10)] (by kernel_rfl) (by decide +kernel) rfl (by decide +kernel) (SC.out _ hbr) ?_
              iterate 8
                refine wpMix_take (v := ?_) rfl rfl ?_ ?_
                rotate_left
                · (intro W hW; (try dsimp only at hW); go_simp) <;> with_reducible rfl
                simp only [Act.put, List.setIfInBounds_toArray, List.set_cons_zero, List.set_cons_succ]
              refine wpMix_run rfl ?_
              intro K hK
              go_wp2_with fail
              refine (KPl _).mono ?_
              rintro e w6 ⟨rfl, hb6⟩
              have hb6w : Below wr.heap.size wr w6 := hbr.trans (hb6.mono hbr.size)
              clear hb6
              go_wp2_with fail
              refine hK.out _ _ (fun _ => SC.out _ hb6w) ?_
              clear hK K
              refine wpMix_run rfl ?_
              intro K hK
              go_wp2_with fail
              refine (KSM.out _ hb6w).mono ?_
              rintro e w7 ⟨rfl, hb7⟩
              have hb7w : Below wr.heap.size wr w7 := hb6w.trans (hb7.mono hb6w.size)
              clear hb7
              go_wp2_with fail
              refine hK.out _ _ (fun _ => SC.out _ hb7w) ?_
              clear hK K
              iterate 1
                refine wpMix_take (v := ?_) rfl rfl ?_ ?_
                rotate_left
                · (intro W hW; (try dsimp only at hW); go_simp) <;> with_reducible rfl
                simp only [Act.put, List.setIfInBounds_toArray, List.set_cons_zero, List.set_cons_succ]
              refine wpMix_nil ?_
              have HB7 := Lib.hid (hbq.out.trans (hb7w.mono hbq.out.size))
              clear SC KSM KPl hb7w hb6w hbr hbq
              go_wp2_with fail
              go_roundw
              case rel => exact ⟨q + 1, by go_num, by have := HLQ.out; omega, HB7⟩
              case measure => have := HLQ.out; simp [RowKit.intOf]; omega
            · have KLq := rlives_any (HQ.out wr (HBW.out.trans (hbq.out.mono HBW.out.size)))
              have hlq' : ¬ ((q : Int) < (j : Int)) := by omega
              clear hlq hqj
              go_wp2_with fail
              refine KLq.mono ?_
              rintro e w6 ⟨rfl, hb6⟩
              go_wp2_with fail
              go_ret
              have hf := HBW.out.trans (hbq.out.mono HBW.out.size)
              exact ⟨rfl, hf.trans (hb6.mono hf.size)⟩
        · go_wp2_with fail
          clear hn4 hn4' hjM hjM' x4
          go_loopw [149] (fun s' W => ∃ q : Nat, s' = .int .i64 q ∧ q ≤ j ∧ Hid (Below w4.heap.size w4 W)) (fun s' _ => j - (RowKit.intOf s').toNat)
          case atStart => exact ⟨0, rfl, by omega, Lib.hid (Below.refl _ _)⟩
          case round =>
            obtain ⟨q, rfl, hqj, hbq⟩ := hrel
            by_cases hlq : q < j
            · obtain ⟨hPW, hSW⟩ := HHP.out wr hbq.out
              obtain ⟨⟨x, pa, pb1, pc1, pd1⟩, hp⟩ : ∃ p, ps[q]? = some p := ⟨_, List.getElem?_eq_getElem (by rw [HP.out.len]; exact hlq)⟩
              have hqM : q < M := by have := HJM.out; omega
              obtain ⟨⟨y, ya, yb, yc, yd⟩, hy⟩ : ∃ y, ys[q]? = some y := ⟨_, List.getElem?_eq_getElem (by rw [HLM.out.2.1]; exact hqM)⟩
              have hxy : x = y := by
                have h1 : (fsts ps)[q]? = some x := by unfold fsts; rw [List.getElem?_map, hp]; rfl
                have h2 : (fsts ys)[q]? = some y := by unfold fsts; rw [List.getElem?_map, hy]; rfl
                rw [HP.out.fst, List.getElem?_take, if_pos hlq, h2] at h1
                exact (Option.some.inj h1).symm
              subst hxy
              have hT := HS.out.all _ (List.mem_of_getElem? hy)
              have hR1 := (hPW.all _ (List.mem_of_getElem? hp)).holds
              have hR2 : RecH wr x ya yb yc yd := hT.1.below (HBW.out.trans (hbq.out.mono HBW.out.size))
              simp only at hR1
              obtain ⟨ad1, rfl, hc1⟩ := rec_at_own hPW.row hp
              obtain ⟨ad2, rfl, hc2⟩ := rec_at_own hSW.i hy
              obtain ⟨p1, pc, q1, qc, r1, rc, s1, sc, rfl, rfl, rfl, rfl⟩ := hR1.form
              obtain ⟨p2, pc2, q2, qc2, r2, rc2, s2, sc2, rfl, rfl, rfl, rfl⟩ := hR2.form
              have hcx1 := rec_cells hc1
              have hcx2 := rec_cells hc2
              have KSm := fun (V : World) (hV : Below wr.heap.size wr V) => same_good (hR1.below hV) (hR2.below hV) hT.2.1 hT.2.2.2.1 hT.2.2.2.2.2 (hT.2.2.1.len (by omega)).2.2.2.2
              have SC1 := fun (V : World) (hV : Below wr.heap.size wr V) => And.intro (rec_cells fun j u hu => kept_below hV _ _ (hc1 j u hu)) (rec_cells fun j u hu => kept_below hV _ _ (hc2 j u hu))
              unfold recV at KSm
              obtain ⟨an, bn, cn, dn, e1, e2, e3, e4⟩ : ∃ an bn cn dn, x.tc.length = an ∧ x.rd.length = bn ∧ x.rm.length = cn ∧ x.ws.length = dn := ⟨_, _, _, _, rfl, rfl, rfl, rfl⟩
              rw [e1, e2, e3, e4] at KSm SC1
              have KSM := Lib.hid KSm
              have SC := Lib.hid SC1
              have KPl := fun (V : World) => plain_any x.k x.tn x.rn x.rt x.nm p2 q2 r2 s2 an pc2 bn qc2 cn rc2 dn sc2 V
              have l1 : (q : Int) < (j : Int) := Int.ofNat_lt.2 hlq
              have l2 : (q : Int) < (M : Int) := Int.ofNat_lt.2 hqM
              have l0 : (0 : Int) ≤ (q : Int) := Int.natCast_nonneg q
              have hwq := wrap_next hlq (by have := HJM.out; have := HLM.out.2.1; have := HS.out.len; have h8 := log_len (fsts ys); rw [fsts_len] at h8; rw [List.length_append] at this; omega)
              have HLQ := Lib.hid hlq
              clear hp hy hT hR1 hR2 hc1 hc2 hcx1 hcx2 KSm SC1 e1 e2 e3 e4 hlq hqM hPW hSW hqj
              go_wp2_with fail
              have hbr : Below wr.heap.size wr (wr.drewN 1) := below_dN (Below.refl _ _) 1
              refine wp_region_mix (fun W => (W.cell? (ad1.add (q * 9)) = some (.int .i64 x.k) ∧ W.cell? ⟨(ad1.add (q * 9)).block, (ad1.add (q * 9)).off + 1, none⟩ = some (.string x.tn) ∧ W.cell? ⟨(ad1.add (q * 9)).block, (ad1.add (q * 9)).off + 2, none⟩ = some (.slice p1 an pc) ∧ W.cell? ⟨(ad1.add (q * 9)).block, (ad1.add (q * 9)).off + 3, none⟩ = some (.string x.rn) ∧ W.cell? ⟨(ad1.add (q * 9)).block, (ad1.add (q * 9)).off + 4, none⟩ = some (.string x.rt) ∧ W.cell? ⟨(ad1.add (q * 9)).block, (ad1.add (q * 9)).off + 5, none⟩ = some (.slice q1 bn qc) ∧ W.cell? ⟨(ad1.add (q * 9)).block, (ad1.add (q * 9)).off + 6, none⟩ = some (.slice r1 cn rc) ∧ W.cell? ⟨(ad1.add (q * 9)).block, (ad1.add (q * 9)).off + 7, none⟩ = some (.string x.nm) ∧ W.cell? ⟨(ad1.add (q * 9)).block, (ad1.add (q * 9)).off + 8, none⟩ = some (.slice s1 dn sc)) ∧ (W.cell? (ad2.add (q * 9)) = some (.int .i64 x.k) ∧ W.cell? ⟨(ad2.add (q * 9)).block, (ad2.add (q * 9)).off + 1, none⟩ = some (.string x.tn) ∧ W.cell? ⟨(ad2.add (q * 9)).block, (ad2.add (q * 9)).off + 2, none⟩ = some (.slice p2 an pc2) ∧ W.cell? ⟨(ad2.add (q * 9)).block, (ad2.add (q * 9)).off + 3, none⟩ = some (.string x.rn) ∧ W.cell? ⟨(ad2.add (q * 9)).block, (ad2.add (q * 9)).off + 4, none⟩ = some (.string x.rt) ∧ W.cell? ⟨(ad2.add (q * 9)).block, (ad2.add (q * 9)).off + 5, none⟩ = some (.slice q2 bn qc2) ∧ W.cell? ⟨(ad2.add (q * 9)).block, (ad2.add (q * 9)).off + 6, none⟩ = some (.slice r2 cn rc2) ∧ W.cell? ⟨(ad2.add (q * 9)).block, (ad2.add (q * 9)).off + 7, none⟩ = some (.string x.nm) ∧ W.cell? ⟨(ad2.add (q * 9)).block, (ad2.add (q * 9)).off + 8, none⟩ = some (.slice s2 dn sc2))) 11 [(true, 0), (true, 1), (true, 2), (true, 3), (true, 4), (true, 5), (true, 6), (true, 7), (false, 8), (false, 9), (true, 10)] (by kernel_rfl) (by decide +kernel) rfl (by decide +kernel) (SC.out _ hbr) ?_
              iterate 8
                refine wpMix_take (v := ?_) rfl rfl ?_ ?_
                rotate_left
                · (intro W hW; (try dsimp only at hW); go_simp) <;> with_reducible rfl
                simp only [Act.put, List.setIfInBounds_toArray, List.set_cons_zero, List.set_cons_succ]
              refine wpMix_run rfl ?_
              intro K hK
              go_wp2_with fail
              refine (KPl _).mono ?_
              rintro e w6 ⟨rfl, hb6⟩
              have hb6w : Below wr.heap.size wr w6 := hbr.trans (hb6.mono hbr.size)
              clear hb6
              go_wp2_with fail
              refine hK.out _ _ (fun _ => SC.out _ hb6w) ?_
              clear hK K
              refine wpMix_run rfl ?_
              intro K hK
              go_wp2_with fail
              refine (KSM.out _ hb6w).mono ?_
              rintro e w7 ⟨rfl, hb7⟩
              have hb7w : Below wr.heap.size wr w7 := hb6w.trans (hb7.mono hb6w.size)
              clear hb7
              go_wp2_with fail
              refine hK.out _ _ (fun _ => SC.out _ hb7w) ?_
              clear hK K
              iterate 1
                refine wpMix_take (v := ?_) rfl rfl ?_ ?_
                rotate_left
                · (intro W hW; (try dsimp only at hW); go_simp) <;> with_reducible rfl
                simp only [Act.put, List.setIfInBounds_toArray, List.set_cons_zero, List.set_cons_succ]
              refine wpMix_nil ?_
              have HB7 := Lib.hid (hbq.out.trans (hb7w.mono hbq.out.size))
              clear SC KSM KPl hb7w hb6w hbr hbq
              go_wp2_with fail
              go_roundw
              case rel => exact ⟨q + 1, by go_num, by have := HLQ.out; omega, HB7⟩
              case measure => have := HLQ.out; simp [RowKit.intOf]; omega
            · have KLq := rlives_any (HQ.out wr (HBW.out.trans (hbq.out.mono HBW.out.size)))
              have hlq' : ¬ ((q : Int) < (j : Int)) := by omega
              clear hlq hqj
              go_wp2_with fail
              refine KLq.mono ?_
              rintro e w6 ⟨rfl, hb6⟩
              go_wp2_with fail
              go_ret
              have hf := HBW.out.trans (hbq.out.mono HBW.out.size)
              exact ⟨rfl, hf.trans (hb6.mono hf.size)⟩
end Go.Proofs.YtkjdilhhdphjgaaDoor
/- What a narrow input's bulk bounds: the parts of its records. Conditions: none. -/
set_option maxRecDepth 100000
namespace Go.Proofs.YtkjdilhhdphjgaaDoor
open Go.ChangeShapes Go.WideShapes Go.ChangeAt Go.RowKit

theorem bulk_one {H : Type} (d : DataW H) : 1 ≤ Rows.uptoBulk d := by
  cases d with
  | lit l => cases l <;> simp [Rows.uptoBulk]
  | nil => simp [Rows.uptoBulk]
  | ptr d => simp [Rows.uptoBulk]
  | slice elems spare => simp [Rows.uptoBulk]
  | agg parts => simp [Rows.uptoBulk]
  | iface t d => simp [Rows.uptoBulk]
  | map entries => simp [Rows.uptoBulk]
  | held h => simp [Rows.uptoBulk]
theorem bulk_part {H : Type} {d : DataW H} : ∀ {l : List (DataW H)}, d ∈ l → Rows.uptoBulk d ≤ Rows.uptoBulkAll l
  | [], h => by cases h
  | x :: r, h => by
    simp only [Rows.uptoBulkAll]
    rcases List.mem_cons.1 h with e | e
    · subst e; omega
    · have := bulk_part e; omega
theorem bulk_len {H : Type} : ∀ (l : List (DataW H)), l.length ≤ Rows.uptoBulkAll l
  | [] => by simp [Rows.uptoBulkAll]
  | x :: r => by have := bulk_one x; have := bulk_len r; simp only [Rows.uptoBulkAll, List.length_cons]; omega
abbrev LimB (H : Type) : TypeId → DataW H → Prop := fun _ d => Rows.uptoBulk d ≤ 1048576
theorem limB (H : Type) : LimOk (LimB H) 1048576 where
  agg := fun t fs ds j f d _ h _ hd => by
    have h1 := bulk_part (List.mem_of_getElem? hd)
    have h2 : Rows.uptoBulk (.agg ds) ≤ 1048576 := h
    simp only [Rows.uptoBulk] at h2
    show Rows.uptoBulk d ≤ 1048576
    omega
  slc := fun t e es sp _ _ h => by
    have h2 : Rows.uptoBulk (.slice es sp) ≤ 1048576 := h
    simp only [Rows.uptoBulk] at h2
    refine ⟨Nat.le_trans (bulk_len es) (by omega), fun d hd => ?_⟩
    have h1 := bulk_part hd
    show Rows.uptoBulk d ≤ 1048576
    omega
  str := fun t b h => by
    have h2 : Rows.uptoBulk (DataW.lit (H := H) (.string b)) ≤ 1048576 := h
    simp only [Rows.uptoBulk] at h2
    omega
/-- an argument's bulk -/
theorem small_part {H : Type} {l : List (DataW H)} (h : Rows.uptoSmall H l = true) {d : DataW H} (hd : d ∈ l) (t : TypeId) : LimB H t d := by
  have h1 : Rows.uptoBulkAll l ≤ 1048576 := of_decide_eq_true h
  exact Nat.le_trans (bulk_part hd) h1
section
variable {H : Type} {enc : TypeId × Value → H} {w : World} {Lim : TypeId → DataW H → Prop} {M : Nat} {r : Reach} {b0 : Nat} {v : Value} {d : DataW H} {p : List MemPlace}
theorem recs_arg (L : LimOk Lim M) (hv : Value.okWide Tryd.prog w r b0 22 v) (h : DataW.Trod enc Tryd.prog w 0 (fun _ => true) true 22 v d p) (hl : Lim 22 d) : ∃ qs : List RQ, RecsH M w v qs ∧ qs.length ≤ M := by
  obtain ⟨a, n, c, rfl⟩ := okWide_slice Tryd.underlying22 hv
  obtain ⟨fuel, hf⟩ := h
  exact recs_of L (enc := enc) (fuel := fuel) (y := (d, p)) (by simpa [Tr, Value.cells] using hf) hl
theorem rec_arg (L : LimOk Lim M) (hv : Value.okWide Tryd.prog w r b0 36 v) (h : DataW.Trod enc Tryd.prog w 0 (fun _ => true) true 36 v d p) (hl : Lim 36 d) :
    ∃ (x : RV) (a b c e : Value), v = recV x a b c e ∧ RecH w x a b c e ∧ x.inI ∧ Sizes M x := by
  obtain ⟨cs, rfl, hsz⟩ := okWide_struct Tryd.underlying36 hv
  obtain ⟨fuel, hf⟩ := h
  obtain ⟨x, a, b, c, e, hc, h1⟩ := rec_of L (enc := enc) (fuel := fuel) (cs := cs.toList) (y := (d, p)) (by simpa [Tr, Value.cells] using hf) hl
  refine ⟨x, a, b, c, e, ?_, h1⟩
  have : cs = (rcells (x, a, b, c, e)).toArray := by rw [← hc]
  rw [this]
  rfl
end
end Go.Proofs.YtkjdilhhdphjgaaDoor
/- The table of Sum: from the row's condition to its cells, and a world that meets the condition. Conditions: none. -/
set_option maxRecDepth 100000
namespace Go.Proofs.YtkjdilhhdphjgaaDoor
open Go.ChangeShapes Go.WideShapes Go.ChangeAt Go.RowKit

theorem own : ownKnob Tryd.prog.godebug = none := by kernel_rfl
theorem laidOut : laidOutB Tryd.prog = true := by kernel_rfl
abbrev laidQ : List (String × DataW Unit) := [("talus/codec.quads", Rows.laid_talus_codec_quads)]

theorem quads_of_laid {W : World} (h : laidMetH Tryd.prog laidQ W) : Quads W := by
  rw [MakeChecks.laidMetH_plain _ _ _ (by kernel_rfl)] at h
  obtain ⟨ps, ⟨g, t, cs, fuel, p, q, hg, ht, hv, hd, _, _⟩, _, _⟩ := h
  obtain rfl := Option.some.inj ((show Tryd.prog.globalNamed "talus/codec.quads" = some 0 by kernel_rfl).symm.trans hg)
  obtain rfl := Option.some.inj ((show (Tryd.prog.globals[0]?).map (·.type) = some 74 by kernel_rfl).symm.trans ht)
  obtain ⟨xs, m, _, ex, _, hl, hel⟩ := DataW.trod_array Tryd.underlying74 hd
  have c5 : Tryd.prog.cellsOf 63 = 1 := by kernel_rfl
  have key : ∀ r, r < 16 → W.cell? ⟨0, r, none⟩ = some (.int .u32 (quad r : Int)) := by
    intro r hr
    have hE := hel r hr
    rw [c5, Nat.mul_one, List.getElem?_eq_getElem (by omega)] at hE
    obtain ⟨z, e1, e2, _⟩ := DataW.trod_int Tryd.underlying63 hE
    have hlen : quadL.length = 16 := by decide
    have e3 : (xs.map (·.1)) = quadL.map fun (n : Nat) => (.lit (.int .u32 (n : Int)) : DataW Unit) := (DataW.agg.inj (Prod.mk.inj ex).1).symm
    have e4 : (xs.map (·.1))[r]? = (quadL.map fun (n : Nat) => (DataW.lit (.int .u32 (n : Int)) : DataW Unit))[r]? := by rw [e3]
    rw [List.getElem?_map, List.getElem?_map, List.getElem?_eq_getElem (by omega : r < xs.length), List.getElem?_eq_getElem (by omega : r < quadL.length), e2] at e4
    have hz : z = (quad r : Int) := by
      simp only [Option.map_some, Option.some.injEq, DataW.lit.injEq, Lit.int.injEq, true_and] at e4
      rw [e4, quad, List.getD, List.getElem?_eq_getElem (by omega : r < quadL.length)]; rfl
    rw [World.var?_cell hg hv r, ← hz]
    have : cs.toList[r]? = some (.int .u32 z) := by
      have h0 : ((cs.toList.drop r).take 1)[0]? = some (.int .u32 z) := by rw [e1]; rfl
      simpa using h0
    simpa using this
  exact ⟨World.block_lt_of_cell? W _ (key 0 (by omega)), key⟩

theorem laid_met (os : Os) (args : Array Value) : laidMetH Tryd.prog laidQ ((World.laidAll Tryd.prog os laidQ).forCall (fun _ _ => 0) ⟨#[], args, []⟩).memory := by
  rw [MakeChecks.laidMetH_plain _ _ _ (by kernel_rfl)]; exact laidMet_laidAll _ (by kernel_rfl) (by kernel_rfl)
end Go.Proofs.YtkjdilhhdphjgaaDoor
