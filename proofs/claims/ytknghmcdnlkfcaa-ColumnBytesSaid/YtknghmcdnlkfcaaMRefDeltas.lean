/- Contracts of talusref02.Deltas and Undeltas. Conditions: small lists. -/
import Derived.Test.YtknghmcdnlkfcaaPackAV
import Derived.Test.YtknghmcdnlkfcaaPackAR
import Derived.Test.YtknghmcdnlkfcaaMCodecRefGet
set_option maxRecDepth 100000
namespace Go.Proofs.Ytknghmcdnlkfcaa
open Go.RowKit Go.Maps Go.Sort

/-- what Undeltas answers behind these ints, the last of them p.2 -/
def undF (p : List Int × Int) (bs : List UInt8) : List Int × Int := if (numsOf bs).2 then ([], 8) else (((numsOf bs).1.foldl undStep p).1, 0)
theorem undF_nil (p : List Int × Int) : undF p [] = (p.1, 0) := by rw [undF, nums_nil]; rfl
theorem undF_bad {p : List Int × Int} {bs : List UInt8} (h : bs ≠ []) (h2 : (getN bs).2 = 0) : undF p bs = ([], 8) := by rw [undF, nums_bad h h2]; rfl
theorem undF_more {p : List Int × Int} {bs : List UInt8} (h : bs ≠ []) (h2 : (getN bs).2 ≠ 0) : undF p bs = undF (undStep p (getN bs).1) (bs.drop (getN bs).2) := by
  rw [undF, undF, nums_more h h2]; rfl
/-- what is behind the first m of what a slice holds -/
theorem und_last (t : Int) (z : Int) : IntKind.i64.wrap (IntKind.u64.wrap (t + IntKind.u64.wrap z)) = IntKind.i64.wrap (IntKind.i64.wrap t + z) := by
  simp only [IntKind.wrap_u64, IntKind.wrap_i64]; omega

/-- one int behind a row of the call's own -/
theorem int_step {w wr : World} {v : Value} {acc : List Int} (h : wr.ownsRow w.heap.size 3 1 v acc.length (i64s acc)) (hb : Below w.heap.size w wr) (hl : acc.length ≤ 1000000) (B : Int) :
    ∃ v' w2, Hid (∀ ty, (Builtin.append_ #[23, 23] ty #[v, .slice (some ⟨wr.heap.size, 0, none⟩) 1 1]).run Try.prog (wr.alloc (.cells #[.int .i64 B] 3)) = .ok v' w2) ∧ Hid (w2.ownsRow w.heap.size 3 1 v' (acc ++ [B]).length (i64s (acc ++ [B])) ∧ Below w.heap.size w w2) := by
  have hrow : (wr.alloc (.cells #[.int .i64 B] 3)).ownsRow w.heap.size 3 1 v acc.length (i64s acc) := ownsRow_of_block h (fun g hg => Below.heap_alloc _ _ _ (h.lt g hg).2)
  have hs : Holds (wr.alloc (.cells #[.int .i64 B] 3)) (.slice (some ⟨wr.heap.size, 0, none⟩) 1 1) (i64s [B]) := Holds.of_heap (alloc1 wr _) rfl 1 1 rfl (Nat.le_refl _)
  obtain ⟨v', w2, r, o, g, _⟩ := app64 hrow (by have := hb.size; rw [World.size_alloc]; omega) hs (by simp; omega)
  refine ⟨v', w2, Lib.hid r, Lib.hid ⟨o, (hb.trans (((Below.refl wr.heap.size wr).alloc (Nat.le_refl _) _).mono hb.size)).trans ⟨g.os, g.tape, g.output, g.size, fun b hb2 => g.block b ?_ (fun e => ?_)⟩⟩⟩
  · have := hb.size; rw [World.size_alloc]; omega
  · have := (hrow.lt b e.symm).1; omega

theorem drop_end {w : World} {ad : Addr} {k c m : Nat} {bs : List UInt8} (h : Holds w (.slice (some ad) k c) (u8s bs)) (hm : k ≤ m) : Holds w (.slice (some ad) 0 0) (u8s (bs.drop m)) := by
  have hl := h.len.1
  rw [u8s_len] at hl
  rw [List.drop_eq_nil_of_le (by omega)]
  exact ⟨some ad, 0, rfl, Nat.le_refl _, .inr ⟨ad, rfl, fun j u hj => by cases hj⟩⟩

set_option maxHeartbeats 1600000 in
theorem refUndeltas_any {w : World} {v : Value} {l : List UInt8} (h : Holds w v (u8s l)) (hl : l.length ≤ 300000) :
    Calls Try.prog 54 #[v] w fun e w' => ∃ r, e = .returned (.tuple #[r, .int .i64 (undAns l).2]) ∧ Hid (w'.ownsRow w.heap.size 3 1 r (undAns l).1.length (i64s (undAns l).1) ∧ Below w.heap.size w w') := by
  obtain ⟨a, c, hv, hc⟩ := h.form
  rw [u8s_len] at hv hc
  subst hv
  have H := Lib.hid h
  obtain ⟨n, hn⟩ : ∃ n, n = l.length := ⟨_, rfl⟩
  rw [← hn] at H hl hc ⊢
  have HN := Lib.hid hn
  clear h hn
  go_enter Try.func54, Try.ntmps54
  go_wp2_with fail
  go_loopw [0, 4, 5] (fun b s t wr => ∃ (k : Nat) (bp : Option Addr) (bc : Nat) (tl : Int) (bs : List UInt8) (acc : List Int), b = .slice bp k bc ∧ k ≤ n ∧ k ≤ bc ∧ t = .int .u64 tl ∧ 0 ≤ tl ∧ tl < 18446744073709551616 ∧ acc.length + k ≤ n ∧
    Hid (k = bs.length ∧ undF (acc, IntKind.i64.wrap tl) bs = undAns l ∧ Holds w (.slice bp k bc) (u8s bs) ∧ wr.ownsRow w.heap.size 3 1 s acc.length (i64s acc) ∧ Below w.heap.size w wr)) (fun b _ _ _ => match b with | .slice _ k _ => k | _ => 0)
  case atStart => exact ⟨n, a, c, 0, l, [], rfl, Nat.le_refl _, hc, rfl, by omega, by omega, by simp, HN.out, rfl, H.out, World.ownsRow_nil _ _ _ _, Below.refl _ _⟩
  case round =>
    obtain ⟨k, bp, bc, tl, bs, acc, rfl, hk, hkc, rfl, ht0, ht1, hak, HK⟩ := hrel
    obtain ⟨sa, sc, rfl, hsc⟩ := ownsRow_form HK.out.2.2.2.1
    rcases Nat.eq_zero_or_pos k with h0 | hpos
    · subst h0
      have e : bs = [] := List.eq_nil_of_length_eq_zero HK.out.1.symm
      subst e
      have e2 := HK.out.2.1
      rw [undF_nil] at e2
      have E2 := Lib.hid e2
      clear e2
      go_wp2_with fail
      go_ret2
      rw [← E2.out]
      exact ⟨_, rfl, Lib.hid ⟨HK.out.2.2.2.1, HK.out.2.2.2.2⟩⟩
    · have t1 : decide ((k : Int) > 0) = true := decide_eq_true (by omega)
      have hne : bs ≠ [] := fun e => by have := HK.out.1; rw [e] at this; simp at this; omega
      have KG := refGet_any (HK.out.2.2.1.below HK.out.2.2.2.2) (by rw [← HK.out.1]; omega)
      have hgb := getN_bd bs
      rw [← HK.out.1] at hgb
      by_cases hz : (getN bs).2 = 0
      · have e2 := HK.out.2.1
        rw [undF_bad hne hz] at e2
        have E2 := Lib.hid e2
        rw [hz] at KG
        have HB := Lib.hid HK.out.2.2.2.2
        clear hgb e2 hne hz
        generalize (getN bs).1 = u at KG
        go_wp2_with fail
        refine KG.mono ?_
        rintro e w' ⟨rfl, rfl⟩
        go_wp2_with fail
        go_ret2
        rw [← E2.out]
        exact ⟨_, rfl, Lib.hid ⟨World.ownsRow_nil _ _ _ _, HB.out⟩⟩
      · have e2 := HK.out.2.1
        rw [undF_more hne hz] at e2
        have E2 := Lib.hid e2
        have KZ := fun W => refZag_any (getN bs).1 W hgb.2
        have hz1 : (((getN bs).2 : Int) == 0) = false := by rw [beq_eq_false_iff_ne]; omega
        have hm1 : 1 ≤ (getN bs).2 := by omega
        have hm2 := hgb.1
        have HK2 := Lib.hid HK.out
        clear e2 hgb hz
        generalize hgn : (getN bs).2 = m at *
        generalize (getN bs).1 = u at *
        go_wp2_with fail
        refine KG.mono ?_
        rintro e w' ⟨rfl, rfl⟩
        go_wp2_with fail
        refine (KZ _).mono ?_
        rintro e w' ⟨rfl, rfl⟩
        have E3 := Lib.hid (und_last tl (zagN u))
        have hT : 0 ≤ IntKind.u64.wrap (tl + IntKind.u64.wrap (zagN u)) ∧ IntKind.u64.wrap (tl + IntKind.u64.wrap (zagN u)) < 18446744073709551616 := by rw [IntKind.wrap_u64]; omega
        generalize hTe : IntKind.u64.wrap (tl + IntKind.u64.wrap (zagN u)) = T at *
        generalize hBe : IntKind.i64.wrap T = B at *
        obtain ⟨v', w2, HRUN, HR2⟩ := int_step (acc := acc) HK2.out.2.2.2.1 HK2.out.2.2.2.2 (by omega) B
        obtain ⟨bd, rfl⟩ := HK2.out.2.2.1.ptr hpos
        have E4 : Hid (undF (acc ++ [B], IntKind.i64.wrap T) (bs.drop m) = undAns l) := Lib.hid (by rw [← E2.out, undStep, ← E3.out, hBe])
        have hlen : (acc ++ [B]).length + (k - m) ≤ n := by simp; omega
        generalize zagN u = z at *
        by_cases hcm : bc = m
        · have HD := Lib.hid (drop_end HK2.out.2.2.1 (show k ≤ m by omega))
          go_wp2_with (at_builtin; refine wpList_append_run rfl _ _ 23 rfl rfl rfl (HRUN.out _) ?_)
          refine ⟨⟨k - m, _, _, T, bs.drop m, acc ++ [B], rfl, by omega, by omega, rfl, hT.1, hT.2, hlen, by rw [List.length_drop, ← HK2.out.1], E4.out, ?_, HR2.out.1, HR2.out.2⟩, ?_⟩
          · rw [show k - m = 0 by omega]; exact HD.out
          · show k - m < k; omega
        · have HD := Lib.hid (HK2.out.2.2.1.drop m (by omega))
          go_wp2_with (at_builtin; refine wpList_append_run rfl _ _ 23 rfl rfl rfl (HRUN.out _) ?_)
          refine ⟨⟨k - m, _, _, T, bs.drop m, acc ++ [B], rfl, by omega, by omega, rfl, hT.1, hT.2, hlen, by rw [List.length_drop, ← HK2.out.1], E4.out, ?_, HR2.out.1, HR2.out.2⟩, ?_⟩
          · rw [u8s, List.map_drop]; exact HD.out
          · show k - m < k; omega

set_option maxHeartbeats 1600000 in
theorem refDeltas_any {w : World} {v : Value} {l : List Int} (h : Holds w v (i64s l)) (hl : l.length ≤ 1000000) :
    Calls Try.prog 34 #[v] w fun e w' => ∃ v', e = .returned v' ∧ Hid (Holds w' v' (u8s (deltaL 0 l)) ∧ Below w.heap.size w w') := by
  obtain ⟨a, c, hv, hc⟩ := h.form
  rw [i64s_len] at hv hc
  subst hv
  have H := Lib.hid h
  generalize hn : l.length = n at *
  have HN := Lib.hid hn
  clear h hn
  go_enter Try.func34, Try.ntmps34
  go_wp2_with fail
  go_loopw [3, 9] (fun b i wr => ∃ (k : Nat) (p : Int) (ys : List UInt8), k ≤ n ∧ i = .int .i64 k ∧ Hid ((k = 0 → p = 0) ∧ (0 < k → l[k - 1]? = some p)) ∧ Hid (ys ++ deltaL p (l.drop k) = deltaL 0 l ∧ ys.length ≤ 10 * k ∧ Holds wr b (u8s ys) ∧ Below w.heap.size w wr)) (fun _ i _ => n - (intOf i).toNat)
  case atStart => exact ⟨0, 0, [], by omega, rfl, ⟨fun _ => rfl, fun h => by omega⟩, rfl, by simp, Holds.nil _, Below.refl _ _⟩
  case round =>
    obtain ⟨k, p, ys, hk, rfl, HP, HR⟩ := hrel
    by_cases hlt : k < n
    · have hkl : k < l.length := by rw [HN.out]; exact hlt
      obtain ⟨ad, rfl⟩ := H.out.ptr (by omega)
      have hc : wr.cell? (ad.add k) = some (.int .i64 l[k]) := (H.out.below HR.out.2.2.2).cell (by simp [i64s, hkl])
      have hd := dlt_walk l[k] p
      obtain ⟨hd1, hd2⟩ := dlt_bd l[k] p
      have HE := Lib.hid HR.out.1
      rw [List.drop_eq_getElem_cons hkl, deltaL] at HE
      have HG : Hid (0 < k + 1 → l[k + 1 - 1]? = some l[k]) := Lib.hid (fun _ => List.getElem?_eq_getElem hkl)
      rcases Nat.eq_zero_or_pos k with h0 | hpos
      · have hp0 := HP.out.1 h0
        subst h0 hp0
        have e0 : ad.add 0 = ad := by unfold Addr.add; rw [if_pos rfl]
        rw [e0] at hc
        generalize hm : dlt l[0] 0 = m at *
        generalize l[0] = x at *
        have hd' : IntKind.i64.wrap (IntKind.u64.wrap (IntKind.u64.wrap x)) = m := by rw [← hd]; simp only [IntKind.wrap_u64, IntKind.wrap_i64]; omega
        obtain ⟨z1, z2⟩ := zigU_eq hd1 hd2
        have Z := Lib.hid z1
        clear z1 hm hd
        go_wp2_with fail
        refine (refZig_any m _ hd1 hd2).mono ?_
        rintro e w' ⟨rfl, rfl⟩
        rw [Z.out]
        go_wp2_with fail
        refine (refPut_any HR.out.2.2.1 (zigU m) z2 (by have := HR.out.2.1; omega)).mono ?_
        rintro e w2 ⟨v2, rfl, o2, b2⟩
        have O2 := Lib.hid (Holds.of_row (base := wr.heap.size) (e := 5) (xs := u8s (ys ++ dig (zigU m))) (by rw [u8s_len]; exact o2))
        have B2 := Lib.hid (HR.out.2.2.2.trans (b2.mono HR.out.2.2.2.size))
        clear o2 b2
        go_wp2_with fail
        go_roundw
        case rel => exact ⟨1, x, ys ++ dig (zigU m), by omega, by go_num, ⟨fun h => by omega, HG.out⟩, by rw [List.append_assoc]; exact HE.out, by have := HR.out.2.1; have := dig_len10 z2; simp; omega, O2.out, B2.out⟩
        case measure => simp [intOf]; omega
      · have t2 : decide ((k : Int) > 0) = true := decide_eq_true (by omega)
        have hc2 : wr.cell? (ad.add (k - 1)) = some (.int .i64 p) := (H.out.below HR.out.2.2.2).cell (by rw [i64s, List.getElem?_map, HP.out.2 hpos]; rfl)
        generalize hm : dlt l[k] p = m at *
        generalize l[k] = x at *
        obtain ⟨z1, z2⟩ := zigU_eq hd1 hd2
        have Z := Lib.hid z1
        clear z1 hm
        go_wp2_with fail
        refine (refZig_any m _ hd1 hd2).mono ?_
        rintro e w' ⟨rfl, rfl⟩
        rw [Z.out]
        go_wp2_with fail
        refine (refPut_any HR.out.2.2.1 (zigU m) z2 (by have := HR.out.2.1; omega)).mono ?_
        rintro e w2 ⟨v2, rfl, o2, b2⟩
        have O2 := Lib.hid (Holds.of_row (base := wr.heap.size) (e := 5) (xs := u8s (ys ++ dig (zigU m))) (by rw [u8s_len]; exact o2))
        have B2 := Lib.hid (HR.out.2.2.2.trans (b2.mono HR.out.2.2.2.size))
        clear o2 b2
        go_wp2_with fail
        go_roundw
        case rel => exact ⟨k + 1, x, ys ++ dig (zigU m), by omega, by go_num, ⟨fun h => by omega, HG.out⟩, by rw [List.append_assoc]; exact HE.out, by have := HR.out.2.1; have := dig_len10 z2; simp; omega, O2.out, B2.out⟩
        case measure => simp [intOf]; omega
    · go_wp2_with fail
      go_ret
      have e := HR.out.1
      rw [List.drop_eq_nil_of_le (by rw [HN.out]; omega)] at e
      have e2 : deltaL 0 l = ys := by rw [← e, deltaL, List.append_nil]
      rw [e2]
      exact ⟨u3, rfl, HR.out.2.2⟩
end Go.Proofs.Ytknghmcdnlkfcaa
