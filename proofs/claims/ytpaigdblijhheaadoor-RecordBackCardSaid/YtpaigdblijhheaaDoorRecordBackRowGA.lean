/- The texts VbRefGood VbRefBytes RefA RefB RefC RefD RefE RefF RecMore RecBackW, one behind the other; each one's own comment says what it holds. -/
import Derived.Test.YtpaigdblijhheaaDoorOrderC
import Derived.Test.YtpaigdblijhheaaDoorValD
import Derived.Test.YtpaigdblijhheaaDoorVbRead
import Derived.Test.YtpaigdblijhheaaDoorRecordNextRowGC
import Derived.Test.YtpaigdblijhheaaDoorRecordNextRowGD
import Derived.Test.YtpaigdblijhheaaDoorTells
import Derived.Test.YtpaigdblijhheaaDoorRecQ
import Derived.Test.YtpaigdblijhheaaDoorRecordNextRowGF
/- Contract of the document's own Good of values. Conditions: none. -/
set_option maxRecDepth 100000
namespace Go.Proofs.YtpaigdblijhheaaDoor
open Go.RowKit Go.Maps Go.Sort Go.Lib

theorem nil_list : (⟨#[]⟩ : ByteArray).toList = [] := by simp [Lib.toList_data]
theorem refGood_null (n : Int) (s : ByteArray) (w : World) : Calls Tryd.prog 43 #[vv 0 n s] w fun e w' => e = .returned (.bool (n == 0 && s.toList == [])) ∧ Below w.heap.size w w' := by
  have KE := eql_val
  have KU := guard_val
  go_enter Tryd.func43, Tryd.ntmps43
  go_wp2_with fail
  go_ret
  exact ⟨ret_bool (by unfold sameV; rw [nil_list]; cases s.toList <;> simp), (Below.refl _ _).alloc (Nat.le_refl _) _⟩
theorem refGood_int (n : Int) (s : ByteArray) (w : World) : Calls Tryd.prog 43 #[vv 1 n s] w fun e w' => e = .returned (.bool (s.toList == [])) ∧ Below w.heap.size w w' := by
  go_enter Tryd.func43, Tryd.ntmps43
  go_wp2_with fail
  go_ret
  exact ⟨by simp, (Below.refl _ _).alloc (Nat.le_refl _) _⟩
theorem refGood_float (n : Int) (s : ByteArray) (h0 : -9223372036854775808 ≤ n) (h1 : n < 9223372036854775808) (w : World) : Calls Tryd.prog 43 #[vv 2 n s] w fun e w' => e = .returned (.bool (goodW (wi n) && s.toList == [])) ∧ Below w.heap.size w w' := by
  have KG := refGood_any (wi n) (wi_lt n)
  rw [iw_wi n h0 h1] at KG
  generalize goodW (wi n) = g at *
  have hn := nil_list
  clear h0 h1
  cases hs : (s.toList == [])
  · go_enter Tryd.func43, Tryd.ntmps43
    go_wp2_with fail
    go_ret
    exact ⟨by simp, (Below.refl _ _).alloc (Nat.le_refl _) _⟩
  · go_enter Tryd.func43, Tryd.ntmps43
    go_wp2_with fail
    refine (KG _).mono ?_
    rintro e w1 ⟨rfl, rfl⟩
    go_wp2_with fail
    go_ret
    exact ⟨by simp, (Below.refl _ _).alloc (Nat.le_refl _) _⟩
theorem refGood_str (n : Int) (s : ByteArray) (w : World) : Calls Tryd.prog 43 #[vv 3 n s] w fun e w' => e = .returned (.bool (decide (s.size ≤ 64) && n == 0)) ∧ Below w.heap.size w w' := by
  cases e0 : (n == 0)
  · go_enter Tryd.func43, Tryd.ntmps43
    go_wp2_with fail
    go_ret
    exact ⟨by simp, (Below.refl _ _).alloc (Nat.le_refl _) _⟩
  · go_enter Tryd.func43, Tryd.ntmps43
    go_wp2_with fail
    go_ret
    exact ⟨by simp; omega, (Below.refl _ _).alloc (Nat.le_refl _) _⟩
theorem refGood_bool (n : Int) (s : ByteArray) (w : World) : Calls Tryd.prog 43 #[vv 4 n s] w fun e w' => e = .returned (.bool ((n == 0 || n == 1) && s.toList == [])) ∧ Below w.heap.size w w' := by
  have hn := nil_list
  cases hs : (s.toList == []) <;> cases e0 : (n == 0) <;> cases e1 : (n == 1)
  all_goals (
    go_enter Tryd.func43, Tryd.ntmps43
    go_wp2_with fail
    go_ret
    exact ⟨rfl, (Below.refl _ _).alloc (Nat.le_refl _) _⟩)
theorem refGood_other (k n : Int) (s : ByteArray) (hk : k < 0 ∨ 4 < k) (w : World) : Calls Tryd.prog 43 #[vv k n s] w fun e w' => e = .returned (.bool false) ∧ Below w.heap.size w w' := by
  have h0 : (k == 0) = false := by rw [beq_eq_false_iff_ne]; omega
  have h1 : (k == 1) = false := by rw [beq_eq_false_iff_ne]; omega
  have h2 : (k == 2) = false := by rw [beq_eq_false_iff_ne]; omega
  have h3 : (k == 3) = false := by rw [beq_eq_false_iff_ne]; omega
  have h4 : (k == 4) = false := by rw [beq_eq_false_iff_ne]; omega
  clear hk
  go_enter Tryd.func43, Tryd.ntmps43
  go_wp2_with fail
  go_ret
  exact ⟨rfl, (Below.refl _ _).alloc (Nat.le_refl _) _⟩
theorem refvgood_any (k n : Int) (s : ByteArray) (h0 : -9223372036854775808 ≤ n) (h1 : n < 9223372036854775808) (w : World) :
    Calls Tryd.prog 43 #[vv k n s] w fun e w' => e = .returned (.bool (goodV k n s)) ∧ Below w.heap.size w w' := by
  unfold goodV
  by_cases c0 : k = 0
  · subst c0; rw [if_pos rfl]; exact refGood_null n s w
  by_cases c1 : k = 1
  · subst c1; rw [if_neg (by decide), if_pos rfl]; exact refGood_int n s w
  by_cases c2 : k = 2
  · subst c2; rw [if_neg (by decide), if_neg (by decide), if_pos rfl]; exact refGood_float n s h0 h1 w
  by_cases c3 : k = 3
  · subst c3; rw [if_neg (by decide), if_neg (by decide), if_neg (by decide), if_pos rfl]; exact refGood_str n s w
  by_cases c4 : k = 4
  · subst c4; rw [if_neg (by decide), if_neg (by decide), if_neg (by decide), if_neg (by decide), if_pos rfl]; exact refGood_bool n s w
  rw [if_neg c0, if_neg c1, if_neg c2, if_neg c3, if_neg c4]
  exact refGood_other k n s (by omega) w
end Go.Proofs.YtpaigdblijhheaaDoor
/- Contract of the document's own Bytes of values. Conditions: at most 10^9 values. -/
set_option maxRecDepth 100000
namespace Go.Proofs.YtpaigdblijhheaaDoor
open Go.RowKit Go.Maps Go.Sort Go.Lib

/-- a number's digits behind -/
theorem Out.rput {w wr : World} {v : Value} {acc : List UInt8} (h : Out w wr v acc) (d : Nat) (hd : d < 18446744073709551616) (hx : acc.length ≤ 17592186044000) :
    Calls Tryd.prog 44 #[v, .int .u64 (d : Int)] wr fun e w' => ∃ v', e = .returned v' ∧ Hid (Out w w' v' (acc ++ dig d)) ∧ Below wr.heap.size wr w' := by
  refine (refPut_any (Holds.of_row (by rw [u8s_len]; exact h.1)) d hd hx).mono ?_
  rintro e w' ⟨v', rfl, ho, hb⟩
  exact ⟨v', rfl, ⟨ownsRow_rebase ho (fun g hg => Nat.le_trans h.2.size (ho.lt g hg).1), h.2.trans (hb.mono h.2.size)⟩, hb⟩
theorem Out.rput2 {w wr : World} {v : Value} {acc : List UInt8} (h : Out w wr v acc) (d : Nat) (hd : d < 18446744073709551616) (hx : acc.length ≤ 17592186044000) :
    Calls Tryd.prog 44 #[v, .int .u64 (d : Int)] wr fun e w' => ∃ v', e = .returned v' ∧ Hid (Out w w' v' (acc ++ dig d)) ∧ Below wr.heap.size wr w' ∧ (∀ g, v'.ownBlock = some g → wr.heap.size ≤ g) := by
  refine (refPut_any (Holds.of_row (by rw [u8s_len]; exact h.1)) d hd hx).mono ?_
  rintro e w' ⟨v', rfl, ho, hb⟩
  exact ⟨v', rfl, ⟨ownsRow_rebase ho (fun g hg => Nat.le_trans h.2.size (ho.lt g hg).1), h.2.trans (hb.mono h.2.size)⟩, hb, fun g hg => (ho.lt g hg).1⟩
theorem below_drew_v (w : World) : Below w.heap.size w w.drew := ⟨rfl, rfl, rfl, Nat.le_refl _, fun _ _ => rfl⟩
theorem Out.rput_nil (w : World) (d : Nat) (hd : d < 18446744073709551616) : Calls Tryd.prog 44 #[.slice none 0 0, .int .u64 (d : Int)] w fun e w' => ∃ v', e = .returned v' ∧ Hid (Out w w' v' (dig d)) := by
  refine (refPut_any (Holds.nil w) (xs := []) d hd (by simp)).mono ?_
  rintro e w' ⟨v', rfl, ho, hb⟩
  exact ⟨v', rfl, by simpa using ho, hb⟩
theorem Out.str {w wr : World} {v : Value} {acc : List UInt8} (h : Out w wr v acc) (s : ByteArray) (hl : acc.length + s.size ≤ 17592186044416) :
    ∃ v' w2, (∀ ty, (Builtin.append_ #[25, 9] ty #[v, .string s]).run Tryd.prog wr = .ok v' w2) ∧ Out w w2 v' (acc ++ s.data.toList) ∧ (∀ k, k < wr.heap.size → (∀ g, v.ownBlock = some g → g ≠ k) → w2.heap[k]? = wr.heap[k]?) := by
  obtain ⟨v', w2, r, o, g⟩ := app_str (u := 9) Tryd.underlying9 h.1 h.2.size s hl
  exact ⟨v', w2, r, ⟨o, h.2.trans (below_grown g h.2.size (ownsRow_ge h.1))⟩, fun k hk hne => g.block k hk (fun e => hne k e.symm rfl)⟩
theorem room4 {a b : Nat} (h : a ≤ 200000000000) (h2 : b ≤ 10) : a + b ≤ 17592186044000 := by omega
theorem room5 {a : List UInt8} {b : List UInt8} (h : a.length ≤ 200000000000) (h2 : b.length ≤ 10) : (a ++ b).length ≤ 17592186044000 := by rw [List.length_append]; omega
theorem room0 {a : Nat} (h : a ≤ 200000000000) : a ≤ 17592186044000 := by omega
theorem room6 {a b c : List UInt8} {s : Nat} (h : a.length ≤ 200000000000) (h2 : b.length ≤ 10) (h3 : c.length ≤ 10) (h4 : s ≤ 64) : (a ++ b ++ c).length + s ≤ 17592186044416 := by rw [List.length_append, List.length_append]; omega
set_option maxHeartbeats 6400000 in
theorem refvbytes_any {w : World} {v : Value} {l : List VV} (h : HoldsV w v l) (hl : l.length ≤ 1000000000) (hi : ∀ x ∈ l, x.inI) : Calls Tryd.prog 46 #[v] w (OwnP w (bytesV l)) := by
  obtain ⟨a, c, rfl, hc⟩ := h.form
  have H := Lib.hid h
  have HI := Lib.hid hi
  have HFL := Lib.hid (flatV_len)
  have wl : IntKind.u64.wrap (l.length : Int) = (l.length : Int) := by rw [IntKind.wrap_u64]; omega
  have KP := fun w => Out.rput_nil w l.length (by omega)
  have HDL := Lib.hid (dig_len10 (u := l.length) (by omega))
  obtain ⟨n, hn⟩ : ∃ n, n = l.length := ⟨_, rfl⟩
  rw [← hn] at wl KP hc hl HDL ⊢
  have HNL := Lib.hid hn
  have HL := Lib.hid hl
  clear h hi hn hl
  go_enter Tryd.func46, Tryd.ntmps46
  go_wp2_with fail
  refine (KP _).mono ?_
  rintro e w1 ⟨v1, rfl, H1⟩
  clear KP
  go_wp2_with fail
  go_loopw [3, 5, 12] (fun s3 _ s12 wr => ∃ (i : Nat) (v : Value) (acc : List UInt8), s12 = .int .i64 i ∧ i ≤ n ∧ v = s3 ∧ Hid (Out w wr v acc) ∧ Hid (acc = dig n ++ flatV (l.take i))) (fun _ _ k _ => n - (RowKit.intOf k).toNat)
  case atStart => exact ⟨0, v1, _, rfl, Nat.zero_le _, rfl, H1, Lib.hid (by simp [flatV])⟩
  case round =>
    clear H1
    obtain ⟨i, v, acc, rfl, hin, rfl, HO, HA⟩ := hrel
    by_cases hlt : i < n
    · obtain ⟨x, hx⟩ : ∃ x, l[i]? = some x := ⟨l[i]'(HNL.out ▸ hlt), List.getElem?_eq_getElem _⟩
      obtain ⟨ad, rfl, hc0⟩ := H.out.at_ hx
      have hxi : x.inI := HI.out x (List.mem_of_getElem? hx)
      have HCW : ∀ w', Below w.heap.size w w' → w'.cell? (ad.add (i * 3)) = some (.int .i64 x.k) ∧ w'.cell? ⟨(ad.add (i * 3)).block, (ad.add (i * 3)).off + 1, none⟩ = some (.int .i64 x.n) ∧ w'.cell? ⟨(ad.add (i * 3)).block, (ad.add (i * 3)).off + 2, none⟩ = some (.string x.s) := fun w' hb =>
        ⟨by rw [hb.cell (World.block_lt_of_cell? _ _ hc0.1)]; exact hc0.1, by rw [hb.cell (World.block_lt_of_cell? _ _ hc0.2.1)]; exact hc0.2.1, by rw [hb.cell (World.block_lt_of_cell? _ _ hc0.2.2)]; exact hc0.2.2⟩
      obtain ⟨d0, d1, d2⟩ := HCW wr HO.out.2
      have b0 : (0 : Int) ≤ (i : Int) := Int.natCast_nonneg i
      have b1 : (i : Int) < (n : Int) := Int.ofNat_lt.2 hlt
      have hw64 := wi_next hlt HL.out
      have KG := refvgood_any x.k x.n x.s hxi.1 hxi.2
      have hacc : acc.length ≤ 200000000000 := by
        have h1 := HFL.out (l.take i) (fun y hy => HI.out y (List.mem_of_mem_take hy))
        rw [List.length_take, ← HNL.out] at h1
        rw [HA.out]
        exact room3 HDL.out h1 HL.out
      have HA2 : dig n ++ flatV (l.take (i + 1)) = acc ++ x.norm.bytes := by rw [take_snoc hx, flatV_snoc, HA.out, List.append_assoc]
      replace HA := Lib.hid HA2
      clear HA2 HCW
      obtain ⟨xk, xn, xs⟩ := x
      simp only at d0 d1 d2 KG
      cases hgx : goodV xk xn xs
      · have hny : VV.norm ⟨xk, xn, xs⟩ = VV.none_ := by unfold VV.norm VV.good; rw [hgx]; rfl
        rw [hny] at HA
        rw [hgx] at KG
        have eb : VV.none_.bytes = dig 0 ++ [] := (bytes_null 0 ⟨#[]⟩).1
        have HK := Lib.hid (fun (wx : World) (vx : Value) (ho : Out w wx vx acc) => ho.rput 0 (by decide) (room0 hacc))
        rw [eb, List.append_nil] at HA
        clear hc0 hxi hx hacc hny hgx eb
        go_wp2_with fail
        refine (KG _).mono ?_
        rintro e w3 ⟨rfl, hb3⟩
        have hbx := hb3.mono (show wr.heap.size ≤ _ by simp)
        have hbz : Below wr.heap.size wr w3 := ((Below.refl _ _).alloc (Nat.le_refl _) _).trans hbx
        have hCx := (C3.new wr (.int .i64 xk) (.int .i64 xn) (.string xs) 64).keep hb3 (by simp)
        obtain ⟨z1, z2, z3⟩ := frz3 hb3 (by simp)
        have k1 := hCx.1
        have k2 := hCx.2.1
        have k3 := hCx.2.2
        have S3 := below_set3 hbz (Nat.le_refl _) (.int .i64 0) (.int .i64 0) (.string ⟨#[]⟩)
        have HC := Lib.hid (hCx.set3 (.int .i64 0) (.int .i64 0) (.string ⟨#[]⟩))
        have HZ : Hid (wr.heap.size < (((w3.setCell ⟨wr.heap.size, 0, none⟩ (.int .i64 0)).setCell ⟨wr.heap.size, 1, none⟩ (.int .i64 0)).setCell ⟨wr.heap.size, 2, none⟩ (.string ⟨#[]⟩)).heap.size) := Lib.hid (World.block_lt_of_cell? _ _ HC.out.1)
        have KQ : Calls Tryd.prog 44 #[v, .int .u64 0] _ _ := HK.out _ v (HO.out.next S3)
        clear hb3 hbx hbz KG d0 d1 d2 S3 hCx HK HO
        go_wp2_with fail
        clear z1 z2 z3 k1 k2 k3
        refine KQ.mono ?_
        rintro e w4 ⟨v4, rfl, HO4, hb4⟩
        obtain ⟨k1, k2, k3⟩ := HC.out.keep hb4 HZ.out
        clear KQ HC HZ hb4
        go_wp2_with fail
        go_roundw
        case rel => exact ⟨i + 1, _, _, by go_num, hlt, rfl, HO4, Lib.hid HA.out.symm⟩
        case measure => simp [RowKit.intOf]; omega
      · have hgd : VV.good ⟨xk, xn, xs⟩ = true := hgx
        rw [hgx] at KG
        rw [norm_of hgd] at HA
        clear hc0 hx
        rcases good_cases hgd with e | ⟨e1, e2⟩ | ⟨e1, e2⟩ | ⟨e1, e2, e3⟩ | ⟨e1, e2⟩
        · cases e
          have eb := (bytes_null 0 ⟨#[]⟩).1
          have HK := Lib.hid (fun (wx : World) (vx : Value) (ho : Out w wx vx acc) => ho.rput 0 (by decide) (room0 hacc))
          rw [eb, List.append_nil] at HA
          clear hxi hacc hgx eb hgd
          go_wp2_with fail
          refine (KG _).mono ?_
          rintro e w3 ⟨rfl, hb3⟩
          have hbx := hb3.mono (show wr.heap.size ≤ _ by simp)
          have hbz : Below wr.heap.size wr w3 := ((Below.refl _ _).alloc (Nat.le_refl _) _).trans hbx
          have HC := Lib.hid ((C3.new wr (.int .i64 0) (.int .i64 0) (.string ⟨#[]⟩) 64).keep hb3 (by simp))
          have HZ : Hid (wr.heap.size < w3.heap.size) := Lib.hid (World.block_lt_of_cell? _ _ HC.out.1)
          have KQ : Calls Tryd.prog 44 #[v, .int .u64 0] _ _ := HK.out _ v (HO.out.next hbz)
          obtain ⟨k1, k2, k3⟩ := HC.out
          clear hb3 hbx hbz KG d0 d1 d2 HK HO
          go_wp2_with fail
          clear k1 k2 k3
          refine KQ.mono ?_
          rintro e w4 ⟨v4, rfl, HO5, hb4⟩
          have HC4 := Lib.hid (HC.out.keep hb4 HZ.out)
          obtain ⟨k1, k2, k3⟩ := HC4.out
          clear KQ HC HZ hb4
          go_wp2_with fail
          go_roundw
          case rel => exact ⟨i + 1, _, _, by go_num, hlt, rfl, HO5, Lib.hid HA.out.symm⟩
          case measure => simp [RowKit.intOf]; omega
        · simp only at e1 e2; subst e1 e2
          have eb := (bytes_int xn ⟨#[]⟩).1
          have HK := Lib.hid (fun (wx : World) (vx : Value) (ho : Out w wx vx acc) => ho.rput 1 (by decide) (room0 hacc))
          rw [eb] at HA
          have hz := zig_zag xn hxi.1 hxi.2
          have KZ := fun w => refZig_any xn w hxi.1 (Int.le_of_lt_add_one hxi.2)
          have HK2 := Lib.hid (fun (wx : World) (vx : Value) (ho : Out w wx vx (acc ++ dig 1)) => ho.rput (zgN xn) hz.2 (room5 hacc (dig_len10 (u := 1) (by decide))))
          have hzc := zg_cast xn
          rw [hzc] at HK2
          rw [← List.append_assoc] at HA
          clear hz hzc
          generalize dig (zgN xn) = DZ at *
          generalize zigN xn = ZN at *
          clear hxi hacc hgx eb hgd
          go_wp2_with fail
          refine (KG _).mono ?_
          rintro e w3 ⟨rfl, hb3⟩
          have hbx := hb3.mono (show wr.heap.size ≤ _ by simp)
          have hbz : Below wr.heap.size wr w3 := ((Below.refl _ _).alloc (Nat.le_refl _) _).trans hbx
          have HC := Lib.hid ((C3.new wr (.int .i64 1) (.int .i64 xn) (.string ⟨#[]⟩) 64).keep hb3 (by simp))
          have HZ : Hid (wr.heap.size < w3.heap.size) := Lib.hid (World.block_lt_of_cell? _ _ HC.out.1)
          have KQ : Calls Tryd.prog 44 #[v, .int .u64 1] _ _ := HK.out _ v (HO.out.next hbz)
          obtain ⟨k1, k2, k3⟩ := HC.out
          clear hb3 hbx hbz KG d0 d1 d2 HK HO
          go_wp2_with fail
          clear k1 k2 k3
          refine KQ.mono ?_
          rintro e w4 ⟨v4, rfl, HO5, hb4⟩
          have HC4 := Lib.hid (HC.out.keep hb4 HZ.out)
          obtain ⟨k1, k2, k3⟩ := HC4.out
          clear KQ HC HZ hb4
          have KQ2 := HK2.out _ _ HO5.out
          clear HK2 HO5
          go_wp2_with fail
          refine (KZ _).mono ?_
          rintro e w5 ⟨rfl, rfl⟩
          go_wp2_with fail
          refine KQ2.mono ?_
          rintro e w6 ⟨v6, rfl, HO5, hb6⟩
          clear KQ2 hb6 KZ k1 k2 k3
          go_wp2_with fail
          go_roundw
          case rel => exact ⟨i + 1, _, _, by go_num, hlt, rfl, HO5, Lib.hid HA.out.symm⟩
          case measure => simp [RowKit.intOf]; omega
        · simp only at e1 e2; subst e1 e2
          have eb := (bytes_float xn ⟨#[]⟩).1
          have HK := Lib.hid (fun (wx : World) (vx : Value) (ho : Out w wx vx acc) => ho.rput 2 (by decide) (room0 hacc))
          rw [eb] at HA
          have hz := zig_zag xn hxi.1 hxi.2
          have KZ := fun w => refZig_any xn w hxi.1 (Int.le_of_lt_add_one hxi.2)
          have HK2 := Lib.hid (fun (wx : World) (vx : Value) (ho : Out w wx vx (acc ++ dig 2)) => ho.rput (zgN xn) hz.2 (room5 hacc (dig_len10 (u := 2) (by decide))))
          have hzc := zg_cast xn
          rw [hzc] at HK2
          rw [← List.append_assoc] at HA
          clear hz hzc
          generalize dig (zgN xn) = DZ at *
          generalize zigN xn = ZN at *
          clear hxi hacc hgx eb hgd
          go_wp2_with fail
          refine (KG _).mono ?_
          rintro e w3 ⟨rfl, hb3⟩
          have hbx := hb3.mono (show wr.heap.size ≤ _ by simp)
          have hbz : Below wr.heap.size wr w3 := ((Below.refl _ _).alloc (Nat.le_refl _) _).trans hbx
          have HC := Lib.hid ((C3.new wr (.int .i64 2) (.int .i64 xn) (.string ⟨#[]⟩) 64).keep hb3 (by simp))
          have HZ : Hid (wr.heap.size < w3.heap.size) := Lib.hid (World.block_lt_of_cell? _ _ HC.out.1)
          have KQ : Calls Tryd.prog 44 #[v, .int .u64 2] _ _ := HK.out _ v (HO.out.next hbz)
          obtain ⟨k1, k2, k3⟩ := HC.out
          clear hb3 hbx hbz KG d0 d1 d2 HK HO
          go_wp2_with fail
          clear k1 k2 k3
          refine KQ.mono ?_
          rintro e w4 ⟨v4, rfl, HO5, hb4⟩
          have HC4 := Lib.hid (HC.out.keep hb4 HZ.out)
          obtain ⟨k1, k2, k3⟩ := HC4.out
          clear KQ HC HZ hb4
          have KQ2 := HK2.out _ _ HO5.out
          clear HK2 HO5
          go_wp2_with fail
          refine (KZ _).mono ?_
          rintro e w5 ⟨rfl, rfl⟩
          go_wp2_with fail
          refine KQ2.mono ?_
          rintro e w6 ⟨v6, rfl, HO5, hb6⟩
          clear KQ2 hb6 KZ k1 k2 k3
          go_wp2_with fail
          go_roundw
          case rel => exact ⟨i + 1, _, _, by go_num, hlt, rfl, HO5, Lib.hid HA.out.symm⟩
          case measure => simp [RowKit.intOf]; omega
        · simp only at e1 e2 e3; subst e1 e2
          have eb := (bytes_str 0 xs).1
          have HK := Lib.hid (fun (wx : World) (vx : Value) (ho : Out w wx vx acc) => ho.rput 3 (by decide) (room0 hacc))
          rw [eb] at HA
          have hd3 := dig_len10 (u := 3) (by decide)
          have hsz : xs.size < 18446744073709551616 := Nat.lt_of_le_of_lt e3 (by decide)
          have hdz := dig_len10 hsz
          have HK2 := Lib.hid (fun (wx : World) (vx : Value) (ho : Out w wx vx (acc ++ dig 3)) => ho.rput2 xs.size hsz (room5 hacc hd3))
          have HK3 := Lib.hid (fun (wx : World) (vx : Value) (ho : Out w wx vx (acc ++ dig 3 ++ dig xs.size)) => ho.str xs (room6 hacc hd3 hdz e3))
          have wz : IntKind.u64.wrap (xs.size : Int) = (xs.size : Int) := by rw [IntKind.wrap_u64]; exact Int.emod_eq_of_lt (Int.natCast_nonneg _) (Int.ofNat_lt.2 hsz)
          rw [← List.append_assoc, ← List.append_assoc] at HA
          clear hsz hd3 hdz
          generalize dig xs.size = DZ at *
          clear hxi hacc hgx eb hgd e3
          go_wp2_with fail
          refine (KG _).mono ?_
          rintro e w3 ⟨rfl, hb3⟩
          have hbx := hb3.mono (show wr.heap.size ≤ _ by simp)
          have hbz : Below wr.heap.size wr w3 := ((Below.refl _ _).alloc (Nat.le_refl _) _).trans hbx
          have HC := Lib.hid ((C3.new wr (.int .i64 3) (.int .i64 0) (.string xs) 64).keep hb3 (by simp))
          have HZ : Hid (wr.heap.size < w3.heap.size) := Lib.hid (World.block_lt_of_cell? _ _ HC.out.1)
          have KQ : Calls Tryd.prog 44 #[v, .int .u64 3] _ _ := HK.out _ v (HO.out.next hbz)
          obtain ⟨k1, k2, k3⟩ := HC.out
          clear hb3 hbx hbz KG d0 d1 d2 HK HO
          go_wp2_with fail
          clear k1 k2 k3
          refine KQ.mono ?_
          rintro e w4 ⟨v4, rfl, HO5, hb4⟩
          have HC4 := Lib.hid (HC.out.keep hb4 HZ.out)
          obtain ⟨k1, k2, k3⟩ := HC4.out
          clear KQ HC HZ hb4
          have HZ4 : Hid (wr.heap.size < w4.heap.size) := Lib.hid (World.block_lt_of_cell? _ _ k1)
          go_wp2_with fail
          have S0 : w4.drew.cell? ⟨wr.heap.size, 2, none⟩ = some (.string xs) := k3
          clear k1 k2 k3
          refine wp_region_mix (fun W => W.cell? ⟨wr.heap.size, 2, none⟩ = some (.string xs)) 10 [(true, 0), (true, 1), (true, 2), (true, 6), (true, 7), (false, 3), (true, 4), (false, 5), (false, 8), (true, 9)] (by kernel_rfl) (by decide +kernel) rfl (by decide +kernel) S0 ?_
          iterate 5
            refine wpMix_take (v := ?_) rfl rfl ?_ ?_
            rotate_left
            · (intro W hW; (try dsimp only at hW); go_simp) <;> with_reducible rfl
            simp only [Act.put, List.setIfInBounds_toArray, List.set_cons_zero, List.set_cons_succ]
          refine wpMix_run rfl ?_
          intro K hK
          go_wp2_with fail
          refine hK.out _ _ (fun _ => S0) ?_
          clear hK K
          iterate 1
            refine wpMix_take (v := ?_) rfl rfl ?_ ?_
            rotate_left
            · (intro W hW; (try dsimp only at hW); go_simp) <;> with_reducible rfl
            simp only [Act.put, List.setIfInBounds_toArray, List.set_cons_zero, List.set_cons_succ]
          have HO6 := Lib.hid (HO5.out.next (below_drew_v w4))
          have KQ2 := HK2.out _ _ HO6.out
          refine wpMix_run rfl ?_
          intro K hK
          go_wp2_with fail
          refine KQ2.mono ?_
          rintro e w6 ⟨v6, rfl, HO7, hb6, hob⟩
          obtain ⟨v7, w7, r7, O8, g8⟩ := HK3.out _ _ HO7.out
          have S1 : w6.cell? ⟨wr.heap.size, 2, none⟩ = some (.string xs) := by rw [hb6.cell (World.block_lt_of_cell? _ _ S0)]; exact S0
          have hne : ∀ g, v6.ownBlock = some g → g ≠ wr.heap.size := fun g hg => Nat.ne_of_gt (Nat.lt_of_lt_of_le (World.block_lt_of_cell? _ _ S0) (hob g hg))
          have S2 : w7.cell? ⟨wr.heap.size, 2, none⟩ = some (.string xs) := by rw [World.cell?_of_block (w := w6) (g8 _ (World.block_lt_of_cell? _ _ S1) hne)]; exact S1
          have R7 := Lib.hid r7
          have HO9 := Lib.hid O8
          clear HO5 HO6 KQ2 HK2 HK3 hb6 r7 O8 g8 HO7 hne hob
          go_wp2_with fail
          refine hK.out _ _ (fun _ => S1) ?_
          clear hK K
          refine wpMix_run rfl ?_
          intro K hK
          go_wp2_with (at_builtin; refine wpList_append_run2 rfl _ _ 25 9 rfl rfl rfl (R7.out _) ?_)
          refine hK.out _ _ (fun _ => S2) ?_
          clear hK K
          iterate 1
            refine wpMix_take (v := ?_) rfl rfl ?_ ?_
            rotate_left
            · (intro W hW; (try dsimp only at hW); go_simp) <;> with_reducible rfl
            simp only [Act.put, List.setIfInBounds_toArray, List.set_cons_zero, List.set_cons_succ]
          refine wpMix_nil ?_
          go_wp2_with fail
          go_roundw
          case rel => exact ⟨i + 1, _, _, by go_num, hlt, rfl, HO9, Lib.hid HA.out.symm⟩
          case measure => simp [RowKit.intOf]; omega
        · simp only at e1 e2; subst e1 e2
          have eb := (bytes_bool xn ⟨#[]⟩).1
          have HK := Lib.hid (fun (wx : World) (vx : Value) (ho : Out w wx vx acc) => ho.rput 4 (by decide) (room0 hacc))
          rw [eb] at HA
          have hz := zig_zag xn hxi.1 hxi.2
          have KZ := fun w => refZig_any xn w hxi.1 (Int.le_of_lt_add_one hxi.2)
          have HK2 := Lib.hid (fun (wx : World) (vx : Value) (ho : Out w wx vx (acc ++ dig 4)) => ho.rput (zgN xn) hz.2 (room5 hacc (dig_len10 (u := 4) (by decide))))
          have hzc := zg_cast xn
          rw [hzc] at HK2
          rw [← List.append_assoc] at HA
          clear hz hzc
          generalize dig (zgN xn) = DZ at *
          generalize zigN xn = ZN at *
          clear hxi hacc hgx eb hgd
          go_wp2_with fail
          refine (KG _).mono ?_
          rintro e w3 ⟨rfl, hb3⟩
          have hbx := hb3.mono (show wr.heap.size ≤ _ by simp)
          have hbz : Below wr.heap.size wr w3 := ((Below.refl _ _).alloc (Nat.le_refl _) _).trans hbx
          have HC := Lib.hid ((C3.new wr (.int .i64 4) (.int .i64 xn) (.string ⟨#[]⟩) 64).keep hb3 (by simp))
          have HZ : Hid (wr.heap.size < w3.heap.size) := Lib.hid (World.block_lt_of_cell? _ _ HC.out.1)
          have KQ : Calls Tryd.prog 44 #[v, .int .u64 4] _ _ := HK.out _ v (HO.out.next hbz)
          obtain ⟨k1, k2, k3⟩ := HC.out
          clear hb3 hbx hbz KG d0 d1 d2 HK HO
          go_wp2_with fail
          clear k1 k2 k3
          refine KQ.mono ?_
          rintro e w4 ⟨v4, rfl, HO5, hb4⟩
          have HC4 := Lib.hid (HC.out.keep hb4 HZ.out)
          obtain ⟨k1, k2, k3⟩ := HC4.out
          clear KQ HC HZ hb4
          have KQ2 := HK2.out _ _ HO5.out
          clear HK2 HO5
          go_wp2_with fail
          refine (KZ _).mono ?_
          rintro e w5 ⟨rfl, rfl⟩
          go_wp2_with fail
          refine KQ2.mono ?_
          rintro e w6 ⟨v6, rfl, HO5, hb6⟩
          clear KQ2 hb6 KZ k1 k2 k3
          go_wp2_with fail
          go_roundw
          case rel => exact ⟨i + 1, _, _, by go_num, hlt, rfl, HO5, Lib.hid HA.out.symm⟩
          case measure => simp [RowKit.intOf]; omega
    · have hei : i = n := end_eq hin hlt
      have e1 : l.take i = l := by rw [hei, HNL.out]; exact List.take_length
      have e2 := HA.out
      rw [e1] at e2
      clear HA e1
      go_wp2_with fail
      go_ret
      exact ⟨_, rfl, by rw [show bytesV l = acc by rw [e2]; unfold bytesV; rw [HNL.out]]; exact HO.out.1, HO.out.2⟩
end Go.Proofs.YtpaigdblijhheaaDoor
/- The document's side of a record: what is zero, plain, and which records may be (a table's, a rollup's, of no kind). Conditions: none. -/
set_option maxRecDepth 100000
namespace Go.Proofs.YtpaigdblijhheaaDoor
open Go.RowKit Go.Maps Go.Sort Go.Lib

def nTB (tn : ByteArray) (an : Nat) : Bool := (tn.toList == []) && ((an : Int) == 0)
def nRB (rn rt : ByteArray) (bn cn : Nat) : Bool := (rn.toList == []) && ((rt.toList == []) && (((bn : Int) == 0) && ((cn : Int) == 0)))
theorem int_zero (n : Nat) : ((n : Int) == 0) = (n == 0) := by
  rw [Bool.eq_iff_iff, beq_iff_eq, beq_iff_eq]
  omega
theorem nTB_eq (x : RV) : nTB x.tn x.tc.length = noT x := by unfold nTB noT; rw [str_empty, int_zero]
theorem nRB_eq (x : RV) : nRB x.rn x.rt x.rd.length x.rm.length = noR x := by unfold nRB noR; rw [str_empty, str_empty, int_zero, int_zero, Bool.and_assoc, Bool.and_assoc]

set_option maxHeartbeats 1600000 in
theorem refnoT (tn : ByteArray) (a1 : Option Addr) (an ac : Nat) (w : World) : Calls Tryd.prog 42 #[.agg #[.string tn, .slice a1 an ac]] w fun e w' => e = .returned (.bool (nTB tn an)) ∧ Below w.heap.size w w' := by
  unfold nTB
  cases t0 : (tn.toList == [])
  · go_enter Tryd.func42, Tryd.ntmps42
    go_wp2_with fail
    go_ret
    exact ⟨rfl, below_o _ _⟩
  cases t1 : ((an : Int) == 0)
  · go_enter Tryd.func42, Tryd.ntmps42
    go_wp2_with fail
    go_ret
    exact ⟨rfl, below_o _ _⟩
  go_enter Tryd.func42, Tryd.ntmps42
  go_wp2_with fail
  go_ret
  exact ⟨rfl, below_o _ _⟩
set_option maxHeartbeats 1600000 in
theorem refnoR (rn rt : ByteArray) (b1 c1 : Option Addr) (bn bc cn cc : Nat) (w : World) : Calls Tryd.prog 41 #[.agg #[.string rn, .string rt, .slice b1 bn bc, .slice c1 cn cc]] w fun e w' => e = .returned (.bool (nRB rn rt bn cn)) ∧ Below w.heap.size w w' := by
  unfold nRB
  cases t0 : (rn.toList == [])
  · go_enter Tryd.func41, Tryd.ntmps41
    go_wp2_with fail
    go_ret
    exact ⟨rfl, below_o _ _⟩
  cases t1 : (rt.toList == [])
  · go_enter Tryd.func41, Tryd.ntmps41
    go_wp2_with fail
    go_ret
    exact ⟨rfl, below_o _ _⟩
  cases t2 : ((bn : Int) == 0)
  · go_enter Tryd.func41, Tryd.ntmps41
    go_wp2_with fail
    go_ret
    exact ⟨rfl, below_o _ _⟩
  cases t3 : ((cn : Int) == 0)
  · go_enter Tryd.func41, Tryd.ntmps41
    go_wp2_with fail
    go_ret
    exact ⟨rfl, below_o _ _⟩
  go_enter Tryd.func41, Tryd.ntmps41
  go_wp2_with fail
  go_ret
  exact ⟨rfl, below_o _ _⟩
set_option maxHeartbeats 1600000 in
theorem plain_any (k : Int) (tn rn rt nm : ByteArray) (a1 b1 c1 d1 : Option Addr) (an ac bn bc cn cc dn dc : Nat) (w : World) : Calls Tryd.prog 13 #[.agg #[.int .i64 k, .string tn, .slice a1 an ac, .string rn, .string rt, .slice b1 bn bc, .slice c1 cn cc, .string nm, .slice d1 dn dc]] w fun e w' => e = .returned (.agg #[.int .i64 k, .string tn, .slice a1 an ac, .string rn, .string rt, .slice b1 bn bc, .slice c1 cn cc, .string nm, .slice d1 dn dc]) ∧ Below w.heap.size w w' := by
  go_enter Tryd.func13, Tryd.ntmps13
  go_wp2_with fail
  refine bodyPost_ret (v := .agg #[.int .i64 k, .string tn, .slice a1 an ac, .string rn, .string rt, .slice b1 bn bc, .slice c1 cn cc, .string nm, .slice d1 dn dc]) ?_ rfl ⟨rfl, ?_⟩
  · simp [results, Tryd.results13, go_sem]
  · exact (below_o w _).alloc (by simp) _
theorem boxT {t : TypeId} {w V : World} {k : Int} {s1 s2 s3 s4 : ByteArray} {a b c d : Value} (h : V.heap[w.heap.size]? = some (.cells #[.int .i64 k, .string s1, a, .string s2, .string s3, b, c, .string s4, d] t (0, 0))) :
    V.cell? ⟨w.heap.size, 0, none⟩ = some (.int .i64 k) ∧ V.cell? ⟨w.heap.size, 1, none⟩ = some (.string s1) ∧ V.cell? ⟨w.heap.size, 2, none⟩ = some a ∧ V.cell? ⟨w.heap.size, 3, none⟩ = some (.string s2) ∧ V.cell? ⟨w.heap.size, 4, none⟩ = some (.string s3) ∧ V.cell? ⟨w.heap.size, 5, none⟩ = some b ∧ V.cell? ⟨w.heap.size, 6, none⟩ = some c ∧ V.cell? ⟨w.heap.size, 7, none⟩ = some (.string s4) ∧ V.cell? ⟨w.heap.size, 8, none⟩ = some d := by
  refine ⟨?_, ?_, ?_, ?_, ?_, ?_, ?_, ?_, ?_⟩ <;> (rw [cell_of_row _ _ _ _ _ _ h]; rfl)
def G1 (rn rt nm : ByteArray) (an bn cn dn : Nat) : Bool := decide ((1 : Int) ≤ (an : Int)) && (decide ((an : Int) ≤ 8) && (nRB rn rt bn cn && ((nm.toList == []) && ((dn : Int) == 0))))
def G2 (tn nm : ByteArray) (an bn cn dn : Nat) : Bool := decide ((bn : Int) ≤ 8) && (decide ((cn : Int) ≤ 16) && (nTB tn an && ((nm.toList == []) && ((dn : Int) == 0))))
set_option maxHeartbeats 3200000 in
theorem refgood_1 (tn rn rt nm : ByteArray) (a1 b1 c1 d1 : Option Addr) (an ac bn bc cn cc dn dc : Nat) (w : World) : Calls Tryd.prog 31 #[.agg #[.int .i64 1, .string tn, .slice a1 an ac, .string rn, .string rt, .slice b1 bn bc, .slice c1 cn cc, .string nm, .slice d1 dn dc]] w fun e w' => e = .returned (.bool (G1 rn rt nm an bn cn dn)) ∧ Below w.heap.size w w' := by
  have K := fun (V : World) => refnoR rn rt b1 c1 bn bc cn cc V
  unfold G1
  generalize nRB rn rt bn cn = B at *
  cases t0 : decide ((1 : Int) ≤ (an : Int))
  · go_enter Tryd.func31, Tryd.ntmps31
    go_wp2_with fail
    go_ret
    exact ⟨rfl, below_o _ _⟩
  cases t1 : decide ((an : Int) ≤ 8)
  · go_enter Tryd.func31, Tryd.ntmps31
    go_wp2_with fail
    go_ret
    exact ⟨rfl, below_o _ _⟩
  cases B
  · go_enter Tryd.func31, Tryd.ntmps31
    go_wp2_with fail
    refine (K _).mono ?_
    rintro e w1 ⟨rfl, hb⟩
    have FIN := (below_o w (.cells #[.int .i64 1, .string tn, .slice a1 an ac, .string rn, .string rt, .slice b1 bn bc, .slice c1 cn cc, .string nm, .slice d1 dn dc] 46)).trans (hb.mono (by simp))
    obtain ⟨_, _, _, _, _, _, _, c7, c8⟩ := boxT (t := 46) (w := w) (V := w1) (by rw [hb.block _ (by simp)]; exact heap_alloc_new w _)
    clear hb K
    go_wp2_with fail
    go_ret
    exact ⟨rfl, FIN⟩
  cases t2 : (nm.toList == [])
  · go_enter Tryd.func31, Tryd.ntmps31
    go_wp2_with fail
    refine (K _).mono ?_
    rintro e w1 ⟨rfl, hb⟩
    have FIN := (below_o w (.cells #[.int .i64 1, .string tn, .slice a1 an ac, .string rn, .string rt, .slice b1 bn bc, .slice c1 cn cc, .string nm, .slice d1 dn dc] 46)).trans (hb.mono (by simp))
    obtain ⟨_, _, _, _, _, _, _, c7, c8⟩ := boxT (t := 46) (w := w) (V := w1) (by rw [hb.block _ (by simp)]; exact heap_alloc_new w _)
    clear hb K
    go_wp2_with fail
    go_ret
    exact ⟨rfl, FIN⟩
  cases t3 : ((dn : Int) == 0)
  · go_enter Tryd.func31, Tryd.ntmps31
    go_wp2_with fail
    refine (K _).mono ?_
    rintro e w1 ⟨rfl, hb⟩
    have FIN := (below_o w (.cells #[.int .i64 1, .string tn, .slice a1 an ac, .string rn, .string rt, .slice b1 bn bc, .slice c1 cn cc, .string nm, .slice d1 dn dc] 46)).trans (hb.mono (by simp))
    obtain ⟨_, _, _, _, _, _, _, c7, c8⟩ := boxT (t := 46) (w := w) (V := w1) (by rw [hb.block _ (by simp)]; exact heap_alloc_new w _)
    clear hb K
    go_wp2_with fail
    go_ret
    exact ⟨rfl, FIN⟩
  go_enter Tryd.func31, Tryd.ntmps31
  go_wp2_with fail
  refine (K _).mono ?_
  rintro e w1 ⟨rfl, hb⟩
  have FIN := (below_o w (.cells #[.int .i64 1, .string tn, .slice a1 an ac, .string rn, .string rt, .slice b1 bn bc, .slice c1 cn cc, .string nm, .slice d1 dn dc] 46)).trans (hb.mono (by simp))
  obtain ⟨_, _, _, _, _, _, _, c7, c8⟩ := boxT (t := 46) (w := w) (V := w1) (by rw [hb.block _ (by simp)]; exact heap_alloc_new w _)
  clear hb K
  go_wp2_with fail
  go_ret
  exact ⟨rfl, FIN⟩
set_option maxHeartbeats 3200000 in
theorem refgood_2 (tn rn rt nm : ByteArray) (a1 b1 c1 d1 : Option Addr) (an ac bn bc cn cc dn dc : Nat) (w : World) : Calls Tryd.prog 31 #[.agg #[.int .i64 2, .string tn, .slice a1 an ac, .string rn, .string rt, .slice b1 bn bc, .slice c1 cn cc, .string nm, .slice d1 dn dc]] w fun e w' => e = .returned (.bool (G2 tn nm an bn cn dn)) ∧ Below w.heap.size w w' := by
  have K := fun (V : World) => refnoT tn a1 an ac V
  unfold G2
  generalize nTB tn an = B at *
  cases t0 : decide ((bn : Int) ≤ 8)
  · go_enter Tryd.func31, Tryd.ntmps31
    go_wp2_with fail
    go_ret
    exact ⟨rfl, below_o _ _⟩
  cases t1 : decide ((cn : Int) ≤ 16)
  · go_enter Tryd.func31, Tryd.ntmps31
    go_wp2_with fail
    go_ret
    exact ⟨rfl, below_o _ _⟩
  cases B
  · go_enter Tryd.func31, Tryd.ntmps31
    go_wp2_with fail
    refine (K _).mono ?_
    rintro e w1 ⟨rfl, hb⟩
    have FIN := (below_o w (.cells #[.int .i64 2, .string tn, .slice a1 an ac, .string rn, .string rt, .slice b1 bn bc, .slice c1 cn cc, .string nm, .slice d1 dn dc] 46)).trans (hb.mono (by simp))
    obtain ⟨_, _, _, _, _, _, _, c7, c8⟩ := boxT (t := 46) (w := w) (V := w1) (by rw [hb.block _ (by simp)]; exact heap_alloc_new w _)
    clear hb K
    go_wp2_with fail
    go_ret
    exact ⟨rfl, FIN⟩
  cases t2 : (nm.toList == [])
  · go_enter Tryd.func31, Tryd.ntmps31
    go_wp2_with fail
    refine (K _).mono ?_
    rintro e w1 ⟨rfl, hb⟩
    have FIN := (below_o w (.cells #[.int .i64 2, .string tn, .slice a1 an ac, .string rn, .string rt, .slice b1 bn bc, .slice c1 cn cc, .string nm, .slice d1 dn dc] 46)).trans (hb.mono (by simp))
    obtain ⟨_, _, _, _, _, _, _, c7, c8⟩ := boxT (t := 46) (w := w) (V := w1) (by rw [hb.block _ (by simp)]; exact heap_alloc_new w _)
    clear hb K
    go_wp2_with fail
    go_ret
    exact ⟨rfl, FIN⟩
  cases t3 : ((dn : Int) == 0)
  · go_enter Tryd.func31, Tryd.ntmps31
    go_wp2_with fail
    refine (K _).mono ?_
    rintro e w1 ⟨rfl, hb⟩
    have FIN := (below_o w (.cells #[.int .i64 2, .string tn, .slice a1 an ac, .string rn, .string rt, .slice b1 bn bc, .slice c1 cn cc, .string nm, .slice d1 dn dc] 46)).trans (hb.mono (by simp))
    obtain ⟨_, _, _, _, _, _, _, c7, c8⟩ := boxT (t := 46) (w := w) (V := w1) (by rw [hb.block _ (by simp)]; exact heap_alloc_new w _)
    clear hb K
    go_wp2_with fail
    go_ret
    exact ⟨rfl, FIN⟩
  go_enter Tryd.func31, Tryd.ntmps31
  go_wp2_with fail
  refine (K _).mono ?_
  rintro e w1 ⟨rfl, hb⟩
  have FIN := (below_o w (.cells #[.int .i64 2, .string tn, .slice a1 an ac, .string rn, .string rt, .slice b1 bn bc, .slice c1 cn cc, .string nm, .slice d1 dn dc] 46)).trans (hb.mono (by simp))
  obtain ⟨_, _, _, _, _, _, _, c7, c8⟩ := boxT (t := 46) (w := w) (V := w1) (by rw [hb.block _ (by simp)]; exact heap_alloc_new w _)
  clear hb K
  go_wp2_with fail
  go_ret
  exact ⟨rfl, FIN⟩
set_option maxHeartbeats 3200000 in
theorem refgood_no (k : Int) (h1 : k ≠ 1) (h2 : k ≠ 2) (h3 : k ≠ 3) (tn rn rt nm : ByteArray) (a1 b1 c1 d1 : Option Addr) (an ac bn bc cn cc dn dc : Nat) (w : World) : Calls Tryd.prog 31 #[.agg #[.int .i64 k, .string tn, .slice a1 an ac, .string rn, .string rt, .slice b1 bn bc, .slice c1 cn cc, .string nm, .slice d1 dn dc]] w fun e w' => e = .returned (.bool false) ∧ Below w.heap.size w w' := by
  have t1 : (k == 1) = false := by rw [beq_eq_false_iff_ne]; exact h1
  have t2 : (k == 2) = false := by rw [beq_eq_false_iff_ne]; exact h2
  have t3 : (k == 3) = false := by rw [beq_eq_false_iff_ne]; exact h3
  clear h1 h2 h3
  go_enter Tryd.func31, Tryd.ntmps31
  go_wp2_with fail
  go_ret
  exact ⟨rfl, below_o _ _⟩
end Go.Proofs.YtpaigdblijhheaaDoor
/- The document's side of a record: which batches may be. Conditions: as stated. -/
set_option maxRecDepth 100000
namespace Go.Proofs.YtpaigdblijhheaaDoor
open Go.RowKit Go.Maps Go.Sort Go.Lib

def FewOk (m : Nat) : Prop := fewB m 8 = true
theorem wrap_nextB {i n : Nat} (h : i < n) (hn : n ≤ 9223372036854775807) : IntKind.i64.wrap ((i : Int) + 1) = (i : Int) + 1 := by rw [IntKind.wrap_i64]; omega
theorem fewB_split {m : Nat} (h : fewB m 8 = true) : decide ((m : Int) < 1) = false ∧ decide ((8 : Int) < (m : Int)) = false := by
  obtain ⟨h1, h2⟩ := fewB_iff.1 h
  exact ⟨decide_eq_false (by omega), decide_eq_false (by omega)⟩
theorem goodB3 {x : RV} (hk : x.k = 3) : goodR x = (goodBat x.ws && (noT x && noR x)) := by
  unfold goodR
  rw [if_neg (by omega), if_neg (by omega), if_pos hk]
set_option maxHeartbeats 6400000 in
theorem refgood_3 (tn rn rt nm : ByteArray) (a1 b1 c1 : Option Addr) (an ac bn bc cn cc : Nat) {w : World} {v : Value} {ws : List (List VV)} (h : RowsH w v ws) (hi : ∀ r ∈ ws, ∀ x ∈ r, x.inI) (hrl : ∀ r ∈ ws, r.length ≤ 9223372036854775807) :
    Calls Tryd.prog 31 #[.agg #[.int .i64 3, .string tn, .slice a1 an ac, .string rn, .string rt, .slice b1 bn bc, .slice c1 cn cc, .string nm, v]] w fun e w' => e = .returned (.bool (goodBat ws && (nTB tn an && nRB rn rt bn cn))) ∧ Below w.heap.size w w' := by
  obtain ⟨a, c, rfl, hc⟩ := h.form
  have KT := fun (V : World) => refnoT tn a1 an ac V
  have KR := fun (V : World) => refnoR rn rt b1 c1 bn bc cn cc V
  generalize nTB tn an = T at *
  generalize nRB rn rt bn cn = R at *
  obtain ⟨n, hn⟩ : ∃ n, n = ws.length := ⟨_, rfl⟩
  have hb0 := below_o w (.cells #[.int .i64 3, .string tn, .slice a1 an ac, .string rn, .string rt, .slice b1 bn bc, .slice c1 cn cc, .string nm, .slice a n c] 46)
  have HCX := Lib.hid (fun (V : World) (hb : Below (w.heap.size + 1) (w.alloc (.cells #[.int .i64 3, .string tn, .slice a1 an ac, .string rn, .string rt, .slice b1 bn bc, .slice c1 cn cc, .string nm, .slice a n c] 46)) V) => boxT (t := 46) (w := w) (V := V) (by rw [hb.block _ (by omega)]; exact heap_alloc_new w _))
  have hs0 : (w.alloc (.cells #[.int .i64 3, .string tn, .slice a1 an ac, .string rn, .string rt, .slice b1 bn bc, .slice c1 cn cc, .string nm, .slice a n c] 46)).heap.size = w.heap.size + 1 := by simp
  obtain ⟨B, hB⟩ : ∃ B, (goodBat ws && (T && R)) = B := ⟨_, rfl⟩
  rw [hB, ← hn]
  by_cases h1 : n < 1
  · obtain rfl : B = false := by rw [← hB]; unfold goodBat fewB; rw [← hn, decide_eq_false (by omega : ¬ 1 ≤ n)]; rfl
    have t0 : decide ((n : Int) < 1) = true := decide_eq_true (by omega)
    clear h hi hB hn hc h1 KT KR HCX hs0 hrl
    go_enter Tryd.func31, Tryd.ntmps31
    go_wp2_with fail
    go_ret
    exact ⟨rfl, hb0⟩
  have t0 : decide ((n : Int) < 1) = false := decide_eq_false (by omega)
  by_cases h2 : 200 < n
  · obtain rfl : B = false := by rw [← hB]; unfold goodBat fewB; rw [← hn, decide_eq_false (by omega : ¬ n ≤ 200), Bool.and_false]; rfl
    have t1 : decide ((200 : Int) < (n : Int)) = true := decide_eq_true (by omega)
    clear h hi hB hn hc h1 h2 KT KR HCX hs0 hrl
    go_enter Tryd.func31, Tryd.ntmps31
    go_wp2_with fail
    go_ret
    exact ⟨rfl, hb0⟩
  have t1 : decide ((200 : Int) < (n : Int)) = false := decide_eq_false (by omega)
  have HS0 := Lib.hid hs0
  have HB0 := Lib.hid hb0
  cases T
  · obtain rfl : B = false := by rw [← hB]; cases goodBat ws <;> rfl
    clear h hi hB hn hc h1 h2 KR hs0 hb0 hrl
    go_enter Tryd.func31, Tryd.ntmps31
    go_wp2_with fail
    refine (KT _).mono ?_
    rintro e w1 ⟨rfl, hb1⟩
    have FIN := HB0.out.trans (hb1.mono HB0.out.size)
    clear hb1
    go_wp2_with fail
    go_ret
    exact ⟨rfl, FIN⟩
  cases R
  · obtain rfl : B = false := by rw [← hB]; cases goodBat ws <;> rfl
    clear h hi hB hn hc h1 h2 hs0 hb0 hrl
    go_enter Tryd.func31, Tryd.ntmps31
    go_wp2_with fail
    refine (KT _).mono ?_
    rintro e w1 ⟨rfl, hb1⟩
    have FIN1 := Lib.hid (HB0.out.trans (hb1.mono HB0.out.size))
    obtain ⟨_, _, _, c3, c4, c5, c6, c7, c8⟩ := HCX.out w1 (hb1.mono (by rw [HS0.out]; exact Nat.le_refl _))
    clear hb1
    go_wp2_with fail
    refine (KR _).mono ?_
    rintro e w2 ⟨rfl, hb2⟩
    have FIN := FIN1.out.trans (hb2.mono FIN1.out.size)
    clear hb2
    go_wp2_with fail
    go_ret
    exact ⟨rfl, FIN⟩
  obtain ⟨r0, hr0⟩ : ∃ r0, ws[0]? = some r0 := ⟨ws[0]'(by omega), List.getElem?_eq_getElem _⟩
  have hh : ws.headD [] = r0 := by
    cases ws with
    | nil => simp at hr0
    | cons x l => simp at hr0; simpa using hr0
  have hBe : B = (fewB r0.length 8 && ws.all (rowG r0.length)) := by
    rw [← hB]
    unfold goodBat
    rw [hh, ← hn, fewB_iff.2 ⟨by omega, by omega⟩]
    simp
  obtain ⟨ad, u0, k0, e0, c0, hv0⟩ := h.at_ hr0
  subst e0
  have e00 : ad.add 0 = ad := by unfold Addr.add; simp
  rw [e00] at c0
  have C0 := Lib.hid (fun (w' : World) (hb : Below w.heap.size w w') => kept_below hb _ _ c0)
  have H := Lib.hid (fun (w' : World) (hb : Below w.heap.size w w') => h.kept (kept_below hb))
  have HI := Lib.hid hi
  have HRL := Lib.hid hrl
  obtain ⟨m, hm⟩ : ∃ m, m = r0.length := ⟨_, rfl⟩
  rw [← hm] at hBe C0
  have HBE := Lib.hid hBe
  rw [← hn] at H
  have p0 : (0 : Int) < (n : Int) := by omega
  have HN := Lib.hid hn
  have H200 : Hid (n ≤ 200) := Lib.hid (by omega)
  clear h hi hB hn hc c0 hh hr0 hv0 e00 hm h1 h2 hb0 hs0 hrl hBe
  go_enter Tryd.func31, Tryd.ntmps31
  go_wp2_with fail
  refine (KT _).mono ?_
  rintro e w1 ⟨rfl, hb1⟩
  have FIN1 := Lib.hid (HB0.out.trans (hb1.mono HB0.out.size))
  have hx1 := hb1.mono (show w.heap.size + 1 ≤ _ by rw [HS0.out]; exact Nat.le_refl _)
  have HX1 := Lib.hid hx1
  obtain ⟨_, _, _, c3, c4, c5, c6, c7, c8⟩ := HCX.out w1 hx1
  clear hb1 hx1 KT
  go_wp2_with fail
  refine (KR _).mono ?_
  rintro e W0 ⟨rfl, hb2⟩
  have HB0 := Lib.hid (FIN1.out.trans (hb2.mono FIN1.out.size))
  clear c3 c4 c5 c6 c7 c8
  obtain ⟨_, _, _, _, _, _, _, _, c8⟩ := HCX.out W0 (HX1.out.trans (hb2.mono (by have := HX1.out.size; rw [HS0.out] at this; exact this)))
  have d0 := C0.out W0 HB0.out
  clear hb2 KR HCX FIN1 HX1
  go_wp2_with fail
  clear c8
  go_loopw [101] (fun k wr => ∃ i : Nat, k = .int .i64 i ∧ i ≤ n ∧ Hid ((ws.take i).all (rowG m) = true ∧ (1 ≤ i → FewOk m) ∧ Below W0.heap.size W0 wr)) (fun k _ => n - (RowKit.intOf k).toNat)
  case atStart => exact ⟨0, rfl, Nat.zero_le _, Lib.hid ⟨by simp, fun h => absurd h (by omega), Below.refl _ _⟩⟩
  case round =>
    clear d0
    obtain ⟨i, rfl, hin, HS⟩ := hrel
    have HBw := Lib.hid (HB0.out.trans (HS.out.2.2.mono HB0.out.size))
    by_cases hlt : i < n
    · obtain ⟨r, hr⟩ : ∃ r, ws[i]? = some r := ⟨ws[i]'(HN.out ▸ hlt), List.getElem?_eq_getElem _⟩
      have b0 : (0 : Int) ≤ (i : Int) := Int.natCast_nonneg i
      have b1 : (i : Int) < (n : Int) := Int.ofNat_lt.2 hlt
      have hw64 := wi_next hlt (Nat.le_trans H200.out (by decide))
      obtain ⟨ad', u, k, e, d0, hv⟩ := (H.out wr HBw.out).at_ hr
      cases e
      have hri := HI.out r (List.mem_of_getElem? hr)
      have hrL := HRL.out r (List.mem_of_getElem? hr)
      by_cases hne : r.length = m
      · have hge := rowG_eq hne
        have HV := Lib.hid (fun (W : World) (hb : Below wr.heap.size wr W) => hv.below hb)
        rw [hne] at d0 HV hrL
        have t2 : ((m : Int) != (m : Int)) = false := by simp
        cases h8 : fewB m 8
        · obtain rfl : B = false := by rw [HBE.out, h8]; rfl
          have FIN := HBw.out
          have hc : decide ((m : Int) < 1) = true ∨ (decide ((m : Int) < 1) = false ∧ decide ((8 : Int) < (m : Int)) = true) := by
            by_cases g1 : m < 1
            · exact .inl (decide_eq_true (by omega))
            · by_cases g2 : 8 < m
              · exact .inr ⟨decide_eq_false (by omega), decide_eq_true (by omega)⟩
              · rw [fewB_iff.2 ⟨by omega, by omega⟩] at h8; cases h8
          clear hr hne HS hv hri hge h8 hrL
          rcases hc with t3 | ⟨t3, t4⟩
          · go_wp2_with fail
            go_ret
            exact ⟨rfl, FIN⟩
          · go_wp2_with fail
            go_ret
            exact ⟨rfl, FIN⟩
        · obtain ⟨t3, t4⟩ := fewB_split h8
          have HRI := Lib.hid hri
          have HRn := Lib.hid hne
          have HRR := Lib.hid hr
          have HGE := Lib.hid hge
          have HTK := Lib.hid HS.out.1
          have H8 := Lib.hid h8
          have HRLm := Lib.hid hrL
          have HWB := Lib.hid HS.out.2.2
          obtain ⟨V, rfl⟩ : ∃ V, V = wr := ⟨_, rfl⟩
          clear hr hne HS hv hri hge h8 hrL
          go_wp2_with fail
          clear d0
          go_loopw [119] (fun k W => ∃ j : Nat, k = .int .i64 j ∧ j ≤ m ∧ Hid ((r.take j).all VV.good = true ∧ Below V.heap.size V W)) (fun k _ => m - (RowKit.intOf k).toNat)
          case atStart => exact ⟨0, rfl, Nat.zero_le _, Lib.hid ⟨by simp, Below.refl _ _⟩⟩
          case round =>
            obtain ⟨j, rfl, hjm, HS⟩ := hrel
            have HBx := Lib.hid (HBw.out.trans (HS.out.2.mono HBw.out.size))
            by_cases hjt : j < m
            · obtain ⟨x, hx⟩ : ∃ x, r[j]? = some x := ⟨r[j]'(HRn.out ▸ hjt), List.getElem?_eq_getElem _⟩
              obtain ⟨ad2, rfl, d0, d1, d2⟩ := (HV.out wr HS.out.2).at_ hx
              have hxi : x.inI := HRI.out x (List.mem_of_getElem? hx)
              have KG := refvgood_any x.k x.n x.s hxi.1 hxi.2
              have g0 : (0 : Int) ≤ (j : Int) := Int.natCast_nonneg j
              have g1 : (j : Int) < (m : Int) := Int.ofNat_lt.2 hjt
              have hw65 := wrap_nextB hjt HRLm.out
              have hg : x.good = goodV x.k x.n x.s := rfl
              cases hgx : goodV x.k x.n x.s
              · rw [hgx] at KG hg
                obtain rfl : B = false := by rw [HBE.out, H8.out, Bool.true_and]; exact all_false HRR.out (HGE.out.trans (all_false hx hg))
                obtain ⟨xk, xn, xs⟩ := x
                simp only at d0 d1 d2 KG
                clear hx hxi hg hgx HS
                go_wp2_with fail
                refine (KG _).mono ?_
                rintro e w2 ⟨rfl, hb2⟩
                have FIN := HBx.out.trans ((fits_box' hb2).2.mono HBx.out.size)
                clear hb2
                go_wp2_with fail
                go_ret
                exact ⟨rfl, FIN⟩
              · rw [hgx] at KG hg
                have hT := (all_take_succ hx HS.out.1).trans hg
                have HT := Lib.hid hT
                have HX := Lib.hid HS.out.2
                obtain ⟨xk, xn, xs⟩ := x
                simp only at d0 d1 d2 KG
                clear hx hxi hg hgx HS hT
                go_wp2_with fail
                refine (KG _).mono ?_
                rintro e w2 ⟨rfl, hb2⟩
                have FIN := Lib.hid (HX.out.trans ((fits_box' hb2).2.mono HX.out.size))
                clear hb2
                go_wp2_with fail
                go_roundw
                case rel => exact ⟨j + 1, by go_num, hjt, Lib.hid ⟨HT.out, FIN.out⟩⟩
                case measure => simp [RowKit.intOf]; omega
            · have hej : j = m := end_eq hjm hjt
              have hT : Hid ((ws.take (i + 1)).all (rowG m) = true ∧ (1 ≤ i + 1 → FewOk m) ∧ Below W0.heap.size W0 wr) := Lib.hid ⟨(all_take_succ HRR.out HTK.out).trans (by rw [HGE.out, ← HS.out.1, hej, ← HRn.out, List.take_length]), fun _ => H8.out, HWB.out.trans (HS.out.2.mono HWB.out.size)⟩
              clear HS
              go_wp2_with fail
              go_roundw
              case rel => exact ⟨i + 1, by go_num, hlt, hT⟩
              case measure => simp [RowKit.intOf]; omega
      · obtain rfl : B = false := by rw [HBE.out, all_false hr (rowG_false hne), Bool.and_false]
        have t2 : ((r.length : Int) != (m : Int)) = true := by rw [bne_iff_ne]; omega
        have FIN := HBw.out
        generalize r.length = rl at *
        clear hr hne HS hv hri hrL
        go_wp2_with fail
        go_ret
        exact ⟨rfl, FIN⟩
    · have hei : i = n := end_eq hin hlt
      obtain rfl : B = true := by
        have h8 : fewB m 8 = true := HS.out.2.1 (by omega)
        rw [HBE.out, h8, Bool.true_and, ← HS.out.1, hei, HN.out, List.take_length]
      have FIN := HBw.out
      clear HS HBE HBw
      go_wp2_with fail
      go_ret
      exact ⟨rfl, FIN⟩
end Go.Proofs.YtpaigdblijhheaaDoor
/- The document's side of a record: which may be, and a text behind bytes. Conditions: as stated. -/
set_option maxRecDepth 100000
namespace Go.Proofs.YtpaigdblijhheaaDoor
open Go.RowKit Go.Maps Go.Sort Go.Lib

theorem noB_eq (x : RV) : noB x = ((x.nm.toList == []) && ((x.ws.length : Int) == 0)) := by unfold noB; rw [str_empty, int_zero]
theorem fewB_eq (n : Nat) : fewB n 8 = (decide ((1 : Int) ≤ (n : Int)) && decide ((n : Int) ≤ 8)) := by
  unfold fewB
  rw [Bool.eq_iff_iff]
  simp
  omega
theorem G1_eq {x : RV} (hk : x.k = 1) : G1 x.rn x.rt x.nm x.tc.length x.rd.length x.rm.length x.ws.length = goodR x := by
  unfold G1 goodR
  rw [if_pos hk, nRB_eq, ← noB_eq, fewB_eq, Bool.and_assoc]
theorem G2_eq {x : RV} (hk : x.k = 2) : G2 x.tn x.nm x.tc.length x.rd.length x.rm.length x.ws.length = goodR x := by
  unfold G2 goodR goodRol
  rw [if_neg (by omega), if_pos hk, nTB_eq, ← noB_eq, Bool.and_assoc]
  have e1 : decide ((x.rd.length : Int) ≤ 8) = decide (x.rd.length ≤ 8) := by rw [decide_eq_decide]; omega
  have e2 : decide ((x.rm.length : Int) ≤ 16) = decide (x.rm.length ≤ 16) := by rw [decide_eq_decide]; omega
  rw [e1, e2]
/-- which records may be, as the document tells it -/
theorem refgood_all {w : World} {x : RV} {a b c d : Value} (h : RecH w x a b c d) (hi : x.inI) (hl : ∀ r ∈ x.ws, r.length ≤ 9223372036854775807) :
    Calls Tryd.prog 31 #[recV x a b c d] w fun e w' => e = .returned (.bool (goodR x)) ∧ Below w.heap.size w w' := by
  unfold recV
  by_cases h1 : x.k = 1
  · obtain ⟨a1, ac, b1, bc, c1, cc, d1, dc, rfl, rfl, rfl, rfl⟩ := h.form
    rw [h1, ← G1_eq h1]
    exact refgood_1 _ _ _ _ _ _ _ _ _ _ _ _ _ _ _ _ w
  by_cases h2 : x.k = 2
  · obtain ⟨a1, ac, b1, bc, c1, cc, d1, dc, rfl, rfl, rfl, rfl⟩ := h.form
    rw [h2, ← G2_eq h2]
    exact refgood_2 _ _ _ _ _ _ _ _ _ _ _ _ _ _ _ _ w
  by_cases h3 : x.k = 3
  · have hw := h.ws
    obtain ⟨a1, ac, b1, bc, c1, cc, d1, dc, rfl, rfl, rfl, rfl⟩ := h.form
    rw [h3, goodB3 h3, ← nTB_eq, ← nRB_eq]
    exact refgood_3 _ _ _ _ _ _ _ _ _ _ _ _ _ hw hi.ws hl
  · obtain ⟨a1, ac, b1, bc, c1, cc, d1, dc, rfl, rfl, rfl, rfl⟩ := h.form
    have e : goodR x = false := by unfold goodR; rw [if_neg h1, if_neg h2, if_neg h3]
    rw [e]
    exact refgood_no x.k h1 h2 h3 _ _ _ _ _ _ _ _ _ _ _ _ _ _ _ _ w
theorem refput_at {w wr : World} {v : Value} {acc : List UInt8} (h : Out w wr v acc) (n : Int) (hl : acc.length ≤ 17592186044000) :
    Calls Tryd.prog 44 #[v, .int .u64 ((uN n : Nat) : Int)] wr (PutP w wr (acc ++ inL n)) := by
  refine (h.rput (uN n) (uN_lt n) hl).mono ?_
  rintro e w' ⟨v', rfl, ho, hb⟩
  exact ⟨v', rfl, ho.out, Typ.below hb⟩
theorem reftext_at {w wr : World} {v : Value} {acc : List UInt8} (h : Out w wr v acc) (s : ByteArray) (hl : acc.length + s.size + 10 ≤ 17592186044000) :
    Calls Tryd.prog 45 #[v, .string s] wr (PutP w wr (acc ++ txL s)) := by
  have KN := refput_at h (s.size : Int) (by omega)
  have ht : txL s = inL (s.size : Int) ++ s.data.toList := by unfold txL inL; rw [uN_nat (by omega)]
  have hd := inL_len (s.size : Int)
  rw [uN_nat (by omega)] at KN
  rw [ht, ← List.append_assoc]
  generalize inL (s.size : Int) = D at *
  obtain ⟨a, c, rfl, _⟩ := ownsRow_form h.1
  have HL := Lib.hid (And.intro hd hl)
  have hwr : IntKind.u64.wrap (s.size : Int) = (s.size : Int) := by rw [IntKind.wrap_u64]; omega
  obtain ⟨m, hm⟩ : ∃ m, acc.length = m := ⟨_, rfl⟩
  rw [hm] at KN ⊢
  clear h hd hl ht hm
  go_enter Tryd.func45, Tryd.ntmps45
  go_wp2_with fail
  refine KN.mono ?_
  rintro e w1 ⟨v1, rfl, ho, hT⟩
  obtain ⟨v', w2, r, o, g⟩ := app_str (u := 9) Tryd.underlying9 ho.1 ho.2.size s (by rw [List.length_append]; have := HL.out; omega)
  have FIN : Hid (PutP w wr (acc ++ D ++ s.data.toList) (.returned v') w2) := Lib.hid ⟨v', rfl, ⟨o, ho.2.trans (below_grown g ho.2.size (ownsRow_ge ho.1))⟩, hT.trans (Typ.grown ho.1 g)⟩
  obtain ⟨va, vc, hv, _⟩ := ownsRow_form ho.1
  generalize (acc ++ D).length = N at hv
  subst hv
  have R := Lib.hid r
  clear ho hT o g r KN
  go_wp2_with (at_builtin; refine wpList_append_run2 rfl _ _ 25 9 rfl rfl rfl (R.out _) ?_)
  go_ret
  exact FIN.out
end Go.Proofs.YtpaigdblijhheaaDoor
/- The document's side of a record: what it writes of a table. Conditions: at most 2^43 bytes. -/
set_option maxRecDepth 100000
namespace Go.Proofs.YtpaigdblijhheaaDoor
open Go.RowKit Go.Maps Go.Sort Go.Lib

theorem box_typ {t : TypeId} (ht : t ≠ 5) {w V : World} {k : Int} {s1 s2 s3 s4 : ByteArray} {a b c d : Value} (h : Typ (w.alloc (.cells #[.int .i64 k, .string s1, a, .string s2, .string s3, b, c, .string s4, d] t)) V) :
    V.cell? ⟨w.heap.size, 0, none⟩ = some (.int .i64 k) ∧ V.cell? ⟨w.heap.size, 1, none⟩ = some (.string s1) ∧ V.cell? ⟨w.heap.size, 2, none⟩ = some a ∧ V.cell? ⟨w.heap.size, 3, none⟩ = some (.string s2) ∧ V.cell? ⟨w.heap.size, 4, none⟩ = some (.string s3) ∧ V.cell? ⟨w.heap.size, 5, none⟩ = some b ∧ V.cell? ⟨w.heap.size, 6, none⟩ = some c ∧ V.cell? ⟨w.heap.size, 7, none⟩ = some (.string s4) ∧ V.cell? ⟨w.heap.size, 8, none⟩ = some d :=
  boxT (h.2 _ _ _ (heap_alloc_new w _) ht)
theorem typ_drew {a b : World} (h : Typ a b) : Typ a b.drew := h
theorem out_drew {w wr : World} {v : Value} {acc : List UInt8} (h : Out w wr v acc) : Out w wr.drew v acc := h.next (below_drew_v wr)
theorem two_typ {t : TypeId} (ht : t ≠ 5) {w V : World} {x y : Value} (h : Typ (w.alloc (.cells #[x, y] t)) V) : V.cell? ⟨w.heap.size, 0, none⟩ = some x ∧ V.cell? ⟨w.heap.size, 1, none⟩ = some y := by
  have hq := h.2 _ _ _ (heap_alloc_new w (.cells #[x, y] t)) ht
  exact ⟨by rw [cell_of_row _ _ _ _ _ _ hq]; rfl, by rw [cell_of_row _ _ _ _ _ _ hq]; rfl⟩
set_option maxHeartbeats 12800000 in
theorem rwrite_1 {w : World} (tn rn rt nm : ByteArray) (cs : List (ByteArray × Int)) (a1 b1 c1 d1 : Option Addr) (n ac bn bc cn cc dn dc : Nat) (ha : Holds2 w (.slice a1 n ac) (cs.map colC)) (hn : n = cs.length) (hn9 : n ≤ 1000000000) (hl : (inL 1 ++ (txL tn ++ (dig n ++ manyL colL cs))).length ≤ 8796093022208) :
    Calls Tryd.prog 32 #[.agg #[.int .i64 1, .string tn, .slice a1 n ac, .string rn, .string rt, .slice b1 bn bc, .slice c1 cn cc, .string nm, .slice d1 dn dc]] w (OwnP w (inL 1 ++ (txL tn ++ (dig n ++ manyL colL cs)))) := by
  have hF2 : ((inL 1 ++ txL tn) ++ dig n) ++ manyL colL cs = inL 1 ++ (txL tn ++ (dig n ++ manyL colL cs)) := by simp only [List.append_assoc]
  simp only [List.length_append] at hl
  have htl := txL_len tn
  have hi1 : (inL 1).length ≤ 10 := inL_len 1
  have HT := Lib.hid (fun (V : World) (h : Typ (w.alloc (.cells #[.int .i64 1, .string tn, .slice a1 n ac, .string rn, .string rt, .slice b1 bn bc, .slice c1 cn cc, .string nm, .slice d1 dn dc] 46)) V) => box_typ (t := 46) (by decide) h)
  have K0 := refput_at ((Out.start w).typ (.cells #[.int .i64 1, .string tn, .slice a1 n ac, .string rn, .string rt, .slice b1 bn bc, .slice c1 cn cc, .string nm, .slice d1 dn dc] 46)) 1 (by simp)
  rw [List.nil_append, show uN 1 = 1 from rfl] at K0
  obtain ⟨D1, hD1⟩ : ∃ D, inL 1 = D := ⟨_, rfl⟩
  rw [hD1] at K0 hF2 hl hi1 ⊢
  have hw1 : IntKind.u64.wrap 1 = 1 := rfl
  have hwn : IntKind.u64.wrap (n : Int) = (n : Int) := by rw [IntKind.wrap_u64]; omega
  have KT := Lib.hid (fun (W : World) (v' : Value) (ho : Out w W v' D1) => reftext_at ho tn (by omega))
  have KN := Lib.hid (fun (W : World) (v' : Value) (ho : Out w W v' (D1 ++ txL tn)) => (by
    have := refput_at ho (n : Int) (by rw [List.length_append]; omega)
    rw [inL_nat (by omega), uN_nat (by omega)] at this
    exact this : Calls Tryd.prog 44 #[v', .int .u64 (n : Int)] W (PutP w W (D1 ++ txL tn ++ dig n))))
  have HR := Lib.hid (fun (i : Nat) (s : ByteArray) (z : Int) (hi : cs[i]? = some (s, z)) => (by
    have h1 := put_room (e := colL) hi
    simp only [colL, List.length_append] at h1
    have h2 := txL_len s
    have h3 := inL_len z
    simp only [List.length_append]
    exact ⟨by omega, by omega⟩ : (((D1 ++ txL tn) ++ dig n) ++ manyL colL (cs.take i)).length + s.size + 10 ≤ 17592186044000 ∧ ((((D1 ++ txL tn) ++ dig n) ++ manyL colL (cs.take i)) ++ txL s).length ≤ 17592186044000))
  have HA := Lib.hid ha
  have HF := Lib.hid hF2
  have HN := Lib.hid hn
  have HNL := Lib.hid hn9
  obtain ⟨G, hG⟩ : ∃ G, w.heap.size = G := ⟨_, rfl⟩
  have HGz := Lib.hid hG
  obtain ⟨F, hFe⟩ : ∃ F, D1 ++ (txL tn ++ (dig n ++ manyL colL cs)) = F := ⟨_, rfl⟩
  rw [hFe] at HF ⊢
  clear ha hl hF2 htl hn hn9 hi1 hD1 hG hFe
  go_enter Tryd.func32, Tryd.ntmps32
  go_wp2_with fail
  refine K0.mono ?_
  rintro e w1 ⟨v1, rfl, ho1, hT1⟩
  obtain ⟨e0, e1, e2, _, _, _, _, _, _⟩ := HT.out w1 hT1
  rw [HGz.out] at e0 e1 e2 HT
  have HT1 := Lib.hid hT1
  have KT1 := KT.out w1.drew v1 (out_drew ho1)
  obtain ⟨va1, vc1, hv1, _⟩ := ownsRow_form ho1.1
  generalize D1.length = m1 at hv1
  subst hv1
  clear ho1 hT1 K0 KT
  (try rw [HGz.out])
  go_wp2_with fail
  refine wp_region_mix (fun W => W.cell? ⟨G, 1, none⟩ = some (.string tn) ∧ W.cell? ⟨G, 2, none⟩ = some (.slice a1 n ac)) 11 [(true, 0), (true, 1), (true, 2), (true, 3), (true, 5), (true, 6), (true, 7), (true, 8), (true, 9), (false, 4), (false, 10), (false, 11)] (by kernel_rfl) (by decide +kernel) rfl (by decide +kernel) ⟨e1, e2⟩ ?_
  iterate 9
    refine wpMix_take (v := ?_) rfl rfl ?_ ?_
    rotate_left
    · (intro W hW; (try dsimp only at hW); go_simp) <;> with_reducible rfl
    simp only [Act.put, List.setIfInBounds_toArray, List.set_cons_zero, List.set_cons_succ]
  refine wpMix_run rfl ?_
  intro K hK
  go_wp2_with fail
  refine (KT1).mono ?_
  rintro e w2 ⟨v2, rfl, ho2, hT2⟩
  have hT2' := HT1.out.trans hT2
  have hc2 := HT.out w2 hT2'
  have KN2 := KN.out w2 v2 ho2
  go_wp2_with fail
  refine hK.out _ _ (fun _ => ⟨hc2.2.1, hc2.2.2.1⟩) ?_
  clear hK K
  refine wpMix_run rfl ?_
  intro K hK
  go_wp2_with fail
  refine (KN2).mono ?_
  rintro e w3 ⟨v3, rfl, ho3, hT3⟩
  have hT3' := hT2'.trans hT3
  have hc3 := HT.out w3 hT3'
  go_wp2_with fail
  refine hK.out _ _ (fun _ => ⟨hc3.2.1, hc3.2.2.1⟩) ?_
  clear hK K
  refine wpMix_run rfl ?_
  intro K hK
  go_wp2_with fail
  refine hK.out _ _ (fun _ => ⟨hc3.2.1, hc3.2.2.1⟩) ?_
  clear hK K
  refine wpMix_nil ?_
  obtain ⟨e0', _, e2', _⟩ := hc3
  have HO3 := Lib.hid ho3
  have HT3 := Lib.hid hT3'
  clear ho2 hT2 hT2' hc2 KN2 ho3 hT3 hT3' KT1 KN e0 e1 e2 HT1
  go_wp2_with fail
  clear e0' e2' HT
  go_loopw [3, 62] (fun s3 k W => ∃ (i : Nat) (v' : Value), k = .int .i64 i ∧ v' = s3 ∧ i ≤ n ∧ Hid (Out w W v' (((D1 ++ txL tn) ++ dig n) ++ manyL colL (cs.take i)))) (fun _ k _ => n - (RowKit.intOf k).toNat)
  case atStart => exact ⟨0, v3, rfl, rfl, Nat.zero_le _, Lib.hid (by simpa [manyL] using HO3.out)⟩
  case round =>
    clear HO3 HT3
    obtain ⟨i, v', rfl, rfl, hin, HS⟩ := hrel
    by_cases hlt : i < n
    · obtain ⟨⟨s, z⟩, hx⟩ : ∃ c, cs[i]? = some c := ⟨cs[i]'(HN.out ▸ hlt), List.getElem?_eq_getElem _⟩
      obtain ⟨ad, rfl, d0, d1⟩ := (HA.out.kept (kept_below HS.out.2)).at_ (i := i) (x := colC (s, z)) (by rw [List.getElem?_map, hx]; rfl)
      have b0 : (0 : Int) ≤ (i : Int) := Int.natCast_nonneg i
      have b1 : (i : Int) < (n : Int) := Int.ofNat_lt.2 hlt
      have hw64 := wi_next hlt HNL.out
      obtain ⟨r1, r2⟩ := HR.out i s z hx
      have hnx : ((D1 ++ txL tn) ++ dig n) ++ manyL colL (cs.take (i + 1)) = (((D1 ++ txL tn) ++ dig n) ++ manyL colL (cs.take i)) ++ txL s ++ inL z := by
        rw [many_take hx]
        simp only [colL, List.append_assoc]
      have HNX := Lib.hid hnx
      generalize ((D1 ++ txL tn) ++ dig n) ++ manyL colL (cs.take i) = X at *
      simp only [colC] at d0 d1
      have hwz := uN_wrap z
      obtain ⟨Gb, hGb⟩ : ∃ G, wr.heap.size = G := ⟨_, rfl⟩
      obtain ⟨W1, hW1⟩ : ∃ W1, wr.alloc (.cells #[.string s, .int .i64 z] 59) = W1 := ⟨_, rfl⟩
      have ST := Lib.hid (fun (V : World) (hV : Typ W1 V) => (by rw [← hW1] at hV; rw [← hGb]; exact two_typ (t := 59) (by decide) hV : V.cell? ⟨Gb, 0, none⟩ = some (.string s) ∧ V.cell? ⟨Gb, 1, none⟩ = some (.int .i64 z)))
      have O1 : Out w W1.drew v' X := by rw [← hW1]; exact out_drew (HS.out.typ _)
      have K1 := reftext_at O1 s r1
      have K2 := Lib.hid (fun (W : World) (v' : Value) (ho : Out w W v' (X ++ txL s)) => refput_at ho z r2)
      have q := ST.out W1 (Typ.refl _)
      obtain ⟨va, vc, hv, _⟩ := ownsRow_form O1.1
      generalize X.length = m3 at hv
      subst hv
      clear HS hnx r1 r2 hx O1
      go_wp2_with fail
      clear hW1 hGb d0 d1
      refine wp_region_mix (fun W => W.cell? ⟨Gb, 0, none⟩ = some (.string s) ∧ W.cell? ⟨Gb, 1, none⟩ = some (.int .i64 z)) 8 [(true, 0), (true, 1), (true, 2), (true, 4), (true, 5), (true, 6), (false, 3), (false, 7), (false, 8)] (by kernel_rfl) (by decide +kernel) rfl (by decide +kernel) q ?_
      iterate 6
        refine wpMix_take (v := ?_) rfl rfl ?_ ?_
        rotate_left
        · (intro W hW; (try dsimp only at hW); go_simp) <;> with_reducible rfl
        simp only [Act.put, List.setIfInBounds_toArray, List.set_cons_zero, List.set_cons_succ]
      refine wpMix_run rfl ?_
      intro K hK
      go_wp2_with fail
      refine (K1).mono ?_
      rintro e w2 ⟨v2, rfl, ho2, hT2⟩
      have hc2 := ST.out w2 (show Typ W1 w2 from hT2)
      have KN2 := K2.out w2 v2 ho2
      go_wp2_with fail
      refine hK.out _ _ (fun _ => hc2) ?_
      clear hK K
      refine wpMix_run rfl ?_
      intro K hK
      go_wp2_with fail
      refine (KN2).mono ?_
      rintro e w3 ⟨v3, rfl, ho3, hT3⟩
      have hc3 := ST.out w3 (Typ.trans (show Typ W1 w2 from hT2) hT3)
      go_wp2_with fail
      refine hK.out _ _ (fun _ => hc3) ?_
      clear hK K
      refine wpMix_run rfl ?_
      intro K hK
      go_wp2_with fail
      refine hK.out _ _ (fun _ => hc3) ?_
      clear hK K
      refine wpMix_nil ?_
      have HFIN : Hid (Out w w3 v3 (((D1 ++ txL tn) ++ dig n) ++ manyL colL (cs.take (i + 1)))) := Lib.hid (by rw [HNX.out]; exact ho3)
      clear ho2 hT2 hc2 KN2 ho3 hT3 hc3 K1 K2 ST HNX q hwz
      go_wp2_with fail
      go_roundw
      case rel => exact ⟨i + 1, v3, by go_num, rfl, hlt, HFIN⟩
      case measure => simp [RowKit.intOf]; omega
    · have hei : i = n := end_eq hin hlt
      have FIN : Hid (OwnP w F (.returned v') wr) := Lib.hid ⟨v', rfl, by
        rw [← HF.out]
        have := HS.out
        rw [hei, HN.out, List.take_length] at this
        rw [HN.out]
        exact this⟩
      clear HS HF
      go_wp2_with fail
      go_ret
      exact FIN.out
end Go.Proofs.YtpaigdblijhheaaDoor
/- The document's side of a record: what it writes of a rollup and of a batch. Conditions: at most 2^43 bytes. -/
set_option maxRecDepth 100000
namespace Go.Proofs.YtpaigdblijhheaaDoor
open Go.RowKit Go.Maps Go.Sort Go.Lib

set_option maxHeartbeats 12800000 in
theorem rwrite_2 {w : World} (tn rn rt nm : ByteArray) (ds : List ByteArray) (ms : List (Int × ByteArray)) (a1 b1 c1 d1 : Option Addr) (an ac bn bc cn cc dn dc : Nat) (hb : Holds w (.slice b1 bn bc) (strs ds)) (hc : Holds2 w (.slice c1 cn cc) (ms.map meaC)) (hbn : bn = ds.length) (hcn : cn = ms.length) (hb9 : bn ≤ 1000000000) (hc9 : cn ≤ 1000000000)
    (hl : (inL 2 ++ (txL rn ++ (txL rt ++ (dig bn ++ (manyL txL ds ++ (dig cn ++ manyL meaL ms)))))).length ≤ 8796093022208) :
    Calls Tryd.prog 32 #[.agg #[.int .i64 2, .string tn, .slice a1 an ac, .string rn, .string rt, .slice b1 bn bc, .slice c1 cn cc, .string nm, .slice d1 dn dc]] w (OwnP w (inL 2 ++ (txL rn ++ (txL rt ++ (dig bn ++ (manyL txL ds ++ (dig cn ++ manyL meaL ms))))))) := by
  simp only [List.length_append] at hl
  have htl := txL_len rn
  have htl2 := txL_len rt
  have hi1 : (inL 2).length ≤ 10 := inL_len 2
  have HT := Lib.hid (fun (V : World) (h : Typ (w.alloc (.cells #[.int .i64 2, .string tn, .slice a1 an ac, .string rn, .string rt, .slice b1 bn bc, .slice c1 cn cc, .string nm, .slice d1 dn dc] 46)) V) => box_typ (t := 46) (by decide) h)
  have K0 := refput_at ((Out.start w).typ (.cells #[.int .i64 2, .string tn, .slice a1 an ac, .string rn, .string rt, .slice b1 bn bc, .slice c1 cn cc, .string nm, .slice d1 dn dc] 46)) 2 (by simp)
  rw [List.nil_append, show uN 2 = 2 from rfl] at K0
  obtain ⟨D1, hD1⟩ : ∃ D, inL 2 = D := ⟨_, rfl⟩
  obtain ⟨X0, hX0⟩ : ∃ X, ((D1 ++ txL rn) ++ txL rt) ++ dig bn = X := ⟨_, rfl⟩
  obtain ⟨Y0, hY0⟩ : ∃ X, (X0 ++ manyL txL ds) ++ dig cn = X := ⟨_, rfl⟩
  have hF2 : Y0 ++ manyL meaL ms = inL 2 ++ (txL rn ++ (txL rt ++ (dig bn ++ (manyL txL ds ++ (dig cn ++ manyL meaL ms))))) := by rw [← hY0, ← hX0, hD1]; simp only [List.append_assoc]
  rw [hD1] at K0 hl hi1
  have hXl : X0.length = D1.length + (txL rn).length + (txL rt).length + (dig bn).length := by rw [← hX0]; simp only [List.length_append]
  have hYl : Y0.length = X0.length + (manyL txL ds).length + (dig cn).length := by rw [← hY0]; simp only [List.length_append]
  have hw1 : IntKind.u64.wrap 2 = 2 := rfl
  have hwn : IntKind.u64.wrap (bn : Int) = (bn : Int) := by rw [IntKind.wrap_u64]; omega
  have hwc : IntKind.u64.wrap (cn : Int) = (cn : Int) := by rw [IntKind.wrap_u64]; omega
  have KT := Lib.hid (fun (W : World) (v' : Value) (ho : Out w W v' D1) => reftext_at ho rn (by omega))
  have KT2 := Lib.hid (fun (W : World) (v' : Value) (ho : Out w W v' (D1 ++ txL rn)) => reftext_at ho rt (by rw [List.length_append]; omega))
  have KN := Lib.hid (fun (W : World) (v' : Value) (ho : Out w W v' ((D1 ++ txL rn) ++ txL rt)) => (by
    have := refput_at ho (bn : Int) (by rw [List.length_append, List.length_append]; omega)
    rw [inL_nat (by omega), uN_nat (by omega), hX0] at this
    exact this : Calls Tryd.prog 44 #[v', .int .u64 (bn : Int)] W (PutP w W X0)))
  have KM := Lib.hid (fun (W : World) (v' : Value) (ho : Out w W v' (X0 ++ manyL txL ds)) => (by
    have := refput_at ho (cn : Int) (by rw [List.length_append]; omega)
    rw [inL_nat (by omega), uN_nat (by omega), hY0] at this
    exact this : Calls Tryd.prog 44 #[v', .int .u64 (cn : Int)] W (PutP w W Y0)))
  have HR1 := Lib.hid (fun (i : Nat) (s : ByteArray) (hi : ds[i]? = some s) => (by
    have h1 := put_room (e := txL) hi
    have h2 := txL_len s
    rw [List.length_append]
    omega : (X0 ++ manyL txL (ds.take i)).length + s.size + 10 ≤ 17592186044000))
  have HR2 := Lib.hid (fun (i : Nat) (z : Int) (s : ByteArray) (hi : ms[i]? = some (z, s)) => (by
    have h1 := put_room (e := meaL) hi
    simp only [meaL, List.length_append] at h1
    have h2 := txL_len s
    have h3 := inL_len z
    simp only [List.length_append]
    exact ⟨by omega, by omega⟩ : (Y0 ++ manyL meaL (ms.take i)).length ≤ 17592186044000 ∧ ((Y0 ++ manyL meaL (ms.take i)) ++ inL z).length + s.size + 10 ≤ 17592186044000))
  have HA := Lib.hid hb
  have HC := Lib.hid hc
  have HF := Lib.hid hF2
  have HN := Lib.hid hbn
  have HM := Lib.hid hcn
  have HNL := Lib.hid hb9
  have HML := Lib.hid hc9
  obtain ⟨G, hG⟩ : ∃ G, w.heap.size = G := ⟨_, rfl⟩
  have HGz := Lib.hid hG
  obtain ⟨F, hFe⟩ : ∃ F, inL 2 ++ (txL rn ++ (txL rt ++ (dig bn ++ (manyL txL ds ++ (dig cn ++ manyL meaL ms))))) = F := ⟨_, rfl⟩
  rw [hFe] at HF ⊢
  clear hb hc hl hF2 htl htl2 hbn hcn hb9 hc9 hi1 hD1 hG hFe hX0 hY0 hXl hYl
  go_enter Tryd.func32, Tryd.ntmps32
  go_wp2_with fail
  refine K0.mono ?_
  rintro e w1 ⟨v1, rfl, ho1, hT1⟩
  have hc1 := HT.out w1 hT1
  rw [HGz.out] at hc1 HT
  obtain ⟨e0, _, _, e3, e4, e5, e6, _, _⟩ := hc1
  have HT1 := Lib.hid hT1
  have KT1 := KT.out w1.drew v1 (out_drew ho1)
  obtain ⟨va1, vc1, hv1, _⟩ := ownsRow_form ho1.1
  generalize D1.length = m1 at hv1
  subst hv1
  clear ho1 hT1 K0 KT
  (try rw [HGz.out])
  go_wp2_with fail
  refine wp_region_mix (fun W => W.cell? ⟨G, 3, none⟩ = some (.string rn) ∧ W.cell? ⟨G, 4, none⟩ = some (.string rt) ∧ W.cell? ⟨G, 5, none⟩ = some (.slice b1 bn bc)) 15 [(true, 0), (true, 1), (true, 2), (true, 3), (true, 5), (true, 6), (true, 7), (true, 9), (true, 10), (true, 11), (true, 12), (true, 13), (false, 4), (false, 8), (false, 14), (false, 15)] (by kernel_rfl) (by decide +kernel) rfl (by decide +kernel) ⟨e3, e4, e5⟩ ?_
  iterate 12
    refine wpMix_take (v := ?_) rfl rfl ?_ ?_
    rotate_left
    · (intro W hW; (try dsimp only at hW); go_simp) <;> with_reducible rfl
    simp only [Act.put, List.setIfInBounds_toArray, List.set_cons_zero, List.set_cons_succ]
  refine wpMix_run rfl ?_
  intro K hK
  go_wp2_with fail
  refine (KT1).mono ?_
  rintro e w2 ⟨v2, rfl, ho2, hT2⟩
  have hT2' := HT1.out.trans hT2
  have hc2 := HT.out w2 hT2'
  have KTa := KT2.out w2 v2 ho2
  go_wp2_with fail
  refine hK.out _ _ (fun _ => ⟨hc2.2.2.2.1, hc2.2.2.2.2.1, hc2.2.2.2.2.2.1⟩) ?_
  clear hK K
  refine wpMix_run rfl ?_
  intro K hK
  go_wp2_with fail
  refine (KTa).mono ?_
  rintro e w3 ⟨v3, rfl, ho3, hT3⟩
  have hT3' := hT2'.trans hT3
  have hc3 := HT.out w3 hT3'
  have KNa := KN.out w3 v3 ho3
  go_wp2_with fail
  refine hK.out _ _ (fun _ => ⟨hc3.2.2.2.1, hc3.2.2.2.2.1, hc3.2.2.2.2.2.1⟩) ?_
  clear hK K
  refine wpMix_run rfl ?_
  intro K hK
  go_wp2_with fail
  refine (KNa).mono ?_
  rintro e w4 ⟨v4, rfl, ho4, hT4⟩
  have hT4' := hT3'.trans hT4
  have hc4 := HT.out w4 hT4'
  go_wp2_with fail
  refine hK.out _ _ (fun _ => ⟨hc4.2.2.2.1, hc4.2.2.2.2.1, hc4.2.2.2.2.2.1⟩) ?_
  clear hK K
  refine wpMix_run rfl ?_
  intro K hK
  go_wp2_with fail
  refine hK.out _ _ (fun _ => ⟨hc4.2.2.2.1, hc4.2.2.2.2.1, hc4.2.2.2.2.2.1⟩) ?_
  clear hK K
  refine wpMix_nil ?_
  obtain ⟨_, _, _, _, _, e5', _, _, _⟩ := hc4
  have HO4 := Lib.hid ho4
  have HT4 := Lib.hid hT4'
  clear ho2 hT2 hT2' hc2 KTa ho3 hT3 hT3' hc3 KNa ho4 hT4 hT4' KT1 KT2 KN e0 e3 e4 e5 e6 HT1
  go_wp2_with fail
  clear e5'
  go_loopw [3, 96] (fun s3 k W => ∃ (i : Nat) (v' : Value), k = .int .i64 i ∧ v' = s3 ∧ i ≤ bn ∧ Hid (Out w W v' (X0 ++ manyL txL (ds.take i)) ∧ Typ (w.alloc (.cells #[.int .i64 2, .string tn, .slice a1 an ac, .string rn, .string rt, .slice b1 bn bc, .slice c1 cn cc, .string nm, .slice d1 dn dc] 46)) W)) (fun _ k _ => bn - (RowKit.intOf k).toNat)
  case atStart => exact ⟨0, v4, rfl, rfl, Nat.zero_le _, Lib.hid ⟨by simpa [manyL] using HO4.out, HT4.out⟩⟩
  case round =>
    clear HO4 HT4
    obtain ⟨i, v', rfl, rfl, hin, HS⟩ := hrel
    by_cases hlt : i < bn
    · obtain ⟨s, hx⟩ : ∃ s, ds[i]? = some s := ⟨ds[i]'(HN.out ▸ hlt), List.getElem?_eq_getElem _⟩
      have HH := HA.out.kept (kept_below HS.out.1.2)
      obtain ⟨ad, rfl⟩ := HH.ptr (by omega)
      have d0 := HH.cell (strs_at hx)
      have b0 : (0 : Int) ≤ (i : Int) := Int.natCast_nonneg i
      have b1' : (i : Int) < (bn : Int) := Int.ofNat_lt.2 hlt
      have hw64 := wi_next hlt HNL.out
      have KX := reftext_at HS.out.1 s (HR1.out i s hx)
      have HNX := Lib.hid (show X0 ++ manyL txL (ds.take (i + 1)) = (X0 ++ manyL txL (ds.take i)) ++ txL s by rw [many_take hx, List.append_assoc])
      have HTW := Lib.hid HS.out.2
      obtain ⟨va, vc, hv, _⟩ := ownsRow_form HS.out.1.1
      generalize (X0 ++ manyL txL (ds.take i)).length = m3 at hv
      subst hv
      clear HS hx HH
      go_wp2_with fail
      refine KX.mono ?_
      rintro e w5 ⟨v5, rfl, ho5, hT5⟩
      have HFIN : Hid (Out w w5 v5 (X0 ++ manyL txL (ds.take (i + 1))) ∧ Typ (w.alloc (.cells #[.int .i64 2, .string tn, .slice a1 an ac, .string rn, .string rt, .slice (some ad) bn bc, .slice c1 cn cc, .string nm, .slice d1 dn dc] 46)) w5) := Lib.hid ⟨by rw [HNX.out]; exact ho5, HTW.out.trans hT5⟩
      clear ho5 hT5 KX HTW
      go_wp2_with fail
      go_roundw
      case rel => exact ⟨i + 1, v5, by go_num, rfl, hlt, HFIN⟩
      case measure => simp [RowKit.intOf]; omega
    · have hei : i = bn := end_eq hin hlt
      have hO : Out w wr v' (X0 ++ manyL txL ds) := by
        have := HS.out.1
        rw [hei, HN.out, List.take_length] at this
        exact this
      have hc5 := HT.out wr HS.out.2
      obtain ⟨_, _, _, _, _, _, e6, _, _⟩ := hc5
      have KMa := KM.out wr v' hO
      have HTW := Lib.hid HS.out.2
      obtain ⟨va, vc, hv, _⟩ := ownsRow_form hO.1
      generalize (X0 ++ manyL txL ds).length = m3 at hv
      subst hv
      clear HS hO KM
      go_wp2_with fail
      refine KMa.mono ?_
      rintro e w6 ⟨v6, rfl, ho6, hT6⟩
      have hc6 := HT.out w6 (HTW.out.trans hT6)
      obtain ⟨_, _, _, _, _, _, e6', _, _⟩ := hc6
      have HO6 := Lib.hid ho6
      clear ho6 hT6 KMa e6 HTW HT
      go_wp2_with fail
      clear e6'
      go_loopw [3, 115] (fun s3 k W => ∃ (j : Nat) (v' : Value), k = .int .i64 j ∧ v' = s3 ∧ j ≤ cn ∧ Hid (Out w W v' (Y0 ++ manyL meaL (ms.take j)))) (fun _ k _ => cn - (RowKit.intOf k).toNat)
      case atStart => exact ⟨0, v6, rfl, rfl, Nat.zero_le _, Lib.hid (by simpa [manyL] using HO6.out)⟩
      case round =>
        clear HO6
        obtain ⟨j, v', rfl, rfl, hjn, HS⟩ := hrel
        by_cases hjt : j < cn
        · obtain ⟨⟨z, s⟩, hx⟩ : ∃ c, ms[j]? = some c := ⟨ms[j]'(HM.out ▸ hjt), List.getElem?_eq_getElem _⟩
          obtain ⟨ad, rfl, d0, d1'⟩ := (HC.out.kept (kept_below HS.out.2)).at_ (i := j) (x := meaC (z, s)) (by rw [List.getElem?_map, hx]; rfl)
          have b0 : (0 : Int) ≤ (j : Int) := Int.natCast_nonneg j
          have b1' : (j : Int) < (cn : Int) := Int.ofNat_lt.2 hjt
          have hw64 := wi_next hjt HML.out
          obtain ⟨r1, r2⟩ := HR2.out j z s hx
          have hnx : Y0 ++ manyL meaL (ms.take (j + 1)) = (Y0 ++ manyL meaL (ms.take j)) ++ inL z ++ txL s := by
            rw [many_take hx]
            simp only [meaL, List.append_assoc]
          have HNX := Lib.hid hnx
          generalize Y0 ++ manyL meaL (ms.take j) = X at *
          simp only [meaC] at d0 d1'
          have hwz := uN_wrap z
          obtain ⟨Gb, hGb⟩ : ∃ G, wr.heap.size = G := ⟨_, rfl⟩
          obtain ⟨W1, hW1⟩ : ∃ W1, wr.alloc (.cells #[.int .i64 z, .string s] 61) = W1 := ⟨_, rfl⟩
          have ST := Lib.hid (fun (V : World) (hV : Typ W1 V) => (by rw [← hW1] at hV; rw [← hGb]; exact two_typ (t := 61) (by decide) hV : V.cell? ⟨Gb, 0, none⟩ = some (.int .i64 z) ∧ V.cell? ⟨Gb, 1, none⟩ = some (.string s)))
          have O1 : Out w W1.drew v' X := by rw [← hW1]; exact out_drew (HS.out.typ _)
          have K1 := refput_at O1 z r1
          have K2 := Lib.hid (fun (W : World) (v' : Value) (ho : Out w W v' (X ++ inL z)) => reftext_at ho s r2)
          have q := ST.out W1 (Typ.refl _)
          obtain ⟨va, vc, hv, _⟩ := ownsRow_form O1.1
          generalize X.length = m3 at hv
          subst hv
          clear HS hnx r1 r2 hx O1
          go_wp2_with fail
          clear hW1 hGb d0 d1'
          refine wp_region_mix (fun W => W.cell? ⟨Gb, 0, none⟩ = some (.int .i64 z) ∧ W.cell? ⟨Gb, 1, none⟩ = some (.string s)) 8 [(true, 0), (true, 1), (true, 2), (true, 3), (true, 5), (true, 6), (false, 4), (false, 7), (false, 8)] (by kernel_rfl) (by decide +kernel) rfl (by decide +kernel) q ?_
          iterate 6
            refine wpMix_take (v := ?_) rfl rfl ?_ ?_
            rotate_left
            · (intro W hW; (try dsimp only at hW); go_simp) <;> with_reducible rfl
            simp only [Act.put, List.setIfInBounds_toArray, List.set_cons_zero, List.set_cons_succ]
          refine wpMix_run rfl ?_
          intro K hK
          go_wp2_with fail
          refine (K1).mono ?_
          rintro e w2 ⟨v2, rfl, ho2, hT2⟩
          have hc2 := ST.out w2 (show Typ W1 w2 from hT2)
          have KN2 := K2.out w2 v2 ho2
          go_wp2_with fail
          refine hK.out _ _ (fun _ => hc2) ?_
          clear hK K
          refine wpMix_run rfl ?_
          intro K hK
          go_wp2_with fail
          refine (KN2).mono ?_
          rintro e w3 ⟨v3, rfl, ho3, hT3⟩
          have hc3 := ST.out w3 (Typ.trans (show Typ W1 w2 from hT2) hT3)
          go_wp2_with fail
          refine hK.out _ _ (fun _ => hc3) ?_
          clear hK K
          refine wpMix_run rfl ?_
          intro K hK
          go_wp2_with fail
          refine hK.out _ _ (fun _ => hc3) ?_
          clear hK K
          refine wpMix_nil ?_
          have HFIN : Hid (Out w w3 v3 (Y0 ++ manyL meaL (ms.take (j + 1)))) := Lib.hid (by rw [HNX.out]; exact ho3)
          clear ho2 hT2 hc2 KN2 ho3 hT3 hc3 K1 K2 ST HNX q hwz
          go_wp2_with fail
          go_roundw
          case rel => exact ⟨j + 1, v3, by go_num, rfl, hjt, HFIN⟩
          case measure => simp [RowKit.intOf]; omega
        · have hej : j = cn := end_eq hjn hjt
          have FIN : Hid (OwnP w F (.returned v') wr) := Lib.hid ⟨v', rfl, by
            rw [← HF.out]
            have := HS.out
            rw [hej, HM.out, List.take_length] at this
            exact this⟩
          clear HS HF
          go_wp2_with fail
          go_ret
          exact FIN.out
set_option maxHeartbeats 12800000 in
theorem rwrite_3 {w : World} (tn rn rt nm : ByteArray) (ws : List (List VV)) (a1 b1 c1 d1 : Option Addr) (an ac bn bc cn cc dn dc : Nat) (hd : RowsH w (.slice d1 dn dc) ws) (hi : ∀ r ∈ ws, ∀ x ∈ r, x.inI) (hr : ∀ r ∈ ws, r.length ≤ 1000000000) (hdn : dn = ws.length) (hd9 : dn ≤ 1000000000)
    (hl : (inL 3 ++ (txL nm ++ (dig dn ++ manyL rowL ws))).length ≤ 8796093022208) :
    Calls Tryd.prog 32 #[.agg #[.int .i64 3, .string tn, .slice a1 an ac, .string rn, .string rt, .slice b1 bn bc, .slice c1 cn cc, .string nm, .slice d1 dn dc]] w (OwnP w (inL 3 ++ (txL nm ++ (dig dn ++ manyL rowL ws)))) := by
  have hF2 : ((inL 3 ++ txL nm) ++ dig dn) ++ manyL rowL ws = inL 3 ++ (txL nm ++ (dig dn ++ manyL rowL ws)) := by simp only [List.append_assoc]
  simp only [List.length_append] at hl
  have htl := txL_len nm
  have hi1 : (inL 3).length ≤ 10 := inL_len 3
  have HT := Lib.hid (fun (V : World) (h : Typ (w.alloc (.cells #[.int .i64 3, .string tn, .slice a1 an ac, .string rn, .string rt, .slice b1 bn bc, .slice c1 cn cc, .string nm, .slice d1 dn dc] 46)) V) => box_typ (t := 46) (by decide) h)
  have K0 := refput_at ((Out.start w).typ (.cells #[.int .i64 3, .string tn, .slice a1 an ac, .string rn, .string rt, .slice b1 bn bc, .slice c1 cn cc, .string nm, .slice d1 dn dc] 46)) 3 (by simp)
  rw [List.nil_append, show uN 3 = 3 from rfl] at K0
  obtain ⟨D1, hD1⟩ : ∃ D, inL 3 = D := ⟨_, rfl⟩
  rw [hD1] at K0 hF2 hl hi1 ⊢
  have hw1 : IntKind.u64.wrap 3 = 3 := rfl
  have hwn : IntKind.u64.wrap (dn : Int) = (dn : Int) := by rw [IntKind.wrap_u64]; omega
  obtain ⟨X0, hX0⟩ : ∃ X, (D1 ++ txL nm) ++ dig dn = X := ⟨_, rfl⟩
  have hXl : X0.length = D1.length + (txL nm).length + (dig dn).length := by rw [← hX0]; simp only [List.length_append]
  have KT := Lib.hid (fun (W : World) (v' : Value) (ho : Out w W v' D1) => reftext_at ho nm (by omega))
  have KN := Lib.hid (fun (W : World) (v' : Value) (ho : Out w W v' (D1 ++ txL nm)) => (by
    have := refput_at ho (dn : Int) (by rw [List.length_append]; omega)
    rw [inL_nat (by omega), uN_nat (by omega), hX0] at this
    exact this : Calls Tryd.prog 44 #[v', .int .u64 (dn : Int)] W (PutP w W X0)))
  have HR := Lib.hid (fun (i : Nat) (r : List VV) (hi : ws[i]? = some r) => (by
    have h1 := put_room (e := rowL) hi
    have h2 := rowL_len r
    have h3 : (rowL r).length = (dig (bytesV r).length).length + (bytesV r).length := by unfold rowL blL; rw [List.length_append]
    have h4 := dig_len10 (u := (bytesV r).length) (by omega)
    simp only [List.length_append]
    exact ⟨by omega, by omega, by omega⟩ : (X0 ++ manyL rowL (ws.take i)).length ≤ 17592186044000 ∧ ((X0 ++ manyL rowL (ws.take i)) ++ dig (bytesV r).length).length + (bytesV r).length ≤ 17592186044416 ∧ (bytesV r).length < 9223372036854775808))
  rw [hX0] at hF2
  have HD := Lib.hid hd
  have HI := Lib.hid hi
  have HRL := Lib.hid hr
  have HF := Lib.hid hF2
  have HN := Lib.hid hdn
  have HNL := Lib.hid hd9
  obtain ⟨G, hG⟩ : ∃ G, w.heap.size = G := ⟨_, rfl⟩
  have HGz := Lib.hid hG
  obtain ⟨F, hFe⟩ : ∃ F, D1 ++ (txL nm ++ (dig dn ++ manyL rowL ws)) = F := ⟨_, rfl⟩
  rw [hFe] at HF ⊢
  clear hd hi hr hl hF2 htl hdn hd9 hi1 hD1 hG hFe hX0 hXl
  go_enter Tryd.func32, Tryd.ntmps32
  go_wp2_with fail
  refine K0.mono ?_
  rintro e w1 ⟨v1, rfl, ho1, hT1⟩
  have hc1 := HT.out w1 hT1
  rw [HGz.out] at hc1 HT
  obtain ⟨e0, _, _, _, _, _, _, e7, e8⟩ := hc1
  have HT1 := Lib.hid hT1
  have KT1 := KT.out w1.drew v1 (out_drew ho1)
  obtain ⟨va1, vc1, hv1, _⟩ := ownsRow_form ho1.1
  generalize D1.length = m1 at hv1
  subst hv1
  clear ho1 hT1 K0 KT
  (try rw [HGz.out])
  go_wp2_with fail
  refine wp_region_mix (fun W => W.cell? ⟨G, 7, none⟩ = some (.string nm) ∧ W.cell? ⟨G, 8, none⟩ = some (.slice d1 dn dc)) 9 [(true, 0), (true, 1), (true, 2), (true, 4), (true, 5), (true, 6), (true, 7), (false, 3), (false, 8), (false, 9)] (by kernel_rfl) (by decide +kernel) rfl (by decide +kernel) ⟨e7, e8⟩ ?_
  iterate 7
    refine wpMix_take (v := ?_) rfl rfl ?_ ?_
    rotate_left
    · (intro W hW; (try dsimp only at hW); go_simp) <;> with_reducible rfl
    simp only [Act.put, List.setIfInBounds_toArray, List.set_cons_zero, List.set_cons_succ]
  refine wpMix_run rfl ?_
  intro K hK
  go_wp2_with fail
  refine (KT1).mono ?_
  rintro e w2 ⟨v2, rfl, ho2, hT2⟩
  have hT2' := HT1.out.trans hT2
  have hc2 := HT.out w2 hT2'
  have KNa := KN.out w2 v2 ho2
  go_wp2_with fail
  refine hK.out _ _ (fun _ => ⟨hc2.2.2.2.2.2.2.2.1, hc2.2.2.2.2.2.2.2.2⟩) ?_
  clear hK K
  refine wpMix_run rfl ?_
  intro K hK
  go_wp2_with fail
  refine (KNa).mono ?_
  rintro e w3 ⟨v3, rfl, ho3, hT3⟩
  have hT3' := hT2'.trans hT3
  have hc3 := HT.out w3 hT3'
  go_wp2_with fail
  refine hK.out _ _ (fun _ => ⟨hc3.2.2.2.2.2.2.2.1, hc3.2.2.2.2.2.2.2.2⟩) ?_
  clear hK K
  refine wpMix_run rfl ?_
  intro K hK
  go_wp2_with fail
  refine hK.out _ _ (fun _ => ⟨hc3.2.2.2.2.2.2.2.1, hc3.2.2.2.2.2.2.2.2⟩) ?_
  clear hK K
  refine wpMix_nil ?_
  obtain ⟨_, _, _, _, _, _, _, _, e8'⟩ := hc3
  have HO3 := Lib.hid ho3
  clear ho2 hT2 hT2' hc2 KNa ho3 hT3 hT3' KT1 KN e0 e7 e8 HT1 HT
  go_wp2_with fail
  clear e8'
  go_loopw [3, 31] (fun s3 k W => ∃ (i : Nat) (v' : Value), k = .int .i64 i ∧ v' = s3 ∧ i ≤ dn ∧ Hid (Out w W v' (X0 ++ manyL rowL (ws.take i)))) (fun _ k _ => dn - (RowKit.intOf k).toNat)
  case atStart => exact ⟨0, v3, rfl, rfl, Nat.zero_le _, Lib.hid (by simpa [manyL] using HO3.out)⟩
  case round =>
    clear HO3
    obtain ⟨i, v', rfl, rfl, hin, HS⟩ := hrel
    by_cases hlt : i < dn
    · obtain ⟨r, hx⟩ : ∃ c, ws[i]? = some c := ⟨ws[i]'(HN.out ▸ hlt), List.getElem?_eq_getElem _⟩
      obtain ⟨ad, u, k, rfl, d0, hvr⟩ := (HD.out.kept (kept_below HS.out.2)).at_ hx
      have b0 : (0 : Int) ≤ (i : Int) := Int.natCast_nonneg i
      have b1' : (i : Int) < (dn : Int) := Int.ofNat_lt.2 hlt
      have hw64 := wi_next hlt HNL.out
      obtain ⟨r1, r2, r3⟩ := HR.out i r hx
      have hmem := List.mem_of_getElem? hx
      have KB := refvbytes_any hvr (HRL.out r hmem) (HI.out r hmem)
      have HNX := Lib.hid (show X0 ++ manyL rowL (ws.take (i + 1)) = (X0 ++ manyL rowL (ws.take i)) ++ dig (bytesV r).length ++ bytesV r by rw [many_take hx]; simp only [rowL, blL, List.append_assoc])
      generalize X0 ++ manyL rowL (ws.take i) = X at *
      generalize bytesV r = BV at *
      generalize r.length = rl at *
      obtain ⟨bl, hbl⟩ : ∃ n, BV.length = n := ⟨_, rfl⟩
      have hwb : IntKind.u64.wrap (bl : Int) = (bl : Int) := by rw [IntKind.wrap_u64]; omega
      have HX := Lib.hid HS.out
      have HBL := Lib.hid (And.intro hbl (And.intro r1 (And.intro r2 r3)))
      obtain ⟨va, vc, hv, _⟩ := ownsRow_form HS.out.1
      generalize X.length = m3 at hv
      subst hv
      clear HS hx hvr hmem hbl r1 r2 r3
      go_wp2_with fail
      refine KB.mono ?_
      rintro e w4 ⟨v4, rfl, ho4, hb4⟩
      have hX4 := HX.out.next hb4
      have KP := hX4.rput bl (by have := HBL.out.2.2.2; have := HBL.out.1; omega) HBL.out.2.1
      have hO4 : Holds w4 v4 (u8s BV) := Holds.of_row (by rw [u8s_len]; exact ho4)
      have HO4 := Lib.hid hO4
      obtain ⟨va4, vc4, hv4, _⟩ := ownsRow_form ho4
      rw [HBL.out.1] at hv4
      subst hv4
      clear ho4 hO4 hX4 KB hb4
      go_wp2_with fail
      refine KP.mono ?_
      rintro e w5 ⟨v5, rfl, ho5, hb5⟩
      have ho5 := ho5.out
      obtain ⟨v6, w6, r6, o6, g6, _⟩ := app8 ho5.1 ho5.2.size (HO4.out.below hb5) (by have h := HBL.out.2.2.1; rw [HBL.out.1] at h ⊢; exact h)
      have HFIN : Hid (Out w w6 v6 (X0 ++ manyL rowL (ws.take (i + 1)))) := Lib.hid ⟨by rw [HNX.out, HBL.out.1]; exact o6, ho5.2.trans (below_grown g6 ho5.2.size (ownsRow_ge ho5.1))⟩
      have R6 := Lib.hid r6
      obtain ⟨va5, vc5, hv5, _⟩ := ownsRow_form ho5.1
      generalize (X ++ dig bl).length = m5 at hv5
      subst hv5
      clear ho5 hb5 o6 g6 r6 KP
      go_wp2_with (at_builtin; refine wpList_append_run rfl _ _ 25 rfl rfl rfl (R6.out _) ?_)
      go_roundw
      case rel => exact ⟨i + 1, v6, by go_num, rfl, hlt, HFIN⟩
      case measure => simp [RowKit.intOf]; omega
    · have hei : i = dn := end_eq hin hlt
      have FIN : Hid (OwnP w F (.returned v') wr) := Lib.hid ⟨v', rfl, by
        rw [← HF.out]
        have := HS.out
        rw [hei, HN.out, List.take_length] at this
        exact this⟩
      clear HS HF
      go_wp2_with fail
      go_ret
      exact FIN.out
end Go.Proofs.YtpaigdblijhheaaDoor
/- The document's side of a record: its bytes; the law's own 'same'. Conditions: as stated. -/
set_option maxRecDepth 100000
namespace Go.Proofs.YtpaigdblijhheaaDoor
open Go.RowKit Go.Maps Go.Sort Go.Lib

theorem rwrite_all {w : World} {x : RV} {a b c d : Value} (h : RecH w x a b c d) (hi : x.inI) (hg : goodR x = true) (hl : (bytR x).length ≤ 8796093022208) :
    Calls Tryd.prog 32 #[recV x a b c d] w (OwnP w (bytR x)) := by
  have h' := h
  obtain ⟨a1, ac, b1, bc, c1, cc, d1, dc, rfl, rfl, rfl, rfl⟩ := h'.form
  unfold recV
  rcases good_shape hg with ⟨e, g1, g2⟩ | ⟨e, g1, g2⟩ | ⟨e, g1⟩
  · have hk : x.k = 1 := by rw [e]; rfl
    have eb : bytR x = inL 1 ++ (txL x.tn ++ (dig x.tc.length ++ manyL colL x.tc)) := by unfold bytR bodL tabL; rw [if_pos hk, hk]
    rw [eb] at hl ⊢
    rw [hk]
    exact rwrite_1 _ _ _ _ _ _ _ _ _ _ _ _ _ _ _ _ _ h.tc rfl (by omega) hl
  · have hk : x.k = 2 := by rw [e]; rfl
    have eb : bytR x = inL 2 ++ (txL x.rn ++ (txL x.rt ++ (dig x.rd.length ++ (manyL txL x.rd ++ (dig x.rm.length ++ manyL meaL x.rm))))) := by unfold bytR bodL rolL; rw [if_neg (by omega), if_pos hk, hk]
    rw [eb] at hl ⊢
    rw [hk]
    exact rwrite_2 _ _ _ _ _ _ _ _ _ _ _ _ _ _ _ _ _ _ h.rd h.rm rfl rfl (by omega) (by omega) hl
  · have hk : x.k = 3 := by rw [e]; rfl
    have eb : bytR x = inL 3 ++ (txL x.nm ++ (dig x.ws.length ++ manyL rowL x.ws)) := by unfold bytR bodL batL; rw [if_neg (by omega), if_neg (by omega), hk]
    obtain ⟨n, n1, n8, w1, w2, hr⟩ := bat_iff.1 g1
    rw [eb] at hl ⊢
    rw [hk]
    exact rwrite_3 _ _ _ _ _ _ _ _ _ _ _ _ _ _ _ _ _ h.ws hi.ws (fun r hrm => by have := (hr r hrm).1; omega) rfl (by omega) hl
theorem boxN {t : TypeId} {V : World} {n : Nat} {k : Int} {s1 s2 s3 s4 : ByteArray} {a b c d : Value} (h : V.heap[n]? = some (.cells #[.int .i64 k, .string s1, a, .string s2, .string s3, b, c, .string s4, d] t (0, 0))) :
    V.cell? ⟨n, 0, none⟩ = some (.int .i64 k) ∧ V.cell? ⟨n, 1, none⟩ = some (.string s1) ∧ V.cell? ⟨n, 2, none⟩ = some a ∧ V.cell? ⟨n, 3, none⟩ = some (.string s2) ∧ V.cell? ⟨n, 4, none⟩ = some (.string s3) ∧ V.cell? ⟨n, 5, none⟩ = some b ∧ V.cell? ⟨n, 6, none⟩ = some c ∧ V.cell? ⟨n, 7, none⟩ = some (.string s4) ∧ V.cell? ⟨n, 8, none⟩ = some d := by
  refine ⟨?_, ?_, ?_, ?_, ?_, ?_, ?_, ?_, ?_⟩ <;> (rw [cell_of_row _ _ _ _ _ _ h]; rfl)
set_option maxHeartbeats 6400000 in
/-- a record in bytes, as the document tells it -/
theorem refbytes_all {w : World} {x : RV} {a b c d : Value} (h : RecH w x a b c d) (hi : x.inI) (hr : ∀ r ∈ x.ws, r.length ≤ 9223372036854775807) (hl : goodR x = true → (bytR x).length ≤ 8796093022208) :
    Calls Tryd.prog 23 #[recV x a b c d] w (BytP w x) := by
  have h' := h
  obtain ⟨a1, ac, b1, bc, c1, cc, d1, dc, rfl, rfl, rfl, rfl⟩ := h'.form
  obtain ⟨an, bn, cn, dn, ea, eb, ec, ed⟩ : ∃ an bn cn dn, x.tc.length = an ∧ x.rd.length = bn ∧ x.rm.length = cn ∧ x.ws.length = dn := ⟨_, _, _, _, rfl, rfl, rfl, rfl⟩
  have hb0 := below_o w (.cells #[.int .i64 x.k, .string x.tn, .slice a1 an ac, .string x.rn, .string x.rt, .slice b1 bn bc, .slice c1 cn cc, .string x.nm, .slice d1 dn dc] 46)
  have KG := refgood_all (h.below hb0) hi hr
  have HW := Lib.hid (fun (hg : goodR x = true) (V : World) (hb : Below w.heap.size w V) => rwrite_all (h.below hb) hi hg (hl hg))
  have hh0 := heap_alloc_new w (.cells #[.int .i64 x.k, .string x.tn, .slice a1 an ac, .string x.rn, .string x.rt, .slice b1 bn bc, .slice c1 cn cc, .string x.nm, .slice d1 dn dc] 46)
  have HH0 := Lib.hid hh0
  have HB0 := Lib.hid hb0
  unfold recV at *
  rw [ea, eb, ec, ed] at KG HW ⊢
  clear h hi hr hl hb0 hh0 ea eb ec ed
  cases hg : goodR x
  · have FIN := Lib.hid (fun (w' : World) (hb : Below w.heap.size w w') => (show BytP w x (.returned (.tuple #[.slice none 0 0, .int .i64 2])) w' from ⟨hb, .inl ⟨hg, rfl⟩⟩))
    rw [hg] at KG
    clear hg HW HH0
    go_enter Tryd.func23, Tryd.ntmps23
    go_wp2_with fail
    refine KG.mono ?_
    rintro e w1 ⟨rfl, hb1⟩
    have FI := FIN.out w1 (HB0.out.trans (hb1.mono HB0.out.size))
    clear hb1 KG
    go_wp2_with fail
    go_ret2
    exact FI
  · have KW := Lib.hid (HW.out hg)
    have FIN7 := Lib.hid (fun (w' : World) (hb : Below w.heap.size w w') (hl : 262144 < (bytR x).length) => (show BytP w x (.returned (.tuple #[.slice none 0 0, .int .i64 7])) w' from ⟨hb, .inr (.inl ⟨hg, hl, rfl⟩)⟩))
    have FIN0 := Lib.hid (fun (w' : World) (v : Value) (hb : Below w.heap.size w w') (hl : (bytR x).length ≤ 262144) (ho : w'.ownsRow w.heap.size 5 1 v (bytR x).length (u8s (bytR x))) => (show BytP w x (.returned (.tuple #[v, .int .i64 0])) w' from ⟨hb, .inr (.inr ⟨hg, hl, v, rfl, ho⟩)⟩))
    rw [hg] at KG
    clear hg HW
    go_enter Tryd.func23, Tryd.ntmps23
    go_wp2_with fail
    refine KG.mono ?_
    rintro e w1 ⟨rfl, hb1⟩
    obtain ⟨q0, q1, q2, q3, q4, q5, q6, q7, q8⟩ := boxN (n := w.heap.size) ((hb1.block _ (by simp)).trans HH0.out)
    have HB1 := Lib.hid (HB0.out.trans (hb1.mono HB0.out.size))
    have KW1 := KW.out w1 HB1.out
    clear hb1 KG KW HH0
    go_wp2_with fail
    refine KW1.mono ?_
    rintro e w2 ⟨v2, rfl, ho2, hb2⟩
    have HB2 := HB1.out.trans (hb2.mono HB1.out.size)
    have hos : w2.ownsRow w.heap.size 5 1 v2 (bytR x).length (u8s (bytR x)) := ownsRow_rebase ho2 (fun g hg => Nat.le_trans HB1.out.size (ho2.lt g hg).1)
    obtain ⟨v2a, v2c, hv2, _⟩ := ownsRow_form ho2
    by_cases hlen : 262144 < (bytR x).length
    · have FI := FIN7.out w2 HB2 hlen
      have t0 : decide ((262144 : Int) < ((bytR x).length : Int)) = true := decide_eq_true (by omega)
      generalize (bytR x).length = L at *
      subst hv2
      clear ho2 hb2 HB2 hos KW1 FIN0 FIN7 hlen
      go_wp2_with fail
      go_ret2
      exact FI
    · have FI := FIN0.out w2 v2 HB2 (by omega) hos
      have t0 : decide ((262144 : Int) < ((bytR x).length : Int)) = false := decide_eq_false (by omega)
      generalize (bytR x).length = L at *
      subst hv2
      clear ho2 hb2 HB2 hos KW1 FIN0 FIN7 hlen
      go_wp2_with fail
      go_ret2
      exact FI
set_option maxHeartbeats 6400000 in
/-- 'same' at a good record, twice -/
theorem same_good {w : World} {x : RV} {a b c d a' b' c' d' : Value} (h : RecH w x a b c d) (h' : RecH w x a' b' c' d') (hi : x.inI) (hg : goodR x = true) (hl : (bytR x).length ≤ 262144) (hr : ∀ r ∈ x.ws, r.length ≤ 9223372036854775807) :
    Calls Tryd.prog 12 #[recV x a b c d, recV x a' b' c' d'] w fun e w' => e = .returned (.bool true) ∧ Below w.heap.size w w' := by
  have hk := good_kind hg
  have g := h
  have g' := h'
  obtain ⟨a1, ac, b1, bc, c1, cc, d1, dc, rfl, rfl, rfl, rfl⟩ := g.form
  obtain ⟨a2, ac2, b2, bc2, c2, cc2, d2, dc2, rfl, rfl, rfl, rfl⟩ := g'.form
  obtain ⟨an, bn, cn, dn, ea, eb, ec, ed⟩ : ∃ an bn cn dn, x.tc.length = an ∧ x.rd.length = bn ∧ x.rm.length = cn ∧ x.ws.length = dn := ⟨_, _, _, _, rfl, rfl, rfl, rfl⟩
  have hb1 := below_o w (.cells #[.int .i64 x.k, .string x.tn, .slice a1 an ac, .string x.rn, .string x.rt, .slice b1 bn bc, .slice c1 cn cc, .string x.nm, .slice d1 dn dc] 36)
  have hb2 := hb1.alloc (by simp) (.cells #[.int .i64 x.k, .string x.tn, .slice a2 an ac2, .string x.rn, .string x.rt, .slice b2 bn bc2, .slice c2 cn cc2, .string x.nm, .slice d2 dn dc2] 46)
  have hq2 := heap_alloc_new (w.alloc (.cells #[.int .i64 x.k, .string x.tn, .slice a1 an ac, .string x.rn, .string x.rt, .slice b1 bn bc, .slice c1 cn cc, .string x.nm, .slice d1 dn dc] 36)) (.cells #[.int .i64 x.k, .string x.tn, .slice a2 an ac2, .string x.rn, .string x.rt, .slice b2 bn bc2, .slice c2 cn cc2, .string x.nm, .slice d2 dn dc2] 46)
  rw [show (w.alloc (.cells #[.int .i64 x.k, .string x.tn, .slice a1 an ac, .string x.rn, .string x.rt, .slice b1 bn bc, .slice c1 cn cc, .string x.nm, .slice d1 dn dc] 36)).heap.size = w.heap.size + 1 by simp] at hq2
  have HQ2 := Lib.hid hq2
  have HB0 := Lib.hid hb2
  have K1 := Lib.hid (fun (V : World) (hb : Below w.heap.size w V) => refbytes_all (h.below hb) hi hr (fun _ => by omega))
  have K2 := Lib.hid (fun (V : World) (hb : Below w.heap.size w V) => refbytes_all (h'.below hb) hi hr (fun _ => by omega))
  have KP := fun (V : World) => plain_any x.k x.tn x.rn x.rt x.nm a1 b1 c1 d1 an ac bn bc cn cc dn dc V
  have HG := Lib.hid hg
  have HL := Lib.hid hl
  have t0 : (x.k != x.k) = false := by simp
  have t1 : ((dn : Int) != (dn : Int)) = false := by simp
  have t2 : (x.k == 0) = false := by rw [beq_eq_false_iff_ne]; omega
  unfold recV at *
  rw [ea, eb, ec, ed] at K1 K2 ⊢
  clear h h' g g' hi hg hl hr hk hb1 hb2 hq2 ea eb ec ed
  generalize x.k = xk at *
  go_enter Tryd.func12, Tryd.ntmps12
  go_wp2_with fail
  refine (KP _).mono ?_
  rintro e w1 ⟨rfl, hb1⟩
  have HB1 := Lib.hid (HB0.out.trans (hb1.mono HB0.out.size))
  have hx1 := (hb1.block (w.heap.size + 1) (by simp)).trans HQ2.out
  have HX1 := Lib.hid hx1
  have KA := K1.out w1 HB1.out
  clear hb1 hx1 KP K1 HQ2
  go_wp2_with fail
  refine KA.mono ?_
  rintro e w2 ⟨hb2, hcase⟩
  rcases hcase with ⟨hx, _⟩ | ⟨_, hx, _⟩ | ⟨_, _, v2, rfl, ho2⟩
  · rw [HG.out] at hx; cases hx
  · exact absurd hx (by have := HL.out; omega)
  have hx2 := (hb2.block (w.heap.size + 1) (lt_of_heap HX1.out)).trans HX1.out
  obtain ⟨q0, q1, q2, q3, q4, q5, q6, q7, q8⟩ := boxN (n := w.heap.size + 1) hx2
  have HB2 := Lib.hid (HB1.out.trans (hb2.mono HB1.out.size))
  have KB := K2.out w2 HB2.out
  have HO2 : Hid (Holds w2 v2 (u8s (bytR x))) := Lib.hid (Holds.of_row (by rw [u8s_len]; exact ho2))
  clear hb2 ho2 hx2 KA K2
  go_wp2_with fail
  refine KB.mono ?_
  rintro e w3 ⟨hb3, hcase⟩
  rcases hcase with ⟨hx, _⟩ | ⟨_, hx, _⟩ | ⟨_, _, v3, rfl, ho3⟩
  · rw [HG.out] at hx; cases hx
  · exact absurd hx (by have := HL.out; omega)
  have FIN := HB2.out.trans (hb3.mono HB2.out.size)
  have KS := Same_any (HO2.out.below hb3) (Holds.of_row (by rw [u8s_len]; exact ho3) : Holds w3 v3 (u8s (bytR x)))
  rw [decide_eq_true rfl] at KS
  clear hb3 ho3 KB
  go_wp2_with fail
  refine KS.mono ?_
  rintro e w4 ⟨rfl, rfl⟩
  go_wp2_with fail
  go_ret
  exact ⟨rfl, FIN⟩
end Go.Proofs.YtpaigdblijhheaaDoor
/- A record's bytes with more behind them. Conditions: none. -/
set_option maxRecDepth 100000
namespace Go.Proofs.YtpaigdblijhheaaDoor
open Go.RowKit Go.Maps Go.Sort Go.Lib

theorem read_more {x : RV} (h : goodR x = true) (hi : x.inI) (hl : (bytR x).length ≤ 262144) (r0 : List UInt8) : pRead (bytR x ++ r0) = some x := by
  have hb : (bodL x).length ≤ 262144 := by unfold bytR at hl; rw [List.length_append] at hl; omega
  rcases good_shape h with ⟨e, h1, h2⟩ | ⟨e, h1, h2⟩ | ⟨e, h1⟩
  · have hk : x.k = 1 := by rw [e]; rfl
    have e2 : bodL x = tabL x := by unfold bodL; rw [if_pos hk]
    have et : pTab (tabL x ++ r0) = some ((x.tn, x.tc), r0) := by
      rw [e2] at hb
      unfold tabL at hb
      simp only [List.length_append] at hb
      have ht := txL_len x.tn
      unfold pTab tabL
      simp only [List.append_assoc]
      rw [txL_txt (by omega)]
      simp only [Option.bind_some]
      rw [dig_cnt h2 (by omega)]
      simp only [Option.bind_some]
      have := many_ok (p := pCol) (e := colL) x.tc (fun c hc r => col_ok (by
        have := many_len (e := colL) hc
        have := colL_len c
        omega) (hi.tc c hc) r) r0
      rw [this]
      rfl
    unfold bytR pRead
    rw [List.append_assoc, inL_num (by omega) (by omega), hk, e2]
    simp only [Option.bind_some]
    rw [if_pos trivial, et]
    simp only [Option.bind_some]
    rw [← e]
  · have hk : x.k = 2 := by rw [e]; rfl
    have e2 : bodL x = rolL x := by unfold bodL; rw [if_neg (by omega), if_pos hk]
    have et : pRol (rolL x ++ r0) = some ((x.rn, x.rt, x.rd, x.rm), r0) := by
      rw [e2] at hb
      unfold rolL at hb
      simp only [List.length_append] at hb
      have ht := txL_len x.rn
      have ht2 := txL_len x.rt
      unfold pRol rolL
      simp only [List.append_assoc]
      rw [txL_txt (by omega)]
      simp only [Option.bind_some]
      rw [txL_txt (by omega)]
      simp only [Option.bind_some]
      rw [dig_cnt h1 (by omega)]
      simp only [Option.bind_some]
      rw [many_ok (p := pTxt) (e := txL) x.rd (fun c hc r => txL_txt (by
        have := many_len (e := txL) hc
        have := txL_len c
        omega) r)]
      simp only [Option.bind_some]
      rw [dig_cnt h2 (by omega)]
      simp only [Option.bind_some]
      have := many_ok (p := pMea) (e := meaL) x.rm (fun c hc r => mea_ok (by
        have := many_len (e := meaL) hc
        have := meaL_len c
        omega) (hi.rm c hc) r) r0
      rw [this]
      rfl
    unfold bytR pRead
    rw [List.append_assoc, inL_num (by omega) (by omega), hk, e2]
    simp only [Option.bind_some]
    rw [if_neg (by omega), if_pos trivial, et]
    simp only [Option.bind_some]
    rw [← e]
  · have hk : x.k = 3 := by rw [e]; rfl
    have e2 : bodL x = batL x := by unfold bodL; rw [if_neg (by omega), if_neg (by omega)]
    obtain ⟨n, n1, n8, w1, w2, hr⟩ := bat_iff.1 h1
    rw [e2] at hb
    unfold batL at hb
    simp only [List.length_append] at hb
    have ht := txL_len x.nm
    have ew : pRows (dig x.ws.length ++ (manyL rowL x.ws ++ r0)) = some (x.ws, r0) := by
      unfold pRows
      rw [dig_cnt w2 (by omega)]
      simp only [Option.bind_some]
      have := many_ok (p := pRow) (e := rowL) x.ws (fun c hc r => row_ok (by
        have := many_len (e := rowL) hc
        have := rowL_len c
        omega) (by have := (hr c hc).1; omega) (fun v hv => ⟨(hr c hc).2 v hv, hi.ws c hc v hv⟩) r) r0
      exact this
    unfold bytR pRead
    rw [List.append_assoc, inL_num (by omega) (by omega), hk, e2]
    simp only [Option.bind_some]
    rw [if_neg (by omega), if_neg (by omega), if_pos trivial]
    unfold batL
    simp only [List.append_assoc]
    rw [txL_txt (by omega)]
    simp only [Option.bind_some]
    rw [ew]
    simp only [Option.bind_some]
    rw [← e]
theorem load_more {x : RV} (h : goodR x = true) (hi : x.inI) (hl : (bytR x).length ≤ 262144) (c : UInt8) : loadR (bytR x ++ [c]) = none := by
  refine (loadR_none (by rw [List.length_append]; simp; omega)).2 fun y h1 h2 h3 h4 => ?_
  have e1 := read_more h hi hl [c]
  have e2 := read_bytR h1 h2 h3
  rw [h4, e2] at e1
  cases Option.some.inj e1
  have := congrArg List.length h4
  rw [List.length_append] at this
  simp at this
end Go.Proofs.YtpaigdblijhheaaDoor
/- The walk of RecordBack. Conditions: the table of Sum; slices and texts as long as may be. -/
set_option maxRecDepth 100000
namespace Go.Proofs.YtpaigdblijhheaaDoor
open Go.ChangeShapes Go.WideShapes Go.RowKit Go.Maps Go.Sort Go.Lib

set_option maxHeartbeats 12800000 in
theorem back13 {w : World} (hqd : Quads w) {M : Nat} (hM : M ≤ 281474976710656) {x : RV} {a b c d : Value} (hx : RecH w x a b c d ∧ x.inI ∧ Sizes M x) :
    Calls Tryd.prog 4 #[recV x a b c d] w fun e w' => e = .returned (.bool true) ∧ Below w.heap.size w w' := by
  obtain ⟨h, hi, hs⟩ := hx
  have g := h
  obtain ⟨a1, ac, b1, bc, c1, cc, d1, dc, rfl, rfl, rfl, rfl⟩ := g.form
  obtain ⟨an, bn, cn, dn, ea, eb, ec, ed⟩ : ∃ an bn cn dn, x.tc.length = an ∧ x.rd.length = bn ∧ x.rm.length = cn ∧ x.ws.length = dn := ⟨_, _, _, _, rfl, rfl, rfl, rfl⟩
  have hb0 := below_o w (.cells #[.int .i64 x.k, .string x.tn, .slice a1 an ac, .string x.rn, .string x.rt, .slice b1 bn bc, .slice c1 cn cc, .string x.nm, .slice d1 dn dc] 36)
  have HH0 := Lib.hid (heap_alloc_new w (.cells #[.int .i64 x.k, .string x.tn, .slice a1 an ac, .string x.rn, .string x.rt, .slice b1 bn bc, .slice c1 cn cc, .string x.nm, .slice d1 dn dc] 36))
  have HQ := Lib.hid (fun (V : World) (hb : Below w.heap.size w V) => hqd.below hb hqd.1)
  have KL := Lib.hid (fun (V : World) (hb : Below w.heap.size w V) => rlives_any (hqd.below hb hqd.1))
  have KG := great_any (h.below hb0) (hs.len hM)
  have HSM := Lib.hid (fun (ht : Fits x → tot4 x ≤ 100000) (hg : goodR x = true) => small_bytes hg hi (hs.fits hM hg) (ht (hs.fits hM hg)))
  have KY := Lib.hid (fun (V : World) (hb : Below w.heap.size w V) (ht : goodR x = true → (bytR x).length ≤ 262144) => rbytes_all (h.below hb) hi (hs.fit hM) (fun hg => Nat.le_trans (ht hg) (by decide)))
  have KD := Lib.hid (fun (V : World) (hb : Below w.heap.size w V) => rgood_all (h.below hb) hi (hs.fit hM))
  have KP := Lib.hid (fun (V : World) => plain_any x.k x.tn x.rn x.rt x.nm a1 b1 c1 d1 an ac bn bc cn cc dn dc V)
  have HRec := Lib.hid (fun (V : World) (hb : Below w.heap.size w V) => h.below hb)
  have HI := Lib.hid hi
  have HRL := Lib.hid (hs.len hM).2.2.2.2
  have HB0 := Lib.hid hb0
  unfold recV at *
  rw [ea, eb, ec, ed] at KG KY KD ⊢
  clear hqd h g hi hs hb0
  go_enter Tryd.func4, Tryd.ntmps4
  go_wp2_with fail
  refine KG.mono ?_
  rintro e w1 ⟨bq, rfl, hbq, hb1⟩
  have HB1 := Lib.hid (HB0.out.trans (hb1.mono HB0.out.size))
  have hx1 := (hb1.block w.heap.size (by simp)).trans HH0.out
  have HX1 := Lib.hid hx1
  cases bq
  rotate_left
  · have KL1 := KL.out w1 HB1.out
    clear hb1 hx1 KG KL
    go_wp2_with fail
    refine KL1.mono ?_
    rintro e w2 ⟨rfl, hb2⟩
    have FIN := HB1.out.trans (hb2.mono HB1.out.size)
    clear hb2
    go_wp2_with fail
    go_ret
    exact ⟨rfl, FIN⟩
  obtain ⟨q0, q1, q2, q3, q4, q5, q6, q7, q8⟩ := boxN (n := w.heap.size) hx1
  have HSB := Lib.hid (HSM.out (hbq rfl))
  have KY1 := KY.out w1 HB1.out HSB.out
  clear hb1 hx1 hbq KG KY HSM HH0
  go_wp2_with fail
  refine KY1.mono ?_
  rintro e w2 ⟨hb2, hcase⟩
  have HB2 := Lib.hid (HB1.out.trans (hb2.mono HB1.out.size))
  have hx2 := (hb2.block w.heap.size (lt_of_heap HX1.out)).trans HX1.out
  have HX2 := Lib.hid hx2
  clear q0 q1 q2 q3 q4 q5 q6 q7 q8
  obtain ⟨q0, q1, q2, q3, q4, q5, q6, q7, q8⟩ := boxN (n := w.heap.size) hx2
  have KD2 := KD.out w2 HB2.out
  clear hx2 KY1 KD
  rcases hcase with ⟨hg, rfl⟩ | ⟨hg, hlong, _⟩ | ⟨hg, hlen, v2, rfl, ho2⟩
  · rw [hg] at KD2
    clear hg hb2
    go_wp2_with fail
    refine KD2.mono ?_
    rintro e w3 ⟨rfl, hb3⟩
    have HB3 := Lib.hid (HB2.out.trans (hb3.mono HB2.out.size))
    have KL3 := KL.out w3 HB3.out
    clear hb3 KD2 KL
    go_wp2_with fail
    refine KL3.mono ?_
    rintro e w4 ⟨rfl, hb4⟩
    have FIN := HB3.out.trans (hb4.mono HB3.out.size)
    clear hb4
    go_wp2_with fail
    go_ret
    exact ⟨rfl, FIN⟩
  · exact absurd (HSB.out hg) (by omega)
  rw [hg] at KD2
  have HG := Lib.hid hg
  have HLE := Lib.hid hlen
  have HO2 := Lib.hid (show Holds w2 v2 (u8s (bytR x)) from Holds.of_row (by rw [u8s_len]; exact ho2))
  obtain ⟨v2a, v2c, hv2, _⟩ := ownsRow_form ho2
  obtain ⟨L, hL⟩ : ∃ L, (bytR x).length = L := ⟨_, rfl⟩
  have HLL := Lib.hid hL
  rw [hL] at hv2
  subst hv2
  clear hg hlen ho2 hb2 hL
  go_wp2_with fail
  refine KD2.mono ?_
  rintro e w3 ⟨rfl, hb3⟩
  have HB3 := Lib.hid (HB2.out.trans (hb3.mono HB2.out.size))
  have hx3 := (hb3.block w.heap.size (lt_of_heap HX2.out)).trans HX2.out
  have HX3 := Lib.hid hx3
  have HO3 := Lib.hid (HO2.out.below hb3)
  have KLd := rload_any HO3.out (by have := HLE.out; omega)
  clear q0 q1 q2 q3 q4 q5 q6 q7 q8 hx3 hb3 KD2
  go_wp2_with fail
  refine KLd.mono ?_
  rintro e w4 ⟨hb4, hcase⟩
  have hself := (loadR_iff (by have := HLE.out; omega)).2 ⟨HG.out, HI.out, HLE.out, rfl⟩
  rcases hcase with ⟨y, ya, yb, yc, yd, hld, rfl, hro⟩ | ⟨hld, _⟩
  rotate_left
  · rw [hself] at hld; cases hld
  rw [hself] at hld
  cases Option.some.inj hld
  have hR4 := hro.holds
  obtain ⟨a5, ac5, b5, bc5, c5, cc5, d5, dc5, rfl, rfl, rfl, rfl⟩ := hR4.form
  have HR4 := Lib.hid hR4
  have HB4 := Lib.hid (HB3.out.trans (hb4.mono HB3.out.size))
  have hx4 := (hb4.block w.heap.size (lt_of_heap HX3.out)).trans HX3.out
  have hb5 := below_o w4 (.cells #[.int .i64 x.k, .string x.tn, .slice a5 an ac5, .string x.rn, .string x.rt, .slice b5 bn bc5, .slice c5 cn cc5, .string x.nm, .slice d5 dn dc5] 36)
  have hh5 := heap_alloc_new w4 (.cells #[.int .i64 x.k, .string x.tn, .slice a5 an ac5, .string x.rn, .string x.rt, .slice b5 bn bc5, .slice c5 cn cc5, .string x.nm, .slice d5 dn dc5] 36)
  obtain ⟨V, hV⟩ : ∃ V, w4.alloc (.cells #[.int .i64 x.k, .string x.tn, .slice a5 an ac5, .string x.rn, .string x.rt, .slice b5 bn bc5, .slice c5 cn cc5, .string x.nm, .slice d5 dn dc5] 36) = V := ⟨_, rfl⟩
  have HO4 := HO3.out.below hb4
  have HOV := HO4.below hb5
  rw [hV] at hb5 hh5 HOV
  have HX4 := Lib.hid (lt_of_heap hx4)
  have HXV := Lib.hid ((hb5.block w.heap.size (lt_of_heap hx4)).trans hx4)
  have HXV5 := Lib.hid hh5
  have HBV := Lib.hid hb5
  have HBwV := Lib.hid (HB4.out.trans (hb5.mono HB4.out.size))
  obtain ⟨v6, w6, r6, o6, hb6⟩ := copy_more HOV (by have := HLE.out; omega)
  have hb6' : Below V.heap.size V (w6.alloc (.cells #[.int .u8 0] 5)) := hb6.alloc hb6.size _
  obtain ⟨v7, w7, r7, o7, hb7⟩ := more_at (o6.alloc (.cells #[.int .u8 0] 5)) hb6' (holds_one8 w6 0 0 rfl) (by have := HLE.out; omega) (by simp)
  have R6 := r6
  have R7 := r7
  obtain ⟨v7a, v7c, hv7, _⟩ := ownsRow_form o7
  have hO7 : Holds w7 v7 (u8s (bytR x ++ [0])) := Holds.of_row (by rw [u8s_len]; exact o7)
  obtain ⟨L7, hL7⟩ : ∃ n, (bytR x ++ [0]).length = n := ⟨_, rfl⟩
  have HL7 := Lib.hid hL7
  rw [hL7] at hv7
  subst hv7
  have KLz := rload_any hO7 (by rw [List.length_append]; simp; have := HLE.out; omega)
  have HB7 := Lib.hid hb7
  have hload0 := load_more HG.out HI.out HLE.out 0
  have HL0 := Lib.hid hload0
  unfold recV
  rw [ea, eb, ec, ed]
  have KSm := Lib.hid (fun (W : World) (hb : Below V.heap.size V W) => same_good (HR4.out.below (HBV.out.trans (hb.mono HBV.out.size))) (HRec.out W (HBwV.out.trans (hb.mono HBwV.out.size))) HI.out HG.out HLE.out HRL.out)
  unfold recV at KSm
  rw [ea, eb, ec, ed] at KSm
  have SC := Lib.hid (fun (W : World) (hb : Below V.heap.size V W) => (show W.cell? ⟨w4.heap.size, 0, none⟩ = some (.int .i64 x.k) ∧ W.cell? ⟨w4.heap.size, 1, none⟩ = some (.string x.tn) ∧ W.cell? ⟨w4.heap.size, 2, none⟩ = some (.slice a5 an ac5) ∧ W.cell? ⟨w4.heap.size, 3, none⟩ = some (.string x.rn) ∧ W.cell? ⟨w4.heap.size, 4, none⟩ = some (.string x.rt) ∧ W.cell? ⟨w4.heap.size, 5, none⟩ = some (.slice b5 bn bc5) ∧ W.cell? ⟨w4.heap.size, 6, none⟩ = some (.slice c5 cn cc5) ∧ W.cell? ⟨w4.heap.size, 7, none⟩ = some (.string x.nm) ∧ W.cell? ⟨w4.heap.size, 8, none⟩ = some (.slice d5 dn dc5) ∧ W.cell? ⟨w.heap.size, 0, none⟩ = some (.int .i64 x.k) ∧ W.cell? ⟨w.heap.size, 1, none⟩ = some (.string x.tn) ∧ W.cell? ⟨w.heap.size, 2, none⟩ = some (.slice a1 an ac) ∧ W.cell? ⟨w.heap.size, 3, none⟩ = some (.string x.rn) ∧ W.cell? ⟨w.heap.size, 4, none⟩ = some (.string x.rt) ∧ W.cell? ⟨w.heap.size, 5, none⟩ = some (.slice b1 bn bc) ∧ W.cell? ⟨w.heap.size, 6, none⟩ = some (.slice c1 cn cc) ∧ W.cell? ⟨w.heap.size, 7, none⟩ = some (.string x.nm) ∧ W.cell? ⟨w.heap.size, 8, none⟩ = some (.slice d1 dn dc) from by
    obtain ⟨p0, p1, p2, p3, p4, p5, p6, p7, p8⟩ := boxN (n := w4.heap.size) ((hb.block _ (lt_of_heap HXV5.out)).trans HXV5.out)
    obtain ⟨q0, q1, q2, q3, q4, q5, q6, q7, q8⟩ := boxN (n := w.heap.size) ((hb.block _ (lt_of_heap HXV.out)).trans HXV.out)
    exact ⟨p0, p1, p2, p3, p4, p5, p6, p7, p8, q0, q1, q2, q3, q4, q5, q6, q7, q8⟩))
  obtain ⟨l7, hl7⟩ : ∃ l, l = bytR x ++ [0] := ⟨_, rfl⟩
  rw [← hl7] at KLz HL0
  clear hl7 hL7 hself hld hro hR4 hx4 hb4 hb5 hh5 HO4 HOV o6 hb6 hb6' o7 hb7 hO7 hload0 r6 r7 KLd HO3 HX3 HX2 HX1 HXV HXV5 HRec HR4
  go_wp2_with (at_builtin; first | refine wpList_append_run rfl (.tmp 36) (.tmp 37) 25 rfl rfl rfl (R6.out _) ?_ | refine wpList_append_run rfl (.tmp 38) (.tmp 39) 25 rfl rfl rfl (R7.out _) ?_)
  refine KLz.mono ?_
  rintro e w8 ⟨hb8, ⟨y, _, _, _, _, hld, _⟩ | ⟨_, rfl⟩⟩
  · rw [HL0.out] at hld; cases hld
  have hb8' : Below V.heap.size V w8 := HB7.out.trans (hb8.mono HB7.out.size)
  have hb9 : Below V.heap.size V (w8.alloc (.cells #[.int .i64 0, .string ⟨#[]⟩, .slice none 0 0, .string ⟨#[]⟩, .string ⟨#[]⟩, .slice none 0 0, .slice none 0 0, .string ⟨#[]⟩, .slice none 0 0] 36)) := hb8'.alloc hb8'.size _
  have hb9d := below_drewR hb9
  clear hb8 hb8' hb9 KLz HB7 HL0 R6 R7
  unfold recV zeroR nilV nilS
  go_wp2_with fail
  clear hV
  refine wp_region_mix (fun W => W.cell? ⟨w4.heap.size, 0, none⟩ = some (.int .i64 x.k) ∧ W.cell? ⟨w4.heap.size, 1, none⟩ = some (.string x.tn) ∧ W.cell? ⟨w4.heap.size, 2, none⟩ = some (.slice a5 an ac5) ∧ W.cell? ⟨w4.heap.size, 3, none⟩ = some (.string x.rn) ∧ W.cell? ⟨w4.heap.size, 4, none⟩ = some (.string x.rt) ∧ W.cell? ⟨w4.heap.size, 5, none⟩ = some (.slice b5 bn bc5) ∧ W.cell? ⟨w4.heap.size, 6, none⟩ = some (.slice c5 cn cc5) ∧ W.cell? ⟨w4.heap.size, 7, none⟩ = some (.string x.nm) ∧ W.cell? ⟨w4.heap.size, 8, none⟩ = some (.slice d5 dn dc5) ∧ W.cell? ⟨w.heap.size, 0, none⟩ = some (.int .i64 x.k) ∧ W.cell? ⟨w.heap.size, 1, none⟩ = some (.string x.tn) ∧ W.cell? ⟨w.heap.size, 2, none⟩ = some (.slice a1 an ac) ∧ W.cell? ⟨w.heap.size, 3, none⟩ = some (.string x.rn) ∧ W.cell? ⟨w.heap.size, 4, none⟩ = some (.string x.rt) ∧ W.cell? ⟨w.heap.size, 5, none⟩ = some (.slice b1 bn bc) ∧ W.cell? ⟨w.heap.size, 6, none⟩ = some (.slice c1 cn cc) ∧ W.cell? ⟨w.heap.size, 7, none⟩ = some (.string x.nm) ∧ W.cell? ⟨w.heap.size, 8, none⟩ = some (.slice d1 dn dc)) 19 [(true, 0), (true, 1), (true, 2), (true, 3), (true, 4), (true, 5), (true, 6), (true, 7), (true, 8), (false, 9), (false, 10), (true, 11), (true, 12), (true, 13), (true, 14), (true, 15), (true, 16), (false, 17), (true, 18), (false, 19)] (by kernel_rfl) (by decide +kernel) rfl (by decide +kernel) (SC.out _ hb9d) ?_
  iterate 9
    refine wpMix_take (v := ?_) rfl rfl ?_ ?_
    rotate_left
    · (intro W hW; (try dsimp only at hW); go_simp) <;> with_reducible rfl
    simp only [Act.put, List.setIfInBounds_toArray, List.set_cons_zero, List.set_cons_succ]
  refine wpMix_run rfl ?_
  intro K hK
  go_wp2_with fail
  refine (KP.out _).mono ?_
  rintro e w10 ⟨rfl, hb10⟩
  have hb10 := hb9d.trans (hb10.mono hb9d.size)
  go_wp2_with fail
  refine hK.out _ _ (fun _ => SC.out _ hb10) ?_
  clear hK K
  refine wpMix_run rfl ?_
  intro K hK
  go_wp2_with fail
  refine (KSm.out _ hb10).mono ?_
  rintro e w11 ⟨rfl, hb11⟩
  have hb11 := hb10.trans (hb11.mono hb10.size)
  go_wp2_with fail
  refine hK.out _ _ (fun _ => SC.out _ hb11) ?_
  clear hK K
  iterate 6
    refine wpMix_take (v := ?_) rfl rfl ?_ ?_
    rotate_left
    · (intro W hW; (try dsimp only at hW); go_simp) <;> with_reducible rfl
    simp only [Act.put, List.setIfInBounds_toArray, List.set_cons_zero, List.set_cons_succ]
  refine wpMix_run rfl ?_
  intro K hK
  go_wp2_with fail
  refine (KL.out _ (HBwV.out.trans (hb11.mono HBwV.out.size))).mono ?_
  rintro e w12 ⟨rfl, hb12⟩
  have hb12 := hb11.trans (hb12.mono hb11.size)
  go_wp2_with fail
  refine hK.out _ _ (fun _ => SC.out _ hb12) ?_
  clear hK K
  iterate 1
    refine wpMix_take (v := ?_) rfl rfl ?_ ?_
    rotate_left
    · (intro W hW; (try dsimp only at hW); go_simp) <;> with_reducible rfl
    simp only [Act.put, List.setIfInBounds_toArray, List.set_cons_zero, List.set_cons_succ]
  refine wpMix_run rfl ?_
  intro K hK
  go_wp2_with fail
  refine hK.out _ _ (fun _ => SC.out _ hb12) ?_
  clear hK K
  refine wpMix_nil ?_
  have FIN := HBwV.out.trans (hb12.mono HBwV.out.size)
  clear hb9d hb10 hb11 hb12 SC KSm KL KP
  go_wp2_with fail
  go_ret
  exact ⟨rfl, FIN⟩
end Go.Proofs.YtpaigdblijhheaaDoor
