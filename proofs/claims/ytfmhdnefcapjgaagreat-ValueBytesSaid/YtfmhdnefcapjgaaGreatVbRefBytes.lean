/- Contract of the document's own Bytes of values. Conditions: at most 10^9 values. -/
import Derived.Test.YtfmhdnefcapjgaaGreatVbRefGood
set_option maxRecDepth 100000
namespace Go.Proofs.YtfmhdnefcapjgaaGreat
open Go.RowKit Go.Maps Go.Sort Go.Lib

/-- a number's digits behind -/
theorem Out.rput {w wr : World} {v : Value} {acc : List UInt8} (h : Out w wr v acc) (d : Nat) (hd : d < 18446744073709551616) (hx : acc.length ≤ 17592186044000) :
    Calls Tryz.prog 32 #[v, .int .u64 (d : Int)] wr fun e w' => ∃ v', e = .returned v' ∧ Hid (Out w w' v' (acc ++ dig d)) ∧ Below wr.heap.size wr w' := by
  refine (refPut_any (Holds.of_row (by rw [u8s_len]; exact h.1)) d hd hx).mono ?_
  rintro e w' ⟨v', rfl, ho, hb⟩
  exact ⟨v', rfl, ⟨ownsRow_rebase ho (fun g hg => Nat.le_trans h.2.size (ho.lt g hg).1), h.2.trans (hb.mono h.2.size)⟩, hb⟩
theorem Out.rput2 {w wr : World} {v : Value} {acc : List UInt8} (h : Out w wr v acc) (d : Nat) (hd : d < 18446744073709551616) (hx : acc.length ≤ 17592186044000) :
    Calls Tryz.prog 32 #[v, .int .u64 (d : Int)] wr fun e w' => ∃ v', e = .returned v' ∧ Hid (Out w w' v' (acc ++ dig d)) ∧ Below wr.heap.size wr w' ∧ (∀ g, v'.ownBlock = some g → wr.heap.size ≤ g) := by
  refine (refPut_any (Holds.of_row (by rw [u8s_len]; exact h.1)) d hd hx).mono ?_
  rintro e w' ⟨v', rfl, ho, hb⟩
  exact ⟨v', rfl, ⟨ownsRow_rebase ho (fun g hg => Nat.le_trans h.2.size (ho.lt g hg).1), h.2.trans (hb.mono h.2.size)⟩, hb, fun g hg => (ho.lt g hg).1⟩
theorem below_drew_v (w : World) : Below w.heap.size w w.drew := ⟨rfl, rfl, rfl, Nat.le_refl _, fun _ _ => rfl⟩
theorem Out.rput_nil (w : World) (d : Nat) (hd : d < 18446744073709551616) : Calls Tryz.prog 32 #[.slice none 0 0, .int .u64 (d : Int)] w fun e w' => ∃ v', e = .returned v' ∧ Hid (Out w w' v' (dig d)) := by
  refine (refPut_any (Holds.nil w) (xs := []) d hd (by simp)).mono ?_
  rintro e w' ⟨v', rfl, ho, hb⟩
  exact ⟨v', rfl, by simpa using ho, hb⟩
theorem Out.str {w wr : World} {v : Value} {acc : List UInt8} (h : Out w wr v acc) (s : ByteArray) (hl : acc.length + s.size ≤ 17592186044416) :
    ∃ v' w2, (∀ ty, (Builtin.append_ #[23, 9] ty #[v, .string s]).run Tryz.prog wr = .ok v' w2) ∧ Out w w2 v' (acc ++ s.data.toList) ∧ (∀ k, k < wr.heap.size → (∀ g, v.ownBlock = some g → g ≠ k) → w2.heap[k]? = wr.heap[k]?) := by
  obtain ⟨v', w2, r, o, g⟩ := app_str (u := 9) Tryz.underlying9 h.1 h.2.size s hl
  exact ⟨v', w2, r, ⟨o, h.2.trans (below_grown g h.2.size (ownsRow_ge h.1))⟩, fun k hk hne => g.block k hk (fun e => hne k e.symm rfl)⟩
theorem room4 {a b : Nat} (h : a ≤ 200000000000) (h2 : b ≤ 10) : a + b ≤ 17592186044000 := by omega
theorem room5 {a : List UInt8} {b : List UInt8} (h : a.length ≤ 200000000000) (h2 : b.length ≤ 10) : (a ++ b).length ≤ 17592186044000 := by rw [List.length_append]; omega
theorem room0 {a : Nat} (h : a ≤ 200000000000) : a ≤ 17592186044000 := by omega
theorem room6 {a b c : List UInt8} {s : Nat} (h : a.length ≤ 200000000000) (h2 : b.length ≤ 10) (h3 : c.length ≤ 10) (h4 : s ≤ 64) : (a ++ b ++ c).length + s ≤ 17592186044416 := by rw [List.length_append, List.length_append]; omega
set_option maxHeartbeats 6400000 in
theorem refvbytes_any {w : World} {v : Value} {l : List VV} (h : HoldsV w v l) (hl : l.length ≤ 1000000000) (hi : ∀ x ∈ l, x.inI) : Calls Tryz.prog 11 #[v] w (OwnP w (bytesV l)) := by
  obtain ⟨a, c, rfl, hc⟩ := h.form
  have H := Lib.hid h
  have HI := Lib.hid hi
  have HFL := Lib.hid (flatV_len)
  have wl : IntKind.u64.wrap (l.length : Int) = (l.length : Int) := by rw [IntKind.wrap_u64]; omega
  have KP := fun w => Out.rput_nil w l.length (by omega)
  have HDL := Lib.hid (dig_len10 (u := l.length) (by omega))
  obtain ⟨n, hn⟩ : ∃ n, n = l.length := ⟨_, rfl⟩
  rw [← hn] at wl KP hc hl HDL ⊢
  have HNL := Lib.hid hn
  have HL := Lib.hid hl
  clear h hi hn hl
  go_enter Tryz.func11, Tryz.ntmps11
  go_wp2_with fail
  refine (KP _).mono ?_
  rintro e w1 ⟨v1, rfl, H1⟩
  clear KP
  go_wp2_with fail
  go_loopw [3, 5, 12] (fun s3 _ s12 wr => ∃ (i : Nat) (v : Value) (acc : List UInt8), s12 = .int .i64 i ∧ i ≤ n ∧ v = s3 ∧ Hid (Out w wr v acc) ∧ Hid (acc = dig n ++ flatV (l.take i))) (fun _ _ k _ => n - (RowKit.intOf k).toNat)
  case atStart => exact ⟨0, v1, _, rfl, Nat.zero_le _, rfl, H1, Lib.hid (by simp [flatV])⟩
  case round =>
    clear H1
    obtain ⟨i, v, acc, rfl, hin, rfl, HO, HA⟩ := hrel
    by_cases hlt : i < n
    · obtain ⟨x, hx⟩ : ∃ x, l[i]? = some x := ⟨l[i]'(HNL.out ▸ hlt), List.getElem?_eq_getElem _⟩
      obtain ⟨ad, rfl, hc0⟩ := H.out.at_ hx
      have hxi : x.inI := HI.out x (List.mem_of_getElem? hx)
      have HCW : ∀ w', Below w.heap.size w w' → w'.cell? (ad.add (i * 3)) = some (.int .i64 x.k) ∧ w'.cell? ⟨(ad.add (i * 3)).block, (ad.add (i * 3)).off + 1, none⟩ = some (.int .i64 x.n) ∧ w'.cell? ⟨(ad.add (i * 3)).block, (ad.add (i * 3)).off + 2, none⟩ = some (.string x.s) := fun w' hb =>
        ⟨by rw [hb.cell (World.block_lt_of_cell? _ _ hc0.1)]; exact hc0.1, by rw [hb.cell (World.block_lt_of_cell? _ _ hc0.2.1)]; exact hc0.2.1, by rw [hb.cell (World.block_lt_of_cell? _ _ hc0.2.2)]; exact hc0.2.2⟩
      obtain ⟨d0, d1, d2⟩ := HCW wr HO.out.2
      have b0 : (0 : Int) ≤ (i : Int) := Int.natCast_nonneg i
      have b1 : (i : Int) < (n : Int) := Int.ofNat_lt.2 hlt
      have hw64 := wi_next hlt HL.out
      have KG := refvgood_any x.k x.n x.s hxi.1 hxi.2
      have hacc : acc.length ≤ 200000000000 := by
        have h1 := HFL.out (l.take i) (fun y hy => HI.out y (List.mem_of_mem_take hy))
        rw [List.length_take, ← HNL.out] at h1
        rw [HA.out]
        exact room3 HDL.out h1 HL.out
      have HA2 : dig n ++ flatV (l.take (i + 1)) = acc ++ x.norm.bytes := by rw [take_snoc hx, flatV_snoc, HA.out, List.append_assoc]
      replace HA := Lib.hid HA2
      clear HA2 HCW
      obtain ⟨xk, xn, xs⟩ := x
      simp only at d0 d1 d2 KG
      cases hgx : goodV xk xn xs
      · have hny : VV.norm ⟨xk, xn, xs⟩ = VV.none_ := by unfold VV.norm VV.good; rw [hgx]; rfl
        rw [hny] at HA
        rw [hgx] at KG
        have eb : VV.none_.bytes = dig 0 ++ [] := (bytes_null 0 ⟨#[]⟩).1
        have HK := Lib.hid (fun (wx : World) (vx : Value) (ho : Out w wx vx acc) => ho.rput 0 (by decide) (room0 hacc))
        rw [eb, List.append_nil] at HA
        clear hc0 hxi hx hacc hny hgx eb
        go_wp2_with fail
        refine (KG _).mono ?_
        rintro e w3 ⟨rfl, hb3⟩
        have hbx := hb3.mono (show wr.heap.size ≤ _ by simp)
        have hbz : Below wr.heap.size wr w3 := ((Below.refl _ _).alloc (Nat.le_refl _) _).trans hbx
        have hCx := (C3.new wr (.int .i64 xk) (.int .i64 xn) (.string xs) 37).keep hb3 (by simp)
        obtain ⟨z1, z2, z3⟩ := frz3 hb3 (by simp)
        have k1 := hCx.1
        have k2 := hCx.2.1
        have k3 := hCx.2.2
        have S3 := below_set3 hbz (Nat.le_refl _) (.int .i64 0) (.int .i64 0) (.string ⟨#[]⟩)
        have HC := Lib.hid (hCx.set3 (.int .i64 0) (.int .i64 0) (.string ⟨#[]⟩))
        have HZ : Hid (wr.heap.size < (((w3.setCell ⟨wr.heap.size, 0, none⟩ (.int .i64 0)).setCell ⟨wr.heap.size, 1, none⟩ (.int .i64 0)).setCell ⟨wr.heap.size, 2, none⟩ (.string ⟨#[]⟩)).heap.size) := Lib.hid (World.block_lt_of_cell? _ _ HC.out.1)
        have KQ : Calls Tryz.prog 32 #[v, .int .u64 0] _ _ := HK.out _ v (HO.out.next S3)
        clear hb3 hbx hbz KG d0 d1 d2 S3 hCx HK HO
        go_wp2_with fail
        clear z1 z2 z3 k1 k2 k3
        refine KQ.mono ?_
        rintro e w4 ⟨v4, rfl, HO4, hb4⟩
        obtain ⟨k1, k2, k3⟩ := HC.out.keep hb4 HZ.out
        clear KQ HC HZ hb4
        go_wp2_with fail
        go_roundw
        case rel => exact ⟨i + 1, _, _, by go_num, hlt, rfl, HO4, Lib.hid HA.out.symm⟩
        case measure => simp [RowKit.intOf]; omega
      · have hgd : VV.good ⟨xk, xn, xs⟩ = true := hgx
        rw [hgx] at KG
        rw [norm_of hgd] at HA
        clear hc0 hx
        rcases good_cases hgd with e | ⟨e1, e2⟩ | ⟨e1, e2⟩ | ⟨e1, e2, e3⟩ | ⟨e1, e2⟩
        · cases e
          have eb := (bytes_null 0 ⟨#[]⟩).1
          have HK := Lib.hid (fun (wx : World) (vx : Value) (ho : Out w wx vx acc) => ho.rput 0 (by decide) (room0 hacc))
          rw [eb, List.append_nil] at HA
          clear hxi hacc hgx eb hgd
          go_wp2_with fail
          refine (KG _).mono ?_
          rintro e w3 ⟨rfl, hb3⟩
          have hbx := hb3.mono (show wr.heap.size ≤ _ by simp)
          have hbz : Below wr.heap.size wr w3 := ((Below.refl _ _).alloc (Nat.le_refl _) _).trans hbx
          have HC := Lib.hid ((C3.new wr (.int .i64 0) (.int .i64 0) (.string ⟨#[]⟩) 37).keep hb3 (by simp))
          have HZ : Hid (wr.heap.size < w3.heap.size) := Lib.hid (World.block_lt_of_cell? _ _ HC.out.1)
          have KQ : Calls Tryz.prog 32 #[v, .int .u64 0] _ _ := HK.out _ v (HO.out.next hbz)
          obtain ⟨k1, k2, k3⟩ := HC.out
          clear hb3 hbx hbz KG d0 d1 d2 HK HO
          go_wp2_with fail
          clear k1 k2 k3
          refine KQ.mono ?_
          rintro e w4 ⟨v4, rfl, HO5, hb4⟩
          have HC4 := Lib.hid (HC.out.keep hb4 HZ.out)
          obtain ⟨k1, k2, k3⟩ := HC4.out
          clear KQ HC HZ hb4
          go_wp2_with fail
          go_roundw
          case rel => exact ⟨i + 1, _, _, by go_num, hlt, rfl, HO5, Lib.hid HA.out.symm⟩
          case measure => simp [RowKit.intOf]; omega
        · simp only at e1 e2; subst e1 e2
          have eb := (bytes_int xn ⟨#[]⟩).1
          have HK := Lib.hid (fun (wx : World) (vx : Value) (ho : Out w wx vx acc) => ho.rput 1 (by decide) (room0 hacc))
          rw [eb] at HA
          have hz := zig_zag xn hxi.1 hxi.2
          have KZ := fun w => refZig_any xn w hxi.1 (Int.le_of_lt_add_one hxi.2)
          have HK2 := Lib.hid (fun (wx : World) (vx : Value) (ho : Out w wx vx (acc ++ dig 1)) => ho.rput (zgN xn) hz.2 (room5 hacc (dig_len10 (u := 1) (by decide))))
          have hzc := zg_cast xn
          rw [hzc] at HK2
          rw [← List.append_assoc] at HA
          clear hz hzc
          generalize dig (zgN xn) = DZ at *
          generalize zigN xn = ZN at *
          clear hxi hacc hgx eb hgd
          go_wp2_with fail
          refine (KG _).mono ?_
          rintro e w3 ⟨rfl, hb3⟩
          have hbx := hb3.mono (show wr.heap.size ≤ _ by simp)
          have hbz : Below wr.heap.size wr w3 := ((Below.refl _ _).alloc (Nat.le_refl _) _).trans hbx
          have HC := Lib.hid ((C3.new wr (.int .i64 1) (.int .i64 xn) (.string ⟨#[]⟩) 37).keep hb3 (by simp))
          have HZ : Hid (wr.heap.size < w3.heap.size) := Lib.hid (World.block_lt_of_cell? _ _ HC.out.1)
          have KQ : Calls Tryz.prog 32 #[v, .int .u64 1] _ _ := HK.out _ v (HO.out.next hbz)
          obtain ⟨k1, k2, k3⟩ := HC.out
          clear hb3 hbx hbz KG d0 d1 d2 HK HO
          go_wp2_with fail
          clear k1 k2 k3
          refine KQ.mono ?_
          rintro e w4 ⟨v4, rfl, HO5, hb4⟩
          have HC4 := Lib.hid (HC.out.keep hb4 HZ.out)
          obtain ⟨k1, k2, k3⟩ := HC4.out
          clear KQ HC HZ hb4
          have KQ2 := HK2.out _ _ HO5.out
          clear HK2 HO5
          go_wp2_with fail
          refine (KZ _).mono ?_
          rintro e w5 ⟨rfl, rfl⟩
          go_wp2_with fail
          refine KQ2.mono ?_
          rintro e w6 ⟨v6, rfl, HO5, hb6⟩
          clear KQ2 hb6 KZ k1 k2 k3
          go_wp2_with fail
          go_roundw
          case rel => exact ⟨i + 1, _, _, by go_num, hlt, rfl, HO5, Lib.hid HA.out.symm⟩
          case measure => simp [RowKit.intOf]; omega
        · simp only at e1 e2; subst e1 e2
          have eb := (bytes_float xn ⟨#[]⟩).1
          have HK := Lib.hid (fun (wx : World) (vx : Value) (ho : Out w wx vx acc) => ho.rput 2 (by decide) (room0 hacc))
          rw [eb] at HA
          have hz := zig_zag xn hxi.1 hxi.2
          have KZ := fun w => refZig_any xn w hxi.1 (Int.le_of_lt_add_one hxi.2)
          have HK2 := Lib.hid (fun (wx : World) (vx : Value) (ho : Out w wx vx (acc ++ dig 2)) => ho.rput (zgN xn) hz.2 (room5 hacc (dig_len10 (u := 2) (by decide))))
          have hzc := zg_cast xn
          rw [hzc] at HK2
          rw [← List.append_assoc] at HA
          clear hz hzc
          generalize dig (zgN xn) = DZ at *
          generalize zigN xn = ZN at *
          clear hxi hacc hgx eb hgd
          go_wp2_with fail
          refine (KG _).mono ?_
          rintro e w3 ⟨rfl, hb3⟩
          have hbx := hb3.mono (show wr.heap.size ≤ _ by simp)
          have hbz : Below wr.heap.size wr w3 := ((Below.refl _ _).alloc (Nat.le_refl _) _).trans hbx
          have HC := Lib.hid ((C3.new wr (.int .i64 2) (.int .i64 xn) (.string ⟨#[]⟩) 37).keep hb3 (by simp))
          have HZ : Hid (wr.heap.size < w3.heap.size) := Lib.hid (World.block_lt_of_cell? _ _ HC.out.1)
          have KQ : Calls Tryz.prog 32 #[v, .int .u64 2] _ _ := HK.out _ v (HO.out.next hbz)
          obtain ⟨k1, k2, k3⟩ := HC.out
          clear hb3 hbx hbz KG d0 d1 d2 HK HO
          go_wp2_with fail
          clear k1 k2 k3
          refine KQ.mono ?_
          rintro e w4 ⟨v4, rfl, HO5, hb4⟩
          have HC4 := Lib.hid (HC.out.keep hb4 HZ.out)
          obtain ⟨k1, k2, k3⟩ := HC4.out
          clear KQ HC HZ hb4
          have KQ2 := HK2.out _ _ HO5.out
          clear HK2 HO5
          go_wp2_with fail
          refine (KZ _).mono ?_
          rintro e w5 ⟨rfl, rfl⟩
          go_wp2_with fail
          refine KQ2.mono ?_
          rintro e w6 ⟨v6, rfl, HO5, hb6⟩
          clear KQ2 hb6 KZ k1 k2 k3
          go_wp2_with fail
          go_roundw
          case rel => exact ⟨i + 1, _, _, by go_num, hlt, rfl, HO5, Lib.hid HA.out.symm⟩
          case measure => simp [RowKit.intOf]; omega
        · simp only at e1 e2 e3; subst e1 e2
          have eb := (bytes_str 0 xs).1
          have HK := Lib.hid (fun (wx : World) (vx : Value) (ho : Out w wx vx acc) => ho.rput 3 (by decide) (room0 hacc))
          rw [eb] at HA
          have hd3 := dig_len10 (u := 3) (by decide)
          have hsz : xs.size < 18446744073709551616 := Nat.lt_of_le_of_lt e3 (by decide)
          have hdz := dig_len10 hsz
          have HK2 := Lib.hid (fun (wx : World) (vx : Value) (ho : Out w wx vx (acc ++ dig 3)) => ho.rput2 xs.size hsz (room5 hacc hd3))
          have HK3 := Lib.hid (fun (wx : World) (vx : Value) (ho : Out w wx vx (acc ++ dig 3 ++ dig xs.size)) => ho.str xs (room6 hacc hd3 hdz e3))
          have wz : IntKind.u64.wrap (xs.size : Int) = (xs.size : Int) := by rw [IntKind.wrap_u64]; exact Int.emod_eq_of_lt (Int.natCast_nonneg _) (Int.ofNat_lt.2 hsz)
          rw [← List.append_assoc, ← List.append_assoc] at HA
          clear hsz hd3 hdz
          generalize dig xs.size = DZ at *
          clear hxi hacc hgx eb hgd e3
          go_wp2_with fail
          refine (KG _).mono ?_
          rintro e w3 ⟨rfl, hb3⟩
          have hbx := hb3.mono (show wr.heap.size ≤ _ by simp)
          have hbz : Below wr.heap.size wr w3 := ((Below.refl _ _).alloc (Nat.le_refl _) _).trans hbx
          have HC := Lib.hid ((C3.new wr (.int .i64 3) (.int .i64 0) (.string xs) 37).keep hb3 (by simp))
          have HZ : Hid (wr.heap.size < w3.heap.size) := Lib.hid (World.block_lt_of_cell? _ _ HC.out.1)
          have KQ : Calls Tryz.prog 32 #[v, .int .u64 3] _ _ := HK.out _ v (HO.out.next hbz)
          obtain ⟨k1, k2, k3⟩ := HC.out
          clear hb3 hbx hbz KG d0 d1 d2 HK HO
          go_wp2_with fail
          clear k1 k2 k3
          refine KQ.mono ?_
          rintro e w4 ⟨v4, rfl, HO5, hb4⟩
          have HC4 := Lib.hid (HC.out.keep hb4 HZ.out)
          obtain ⟨k1, k2, k3⟩ := HC4.out
          clear KQ HC HZ hb4
          have HZ4 : Hid (wr.heap.size < w4.heap.size) := Lib.hid (World.block_lt_of_cell? _ _ k1)
          go_wp2_with fail
          have S0 : w4.drew.cell? ⟨wr.heap.size, 2, none⟩ = some (.string xs) := k3
          clear k1 k2 k3
          refine wp_region_mix (fun W => W.cell? ⟨wr.heap.size, 2, none⟩ = some (.string xs)) 10 [(true, 0), (true, 1), (true, 2), (true, 6), (true, 7), (false, 3), (true, 4), (false, 5), (false, 8), (true, 9)] (by kernel_rfl) (by decide +kernel) rfl (by decide +kernel) S0 ?_
          iterate 5
            refine wpMix_take (v := ?_) rfl rfl ?_ ?_
            rotate_left
            · (intro W hW; (try dsimp only at hW); go_simp) <;> with_reducible rfl
            simp only [Act.put, List.setIfInBounds_toArray, List.set_cons_zero, List.set_cons_succ]
          refine wpMix_run rfl ?_
          intro K hK
          go_wp2_with fail
          refine hK.out _ _ (fun _ => S0) ?_
          clear hK K
          iterate 1
            refine wpMix_take (v := ?_) rfl rfl ?_ ?_
            rotate_left
            · (intro W hW; (try dsimp only at hW); go_simp) <;> with_reducible rfl
            simp only [Act.put, List.setIfInBounds_toArray, List.set_cons_zero, List.set_cons_succ]
          have HO6 := Lib.hid (HO5.out.next (below_drew_v w4))
          have KQ2 := HK2.out _ _ HO6.out
          refine wpMix_run rfl ?_
          intro K hK
          go_wp2_with fail
          refine KQ2.mono ?_
          rintro e w6 ⟨v6, rfl, HO7, hb6, hob⟩
          obtain ⟨v7, w7, r7, O8, g8⟩ := HK3.out _ _ HO7.out
          have S1 : w6.cell? ⟨wr.heap.size, 2, none⟩ = some (.string xs) := by rw [hb6.cell (World.block_lt_of_cell? _ _ S0)]; exact S0
          have hne : ∀ g, v6.ownBlock = some g → g ≠ wr.heap.size := fun g hg => Nat.ne_of_gt (Nat.lt_of_lt_of_le (World.block_lt_of_cell? _ _ S0) (hob g hg))
          have S2 : w7.cell? ⟨wr.heap.size, 2, none⟩ = some (.string xs) := by rw [World.cell?_of_block (w := w6) (g8 _ (World.block_lt_of_cell? _ _ S1) hne)]; exact S1
          have R7 := Lib.hid r7
          have HO9 := Lib.hid O8
          clear HO5 HO6 KQ2 HK2 HK3 hb6 r7 O8 g8 HO7 hne hob
          go_wp2_with fail
          refine hK.out _ _ (fun _ => S1) ?_
          clear hK K
          refine wpMix_run rfl ?_
          intro K hK
          go_wp2_with (at_builtin; refine wpList_append_run2 rfl _ _ 23 9 rfl rfl rfl (R7.out _) ?_)
          refine hK.out _ _ (fun _ => S2) ?_
          clear hK K
          iterate 1
            refine wpMix_take (v := ?_) rfl rfl ?_ ?_
            rotate_left
            · (intro W hW; (try dsimp only at hW); go_simp) <;> with_reducible rfl
            simp only [Act.put, List.setIfInBounds_toArray, List.set_cons_zero, List.set_cons_succ]
          refine wpMix_nil ?_
          go_wp2_with fail
          go_roundw
          case rel => exact ⟨i + 1, _, _, by go_num, hlt, rfl, HO9, Lib.hid HA.out.symm⟩
          case measure => simp [RowKit.intOf]; omega
        · simp only at e1 e2; subst e1 e2
          have eb := (bytes_bool xn ⟨#[]⟩).1
          have HK := Lib.hid (fun (wx : World) (vx : Value) (ho : Out w wx vx acc) => ho.rput 4 (by decide) (room0 hacc))
          rw [eb] at HA
          have hz := zig_zag xn hxi.1 hxi.2
          have KZ := fun w => refZig_any xn w hxi.1 (Int.le_of_lt_add_one hxi.2)
          have HK2 := Lib.hid (fun (wx : World) (vx : Value) (ho : Out w wx vx (acc ++ dig 4)) => ho.rput (zgN xn) hz.2 (room5 hacc (dig_len10 (u := 4) (by decide))))
          have hzc := zg_cast xn
          rw [hzc] at HK2
          rw [← List.append_assoc] at HA
          clear hz hzc
          generalize dig (zgN xn) = DZ at *
          generalize zigN xn = ZN at *
          clear hxi hacc hgx eb hgd
          go_wp2_with fail
          refine (KG _).mono ?_
          rintro e w3 ⟨rfl, hb3⟩
          have hbx := hb3.mono (show wr.heap.size ≤ _ by simp)
          have hbz : Below wr.heap.size wr w3 := ((Below.refl _ _).alloc (Nat.le_refl _) _).trans hbx
          have HC := Lib.hid ((C3.new wr (.int .i64 4) (.int .i64 xn) (.string ⟨#[]⟩) 37).keep hb3 (by simp))
          have HZ : Hid (wr.heap.size < w3.heap.size) := Lib.hid (World.block_lt_of_cell? _ _ HC.out.1)
          have KQ : Calls Tryz.prog 32 #[v, .int .u64 4] _ _ := HK.out _ v (HO.out.next hbz)
          obtain ⟨k1, k2, k3⟩ := HC.out
          clear hb3 hbx hbz KG d0 d1 d2 HK HO
          go_wp2_with fail
          clear k1 k2 k3
          refine KQ.mono ?_
          rintro e w4 ⟨v4, rfl, HO5, hb4⟩
          have HC4 := Lib.hid (HC.out.keep hb4 HZ.out)
          obtain ⟨k1, k2, k3⟩ := HC4.out
          clear KQ HC HZ hb4
          have KQ2 := HK2.out _ _ HO5.out
          clear HK2 HO5
          go_wp2_with fail
          refine (KZ _).mono ?_
          rintro e w5 ⟨rfl, rfl⟩
          go_wp2_with fail
          refine KQ2.mono ?_
          rintro e w6 ⟨v6, rfl, HO5, hb6⟩
          clear KQ2 hb6 KZ k1 k2 k3
          go_wp2_with fail
          go_roundw
          case rel => exact ⟨i + 1, _, _, by go_num, hlt, rfl, HO5, Lib.hid HA.out.symm⟩
          case measure => simp [RowKit.intOf]; omega
    · have hei : i = n := end_eq hin hlt
      have e1 : l.take i = l := by rw [hei, HNL.out]; exact List.take_length
      have e2 := HA.out
      rw [e1] at e2
      clear HA e1
      go_wp2_with fail
      go_ret
      exact ⟨_, rfl, by rw [show bytesV l = acc by rw [e2]; unfold bytesV; rw [HNL.out]]; exact HO.out.1, HO.out.2⟩
end Go.Proofs.YtfmhdnefcapjgaaGreat
