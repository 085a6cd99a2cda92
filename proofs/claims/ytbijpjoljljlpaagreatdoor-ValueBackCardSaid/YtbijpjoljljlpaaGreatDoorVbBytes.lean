/- Contract of value.Bytes. Conditions: at most 2^30 values, texts of at most 2^40 bytes. -/
import Derived.Test.YtbijpjoljljlpaaGreatDoorVbBody
set_option maxRecDepth 100000
namespace Go.Proofs.YtbijpjoljljlpaaGreatDoor
open Go.RowKit Go.Maps Go.Sort Go.Lib

theorem m_null_bytes (v : Value) (w : World) : (method 274 51 v "talus/value.bytes").run Tryz.prog w = .ok (129, v) w := by kernel_rfl
theorem m_int_bytes (v : Value) (w : World) : (method 274 55 v "talus/value.bytes").run Tryz.prog w = .ok (141, v) w := by kernel_rfl
theorem m_float_bytes (v : Value) (w : World) : (method 274 52 v "talus/value.bytes").run Tryz.prog w = .ok (132, v) w := by kernel_rfl
theorem m_str_bytes (v : Value) (w : World) : (method 274 53 v "talus/value.bytes").run Tryz.prog w = .ok (138, v) w := by kernel_rfl
theorem m_bool_bytes (v : Value) (w : World) : (method 274 56 v "talus/value.bytes").run Tryz.prog w = .ok (150, v) w := by kernel_rfl
theorem bytes_num {k : Nat} (hk : (k : Int) = 1 ∨ (k : Int) = 2 ∨ (k : Int) = 4) (n : Int) (s : ByteArray) : VV.bytes ⟨(k : Int), n, s⟩ = dig k ++ dig (zgN n) ∧ VV.body ⟨(k : Int), n, s⟩ = dig (zgN n) := by
  have h : VV.body ⟨(k : Int), n, s⟩ = dig (zgN n) := by unfold VV.body; rw [if_pos hk]
  exact ⟨by unfold VV.bytes; rw [h, Int.toNat_natCast], h⟩
theorem bytes_int (n : Int) (s : ByteArray) : VV.bytes ⟨1, n, s⟩ = dig 1 ++ dig (zgN n) ∧ VV.body ⟨1, n, s⟩ = dig (zgN n) := bytes_num (k := 1) (.inl rfl) n s
theorem bytes_float (n : Int) (s : ByteArray) : VV.bytes ⟨2, n, s⟩ = dig 2 ++ dig (zgN n) ∧ VV.body ⟨2, n, s⟩ = dig (zgN n) := bytes_num (k := 2) (.inr (.inl rfl)) n s
theorem bytes_bool (n : Int) (s : ByteArray) : VV.bytes ⟨4, n, s⟩ = dig 4 ++ dig (zgN n) ∧ VV.body ⟨4, n, s⟩ = dig (zgN n) := bytes_num (k := 4) (.inr (.inr rfl)) n s
theorem bytes_str (n : Int) (s : ByteArray) : VV.bytes ⟨3, n, s⟩ = dig 3 ++ (dig s.size ++ s.data.toList) ∧ VV.body ⟨3, n, s⟩ = dig s.size ++ s.data.toList := by
  have h : VV.body ⟨3, n, s⟩ = dig s.size ++ s.data.toList := by unfold VV.body; rw [if_neg (by simp), if_pos rfl]
  refine ⟨?_, h⟩
  unfold VV.bytes
  rw [h, show (3 : Int).toNat = 3 from rfl]
theorem bytes_null (n : Int) (s : ByteArray) : VV.bytes ⟨0, n, s⟩ = dig 0 ++ [] ∧ VV.body ⟨0, n, s⟩ = [] := by
  have h : VV.body ⟨0, n, s⟩ = [] := by unfold VV.body; rw [if_neg (by simp), if_neg (by simp)]
  refine ⟨?_, h⟩
  unfold VV.bytes
  rw [h, show (0 : Int).toNat = 0 from rfl]
theorem C3.set3 {w : World} {B : Nat} {x y z : Value} (h : C3 w B x y z) (u v t : Value) : C3 (((w.setCell ⟨B, 0, none⟩ u).setCell ⟨B, 1, none⟩ v).setCell ⟨B, 2, none⟩ t) B u v t := by
  have hs := h.set u v t
  exact ⟨by rw [World.cell?_setCell_other _ _ _ _ (by simp), World.cell?_setCell_other _ _ _ _ (by simp)]; exact hs.1, by rw [World.cell?_setCell_other _ _ _ _ (by simp)]; exact hs.2.1, hs.2.2⟩
/-- bytes of the call's own, behind which the world is as it was -/
def Out (w wr : World) (v : Value) (acc : List UInt8) : Prop := wr.ownsRow w.heap.size 5 1 v acc.length (u8s acc) ∧ Below w.heap.size w wr
theorem Out.next {w wr w' : World} {v : Value} {acc : List UInt8} (h : Out w wr v acc) (hb : Below wr.heap.size wr w') : Out w w' v acc :=
  ⟨ownsRow_below h.1 hb, h.2.trans (hb.mono h.2.size)⟩
/-- bytes more, that a call has made; what stays is each block but the bytes' own -/
theorem Out.app {w wr w' : World} {v v1 : Value} {acc l : List UInt8} (h : Out w wr v acc) (ho : w'.ownsRow wr.heap.size 5 1 v1 l.length (u8s l)) (hb : Below wr.heap.size wr w') (hl : acc.length + l.length ≤ 17592186044416) :
    ∃ v' w2, (∀ ty, (Builtin.append_ #[33, 33] ty #[v, v1]).run Tryz.prog w' = .ok v' w2) ∧ Out w w2 v' (acc ++ l) ∧ w'.heap.size ≤ w2.heap.size ∧ (∀ k, k < w'.heap.size → (∀ g, v.ownBlock = some g → g ≠ k) → w2.heap[k]? = w'.heap[k]?) := by
  have h1 := h.next hb
  have hO : Holds w' v1 (u8s l) := Holds.of_row (by rw [u8s_len]; exact ho)
  obtain ⟨v', w2, r, o, g, _⟩ := app8 h1.1 h1.2.size hO hl
  exact ⟨v', w2, r, ⟨o, h1.2.trans (below_grown g h1.2.size (ownsRow_ge h1.1))⟩, g.size, fun k hk hne => g.block k hk (fun e => hne k e.symm rfl)⟩
theorem C3.of_block {w w' : World} {B : Nat} {x y z : Value} (h : C3 w B x y z) (hb : w'.heap[B]? = w.heap[B]?) : C3 w' B x y z :=
  ⟨by rw [World.cell?_of_block (w := w) hb]; exact h.1, by rw [World.cell?_of_block (w := w) hb]; exact h.2.1, by rw [World.cell?_of_block (w := w) hb]; exact h.2.2⟩
theorem Out.old {w wr : World} {v : Value} {acc : List UInt8} (h : Out w wr v acc) : ∀ g, v.ownBlock = some g → g < wr.heap.size := fun g hg => (h.1.lt g hg).2
theorem dig_small {k : Int} (h0 : 0 ≤ k) (h1 : k ≤ 4) : IntKind.u64.wrap k = ((k.toNat : Nat) : Int) := by rw [IntKind.wrap_u64]; omega
theorem body_len {x : VV} (h : x.good = true) (hi : x.inI) : x.body.length ≤ 100 := by
  have hz := dig_len10 (zig_zag x.n hi.1 hi.2).2
  unfold VV.body
  split
  · omega
  · split
    · rcases good_cases h with rfl | ⟨e, _⟩ | ⟨e, _⟩ | ⟨_, _, hs⟩ | ⟨e, _⟩
      · rename_i h1; simp [VV.none_] at h1
      · omega
      · omega
      · have := dig_len10 (u := x.s.size) (by omega)
        rw [List.length_append, ← Lib.size_eq]; omega
      · omega
    · simp
theorem bytes_len {x : VV} (h : x.good = true) (hi : x.inI) : x.bytes.length ≤ 110 := by
  have hk := goodV_kind h
  have := body_len h hi
  have := dig_len10 (u := x.k.toNat) (by omega)
  unfold VV.bytes
  rw [List.length_append]; omega
theorem flatV_len : ∀ l : List VV, (∀ x ∈ l, x.inI) → (flatV l).length ≤ 110 * l.length
  | [], _ => by simp [flatV]
  | x :: r, h => by
    have := flatV_len r (fun y hy => h y (List.mem_cons_of_mem _ hy))
    have := bytes_len (norm_good x) (inI_norm (h x (List.mem_cons_self ..)))
    rw [flatV_cons, List.length_append, List.length_cons]; omega
theorem flatV_snoc (l : List VV) (x : VV) : flatV (l ++ [x]) = flatV l ++ x.norm.bytes := by simp [flatV]
theorem take_snoc {l : List VV} {i : Nat} {x : VV} (h : l[i]? = some x) : l.take (i + 1) = l.take i ++ [x] := by
  rw [List.take_add_one, h]; rfl

theorem room1 {a b : Nat} (h : a ≤ 200000000000) (h2 : b ≤ 10) : a + b ≤ 17592186044416 := by omega
theorem room2 {a d b : List UInt8} (h : a.length ≤ 200000000000) (h2 : d.length ≤ 10) (h3 : b.length ≤ 100) : (a ++ d).length + b.length ≤ 17592186044416 := by rw [List.length_append]; omega
theorem room3 {a b : List UInt8} {i n : Nat} (h : a.length ≤ 10) (h2 : b.length ≤ 110 * min i n) (h3 : n ≤ 1000000000) : (a ++ b).length ≤ 200000000000 := by rw [List.length_append]; omega
theorem meas_next {i n : Nat} (h : i < n) (h2 : wrap64 ((i : Int) + 1) = (i : Int) + 1) : n - (wrap64 ((i : Int) + 1)).toNat < n - i := by rw [h2]; omega
theorem end_eq {i n : Nat} (h : i ≤ n) (h2 : ¬ i < n) : i = n := by omega
theorem wi_next {i n : Nat} (h : i < n) (hn : n ≤ 1000000000) : IntKind.i64.wrap ((i : Int) + 1) = (i : Int) + 1 := by rw [IntKind.wrap_i64]; omega
theorem w64_next {i n : Nat} (h : i < n) (hn : n ≤ 1000000000) : wrap64 ((i : Int) + 1) = (i : Int) + 1 := by unfold wrap64; omega
theorem put_nil (k : Nat) (hk : k < 18446744073709551616) (w : World) : Calls Tryz.prog 19 #[.slice none 0 0, .int .u64 (k : Int)] w (OwnP w (dig k)) := by
  refine (Put_any (Holds.nil w) (xs := []) k hk (by simp)).mono ?_
  rintro e w1 ⟨v1, rfl, ho, hb⟩
  exact ⟨v1, rfl, by simpa using ho, hb⟩
set_option maxHeartbeats 6400000 in
theorem vbytes_any {w : World} {v : Value} {l : List VV} (h : HoldsV w v l) (hl : l.length ≤ 1000000000) (hi : ∀ x ∈ l, x.inI) : Calls Tryz.prog 9 #[v] w (OwnP w (bytesV l)) := by
  obtain ⟨a, c, rfl, hc⟩ := h.form
  have H := Lib.hid h
  have HI := Lib.hid hi
  have HFL := Lib.hid (flatV_len)
  have wl : IntKind.u64.wrap (l.length : Int) = (l.length : Int) := by rw [IntKind.wrap_u64]; omega
  have KP := fun w => Put_any (Holds.nil w) (xs := []) l.length (by omega) (by simp)
  have HDL := Lib.hid (dig_len10 (u := l.length) (by omega))
  obtain ⟨n, hn⟩ : ∃ n, n = l.length := ⟨_, rfl⟩
  rw [← hn] at wl KP hc hl HDL ⊢
  have HNL := Lib.hid hn
  have HL := Lib.hid hl
  clear h hi hn hl
  go_enter Tryz.func9, Tryz.ntmps9
  go_wp2_with fail
  refine (KP _).mono ?_
  rintro e w1 ⟨v1, rfl, ho, hb⟩
  have H1 : Hid (Out w w1 v1 (dig n)) := Lib.hid ⟨by simpa using ho, hb⟩
  clear ho hb KP
  go_wp2_with fail
  go_loopw [3, 5, 12] (fun s3 _ s12 wr => ∃ (i : Nat) (v : Value) (acc : List UInt8), s12 = .int .i64 i ∧ i ≤ n ∧ v = s3 ∧ Hid (Out w wr v acc) ∧ Hid (acc = dig n ++ flatV (l.take i))) (fun _ _ k _ => n - (RowKit.intOf k).toNat)
  case atStart => exact ⟨0, v1, _, rfl, Nat.zero_le _, rfl, H1, Lib.hid (by simp [flatV])⟩
  case round =>
    clear H1
    obtain ⟨i, v, acc, rfl, hin, rfl, HO, HA⟩ := hrel
    by_cases hlt : i < n
    · obtain ⟨x, hx⟩ : ∃ x, l[i]? = some x := ⟨l[i]'(HNL.out ▸ hlt), List.getElem?_eq_getElem _⟩
      obtain ⟨ad, rfl, hc0⟩ := H.out.at_ hx
      have hxi : x.inI := HI.out x (List.mem_of_getElem? hx)
      have HCW : ∀ w', Below w.heap.size w w' → w'.cell? (ad.add (i * 3)) = some (.int .i64 x.k) ∧ w'.cell? ⟨(ad.add (i * 3)).block, (ad.add (i * 3)).off + 1, none⟩ = some (.int .i64 x.n) ∧ w'.cell? ⟨(ad.add (i * 3)).block, (ad.add (i * 3)).off + 2, none⟩ = some (.string x.s) := fun w' hb =>
        ⟨by rw [hb.cell (World.block_lt_of_cell? _ _ hc0.1)]; exact hc0.1, by rw [hb.cell (World.block_lt_of_cell? _ _ hc0.2.1)]; exact hc0.2.1, by rw [hb.cell (World.block_lt_of_cell? _ _ hc0.2.2)]; exact hc0.2.2⟩
      obtain ⟨d0, d1, d2⟩ := HCW wr HO.out.2
      have b0 : (0 : Int) ≤ (i : Int) := Int.natCast_nonneg i
      have b1 : (i : Int) < (n : Int) := Int.ofNat_lt.2 hlt
      have hw64 := wi_next hlt HL.out
      have KG := vgood_any x.k x.n x.s hxi.1 hxi.2
      have hacc : acc.length ≤ 200000000000 := by
        have h1 := HFL.out (l.take i) (fun y hy => HI.out y (List.mem_of_mem_take hy))
        rw [List.length_take, ← HNL.out] at h1
        rw [HA.out]
        exact room3 HDL.out h1 HL.out
      have hnb := bytes_len (norm_good x) (inI_norm hxi)
      have hng := norm_good x
      have hni := inI_norm hxi
      have HA2 : dig n ++ flatV (l.take (i + 1)) = acc ++ x.norm.bytes := by rw [take_snoc hx, flatV_snoc, HA.out, List.append_assoc]
      have HN : Hid (∀ g, v.ownBlock = some g → g ≠ wr.heap.size) := Lib.hid fun g hg => Nat.ne_of_lt (HO.out.old g hg)
      replace HA := Lib.hid HA2
      clear HA2 HCW
      obtain ⟨xk, xn, xs⟩ := x
      simp only at d0 d1 d2 KG
      cases hgx : goodV xk xn xs
      · have hny : VV.norm ⟨xk, xn, xs⟩ = VV.none_ := by unfold VV.norm VV.good; rw [hgx]; rfl
        rw [hny] at HA
        rw [hgx] at KG
        have eb : VV.none_.bytes = dig 0 ++ [] := (bytes_null 0 ⟨#[]⟩).1
        have KP : ∀ w, Calls Tryz.prog 19 #[.slice none 0 0, .int .u64 0] w (OwnP w (dig 0)) := fun w => put_nil 0 (by decide) w
        have hd0 := dig_len10 (u := 0) (by decide)
        have HL1 : Hid (acc.length + (dig 0).length ≤ 17592186044416) := Lib.hid (room1 hacc hd0)
        have HL2 : Hid ((acc ++ dig 0).length + ([] : List UInt8).length ≤ 17592186044416) := Lib.hid (room2 hacc hd0 (by simp))
        rw [eb, ← List.append_assoc] at HA
        clear hc0 hxi hx hacc hnb hng hni hny hgx eb hd0
        go_wp2_with fail
        refine (KG _).mono ?_
        rintro e w3 ⟨rfl, hb3⟩
        have hbx := hb3.mono (show wr.heap.size ≤ _ by simp)
        have hbz : Below wr.heap.size wr w3 := ((Below.refl _ _).alloc (Nat.le_refl _) _).trans hbx
        have hCx := (C3.new wr (.int .i64 xk) (.int .i64 xn) (.string xs) 25).keep hb3 (by simp)
        obtain ⟨z1, z2, z3⟩ := frz3 hb3 (by simp)
        have k1 := hCx.1
        have k2 := hCx.2.1
        have k3 := hCx.2.2
        have S3 := below_set3 hbz (Nat.le_refl _) (.int .i64 0) (.int .i64 0) (.string ⟨#[]⟩)
        have HC := Lib.hid (hCx.set3 (.int .i64 0) (.int .i64 0) (.string ⟨#[]⟩))
        have HZ : Hid (wr.heap.size < (((w3.setCell ⟨wr.heap.size, 0, none⟩ (.int .i64 0)).setCell ⟨wr.heap.size, 1, none⟩ (.int .i64 0)).setCell ⟨wr.heap.size, 2, none⟩ (.string ⟨#[]⟩)).heap.size) := Lib.hid (World.block_lt_of_cell? _ _ HC.out.1)
        replace HO := Lib.hid (HO.out.next S3)
        clear hb3 hbx hbz KG d0 d1 d2 S3 hCx
        go_wp2_with fail
        clear z1 z2 z3 k1 k2 k3
        obtain ⟨W3, hW3⟩ : ∃ W3, (((w3.setCell ⟨wr.heap.size, 0, none⟩ (.int .i64 0)).setCell ⟨wr.heap.size, 1, none⟩ (.int .i64 0)).setCell ⟨wr.heap.size, 2, none⟩ (.string ⟨#[]⟩)) = W3 := ⟨_, rfl⟩
        rw [hW3] at HC HZ HO ⊢
        clear hW3
        have KC := content_null 0 ⟨#[]⟩
        have KB := nullBytes_any
        have mb := m_null_bytes
        refine (KP _).mono ?_
        rintro e w4 ⟨v4, rfl, ho4, hb4⟩
        obtain ⟨v5, w5, r5, O5, z5, g5⟩ := HO.out.app ho4 hb4 HL1.out
        have C5 := Lib.hid ((HC.out.keep hb4 HZ.out).of_block (g5 _ (Nat.lt_of_lt_of_le HZ.out hb4.size) HN.out))
        have R5 := Lib.hid r5
        replace HO := Lib.hid O5
        clear ho4 hb4 r5 O5 z5 g5 KP HC HZ HN HL1
        obtain ⟨k1, k2, k3⟩ := C5.out
        go_wp2_with (at_builtin; refine wpList_append_run rfl _ _ 33 rfl rfl rfl (R5.out _) ?_)
        refine (KC _).mono ?_
        rintro e w6 ⟨rfl, hb6⟩
        replace HO := Lib.hid (HO.out.next hb6)
        clear hb6 k1 k2 k3 C5 KC R5
        go_wp2_with fail
        refine (KB _).mono ?_
        rintro e w7 ⟨v7, rfl, ho7, hb7⟩
        obtain ⟨v8, w8, r8, O8, _, _⟩ := HO.out.app ho7 hb7 HL2.out
        have R8 := Lib.hid r8
        replace HO := Lib.hid O8
        clear ho7 hb7 r8 O8 KB HL2
        go_wp2_with (at_builtin; refine wpList_append_run rfl _ _ 33 rfl rfl rfl (R8.out _) ?_)
        go_roundw
        case rel => exact ⟨i + 1, _, _, by go_num, hlt, rfl, HO, Lib.hid HA.out.symm⟩
        case measure => simp [RowKit.intOf]; omega
      · have hgd : VV.good ⟨xk, xn, xs⟩ = true := hgx
        rw [hgx] at KG
        rw [norm_of hgd] at HA hnb
        have hbl := body_len hgd hxi
        clear hc0 hx hng hni
        rcases good_cases hgd with e | ⟨e1, e2⟩ | ⟨e1, e2⟩ | ⟨e1, e2, e3⟩ | ⟨e1, e2⟩
        · cases e
          have eb := (bytes_null 0 ⟨#[]⟩).1
          have hbl' : ([] : List UInt8).length ≤ 100 := by rw [(bytes_null 0 ⟨#[]⟩).2] at hbl; exact hbl
          have KP : ∀ w, Calls Tryz.prog 19 #[.slice none 0 0, .int .u64 0] w (OwnP w (dig 0)) := fun w => put_nil 0 (by decide) w
          have hd0 := dig_len10 (u := 0) (by decide)
          have HL1 : Hid (acc.length + (dig 0).length ≤ 17592186044416) := Lib.hid (room1 hacc hd0)
          have HL2 : Hid ((acc ++ dig 0).length + ([] : List UInt8).length ≤ 17592186044416) := Lib.hid (room2 hacc hd0 hbl')
          have KC := content_null 0 ⟨#[]⟩
          have KB := nullBytes_any
          rw [eb, ← List.append_assoc] at HA
          clear hxi hacc hnb hgx eb hd0 hbl hbl' hgd
          go_wp2_with fail
          refine (KG _).mono ?_
          rintro e w3 ⟨rfl, hb3⟩
          have hbx := hb3.mono (show wr.heap.size ≤ _ by simp)
          have hbz : Below wr.heap.size wr w3 := ((Below.refl _ _).alloc (Nat.le_refl _) _).trans hbx
          have HC := Lib.hid ((C3.new wr (.int .i64 0) (.int .i64 0) (.string ⟨#[]⟩) 25).keep hb3 (by simp))
          have HZ : Hid (wr.heap.size < w3.heap.size) := Lib.hid (World.block_lt_of_cell? _ _ HC.out.1)
          replace HO := Lib.hid (HO.out.next hbz)
          clear hb3 hbx hbz KG d0 d1 d2
          have mb := m_null_bytes
          obtain ⟨k1, k2, k3⟩ := HC.out
          go_wp2_with fail
          refine (KP _).mono ?_
          rintro e w4 ⟨v4, rfl, ho4, hb4⟩
          obtain ⟨v5, w5, r5, O5, z5, g5⟩ := HO.out.app ho4 hb4 HL1.out
          have C5 := Lib.hid ((HC.out.keep hb4 HZ.out).of_block (g5 _ (Nat.lt_of_lt_of_le HZ.out hb4.size) HN.out))
          have R5 := Lib.hid r5
          replace HO := Lib.hid O5
          clear ho4 hb4 r5 O5 z5 g5 k1 k2 k3 KP HC HZ HN HL1
          obtain ⟨k1, k2, k3⟩ := C5.out
          go_wp2_with (at_builtin; refine wpList_append_run rfl _ _ 33 rfl rfl rfl (R5.out _) ?_)
          refine (KC _).mono ?_
          rintro e w6 ⟨rfl, hb6⟩
          replace HO := Lib.hid (HO.out.next hb6)
          clear hb6 k1 k2 k3 C5 KC R5
          go_wp2_with fail
          refine (KB _).mono ?_
          rintro e w7 ⟨v7, rfl, ho7, hb7⟩
          obtain ⟨v8, w8, r8, O8, _, _⟩ := HO.out.app ho7 hb7 HL2.out
          have R8 := Lib.hid r8
          replace HO := Lib.hid O8
          clear ho7 hb7 r8 O8 KB HL2
          go_wp2_with (at_builtin; refine wpList_append_run rfl _ _ 33 rfl rfl rfl (R8.out _) ?_)
          go_roundw
          case rel => exact ⟨i + 1, _, _, by go_num, hlt, rfl, HO, Lib.hid HA.out.symm⟩
          case measure => simp [RowKit.intOf]; omega
        · simp only at e1 e2; subst e1 e2
          have eb := (bytes_int xn ⟨#[]⟩).1
          have hbl' : ((dig (zgN xn)) : List UInt8).length ≤ 100 := by rw [(bytes_int xn ⟨#[]⟩).2] at hbl; exact hbl
          have KP : ∀ w, Calls Tryz.prog 19 #[.slice none 0 0, .int .u64 1] w (OwnP w (dig 1)) := fun w => put_nil 1 (by decide) w
          have hd0 := dig_len10 (u := 1) (by decide)
          have HL1 : Hid (acc.length + (dig 1).length ≤ 17592186044416) := Lib.hid (room1 hacc hd0)
          have HL2 : Hid ((acc ++ dig 1).length + ((dig (zgN xn)) : List UInt8).length ≤ 17592186044416) := Lib.hid (room2 hacc hd0 hbl')
          have KC := content_int xn ⟨#[]⟩
          have KB := wholeBytes_any xn hxi.1 hxi.2
          rw [eb, ← List.append_assoc] at HA
          clear hxi hacc hnb hgx eb hd0 hbl hbl' hgd
          go_wp2_with fail
          refine (KG _).mono ?_
          rintro e w3 ⟨rfl, hb3⟩
          have hbx := hb3.mono (show wr.heap.size ≤ _ by simp)
          have hbz : Below wr.heap.size wr w3 := ((Below.refl _ _).alloc (Nat.le_refl _) _).trans hbx
          have HC := Lib.hid ((C3.new wr (.int .i64 1) (.int .i64 xn) (.string ⟨#[]⟩) 25).keep hb3 (by simp))
          have HZ : Hid (wr.heap.size < w3.heap.size) := Lib.hid (World.block_lt_of_cell? _ _ HC.out.1)
          replace HO := Lib.hid (HO.out.next hbz)
          clear hb3 hbx hbz KG d0 d1 d2
          have mb := m_int_bytes
          obtain ⟨k1, k2, k3⟩ := HC.out
          go_wp2_with fail
          refine (KP _).mono ?_
          rintro e w4 ⟨v4, rfl, ho4, hb4⟩
          obtain ⟨v5, w5, r5, O5, z5, g5⟩ := HO.out.app ho4 hb4 HL1.out
          have C5 := Lib.hid ((HC.out.keep hb4 HZ.out).of_block (g5 _ (Nat.lt_of_lt_of_le HZ.out hb4.size) HN.out))
          have R5 := Lib.hid r5
          replace HO := Lib.hid O5
          clear ho4 hb4 r5 O5 z5 g5 k1 k2 k3 KP HC HZ HN HL1
          obtain ⟨k1, k2, k3⟩ := C5.out
          go_wp2_with (at_builtin; refine wpList_append_run rfl _ _ 33 rfl rfl rfl (R5.out _) ?_)
          refine (KC _).mono ?_
          rintro e w6 ⟨rfl, hb6⟩
          replace HO := Lib.hid (HO.out.next hb6)
          clear hb6 k1 k2 k3 C5 KC R5
          go_wp2_with fail
          refine (KB _).mono ?_
          rintro e w7 ⟨v7, rfl, ho7, hb7⟩
          obtain ⟨v8, w8, r8, O8, _, _⟩ := HO.out.app ho7 hb7 HL2.out
          have R8 := Lib.hid r8
          replace HO := Lib.hid O8
          clear ho7 hb7 r8 O8 KB HL2
          go_wp2_with (at_builtin; refine wpList_append_run rfl _ _ 33 rfl rfl rfl (R8.out _) ?_)
          go_roundw
          case rel => exact ⟨i + 1, _, _, by go_num, hlt, rfl, HO, Lib.hid HA.out.symm⟩
          case measure => simp [RowKit.intOf]; omega
        · simp only at e1 e2; subst e1 e2
          have eb := (bytes_float xn ⟨#[]⟩).1
          have hbl' : ((dig (zgN xn)) : List UInt8).length ≤ 100 := by rw [(bytes_float xn ⟨#[]⟩).2] at hbl; exact hbl
          have KP : ∀ w, Calls Tryz.prog 19 #[.slice none 0 0, .int .u64 2] w (OwnP w (dig 2)) := fun w => put_nil 2 (by decide) w
          have hd0 := dig_len10 (u := 2) (by decide)
          have HL1 : Hid (acc.length + (dig 2).length ≤ 17592186044416) := Lib.hid (room1 hacc hd0)
          have HL2 : Hid ((acc ++ dig 2).length + ((dig (zgN xn)) : List UInt8).length ≤ 17592186044416) := Lib.hid (room2 hacc hd0 hbl')
          have KC := content_float xn ⟨#[]⟩
          have KB := floatBytes_any xn hxi.1 hxi.2
          rw [eb, ← List.append_assoc] at HA
          clear hxi hacc hnb hgx eb hd0 hbl hbl' hgd
          go_wp2_with fail
          refine (KG _).mono ?_
          rintro e w3 ⟨rfl, hb3⟩
          have hbx := hb3.mono (show wr.heap.size ≤ _ by simp)
          have hbz : Below wr.heap.size wr w3 := ((Below.refl _ _).alloc (Nat.le_refl _) _).trans hbx
          have HC := Lib.hid ((C3.new wr (.int .i64 2) (.int .i64 xn) (.string ⟨#[]⟩) 25).keep hb3 (by simp))
          have HZ : Hid (wr.heap.size < w3.heap.size) := Lib.hid (World.block_lt_of_cell? _ _ HC.out.1)
          replace HO := Lib.hid (HO.out.next hbz)
          clear hb3 hbx hbz KG d0 d1 d2
          have mb := m_float_bytes
          obtain ⟨k1, k2, k3⟩ := HC.out
          go_wp2_with fail
          refine (KP _).mono ?_
          rintro e w4 ⟨v4, rfl, ho4, hb4⟩
          obtain ⟨v5, w5, r5, O5, z5, g5⟩ := HO.out.app ho4 hb4 HL1.out
          have C5 := Lib.hid ((HC.out.keep hb4 HZ.out).of_block (g5 _ (Nat.lt_of_lt_of_le HZ.out hb4.size) HN.out))
          have R5 := Lib.hid r5
          replace HO := Lib.hid O5
          clear ho4 hb4 r5 O5 z5 g5 k1 k2 k3 KP HC HZ HN HL1
          obtain ⟨k1, k2, k3⟩ := C5.out
          go_wp2_with (at_builtin; refine wpList_append_run rfl _ _ 33 rfl rfl rfl (R5.out _) ?_)
          refine (KC _).mono ?_
          rintro e w6 ⟨rfl, hb6⟩
          replace HO := Lib.hid (HO.out.next hb6)
          clear hb6 k1 k2 k3 C5 KC R5
          go_wp2_with fail
          refine (KB _).mono ?_
          rintro e w7 ⟨v7, rfl, ho7, hb7⟩
          obtain ⟨v8, w8, r8, O8, _, _⟩ := HO.out.app ho7 hb7 HL2.out
          have R8 := Lib.hid r8
          replace HO := Lib.hid O8
          clear ho7 hb7 r8 O8 KB HL2
          go_wp2_with (at_builtin; refine wpList_append_run rfl _ _ 33 rfl rfl rfl (R8.out _) ?_)
          go_roundw
          case rel => exact ⟨i + 1, _, _, by go_num, hlt, rfl, HO, Lib.hid HA.out.symm⟩
          case measure => simp [RowKit.intOf]; omega
        · simp only at e1 e2 e3; subst e1 e2
          have eb := (bytes_str 0 xs).1
          have hbl' : ((dig xs.size ++ xs.data.toList) : List UInt8).length ≤ 100 := by rw [(bytes_str 0 xs).2] at hbl; exact hbl
          have KP : ∀ w, Calls Tryz.prog 19 #[.slice none 0 0, .int .u64 3] w (OwnP w (dig 3)) := fun w => put_nil 3 (by decide) w
          have hd0 := dig_len10 (u := 3) (by decide)
          have HL1 : Hid (acc.length + (dig 3).length ≤ 17592186044416) := Lib.hid (room1 hacc hd0)
          have HL2 : Hid ((acc ++ dig 3).length + ((dig xs.size ++ xs.data.toList) : List UInt8).length ≤ 17592186044416) := Lib.hid (room2 hacc hd0 hbl')
          have KC := content_str 0 xs
          have KB := strBytes_any xs (Nat.le_trans e3 (by decide))
          rw [eb, ← List.append_assoc] at HA
          clear hxi hacc hnb hgx eb hd0 hbl hbl' hgd e3
          go_wp2_with fail
          refine (KG _).mono ?_
          rintro e w3 ⟨rfl, hb3⟩
          have hbx := hb3.mono (show wr.heap.size ≤ _ by simp)
          have hbz : Below wr.heap.size wr w3 := ((Below.refl _ _).alloc (Nat.le_refl _) _).trans hbx
          have HC := Lib.hid ((C3.new wr (.int .i64 3) (.int .i64 0) (.string xs) 25).keep hb3 (by simp))
          have HZ : Hid (wr.heap.size < w3.heap.size) := Lib.hid (World.block_lt_of_cell? _ _ HC.out.1)
          replace HO := Lib.hid (HO.out.next hbz)
          clear hb3 hbx hbz KG d0 d1 d2
          have mb := m_str_bytes
          obtain ⟨k1, k2, k3⟩ := HC.out
          go_wp2_with fail
          refine (KP _).mono ?_
          rintro e w4 ⟨v4, rfl, ho4, hb4⟩
          obtain ⟨v5, w5, r5, O5, z5, g5⟩ := HO.out.app ho4 hb4 HL1.out
          have C5 := Lib.hid ((HC.out.keep hb4 HZ.out).of_block (g5 _ (Nat.lt_of_lt_of_le HZ.out hb4.size) HN.out))
          have R5 := Lib.hid r5
          replace HO := Lib.hid O5
          clear ho4 hb4 r5 O5 z5 g5 k1 k2 k3 KP HC HZ HN HL1
          obtain ⟨k1, k2, k3⟩ := C5.out
          go_wp2_with (at_builtin; refine wpList_append_run rfl _ _ 33 rfl rfl rfl (R5.out _) ?_)
          refine (KC _).mono ?_
          rintro e w6 ⟨rfl, hb6⟩
          replace HO := Lib.hid (HO.out.next hb6)
          clear hb6 k1 k2 k3 C5 KC R5
          go_wp2_with fail
          refine (KB _).mono ?_
          rintro e w7 ⟨v7, rfl, ho7, hb7⟩
          obtain ⟨v8, w8, r8, O8, _, _⟩ := HO.out.app ho7 hb7 HL2.out
          have R8 := Lib.hid r8
          replace HO := Lib.hid O8
          clear ho7 hb7 r8 O8 KB HL2
          go_wp2_with (at_builtin; refine wpList_append_run rfl _ _ 33 rfl rfl rfl (R8.out _) ?_)
          go_roundw
          case rel => exact ⟨i + 1, _, _, by go_num, hlt, rfl, HO, Lib.hid HA.out.symm⟩
          case measure => simp [RowKit.intOf]; omega
        · simp only at e1 e2; subst e1 e2
          have eb := (bytes_bool xn ⟨#[]⟩).1
          have hbl' : ((dig (zgN xn)) : List UInt8).length ≤ 100 := by rw [(bytes_bool xn ⟨#[]⟩).2] at hbl; exact hbl
          have KP : ∀ w, Calls Tryz.prog 19 #[.slice none 0 0, .int .u64 4] w (OwnP w (dig 4)) := fun w => put_nil 4 (by decide) w
          have hd0 := dig_len10 (u := 4) (by decide)
          have HL1 : Hid (acc.length + (dig 4).length ≤ 17592186044416) := Lib.hid (room1 hacc hd0)
          have HL2 : Hid ((acc ++ dig 4).length + ((dig (zgN xn)) : List UInt8).length ≤ 17592186044416) := Lib.hid (room2 hacc hd0 hbl')
          have KC := content_bool xn ⟨#[]⟩
          have KB := truthBytes_any xn hxi.1 hxi.2
          rw [eb, ← List.append_assoc] at HA
          clear hxi hacc hnb hgx eb hd0 hbl hbl' hgd
          go_wp2_with fail
          refine (KG _).mono ?_
          rintro e w3 ⟨rfl, hb3⟩
          have hbx := hb3.mono (show wr.heap.size ≤ _ by simp)
          have hbz : Below wr.heap.size wr w3 := ((Below.refl _ _).alloc (Nat.le_refl _) _).trans hbx
          have HC := Lib.hid ((C3.new wr (.int .i64 4) (.int .i64 xn) (.string ⟨#[]⟩) 25).keep hb3 (by simp))
          have HZ : Hid (wr.heap.size < w3.heap.size) := Lib.hid (World.block_lt_of_cell? _ _ HC.out.1)
          replace HO := Lib.hid (HO.out.next hbz)
          clear hb3 hbx hbz KG d0 d1 d2
          have mb := m_bool_bytes
          obtain ⟨k1, k2, k3⟩ := HC.out
          go_wp2_with fail
          refine (KP _).mono ?_
          rintro e w4 ⟨v4, rfl, ho4, hb4⟩
          obtain ⟨v5, w5, r5, O5, z5, g5⟩ := HO.out.app ho4 hb4 HL1.out
          have C5 := Lib.hid ((HC.out.keep hb4 HZ.out).of_block (g5 _ (Nat.lt_of_lt_of_le HZ.out hb4.size) HN.out))
          have R5 := Lib.hid r5
          replace HO := Lib.hid O5
          clear ho4 hb4 r5 O5 z5 g5 k1 k2 k3 KP HC HZ HN HL1
          obtain ⟨k1, k2, k3⟩ := C5.out
          go_wp2_with (at_builtin; refine wpList_append_run rfl _ _ 33 rfl rfl rfl (R5.out _) ?_)
          refine (KC _).mono ?_
          rintro e w6 ⟨rfl, hb6⟩
          replace HO := Lib.hid (HO.out.next hb6)
          clear hb6 k1 k2 k3 C5 KC R5
          go_wp2_with fail
          refine (KB _).mono ?_
          rintro e w7 ⟨v7, rfl, ho7, hb7⟩
          obtain ⟨v8, w8, r8, O8, _, _⟩ := HO.out.app ho7 hb7 HL2.out
          have R8 := Lib.hid r8
          replace HO := Lib.hid O8
          clear ho7 hb7 r8 O8 KB HL2
          go_wp2_with (at_builtin; refine wpList_append_run rfl _ _ 33 rfl rfl rfl (R8.out _) ?_)
          go_roundw
          case rel => exact ⟨i + 1, _, _, by go_num, hlt, rfl, HO, Lib.hid HA.out.symm⟩
          case measure => simp [RowKit.intOf]; omega
    · have hei : i = n := end_eq hin hlt
      have e1 : l.take i = l := by rw [hei, HNL.out]; exact List.take_length
      have e2 := HA.out
      rw [e1] at e2
      clear HA e1
      go_wp2_with fail
      go_ret
      exact ⟨_, rfl, by rw [show bytesV l = acc by rw [e2]; unfold bytesV; rw [HNL.out]]; exact HO.out.1, HO.out.2⟩
end Go.Proofs.YtbijpjoljljlpaaGreatDoor
