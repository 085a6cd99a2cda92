/- Contracts of value.read and value.Load at any bytes. Conditions: at most 10^6 bytes. -/
import Derived.Test.YtbijpjoljljlpaaGreatDoorVbFirst
set_option maxRecDepth 100000
namespace Go.Proofs.YtbijpjoljljlpaaGreatDoor
open Go.RowKit Go.Maps Go.Sort Go.Lib

/-- what read answers -/
def ReadVP (w : World) (l : List VV) (e : Ending) (w' : World) : Prop := ∃ v', e = .returned v' ∧ HoldsV w' v' l ∧ Below w.heap.size w w'
/-- what read answers: a row of the call's own -/
def ReadVO (w : World) (l : List VV) (e : Ending) (w' : World) : Prop := ∃ v', e = .returned v' ∧ w'.ownsRow w.heap.size 25 3 v' l.length (flatC l) ∧ Below w.heap.size w w'
/-- values of the call's own -/
def OutV (w wr : World) (v : Value) (acc : List VV) : Prop := wr.ownsRow w.heap.size 25 3 v acc.length (flatC acc) ∧ Below w.heap.size w wr
theorem OutV.next {w wr w' : World} {v : Value} {acc : List VV} (h : OutV w wr v acc) (hb : Below wr.heap.size wr w') : OutV w w' v acc :=
  ⟨ownsRow_below h.1 hb, h.2.trans (hb.mono h.2.size)⟩
theorem OutV.app {w wr : World} {v : Value} {acc : List VV} (h : OutV w wr v acc) (x : VV) (hl : acc.length ≤ 1000000000000) :
    ∃ v' w', (∀ ty, (Builtin.append_ #[22, 22] ty #[v, .slice (some ⟨wr.heap.size, 0, none⟩) 1 1]).run Tryz.prog (wr.alloc (.cells #[.int .i64 x.k, .int .i64 x.n, .string x.s] 25)) = .ok v' w') ∧ OutV w w' v' (acc ++ [x]) := by
  obtain ⟨v', w', r, o, g⟩ := app_value h.1 h.2.size x hl
  exact ⟨v', w', r, o, h.2.trans (below_grown g h.2.size (ownsRow_ge h.1))⟩
theorem OutV.nil (w : World) : OutV w w (.slice none 0 0) [] := ⟨World.ownsRow_nil w _ _ _, Below.refl _ _⟩
theorem first_below {w : World} {v : Value} {l : List UInt8} (H : Holds w v (u8s l)) (hl : l.length ≤ 1099511627776) : ∀ w', Below w.heap.size w w' → Calls Tryz.prog 30 #[v] w' (FirstP w' l) :=
  fun _ hb => first_any (H.below hb) hl
theorem u64_next {i C : Nat} (h : i < C) (hC : C < 18446744073709551616) : IntKind.u64.wrap ((i : Int) + 1) = (i : Int) + 1 := by rw [IntKind.wrap_u64]; omega
theorem readL_step {c : Nat} {l : List UInt8} (h : (firstV l).2 ≠ 0) : readL (c + 1) l = (firstV l).1 :: readL c (l.drop (firstV l).2) := by
  conv => lhs; unfold readL
  rw [if_neg h]
theorem readL_stop {c : Nat} {l : List UInt8} (h : (firstV l).2 = 0) : readL (c + 1) l = [] := by
  unfold readL
  rw [if_pos h]
theorem sub_next {i C : Nat} (h : i < C) : C - i = (C - (i + 1)) + 1 := by omega
theorem small_le {a b n : Nat} (h : a ≤ b) (h2 : b ≤ n) (h3 : n ≤ 1000000) : a ≤ 1000000000000 := by omega
theorem next_le {a p m : Nat} (h : a ≤ p) (hm : m ≠ 0) : a + 1 ≤ p + m := by omega
theorem pm_le {p m n : Nat} (hp : p ≤ n) (hm : m ≤ n - p) : p + m ≤ n := by omega
theorem bne_cast {m : Nat} (h : m ≠ 0) : ((m : Int) == 0) = false := by rw [beq_eq_false_iff_ne]; omega
theorem beq_cast {m : Nat} (h : m = 0) : ((m : Int) == 0) = true := by subst h; rfl
theorem meas_lt {i C : Nat} (h : i < C) : C - (i + 1) < C - i := by omega
set_option maxHeartbeats 800000 in
theorem read_own {w : World} {v : Value} {l : List UInt8} (H : Holds w v (u8s l)) (hl : l.length ≤ 1000000) : Calls Tryz.prog 17 #[v] w (ReadVO w (readV l)) := by
  have KG := Get_any H (by omega)
  have hG := getN_bound l
  obtain ⟨R, hR⟩ : ∃ R, readV l = R := ⟨_, rfl⟩
  have hR0 : readL (getN l).1 (l.drop (getN l).2) = R := hR
  rw [hR]
  obtain ⟨a, c, rfl, hc⟩ := H.form
  have hne : (getN l).1 ≠ 0 → ∃ ad, a = some ad := fun h => by
    have : l ≠ [] := fun e => h (by rw [e]; rfl)
    exact H.ptr (by rw [u8s_len]; exact List.length_pos_iff.2 this)
  rw [u8s_len] at *
  generalize (getN l).1 = C at *
  generalize (getN l).2 = P at *
  have HH := Lib.hid H
  have HL := Lib.hid hl
  have HC := Lib.hid hG.2
  have HP := Lib.hid hG.1
  have HR := Lib.hid hR0
  obtain ⟨n, hn⟩ : ∃ n, n = l.length := ⟨_, rfl⟩
  rw [← hn] at hc KG HH HL HP ⊢
  have HN := Lib.hid hn
  have p2 : (n : Int) ≤ (c : Int) := Int.ofNat_le.2 hc
  clear hR hR0 hG hl H hn hc
  go_enter Tryz.func17, Tryz.ntmps17
  go_wp2_with fail
  refine KG.mono ?_
  rintro e w1 ⟨rfl, rfl⟩
  clear KG
  go_wp2_with fail
  go_loopw [4, 5, 6, 7, 14] (fun s4 s5 _ _ s14 wr => ∃ (i p : Nat) (v : Value) (acc : List VV), s14 = .int .u64 i ∧ s4 = .int .i64 p ∧ v = s5 ∧ i ≤ C ∧ p ≤ n ∧ acc.length ≤ p ∧ Hid (OutV w wr v acc) ∧ Hid (acc ++ readL (C - i) (l.drop p) = R)) (fun _ _ _ _ k _ => C - (RowKit.intOf k).toNat)
  case atStart => exact ⟨0, P, _, [], rfl, rfl, rfl, Nat.zero_le _, HP.out, Nat.zero_le _, Lib.hid (OutV.nil w), Lib.hid (by simpa using HR.out)⟩
  case round =>
    clear HR
    obtain ⟨i, p, v, acc, rfl, rfl, rfl, hiC, hpn, hap, HO, HA⟩ := hrel
    by_cases hlt : i < C
    · obtain ⟨ad, rfl⟩ := hne (by omega)
      have b1 : (i : Int) < (C : Int) := Int.ofNat_lt.2 hlt
      have hw64 := u64_next hlt HC.out
      have p0 : (0 : Int) ≤ (p : Int) := Int.natCast_nonneg p
      have p1 : (p : Int) ≤ (n : Int) := Int.ofNat_le.2 hpn
      obtain ⟨A, if1, if1', hH1⟩ := cut_ahead HH.out hpn
      have hfl : (l.drop p).length ≤ 1099511627776 := by rw [List.length_drop, ← HN.out]; have := HL.out; omega
      have KF := first_below hH1 hfl wr HO.out.2
      have hfle := first_le (l.drop p)
      rw [List.length_drop, ← HN.out] at hfle
      have hpm := pm_le hpn hfle
      have hwp := sum_wrap hpm (Nat.le_trans HL.out (by decide))
      have HA1 := HA.out
      rw [sub_next hlt] at HA1
      unfold FirstP at KF
      by_cases hm : (firstV (l.drop p)).2 = 0
      · rw [readL_stop hm, List.append_nil] at HA1
        have t0 := beq_cast hm
        generalize (firstV (l.drop p)).2 = m at *
        generalize (firstV (l.drop p)).1 = y at *
        obtain ⟨yk, yn, ys⟩ := y
        simp only at KF
        clear HA hH1 hfl hfle hpm hm hpn hap hiC hlt
        go_wp2_with fail
        refine KF.mono ?_
        rintro e w2 ⟨rfl, hb2⟩
        have HO2 := HO.out.next hb2
        have HO3 := Lib.hid (HO2.next ((Below.refl _ _).alloc (Nat.le_refl _) (.cells #[.int .i64 yk, .int .i64 yn, .string ys] 25)))
        clear KF hb2 HO2 HO
        go_wp2_with fail
        go_ret
        subst HA1
        exact ⟨_, rfl, HO3.out.1, HO3.out.2⟩
      · rw [readL_step hm, List.drop_drop] at HA1
        have t0 := bne_cast hm
        have hnx := next_le hap hm
        have hal := small_le hap hpn HL.out
        generalize (firstV (l.drop p)).2 = m at *
        generalize (firstV (l.drop p)).1 = y at *
        have HAP := Lib.hid (fun w0 v (ho : OutV w w0 v acc) => ho.app y hal)
        obtain ⟨yk, yn, ys⟩ := y
        simp only at KF HAP
        have HA2 : Hid ((acc ++ [⟨yk, yn, ys⟩]) ++ readL (C - (i + 1)) (l.drop (p + m)) = R) := Lib.hid (by rw [List.append_assoc]; exact HA1)
        have HNX : Hid ((acc ++ [⟨yk, yn, ys⟩] : List VV).length ≤ p + m) := Lib.hid (by rw [List.length_append]; exact hnx)
        clear HA HA1 hH1 hfl hfle hm hpn hap hiC hnx hal
        go_wp2_with fail
        refine KF.mono ?_
        rintro e w2 ⟨rfl, hb2⟩
        have HO2 := HO.out.next hb2
        have HO3 := HO2.next ((Below.refl _ _).alloc (Nat.le_refl _) (.cells #[.int .i64 yk, .int .i64 yn, .string ys] 25))
        obtain ⟨v', w', r, HO4⟩ := HAP.out _ _ HO3
        have hz : (w2.alloc (.cells #[.int .i64 yk, .int .i64 yn, .string ys] 25)).heap.size = w2.heap.size + 1 := by simp
        rw [hz] at r
        have R1 := Lib.hid r
        have HO5 := Lib.hid HO4
        clear KF hb2 HO2 HO HO3 r HO4 HAP hz
        go_wp2_with (at_builtin; refine wpList_append_run rfl _ _ 22 rfl rfl rfl (R1.out _) ?_)
        go_roundw
        case rel => exact ⟨i + 1, p + m, _, _, by go_num, by go_num, rfl, hlt, hpm, HNX.out, HO5, HA2⟩
        case measure => simp [RowKit.intOf]; omega
    · have hei : i = C := end_eq hiC hlt
      have hR := HA.out
      rw [hei, Nat.sub_self] at hR
      have hR2 : acc = R := by simpa [readL] using hR
      subst hR2
      clear HA hR
      go_wp2_with fail
      go_ret
      exact ⟨_, rfl, HO.out.1, HO.out.2⟩
theorem read_vals {w : World} {v : Value} {l : List UInt8} (H : Holds w v (u8s l)) (hl : l.length ≤ 1000000) : Calls Tryz.prog 17 #[v] w (ReadVP w (readV l)) :=
  (read_own H hl).mono fun _ _ ⟨v', e, ho, hb⟩ => ⟨v', e, holdsV_of_owns ho, hb⟩
/-- what Load answers -/
def LoadP (w : World) (l : List UInt8) (e : Ending) (w' : World) : Prop :=
  (∃ v', (∃ vs, loadV l = some vs ∧ HoldsV w' v' vs ∧ e = .returned (.tuple #[v', .int .i64 0])) ∨ (loadV l = none ∧ v' = .slice none 0 0 ∧ e = .returned (.tuple #[v', .int .i64 8]))) ∧ Below w.heap.size w w'
/-- what Load answers: a row of the call's own -/
def LoadO (w : World) (l : List UInt8) (e : Ending) (w' : World) : Prop :=
  (∃ v', (∃ vs, loadV l = some vs ∧ w'.ownsRow w.heap.size 25 3 v' vs.length (flatC vs) ∧ e = .returned (.tuple #[v', .int .i64 0])) ∨ (loadV l = none ∧ v' = .slice none 0 0 ∧ e = .returned (.tuple #[v', .int .i64 8]))) ∧ Below w.heap.size w w'
theorem str_eq (l m : List UInt8) : ((⟨l.toArray⟩ : ByteArray).toList == (⟨m.toArray⟩ : ByteArray).toList) = decide (l = m) := by
  rw [Lib.toList_data, Lib.toList_data, Bool.eq_iff_iff, beq_iff_eq, decide_eq_true_iff]
set_option maxHeartbeats 800000 in
theorem vload_own {w : World} {v : Value} {l : List UInt8} (H : Holds w v (u8s l)) (hl : l.length ≤ 1000000) : Calls Tryz.prog 8 #[v] w (LoadO w l) := by
  have KR := read_own H hl
  have hlen := readV_len l
  have hin := readV_inI l
  have hlo : loadV l = if bytesV (readV l) = l then some (readV l) else none := rfl
  generalize readV l = R at *
  have HB := Lib.hid (fun (w0 : World) (v0 : Value) (h0 : HoldsV w0 v0 R) => vbytes_any h0 (by omega) hin)
  have HS := Lib.hid (fun (w0 : World) (hb : Below w.heap.size w w0) => toStr (H.below hb))
  obtain ⟨a, c, rfl, hc⟩ := H.form
  generalize (u8s l).length = n at *
  clear hlen hin hl H hc
  go_enter Tryz.func8, Tryz.ntmps8
  go_wp2_with fail
  refine KR.mono ?_
  rintro e w1 ⟨v1, rfl, h1, hb1⟩
  have KB := HB.out w1 v1 (holdsV_of_owns h1)
  have H1 := Lib.hid h1
  have HB1 := Lib.hid hb1
  clear KR HB h1 hb1
  go_wp2_with fail
  refine KB.mono ?_
  rintro e w2 ⟨v2, rfl, ho, hb2⟩
  have hO : Holds w2 v2 (u8s (bytesV R)) := Holds.of_row (by rw [u8s_len]; exact ho)
  have hbb := HB1.out.trans (hb2.mono HB1.out.size)
  have KE := Tryz.bytes_Equal_strs v2 (.slice a n c) _ _ w2 (toStr hO) (HS.out w2 hbb)
  rw [str_eq] at KE
  have HBB := Lib.hid hbb
  have H2 := Lib.hid (ownsRow_below H1.out hb2)
  clear ho hb2 hO hbb KB HS H1 HB1
  by_cases he : bytesV R = l
  · rw [if_pos he] at hlo
    rw [decide_eq_true he] at KE
    clear he
    go_wp2_with fail
    refine KE.mono ?_
    rintro e w3 ⟨rfl, rfl⟩
    go_wp2_with fail
    go_ret2
    exact ⟨⟨v1, .inl ⟨R, hlo, H2.out, rfl⟩⟩, HBB.out⟩
  · rw [if_neg he] at hlo
    rw [decide_eq_false he] at KE
    clear he
    go_wp2_with fail
    refine KE.mono ?_
    rintro e w3 ⟨rfl, rfl⟩
    go_wp2_with fail
    go_ret2
    exact ⟨⟨_, .inr ⟨hlo, rfl, rfl⟩⟩, HBB.out⟩
theorem vload_any {w : World} {v : Value} {l : List UInt8} (H : Holds w v (u8s l)) (hl : l.length ≤ 1000000) : Calls Tryz.prog 8 #[v] w (LoadP w l) :=
  (vload_own H hl).mono fun _ _ ⟨⟨v', h⟩, hb⟩ => ⟨⟨v', h.imp (fun ⟨vs, a, b, c⟩ => ⟨vs, a, holdsV_of_owns b, c⟩) id⟩, hb⟩
end Go.Proofs.YtbijpjoljljlpaaGreatDoor
