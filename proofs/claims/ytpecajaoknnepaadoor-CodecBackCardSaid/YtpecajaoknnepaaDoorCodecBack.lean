/- The walk of CodecBack: each way of writing is undone by its reader. Conditions: the table of Sum reads as the program's text lays it. -/
import Derived.Test.YtpecajaoknnepaaDoorBackPlain
import Derived.Test.YtpecajaoknnepaaDoorCodecLives
import Derived.Test.YtpecajaoknnepaaDoorCodecUnpack
import Derived.Test.YtpecajaoknnepaaDoorInts
set_option maxRecDepth 100000
namespace Go.Proofs.YtpecajaoknnepaaDoor
open Go.RowKit Go.Maps Go.Sort

/-- the numbers, cut to so many bits -/
def smallOf (wd : Nat) (l : List UInt64) : List UInt64 := l.map fun u => if wd < 64 then UInt64.ofNat (u.toNat % 2 ^ wd) else u
theorem smallOf_len (wd : Nat) (l : List UInt64) : (smallOf wd l).length = l.length := by simp [smallOf]
theorem small_lt (wd : Nat) (u : UInt64) : wd ≤ 64 → (if wd < 64 then UInt64.ofNat (u.toNat % 2 ^ wd) else u).toNat < 2 ^ wd := by
  intro h
  have hp := Nat.two_pow_pos wd
  have hu := u.toNat_lt
  split
  · have hm := Nat.mod_lt u.toNat hp
    have hle := Nat.mod_le u.toNat (2 ^ wd)
    rw [UInt64.toNat_ofNat', Nat.mod_eq_of_lt (by omega)]
    exact hm
  · obtain rfl : wd = 64 := by omega
    exact hu
theorem small_fit (wd : Nat) (l : List UInt64) (h : wd ≤ 64) : ∀ u ∈ smallOf wd l, u.toNat < 2 ^ wd := fun u hu => by
  obtain ⟨x, _, rfl⟩ := List.mem_map.1 hu
  exact small_lt wd x h

/-- one number more is cut -/
theorem small_step {w wr : World} {v : Value} {l : List UInt64} {wd k n : Nat} (hk : k < l.length) (hn : n ≤ 5000) (hkn : k < n) (h : wr.ownsRow w.heap.size 23 1 v k (u64s (smallOf wd (l.take k)))) (hb : Below w.heap.size w wr) {y : Nat} (hy : y = (if wd < 64 then UInt64.ofNat (l[k].toNat % 2 ^ wd) else l[k]).toNat) :
    ∃ v' w2, Hid (∀ ty, (Builtin.append_ #[34, 34] ty #[v, .slice (some ⟨wr.heap.size, 0, none⟩) 1 1]).run Tryd.prog (wr.alloc (.cells #[.int .u64 (y : Int)] 23)) = .ok v' w2) ∧ Hid (w2.ownsRow w.heap.size 23 1 v' (k + 1) (u64s (smallOf wd (l.take (k + 1)))) ∧ Below w.heap.size w w2) := by
  have hlen : (smallOf wd (l.take k)).length = k := by rw [smallOf_len, List.length_take]; omega
  have hrow : (wr.alloc (.cells #[.int .u64 (y : Int)] 23)).ownsRow w.heap.size 23 1 v (smallOf wd (l.take k)).length (u64s (smallOf wd (l.take k))) := by
    rw [hlen]
    exact ownsRow_of_block h (fun g hg => Below.heap_alloc _ _ _ (h.lt g hg).2)
  obtain ⟨U, hU⟩ : ∃ U, U = (if wd < 64 then UInt64.ofNat (l[k].toNat % 2 ^ wd) else l[k]) := ⟨_, rfl⟩
  rw [← hU] at hy
  have hs : Holds (wr.alloc (.cells #[.int .u64 (y : Int)] 23)) (.slice (some ⟨wr.heap.size, 0, none⟩) 1 1) (u64s [U]) := Holds.of_heap (alloc1 wr _) (by rw [hy]; rfl) 1 1 rfl (Nat.le_refl _)
  obtain ⟨v', w2, r, o, g, _⟩ := appU hrow (by have := hb.size; rw [World.size_alloc]; omega) hs (by rw [hlen]; simp; omega)
  have e : smallOf wd (l.take k) ++ [U] = smallOf wd (l.take (k + 1)) := by
    rw [List.take_succ_eq_append_getElem hk, smallOf, smallOf, List.map_append, hU]; rfl
  rw [e, smallOf_len, List.length_take, Nat.min_eq_left (by omega)] at o
  refine ⟨v', w2, Lib.hid r, Lib.hid ⟨o, (hb.trans (below1 wr _ |>.mono hb.size)).trans ⟨g.os, g.tape, g.output, g.size, fun b hb2 => g.block b ?_ (fun e => ?_)⟩⟩⟩
  · have := hb.size; rw [World.size_alloc]; omega
  · have := (hrow.lt b e.symm).1; omega

theorem back_unpack {w : World} {v : Value} {l : List UInt64} (wd n : Nat) (hw : wd ≤ 64) (hn : n = l.length) (hl : n ≤ 5000) (hfit : ∀ u ∈ l, u.toNat < 2 ^ wd) {B : Nat}
    (h : w.ownsRow B 5 1 v ((wd * l.length + 7) / 8) (u8s (bytesN ((wd * l.length + 7) / 8) (bigN wd (nats l))))) :
    Calls Tryd.prog 24 #[.int .i64 (wd : Int), .int .i64 (n : Int), v] w fun e w' => ∃ v', e = .returned (.tuple #[v', .int .i64 0]) ∧ Hid (w'.ownsRow w.heap.size 23 1 v' n (u64s l) ∧ Below w.heap.size w w') := by
  subst hn
  obtain ⟨a, c, rfl, _⟩ := ownsRow_form h
  obtain ⟨h1, h2⟩ := unpack_pack wd l hfit
  have hlen := bytesN_len ((wd * l.length + 7) / 8) (bigN wd (nats l))
  have hh : Holds w (.slice a (bytesN ((wd * l.length + 7) / 8) (bigN wd (nats l))).length c) (u8s (bytesN ((wd * l.length + 7) / 8) (bigN wd (nats l)))) := by
    refine Holds.of_row (base := B) (e := 5) ?_
    rw [u8s_len, hlen]
    exact h
  have hU := Unpack_ok hh wd l.length hw (by omega) hlen h1
  rw [hlen, h2] at hU
  exact hU
theorem back_unruns {w : World} {v : Value} {l : List UInt64} (n : Nat) (hn : n = l.length) (hl : n ≤ 5000) {B : Nat} (h : w.ownsRow B 5 1 v (runsB (runsOf l)).length (u8s (runsB (runsOf l)))) :
    Calls Tryd.prog 27 #[v] w fun e w' => ∃ v', e = .returned (.tuple #[v', .int .i64 0]) ∧ Hid (w'.ownsRow w.heap.size 23 1 v' n (u64s l) ∧ Below w.heap.size w w') := by
  subst hn
  have hp := runs_le l
  have hlen := runsB_len (runsOf l) (fun p hp2 => by have := (hp.2 p hp2).2; omega)
  have := Unruns_any (Holds.of_row (base := B) (e := 5) (by rw [u8s_len]; exact h)) (by have := hp.1; omega)
  rw [unruns_runs l (by omega)] at this
  exact this
theorem back_undeltas {w : World} {v : Value} {m : List Int} (n : Nat) (hn : n = m.length) (hl : n ≤ 5000) (hm : ∀ x ∈ m, -9223372036854775808 ≤ x ∧ x ≤ 9223372036854775807) {B : Nat} (h : w.ownsRow B 5 1 v (deltaL 0 m).length (u8s (deltaL 0 m))) :
    Calls Tryd.prog 29 #[v] w fun e w' => ∃ v', e = .returned (.tuple #[v', .int .i64 0]) ∧ Hid (w'.ownsRow w.heap.size 3 1 v' n (i64s m) ∧ Below w.heap.size w w') := by
  subst hn
  have hlen := deltaL_len m 0
  have := Undeltas_any (Holds.of_row (base := B) (e := 5) (by rw [u8s_len]; exact h)) (by omega)
  rw [undeltas_deltas m hm] at this
  exact this

theorem back_long {w : World} (hq : Quads w) (a b : Option Addr) (len cap len2 cap2 u : Nat) (h : 5000 < len ∨ 5000 < len2) :
    Calls Tryd.prog 6 #[.slice a len cap, .slice b len2 cap2, .int .u64 (u : Int)] w fun e w' => e = .returned (.bool true) ∧ Below w.heap.size w w' := by
  have HQ := Lib.hid hq
  clear hq
  by_cases h1 : 5000 < len
  · have t1 : decide ((len : Int) > 5000) = true := decide_eq_true (by omega)
    go_enter Tryd.func6, Tryd.ntmps6
    go_wp2_with fail
    refine (lives_any HQ.out).mono ?_
    rintro e w1 ⟨rfl, hb⟩
    have HB := Lib.hid hb
    clear hb
    go_wp2_with fail
    go_ret
    exact ⟨rfl, HB.out⟩
  · have t1 : decide ((len : Int) > 5000) = false := decide_eq_false (by omega)
    have t2 : decide ((len2 : Int) > 5000) = true := decide_eq_true (by omega)
    go_enter Tryd.func6, Tryd.ntmps6
    go_wp2_with fail
    refine (lives_any HQ.out).mono ?_
    rintro e w1 ⟨rfl, hb⟩
    have HB := Lib.hid hb
    clear hb
    go_wp2_with fail
    go_ret
    exact ⟨rfl, HB.out⟩

set_option maxHeartbeats 3200000 in
theorem back_main {w : World} (hq : Quads w) {a b : Option Addr} {cap cap2 : Nat} {l : List UInt64} {m : List Int} (h : Holds w (.slice a l.length cap) (u64s l)) (h2 : Holds w (.slice b m.length cap2) (i64s m)) (hl : l.length ≤ 5000) (hl2 : m.length ≤ 5000)
    (hm : ∀ x ∈ m, -9223372036854775808 ≤ x ∧ x ≤ 9223372036854775807) (u : Nat) (hu : u < 18446744073709551616) :
    Calls Tryd.prog 6 #[.slice a l.length cap, .slice b m.length cap2, .int .u64 (u : Int)] w fun e w' => e = .returned (.bool true) ∧ Below w.heap.size w w' := by
  have HQ := Lib.hid hq
  have e1 : (u : Int).tmod 65 = ((u % 65 : Nat) : Int) := by rw [Int.tmod_eq_emod_of_nonneg (by omega)]; omega
  have hwd : u % 65 ≤ 64 := by omega
  generalize u % 65 = wd at *
  obtain ⟨n, hn⟩ : ∃ n, n = l.length := ⟨_, rfl⟩
  obtain ⟨k2, hk2⟩ : ∃ k, k = m.length := ⟨_, rfl⟩
  rw [← hn] at h hl ⊢
  rw [← hk2] at h2 hl2 ⊢
  have H := Lib.hid h
  have H2 := Lib.hid h2
  have HN := Lib.hid hn
  have HK := Lib.hid hk2
  have HM := Lib.hid hm
  have t1 : decide ((n : Int) > 5000) = false := decide_eq_false (by omega)
  have t2 : decide ((k2 : Int) > 5000) = false := decide_eq_false (by omega)
  clear h h2 hn hk2 hm hq
  go_enter Tryd.func6, Tryd.ntmps6
  go_wp2_with fail
  go_loopw [8, 35] (fun s i wr => ∃ k : Nat, i = .int .i64 (k : Int) ∧ k ≤ n ∧ Hid (wr.ownsRow w.heap.size 23 1 s k (u64s (smallOf wd (l.take k))) ∧ Below w.heap.size w wr)) (fun _ i _ => n - (intOf i).toNat)
  case atStart => exact ⟨0, rfl, by omega, World.ownsRow_nil _ _ _ _, Below.refl _ _⟩
  case round =>
    obtain ⟨k, rfl, hk, HR⟩ := hrel
    obtain ⟨va, vc, rfl, hvc⟩ := ownsRow_form HR.out.1
    by_cases hlt : k < n
    · have hkl : k < l.length := by rw [← HN.out]; exact hlt
      have hh := H.out.below HR.out.2
      obtain ⟨ad, rfl⟩ := hh.ptr (by omega)
      have hc : wr.cell? (ad.add k) = some (.int .u64 (l[k].toNat : Int)) := hh.cell (by simp [u64s, hkl])
      have hx := l[k].toNat_lt
      have hS := fun y hy => small_step (y := y) hkl hl hlt HR.out.1 HR.out.2 hy
      rcases Nat.lt_or_ge wd 64 with h64 | h64
      · have t3 : decide ((wd : Int) < 64) = true := decide_eq_true (by omega)
        rw [if_pos h64] at hS
        have hp := Nat.two_pow_pos wd
        have hp2 : 2 ^ wd ≤ 2 ^ 63 := Nat.pow_le_pow_right (by omega) (by omega)
        have q1 : IntKind.u64.wrap (2 ^ wd) = ((2 ^ wd : Nat) : Int) := by
          rw [show ((2 : Int) ^ wd) = ((2 ^ wd : Nat) : Int) by simp]
          exact IntWalk.u64_in _ (by omega)
        have q2 : (l[k].toNat : Int) % ((2 ^ wd : Nat) : Int) = ((l[k].toNat % 2 ^ wd : Nat) : Int) := by simp
        have hle := Nat.mod_le l[k].toNat (2 ^ wd)
        obtain ⟨v', w2, HRUN, HR2⟩ := hS (l[k].toNat % 2 ^ wd) (by rw [UInt64.toNat_ofNat']; exact (Nat.mod_eq_of_lt (by omega)).symm)
        clear hS
        generalize l[k].toNat % 2 ^ wd = y at *
        generalize 2 ^ wd = P at *
        generalize l[k].toNat = x at *
        go_wp2_with (at_builtin; refine wpList_append_run rfl _ _ 34 rfl rfl rfl (HRUN.out _) ?_)
        go_roundw
        case rel => exact ⟨k + 1, by go_num, by omega, HR2.out⟩
        case measure => simp [intOf]; omega
      · have t3 : decide ((wd : Int) < 64) = false := decide_eq_false (by omega)
        rw [if_neg (by omega)] at hS
        obtain ⟨v', w2, HRUN, HR2⟩ := hS l[k].toNat rfl
        clear hS
        generalize l[k].toNat = x at *
        go_wp2_with (at_builtin; refine wpList_append_run rfl _ _ 34 rfl rfl rfl (HRUN.out _) ?_)
        go_roundw
        case rel => exact ⟨k + 1, by go_num, by omega, HR2.out⟩
        case measure => simp [intOf]; omega
    · obtain rfl : k = n := by omega
      have hR := HR.out.1
      rw [List.take_of_length_le (by rw [← HN.out]; exact Nat.le_refl _)] at hR
      have hsl : k = (smallOf wd l).length := by rw [smallOf_len]; exact HN.out
      have HHS : Hid (Holds wr (.slice va k vc) (u64s (smallOf wd l))) := Lib.hid (Holds.of_row (base := w.heap.size) (e := 23) (by rw [u64s_len, ← hsl]; exact hR))
      have HFIT := Lib.hid (small_fit wd l hwd)
      have B0 := Lib.hid HR.out.2
      have KP := Lib.hid (Pack_main HHS.out (by omega) wd hwd (fun x hx => Lib.bitLen_le _ _ hwd (HFIT.out x hx)) HFIT.out)
      have HSL := Lib.hid hsl
      clear hR hsl HR hlt hvc
      generalize smallOf wd l = sm at *
      go_wp2_with fail
      refine KP.out.mono ?_
      rintro e w1 ⟨v1, rfl, hv1⟩
      have KU := Lib.hid (back_unpack wd k hwd HSL.out hl HFIT.out hv1.out.1)
      have B1 := Lib.hid (B0.out.trans (hv1.out.2.mono B0.out.size))
      have G1 := Lib.hid hv1.out.2
      clear hv1 KP
      go_wp2_with fail
      refine KU.out.mono ?_
      rintro e w2 ⟨v2, rfl, hv2⟩
      obtain ⟨a2, c2, rfl, hc2⟩ := ownsRow_form hv2.out.1
      have R2 := Lib.hid (show Holds w2 (.slice a2 k c2) (u64s sm) from Holds.of_row (by rw [u64s_len, ← HSL.out]; exact hv2.out.1))
      have G2 := Lib.hid (G1.out.trans (hv2.out.2.mono G1.out.size))
      have B2 := Lib.hid (B1.out.trans (hv2.out.2.mono B1.out.size))
      clear hv2 KU hc2
      have hL2 := H.out.below B2.out
      have KR := Lib.hid (Runs_any (l := l) hL2 (by rw [← HN.out]; omega))
      clear hL2
      go_wp2_with fail
      refine KR.out.mono ?_
      rintro e w3 ⟨v3, rfl, hv3⟩
      have KV := Lib.hid (back_unruns k HN.out hl hv3.out.1)
      have B3 := Lib.hid (B2.out.trans (hv3.out.2.mono B2.out.size))
      have G3 := Lib.hid hv3.out.2
      clear hv3 KR
      go_wp2_with fail
      refine KV.out.mono ?_
      rintro e w4 ⟨v4, rfl, hv4⟩
      obtain ⟨a4, c4, rfl, hc4⟩ := ownsRow_form hv4.out.1
      have R4 := Lib.hid (show Holds w4 (.slice a4 k c4) (u64s l) from Holds.of_row (by rw [u64s_len, ← HN.out]; exact hv4.out.1))
      have G4 := Lib.hid (G3.out.trans (hv4.out.2.mono G3.out.size))
      have B4 := Lib.hid (B3.out.trans (hv4.out.2.mono B3.out.size))
      clear hv4 KV hc4
      have hM4 := H2.out.below B4.out
      have KD := Lib.hid (Deltas_any (l := m) hM4 (by rw [← HK.out]; omega))
      clear hM4
      go_wp2_with fail
      refine KD.out.mono ?_
      rintro e w5 ⟨v5, rfl, hv5, hb5⟩
      have KE := Lib.hid (back_undeltas k2 HK.out hl2 HM.out hv5)
      have B5 := Lib.hid (B4.out.trans (hb5.mono B4.out.size))
      have G5 := Lib.hid hb5
      clear hv5 hb5 KD
      go_wp2_with fail
      refine KE.out.mono ?_
      rintro e w6 ⟨v6, rfl, hv6⟩
      obtain ⟨a6, c6, rfl, hc6⟩ := ownsRow_form hv6.out.1
      have R6 := Lib.hid (show Holds w6 (.slice a6 k2 c6) (i64s m) from Holds.of_row (by rw [i64s_len, ← HK.out]; exact hv6.out.1))
      have G6 := Lib.hid (G5.out.trans (hv6.out.2.mono G5.out.size))
      have B6 := Lib.hid (B5.out.trans (hv6.out.2.mono B5.out.size))
      clear hv6 KE hc6
      have KW := Lib.hid (Words_any ((R2.out.below G4.out).below G6.out) ((HHS.out.below (G2.out.trans (G4.out.mono G2.out.size))).below G6.out) HSL.out HSL.out (by rw [← HSL.out]; omega))
      go_wp2_with fail
      refine KW.out.mono ?_
      rintro e w7 ⟨rfl, hb7⟩
      have G7 := Lib.hid (G6.out.trans (hb7.mono G6.out.size))
      have B7 := Lib.hid (B6.out.trans (hb7.mono B6.out.size))
      have R7 := Lib.hid (R6.out.below hb7)
      clear hb7 KW
      have KX := Lib.hid (Words_any (R4.out.below G7.out) (H.out.below B7.out) HN.out HN.out (by rw [← HN.out]; omega))
      go_wp2_with fail
      refine KX.out.mono ?_
      rintro e w8 ⟨rfl, hb8⟩
      have B8 := Lib.hid (B7.out.trans (hb8.mono B7.out.size))
      have R8 := Lib.hid (R7.out.below hb8)
      clear hb8 KX
      have KY := Lib.hid (Ints_any R8.out (H2.out.below B8.out) HK.out HK.out (by rw [← HK.out]; omega))
      go_wp2_with fail
      refine KY.out.mono ?_
      rintro e w9 ⟨rfl, hb9⟩
      have B9 := Lib.hid (B8.out.trans (hb9.mono B8.out.size))
      clear hb9 KY
      go_wp2_with fail
      go_loop [111] (fun i => ∃ j : Nat, i = .int .i64 (j : Int) ∧ j ≤ k2) (fun i => k2 - (intOf i).toNat)
      case atStart => exact ⟨0, rfl, by omega⟩
      case round =>
        obtain ⟨j, rfl, hj⟩ := hrel
        by_cases hlt : j < k2
        · have hjl : j < m.length := by rw [← HK.out]; exact hlt
          have hh := H2.out.below B9.out
          obtain ⟨bd, rfl⟩ := hh.ptr (by omega)
          have hc : w9.cell? (bd.add j) = some (.int .i64 m[j]) := hh.cell (by simp [i64s, hjl])
          have hx := HM.out m[j] (List.getElem_mem _)
          have hz := zigU_eq hx.1 hx.2
          have hzz := zag_zig hx.1 hx.2
          have KZ := Lib.hid (Zig_any m[j] w9 hx.1 hx.2)
          have KG := Lib.hid (Zag_any (zigU m[j]) w9 hz.2)
          rw [hz.1] at KZ
          rw [hzz] at KG
          clear hh hz hzz
          generalize zigU m[j] = z at *
          generalize m[j] = x at *
          have t9 : (x != x) = false := by simp
          go_wp2_with fail
          refine KZ.out.mono ?_
          rintro e w10 ⟨rfl, rfl⟩
          go_wp2_with fail
          refine KG.out.mono ?_
          rintro e w10 ⟨rfl, rfl⟩
          go_wp2_with fail
          go_round
          case rel => exact ⟨j + 1, by go_num, by omega⟩
          case measure => simp [intOf]; omega
        · go_wp2_with fail
          refine (lives_any (HQ.out.below B9.out HQ.out.1)).mono ?_
          rintro e w10 ⟨rfl, hb10⟩
          have B10 := Lib.hid (B9.out.trans (hb10.mono B9.out.size))
          clear hb10
          go_wp2_with fail
          go_ret
          exact ⟨rfl, B10.out⟩
/-- the walk, at any arguments -/
theorem back_walk {w : World} (hq : Quads w) {a b : Option Addr} {len cap len2 cap2 : Nat} {l : List UInt64} {m : List Int} (hll : l.length = len) (hml : m.length = len2) (h : Holds w (.slice a len cap) (u64s l)) (h2 : Holds w (.slice b len2 cap2) (i64s m))
    (hm : ∀ x ∈ m, -9223372036854775808 ≤ x ∧ x < 9223372036854775808) (u : Nat) (hu : u < 18446744073709551616) :
    Calls Tryd.prog 6 #[.slice a len cap, .slice b len2 cap2, .int .u64 (u : Int)] w fun e w' => e = .returned (.bool true) ∧ Below w.heap.size w w' := by
  by_cases h5 : 5000 < len ∨ 5000 < len2
  · exact back_long hq a b len cap len2 cap2 u h5
  · subst hll hml
    exact back_main hq h h2 (by omega) (by omega) (fun x hx => by have := hm x hx; omega) u hu
end Go.Proofs.YtpecajaoknnepaaDoor
