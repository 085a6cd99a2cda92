/- The walk of CodecWidths: so many numbers of so many bits have just the bytes that they need. Conditions: the table of Sum reads as the program's text lays it. -/
import Derived.Test.YtemeimcncddkjaaDoorCodecLives
import Derived.Test.YtemeimcncddkjaaDoorCodecUnpack
import Derived.Test.YtemeimcncddkjaaDoorPackRange
set_option maxRecDepth 100000
namespace Go.Proofs.YtemeimcncddkjaaDoor
open Go.RowKit Go.Maps Go.Sort

/-- what Unpack says of one number more than were packed -/
theorem unpack_more {w : World} {v : Value} {l : List UInt64} (wd : Nat) (hw : wd ≤ 64) (hl : l.length ≤ 5000) (hfit : ∀ u ∈ l, u.toNat < 2 ^ wd) {B : Nat}
    (h : w.ownsRow B 5 1 v ((wd * l.length + 7) / 8) (u8s (bytesN ((wd * l.length + 7) / 8) (bigN wd (nats l))))) :
    Calls Tryd.prog 24 #[.int .i64 (wd : Int), .int .i64 ((l.length : Int) + 1), v] w fun e w' => ∃ v' f, e = .returned (.tuple #[v', .int .i64 f]) ∧ Hid ((f = 8 ∨ (wd * l.length + 7) / 8 = (wd * l.length + wd + 7) / 8) ∧ (f == 8 || ((wd * l.length + 7) / 8 : Nat) == (wd * l.length + wd + 7) / 8) = true ∧ Below w.heap.size w w') := by
  obtain ⟨a, c, rfl, _⟩ := ownsRow_form h
  have e : ((l.length : Int) + 1) = ((l.length + 1 : Nat) : Int) := by simp
  rw [e]
  have hm := Nat.mul_succ wd l.length
  by_cases hs : (wd * l.length + 7) / 8 = (wd * l.length + wd + 7) / 8
  · have hlen := bytesN_len ((wd * l.length + 7) / 8) (bigN wd (nats l))
    have hh : Holds w (.slice a (bytesN ((wd * l.length + 7) / 8) (bigN wd (nats l))).length c) (u8s (bytesN ((wd * l.length + 7) / 8) (bigN wd (nats l)))) := by
      refine Holds.of_row (base := B) (e := 5) ?_
      rw [u8s_len, hlen]
      exact h
    have hbig := bigN_lt wd (nats l) (fun u hu => by obtain ⟨x, hx, rfl⟩ := List.mem_map.1 hu; exact hfit x hx)
    have hnl : (nats l).length = l.length := by simp [nats]
    rw [hnl] at hbig
    have hpow : 2 ^ (wd * l.length) ≤ 256 ^ ((wd * l.length + 7) / 8) := by
      rw [pow256]
      exact Nat.pow_le_pow_right (by omega) (by omega)
    have hle : 2 ^ (wd * l.length) ≤ 2 ^ (wd * (l.length + 1)) := Nat.pow_le_pow_right (by omega) (Nat.mul_le_mul_left _ (by omega))
    have hU := Unpack_ok hh wd (l.length + 1) hw (by omega) (by rw [hlen, hs]; congr 1) (by rw [numB_bytes _ _ (Nat.lt_of_lt_of_le hbig hpow)]; exact Nat.lt_of_lt_of_le hbig hle)
    rw [hlen] at hU
    refine hU.mono ?_
    rintro e' w' ⟨v, rfl, hv⟩
    exact ⟨v, 0, rfl, Lib.hid ⟨.inr hs, by simp [hs], hv.out.2⟩⟩
  · refine (Unpack_size wd (l.length + 1) hw (by omega) (by rw [hm]; exact hs)).mono ?_
    rintro e' w' ⟨rfl, hv⟩
    exact ⟨_, 8, rfl, Lib.hid ⟨.inl rfl, by simp, hv⟩⟩

theorem widths_long {w : World} (hq : Quads w) (a : Option Addr) (len cap u : Nat) (hu : u < 18446744073709551616) (h : 5000 < len) :
    Calls Tryd.prog 9 #[.slice a len cap, .int .u64 (u : Int)] w fun e w' => e = .returned (.bool true) ∧ Below w.heap.size w w' := by
  have HQ := Lib.hid hq
  clear hq
  have e1 : (u : Int).tmod 65 = ((u % 65 : Nat) : Int) := by rw [Int.tmod_eq_emod_of_nonneg (by omega)]; omega
  have hwd : u % 65 ≤ 64 := by omega
  generalize u % 65 = wd at *
  go_enter Tryd.func9, Tryd.ntmps9
  go_wp2_with fail
  refine (lives_any HQ.out).mono ?_
  rintro e w1 ⟨rfl, hb⟩
  have HB := Lib.hid hb
  clear hb
  go_wp2_with fail
  go_ret
  exact ⟨rfl, HB.out⟩

set_option maxHeartbeats 1600000 in
theorem widths_fit {w : World} (hq : Quads w) {a : Option Addr} {cap : Nat} {l : List UInt64} (h : Holds w (.slice a l.length cap) (u64s l)) (hl : l.length ≤ 5000) (u : Nat) (hu : u < 18446744073709551616) (hfit : ∀ x ∈ l, x.toNat < 2 ^ (u % 65)) :
    Calls Tryd.prog 9 #[.slice a l.length cap, .int .u64 (u : Int)] w fun e w' => e = .returned (.bool true) ∧ Below w.heap.size w w' := by
  have HQ := Lib.hid hq
  have e1 : (u : Int).tmod 65 = ((u % 65 : Nat) : Int) := by rw [Int.tmod_eq_emod_of_nonneg (by omega)]; omega
  have hwd : u % 65 ≤ 64 := by omega
  generalize u % 65 = wd at *
  have hP := Pack_main h (by omega) wd hwd (fun x hx => Lib.bitLen_le _ _ hwd (hfit x hx)) hfit
  have hU := fun (W : World) (v : Value) (hv : W.ownsRow w.heap.size 5 1 v ((wd * l.length + 7) / 8) (u8s (bytesN ((wd * l.length + 7) / 8) (bigN wd (nats l))))) => unpack_more wd hwd hl hfit hv
  obtain ⟨n, hn⟩ : ∃ n, n = l.length := ⟨_, rfl⟩
  have hle : wd * n ≤ 64 * 5000 := Nat.mul_le_mul hwd (by omega)
  have e2 : (wd : Int) * (n : Int) = ((wd * n : Nat) : Int) := by simp
  rw [← hn] at hP hU hl h ⊢
  generalize wd * n = tot at *
  have HP := Lib.hid hP
  have HU := Lib.hid hU
  have H := Lib.hid h
  have HN := Lib.hid hn
  have HF := Lib.hid hfit
  clear hP hU h hn hfit hq
  go_enter Tryd.func9, Tryd.ntmps9
  go_wp2_with fail
  refine HP.out.mono ?_
  rintro e w1 ⟨v, rfl, hv⟩
  obtain ⟨vb, vc, rfl, hvc, _⟩ := ownsRow_form hv.out.1
  generalize hm : (tot + 7) / 8 = m at *
  have HM := Lib.hid hm
  have q1 : ((tot : Int) + 7) / 8 = (m : Int) := by omega
  clear hm
  go_wp2_with fail
  go_loop [8, 28] (fun f i => ∃ k : Nat, f = .bool true ∧ i = .int .i64 k ∧ k ≤ n) (fun _ i => n - (intOf i).toNat)
  case atStart => exact ⟨0, rfl, rfl, by omega⟩
  case round =>
    obtain ⟨k, rfl, rfl, hk⟩ := hrel
    by_cases hlt : k < n
    · have hkl : k < l.length := by rw [← HN.out]; exact hlt
      have hh := H.out.below hv.out.2
      obtain ⟨ad, rfl⟩ := hh.ptr (by omega)
      have hc : w1.cell? (ad.add k) = some (.int .u64 (l[k].toNat : Int)) := hh.cell (by simp [u64s, hkl])
      have hx := l[k].toNat_lt
      have hf := HF.out l[k] (List.getElem_mem _)
      clear hh
      generalize l[k].toNat = x at *
      rcases Nat.lt_or_ge wd 64 with h64 | h64
      · have t1 : ((wd : Int) == 64) = false := by rw [beq_eq_false_iff_ne]; omega
        have t2 : (x : Int) / 2 ^ wd = 0 := by
          have e : (2 : Int) ^ wd = ((2 ^ wd : Nat) : Int) := by simp
          rw [e, ← Int.natCast_ediv, Nat.div_eq_of_lt hf]
          rfl
        clear hf
        go_wp2_with fail
        go_round
        case rel => exact ⟨k + 1, rfl, by go_num, by omega⟩
        case measure => simp [intOf]; omega
      · obtain rfl : wd = 64 := by omega
        clear hf
        go_wp2_with fail
        go_round
        case rel => exact ⟨k + 1, rfl, by go_num, by omega⟩
        case measure => simp [intOf]; omega
    · have B1 := Lib.hid hv.out.2
      have HU2 := Lib.hid (HU.out w1 _ hv.out.1)
      clear hv
      go_wp2_with fail
      refine HU2.out.mono ?_
      rintro e w2 ⟨v2, f, rfl, hf⟩
      have B2 := Lib.hid (B1.out.trans (hf.out.2.2.mono B1.out.size))
      have hf1 := hf.out.1
      clear hf
      by_cases hf8 : f = 8
      · subst hf8
        clear hf1
        go_wp2_with fail
        refine (lives_any (HQ.out.below B2.out HQ.out.1)).mono ?_
        rintro e w3 ⟨rfl, hb3⟩
        have B3 := Lib.hid (B2.out.trans (hb3.mono B2.out.size))
        clear hb3
        go_wp2_with fail
        go_ret
        exact ⟨rfl, B3.out⟩
      · have hs : m = (tot + wd + 7) / 8 := by rcases hf1 with h | h <;> first | exact absurd h hf8 | exact h
        have q2 : ((tot : Int) + (wd : Int) + 7) / 8 = (m : Int) := by omega
        have t8 : (f == 8) = false := by rw [beq_eq_false_iff_ne]; exact hf8
        clear hs hf1 hf8
        go_wp2_with fail
        refine (lives_any (HQ.out.below B2.out HQ.out.1)).mono ?_
        rintro e w3 ⟨rfl, hb3⟩
        have B3 := Lib.hid (B2.out.trans (hb3.mono B2.out.size))
        clear hb3
        go_wp2_with fail
        go_ret
        exact ⟨rfl, B3.out⟩

set_option maxHeartbeats 1600000 in
theorem widths_bad {w : World} (hq : Quads w) {a : Option Addr} {cap : Nat} {l : List UInt64} (h : Holds w (.slice a l.length cap) (u64s l)) (hl : l.length ≤ 5000) (u : Nat) (hu : u < 18446744073709551616) (hbad : ∃ x ∈ l, ¬ x.toNat < 2 ^ (u % 65)) :
    Calls Tryd.prog 9 #[.slice a l.length cap, .int .u64 (u : Int)] w fun e w' => e = .returned (.bool true) ∧ Below w.heap.size w w' := by
  have HQ := Lib.hid hq
  have e1 : (u : Int).tmod 65 = ((u % 65 : Nat) : Int) := by rw [Int.tmod_eq_emod_of_nonneg (by omega)]; omega
  have hwd : u % 65 ≤ 64 := by omega
  generalize u % 65 = wd at *
  have hP := Pack_range h (by omega) wd hwd hbad
  obtain ⟨n, hn⟩ : ∃ n, n = l.length := ⟨_, rfl⟩
  rw [← hn] at hP hl h ⊢
  have HP := Lib.hid hP
  have H := Lib.hid h
  have HN := Lib.hid hn
  have HF := Lib.hid hbad
  clear hP h hn hbad hq
  go_enter Tryd.func9, Tryd.ntmps9
  go_wp2_with fail
  refine HP.out.mono ?_
  rintro e w1 ⟨rfl, hv⟩
  go_wp2_with fail
  go_loop [8, 28] (fun f i => ∃ (k : Nat) (b : Bool), f = .bool b ∧ i = .int .i64 k ∧ k ≤ n ∧ Hid (b = true → ∀ x ∈ l.take k, x.toNat < 2 ^ wd)) (fun _ i => n - (intOf i).toNat)
  case atStart => exact ⟨0, true, rfl, rfl, by omega, Lib.hid (by simp)⟩
  case round =>
    obtain ⟨k, b, rfl, rfl, hk, HB⟩ := hrel
    by_cases hlt : k < n
    · have hkl : k < l.length := by rw [← HN.out]; exact hlt
      have hh := H.out.below hv
      obtain ⟨ad, rfl⟩ := hh.ptr (by omega)
      have hc : w1.cell? (ad.add k) = some (.int .u64 (l[k].toNat : Int)) := hh.cell (by simp [u64s, hkl])
      have hx := l[k].toNat_lt
      have HS : Hid (b = true → l[k].toNat < 2 ^ wd → ∀ u ∈ l.take (k + 1), u.toNat < 2 ^ wd) := Lib.hid fun h1 h u hu => by
        rw [List.take_succ_eq_append_getElem hkl, List.mem_append] at hu
        rcases hu with hu | hu
        · exact HB.out h1 u hu
        · obtain rfl := List.mem_singleton.1 hu
          exact h
      clear hh
      generalize l[k].toNat = x at *
      cases b with
      | false =>
        go_wp2_with fail
        go_round
        case rel => exact ⟨k + 1, false, rfl, by go_num, by omega, Lib.hid (by simp)⟩
        case measure => simp [intOf]; omega
      | true =>
        rcases Nat.lt_or_ge wd 64 with h64 | h64
        · have t1 : ((wd : Int) == 64) = false := by rw [beq_eq_false_iff_ne]; omega
          have hd : Hid ((decide (x / 2 ^ wd = 0)) = true → x < 2 ^ wd) := Lib.hid fun h => by
            have := of_decide_eq_true h
            exact (Nat.div_eq_zero_iff.1 this).resolve_left (by have := Nat.two_pow_pos wd; omega)
          have t2 : ((x : Int) / 2 ^ wd == 0) = decide (x / 2 ^ wd = 0) := by
            have e : (2 : Int) ^ wd = ((2 ^ wd : Nat) : Int) := by simp
            rw [e, ← Int.natCast_ediv]
            generalize x / 2 ^ wd = q
            rw [Bool.eq_iff_iff]
            simp
          generalize decide (x / 2 ^ wd = 0) = bb at *
          have HS2 : Hid (bb = true → ∀ u ∈ l.take (k + 1), u.toNat < 2 ^ wd) := Lib.hid fun h => HS.out rfl (hd.out h)
          go_wp2_with fail
          go_round
          case rel => exact ⟨k + 1, bb, rfl, by go_num, by omega, HS2⟩
          case measure => simp [intOf]; omega
        · obtain rfl : wd = 64 := by omega
          go_wp2_with fail
          go_round
          case rel => exact ⟨k + 1, true, rfl, by go_num, by omega, Lib.hid fun _ => HS.out rfl (by omega)⟩
          case measure => simp [intOf]; omega
    · have B1 := Lib.hid hv
      obtain rfl : b = false := by
        cases b with
        | false => rfl
        | true =>
          obtain ⟨u, hu, hb⟩ := HF.out
          refine absurd (HB.out rfl u ?_) hb
          rw [List.take_of_length_le (by rw [← HN.out]; omega)]
          exact hu
      clear hv
      go_wp2_with fail
      refine (lives_any (HQ.out.below B1.out HQ.out.1)).mono ?_
      rintro e w3 ⟨rfl, hb3⟩
      have B3 := Lib.hid (B1.out.trans (hb3.mono B1.out.size))
      clear hb3
      go_wp2_with fail
      go_ret
      exact ⟨rfl, B3.out⟩
end Go.Proofs.YtemeimcncddkjaaDoor
