/- Contracts of the reference's Divide and MulDiv, of field.MulDiv, and of both Hashes. Conditions: none (each a uint64). -/
import Derived.Test.YtadlfmdliinnnaaFieldE
set_option maxRecDepth 100000
namespace Go.Proofs.Ytadlfmdliinnnaa
open Go.RowKit

theorem ret_three {k : IntKind} {a b c d : Int} {e : Bool} (h : a = b) (h2 : c = d) : Ending.returned (.tuple #[.int k a, .int k c, .bool e]) = .returned (.tuple #[.int k b, .int k d, .bool e]) := by rw [h, h2]

set_option maxHeartbeats 1600000 in
theorem divide_no (hi lo c : Nat) (w : World) (h : c ≤ hi) : Calls Try.prog 68 #[.int .u64 (hi : Int), .int .u64 (lo : Int), .int .u64 (c : Int)] w fun e w' => e = .returned (.tuple #[.int .u64 0, .int .u64 0, .bool false]) ∧ w = w' := by
  by_cases hc : c = 0
  · subst hc
    have t0 : (((0 : Nat) : Int) == 0) = true := rfl
    clear h
    go_enter Try.func68, Try.ntmps68
    go_wp2_with fail
    go_ret3
    exact ⟨rfl, rfl⟩
  · have t0 : ((c : Int) == 0) = false := by rw [beq_eq_false_iff_ne]; omega
    have t1 : decide ((c : Int) ≤ (hi : Int)) = true := decide_eq_true (by omega)
    go_enter Try.func68, Try.ntmps68
    go_wp2_with fail
    go_ret3
    exact ⟨rfl, rfl⟩

set_option maxHeartbeats 1600000 in
theorem divide_yes (hi lo c : Nat) (w : World) (h : hi < c) (h1 : lo < 18446744073709551616) (h2 : c < 18446744073709551616) : Calls Try.prog 68 #[.int .u64 (hi : Int), .int .u64 (lo : Int), .int .u64 (c : Int)] w fun e w' => e = .returned (.tuple #[.int .u64 (((hi * 18446744073709551616 + lo) / c : Nat) : Int), .int .u64 (((hi * 18446744073709551616 + lo) % c : Nat) : Int), .bool true]) ∧ w = w' := by
  have t0 : ((c : Int) == 0) = false := by rw [beq_eq_false_iff_ne]; omega
  have t1 : decide ((c : Int) ≤ (hi : Int)) = false := decide_eq_false (by omega)
  obtain ⟨N, hN⟩ : ∃ n : Nat, n = hi * 18446744073709551616 + lo := ⟨_, rfl⟩
  have hN2 : N / 2 ^ 64 = hi := by rw [hN]; omega
  have hN3 : N < c * 18446744073709551616 := by omega
  have HB := Lib.hid (fun m hm => bit_next N hi lo m hN hm)
  have HS := Lib.hid (fun m => div_small N c m hN3)
  have HN2 := Lib.hid hN2
  rw [← hN]
  clear hN hN2 hN3
  go_enter Try.func68, Try.ntmps68
  go_wp2_with fail
  go_loop [9, 10, 11] (fun r q i => ∃ (r' q' j : Nat), r = .int .u64 (r' : Int) ∧ q = .int .u64 (q' : Int) ∧ ((j = 0 ∧ i = .int .i64 (-1)) ∨ ∃ m : Nat, m < 64 ∧ j = m + 1 ∧ i = .int .i64 (m : Int)) ∧ Hid (N / 2 ^ j / c = q' ∧ N / 2 ^ j % c = r')) (fun _ _ i => (intOf i + 1).toNat)
  case atStart => exact ⟨hi, 0, 64, rfl, rfl, .inr ⟨63, by omega, rfl, rfl⟩, Lib.hid ⟨by rw [HN2.out]; exact Nat.div_eq_of_lt h, by rw [HN2.out]; exact Nat.mod_eq_of_lt h⟩⟩
  case round =>
    obtain ⟨r, q, j, rfl, rfl, hj, HQ⟩ := hrel
    rcases hj with ⟨rfl, rfl⟩ | ⟨m, hm, rfl, rfl⟩
    · have A1 := Lib.hid (show N / c = q by have := HQ.out.1; rwa [Nat.pow_zero, Nat.div_one] at this)
      have A2 := Lib.hid (show N % c = r by have := HQ.out.2; rwa [Nat.pow_zero, Nat.div_one] at this)
      clear HQ
      go_wp2_with fail
      go_ret3
      exact ⟨ret_three (by rw [← A1.out]; simp) (by rw [← A2.out]; simp), rfl⟩
    · have hq : q < 9223372036854775808 := by rw [← HQ.out.1]; exact HS.out m
      have hr : r < c := by rw [← HQ.out.2]; exact Nat.mod_lt _ (by omega)
      obtain ⟨L, hL⟩ : ∃ n : Nat, n = lo / 2 ^ m := ⟨_, rfl⟩
      obtain ⟨b, hb⟩ : ∃ n : Nat, n = L % 2 := ⟨_, rfl⟩
      have hb2 : b < 2 := by omega
      have hL2 : L < 18446744073709551616 := by rw [hL]; exact Nat.lt_of_le_of_lt (Nat.div_le_self _ _) h1
      have HM := HB.out m hm
      rw [← hL, ← hb] at HM
      have hd := div_step q r c b hr hb2 _ HQ.out.1 HQ.out.2
      rw [← HM] at hd
      obtain ⟨S, hS⟩ : ∃ n : Nat, n = r * 2 % 18446744073709551616 := ⟨_, rfl⟩
      have e1 : (lo : Int) / 2 ^ m = (L : Int) := by rw [hL]; simp
      have e2 : bits .and .u64 (L : Int) 1 = (b : Int) := by rw [and1_u64 L hL2, hb]
      have e3 : IntKind.u64.wrap ((r : Int) * 2) = (S : Int) := by rw [IntKind.wrap_u64]; omega
      have e4 : bits .or .u64 (S : Int) (b : Int) = (S : Int) + (b : Int) := or_add_u64 1 2 _ _ (by decide) (by omega) (by omega) (by omega) (by omega) (by omega)
      have e5 : bits .or .u64 ((q : Int) * 2) 1 = (q : Int) * 2 + 1 := or_add_u64 1 2 _ _ (by decide) (by omega) (by omega) (by omega) (by omega) (by omega)
      clear HM hL hb HQ
      by_cases hover : 9223372036854775808 ≤ r
      · have t2 : ((r : Int) / 9223372036854775808 == 1) = true := by rw [beq_iff_eq]; omega
        have e6 : IntKind.u64.wrap ((S : Int) + (b : Int) - (c : Int)) = ((2 * r + b - c : Nat) : Int) := by rw [IntKind.wrap_u64]; omega
        have HD := Lib.hid (hd.1 (by omega))
        clear hd hS
        go_wp2_with fail
        go_round
        case rel => exact ⟨2 * r + b - c, 2 * q + 1, m, rfl, by go_num, by rcases m with _ | m; exact .inl ⟨rfl, rfl⟩; exact .inr ⟨m, by omega, rfl, by go_num⟩, HD⟩
        case measure => first | (simp [intOf]; done) | (simp [intOf]; omega)
      · have t2 : ((r : Int) / 9223372036854775808 == 1) = false := by rw [beq_eq_false_iff_ne]; omega
        have hS2 : S = r * 2 := by omega
        have hS3 : S + b < 18446744073709551616 := by omega
        by_cases hge : c ≤ 2 * r + b
        · have t3 : decide ((c : Int) ≤ (S : Int) + (b : Int)) = true := decide_eq_true (by omega)
          have HD := Lib.hid (hd.1 hge)
          have hle : c ≤ S + b := by omega
          have HE := Lib.hid (show S + b - c = 2 * r + b - c by omega)
          clear hd hS hS2 hge
          go_wp2_with fail
          go_round
          case rel => exact ⟨2 * r + b - c, 2 * q + 1, m, (by rw [← HE.out]; exact ret_val (by omega)), by go_num, by rcases m with _ | m; exact .inl ⟨rfl, rfl⟩; exact .inr ⟨m, by omega, rfl, by go_num⟩, HD⟩
          case measure => first | (simp [intOf]; done) | (simp [intOf]; omega)
        · have t3 : decide ((c : Int) ≤ (S : Int) + (b : Int)) = false := decide_eq_false (by omega)
          have HD := Lib.hid (hd.2 (by omega))
          have HE := Lib.hid (show S + b = 2 * r + b by omega)
          clear hd hS hS2 hge
          go_wp2_with fail
          go_round
          case rel => exact ⟨2 * r + b, 2 * q, m, (by rw [← HE.out]; exact ret_val (by omega)), by go_num, by rcases m with _ | m; exact .inl ⟨rfl, rfl⟩; exact .inr ⟨m, by omega, rfl, by go_num⟩, HD⟩
          case measure => first | (simp [intOf]; done) | (simp [intOf]; omega)

def mdQ (a b c : Nat) : Nat := if c ≤ a * b / 18446744073709551616 then 0 else a * b / c
def mdB (a b c : Nat) : Bool := decide (a * b / 18446744073709551616 < c)
theorem md_words (a b : Nat) : a * b / 18446744073709551616 * 18446744073709551616 + a * b % 18446744073709551616 = a * b := by omega

set_option maxHeartbeats 1600000 in
theorem mulDiv_any (a b c : Nat) (w : World) (h1 : a < 18446744073709551616) (h2 : b < 18446744073709551616) (h3 : c < 18446744073709551616) : Calls Try.prog 58 #[.int .u64 (a : Int), .int .u64 (b : Int), .int .u64 (c : Int)] w fun e w' => e = .returned (.tuple #[.int .u64 (mdQ a b c : Int), .bool (mdB a b c)]) ∧ ∃ n, w' = w.drewN n := by
  have hW := md_words a b
  have hQ : mdQ a b c = if c ≤ a * b / 18446744073709551616 then 0 else a * b / c := rfl
  have hB : mdB a b c = decide (a * b / 18446744073709551616 < c) := rfl
  have hl : a * b % 18446744073709551616 < 18446744073709551616 := Nat.mod_lt _ (by decide)
  have HM := Try.bits_Mul64 a b h1 h2
  obtain ⟨H, hH⟩ : ∃ n : Nat, n = a * b / 18446744073709551616 := ⟨_, rfl⟩
  obtain ⟨L, hL⟩ : ∃ n : Nat, n = a * b % 18446744073709551616 := ⟨_, rfl⟩
  rw [← hH, ← hL] at HM hW
  rw [← hH] at hQ hB
  rw [← hL] at hl
  rw [← hW] at hQ
  by_cases hc : c ≤ H
  · have t0 : decide ((c : Int) ≤ (H : Int)) = true := decide_eq_true (by omega)
    rw [hQ, hB, if_pos hc, decide_eq_false (by omega)]
    clear hQ hB hW hH hL
    go_enter Try.func58, Try.ntmps58
    go_wp2_with fail
    refine (HM _).mono ?_
    rintro e w' ⟨rfl, rfl⟩
    clear HM
    go_wp2_with fail
    go_ret2
    exact ⟨rfl, 0, (World.drewN_zero _).symm⟩
  · have t0 : decide ((c : Int) ≤ (H : Int)) = false := decide_eq_false (by omega)
    rw [hQ, hB, if_neg hc, decide_eq_true (by omega)]
    have HD := div_any H L c
    obtain ⟨A, hA⟩ : ∃ n : Nat, n = (H * 18446744073709551616 + L) / c := ⟨_, rfl⟩
    obtain ⟨B, hB'⟩ : ∃ n : Nat, n = (H * 18446744073709551616 + L) % c := ⟨_, rfl⟩
    rw [← hA]
    rw [← hA, ← hB'] at HD
    clear hA hB'
    clear hQ hB hW hH hL
    go_enter Try.func58, Try.ntmps58
    go_wp2_with fail
    refine (HM _).mono ?_
    rintro e w' ⟨rfl, rfl⟩
    clear HM
    go_wp2_with fail
    refine (HD _ hl h3 (by omega)).mono ?_
    rintro e w1 ⟨rfl, n, rfl⟩
    clear HD
    go_wp2_with fail
    go_ret2
    exact ⟨rfl, n, rfl⟩
set_option maxHeartbeats 1600000 in
theorem refMulDiv_any (a b c : Nat) (w : World) (h1 : a < 18446744073709551616) (h2 : b < 18446744073709551616) (h3 : c < 18446744073709551616) : Calls Try.prog 55 #[.int .u64 (a : Int), .int .u64 (b : Int), .int .u64 (c : Int)] w fun e w' => e = .returned (.tuple #[.int .u64 (mdQ a b c : Int), .bool (mdB a b c)]) ∧ w = w' := by
  have hW := md_words a b
  have hQ : mdQ a b c = if c ≤ a * b / 18446744073709551616 then 0 else a * b / c := rfl
  have hB : mdB a b c = decide (a * b / 18446744073709551616 < c) := rfl
  have hl : a * b % 18446744073709551616 < 18446744073709551616 := Nat.mod_lt _ (by decide)
  have HM := times_any a b
  obtain ⟨H, hH⟩ : ∃ n : Nat, n = a * b / 18446744073709551616 := ⟨_, rfl⟩
  obtain ⟨L, hL⟩ : ∃ n : Nat, n = a * b % 18446744073709551616 := ⟨_, rfl⟩
  rw [← hH, ← hL] at HM hW
  rw [← hH] at hQ hB
  rw [← hL] at hl
  rw [← hW] at hQ
  by_cases hc : c ≤ H
  · rw [hQ, hB, if_pos hc, decide_eq_false (by omega)]
    have HD := divide_no H L c
    clear hQ hB hW hH hL
    go_enter Try.func55, Try.ntmps55
    go_wp2_with fail
    refine (HM _ h1 h2).mono ?_
    rintro e w' ⟨rfl, rfl⟩
    clear HM
    go_wp2_with fail
    refine (HD _ hc).mono ?_
    rintro e w1 ⟨rfl, rfl⟩
    clear HD
    go_wp2_with fail
    go_ret2
    exact ⟨rfl, rfl⟩
  · rw [hQ, hB, if_neg hc, decide_eq_true (by omega)]
    have HD := divide_yes H L c
    obtain ⟨A, hA⟩ : ∃ n : Nat, n = (H * 18446744073709551616 + L) / c := ⟨_, rfl⟩
    obtain ⟨B, hB'⟩ : ∃ n : Nat, n = (H * 18446744073709551616 + L) % c := ⟨_, rfl⟩
    rw [← hA]
    rw [← hA, ← hB'] at HD
    clear hA hB'
    clear hQ hB hW hH hL
    go_enter Try.func55, Try.ntmps55
    go_wp2_with fail
    refine (HM _ h1 h2).mono ?_
    rintro e w' ⟨rfl, rfl⟩
    clear HM
    go_wp2_with fail
    refine (HD _ (by omega) hl h3).mono ?_
    rintro e w1 ⟨rfl, rfl⟩
    clear HD
    go_wp2_with fail
    go_ret2
    exact ⟨rfl, rfl⟩
end Go.Proofs.Ytadlfmdliinnnaa
