/- The texts Div64 WideO Digs WideP, one behind the other; each one's own comment says what it holds. -/
import Derived.Test.YtbijpjoljljlpaaGreatDoorKnuth
import Derived.Test.YtbijpjoljljlpaaGreatDoorOrs
import Derived.Test.YtbijpjoljljlpaaGreatDoorShelf
import Derived.Lib.ItoaNum
import Derived.Deep.CutBlock
import Derived.Deep.CutRange
import Derived.Test.YtbijpjoljljlpaaGreatDoorWideL
import Derived.Test.YtbijpjoljljlpaaGreatDoorWideM
import Derived.Test.YtbijpjoljljlpaaGreatDoorGen
/- Contract of math/bits.Div64. Conditions: the high word is less than the divisor. -/
set_option maxRecDepth 100000
namespace Go.Proofs.YtbijpjoljljlpaaGreatDoor
open Go.RowKit

theorem ret_val {k : IntKind} {a b : Int} (h : a = b) : Value.int k a = Value.int k b := by rw [h]
theorem ret_two {k : IntKind} {a b c d : Int} (h : a = b) (h2 : c = d) : Ending.returned (.tuple #[.int k a, .int k c]) = .returned (.tuple #[.int k b, .int k d]) := by rw [h, h2]
theorem shift_of (y : Nat) (h0 : 0 < y) (h1 : y < 18446744073709551616) : ∃ s : Nat, s ≤ 63 ∧ (64 - (Lib.bitLen y : Int)) = (s : Int) ∧ 9223372036854775808 ≤ y * 2 ^ s ∧ y * 2 ^ s < 18446744073709551616 := by
  obtain ⟨a, b, c⟩ := Lib.bitLenAux_bounds 64 y h1 (by omega)
  have hl : Lib.bitLen y ≤ 64 := Lib.bitLen_le y 64 (Nat.le_refl _) h1
  have e : Lib.bitLenAux 64 y = Lib.bitLen y := rfl
  rw [e] at a b c
  generalize Lib.bitLen y = n at a b c hl
  refine ⟨64 - n, by omega, by omega, ?_, ?_⟩
  · have h2 : 2 ^ (n - 1) * 2 ^ (64 - n) ≤ y * 2 ^ (64 - n) := Nat.mul_le_mul_right _ b
    rw [← Nat.pow_add, show n - 1 + (64 - n) = 63 by omega] at h2
    omega
  · have h2 : y * 2 ^ (64 - n) < 2 ^ n * 2 ^ (64 - n) := Nat.mul_lt_mul_of_pos_right c (Nat.two_pow_pos _)
    rw [← Nat.pow_add, show n + (64 - n) = 64 by omega] at h2
    omega

set_option maxHeartbeats 3200000 in
theorem div_zero (lo y : Nat) (w : World) (h1 : lo < 18446744073709551616) (h2 : y < 18446744073709551616) (h3 : 0 < y) : Calls Tryz.prog 148 #[.int .u64 0, .int .u64 (lo : Int), .int .u64 (y : Int)] w fun e w' => e = .returned (.tuple #[.int .u64 ((lo / y : Nat) : Int), .int .u64 ((lo % y : Nat) : Int)]) ∧ ∃ n, w' = w.drewN n := by
  have t0 : ((y : Int) == 0) = false := by rw [beq_eq_false_iff_ne]; omega
  have t1 : decide ((y : Int) ≤ 0) = false := decide_eq_false (by omega)
  go_enter Tryz.func148, Tryz.ntmps148
  go_wp2_with fail
  go_quiet (fail)
  go_wp2_with fail
  go_ret2
  refine ⟨?_, _, rfl⟩
  rw [IntKind.wrap_u64]
  have hq : lo / y < 18446744073709551616 := Nat.lt_of_le_of_lt (Nat.div_le_self _ _) h1
  have e : (lo : Int) / (y : Int) = ((lo / y : Nat) : Int) := (Int.natCast_ediv _ _).symm
  have e2 : ((lo / y : Nat) : Int) % 18446744073709551616 = ((lo / y : Nat) : Int) := by generalize lo / y = q at hq ⊢; omega
  rw [e, e2, Int.natCast_emod]
  rfl
set_option maxHeartbeats 3200000 in
theorem div_main (hi lo y : Nat) (w : World) (h0 : 0 < hi) (h1 : lo < 18446744073709551616) (h2 : y < 18446744073709551616) (h3 : hi < y) : Calls Tryz.prog 148 #[.int .u64 (hi : Int), .int .u64 (lo : Int), .int .u64 (y : Int)] w fun e w' => e = .returned (.tuple #[.int .u64 (((hi * 18446744073709551616 + lo) / y : Nat) : Int), .int .u64 (((hi * 18446744073709551616 + lo) % y : Nat) : Int)]) ∧ w = w' := by
  have t0 : ((y : Int) == 0) = false := by rw [beq_eq_false_iff_ne]; omega
  have t1 : decide ((y : Int) ≤ (hi : Int)) = false := decide_eq_false (by omega)
  have t2 : ((hi : Int) == 0) = false := by rw [beq_eq_false_iff_ne]; omega
  obtain ⟨s, hs, HS, hn1, hn2⟩ := shift_of y (by omega) h2
  have HS := Lib.hid HS
  go_enter Tryz.func148, Tryz.ntmps148
  go_wp2_with fail
  refine (Tryz.bits_LeadingZeros64 _ _ (by omega) (by omega)).mono ?_
  rintro e w' ⟨rfl, rfl⟩
  rw [Int.toNat_natCast, HS.out]
  clear HS
  obtain ⟨Y, hY⟩ : ∃ Y : Nat, Y = y * 2 ^ s := ⟨_, rfl⟩
  obtain ⟨U1, hU1⟩ : ∃ Y : Nat, Y = hi * 2 ^ s := ⟨_, rfl⟩
  obtain ⟨L1, hL1⟩ : ∃ Y : Nat, Y = lo / 2 ^ (64 - s) := ⟨_, rfl⟩
  obtain ⟨V, hV⟩ : ∃ Y : Nat, Y = lo * 2 ^ s % 18446744073709551616 := ⟨_, rfl⟩
  have hL2 : L1 < 2 ^ s := by rw [hL1]; exact kn_shift_lt lo s (by omega) h1
  have hUY : U1 + 2 ^ s ≤ Y := by
    rw [hY, hU1, ← Nat.succ_mul]; exact Nat.mul_le_mul_right _ h3
  have hsh := kn_shift hi lo s (by omega)
  rw [← hU1, ← hL1, ← hV] at hsh
  rw [← hY] at hn1 hn2
  have HQ : (hi * 18446744073709551616 + lo) / y = ((U1 + L1) * 18446744073709551616 + V) / Y := by
    rw [hsh, hY, Nat.mul_div_mul_right _ _ (Nat.two_pow_pos s)]
  have HR : (hi * 18446744073709551616 + lo) % y = (((U1 + L1) * 18446744073709551616 + V) % Y) / 2 ^ s := by
    rw [hsh, hY, Nat.mul_mod_mul_right, Nat.mul_div_cancel _ (Nat.two_pow_pos s)]
  have HQ := Lib.hid HQ
  have HR := Lib.hid HR
  have hV2 : V < 18446744073709551616 := by rw [hV]; exact Nat.mod_lt _ (by decide)
  have e1 : (y : Int) * 2 ^ s = (Y : Int) := by rw [hY]; simp
  have e2 : IntKind.u64.wrap ((hi : Int) * 2 ^ s) = (U1 : Int) := by
    have e : (hi : Int) * 2 ^ s = (U1 : Int) := by rw [hU1]; simp
    rw [e, IntKind.wrap_u64]; omega
  have e3 : (lo : Int) / 2 ^ (64 - s) = (L1 : Int) := by rw [hL1]; simp
  have e4 : IntKind.u64.wrap ((lo : Int) * 2 ^ s) = (V : Int) := by
    have e : (lo : Int) * 2 ^ s = ((lo * 2 ^ s : Nat) : Int) := by simp
    rw [e, IntKind.wrap_u64, hV]; omega
  have e5 : bits .or .u64 (U1 : Int) (L1 : Int) = (U1 : Int) + (L1 : Int) := by
    refine or_add_u64 s (2 ^ s) _ _ rfl (by omega) ?_ (by omega) ?_ (by omega)
    · rw [hU1]; simp
    · have : ((2 ^ s : Nat) : Int) = 2 ^ s := by simp
      rw [← this]; omega
  have e6 : bits .and .u64 (Y : Int) 4294967295 = (Y : Int) % 4294967296 := mask_u64 32 4294967296 4294967295 _ (by decide) (by decide) (by decide) (by omega) (by omega)
  have e7 : bits .and .u64 (V : Int) 4294967295 = (V : Int) % 4294967296 := mask_u64 32 4294967296 4294967295 _ (by decide) (by decide) (by decide) (by omega) (by omega)
  obtain ⟨U, hU⟩ : ∃ U : Nat, U = U1 + L1 := ⟨_, rfl⟩
  have HUY : U < Y := by omega
  rw [← hU] at HQ HR
  have e8 : (U1 : Int) + (L1 : Int) = (U : Int) := by omega
  clear hU hsh hUY hL2 hY hU1 hL1 hV
  go_upto_region 14 with (fail)
  go_cut [2, 9, 10, 11, 12, 13, 14] from 19 (fun a b c d e f g wr => ∃ N1 N0 V1 V0 : Nat, N1 = Y / 4294967296 ∧ N0 = Y % 4294967296 ∧ V1 = V / 4294967296 ∧ V0 = V % 4294967296 ∧ a = .int .u64 (Y : Int) ∧ b = .int .u64 (N1 : Int) ∧ c = .int .u64 (N0 : Int) ∧ d = .int .u64 (U : Int) ∧ e = .int .u64 (V : Int) ∧ f = .int .u64 (V1 : Int) ∧ g = .int .u64 (V0 : Int) ∧ w' = wr)
  case first =>
    go_wp2_with fail
    go_meet
    exact ⟨_, _, _, _, rfl, rfl, rfl, rfl, rfl, by go_num, by go_num, rfl, rfl, by go_num, by go_num, rfl⟩
  case rest =>
    obtain ⟨N1, N0, V1, V0, hN1, hN0, hV1, hV0, rfl, rfl, rfl, rfl, rfl, rfl, rfl, rfl⟩ := hcut
    clear e1 e2 e3 e4 e5 e6 e7 e8 t0 t1 t2
    have b1 : 2147483648 ≤ N1 := by omega
    have b2 : N1 < 4294967296 := by omega
    have b3 : N0 < 4294967296 := by omega
    have b4 : V1 < 4294967296 := by omega
    have b5 : V0 < 4294967296 := by omega
    have HV : V = V1 * 4294967296 + V0 := by omega
    obtain ⟨k1, k2, k3⟩ := kn_first hn1 HUY hn2
    have k4 := kn_ge (u := U) (v := V1) hn1 b4
    obtain ⟨Q, hQ⟩ : ∃ n : Nat, n = (U * 4294967296 + V1) / Y := ⟨_, rfl⟩
    have KD : ∀ q r, q * N1 + r = U → (4294967296 ≤ q ∨ 4294967296 * r + V1 < q * N0) → Q < q := fun q r h1 h2 => by
      subst hN1 hN0; rw [hQ]; exact kn_dec HUY b4 h1 h2
    have KL : ∀ q r, q * N1 + r = U → q * N0 ≤ 4294967296 * r + V1 → q ≤ Q := fun q r h1 h2 => by
      subst hN1 hN0; rw [hQ]; exact kn_le (by omega) h1 h2
    have KB : ∀ q r, q * N1 + r = U → q ≤ 4294967296 → 4294967296 ≤ r → q ≤ Q := fun q r h1 h2 h3 => by
      subst hN1 hN0; rw [hQ]; exact kn_brk (by omega) h1 h2 h3
    have KN : ∀ q r, q * N1 + r = U → 0 < q → (q - 1) * N1 + (r + N1) = U := fun q r h1 h2 => by
      subst hN1; exact kn_next h1 h2
    rw [← hQ, ← hN1] at k4
    rw [← hN1] at k1 k2 k3
    have KD := Lib.hid KD
    have KL := Lib.hid KL
    have KB := Lib.hid KB
    have KN := Lib.hid KN
    have HQ' := Lib.hid hQ
    have HN1 := Lib.hid hN1
    have HN0 := Lib.hid hN0
    have HV' := Lib.hid HV
    clear hQ hN1 hN0 HV hV1 hV0
    obtain ⟨Q0, hQ0⟩ : ∃ n : Nat, n = U / N1 := ⟨_, rfl⟩
    obtain ⟨R0, hR0⟩ : ∃ n : Nat, n = U % N1 := ⟨_, rfl⟩
    have g1 : IntKind.u64.wrap ((U : Int) / (N1 : Int)) = (Q0 : Int) := by
      have e : (U : Int) / (N1 : Int) = (Q0 : Int) := by rw [hQ0]; exact (Int.natCast_ediv _ _).symm
      rw [e, IntKind.wrap_u64]; omega
    rw [← hQ0, ← hR0] at k3
    rw [← hQ0] at k1 k4
    rw [← hR0] at k2
    have HK3 := Lib.hid k3
    have g2 : (Q0 : Int) * (N1 : Int) = (U : Int) - (R0 : Int) := by
      have e : ((Q0 * N1 + R0 : Nat) : Int) = (U : Int) := by rw [k3]
      rw [Int.natCast_add, Int.natCast_mul] at e
      generalize (Q0 : Int) * (N1 : Int) = Z at e ⊢
      omega
    have g3 : R0 ≤ U := by rw [← k3]; exact Nat.le_add_left _ _
    clear k3 hQ0 hR0
    go_upto_block 0 with (fail)
    go_cut [15, 16] from 67 to 85 (fun a b wr => a = .int .u64 (Q : Int) ∧ (∃ r : Int, b = .int .u64 r) ∧ w' = wr)
    case first =>
      go_wp2_with fail
      go_loop [15, 16] (fun a b => ∃ q r : Nat, a = .int .u64 (q : Int) ∧ b = .int .u64 (r : Int) ∧ Hid (q * N1 + r = U) ∧ Q ≤ q ∧ q ≤ 4294967297 ∧ r < 4294967296) (fun a _ => (intOf a).toNat)
      case atStart => exact ⟨Q0, R0, rfl, ret_val (by omega), HK3, k4, k1, k2⟩
      case round =>
        clear g1 g2 g3 k1 k4 k2
        obtain ⟨q, r, rfl, rfl, HE, c1, c2, c3⟩ := hrel
        obtain ⟨Z, hZ⟩ : ∃ Z : Nat, Z = q * N0 := ⟨_, rfl⟩
        have hz : (q : Int) * (N0 : Int) = (Z : Int) := by rw [hZ]; simp
        by_cases hq : 4294967296 ≤ q
        · have t1 : decide ((4294967296 : Int) ≤ (q : Int)) = true := decide_eq_true (by omega)
          have hlt := KD.out q r HE.out (.inl hq)
          have HE2 := Lib.hid (KN.out q r HE.out (by omega))
          have HB := Lib.hid (KB.out (q - 1) (r + N1) HE2.out (by omega))
          clear hz hZ hq
          by_cases hr : 4294967296 ≤ r + N1
          · have t2 : decide ((4294967296 : Int) ≤ (r : Int) + (N1 : Int)) = true := decide_eq_true (by omega)
            have hB := HB.out hr
            go_wp2_with fail
            go_meet
            exact ⟨ret_val (by omega), ⟨_, rfl⟩, rfl⟩
          · have t2 : decide ((4294967296 : Int) ≤ (r : Int) + (N1 : Int)) = false := decide_eq_false (by omega)
            clear HB
            go_wp2_with fail
            go_round
            case rel => exact ⟨q - 1, r + N1, ret_val (by omega), ret_val (by omega), HE2, by omega, by omega, by omega⟩
            case measure => simp [intOf]; omega
        · have t1 : decide ((4294967296 : Int) ≤ (q : Int)) = false := decide_eq_false (by omega)
          have hZ2 : Z ≤ 4294967295 * 4294967295 := by rw [hZ]; exact Nat.mul_le_mul (by omega) (by omega)
          by_cases hc : 4294967296 * r + V1 < Z
          · have t3 : decide ((4294967296 : Int) * (r : Int) + (V1 : Int) < (Z : Int)) = true := decide_eq_true (by omega)
            have hlt := KD.out q r HE.out (.inr (hZ ▸ hc))
            have HE2 := Lib.hid (KN.out q r HE.out (by omega))
            have HB := Lib.hid (KB.out (q - 1) (r + N1) HE2.out (by omega))
            clear hZ
            by_cases hr : 4294967296 ≤ r + N1
            · have t2 : decide ((4294967296 : Int) ≤ (r : Int) + (N1 : Int)) = true := decide_eq_true (by omega)
              have hB := HB.out hr
              go_wp2_with fail
              go_meet
              exact ⟨ret_val (by omega), ⟨_, rfl⟩, rfl⟩
            · have t2 : decide ((4294967296 : Int) ≤ (r : Int) + (N1 : Int)) = false := decide_eq_false (by omega)
              clear HB
              go_wp2_with fail
              go_round
              case rel => exact ⟨q - 1, r + N1, ret_val (by omega), ret_val (by omega), HE2, by omega, by omega, by omega⟩
              case measure => simp [intOf]; omega
          · have t3 : decide ((4294967296 : Int) * (r : Int) + (V1 : Int) < (Z : Int)) = false := decide_eq_false (by omega)
            have hle := KL.out q r HE.out (by rw [← hZ]; omega)
            clear hZ
            go_wp2_with fail
            go_meet
            exact ⟨ret_val (by omega), ⟨_, rfl⟩, rfl⟩
    case rest =>
      obtain ⟨rfl, ⟨r1, rfl⟩, rfl⟩ := hcut
      clear KD KL KB KN g1 g2 g3 k1 k4 k2
      obtain ⟨X, hX, x1, x2, x3⟩ := kn_left U V1 Y hn2 (by omega)
      rw [← HQ'.out] at hX
      have hx : (Q : Int) * (Y : Int) = (X : Int) := by rw [← hX]; simp
      obtain ⟨T, hT⟩ : ∃ n : Nat, n = U * 4294967296 + V1 - X := ⟨_, rfl⟩
      rw [← hT] at x2 x3
      go_upto_region 21 with (fail)
      go_cut [17] from 86 (fun t wr => t = .int .u64 (T : Int) ∧ w' = wr)
      case first =>
        go_wp2_with fail
        go_meet
        refine ⟨ret_val ?_, rfl⟩
        simp only [IntKind.wrap_u64]
        omega
      case rest =>
        obtain ⟨rfl, rfl⟩ := hcut
        clear hx
        have HTY : T < Y := by rw [x2]; exact Nat.mod_lt _ (by omega)
        have X2' := Lib.hid x2
        clear hT x2 x1 x3 hX
        obtain ⟨k1, k2, k3⟩ := kn_first hn1 HTY hn2
        have k4 := kn_ge (u := T) (v := V0) hn1 b5
        obtain ⟨Q2, hQ⟩ : ∃ n : Nat, n = (T * 4294967296 + V0) / Y := ⟨_, rfl⟩
        have hN1 := HN1.out
        have hN0 := HN0.out
        have KD : ∀ q r, q * N1 + r = T → (4294967296 ≤ q ∨ 4294967296 * r + V0 < q * N0) → Q2 < q := fun q r h1 h2 => by
          clear HN1 HN0; subst hN1 hN0; rw [hQ]; exact kn_dec HTY b5 h1 h2
        have KL : ∀ q r, q * N1 + r = T → q * N0 ≤ 4294967296 * r + V0 → q ≤ Q2 := fun q r h1 h2 => by
          clear HN1 HN0; subst hN1 hN0; rw [hQ]; exact kn_le (by omega) h1 h2
        have KB : ∀ q r, q * N1 + r = T → q ≤ 4294967296 → 4294967296 ≤ r → q ≤ Q2 := fun q r h1 h2 h3 => by
          clear HN1 HN0; subst hN1 hN0; rw [hQ]; exact kn_brk (by omega) h1 h2 h3
        have KN : ∀ q r, q * N1 + r = T → 0 < q → (q - 1) * N1 + (r + N1) = T := fun q r h1 h2 => by
          clear HN1 HN0; subst hN1; exact kn_next h1 h2
        rw [← hQ, ← hN1] at k4
        rw [← hN1] at k1 k2 k3
        have hQ2 : Q2 < 4294967296 := by rw [hQ]; exact kn_lt HTY b5
        have KD := Lib.hid KD
        have KL := Lib.hid KL
        have KB := Lib.hid KB
        have KN := Lib.hid KN
        have HQ2 := Lib.hid hQ
        clear hQ hN1 hN0
        obtain ⟨P0, hQ0⟩ : ∃ n : Nat, n = T / N1 := ⟨_, rfl⟩
        obtain ⟨P1, hR0⟩ : ∃ n : Nat, n = T % N1 := ⟨_, rfl⟩
        have g1 : IntKind.u64.wrap ((T : Int) / (N1 : Int)) = (P0 : Int) := by
          have e : (T : Int) / (N1 : Int) = (P0 : Int) := by rw [hQ0]; exact (Int.natCast_ediv _ _).symm
          rw [e, IntKind.wrap_u64]; omega
        rw [← hQ0, ← hR0] at k3
        rw [← hQ0] at k1 k4
        rw [← hR0] at k2
        have HK3 := Lib.hid k3
        have g2 : (P0 : Int) * (N1 : Int) = (T : Int) - (P1 : Int) := by
          have e : ((P0 * N1 + P1 : Nat) : Int) = (T : Int) := by rw [k3]
          rw [Int.natCast_add, Int.natCast_mul] at e
          generalize (P0 : Int) * (N1 : Int) = Z at e ⊢
          omega
        have g3 : P1 ≤ T := by rw [← k3]; exact Nat.le_add_left _ _
        clear k3 hQ0 hR0
        go_upto_block 2 with (fail)
        go_cut [18, 16] from 102 to 120 (fun a b wr => a = .int .u64 (Q2 : Int) ∧ (∃ r : Int, b = .int .u64 r) ∧ w' = wr)
        case first =>
          go_wp2_with fail
          go_loop [18, 16] (fun a b => ∃ q r : Nat, a = .int .u64 (q : Int) ∧ b = .int .u64 (r : Int) ∧ Hid (q * N1 + r = T) ∧ Q2 ≤ q ∧ q ≤ 4294967297 ∧ r < 4294967296) (fun a _ => (intOf a).toNat)
          case atStart => exact ⟨P0, P1, rfl, ret_val (by omega), HK3, k4, k1, k2⟩
          case round =>
            clear g1 g2 g3 k1 k4 k2
            obtain ⟨q, r, rfl, rfl, HE, c1, c2, c3⟩ := hrel
            obtain ⟨Z, hZ⟩ : ∃ Z : Nat, Z = q * N0 := ⟨_, rfl⟩
            have hz : (q : Int) * (N0 : Int) = (Z : Int) := by rw [hZ]; simp
            by_cases hq : 4294967296 ≤ q
            · have t1 : decide ((4294967296 : Int) ≤ (q : Int)) = true := decide_eq_true (by omega)
              have hlt := KD.out q r HE.out (.inl hq)
              have HE2 := Lib.hid (KN.out q r HE.out (by omega))
              have HB := Lib.hid (KB.out (q - 1) (r + N1) HE2.out (by omega))
              clear hz hZ hq
              by_cases hr : 4294967296 ≤ r + N1
              · have t2 : decide ((4294967296 : Int) ≤ (r : Int) + (N1 : Int)) = true := decide_eq_true (by omega)
                have hB := HB.out hr
                go_wp2_with fail
                go_meet
                exact ⟨ret_val (by omega), ⟨_, rfl⟩, rfl⟩
              · have t2 : decide ((4294967296 : Int) ≤ (r : Int) + (N1 : Int)) = false := decide_eq_false (by omega)
                clear HB
                go_wp2_with fail
                go_round
                case rel => exact ⟨q - 1, r + N1, ret_val (by omega), ret_val (by omega), HE2, by omega, by omega, by omega⟩
                case measure => simp [intOf]; omega
            · have t1 : decide ((4294967296 : Int) ≤ (q : Int)) = false := decide_eq_false (by omega)
              have hZ2 : Z ≤ 4294967295 * 4294967295 := by rw [hZ]; exact Nat.mul_le_mul (by omega) (by omega)
              by_cases hc : 4294967296 * r + V0 < Z
              · have t3 : decide ((4294967296 : Int) * (r : Int) + (V0 : Int) < (Z : Int)) = true := decide_eq_true (by omega)
                have hlt := KD.out q r HE.out (.inr (hZ ▸ hc))
                have HE2 := Lib.hid (KN.out q r HE.out (by omega))
                have HB := Lib.hid (KB.out (q - 1) (r + N1) HE2.out (by omega))
                clear hZ
                by_cases hr : 4294967296 ≤ r + N1
                · have t2 : decide ((4294967296 : Int) ≤ (r : Int) + (N1 : Int)) = true := decide_eq_true (by omega)
                  have hB := HB.out hr
                  go_wp2_with fail
                  go_meet
                  exact ⟨ret_val (by omega), ⟨_, rfl⟩, rfl⟩
                · have t2 : decide ((4294967296 : Int) ≤ (r : Int) + (N1 : Int)) = false := decide_eq_false (by omega)
                  clear HB
                  go_wp2_with fail
                  go_round
                  case rel => exact ⟨q - 1, r + N1, ret_val (by omega), ret_val (by omega), HE2, by omega, by omega, by omega⟩
                  case measure => simp [intOf]; omega
              · have t3 : decide ((4294967296 : Int) * (r : Int) + (V0 : Int) < (Z : Int)) = false := decide_eq_false (by omega)
                have hle := KL.out q r HE.out (by rw [← hZ]; omega)
                clear hZ
                go_wp2_with fail
                go_meet
                exact ⟨ret_val (by omega), ⟨_, rfl⟩, rfl⟩
        case rest =>
          obtain ⟨rfl, ⟨r2, rfl⟩, rfl⟩ := hcut
          clear KD KL KB KN g1 g2 g3 k1 k4 k2
          obtain ⟨X, hX, x1, x2, x3⟩ := kn_left T V0 Y hn2 (by omega)
          rw [← HQ2.out] at hX
          have hx : (Q2 : Int) * (Y : Int) = (X : Int) := by rw [← hX]; simp
          obtain ⟨T2, hT2⟩ : ∃ n : Nat, n = T * 4294967296 + V0 - X := ⟨_, rfl⟩
          rw [← hT2] at x2 x3
          have hQ1 : Q < 4294967296 := by rw [HQ'.out]; exact kn_lt HUY b4
          have h9 : IntKind.u64.wrap (IntKind.u64.wrap (IntKind.u64.wrap ((T : Int) * 4294967296) + (V0 : Int)) - IntKind.u64.wrap (X : Int)) = (T2 : Int) := by
            simp only [IntKind.wrap_u64]
            omega
          have FQ := Lib.hid (show (hi * 18446744073709551616 + lo) / y = Q * 4294967296 + Q2 by
            have hv := HV'.out
            have h := kn_quo U V1 V0 Y (by omega)
            have e : U * 18446744073709551616 + V = (U * 4294967296 + V1) * 4294967296 + V0 := by omega
            rw [HQ.out, HQ'.out, HQ2.out, X2'.out, ← h, e])
          have FR := Lib.hid (show (hi * 18446744073709551616 + lo) % y = T2 / 2 ^ s by
            have hv := HV'.out
            have h := kn_rem U V1 V0 Y
            have e : U * 18446744073709551616 + V = (U * 4294967296 + V1) * 4294967296 + V0 := by omega
            rw [HR.out, x2, X2'.out, ← h, e])
          clear hX x1 x2 hT2 X2' HQ HR HV' HQ' HQ2 HN1 HN0
          go_wp2_with fail
          go_ret2
          rw [FQ.out, FR.out]
          exact ⟨ret_two (by omega) (by simp), rfl⟩
/-- both ways -/
theorem div_any (hi lo y : Nat) (w : World) (h1 : lo < 18446744073709551616) (h2 : y < 18446744073709551616) (h3 : hi < y) : Calls Tryz.prog 148 #[.int .u64 (hi : Int), .int .u64 (lo : Int), .int .u64 (y : Int)] w fun e w' => e = .returned (.tuple #[.int .u64 (((hi * 18446744073709551616 + lo) / y : Nat) : Int), .int .u64 (((hi * 18446744073709551616 + lo) % y : Nat) : Int)]) ∧ ∃ n, w' = w.drewN n := by
  rcases Nat.eq_zero_or_pos hi with rfl | h0
  · rw [Nat.zero_mul, Nat.zero_add]
    exact div_zero lo y w h1 h2 h3
  · exact (div_main hi lo y w h0 h1 h2 h3).mono fun e w' ⟨a, b⟩ => ⟨a, 0, by rw [← b, World.drewN_zero]⟩
end Go.Proofs.YtbijpjoljljlpaaGreatDoor
/- Contracts of cut and grown. Conditions: none. -/
set_option maxRecDepth 100000
namespace Go.Proofs.YtbijpjoljljlpaaGreatDoor.Wide
open Go.RowKit

set_option maxHeartbeats 800000 in
theorem cut_any (H L : Nat) (w : World) (h1 : H < 18446744073709551616) (l1 : L < 18446744073709551616) : Calls Tryz.prog 147 #[.agg #[.int .u64 (H : Int), .int .u64 (L : Int)]] w fun e w' => e = .returned (.tuple #[sv (((H * 18446744073709551616 + L) / 10 : Nat) : Int), .int .u8 (((H * 18446744073709551616 + L) % 10 : Nat) : Int)]) ∧ Below w.heap.size w w' := by
  have K := fun w => div_any (H % 10) L 10 w l1 (by decide) (by omega)
  rw [quo_gen H 18446744073709551616 L 10 (by decide), rem_gen H 18446744073709551616 L 10]
  have hQ2 : (H % 10 * 18446744073709551616 + L) / 10 < 18446744073709551616 := Nat.div_lt_of_lt_mul (by omega)
  have hr2 : (H % 10 * 18446744073709551616 + L) % 10 < 10 := Nat.mod_lt _ (by decide)
  have e1 : ((H : Int) % 10) = ((H % 10 : Nat) : Int) := (Int.natCast_emod H 10).symm
  have e2 : ((H : Int) / 10) = ((H / 10 : Nat) : Int) := (Int.natCast_ediv H 10).symm
  generalize (H % 10 * 18446744073709551616 + L) / 10 = Q at hQ2 K ⊢
  generalize (H % 10 * 18446744073709551616 + L) % 10 = R at hr2 K ⊢
  generalize H % 10 = H' at K e1
  generalize H / 10 = H'' at e2 ⊢
  have e : (H'' : Int) * 18446744073709551616 + (Q : Int) = ((H'' * 18446744073709551616 + Q : Nat) : Int) := by omega
  have hw := w_of e (by omega) (by omega)
  unfold sv
  rw [hw.1, hw.2]
  clear hw e
  go_enter Tryz.func147, Tryz.ntmps147
  go_wp2_with fail
  refine (K _).mono ?_
  rintro e w1 ⟨rfl, n, hn⟩
  have b1 : Below ((w.alloc (.cells #[.int .u64 (H : Int), .int .u64 (L : Int)] 78)).alloc (.cells #[.int .u64 0, .int .u64 0] 78)).heap.size ((w.alloc (.cells #[.int .u64 (H : Int), .int .u64 (L : Int)] 78)).alloc (.cells #[.int .u64 0, .int .u64 0] 78)) w1 := by rw [hn]; exact below_drewN (Below.refl _ _) n
  clear hn
  replace b1 := g2_next (w := w) (Below.refl _ _) b1
  have hS := g2_res b1
  have hr1 := fun u => (set_two hS.2.2.1 hS.2.2.2.1 u u).1
  have hr2 := fun u v => (set_two hS.2.2.1 hS.2.2.2.1 u v).2
  have HB := Lib.hid (g2_done b1)
  clear b1 K
  go_wp2_with fail
  refine bodyPost_ret (v := .tuple #[.agg #[.int .u64 (H'' : Int), .int .u64 (Q : Int)], .int .u8 (R : Int)]) (by simp [results, Tryz.results147, go_sem, hr1, hr2]) rfl ⟨rfl, HB.out _ _⟩
theorem grown_math {H L d a b c e : Nat} (l1 : L < 18446744073709551616) (hd : d < 10)
    (ha : L * 10 / 18446744073709551616 = a) (hb : L * 10 % 18446744073709551616 = b) (hc : H * 10 / 18446744073709551616 = c) (he : H * 10 % 18446744073709551616 = e) :
    ∃ s m t n : Nat, b + d = m * 18446744073709551616 + s ∧ s < 18446744073709551616 ∧ m ≤ 1 ∧ e + a + m = n * 18446744073709551616 + t ∧ t < 18446744073709551616 ∧ n ≤ 1 ∧
      ((c = 0 ∧ n = 0) ↔ (H * 18446744073709551616 + L) * 10 + d < 340282366920938463463374607431768211456) ∧ (c = 0 ∧ n = 0 → t * 18446744073709551616 + s = (H * 18446744073709551616 + L) * 10 + d) := by
  refine ⟨(b + d) % 18446744073709551616, (b + d) / 18446744073709551616, (e + a + (b + d) / 18446744073709551616) % 18446744073709551616, (e + a + (b + d) / 18446744073709551616) / 18446744073709551616, ?_⟩
  refine ⟨by omega, by omega, by omega, by omega, by omega, by omega, by omega, by omega⟩
set_option maxHeartbeats 800000 in
theorem grown_any (H L d : Nat) (w : World) (h1 : H < 18446744073709551616) (l1 : L < 18446744073709551616) (hd : d < 10) : Calls Tryz.prog 55 #[.agg #[.int .u64 (H : Int), .int .u64 (L : Int)], .int .u8 (d : Int)] w fun e w' => ∃ T S : Nat, e = .returned (.tuple #[.agg #[.int .u64 (T : Int), .int .u64 (S : Int)], .bool (decide ((H * 18446744073709551616 + L) * 10 + d < 340282366920938463463374607431768211456))]) ∧ T < 18446744073709551616 ∧ S < 18446744073709551616 ∧ ((H * 18446744073709551616 + L) * 10 + d < 340282366920938463463374607431768211456 → T * 18446744073709551616 + S = (H * 18446744073709551616 + L) * 10 + d) ∧ Below w.heap.size w w' := by
  have K1 := fun w => Tryz.bits_Mul64 L 10 l1 (by decide) w
  have K2 := fun w => Tryz.bits_Mul64 H 10 h1 (by decide) w
  obtain ⟨a, ha⟩ : ∃ a, L * 10 / 18446744073709551616 = a := ⟨_, rfl⟩
  obtain ⟨b, hb⟩ : ∃ a, L * 10 % 18446744073709551616 = a := ⟨_, rfl⟩
  obtain ⟨c, hc⟩ : ∃ a, H * 10 / 18446744073709551616 = a := ⟨_, rfl⟩
  obtain ⟨e, he⟩ : ∃ a, H * 10 % 18446744073709551616 = a := ⟨_, rfl⟩
  rw [ha, hb] at K1
  rw [hc, he] at K2
  obtain ⟨s, m, t, n, g1, g2, g3, g4, g5, g6, g7, g8⟩ := grown_math l1 hd ha hb hc he
  have c1 := fun w => add64_run (x := (b : Int)) (y := (d : Int)) (c := 0) (s := (s : Int)) (d := (m : Int)) (by omega) (by omega) (.inl rfl) (by omega) (by omega) (by omega) w
  have c2 := fun w => add64_run (x := (e : Int)) (y := (a : Int)) (c := (m : Int)) (s := (t : Int)) (d := (n : Int)) (by omega) (by omega) (by omega) (by omega) (by omega) (by omega) w
  have T0 : ((c : Int) == 0 && (n : Int) == 0) = decide ((H * 18446744073709551616 + L) * 10 + d < 340282366920938463463374607431768211456) := by
    rw [← decide_eq_decide.2 g7, Bool.eq_iff_iff, Bool.and_eq_true, beq_iff_eq, beq_iff_eq, decide_eq_true_iff]
    omega
  generalize decide ((H * 18446744073709551616 + L) * 10 + d < 340282366920938463463374607431768211456) = ok at T0 ⊢
  have HG := Lib.hid (And.intro g5 (And.intro g2 (fun hx => g8 (g7.2 hx))))
  clear g1 g2 g3 g4 g5 g6 g7 g8 ha hb hc he
  by_cases hc0 : c = 0
  · subst hc0
    have T1 : ((n : Int) == 0) = ok := by rw [← T0]; rfl
    clear T0
    go_enter Tryz.func55, Tryz.ntmps55
    go_wp2_with fail
    refine (K1 _).mono ?_
    rintro e' w' ⟨rfl, rfl⟩
    go_wp2_with fail
    refine (K2 _).mono ?_
    rintro e' w' ⟨rfl, rfl⟩
    go_wp2_with fail
    refine bodyPost_ret (v := .tuple #[.agg #[.int .u64 (t : Int), .int .u64 (s : Int)], .bool ok]) (by simp [results, Tryz.results55, go_sem]) rfl ⟨t, s, rfl, HG.out.1, HG.out.2.1, HG.out.2.2, two_new _ _ _⟩
  · have t0 : ((c : Int) == 0) = false := by rw [beq_eq_false_iff_ne]; omega
    have T1 : ok = false := by rw [← T0, t0]; rfl
    subst T1
    clear T0
    go_enter Tryz.func55, Tryz.ntmps55
    go_wp2_with fail
    refine (K1 _).mono ?_
    rintro e' w' ⟨rfl, rfl⟩
    go_wp2_with fail
    refine (K2 _).mono ?_
    rintro e' w' ⟨rfl, rfl⟩
    go_wp2_with fail
    refine bodyPost_ret (v := .tuple #[.agg #[.int .u64 (t : Int), .int .u64 (s : Int)], .bool false]) (by simp [results, Tryz.results55, go_sem]) rfl ⟨t, s, rfl, HG.out.1, HG.out.2.1, HG.out.2.2, two_new _ _ _⟩
end Go.Proofs.YtbijpjoljljlpaaGreatDoor.Wide
/- Decimal digits: plain mathematics. Conditions: none. -/
set_option maxRecDepth 100000
namespace Go.Proofs.YtbijpjoljljlpaaGreatDoor

def digs (m : Nat) : List UInt8 := if m < 10 then [UInt8.ofNat (48 + m)] else digs (m / 10) ++ [UInt8.ofNat (48 + m % 10)]
  termination_by m
  decreasing_by omega
theorem digs_small {m : Nat} (h : m < 10) : digs m = [UInt8.ofNat (48 + m)] := by rw [digs, if_pos h]
theorem digs_big {m : Nat} (h : ¬ m < 10) : digs m = digs (m / 10) ++ [UInt8.ofNat (48 + m % 10)] := by rw [digs, if_neg h]
def valD (l : List UInt8) : Nat := l.foldl (fun a c => a * 10 + (c.toNat - 48)) 0
def isD (c : UInt8) : Prop := 48 ≤ c.toNat ∧ c.toNat ≤ 57
def canD (l : List UInt8) : Prop := l ≠ [] ∧ (∀ c ∈ l, isD c) ∧ (l.head? = some 48 → l = [48])
theorem valD_snoc (l : List UInt8) (c : UInt8) : valD (l ++ [c]) = valD l * 10 + (c.toNat - 48) := by simp [valD]
theorem dig_nat {d : Nat} (h : d < 10) : (UInt8.ofNat (48 + d)).toNat = 48 + d := by simp; omega
theorem dig_isD {d : Nat} (h : d < 10) : isD (UInt8.ofNat (48 + d)) := by unfold isD; rw [dig_nat h]; omega
theorem digs_val (m : Nat) : valD (digs m) = m := by
  induction m using Nat.strongRecOn with
  | ind m ih =>
    by_cases h : m < 10
    · rw [digs_small h]
      show 0 * 10 + ((UInt8.ofNat (48 + m)).toNat - 48) = m
      rw [dig_nat h]; omega
    · rw [digs_big h, valD_snoc, ih (m / 10) (by omega), dig_nat (Nat.mod_lt _ (by decide))]; omega
theorem digs_ne (m : Nat) : digs m ≠ [] := by
  by_cases h : m < 10
  · rw [digs_small h]; simp
  · rw [digs_big h]; simp
theorem digs_isD (m : Nat) : ∀ c ∈ digs m, isD c := by
  induction m using Nat.strongRecOn with
  | ind m ih =>
    intro c hc
    by_cases h : m < 10
    · rw [digs_small h, List.mem_singleton] at hc
      rw [hc]; exact dig_isD h
    · rw [digs_big h, List.mem_append, List.mem_singleton] at hc
      rcases hc with hc | hc
      · exact ih (m / 10) (by omega) c hc
      · rw [hc]; exact dig_isD (Nat.mod_lt _ (by decide))
theorem head_app {α : Type} (a b : List α) (h : a ≠ []) : (a ++ b).head? = a.head? := by
  cases a with
  | nil => exact absurd rfl h
  | cons x a => rfl
theorem digs_head (m : Nat) (h0 : m ≠ 0) : (digs m).head? ≠ some 48 := by
  induction m using Nat.strongRecOn with
  | ind m ih =>
    by_cases h : m < 10
    · rw [digs_small h]
      intro e
      have e1 : UInt8.ofNat (48 + m) = 48 := by simpa using e
      have e2 := congrArg UInt8.toNat e1
      rw [dig_nat h] at e2
      have e3 : (48 : UInt8).toNat = 48 := rfl
      omega
    · rw [digs_big h, head_app _ _ (digs_ne _)]
      exact ih (m / 10) (by omega) (by omega)
theorem digs_can (m : Nat) : canD (digs m) := by
  refine ⟨digs_ne m, digs_isD m, fun h => ?_⟩
  by_cases h0 : m = 0
  · rw [h0, digs_small (by decide)]; rfl
  · exact absurd h (digs_head m h0)
theorem digs_back (l : List UInt8) (h : canD l) : digs (valD l) = l := by
  induction hn : l.length generalizing l with
  | zero => exact absurd (List.length_eq_zero_iff.1 hn) h.1
  | succ n ih =>
    obtain ⟨k, c, rfl⟩ : ∃ k c, l = k ++ [c] := ⟨l.dropLast, l.getLast h.1, (List.dropLast_concat_getLast h.1).symm⟩
    have hc : isD c := h.2.1 c (by simp)
    have hd : c.toNat - 48 < 10 := by have := hc; unfold isD at this; omega
    have hcc : UInt8.ofNat (48 + (c.toNat - 48)) = c := by
      apply UInt8.toNat_inj.1
      rw [dig_nat hd]; have := hc.1; omega
    by_cases hk : k = []
    · subst hk
      rw [List.nil_append]
      show digs (0 * 10 + (c.toNat - 48)) = [c]
      rw [digs_small (by omega), Nat.zero_mul, Nat.zero_add, hcc]
    · have hh : k.head? ≠ some 48 := fun e => by
        have := h.2.2 (by rw [head_app _ _ hk]; exact e)
        have := congrArg List.length this
        simp only [List.length_append, List.length_singleton] at this
        exact hk (List.length_eq_zero_iff.1 (by omega))
      have hi := ih k ⟨hk, fun x hx => h.2.1 x (by simp [hx]), fun e => absurd e hh⟩ (by simp at hn; omega)
      have hv : valD k ≠ 0 := fun e => by
        rw [e, digs_small (by decide)] at hi
        exact hh (by rw [← hi]; rfl)
      rw [valD_snoc, digs_big (by omega), show (valD k * 10 + (c.toNat - 48)) / 10 = valD k by omega, show (valD k * 10 + (c.toNat - 48)) % 10 = c.toNat - 48 by omega, hi, hcc]
theorem digs_len (k : Nat) : ∀ m, m < 10 ^ (k + 1) → (digs m).length ≤ k + 1 := by
  induction k with
  | zero => intro m h; rw [digs_small (by omega)]; simp
  | succ k ih =>
    intro m h
    by_cases h1 : m < 10
    · rw [digs_small h1]; simp
    · rw [digs_big h1, List.length_append]
      have := ih (m / 10) (by rw [Nat.pow_succ] at h; omega)
      simp; omega
/-- what has been cut off -/
theorem digs_cut (m : Nat) (tail : List UInt8) (h : m / 10 ≠ 0) : digs m ++ tail = digs (m / 10) ++ UInt8.ofNat (48 + m % 10) :: tail := by
  rw [digs_big (by omega), List.append_assoc]; rfl
theorem digs_last (m : Nat) (tail : List UInt8) (h : m / 10 = 0) : digs m ++ tail = UInt8.ofNat (48 + m % 10) :: tail := by
  rw [digs_small (by omega), show m % 10 = m by omega]; rfl
def printL (N : Int) : List UInt8 := if N < 0 then 45 :: digs N.natAbs else digs N.natAbs
theorem digs_inj {a b : Nat} (h : digs a = digs b) : a = b := by rw [← digs_val a, h, digs_val]
theorem valD_take_succ (l : List UInt8) (i : Nat) (hi : i < l.length) : valD (l.take (i + 1)) = valD (l.take i) * 10 + (l[i].toNat - 48) := by
  rw [← List.take_append_getElem hi, valD_snoc]
theorem valD_mono (l : List UInt8) (i : Nat) : valD (l.take i) ≤ valD l := by
  have key : ∀ (k : List UInt8) (a : Nat), a ≤ k.foldl (fun a c => a * 10 + (c.toNat - 48)) a := by
    intro k
    induction k with
    | nil => intro a; exact Nat.le_refl _
    | cons c k ih => intro a; exact Nat.le_trans (m := a * 10 + (c.toNat - 48)) (by omega) (ih _)
  conv => rhs; rw [← List.take_append_drop i l]
  unfold valD
  rw [List.foldl_append]
  exact key _ _
end Go.Proofs.YtbijpjoljljlpaaGreatDoor
/- Contract of digits. Conditions: none. -/
set_option maxRecDepth 100000
namespace Go.Proofs.YtbijpjoljljlpaaGreatDoor.Wide
open Go.RowKit

/-- a size in the first of two new blocks, a text of 39 bytes in the second -/
def DS (w wr : World) (H L : Nat) (xs : List UInt8) : Prop :=
  wr.heap[w.heap.size]? = some (.cells #[.int .u64 (H : Int), .int .u64 (L : Int)] 78 (0, 0)) ∧ wr.heap[w.heap.size + 1]? = some (.cells (u8s xs).toArray 171 (0, 0)) ∧ Below w.heap.size w wr
theorem DS.size {w wr : World} {H L : Nat} {xs : List UInt8} (h : DS w wr H L xs) : w.heap.size + 1 < wr.heap.size := by
  have := h.2.1
  rcases Nat.lt_or_ge (w.heap.size + 1) wr.heap.size with hlt | hge
  · exact hlt
  · rw [Array.getElem?_eq_none hge] at this; cases this
theorem DS.next {w wr w1 : World} {H L : Nat} {xs : List UInt8} (h : DS w wr H L xs) (hb : Below wr.heap.size wr w1) : DS w w1 H L xs := by
  have hz := h.size
  exact ⟨by rw [hb.block _ (by omega)]; exact h.1, by rw [hb.block _ hz]; exact h.2.1, h.2.2.trans (hb.mono (by omega))⟩
theorem DS.cells {w wr : World} {H L : Nat} {xs : List UInt8} (h : DS w wr H L xs) : wr.cell? ⟨w.heap.size, 0, none⟩ = some (.int .u64 (H : Int)) ∧ wr.cell? ⟨w.heap.size, 1, none⟩ = some (.int .u64 (L : Int)) ∧ wr.frozen? ⟨w.heap.size, 0, none⟩ = false ∧ wr.frozen? ⟨w.heap.size, 1, none⟩ = false :=
  ⟨by rw [cell_of_row _ _ _ _ _ _ h.1]; rfl, by rw [cell_of_row _ _ _ _ _ _ h.1]; rfl, free_of_row h.1 0, free_of_row h.1 1⟩
theorem DS.text {w wr : World} {H L : Nat} {xs : List UInt8} (h : DS w wr H L xs) {j : Nat} (hj : j < xs.length) : wr.cell? ⟨w.heap.size + 1, j, none⟩ = some (.int .u8 (xs[j].toNat : Int)) ∧ wr.frozen? ⟨w.heap.size + 1, j, none⟩ = false :=
  ⟨by rw [cell_of_row _ _ _ _ _ _ h.2.1]; simp [u8s, hj], free_of_row h.2.1 j⟩
theorem heap_far {w : World} {g b j : Nat} (h : b ≠ g) (v : Value) : (w.setCell ⟨b, j, none⟩ v).heap[g]? = w.heap[g]? := by
  simp [World.setCell, Array.getElem?_modify, h]
theorem DS.store {w wr : World} {H L : Nat} {xs : List UInt8} (h : DS w wr H L xs) (H2 L2 : Nat) : DS w ((wr.setCell ⟨w.heap.size, 0, none⟩ (.int .u64 (H2 : Int))).setCell ⟨w.heap.size, 1, none⟩ (.int .u64 (L2 : Int))) H2 L2 xs := by
  refine ⟨?_, ?_, (h.2.2.setCell (by simp) _).setCell (by simp) _⟩
  · rw [heap_set (heap_set h.1 _)]; rfl
  · rw [heap_far (by omega), heap_far (by omega)]; exact h.2.1
theorem DS.put {w wr : World} {H L : Nat} {xs : List UInt8} (h : DS w wr H L xs) (j : Nat) (c : UInt8) : DS w (wr.setCell ⟨w.heap.size + 1, j, none⟩ (.int .u8 (c.toNat : Int))) H L (xs.set j c) := by
  refine ⟨?_, ?_, h.2.2.setCell (by simp) _⟩
  · rw [heap_far (by omega)]; exact h.1
  · rw [heap_set h.2.1]
    congr 2
    apply Array.toList_inj.1
    simp [u8s, List.map_set]
theorem DS.holds {w wr : World} {H L : Nat} {xs : List UInt8} (h : DS w wr H L xs) (j : Nat) (hj : j ≤ xs.length) : Holds wr (.slice (some ⟨w.heap.size + 1, j, none⟩) (xs.length - j) (xs.length - j)) (u8s (xs.drop j)) := by
  have h0 : Holds wr (.slice (some ⟨w.heap.size + 1, 0, none⟩) xs.length xs.length) (u8s xs) := Holds.of_heap h.2.1 rfl _ _ (u8s_len xs).symm (Nat.le_refl _)
  have h1 := h0.drop j hj
  rw [Addr.add_at, Nat.zero_add] at h1
  have e : (u8s xs).drop j = u8s (xs.drop j) := by simp [u8s, List.map_drop]
  rw [e] at h1
  exact h1
theorem sv_nat (N : Nat) : hiW (N : Int) = ((N / 18446744073709551616 : Nat) : Int) ∧ loW (N : Int) = ((N % 18446744073709551616 : Nat) : Int) := ⟨(Int.natCast_ediv N 18446744073709551616).symm, (Int.natCast_emod N 18446744073709551616).symm⟩
theorem drop_set_here {xs : List UInt8} {j : Nat} (hj : j < xs.length) (c : UInt8) : (xs.set j c).drop j = c :: xs.drop (j + 1) := by
  rw [List.drop_eq_getElem_cons (by simpa using hj), List.drop_set, if_pos (by omega)]
  simp
theorem ds_new (w : World) (a b : Obj) : ((w.alloc a).alloc b).heap[w.heap.size]? = some a ∧ ((w.alloc a).alloc b).heap[w.heap.size + 1]? = some b := by
  have h1 := ((Below.refl (w.heap.size + 1) (w.alloc a)).alloc (by simp) b).block w.heap.size (by omega)
  have h2 := alloc1 (w.alloc a) b
  rw [World.size_alloc] at h2
  exact ⟨h1.trans (alloc1 w a), h2⟩
theorem toStr' {w : World} {v : Value} {l : List UInt8} (h : Holds w v (u8s l)) : (convert 33 9 v).run Tryz.prog w = .ok (.string ⟨l.toArray⟩) w :=
  str_of_holds Tryz.underlying33 Tryz.underlying5 Tryz.underlying9 h

theorem slice39 (b j : Nat) (hj : j ≤ 38) (w : World) : (Instr.sliceAt 171 (.pointer (some ⟨b, 0, none⟩)) (some (.int .i64 (j : Int))) none none).run Tryz.prog w = .ok (.slice (some ⟨b, j, none⟩) (39 - j) (39 - j)) w := by
  have hl : Tryz.prog.arrayLen 171 = 39 := by kernel_rfl
  have he : Tryz.prog.elem 171 = 5 := by kernel_rfl
  rw [run_sliceAt_array_l w 171 ⟨b, 0, none⟩ (by kernel_rfl) .i64 (j : Int) (by omega) (by rw [hl]; omega), he, Tryz.sizeOf5, hl]
  simp only [Result.andThen, slicedAt, Int.toNat_natCast, Nat.mul_one, Addr.add_at, Nat.zero_add]
  rw [if_neg (by omega)]
set_option maxHeartbeats 1600000 in
theorem digits_any (H0 L0 : Nat) (w : World) (h1 : H0 < 18446744073709551616) (l1 : L0 < 18446744073709551616) : Calls Tryz.prog 146 #[.agg #[.int .u64 (H0 : Int), .int .u64 (L0 : Int)]] w fun e w' => e = .returned (.string ⟨(digs (H0 * 18446744073709551616 + L0)).toArray⟩) ∧ Below w.heap.size w w' := by
  obtain ⟨N0, hN0⟩ : ∃ N, H0 * 18446744073709551616 + L0 = N := ⟨_, rfl⟩
  have hs : DS w ((w.alloc (.cells #[.int .u64 (H0 : Int), .int .u64 (L0 : Int)] 78)).alloc (.cells (u8s (List.replicate 39 0)).toArray 171)) H0 L0 (List.replicate 39 0) := ⟨(ds_new _ _ _).1, (ds_new _ _ _).2, two_new _ _ _⟩
  have HI := Lib.hid (show H0 < 18446744073709551616 ∧ L0 < 18446744073709551616 ∧ H0 * 18446744073709551616 + L0 < 10 ^ 39 ∧ digs (H0 * 18446744073709551616 + L0) ++ (List.replicate 39 (0 : UInt8)).drop 39 = digs N0 by
    refine ⟨h1, l1, ?_, by rw [hN0]; simp⟩
    have : (10 : Nat) ^ 39 = 1000000000000000000000000000000000000000 := by decide
    omega)
  rw [hN0]
  clear hN0 h1 l1
  go_enter Tryz.func146, Tryz.ntmps146
  go_wp2_with fail
  go_loopw [4, 6] (fun st i wr => ∃ (j H L : Nat) (xs : List UInt8), j ≤ 38 ∧ st = .int .i64 ((j : Int) + 1) ∧ i = .int .i64 (38 - (j : Int)) ∧ Hid (DS w wr H L xs ∧ xs.length = 39 ∧ H < 18446744073709551616 ∧ L < 18446744073709551616 ∧ H * 18446744073709551616 + L < 10 ^ (j + 1) ∧ digs (H * 18446744073709551616 + L) ++ xs.drop (j + 1) = digs N0)) (fun _ i _ => 39 - (intOf i).toNat)
  case atStart => exact ⟨38, H0, L0, List.replicate 39 0, by omega, rfl, rfl, Lib.hid ⟨hs, rfl, HI.out.1, HI.out.2.1, HI.out.2.2.1, HI.out.2.2.2⟩⟩
  case round =>
    obtain ⟨j, H, L, xs, hj, rfl, rfl, HR⟩ := hrel
    have hcut := fun w => cut_any H L w HR.out.2.2.1 HR.out.2.2.2.1
    obtain ⟨N, hN⟩ : ∃ N, H * 18446744073709551616 + L = N := ⟨_, rfl⟩
    have hq := sv_nat (N / 10)
    rw [hN] at hcut
    unfold sv at hcut
    rw [hq.1, hq.2] at hcut
    obtain ⟨H2, hH2⟩ : ∃ N', N / 10 / 18446744073709551616 = N' := ⟨_, rfl⟩
    obtain ⟨L2, hL2⟩ : ∃ N', N / 10 % 18446744073709551616 = N' := ⟨_, rfl⟩
    obtain ⟨D, hD⟩ : ∃ N', N % 10 = N' := ⟨_, rfl⟩
    have hD2 : D < 10 := by omega
    rw [hH2, hL2, hD] at hcut
    have HN := Lib.hid hN
    have HQ := Lib.hid (And.intro hH2 (And.intro hL2 hD))
    clear hN hH2 hL2 hD hq
    have HR1 := Lib.hid (And.intro HR.out.1 (And.intro HR.out.2.1 (And.intro HR.out.2.2.2.2.1 HR.out.2.2.2.2.2)))
    have hc := HR.out.1.cells
    clear HR
    have hv : ((UInt8.ofNat (48 + D)).toNat : Int) = 48 + (D : Int) := by rw [dig_nat hD2]; omega
    go_wp2_with fail
    refine (hcut _).mono ?_
    rintro e w1 ⟨rfl, b1⟩
    have d1 := HR1.out.1.next b1
    have c1 := d1.cells
    have d2 := d1.store H2 L2
    have t2 := d2.text (j := j) (by rw [HR1.out.2.1]; omega)
    have d3 := d2.put j (UInt8.ofNat (48 + D))
    rw [hv] at d3
    have c3 := d3.cells
    have k3 := toStr' (d3.holds j (by rw [List.length_set, HR1.out.2.1]; omega))
    rw [List.length_set, HR1.out.2.1] at k3
    have HD := Lib.hid d3
    have ks := fun w' => slice39 (w.heap.size + 1) j hj w'
    clear hc b1 d1 d2 d3 hcut hv
    by_cases hz : N / 10 = 0
    · have hH : H2 = 0 := by rw [← HQ.out.1, hz]
      have hL : L2 = 0 := by rw [← HQ.out.2.1, hz]
      have t0 : ((H2 : Int) == 0) = true := by rw [hH]; rfl
      have t1 : ((L2 : Int) == 0) = true := by rw [hL]; rfl
      clear hH hL
      have e2 : (xs.set j (UInt8.ofNat (48 + D))).drop j = digs N0 := by
        rw [drop_set_here (by rw [HR1.out.2.1]; omega), ← HR1.out.2.2.2, HN.out, digs_last N _ hz, HQ.out.2.2]
      rw [e2] at k3
      go_wp2_with fail
      go_ret
      exact ⟨rfl, HD.out.2.2⟩
    · have hz' : N / 10 < 10 ^ j := by
        have := HR1.out.2.2.1
        rw [HN.out, Nat.pow_succ] at this
        omega
      obtain ⟨i, rfl⟩ : ∃ i, j = i + 1 := by
        rcases j with _ | i
        · rw [Nat.pow_zero] at hz'; omega
        · exact ⟨i, rfl⟩
      have hsum : H2 * 18446744073709551616 + L2 = N / 10 := by rw [← HQ.out.1, ← HQ.out.2.1]; omega
      have e2 : digs (N / 10) ++ (xs.set (i + 1) (UInt8.ofNat (48 + D))).drop (i + 1) = digs N0 := by
        rw [drop_set_here (by rw [HR1.out.2.1]; omega), ← HR1.out.2.2.2, HN.out, digs_cut N _ hz, HQ.out.2.2]
      have hb : H2 < 18446744073709551616 ∧ L2 < 18446744073709551616 := by
        have h10 : (10 : Nat) ^ (i + 1) ≤ 10 ^ 38 := Nat.pow_le_pow_right (by decide) (by omega)
        have h38 : (10 : Nat) ^ 38 = 100000000000000000000000000000000000000 := by decide
        refine ⟨by omega, ?_⟩
        rw [← HQ.out.2.1]; exact Nat.mod_lt _ (by decide)
      have HH := Lib.hid (And.intro HD.out (And.intro (show (xs.set (i + 1) (UInt8.ofNat (48 + D))).length = 39 by rw [List.length_set, HR1.out.2.1]) (And.intro hb.1 (And.intro hb.2 (And.intro (hsum ▸ hz') (hsum ▸ e2))))))
      clear hz' hb e2 HD k3
      by_cases hH : H2 = 0
      · have t0 : ((H2 : Int) == 0) = true := by rw [hH]; rfl
        have t1 : ((L2 : Int) == 0) = false := by rw [beq_eq_false_iff_ne]; omega
        clear hH hsum hz
        go_wp2_with fail
        go_roundw
        case rel => exact ⟨i, H2, L2, _, by omega, rfl, by go_num, HH⟩
        case measure => first | (simp [intOf]; done) | (simp [intOf]; omega)
      · have t0 : ((H2 : Int) == 0) = false := by rw [beq_eq_false_iff_ne]; omega
        clear hH hsum hz
        go_wp2_with fail
        go_roundw
        case rel => exact ⟨i, H2, L2, _, by omega, rfl, by go_num, HH⟩
        case measure => first | (simp [intOf]; done) | (simp [intOf]; omega)
end Go.Proofs.YtbijpjoljljlpaaGreatDoor.Wide
