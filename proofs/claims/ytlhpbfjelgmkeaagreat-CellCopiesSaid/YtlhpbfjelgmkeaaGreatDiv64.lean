/- Contract of math/bits.Div64. Conditions: the high word is less than the divisor. -/
import Derived.Test.YtlhpbfjelgmkeaaGreatKnuth
import Derived.Test.YtlhpbfjelgmkeaaGreatOrs
import Derived.Test.YtlhpbfjelgmkeaaGreatShelf
import Derived.Lib.ItoaNum
import Derived.Deep.CutBlock
import Derived.Deep.CutRange
set_option maxRecDepth 100000
namespace Go.Proofs.YtlhpbfjelgmkeaaGreat
open Go.RowKit

theorem ret_val {k : IntKind} {a b : Int} (h : a = b) : Value.int k a = Value.int k b := by rw [h]
theorem ret_two {k : IntKind} {a b c d : Int} (h : a = b) (h2 : c = d) : Ending.returned (.tuple #[.int k a, .int k c]) = .returned (.tuple #[.int k b, .int k d]) := by rw [h, h2]
theorem shift_of (y : Nat) (h0 : 0 < y) (h1 : y < 18446744073709551616) : ∃ s : Nat, s ≤ 63 ∧ (64 - (Lib.bitLen y : Int)) = (s : Int) ∧ 9223372036854775808 ≤ y * 2 ^ s ∧ y * 2 ^ s < 18446744073709551616 := by
  obtain ⟨a, b, c⟩ := Lib.bitLenAux_bounds 64 y h1 (by omega)
  have hl : Lib.bitLen y ≤ 64 := Lib.bitLen_le y 64 (Nat.le_refl _) h1
  have e : Lib.bitLenAux 64 y = Lib.bitLen y := rfl
  rw [e] at a b c
  generalize Lib.bitLen y = n at a b c hl
  refine ⟨64 - n, by omega, by omega, ?_, ?_⟩
  · have h2 : 2 ^ (n - 1) * 2 ^ (64 - n) ≤ y * 2 ^ (64 - n) := Nat.mul_le_mul_right _ b
    rw [← Nat.pow_add, show n - 1 + (64 - n) = 63 by omega] at h2
    omega
  · have h2 : y * 2 ^ (64 - n) < 2 ^ n * 2 ^ (64 - n) := Nat.mul_lt_mul_of_pos_right c (Nat.two_pow_pos _)
    rw [← Nat.pow_add, show n + (64 - n) = 64 by omega] at h2
    omega

set_option maxHeartbeats 3200000 in
theorem div_zero (lo y : Nat) (w : World) (h1 : lo < 18446744073709551616) (h2 : y < 18446744073709551616) (h3 : 0 < y) : Calls Tryz.prog 156 #[.int .u64 0, .int .u64 (lo : Int), .int .u64 (y : Int)] w fun e w' => e = .returned (.tuple #[.int .u64 ((lo / y : Nat) : Int), .int .u64 ((lo % y : Nat) : Int)]) ∧ ∃ n, w' = w.drewN n := by
  have t0 : ((y : Int) == 0) = false := by rw [beq_eq_false_iff_ne]; omega
  have t1 : decide ((y : Int) ≤ 0) = false := decide_eq_false (by omega)
  go_enter Tryz.func156, Tryz.ntmps156
  go_wp2_with fail
  go_quiet (fail)
  go_wp2_with fail
  go_ret2
  refine ⟨?_, _, rfl⟩
  rw [IntKind.wrap_u64]
  have hq : lo / y < 18446744073709551616 := Nat.lt_of_le_of_lt (Nat.div_le_self _ _) h1
  have e : (lo : Int) / (y : Int) = ((lo / y : Nat) : Int) := (Int.natCast_ediv _ _).symm
  have e2 : ((lo / y : Nat) : Int) % 18446744073709551616 = ((lo / y : Nat) : Int) := by generalize lo / y = q at hq ⊢; omega
  rw [e, e2, Int.natCast_emod]
  rfl
set_option maxHeartbeats 3200000 in
theorem div_main (hi lo y : Nat) (w : World) (h0 : 0 < hi) (h1 : lo < 18446744073709551616) (h2 : y < 18446744073709551616) (h3 : hi < y) : Calls Tryz.prog 156 #[.int .u64 (hi : Int), .int .u64 (lo : Int), .int .u64 (y : Int)] w fun e w' => e = .returned (.tuple #[.int .u64 (((hi * 18446744073709551616 + lo) / y : Nat) : Int), .int .u64 (((hi * 18446744073709551616 + lo) % y : Nat) : Int)]) ∧ w = w' := by
  have t0 : ((y : Int) == 0) = false := by rw [beq_eq_false_iff_ne]; omega
  have t1 : decide ((y : Int) ≤ (hi : Int)) = false := decide_eq_false (by omega)
  have t2 : ((hi : Int) == 0) = false := by rw [beq_eq_false_iff_ne]; omega
  obtain ⟨s, hs, HS, hn1, hn2⟩ := shift_of y (by omega) h2
  have HS := Lib.hid HS
  go_enter Tryz.func156, Tryz.ntmps156
  go_wp2_with fail
  refine (Tryz.bits_LeadingZeros64 _ _ (by omega) (by omega)).mono ?_
  rintro e w' ⟨rfl, rfl⟩
  rw [Int.toNat_natCast, HS.out]
  clear HS
  obtain ⟨Y, hY⟩ : ∃ Y : Nat, Y = y * 2 ^ s := ⟨_, rfl⟩
  obtain ⟨U1, hU1⟩ : ∃ Y : Nat, Y = hi * 2 ^ s := ⟨_, rfl⟩
  obtain ⟨L1, hL1⟩ : ∃ Y : Nat, Y = lo / 2 ^ (64 - s) := ⟨_, rfl⟩
  obtain ⟨V, hV⟩ : ∃ Y : Nat, Y = lo * 2 ^ s % 18446744073709551616 := ⟨_, rfl⟩
  have hL2 : L1 < 2 ^ s := by rw [hL1]; exact kn_shift_lt lo s (by omega) h1
  have hUY : U1 + 2 ^ s ≤ Y := by
    rw [hY, hU1, ← Nat.succ_mul]; exact Nat.mul_le_mul_right _ h3
  have hsh := kn_shift hi lo s (by omega)
  rw [← hU1, ← hL1, ← hV] at hsh
  rw [← hY] at hn1 hn2
  have HQ : (hi * 18446744073709551616 + lo) / y = ((U1 + L1) * 18446744073709551616 + V) / Y := by
    rw [hsh, hY, Nat.mul_div_mul_right _ _ (Nat.two_pow_pos s)]
  have HR : (hi * 18446744073709551616 + lo) % y = (((U1 + L1) * 18446744073709551616 + V) % Y) / 2 ^ s := by
    rw [hsh, hY, Nat.mul_mod_mul_right, Nat.mul_div_cancel _ (Nat.two_pow_pos s)]
  have HQ := Lib.hid HQ
  have HR := Lib.hid HR
  have hV2 : V < 18446744073709551616 := by rw [hV]; exact Nat.mod_lt _ (by decide)
  have e1 : (y : Int) * 2 ^ s = (Y : Int) := by rw [hY]; simp
  have e2 : IntKind.u64.wrap ((hi : Int) * 2 ^ s) = (U1 : Int) := by
    have e : (hi : Int) * 2 ^ s = (U1 : Int) := by rw [hU1]; simp
    rw [e, IntKind.wrap_u64]; omega
  have e3 : (lo : Int) / 2 ^ (64 - s) = (L1 : Int) := by rw [hL1]; simp
  have e4 : IntKind.u64.wrap ((lo : Int) * 2 ^ s) = (V : Int) := by
    have e : (lo : Int) * 2 ^ s = ((lo * 2 ^ s : Nat) : Int) := by simp
    rw [e, IntKind.wrap_u64, hV]; omega
  have e5 : bits .or .u64 (U1 : Int) (L1 : Int) = (U1 : Int) + (L1 : Int) := by
    refine or_add_u64 s (2 ^ s) _ _ rfl (by omega) ?_ (by omega) ?_ (by omega)
    · rw [hU1]; simp
    · have : ((2 ^ s : Nat) : Int) = 2 ^ s := by simp
      rw [← this]; omega
  have e6 : bits .and .u64 (Y : Int) 4294967295 = (Y : Int) % 4294967296 := mask_u64 32 4294967296 4294967295 _ (by decide) (by decide) (by decide) (by omega) (by omega)
  have e7 : bits .and .u64 (V : Int) 4294967295 = (V : Int) % 4294967296 := mask_u64 32 4294967296 4294967295 _ (by decide) (by decide) (by decide) (by omega) (by omega)
  obtain ⟨U, hU⟩ : ∃ U : Nat, U = U1 + L1 := ⟨_, rfl⟩
  have HUY : U < Y := by omega
  rw [← hU] at HQ HR
  have e8 : (U1 : Int) + (L1 : Int) = (U : Int) := by omega
  clear hU hsh hUY hL2 hY hU1 hL1 hV
  go_upto_region 14 with (fail)
  go_cut [2, 9, 10, 11, 12, 13, 14] from 19 (fun a b c d e f g wr => ∃ N1 N0 V1 V0 : Nat, N1 = Y / 4294967296 ∧ N0 = Y % 4294967296 ∧ V1 = V / 4294967296 ∧ V0 = V % 4294967296 ∧ a = .int .u64 (Y : Int) ∧ b = .int .u64 (N1 : Int) ∧ c = .int .u64 (N0 : Int) ∧ d = .int .u64 (U : Int) ∧ e = .int .u64 (V : Int) ∧ f = .int .u64 (V1 : Int) ∧ g = .int .u64 (V0 : Int) ∧ w' = wr)
  case first =>
    go_wp2_with fail
    go_meet
    exact ⟨_, _, _, _, rfl, rfl, rfl, rfl, rfl, by go_num, by go_num, rfl, rfl, by go_num, by go_num, rfl⟩
  case rest =>
    obtain ⟨N1, N0, V1, V0, hN1, hN0, hV1, hV0, rfl, rfl, rfl, rfl, rfl, rfl, rfl, rfl⟩ := hcut
    clear e1 e2 e3 e4 e5 e6 e7 e8 t0 t1 t2
    have b1 : 2147483648 ≤ N1 := by omega
    have b2 : N1 < 4294967296 := by omega
    have b3 : N0 < 4294967296 := by omega
    have b4 : V1 < 4294967296 := by omega
    have b5 : V0 < 4294967296 := by omega
    have HV : V = V1 * 4294967296 + V0 := by omega
    obtain ⟨k1, k2, k3⟩ := kn_first hn1 HUY hn2
    have k4 := kn_ge (u := U) (v := V1) hn1 b4
    obtain ⟨Q, hQ⟩ : ∃ n : Nat, n = (U * 4294967296 + V1) / Y := ⟨_, rfl⟩
    have KD : ∀ q r, q * N1 + r = U → (4294967296 ≤ q ∨ 4294967296 * r + V1 < q * N0) → Q < q := fun q r h1 h2 => by
      subst hN1 hN0; rw [hQ]; exact kn_dec HUY b4 h1 h2
    have KL : ∀ q r, q * N1 + r = U → q * N0 ≤ 4294967296 * r + V1 → q ≤ Q := fun q r h1 h2 => by
      subst hN1 hN0; rw [hQ]; exact kn_le (by omega) h1 h2
    have KB : ∀ q r, q * N1 + r = U → q ≤ 4294967296 → 4294967296 ≤ r → q ≤ Q := fun q r h1 h2 h3 => by
      subst hN1 hN0; rw [hQ]; exact kn_brk (by omega) h1 h2 h3
    have KN : ∀ q r, q * N1 + r = U → 0 < q → (q - 1) * N1 + (r + N1) = U := fun q r h1 h2 => by
      subst hN1; exact kn_next h1 h2
    rw [← hQ, ← hN1] at k4
    rw [← hN1] at k1 k2 k3
    have KD := Lib.hid KD
    have KL := Lib.hid KL
    have KB := Lib.hid KB
    have KN := Lib.hid KN
    have HQ' := Lib.hid hQ
    have HN1 := Lib.hid hN1
    have HN0 := Lib.hid hN0
    have HV' := Lib.hid HV
    clear hQ hN1 hN0 HV hV1 hV0
    obtain ⟨Q0, hQ0⟩ : ∃ n : Nat, n = U / N1 := ⟨_, rfl⟩
    obtain ⟨R0, hR0⟩ : ∃ n : Nat, n = U % N1 := ⟨_, rfl⟩
    have g1 : IntKind.u64.wrap ((U : Int) / (N1 : Int)) = (Q0 : Int) := by
      have e : (U : Int) / (N1 : Int) = (Q0 : Int) := by rw [hQ0]; exact (Int.natCast_ediv _ _).symm
      rw [e, IntKind.wrap_u64]; omega
    rw [← hQ0, ← hR0] at k3
    rw [← hQ0] at k1 k4
    rw [← hR0] at k2
    have HK3 := Lib.hid k3
    have g2 : (Q0 : Int) * (N1 : Int) = (U : Int) - (R0 : Int) := by
      have e : ((Q0 * N1 + R0 : Nat) : Int) = (U : Int) := by rw [k3]
      rw [Int.natCast_add, Int.natCast_mul] at e
      generalize (Q0 : Int) * (N1 : Int) = Z at e ⊢
      omega
    have g3 : R0 ≤ U := by rw [← k3]; exact Nat.le_add_left _ _
    clear k3 hQ0 hR0
    go_upto_block 0 with (fail)
    go_cut [15, 16] from 67 to 85 (fun a b wr => a = .int .u64 (Q : Int) ∧ (∃ r : Int, b = .int .u64 r) ∧ w' = wr)
    case first =>
      go_wp2_with fail
      go_loop [15, 16] (fun a b => ∃ q r : Nat, a = .int .u64 (q : Int) ∧ b = .int .u64 (r : Int) ∧ Hid (q * N1 + r = U) ∧ Q ≤ q ∧ q ≤ 4294967297 ∧ r < 4294967296) (fun a _ => (intOf a).toNat)
      case atStart => exact ⟨Q0, R0, rfl, ret_val (by omega), HK3, k4, k1, k2⟩
      case round =>
        clear g1 g2 g3 k1 k4 k2
        obtain ⟨q, r, rfl, rfl, HE, c1, c2, c3⟩ := hrel
        obtain ⟨Z, hZ⟩ : ∃ Z : Nat, Z = q * N0 := ⟨_, rfl⟩
        have hz : (q : Int) * (N0 : Int) = (Z : Int) := by rw [hZ]; simp
        by_cases hq : 4294967296 ≤ q
        · have t1 : decide ((4294967296 : Int) ≤ (q : Int)) = true := decide_eq_true (by omega)
          have hlt := KD.out q r HE.out (.inl hq)
          have HE2 := Lib.hid (KN.out q r HE.out (by omega))
          have HB := Lib.hid (KB.out (q - 1) (r + N1) HE2.out (by omega))
          clear hz hZ hq
          by_cases hr : 4294967296 ≤ r + N1
          · have t2 : decide ((4294967296 : Int) ≤ (r : Int) + (N1 : Int)) = true := decide_eq_true (by omega)
            have hB := HB.out hr
            go_wp2_with fail
            go_meet
            exact ⟨ret_val (by omega), ⟨_, rfl⟩, rfl⟩
          · have t2 : decide ((4294967296 : Int) ≤ (r : Int) + (N1 : Int)) = false := decide_eq_false (by omega)
            clear HB
            go_wp2_with fail
            go_round
            case rel => exact ⟨q - 1, r + N1, ret_val (by omega), ret_val (by omega), HE2, by omega, by omega, by omega⟩
            case measure => simp [intOf]; omega
        · have t1 : decide ((4294967296 : Int) ≤ (q : Int)) = false := decide_eq_false (by omega)
          have hZ2 : Z ≤ 4294967295 * 4294967295 := by rw [hZ]; exact Nat.mul_le_mul (by omega) (by omega)
          by_cases hc : 4294967296 * r + V1 < Z
          · have t3 : decide ((4294967296 : Int) * (r : Int) + (V1 : Int) < (Z : Int)) = true := decide_eq_true (by omega)
            have hlt := KD.out q r HE.out (.inr (hZ ▸ hc))
            have HE2 := Lib.hid (KN.out q r HE.out (by omega))
            have HB := Lib.hid (KB.out (q - 1) (r + N1) HE2.out (by omega))
            clear hZ
            by_cases hr : 4294967296 ≤ r + N1
            · have t2 : decide ((4294967296 : Int) ≤ (r : Int) + (N1 : Int)) = true := decide_eq_true (by omega)
              have hB := HB.out hr
              go_wp2_with fail
              go_meet
              exact ⟨ret_val (by omega), ⟨_, rfl⟩, rfl⟩
            · have t2 : decide ((4294967296 : Int) ≤ (r : Int) + (N1 : Int)) = false := decide_eq_false (by omega)
              clear HB
              go_wp2_with fail
              go_round
              case rel => exact ⟨q - 1, r + N1, ret_val (by omega), ret_val (by omega), HE2, by omega, by omega, by omega⟩
              case measure => simp [intOf]; omega
          · have t3 : decide ((4294967296 : Int) * (r : Int) + (V1 : Int) < (Z : Int)) = false := decide_eq_false (by omega)
            have hle := KL.out q r HE.out (by rw [← hZ]; omega)
            clear hZ
            go_wp2_with fail
            go_meet
            exact ⟨ret_val (by omega), ⟨_, rfl⟩, rfl⟩
    case rest =>
      obtain ⟨rfl, ⟨r1, rfl⟩, rfl⟩ := hcut
      clear KD KL KB KN g1 g2 g3 k1 k4 k2
      obtain ⟨X, hX, x1, x2, x3⟩ := kn_left U V1 Y hn2 (by omega)
      rw [← HQ'.out] at hX
      have hx : (Q : Int) * (Y : Int) = (X : Int) := by rw [← hX]; simp
      obtain ⟨T, hT⟩ : ∃ n : Nat, n = U * 4294967296 + V1 - X := ⟨_, rfl⟩
      rw [← hT] at x2 x3
      go_upto_region 21 with (fail)
      go_cut [17] from 86 (fun t wr => t = .int .u64 (T : Int) ∧ w' = wr)
      case first =>
        go_wp2_with fail
        go_meet
        refine ⟨ret_val ?_, rfl⟩
        simp only [IntKind.wrap_u64]
        omega
      case rest =>
        obtain ⟨rfl, rfl⟩ := hcut
        clear hx
        have HTY : T < Y := by rw [x2]; exact Nat.mod_lt _ (by omega)
        have X2' := Lib.hid x2
        clear hT x2 x1 x3 hX
        obtain ⟨k1, k2, k3⟩ := kn_first hn1 HTY hn2
        have k4 := kn_ge (u := T) (v := V0) hn1 b5
        obtain ⟨Q2, hQ⟩ : ∃ n : Nat, n = (T * 4294967296 + V0) / Y := ⟨_, rfl⟩
        have hN1 := HN1.out
        have hN0 := HN0.out
        have KD : ∀ q r, q * N1 + r = T → (4294967296 ≤ q ∨ 4294967296 * r + V0 < q * N0) → Q2 < q := fun q r h1 h2 => by
          clear HN1 HN0; subst hN1 hN0; rw [hQ]; exact kn_dec HTY b5 h1 h2
        have KL : ∀ q r, q * N1 + r = T → q * N0 ≤ 4294967296 * r + V0 → q ≤ Q2 := fun q r h1 h2 => by
          clear HN1 HN0; subst hN1 hN0; rw [hQ]; exact kn_le (by omega) h1 h2
        have KB : ∀ q r, q * N1 + r = T → q ≤ 4294967296 → 4294967296 ≤ r → q ≤ Q2 := fun q r h1 h2 h3 => by
          clear HN1 HN0; subst hN1 hN0; rw [hQ]; exact kn_brk (by omega) h1 h2 h3
        have KN : ∀ q r, q * N1 + r = T → 0 < q → (q - 1) * N1 + (r + N1) = T := fun q r h1 h2 => by
          clear HN1 HN0; subst hN1; exact kn_next h1 h2
        rw [← hQ, ← hN1] at k4
        rw [← hN1] at k1 k2 k3
        have hQ2 : Q2 < 4294967296 := by rw [hQ]; exact kn_lt HTY b5
        have KD := Lib.hid KD
        have KL := Lib.hid KL
        have KB := Lib.hid KB
        have KN := Lib.hid KN
        have HQ2 := Lib.hid hQ
        clear hQ hN1 hN0
        obtain ⟨P0, hQ0⟩ : ∃ n : Nat, n = T / N1 := ⟨_, rfl⟩
        obtain ⟨P1, hR0⟩ : ∃ n : Nat, n = T % N1 := ⟨_, rfl⟩
        have g1 : IntKind.u64.wrap ((T : Int) / (N1 : Int)) = (P0 : Int) := by
          have e : (T : Int) / (N1 : Int) = (P0 : Int) := by rw [hQ0]; exact (Int.natCast_ediv _ _).symm
          rw [e, IntKind.wrap_u64]; omega
        rw [← hQ0, ← hR0] at k3
        rw [← hQ0] at k1 k4
        rw [← hR0] at k2
        have HK3 := Lib.hid k3
        have g2 : (P0 : Int) * (N1 : Int) = (T : Int) - (P1 : Int) := by
          have e : ((P0 * N1 + P1 : Nat) : Int) = (T : Int) := by rw [k3]
          rw [Int.natCast_add, Int.natCast_mul] at e
          generalize (P0 : Int) * (N1 : Int) = Z at e ⊢
          omega
        have g3 : P1 ≤ T := by rw [← k3]; exact Nat.le_add_left _ _
        clear k3 hQ0 hR0
        go_upto_block 2 with (fail)
        go_cut [18, 16] from 102 to 120 (fun a b wr => a = .int .u64 (Q2 : Int) ∧ (∃ r : Int, b = .int .u64 r) ∧ w' = wr)
        case first =>
          go_wp2_with fail
          go_loop [18, 16] (fun a b => ∃ q r : Nat, a = .int .u64 (q : Int) ∧ b = .int .u64 (r : Int) ∧ Hid (q * N1 + r = T) ∧ Q2 ≤ q ∧ q ≤ 4294967297 ∧ r < 4294967296) (fun a _ => (intOf a).toNat)
          case atStart => exact ⟨P0, P1, rfl, ret_val (by omega), HK3, k4, k1, k2⟩
          case round =>
            clear g1 g2 g3 k1 k4 k2
            obtain ⟨q, r, rfl, rfl, HE, c1, c2, c3⟩ := hrel
            obtain ⟨Z, hZ⟩ : ∃ Z : Nat, Z = q * N0 := ⟨_, rfl⟩
            have hz : (q : Int) * (N0 : Int) = (Z : Int) := by rw [hZ]; simp
            by_cases hq : 4294967296 ≤ q
            · have t1 : decide ((4294967296 : Int) ≤ (q : Int)) = true := decide_eq_true (by omega)
              have hlt := KD.out q r HE.out (.inl hq)
              have HE2 := Lib.hid (KN.out q r HE.out (by omega))
              have HB := Lib.hid (KB.out (q - 1) (r + N1) HE2.out (by omega))
              clear hz hZ hq
              by_cases hr : 4294967296 ≤ r + N1
              · have t2 : decide ((4294967296 : Int) ≤ (r : Int) + (N1 : Int)) = true := decide_eq_true (by omega)
                have hB := HB.out hr
                go_wp2_with fail
                go_meet
                exact ⟨ret_val (by omega), ⟨_, rfl⟩, rfl⟩
              · have t2 : decide ((4294967296 : Int) ≤ (r : Int) + (N1 : Int)) = false := decide_eq_false (by omega)
                clear HB
                go_wp2_with fail
                go_round
                case rel => exact ⟨q - 1, r + N1, ret_val (by omega), ret_val (by omega), HE2, by omega, by omega, by omega⟩
                case measure => simp [intOf]; omega
            · have t1 : decide ((4294967296 : Int) ≤ (q : Int)) = false := decide_eq_false (by omega)
              have hZ2 : Z ≤ 4294967295 * 4294967295 := by rw [hZ]; exact Nat.mul_le_mul (by omega) (by omega)
              by_cases hc : 4294967296 * r + V0 < Z
              · have t3 : decide ((4294967296 : Int) * (r : Int) + (V0 : Int) < (Z : Int)) = true := decide_eq_true (by omega)
                have hlt := KD.out q r HE.out (.inr (hZ ▸ hc))
                have HE2 := Lib.hid (KN.out q r HE.out (by omega))
                have HB := Lib.hid (KB.out (q - 1) (r + N1) HE2.out (by omega))
                clear hZ
                by_cases hr : 4294967296 ≤ r + N1
                · have t2 : decide ((4294967296 : Int) ≤ (r : Int) + (N1 : Int)) = true := decide_eq_true (by omega)
                  have hB := HB.out hr
                  go_wp2_with fail
                  go_meet
                  exact ⟨ret_val (by omega), ⟨_, rfl⟩, rfl⟩
                · have t2 : decide ((4294967296 : Int) ≤ (r : Int) + (N1 : Int)) = false := decide_eq_false (by omega)
                  clear HB
                  go_wp2_with fail
                  go_round
                  case rel => exact ⟨q - 1, r + N1, ret_val (by omega), ret_val (by omega), HE2, by omega, by omega, by omega⟩
                  case measure => simp [intOf]; omega
              · have t3 : decide ((4294967296 : Int) * (r : Int) + (V0 : Int) < (Z : Int)) = false := decide_eq_false (by omega)
                have hle := KL.out q r HE.out (by rw [← hZ]; omega)
                clear hZ
                go_wp2_with fail
                go_meet
                exact ⟨ret_val (by omega), ⟨_, rfl⟩, rfl⟩
        case rest =>
          obtain ⟨rfl, ⟨r2, rfl⟩, rfl⟩ := hcut
          clear KD KL KB KN g1 g2 g3 k1 k4 k2
          obtain ⟨X, hX, x1, x2, x3⟩ := kn_left T V0 Y hn2 (by omega)
          rw [← HQ2.out] at hX
          have hx : (Q2 : Int) * (Y : Int) = (X : Int) := by rw [← hX]; simp
          obtain ⟨T2, hT2⟩ : ∃ n : Nat, n = T * 4294967296 + V0 - X := ⟨_, rfl⟩
          rw [← hT2] at x2 x3
          have hQ1 : Q < 4294967296 := by rw [HQ'.out]; exact kn_lt HUY b4
          have h9 : IntKind.u64.wrap (IntKind.u64.wrap (IntKind.u64.wrap ((T : Int) * 4294967296) + (V0 : Int)) - IntKind.u64.wrap (X : Int)) = (T2 : Int) := by
            simp only [IntKind.wrap_u64]
            omega
          have FQ := Lib.hid (show (hi * 18446744073709551616 + lo) / y = Q * 4294967296 + Q2 by
            have hv := HV'.out
            have h := kn_quo U V1 V0 Y (by omega)
            have e : U * 18446744073709551616 + V = (U * 4294967296 + V1) * 4294967296 + V0 := by omega
            rw [HQ.out, HQ'.out, HQ2.out, X2'.out, ← h, e])
          have FR := Lib.hid (show (hi * 18446744073709551616 + lo) % y = T2 / 2 ^ s by
            have hv := HV'.out
            have h := kn_rem U V1 V0 Y
            have e : U * 18446744073709551616 + V = (U * 4294967296 + V1) * 4294967296 + V0 := by omega
            rw [HR.out, x2, X2'.out, ← h, e])
          clear hX x1 x2 hT2 X2' HQ HR HV' HQ' HQ2 HN1 HN0
          go_wp2_with fail
          go_ret2
          rw [FQ.out, FR.out]
          exact ⟨ret_two (by omega) (by simp), rfl⟩
/-- both ways -/
theorem div_any (hi lo y : Nat) (w : World) (h1 : lo < 18446744073709551616) (h2 : y < 18446744073709551616) (h3 : hi < y) : Calls Tryz.prog 156 #[.int .u64 (hi : Int), .int .u64 (lo : Int), .int .u64 (y : Int)] w fun e w' => e = .returned (.tuple #[.int .u64 (((hi * 18446744073709551616 + lo) / y : Nat) : Int), .int .u64 (((hi * 18446744073709551616 + lo) % y : Nat) : Int)]) ∧ ∃ n, w' = w.drewN n := by
  rcases Nat.eq_zero_or_pos hi with rfl | h0
  · rw [Nat.zero_mul, Nat.zero_add]
    exact div_zero lo y w h1 h2 h3
  · exact (div_main hi lo y w h0 h1 h2 h3).mono fun e w' ⟨a, b⟩ => ⟨a, 0, by rw [← b, World.drewN_zero]⟩
end Go.Proofs.YtlhpbfjelgmkeaaGreat
