/- Contracts of the reference's Nan, Canon, Good, Key, Back, IntKey, IntBack, Cmp. Conditions: none. -/
import Derived.Test.YtlhpbfjelgmkeaaGreatOrderB
import Derived.IntWalk
set_option maxRecDepth 100000
namespace Go.Proofs.YtlhpbfjelgmkeaaGreat
open Go.RowKit

/-- the bits of the exponent -/
def expW (u : Nat) : Nat := u / 4503599627370496 % 2048 * 4503599627370496
theorem and_exp (u : Nat) (hu : u < 18446744073709551616) : bits .and .u64 (u : Int) 9218868437227405312 = ((expW u : Nat) : Int) := by
  have e := and_u64 u 9218868437227405312 hu (by omega)
  have h1 : (u &&& 9218868437227405312) % 2 ^ 52 = 0 := by
    rw [Nat.and_mod_two_pow, show 9218868437227405312 % 2 ^ 52 = 0 from rfl, Nat.and_zero]
  have h2 : (u &&& 9218868437227405312) / 2 ^ 52 = u / 2 ^ 52 % 2 ^ 11 := by
    rw [Nat.and_div_two_pow, show 9218868437227405312 / 2 ^ 52 = 2 ^ 11 - 1 from rfl, Nat.and_two_pow_sub_one_eq_mod]
  have h3 : u &&& 9218868437227405312 = expW u := by unfold expW; omega
  rw [h3] at e
  exact e
theorem and_frac (u : Nat) (hu : u < 18446744073709551616) : bits .and .u64 (u : Int) 4503599627370495 = ((u % 4503599627370496 : Nat) : Int) := by
  have e := and_u64 u 4503599627370495 hu (by omega)
  have h2 : u &&& 4503599627370495 = u % 4503599627370496 := Nat.and_two_pow_sub_one_eq_mod u 52
  rw [h2] at e
  exact e
theorem refNan_any (u : Nat) (hu : u < 18446744073709551616) (w : World) : Calls Tryz.prog 152 #[.int .i64 (iw u)] w fun e w' => e = .returned (.bool (nanW u)) ∧ w = w' := by
  have hw := iw_u64 u hu
  have a1 := and_exp u hu
  have a2 := and_frac u hu
  obtain ⟨x, hx⟩ : ∃ x, x = expW u := ⟨_, rfl⟩
  obtain ⟨y, hy⟩ : ∃ y, y = u % 4503599627370496 := ⟨_, rfl⟩
  rw [← hx] at a1
  rw [← hy] at a2
  by_cases h1 : x = 9218868437227405312
  · by_cases h2 : y = 0
    · have hn : nanW u = false := nanW_not.2 (by unfold expW at hx; omega)
      rw [hn]
      subst h1 h2
      clear hx hy hn
      go_enter Tryz.func152, Tryz.ntmps152
      go_wp2_with fail
      go_ret
      exact ⟨rfl, rfl⟩
    · have hn : nanW u = true := nanW_iff.2 (by unfold expW at hx; omega)
      rw [hn]
      have t0 : ((y : Int) != 0) = true := ne_cast (b := 0) h2
      subst h1
      clear hx hy hn h2
      go_enter Tryz.func152, Tryz.ntmps152
      go_wp2_with fail
      go_ret
      exact ⟨rfl, rfl⟩
  · have hn : nanW u = false := nanW_not.2 (by unfold expW at hx; omega)
    rw [hn]
    have t0 : ((x : Int) == 9218868437227405312) = false := neq_cast (b := 9218868437227405312) h1
    clear hx hy hn h1
    go_enter Tryz.func152, Tryz.ntmps152
    go_wp2_with fail
    go_ret
    exact ⟨rfl, rfl⟩
theorem refCanon_any (u : Nat) (hu : u < 18446744073709551616) (w : World) : Calls Tryz.prog 151 #[.int .i64 (iw u)] w fun e w' => e = .returned (.int .i64 (iw (canonW u))) ∧ w = w' := by
  have K1 := fun w => refNan_any u hu w
  have hw := iw_u64 u hu
  cases hn : nanW u
  · rw [hn] at K1
    have hc := canon_not hn
    by_cases h : u = 9223372036854775808
    · rw [if_pos h] at hc
      rw [hc, show iw 0 = 0 from rfl]
      have t0 : ((u : Int) == 9223372036854775808) = true := by rw [beq_iff_eq]; omega
      clear hc hn h
      go_enter Tryz.func151, Tryz.ntmps151
      go_wp2_with fail
      refine (K1 _).mono ?_; rintro e w' ⟨rfl, rfl⟩; go_wp2_with fail
      go_ret
      exact ⟨rfl, rfl⟩
    · rw [if_neg h] at hc
      rw [hc]
      have t0 : ((u : Int) == 9223372036854775808) = false := neq_cast (b := 9223372036854775808) h
      clear hc hn h
      go_enter Tryz.func151, Tryz.ntmps151
      go_wp2_with fail
      refine (K1 _).mono ?_; rintro e w' ⟨rfl, rfl⟩; go_wp2_with fail
      go_ret
      exact ⟨rfl, rfl⟩
  · rw [hn] at K1
    rw [canon_nan hn, show iw 9221120237041090560 = 9221120237041090560 from rfl]
    clear hn
    go_enter Tryz.func151, Tryz.ntmps151
    go_wp2_with fail
    refine (K1 _).mono ?_; rintro e w' ⟨rfl, rfl⟩; go_wp2_with fail
    go_ret
    exact ⟨rfl, rfl⟩
theorem refKey_any (u : Nat) (hu : u < 18446744073709551616) (w : World) : Calls Tryz.prog 119 #[.int .i64 (iw u)] w fun e w' => e = .returned (.int .u64 ((keyW u : Nat) : Int)) ∧ w = w' := by
  have K1 := fun w => refCanon_any u hu w
  have K2 := fun w => refNan_any u hu w
  obtain ⟨c, hc⟩ : ∃ c, c = canonW u := ⟨_, rfl⟩
  have hl : c < 18446744073709551616 := by rw [hc]; exact canon_lt u hu
  have hy := @key_yes u
  have hk := @key_no u
  have hw := iw_u64 c hl
  rw [← hc] at K1 hk
  clear hc
  cases h : nanW u
  · rw [h] at K2
    have hk := hk h
    clear hy h
    by_cases hs : 9223372036854775808 ≤ c
    · rw [if_pos hs] at hk
      have t0 : decide ((9223372036854775808 : Int) ≤ (c : Int)) = true := decide_eq_true (by omega)
      have hx := not_u64 c hl
      obtain ⟨r, hr⟩ : ∃ r, r = 18446744073709551615 - c := ⟨_, rfl⟩
      rw [show 18446744073709551615 - (c : Int) = ((r : Nat) : Int) by omega] at hx
      rw [hk, ← hr]
      clear hk hr hs
      go_enter Tryz.func119, Tryz.ntmps119
      go_wp2_with fail
      refine (K1 _).mono ?_; rintro e w' ⟨rfl, rfl⟩; go_wp2_with fail
      refine (K2 _).mono ?_; rintro e w' ⟨rfl, rfl⟩; go_wp2_with fail
      go_ret
      exact ⟨rfl, rfl⟩
    · rw [if_neg hs] at hk
      have t0 : decide ((9223372036854775808 : Int) ≤ (c : Int)) = false := decide_eq_false (by omega)
      have hx : IntKind.u64.wrap ((c : Int) + 9223372036854775808) = (((c + 9223372036854775808 : Nat)) : Int) := by rw [IntKind.wrap_u64]; omega
      rw [hk]
      obtain ⟨r, hr⟩ : ∃ r, r = c + 9223372036854775808 := ⟨_, rfl⟩
      rw [← hr] at hx ⊢
      clear hk hr hs hl
      go_enter Tryz.func119, Tryz.ntmps119
      go_wp2_with fail
      refine (K1 _).mono ?_; rintro e w' ⟨rfl, rfl⟩; go_wp2_with fail
      refine (K2 _).mono ?_; rintro e w' ⟨rfl, rfl⟩; go_wp2_with fail
      go_ret
      exact ⟨rfl, rfl⟩
  · rw [h] at K2
    rw [hy h]
    clear hy hk h
    go_enter Tryz.func119, Tryz.ntmps119
    go_wp2_with fail
    refine (K1 _).mono ?_; rintro e w' ⟨rfl, rfl⟩; go_wp2_with fail
    refine (K2 _).mono ?_; rintro e w' ⟨rfl, rfl⟩; go_wp2_with fail
    go_ret
    exact ⟨rfl, rfl⟩
theorem refCmp_any (a b : Nat) (ha : a < 18446744073709551616) (hb : b < 18446744073709551616) (w : World) : Calls Tryz.prog 77 #[.int .i64 (iw a), .int .i64 (iw b)] w fun e w' => e = .returned (.int .i64 (cmpK a b)) ∧ w = w' := by
  have K1 := fun w => refKey_any a ha w
  have K2 := fun w => refKey_any b hb w
  obtain ⟨R, hR⟩ : ∃ R, R = cmpK a b := ⟨_, rfl⟩
  rw [← hR]
  unfold cmpK at hR
  generalize keyW a = x at K1 hR
  generalize keyW b = y at K2 hR
  have hc : (R = -1 ∧ decide (x < y) = true) ∨ (R = 1 ∧ decide (x < y) = false ∧ decide (y < x) = true) ∨ (R = 0 ∧ decide (x < y) = false ∧ decide (y < x) = false) := by
    simp only [decide_eq_true_eq, decide_eq_false_iff_not]
    by_cases h1 : x < y
    · rw [if_pos h1] at hR; omega
    · rw [if_neg h1] at hR
      by_cases h2 : y < x
      · rw [if_pos h2] at hR; omega
      · rw [if_neg h2] at hR; omega
  clear hR
  rcases hc with ⟨rfl, t1⟩ | ⟨rfl, t1, t2⟩ | ⟨rfl, t1, t2⟩
  all_goals
    go_enter Tryz.func77, Tryz.ntmps77
    go_wp2_with fail
    refine (K1 _).mono ?_; rintro e w' ⟨rfl, rfl⟩; go_wp2_with fail
    refine (K2 _).mono ?_; rintro e w' ⟨rfl, rfl⟩; go_wp2_with fail
    go_ret
    exact ⟨rfl, rfl⟩
end Go.Proofs.YtlhpbfjelgmkeaaGreat
