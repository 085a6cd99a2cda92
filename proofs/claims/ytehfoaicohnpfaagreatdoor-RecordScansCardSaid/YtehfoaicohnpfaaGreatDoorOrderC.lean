/- Contracts of the reference's Nan, Canon, Good, Key, Back, IntKey, IntBack, Cmp. Conditions: none. -/
import Derived.Test.YtehfoaicohnpfaaGreatDoorOrderB
import Derived.IntWalk
set_option maxRecDepth 100000
namespace Go.Proofs.YtehfoaicohnpfaaGreatDoor
open Go.RowKit

/-- the bits of the exponent -/
def expW (u : Nat) : Nat := u / 4503599627370496 % 2048 * 4503599627370496
theorem and_exp (u : Nat) (hu : u < 18446744073709551616) : bits .and .u64 (u : Int) 9218868437227405312 = ((expW u : Nat) : Int) := by
  have e := and_u64 u 9218868437227405312 hu (by omega)
  have h1 : (u &&& 9218868437227405312) % 2 ^ 52 = 0 := by
    rw [Nat.and_mod_two_pow, show 9218868437227405312 % 2 ^ 52 = 0 from rfl, Nat.and_zero]
  have h2 : (u &&& 9218868437227405312) / 2 ^ 52 = u / 2 ^ 52 % 2 ^ 11 := by
    rw [Nat.and_div_two_pow, show 9218868437227405312 / 2 ^ 52 = 2 ^ 11 - 1 from rfl, Nat.and_two_pow_sub_one_eq_mod]
  have h3 : u &&& 9218868437227405312 = expW u := by unfold expW; omega
  rw [h3] at e
  exact e
theorem and_frac (u : Nat) (hu : u < 18446744073709551616) : bits .and .u64 (u : Int) 4503599627370495 = ((u % 4503599627370496 : Nat) : Int) := by
  have e := and_u64 u 4503599627370495 hu (by omega)
  have h2 : u &&& 4503599627370495 = u % 4503599627370496 := Nat.and_two_pow_sub_one_eq_mod u 52
  rw [h2] at e
  exact e
theorem refNan_any (u : Nat) (hu : u < 18446744073709551616) (w : World) : Calls Tryz.prog 69 #[.int .i64 (iw u)] w fun e w' => e = .returned (.bool (nanW u)) ∧ w = w' := by
  have hw := iw_u64 u hu
  have a1 := and_exp u hu
  have a2 := and_frac u hu
  obtain ⟨x, hx⟩ : ∃ x, x = expW u := ⟨_, rfl⟩
  obtain ⟨y, hy⟩ : ∃ y, y = u % 4503599627370496 := ⟨_, rfl⟩
  rw [← hx] at a1
  rw [← hy] at a2
  by_cases h1 : x = 9218868437227405312
  · by_cases h2 : y = 0
    · have hn : nanW u = false := nanW_not.2 (by unfold expW at hx; omega)
      rw [hn]
      subst h1 h2
      clear hx hy hn
      go_enter Tryz.func69, Tryz.ntmps69
      go_wp2_with fail
      go_ret
      exact ⟨rfl, rfl⟩
    · have hn : nanW u = true := nanW_iff.2 (by unfold expW at hx; omega)
      rw [hn]
      have t0 : ((y : Int) != 0) = true := ne_cast (b := 0) h2
      subst h1
      clear hx hy hn h2
      go_enter Tryz.func69, Tryz.ntmps69
      go_wp2_with fail
      go_ret
      exact ⟨rfl, rfl⟩
  · have hn : nanW u = false := nanW_not.2 (by unfold expW at hx; omega)
    rw [hn]
    have t0 : ((x : Int) == 9218868437227405312) = false := neq_cast (b := 9218868437227405312) h1
    clear hx hy hn h1
    go_enter Tryz.func69, Tryz.ntmps69
    go_wp2_with fail
    go_ret
    exact ⟨rfl, rfl⟩
theorem refCanon_any (u : Nat) (hu : u < 18446744073709551616) (w : World) : Calls Tryz.prog 66 #[.int .i64 (iw u)] w fun e w' => e = .returned (.int .i64 (iw (canonW u))) ∧ w = w' := by
  have K1 := fun w => refNan_any u hu w
  have hw := iw_u64 u hu
  cases hn : nanW u
  · rw [hn] at K1
    have hc := canon_not hn
    by_cases h : u = 9223372036854775808
    · rw [if_pos h] at hc
      rw [hc, show iw 0 = 0 from rfl]
      have t0 : ((u : Int) == 9223372036854775808) = true := by rw [beq_iff_eq]; omega
      clear hc hn h
      go_enter Tryz.func66, Tryz.ntmps66
      go_wp2_with fail
      refine (K1 _).mono ?_; rintro e w' ⟨rfl, rfl⟩; go_wp2_with fail
      go_ret
      exact ⟨rfl, rfl⟩
    · rw [if_neg h] at hc
      rw [hc]
      have t0 : ((u : Int) == 9223372036854775808) = false := neq_cast (b := 9223372036854775808) h
      clear hc hn h
      go_enter Tryz.func66, Tryz.ntmps66
      go_wp2_with fail
      refine (K1 _).mono ?_; rintro e w' ⟨rfl, rfl⟩; go_wp2_with fail
      go_ret
      exact ⟨rfl, rfl⟩
  · rw [hn] at K1
    rw [canon_nan hn, show iw 9221120237041090560 = 9221120237041090560 from rfl]
    clear hn
    go_enter Tryz.func66, Tryz.ntmps66
    go_wp2_with fail
    refine (K1 _).mono ?_; rintro e w' ⟨rfl, rfl⟩; go_wp2_with fail
    go_ret
    exact ⟨rfl, rfl⟩
theorem refGood_any (u : Nat) (hu : u < 18446744073709551616) (w : World) : Calls Tryz.prog 60 #[.int .i64 (iw u)] w fun e w' => e = .returned (.bool (goodW u)) ∧ w = w' := by
  have K1 := fun w => refCanon_any u hu w
  have hg := good_eq u hu
  go_enter Tryz.func60, Tryz.ntmps60
  go_wp2_with fail
  refine (K1 _).mono ?_; rintro e w' ⟨rfl, rfl⟩; go_wp2_with fail
  go_ret
  exact ⟨rfl, rfl⟩
end Go.Proofs.YtehfoaicohnpfaaGreatDoor
