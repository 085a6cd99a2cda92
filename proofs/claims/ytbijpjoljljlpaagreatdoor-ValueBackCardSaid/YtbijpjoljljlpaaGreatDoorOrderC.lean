/- Contracts of the reference's Nan, Canon, Good, Key, Back, IntKey, IntBack, Cmp. Conditions: none. -/
import Derived.Test.YtbijpjoljljlpaaGreatDoorOrderB
import Derived.IntWalk
set_option maxRecDepth 100000
namespace Go.Proofs.YtbijpjoljljlpaaGreatDoor
open Go.RowKit

/-- the bits of the exponent -/
def expW (u : Nat) : Nat := u / 4503599627370496 % 2048 * 4503599627370496
theorem and_exp (u : Nat) (hu : u < 18446744073709551616) : bits .and .u64 (u : Int) 9218868437227405312 = ((expW u : Nat) : Int) := by
  have e := and_u64 u 9218868437227405312 hu (by omega)
  have h1 : (u &&& 9218868437227405312) % 2 ^ 52 = 0 := by
    rw [Nat.and_mod_two_pow, show 9218868437227405312 % 2 ^ 52 = 0 from rfl, Nat.and_zero]
  have h2 : (u &&& 9218868437227405312) / 2 ^ 52 = u / 2 ^ 52 % 2 ^ 11 := by
    rw [Nat.and_div_two_pow, show 9218868437227405312 / 2 ^ 52 = 2 ^ 11 - 1 from rfl, Nat.and_two_pow_sub_one_eq_mod]
  have h3 : u &&& 9218868437227405312 = expW u := by unfold expW; omega
  rw [h3] at e
  exact e
theorem and_frac (u : Nat) (hu : u < 18446744073709551616) : bits .and .u64 (u : Int) 4503599627370495 = ((u % 4503599627370496 : Nat) : Int) := by
  have e := and_u64 u 4503599627370495 hu (by omega)
  have h2 : u &&& 4503599627370495 = u % 4503599627370496 := Nat.and_two_pow_sub_one_eq_mod u 52
  rw [h2] at e
  exact e
theorem inf1_word (w : World) : Calls Tryz.prog 49 #[.int .i64 1] w fun e w' => e = .returned (.float .f64 9218868437227405312) ∧ w = w' := by
  have hr : ∀ w, (callFunc 45 #[.int .u64 9218868437227405312]).run Tryz.prog w = .ok (.value (.float .f64 9218868437227405312)) w := fun w => frombits_run 9218868437227405312 w
  go_enter Tryz.func49, Tryz.ntmps49
  go_wp2_with fail
  go_ret
  exact ⟨rfl, rfl⟩
theorem infm_word (w : World) : Calls Tryz.prog 49 #[.int .i64 (-1)] w fun e w' => e = .returned (.float .f64 18442240474082181120) ∧ w = w' := by
  have hr : ∀ w, (callFunc 45 #[.int .u64 18442240474082181120]).run Tryz.prog w = .ok (.value (.float .f64 18442240474082181120)) w := fun w => frombits_run 18442240474082181120 w
  go_enter Tryz.func49, Tryz.ntmps49
  go_wp2_with fail
  go_ret
  exact ⟨rfl, rfl⟩
end Go.Proofs.YtbijpjoljljlpaaGreatDoor
