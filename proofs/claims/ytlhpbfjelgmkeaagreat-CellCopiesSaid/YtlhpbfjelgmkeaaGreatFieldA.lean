/- Contracts of field's and the reference's Of, Add, Good. Conditions: none (each a uint64). -/
import Derived.Test.YtlhpbfjelgmkeaaGreatBits
import Derived.Test.YtlhpbfjelgmkeaaGreatFermat
import Derived.Test.YtlhpbfjelgmkeaaGreatShelf
import Derived.Outline
set_option maxRecDepth 100000
namespace Go.Proofs.YtlhpbfjelgmkeaaGreat
open Go.RowKit

theorem mask61 (x : Int) (h0 : 0 ≤ x) (h1 : x < 18446744073709551616) : bits .and .u64 x 2305843009213693951 = x % 2305843009213693952 := by
  have := bits_mask .u64 64 (Nat.le_refl _) wu64 61 (by omega) x h0 (by omega)
  rw [show (2305843009213693951 : Int) = 2 ^ 61 - 1 by decide, this]; omega

theorem good_any (x : Int) (w : World) : Calls Tryz.prog 60 #[.int .u64 x] w fun e w' => e = .returned (.bool (decide (x < 2305843009213693951))) ∧ w = w' := by
  go_enter Tryz.func60, Tryz.ntmps60
  go_wp2
  go_ret
  exact ⟨rfl, rfl⟩
theorem of_any (x : Int) (w : World) (h0 : 0 ≤ x) (h1 : x < 18446744073709551616) : Calls Tryz.prog 218 #[.int .u64 x] w fun e w' => e = .returned (.int .u64 (x % 2305843009213693951)) ∧ w = w' := by
  have hm := mask61 x h0 h1
  by_cases h2 : x % 2305843009213693952 + x / 2305843009213693952 < 2305843009213693951
  · have h3 : x % 2305843009213693952 + x / 2305843009213693952 = x % 2305843009213693951 := by omega
    have H3 := Lib.hid h3
    clear h3
    go_enter Tryz.func218, Tryz.ntmps218
    go_wp2_with fail
    refine (good_any _ _).mono ?_
    rintro e w' ⟨rfl, rfl⟩
    go_wp2_with fail
    go_ret
    exact ⟨ret_int H3.out, rfl⟩
  · have h3 : x % 2305843009213693952 + x / 2305843009213693952 - 2305843009213693951 = x % 2305843009213693951 := by omega
    have H3 := Lib.hid h3
    clear h3
    go_enter Tryz.func218, Tryz.ntmps218
    go_wp2_with fail
    refine (good_any _ _).mono ?_
    rintro e w' ⟨rfl, rfl⟩
    go_wp2_with fail
    go_ret
    exact ⟨ret_int H3.out, rfl⟩
theorem add_any (x y : Int) (w : World) (h0 : 0 ≤ x) (h1 : x < 18446744073709551616) (h2 : 0 ≤ y) (h3 : y < 18446744073709551616) : Calls Tryz.prog 214 #[.int .u64 x, .int .u64 y] w fun e w' => e = .returned (.int .u64 ((x + y) % 2305843009213693951)) ∧ w = w' := by
  go_enter Tryz.func214, Tryz.ntmps214
  go_wp2_with fail
  refine (of_any _ _ h0 h1).mono ?_
  rintro e w' ⟨rfl, rfl⟩
  go_wp2_with fail
  refine (of_any _ _ h2 h3).mono ?_
  rintro e w' ⟨rfl, rfl⟩
  go_wp2_with fail
  refine (of_any _ _ (by omega) (by omega)).mono ?_
  rintro e w' ⟨rfl, rfl⟩
  go_wp2_with fail
  go_ret
  exact ⟨ret_int (by omega), rfl⟩
end Go.Proofs.YtlhpbfjelgmkeaaGreat
