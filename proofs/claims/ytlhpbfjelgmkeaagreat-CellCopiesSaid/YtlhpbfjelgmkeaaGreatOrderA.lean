/- Contracts of the small functions of order on floats: float, IsNaN, Signbit, Canon, Good, Nan. Conditions: none. -/
import Derived.Test.YtlhpbfjelgmkeaaGreatBits
import Derived.Test.YtlhpbfjelgmkeaaGreatFloatOrder
import Derived.Test.YtlhpbfjelgmkeaaGreatShelf
import Derived.Laws.Externs
import Derived.Outline
set_option maxRecDepth 100000
namespace Go.Proofs.YtlhpbfjelgmkeaaGreat
open Go.RowKit

/-- a word as an int -/
def iw (u : Nat) : Int := if u < 9223372036854775808 then (u : Int) else (u : Int) - 18446744073709551616
theorem iw_u64 (u : Nat) (h : u < 18446744073709551616) : IntKind.u64.wrap (iw u) = (u : Int) := by
  rw [IntKind.wrap_u64]; unfold iw; split <;> omega
theorem iw_i64 (u : Nat) (h : u < 18446744073709551616) : IntKind.i64.wrap (u : Int) = iw u := by
  rw [IntKind.wrap_i64]; unfold iw; split <;> omega
theorem iw_of (n : Int) (h0 : -9223372036854775808 ≤ n) (h1 : n < 9223372036854775808) : ∃ u : Nat, u < 18446744073709551616 ∧ n = iw u := by
  by_cases h : 0 ≤ n
  · exact ⟨n.toNat, by omega, by unfold iw; rw [if_pos (by omega)]; omega⟩
  · exact ⟨(n + 18446744073709551616).toNat, by omega, by unfold iw; rw [if_neg (by omega)]; omega⟩
theorem iw_inj {u v : Nat} (hu : u < 18446744073709551616) (hv : v < 18446744073709551616) : iw u = iw v ↔ u = v := by
  unfold iw; split <;> split <;> omega
theorem iw_bounds (u : Nat) (h : u < 18446744073709551616) : -9223372036854775808 ≤ iw u ∧ iw u < 9223372036854775808 := by
  unfold iw; split <;> omega
theorem iw_neg (u : Nat) (h : u < 18446744073709551616) : iw u < 0 ↔ 9223372036854775808 ≤ u := by
  unfold iw; split <;> omega

/-- the highest bit turned -/
def xorS (u : Nat) : Nat := if u < 9223372036854775808 then u + 9223372036854775808 else u - 9223372036854775808
theorem xorS_lt (u : Nat) (h : u < 18446744073709551616) : xorS u < 18446744073709551616 := by unfold xorS; split <;> omega
theorem xorS_back (u : Nat) (h : u < 18446744073709551616) : xorS (xorS u) = u := by unfold xorS; split <;> split <;> omega
theorem xor_pow (u : Nat) (h : u < 18446744073709551616) : u ^^^ 9223372036854775808 = xorS u := by
  have e1 : (u ^^^ 2 ^ 63) % 2 ^ 63 = u % 2 ^ 63 := by rw [Nat.xor_mod_two_pow, Nat.mod_self, Nat.xor_zero]
  have e2 : (u ^^^ 2 ^ 63) / 2 ^ 63 = u / 2 ^ 63 ^^^ 1 := by rw [Nat.xor_div_two_pow]
  rw [show u ^^^ 9223372036854775808 = u ^^^ 2 ^ 63 from rfl]
  generalize u ^^^ 2 ^ 63 = x at e1 e2 ⊢
  unfold xorS
  rcases (by omega : u / 2 ^ 63 = 0 ∨ u / 2 ^ 63 = 1) with h1 | h1
  · rw [h1, show 0 ^^^ 1 = 1 from rfl] at e2; rw [if_pos (by omega)]; omega
  · rw [h1, show 1 ^^^ 1 = 0 from rfl] at e2; rw [if_neg (by omega)]; omega
theorem xor_sign (u : Nat) (h : u < 18446744073709551616) : bits .xor .u64 (u : Int) 9223372036854775808 = ((xorS u : Nat) : Int) := by
  have hx := xorS_lt u h
  have h2 : (BitVec.ofInt 64 9223372036854775808).toNat = 9223372036854775808 := by decide
  show IntKind.u64.wrap ((BitVec.ofInt 64 (u : Int) ^^^ BitVec.ofInt 64 9223372036854775808).toNat : Int) = _
  rw [BitVec.toNat_xor, ofInt_nat64 u h, h2, xor_pow u h, IntKind.wrap_u64]
  omega

theorem frombits_run (u : Nat) (w : World) : (callFunc 148 #[.int .u64 (u : Int)]).run Tryz.prog w = .ok (.value (.float .f64 u)) w := by
  rw [run_callFunc_extern Tryz.func148 (by kernel_rfl) (by kernel_rfl) (by kernel_rfl) (e := Extern.MathFloatBits.float64frombits) (by kernel_rfl)]
  rfl
theorem bits_run (u : Nat) (w : World) : (callFunc 235 #[.float .f64 u]).run Tryz.prog w = .ok (.value (.int .u64 (u : Int))) w := by
  rw [run_callFunc_extern Tryz.func235 (by kernel_rfl) (by kernel_rfl) (by kernel_rfl) (e := Extern.MathFloatBits.float64bits) (by kernel_rfl)]
  rfl
theorem float_any (u : Nat) (hu : u < 18446744073709551616) (w : World) : Calls Tryz.prog 116 #[.int .i64 (iw u)] w fun e w' => e = .returned (.float .f64 u) ∧ w = w' := by
  have hw := iw_u64 u hu
  have hr := frombits_run u
  go_enter Tryz.func116, Tryz.ntmps116
  go_wp2_with fail
  go_ret
  exact ⟨rfl, rfl⟩
theorem f64_order (x y : Nat) : FloatKind.f64.format.order x y = Ieee.double.order x y := rfl
theorem order_self (u : Nat) (hu : u < 18446744073709551616) : (FloatKind.f64.format.order u u != some .eq) = nanW u := by
  rw [f64_order, order_words u u hu hu]
  unfold nanW
  by_cases h : 9218868437227405312 < u % 9223372036854775808
  · rw [if_pos (.inl h), decide_eq_true h]; rfl
  · rw [if_neg (by omega), decide_eq_false h, Int.compare_eq_eq.2 rfl]; rfl
theorem isNaN_any (u : Nat) (hu : u < 18446744073709551616) (w : World) : Calls Tryz.prog 149 #[.float .f64 u] w fun e w' => e = .returned (.bool (nanW u)) ∧ w = w' := by
  have ho := order_self u hu
  go_enter Tryz.func149, Tryz.ntmps149
  go_wp2_with fail
  go_ret
  exact ⟨rfl, rfl⟩
theorem signbit_any (u : Nat) (hu : u < 18446744073709551616) (w : World) : Calls Tryz.prog 234 #[.float .f64 u] w fun e w' => e = .returned (.bool (decide (9223372036854775808 ≤ u))) ∧ w = w' := by
  have hr := bits_run u
  have hw := iw_i64 u hu
  have hd : decide (iw u < 0) = decide (9223372036854775808 ≤ u) := by rw [decide_eq_decide]; exact iw_neg u hu
  go_enter Tryz.func234, Tryz.ntmps234
  go_wp2_with fail
  go_ret
  exact ⟨rfl, rfl⟩
theorem order_zero (u : Nat) (hu : u < 18446744073709551616) (hn : nanW u = false) : (FloatKind.f64.format.order u 0 == some .eq) = decide (u % 9223372036854775808 = 0) := by
  rw [f64_order, order_words u 0 hu (by decide), if_neg (by have := nanW_not.1 hn; omega), show fS 0 = 0 from rfl]
  by_cases h : u % 9223372036854775808 = 0
  · have e : fS u = 0 := by unfold fS; rw [h]; unfold sgn; split <;> rfl
    rw [e, decide_eq_true h]; rfl
  · have e : fS u ≠ 0 := by rcases fS_cases u hu with ⟨h1, h2⟩ | ⟨h1, h2⟩ <;> omega
    rw [decide_eq_false h]
    rcases Int.lt_or_gt_of_ne e with h3 | h3
    · rw [Int.compare_eq_lt.2 h3]; rfl
    · rw [Int.compare_eq_gt.2 h3]; rfl
theorem canon_any (u : Nat) (hu : u < 18446744073709551616) (w : World) : Calls Tryz.prog 233 #[.int .i64 (iw u)] w fun e w' => e = .returned (.int .i64 (iw (canonW u))) ∧ w = w' := by
  have K1 := fun w => float_any u hu w
  have K2 := fun w => isNaN_any u hu w
  cases hn : nanW u
  · have ho := order_zero u hu hn
    by_cases hz : u % 9223372036854775808 = 0
    · have HR : iw (canonW u) = 0 := by
        rw [canon_not hn]
        by_cases h : u = 9223372036854775808
        · rw [if_pos h]; rfl
        · rw [if_neg h, show u = 0 by omega]; rfl
      rw [HR]
      rw [decide_eq_true hz] at ho
      rw [hn] at K2
      clear HR hn hz
      go_enter Tryz.func233, Tryz.ntmps233
      go_wp2_with (first | (go_at_call 116; refine (K1 _).mono ?_; rintro e w' ⟨rfl, rfl⟩) | (go_at_call 149; refine (K2 _).mono ?_; rintro e w' ⟨rfl, rfl⟩))
      go_ret
      exact ⟨rfl, rfl⟩
    · have HR : canonW u = u := by rw [canon_not hn, if_neg (by omega)]
      rw [HR]
      rw [decide_eq_false hz] at ho
      rw [hn] at K2
      clear HR hn hz
      go_enter Tryz.func233, Tryz.ntmps233
      go_wp2_with (first | (go_at_call 116; refine (K1 _).mono ?_; rintro e w' ⟨rfl, rfl⟩) | (go_at_call 149; refine (K2 _).mono ?_; rintro e w' ⟨rfl, rfl⟩))
      go_ret
      exact ⟨rfl, rfl⟩
  · have HR : iw (canonW u) = 9221120237041090560 := by rw [canon_nan hn]; rfl
    rw [HR]
    rw [hn] at K2
    clear HR hn
    go_enter Tryz.func233, Tryz.ntmps233
    go_wp2_with (first | (go_at_call 116; refine (K1 _).mono ?_; rintro e w' ⟨rfl, rfl⟩) | (go_at_call 149; refine (K2 _).mono ?_; rintro e w' ⟨rfl, rfl⟩))
    go_ret
    exact ⟨rfl, rfl⟩
theorem nan_any (u : Nat) (hu : u < 18446744073709551616) (w : World) : Calls Tryz.prog 117 #[.int .i64 (iw u)] w fun e w' => e = .returned (.bool (nanW u)) ∧ w = w' := by
  have K1 := fun w => float_any u hu w
  have K2 := fun w => isNaN_any u hu w
  go_enter Tryz.func117, Tryz.ntmps117
  go_wp2_with (first | (go_at_call 116; refine (K1 _).mono ?_; rintro e w' ⟨rfl, rfl⟩) | (go_at_call 149; refine (K2 _).mono ?_; rintro e w' ⟨rfl, rfl⟩))
  go_ret
  exact ⟨rfl, rfl⟩
def goodW (u : Nat) : Bool := decide (canonW u = u)
theorem good_eq (u : Nat) (hu : u < 18446744073709551616) : (iw (canonW u) == iw u) = goodW u := by
  unfold goodW; rw [Bool.eq_iff_iff, beq_iff_eq, decide_eq_true_iff]; exact iw_inj (canon_lt u hu) hu
theorem ogood_any (u : Nat) (hu : u < 18446744073709551616) (w : World) : Calls Tryz.prog 312 #[.int .i64 (iw u)] w fun e w' => e = .returned (.bool (goodW u)) ∧ w = w' := by
  have K1 := fun w => canon_any u hu w
  have hg := good_eq u hu
  go_enter Tryz.func312, Tryz.ntmps312
  go_wp2_with (go_at_call 233; refine (K1 _).mono ?_; rintro e w' ⟨rfl, rfl⟩)
  go_ret
  exact ⟨rfl, rfl⟩
theorem intKey_any (u : Nat) (hu : u < 18446744073709551616) (w : World) : Calls Tryz.prog 226 #[.int .i64 (iw u)] w fun e w' => e = .returned (.int .u64 ((xorS u : Nat) : Int)) ∧ w = w' := by
  have hw := iw_u64 u hu
  have hx := xor_sign u hu
  go_enter Tryz.func226, Tryz.ntmps226
  go_wp2_with fail
  go_ret
  exact ⟨rfl, rfl⟩
end Go.Proofs.YtlhpbfjelgmkeaaGreat
