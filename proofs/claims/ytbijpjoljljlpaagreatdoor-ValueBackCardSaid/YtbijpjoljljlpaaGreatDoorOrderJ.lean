/- Contracts of strconv.ParseUint at base 16 and 64 bits and of order's read. Conditions: fewer than 2^48 bytes; the error variables are errors. -/
import Derived.Test.YtbijpjoljljlpaaGreatDoorOrderI
import Derived.Test.YtbijpjoljljlpaaGreatDoorOrderD
import Derived.Test.YtbijpjoljljlpaaGreatDoorOrderPr
set_option maxRecDepth 100000
namespace Go.Proofs.YtbijpjoljljlpaaGreatDoor
open Go.RowKit

theorem str_list (s : ByteArray) : s.toList = s.data.toList := by obtain ⟨⟨l⟩⟩ := s; simp
theorem parseUint_empty (w : World) : Calls Tryz.prog 66 #[.string ⟨#[]⟩, .int .i64 16, .int .i64 64] w fun e w' => e = .returned (.tuple #[.int .u64 0, .iface 120 (.int .i64 2)]) ∧ w = w' := by
  go_enter Tryz.func66, Tryz.ntmps66
  go_wp2_with fail
  go_ret2
  exact ⟨rfl, rfl⟩
theorem parseUint_any (t : ByteArray) (hmax : t.size ≤ 9223372036854775806) (w : World) :
    Calls Tryz.prog 66 #[.string t, .int .i64 16, .int .i64 64] w fun e w' => ∃ x ev, e = .returned (.tuple #[.int .u64 x, ev]) ∧ Read t.data.toList x ev ∧ Below w.heap.size w w' := by
  by_cases h0 : t.size = 0
  · have ht : t = ⟨#[]⟩ := by
      obtain ⟨⟨l⟩⟩ := t
      cases l with
      | nil => rfl
      | cons _ _ => simp [ByteArray.size] at h0
    subst ht
    refine (parseUint_empty w).mono fun e w' ⟨he, hw⟩ => ⟨0, _, he, ⟨by omega, by omega, .inr ⟨.inl rfl, fun c _ e => ?_⟩⟩, by subst hw; exact Below.refl _ _⟩
    have := congrArg List.length e
    rw [hexN_len] at this
    simp at this
  · exact parseUint_in t h0 hmax w
/-- what strconv.ParseUint answers -/
def ReadE (bs : List UInt8) (x : Int) (ev : Value) : Prop :=
  0 ≤ x ∧ x < 18446744073709551616 ∧ ((ev = .nilIface ∧ ∀ c < 18446744073709551616, bs = hexN 16 c → x = (c : Int)) ∨ ((∃ te pe, ev = .iface te pe) ∧ NoHex bs))
theorem parseUintE_any (t : ByteArray) (hmax : t.size ≤ 281474976710656) {w : World} (hv : Vars w) :
    Calls Tryz.prog 50 #[.string t, .int .i64 16, .int .i64 64] w fun e w' => ∃ x ev, e = .returned (.tuple #[.int .u64 x, ev]) ∧ ReadE t.data.toList x ev ∧ Below w.heap.size w w' := by
  have K := parseUint_any t (by omega) w
  have HV := Lib.hid hv
  have HM := Lib.hid hmax
  clear hv hmax
  go_enter Tryz.func50, Tryz.ntmps50
  go_wp2_with fail
  refine K.mono ?_
  rintro e w1 ⟨x, ev, rfl, hr, b1⟩
  have HV1 := Lib.hid (HV.out.below b1)
  have HB := Lib.hid b1
  have HX := Lib.hid (And.intro hr.1 hr.2.1)
  obtain ⟨_, _, ⟨rfl, h⟩ | ⟨h, hno⟩⟩ := hr
  · have HC := Lib.hid h
    clear h b1 K
    go_wp2_with fail
    go_ret2
    exact ⟨x, _, rfl, ⟨HX.out.1, HX.out.2, .inl ⟨rfl, HC.out⟩⟩, HB.out⟩
  · have HN := Lib.hid hno
    clear hno b1 K
    rcases h with rfl | rfl
    · obtain ⟨_, ⟨v, hv1, hv2⟩, _⟩ := HV1.out
      have K2 := Tryz.strconv_toError_syntax ⟨#[80, 97, 114, 115, 101, 85, 105, 110, 116]⟩ t 16 64 v w1 HM.out hv1 hv2
      clear hv1 hv2
      go_wp2_with fail
      refine K2.mono ?_
      rintro e w2 ⟨N, rfl, _, _, b2⟩
      have HB2 := Lib.hid (HB.out.trans (b2.mono HB.out.size))
      clear b2 K2
      go_wp2_with fail
      go_ret2
      exact ⟨x, _, rfl, ⟨HX.out.1, HX.out.2, .inr ⟨⟨_, _, rfl⟩, HN.out⟩⟩, HB2.out⟩
    · obtain ⟨_, _, ⟨v, hv1, hv2⟩⟩ := HV1.out
      have K2 := Tryz.strconv_toError_range ⟨#[80, 97, 114, 115, 101, 85, 105, 110, 116]⟩ t 16 64 v w1 HM.out hv1 hv2
      clear hv1 hv2
      go_wp2_with fail
      refine K2.mono ?_
      rintro e w2 ⟨N, rfl, _, _, b2⟩
      have HB2 := Lib.hid (HB.out.trans (b2.mono HB.out.size))
      clear b2 K2
      go_wp2_with fail
      go_ret2
      exact ⟨x, _, rfl, ⟨HX.out.1, HX.out.2, .inr ⟨⟨_, _, rfl⟩, HN.out⟩⟩, HB2.out⟩
end Go.Proofs.YtbijpjoljljlpaaGreatDoor
