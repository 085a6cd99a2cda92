/- The walks of OrderTells and OrderBacks. Conditions: the tables and error variables as the program's text lays them. -/
import Derived.Test.YtacbijgnmhkgoaaDoorOrderL
import Derived.Test.YtacbijgnmhkgoaaDoorOrderG
set_option maxRecDepth 100000
namespace Go.Proofs.YtacbijgnmhkgoaaDoor
open Go.RowKit

set_option maxHeartbeats 1600000 in
theorem tells_walk (a b : Nat) (ha : a < 18446744073709551616) (hb : b < 18446744073709551616) {w : World} (hv : Tab w) : Calls Tryd.prog 3 #[.int .i64 (iw a), .int .i64 (iw b)] w fun e w' => e = .returned (.bool true) ∧ Below w.heap.size w w' := by
  have K1 := fun w => canon_any a ha w
  have K2 := fun w => refCanon_any a ha w
  have K3 := fun w => good_any a ha w
  have K4 := fun w => refGood_any a ha w
  have K5 := fun w => nan_any a ha w
  have K6 := fun w => refNan_any a ha w
  have K7 := fun w => key_any a ha w
  have K8 := fun w => refKey_any a ha w
  have K9 := fun w => cmp_any a b ha hb w
  have K10 := fun w => refCmp_any a b ha hb w
  have K11 := print_any hv a ha
  have K12 := fun w => refPrint_any a ha w
  have HV := Lib.hid hv
  generalize iw (canonW a) = x1 at K1 K2
  generalize goodW a = x2 at K3 K4
  generalize nanW a = x3 at K5 K6
  generalize ((keyW a : Nat) : Int) = x4 at K7 K8
  generalize cmpK a b = x5 at K9 K10
  generalize prW a = x6 at K11 K12
  have ht := toList_mk x6
  generalize (⟨x6.toArray⟩ : ByteArray) = x7 at K11 K12 ht
  clear hv ha hb
  go_enter Tryd.func3, Tryd.ntmps3
  go_wp2_with fail
  refine (K1 _).mono ?_; rintro e w' ⟨rfl, rfl⟩; go_wp2_with fail
  refine (K2 _).mono ?_; rintro e w' ⟨rfl, rfl⟩; go_wp2_with fail
  refine (K3 _).mono ?_; rintro e w' ⟨rfl, rfl⟩; go_wp2_with fail
  refine (K4 _).mono ?_; rintro e w' ⟨rfl, rfl⟩; go_wp2_with fail
  refine (K5 _).mono ?_; rintro e w' ⟨rfl, rfl⟩; go_wp2_with fail
  refine (K6 _).mono ?_; rintro e w' ⟨rfl, rfl⟩; go_wp2_with fail
  refine (K7 _).mono ?_; rintro e w' ⟨rfl, rfl⟩; go_wp2_with fail
  refine (K8 _).mono ?_; rintro e w' ⟨rfl, rfl⟩; go_wp2_with fail
  refine (K9 _).mono ?_; rintro e w' ⟨rfl, rfl⟩; go_wp2_with fail
  refine (K10 _).mono ?_; rintro e w' ⟨rfl, rfl⟩; go_wp2_with fail
  refine K11.mono ?_
  rintro e w1 ⟨rfl, b1⟩
  have B1 := Lib.hid b1
  have V1 := Lib.hid (HV.out.below b1)
  clear b1
  go_wp2_with fail
  refine (K12 _).mono ?_
  rintro e w2 ⟨rfl, b2⟩
  have B2 := Lib.hid (B1.out.trans (b2.mono B1.out.size))
  have K13 := lives_any (V1.out.below b2)
  clear b2
  go_wp2_with fail
  refine K13.mono ?_
  rintro e w3 ⟨rfl, b3⟩
  have B3 := Lib.hid (B2.out.trans (b3.mono B2.out.size))
  clear b3
  go_wp2_with fail
  go_ret
  exact ⟨rfl, B3.out⟩
set_option maxHeartbeats 1600000 in
theorem backs_walk (k : Nat) (hk : k < 18446744073709551616) (s : ByteArray) {w : World} (hv : Vars w) : Calls Tryd.prog 4 #[.int .u64 (k : Int), .string s] w fun e w' => e = .returned (.bool true) ∧ Below w.heap.size w w' := by
  by_cases hs : 1000 < s.size
  · have K := lives_any hv.tab
    have t1 : decide ((1000 : Int) < (s.size : Int)) = true := decide_eq_true (by omega)
    clear hv
    go_enter Tryd.func4, Tryd.ntmps4
    go_wp2_with fail
    refine K.mono ?_
    rintro e w1 ⟨rfl, b1⟩
    have B1 := Lib.hid b1
    clear b1
    go_wp2_with fail
    go_ret
    exact ⟨rfl, B1.out⟩
  · have t1 : decide ((1000 : Int) < (s.size : Int)) = false := decide_eq_false (by omega)
    have K1 := parse_any s (by omega) hv
    have K2 := fun w => refParse_any s w
    have K3 := fun w => back_any k hk w
    have K4 := fun w => refBack_any k hk w
    have K5 := fun w => intBack_any k hk w
    have K6 := fun w => refIntBack_any k hk w
    have K7 := fun w => intKey_any k hk w
    have K8 := fun w => refIntKey_any k hk w
    have hw := iw_i64 k hk
    have HV := Lib.hid hv
    generalize iw (backW k) = x1 at K3 K4
    generalize iw (xorS k) = x2 at K5 K6
    generalize ((xorS k : Nat) : Int) = x3 at K7 K8
    clear hv hk hs
    go_enter Tryd.func4, Tryd.ntmps4
    go_wp2_with fail
    refine K1.mono ?_
    rintro e w1 ⟨x, ok, rfl, hp1, b1⟩
    have B1 := Lib.hid b1
    have V1 := Lib.hid (HV.out.below b1)
    have P1 := Lib.hid hp1
    clear b1 hp1
    go_wp2_with fail
    refine (K2 _).mono ?_
    rintro e w2 ⟨y, ok2, rfl, hp2, b2⟩
    obtain ⟨rfl, rfl⟩ := parseP_same P1.out hp2
    have B2 := Lib.hid (B1.out.trans (b2.mono B1.out.size))
    have K13 := lives_any (V1.out.below b2).tab
    clear b2 hp2 K1 K2 P1
    go_wp2_with fail
    refine (K3 _).mono ?_; rintro e w' ⟨rfl, rfl⟩; go_wp2_with fail
    refine (K4 _).mono ?_; rintro e w' ⟨rfl, rfl⟩; go_wp2_with fail
    refine (K5 _).mono ?_; rintro e w' ⟨rfl, rfl⟩; go_wp2_with fail
    refine (K6 _).mono ?_; rintro e w' ⟨rfl, rfl⟩; go_wp2_with fail
    refine (K7 _).mono ?_; rintro e w' ⟨rfl, rfl⟩; go_wp2_with fail
    refine (K8 _).mono ?_; rintro e w' ⟨rfl, rfl⟩; go_wp2_with fail
    refine K13.mono ?_
    rintro e w3 ⟨rfl, b3⟩
    have B3 := Lib.hid (B2.out.trans (b3.mono B2.out.size))
    clear b3
    go_wp2_with fail
    go_ret
    exact ⟨rfl, B3.out⟩
end Go.Proofs.YtacbijgnmhkgoaaDoor
