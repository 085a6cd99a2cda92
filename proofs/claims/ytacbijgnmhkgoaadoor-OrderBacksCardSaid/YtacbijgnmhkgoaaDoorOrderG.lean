/- The example of layer 5: as the document says it. Conditions: the tables as the program's text lays them. -/
import Derived.Test.YtacbijgnmhkgoaaDoorOrderF
set_option maxRecDepth 100000
namespace Go.Proofs.YtacbijgnmhkgoaaDoor
open Go.RowKit

theorem lives_any {w : World} (hv : Tab w) : Calls Tryd.prog 20 #[] w fun e w' => e = .returned (.bool true) ∧ Below w.heap.size w w' := by
  have K1 := fun w => canon_any 9223372036854775808 (by decide) w
  rw [show iw 9223372036854775808 = -9223372036854775808 from rfl, show iw (canonW 9223372036854775808) = 0 from rfl] at K1
  have K2 := fun w => key_any 0 (by decide) w
  rw [show iw 0 = 0 from rfl, show ((keyW 0 : Nat) : Int) = 9223372036854775808 from rfl] at K2
  have K3 := print_any hv 4607182418800017408 (by decide)
  rw [show iw 4607182418800017408 = 4607182418800017408 from rfl, show prW 4607182418800017408 = [48, 102, 51, 102, 102, 48, 48, 48, 48, 48, 48, 48, 48, 48, 48, 48, 48, 48] from by decide +kernel] at K3
  have K4 := fun w => cmp_any 9221120237041090561 9218868437227405312 (by decide) (by decide) w
  rw [show iw 9221120237041090561 = 9221120237041090561 from rfl, show iw 9218868437227405312 = 9218868437227405312 from rfl, show cmpK 9221120237041090561 9218868437227405312 = 1 from rfl] at K4
  have hb : ∀ w, (callFunc 33 #[.float .f64 4607182418800017408]).run Tryd.prog w = .ok (.value (.int .u64 4607182418800017408)) w := fun w => bits_run 4607182418800017408 w
  clear hv
  go_enter Tryd.func20, Tryd.ntmps20
  go_wp2_with fail
  refine (K1 _).mono ?_; rintro e w' ⟨rfl, rfl⟩; go_wp2_with fail
  refine (K2 _).mono ?_; rintro e w' ⟨rfl, rfl⟩; go_wp2_with fail
  refine K3.mono ?_; rintro e w1 ⟨rfl, b1⟩
  have B1 := Lib.hid b1
  clear b1
  go_wp2_with fail
  refine (K4 _).mono ?_; rintro e w' ⟨rfl, rfl⟩; go_wp2_with fail
  go_ret
  exact ⟨rfl, B1.out⟩
end Go.Proofs.YtacbijgnmhkgoaaDoor
