/- The walk of WideInts. Conditions: none. -/
import Derived.Test.YtnljlbdecknbpaaWideV
import Derived.ProofKit
import Derived.OpenShut
import Derived.ChangeOld
set_option maxRecDepth 100000
namespace Go.Proofs.Ytnljlbdecknbpaa
open Go.RowKit

theorem own : ownKnob Try.prog.godebug = none := by kernel_rfl
theorem laidOut : laidOutB Try.prog = true := by kernel_rfl

theorem wideCells : Try.prog.cellsOf 24 = 2 := by kernel_rfl
set_option maxHeartbeats 1600000 in
theorem ints_walk (n m h l : Int) (n0 : -9223372036854775808 ≤ n) (n1 : n < 9223372036854775808) (m0 : -9223372036854775808 ≤ m) (m1 : m < 9223372036854775808) (l0 : 0 ≤ l) (l1 : l < 18446744073709551616) (w : World) : Calls Try.prog 4 #[.int .i64 n, .int .i64 m, .agg #[.int .i64 h, .int .u64 l]] w fun e w' => e = .returned (.bool true) ∧ Below w.heap.size w w' := by
  have K1 := fun w => fits_any h l w l0 l1
  have K2 := fun w => refFits_any h l w l0 l1
  have K3 := fun w => of_any n w n0 n1
  have K4 := fun w => refOf_any n w n0 n1
  have K5 := fun w => mul_any n m w n0 n1 m0 m1
  have K6 := fun w => refMul_any n m w n0 n1 m0 m1
  unfold wv at K3 K4 K5 K6
  generalize int64 (h * 18446744073709551616 + l) = x at K1 K2
  generalize fit64 (h * 18446744073709551616 + l) = b at K1 K2
  generalize hiW n = p at K3 K4
  generalize loW n = q at K3 K4
  generalize hiW (n * m) = r at K5 K6
  generalize loW (n * m) = s at K5 K6
  go_enter Try.func4, Try.ntmps4
  go_wp2_with fail
  refine (K1 _).mono ?_
  rintro e w1 ⟨rfl, b1⟩
  replace b1 := o1_next (Below.refl _ _) b1
  have hc := c1_cells b1
  clear K1
  go_wp2_with fail
  refine (K2 _).mono ?_
  rintro e w2 ⟨rfl, b2⟩
  replace b2 := o1_next b1 b2
  clear K2 b1 hc
  go_wp2_with fail
  refine (K3 _).mono ?_
  rintro e w3 ⟨rfl, b3⟩
  replace b3 := o1_next b2 b3
  clear K3 b2
  go_wp2_with fail
  refine (K4 _).mono ?_
  rintro e w4 ⟨rfl, b4⟩
  replace b4 := o1_next b3 b4
  clear K4 b3
  go_wp2_with fail
  refine (K5 _).mono ?_
  rintro e w5 ⟨rfl, b5⟩
  replace b5 := o1_next b4 b5
  clear K5 b4
  go_wp2_with fail
  refine (K6 _).mono ?_
  rintro e w6 ⟨rfl, b6⟩
  replace b6 := o1_next b5 b6
  clear K6 b5
  go_wp2_with fail
  refine (lives_any _).mono ?_
  rintro e w7 ⟨rfl, b7⟩
  replace b7 := o1_next b6 b7
  clear b6
  go_wp2_with fail
  go_ret
  exact ⟨rfl, o1_done b7⟩
end Go.Proofs.Ytnljlbdecknbpaa
