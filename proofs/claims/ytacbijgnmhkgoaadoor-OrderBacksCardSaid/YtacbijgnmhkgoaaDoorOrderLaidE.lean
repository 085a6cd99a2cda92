/- A world in which the tables and error variables of the library read as the program's text lays them. Conditions: none. -/
import Derived.Test.YtacbijgnmhkgoaaDoorOrderLaid
set_option maxRecDepth 100000
namespace Go.Proofs.YtacbijgnmhkgoaaDoor
theorem laid_metE (os : Os) (args : Array Value) : laidMetH Tryd.prog laidE ((World.laidAll Tryd.prog os laidE).forCall (fun _ _ => 0) ⟨#[], args, []⟩).memory := by
  rw [MakeChecks.laidMetH_plain _ _ _ (by kernel_rfl)]; exact laidMet_laidAll _ (by kernel_rfl) (by kernel_rfl)
end Go.Proofs.YtacbijgnmhkgoaaDoor
