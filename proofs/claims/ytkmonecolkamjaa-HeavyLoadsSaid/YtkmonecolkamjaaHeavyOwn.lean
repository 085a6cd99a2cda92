/- Two closed facts of this translation that every row asks. Conditions: none. -/
import Derived.Test.YtkmonecolkamjaaGen
import Derived.ProofKit
import Derived.OpenShut
import Derived.ChangeOld
import Derived.ChangeSame
namespace Go.Proofs.Ytkmonecolkamjaa
theorem own : ownKnob Try.prog.godebug = none := by kernel_rfl
theorem laidOut : laidOutB Try.prog = true := by kernel_rfl
end Go.Proofs.Ytkmonecolkamjaa
