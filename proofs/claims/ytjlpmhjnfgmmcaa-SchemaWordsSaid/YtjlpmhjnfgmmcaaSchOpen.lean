/- What the statements of schema share: the program's knobs, arguments opened. Conditions: none. -/
import Derived.Test.YtjlpmhjnfgmmcaaSchL
import Derived.Test.YtjlpmhjnfgmmcaaArgs
import Derived.ProofKit
import Derived.OpenShut
import Derived.ShutString
import Derived.ChangeOld
import Derived.Below
set_option maxRecDepth 100000
namespace Go.Proofs.Ytjlpmhjnfgmmcaa
open Go.ChangeShapes Go.WideShapes Go.ChangeAt Go.RowKit
theorem own : ownKnob Try.prog.godebug = none := by kernel_rfl
theorem laidOut : laidOutB Try.prog = true := by kernel_rfl
end Go.Proofs.Ytjlpmhjnfgmmcaa
