/- Contract of the document's own Good of values. Conditions: none. -/
import Derived.Test.YtbijpjoljljlpaaGreatDoorOrderC
import Derived.Test.YtbijpjoljljlpaaGreatDoorValD
set_option maxRecDepth 100000
namespace Go.Proofs.YtbijpjoljljlpaaGreatDoor
open Go.RowKit Go.Maps Go.Sort Go.Lib

theorem nil_list : (⟨#[]⟩ : ByteArray).toList = [] := by simp [Lib.toList_data]
end Go.Proofs.YtbijpjoljljlpaaGreatDoor
