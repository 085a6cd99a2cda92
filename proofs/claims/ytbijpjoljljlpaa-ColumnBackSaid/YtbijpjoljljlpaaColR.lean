/- The document's Good and Where. Conditions: none. -/
import Derived.Test.YtbijpjoljljlpaaColB
set_option maxRecDepth 100000
namespace Go.Proofs.Ytbijpjoljljlpaa
open Go.RowKit Go.Maps Go.Sort

end Go.Proofs.Ytbijpjoljljlpaa
