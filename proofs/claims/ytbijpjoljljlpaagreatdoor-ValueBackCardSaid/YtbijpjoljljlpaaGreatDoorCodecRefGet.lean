/- Contract of talusref02.Get: the number that bytes begin with. Conditions: none. -/
import Derived.Test.YtbijpjoljljlpaaGreatDoorCodecGet
set_option maxRecDepth 100000
namespace Go.Proofs.YtbijpjoljljlpaaGreatDoor
open Go.RowKit Go.Maps Go.Sort

end Go.Proofs.YtbijpjoljljlpaaGreatDoor
