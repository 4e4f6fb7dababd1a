/- Texts of the proof, put together by program: WSetUo. -/
import Derived.Test.YtohdpgclokgohaaGreatDoorP25
import Derived.Test.YtohdpgclokgohaaGreatDoorP24
/- PartSet of the model : the answer owns its memory. -/
namespace Go.Proofs.YtohdpgclokgohaaGreatDoor
open Go.RowKit Go.Deep

end Go.Proofs.YtohdpgclokgohaaGreatDoor
