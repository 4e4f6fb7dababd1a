/- Texts of the proof, put together by program: WDrawI. -/
import Derived.Test.YtmibjmipndffmaaGreatDoorT13
/- Drawn trees: l1Two of the model. -/
namespace Go.Proofs.YtmibjmipndffmaaGreatDoor
open Go.RowKit Go.Deep

end Go.Proofs.YtmibjmipndffmaaGreatDoor
