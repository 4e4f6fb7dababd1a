/- Texts of the proof, put together by program: WDrawI. -/
import Derived.Test.YtilgbnnjecpneaaGreatDoorV15
/- Drawn trees: l1Two of the model. -/
namespace Go.Proofs.YtilgbnnjecpneaaGreatDoor
open Go.RowKit Go.Deep

end Go.Proofs.YtilgbnnjecpneaaGreatDoor
