/- Texts of the proof, put together by program: WEq. -/
import Derived.Test.YthbpfiandjggcaaV1
import Derived.Test.YthbpfiandjggcaaV5
/- eqStringS, eqVal, eqValS: two trees are one. -/
namespace Go.Proofs.Ythbpfiandjggcaa
open Go.RowKit Go.Deep
end Go.Proofs.Ythbpfiandjggcaa
