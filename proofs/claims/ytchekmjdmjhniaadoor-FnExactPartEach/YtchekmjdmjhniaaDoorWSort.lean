/- slices.Sort of texts, as the library's own contract has it. -/
import Derived.Test.YtchekmjdmjhniaaDoorShelf
import Derived.Test.YtchekmjdmjhniaaDoorWSortN
namespace Go.Proofs.YtchekmjdmjhniaaDoor
open Go.RowKit Go.Deep Go.Sort

theorem sortStrs : SortStrs := fun blk cap ss w hH hb hl => Any.slices_Sort_string Tryd.lays190 blk 0 cap ss w hH hb hl
end Go.Proofs.YtchekmjdmjhniaaDoor
