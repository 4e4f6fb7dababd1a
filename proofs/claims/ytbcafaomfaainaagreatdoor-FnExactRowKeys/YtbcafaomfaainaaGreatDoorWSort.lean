/- slices.Sort of texts, as the library's own contract has it. -/
import Derived.Test.YtbcafaomfaainaaGreatDoorShelf
import Derived.Test.YtbcafaomfaainaaGreatDoorWSortN
namespace Go.Proofs.YtbcafaomfaainaaGreatDoor
open Go.RowKit Go.Deep Go.Sort

theorem sortStrs : SortStrs := fun blk cap ss w hH hb hl => Any.slices_Sort_string Tryz.lays190 blk 0 cap ss w hH hb hl
end Go.Proofs.YtbcafaomfaainaaGreatDoor
