/- HistoryKeeps: a group is kept as it was, whatever becomes of the list that was handed in, or of those answered. Conditions: none but the row's own. -/
import Derived.Test.YtibccdbmdajijaaJPush
import Derived.Test.YtibccdbmdajijaaHRows
namespace Go.Proofs.Ytibccdbmdajijaa
open Go
theorem history_keeps : Rows.HistoryKeepsSaid := keeps_row hist_says
end Go.Proofs.Ytibccdbmdajijaa
