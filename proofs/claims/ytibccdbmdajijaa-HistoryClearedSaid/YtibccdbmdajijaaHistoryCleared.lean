/- HistoryCleared: behind a new group nothing can be redone; one of no edits turns nothing. Conditions: none but the row's own. -/
import Derived.Test.YtibccdbmdajijaaJPush
import Derived.Test.YtibccdbmdajijaaHRows
namespace Go.Proofs.Ytibccdbmdajijaa
open Go
theorem history_cleared : Rows.HistoryClearedSaid := clear_row hist_says
end Go.Proofs.Ytibccdbmdajijaa
