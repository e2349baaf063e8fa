/- HistoryPlays: a history of any depth answers as the document's own, whatever is pushed, undone, redone. Conditions: none but the row's own. -/
import Derived.Test.YtibccdbmdajijaaJPush
import Derived.Test.YtibccdbmdajijaaHRowPlays
namespace Go.Proofs.Ytibccdbmdajijaa
open Go
theorem history_plays : Rows.HistoryPlaysSaid := plays_row hist_says
end Go.Proofs.Ytibccdbmdajijaa
