/- HistoryDepth: of more groups than the depth the last ones can be undone, the last one first, then there is none; and all of them can be done again. Conditions: none but the row's own. -/
import Derived.Test.YtibccdbmdajijaaJPush
import Derived.Test.YtibccdbmdajijaaHRows
namespace Go.Proofs.Ytibccdbmdajijaa
open Go
theorem history_depth : Rows.HistoryDepthSaid := depth_row hist_says
end Go.Proofs.Ytibccdbmdajijaa
