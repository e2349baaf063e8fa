/- BufferFull: a buffer takes as much as may be; what would be more is refused whole, and what goes makes room. Conditions: none but the row's own. -/
import Derived.Test.YtjpomfjcofjanaaDSays
import Derived.Test.YtjpomfjcofjanaaCRowTwo
namespace Go.Proofs.Ytjpomfjcofjanaa
open Go
theorem buffer_full : Rows.BufferFullSaid := full_row buffer_says
end Go.Proofs.Ytjpomfjcofjanaa
