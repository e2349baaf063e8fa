/- BufferPlays: whatever calls are done to a buffer and to a flat text, both answer the same, and the buffer's text is the flat one behind each; a new text of too many bytes is refused. Conditions: none but the row's own. -/
import Derived.Test.YtjpomfjcofjanaaDSays
import Derived.Test.YtjpomfjcofjanaaCRowPlays
namespace Go.Proofs.Ytjpomfjcofjanaa
open Go
theorem buffer_plays : Rows.BufferPlaysSaid := plays_row buffer_says
end Go.Proofs.Ytjpomfjcofjanaa
