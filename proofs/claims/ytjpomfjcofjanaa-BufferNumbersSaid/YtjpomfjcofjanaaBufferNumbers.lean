/- BufferNumbers: texts and calls by numbers, each within the text: a buffer answers as a flat text does. Conditions: none but the row's own. -/
import Derived.Test.YtjpomfjcofjanaaDSays
import Derived.Test.YtjpomfjcofjanaaCRowNums
namespace Go.Proofs.Ytjpomfjcofjanaa
open Go
theorem buffer_numbers : Rows.BufferNumbersSaid := nums_row buffer_says
end Go.Proofs.Ytjpomfjcofjanaa
