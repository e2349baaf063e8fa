/- BufferPlaces: places that are none are told, and nothing is turned. Conditions: none but the row's own. -/
import Derived.Test.YtjpomfjcofjanaaDSays
import Derived.Test.YtjpomfjcofjanaaCRowTwo
namespace Go.Proofs.Ytjpomfjcofjanaa
open Go
theorem buffer_places : Rows.BufferPlacesSaid := places_row buffer_says
end Go.Proofs.Ytjpomfjcofjanaa
