/- Of whatever numbers the law AvlPlaces is asked, it answers true, and leaves what came in as it was: of items of sizes by numbers each place within is found, with how far, and above all there is none. Conditions: none. -/
import Derived.Test.YtfkoephfcjpioaaARowPlaces
import Derived.Test.YtfkoephfcjpioaaTCalls
namespace Go.Proofs.Ytfkoephfcjpioaa
theorem avlPlaces_holds : Rows.AvlPlacesSaid := places_row tree_says
end Go.Proofs.Ytfkoephfcjpioaa
