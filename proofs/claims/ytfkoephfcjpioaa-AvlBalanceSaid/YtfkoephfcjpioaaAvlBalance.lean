/- Of whatever numbers the law AvlBalance is asked, it answers true, and leaves what came in as it was: items put in front, behind, in the middle, taken away, the tree's height stays as low as the document says, and each place is found again. Conditions: none. -/
import Derived.Test.YtfkoephfcjpioaaARowBalance
import Derived.Test.YtfkoephfcjpioaaTCalls
namespace Go.Proofs.Ytfkoephfcjpioaa
theorem avlBalance_holds : Rows.AvlBalanceSaid := balance_row tree_says
end Go.Proofs.Ytfkoephfcjpioaa
