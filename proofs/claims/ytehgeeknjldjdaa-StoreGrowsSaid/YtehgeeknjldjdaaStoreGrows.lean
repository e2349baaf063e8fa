/- Of whatever texts and numbers the law StoreGrows is asked, it answers true, and leaves what came in as it was: texts added one behind the other lie where Add says, and a slice of them is there at each step and at the end. Conditions: none. -/
import Derived.Test.YtehgeeknjldjdaaBRowGrows
import Derived.Test.YtehgeeknjldjdaaBSlice
namespace Go.Proofs.Ytehgeeknjldjdaa
theorem storeGrows_holds : Rows.StoreGrowsSaid := grows_row store_says
end Go.Proofs.Ytehgeeknjldjdaa
