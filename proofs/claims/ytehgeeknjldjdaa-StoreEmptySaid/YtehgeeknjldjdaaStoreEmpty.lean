/- Of whatever text and numbers the law StoreEmpty is asked, it answers true, and leaves what came in as it was: an empty text takes no place, and a slice of nothing is there at each place up to the end, at none above it. Conditions: none. -/
import Derived.Test.YtehgeeknjldjdaaBRowEmpty
import Derived.Test.YtehgeeknjldjdaaBSlice
namespace Go.Proofs.Ytehgeeknjldjdaa
theorem storeEmpty_holds : Rows.StoreEmptySaid := empty_row store_says
end Go.Proofs.Ytehgeeknjldjdaa
