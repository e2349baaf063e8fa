/- Of whatever text and numbers the law StoreNone is asked, it answers true, and leaves what came in as it was: a slice is there, and is those bytes, just where all of it lies within the text; else the answer is empty and false. Conditions: none. -/
import Derived.Test.YtehgeeknjldjdaaBRowNone
import Derived.Test.YtehgeeknjldjdaaBSlice
namespace Go.Proofs.Ytehgeeknjldjdaa
theorem storeNone_holds : Rows.StoreNoneSaid := none__row store_says
end Go.Proofs.Ytehgeeknjldjdaa
