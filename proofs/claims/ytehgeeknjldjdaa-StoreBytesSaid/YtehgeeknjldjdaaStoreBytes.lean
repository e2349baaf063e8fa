/- Of whatever texts and numbers the law StoreBytes is asked, it answers true, and leaves what came in as it was: each text that was added stands where Add told, whatever was added later. Conditions: none. -/
import Derived.Test.YtehgeeknjldjdaaBRowBytes
import Derived.Test.YtehgeeknjldjdaaBSlice
namespace Go.Proofs.Ytehgeeknjldjdaa
theorem storeBytes_holds : Rows.StoreBytesSaid := bytes_row store_says
end Go.Proofs.Ytehgeeknjldjdaa
