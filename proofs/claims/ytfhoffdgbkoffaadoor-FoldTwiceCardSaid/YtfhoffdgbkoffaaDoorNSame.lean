/- The document's Same of chapter 9, where the items are the same. -/
import Derived.Test.YtfhoffdgbkoffaaDoorNMem
namespace Go.Proofs.YtfhoffdgbkoffaaDoor
open Go Go.RowKit

end Go.Proofs.YtfhoffdgbkoffaaDoor
