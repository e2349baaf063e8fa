/- EditDoes: Do of any text, range and bytes answers and makes what the document's own answer says. Conditions: none but the row's own. -/
import Derived.Test.YtfdnlbeancdajaaESays
import Derived.Test.YtfdnlbeancdajaaERowD
namespace Go.Proofs.Ytfdnlbeancdajaa
open Go
theorem edit_does : Rows.EditDoesSaid := does_row edit_says buffer_b
end Go.Proofs.Ytfdnlbeancdajaa
