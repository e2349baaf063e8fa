/- EditApplies: Apply and Inverse say of any text and any edit what the document's own answer says. Conditions: none but the row's own. -/
import Derived.Test.YtfdnlbeancdajaaEPre
import Derived.Test.YtfdnlbeancdajaaERowP
namespace Go.Proofs.Ytfdnlbeancdajaa
open Go
theorem edit_applies : Rows.EditAppliesSaid := applies_row edit_says
end Go.Proofs.Ytfdnlbeancdajaa
