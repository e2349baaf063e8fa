/- EditKnown: an edit where its text stands and where it does not, and back again. Conditions: none but the row's own. -/
import Derived.Test.YtfdnlbeancdajaaEPre
import Derived.Test.YtfdnlbeancdajaaERowP
namespace Go.Proofs.Ytfdnlbeancdajaa
open Go
theorem edit_known : Rows.EditKnownSaid := known_row edit_says
end Go.Proofs.Ytfdnlbeancdajaa
