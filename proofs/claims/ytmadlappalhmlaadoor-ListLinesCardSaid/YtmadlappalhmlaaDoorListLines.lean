/- For every input: ListLines returns true and leaves its arguments as they were. Conditions: the row's own; the tables unicode/utf8.first and acceptRanges are laid as the card ties them. -/
import Derived.Test.YtmadlappalhmlaaDoorYRowLines
import Derived.Test.YtmadlappalhmlaaDoorGText
namespace Go.Proofs.YtmadlappalhmlaaDoor
open Go

theorem listlines_claim : Rows.ListLinesCardSaid := listlines_card list_says
#print axioms listlines_claim
end Go.Proofs.YtmadlappalhmlaaDoor
