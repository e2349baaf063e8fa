/- For every input: ListAll returns true and leaves its arguments as they were. Conditions: the row's own; the tables unicode/utf8.first and acceptRanges are laid as the card ties them. -/
import Derived.Test.YtmadlappalhmlaaDoorYRowAll
import Derived.Test.YtmadlappalhmlaaDoorGText
namespace Go.Proofs.YtmadlappalhmlaaDoor
open Go

theorem listall_claim : Rows.ListAllCardSaid := listall_card list_says
#print axioms listall_claim
end Go.Proofs.YtmadlappalhmlaaDoor
