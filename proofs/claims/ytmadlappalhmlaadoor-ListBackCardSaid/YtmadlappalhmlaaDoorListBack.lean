/- For every input: ListBack returns true and leaves its arguments as they were. Conditions: the row's own; the tables unicode/utf8.first and acceptRanges are laid as the card ties them. -/
import Derived.Test.YtmadlappalhmlaaDoorYRowBack
import Derived.Test.YtmadlappalhmlaaDoorGText
namespace Go.Proofs.YtmadlappalhmlaaDoor
open Go

theorem listback_claim : Rows.ListBackCardSaid := listback_card list_says
#print axioms listback_claim
end Go.Proofs.YtmadlappalhmlaaDoor
