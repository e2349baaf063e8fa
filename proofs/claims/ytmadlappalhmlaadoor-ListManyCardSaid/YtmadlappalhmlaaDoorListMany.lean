/- For every input: ListMany returns true and leaves its arguments as they were. Conditions: the row's own; the tables unicode/utf8.first and acceptRanges are laid as the card ties them. -/
import Derived.Test.YtmadlappalhmlaaDoorYRowMany
import Derived.Test.YtmadlappalhmlaaDoorGText
namespace Go.Proofs.YtmadlappalhmlaaDoor
open Go

theorem listmany_claim : Rows.ListManyCardSaid := listmany_card list_says
#print axioms listmany_claim
end Go.Proofs.YtmadlappalhmlaaDoor
