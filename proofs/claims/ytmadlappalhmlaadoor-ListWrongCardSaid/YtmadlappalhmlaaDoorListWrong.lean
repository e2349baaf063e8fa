/- For every input: ListWrong returns true and leaves its arguments as they were. Conditions: the row's own; the tables unicode/utf8.first and acceptRanges are laid as the card ties them. -/
import Derived.Test.YtmadlappalhmlaaDoorYRowWrong
import Derived.Test.YtmadlappalhmlaaDoorGText
namespace Go.Proofs.YtmadlappalhmlaaDoor
open Go

theorem listwrong_claim : Rows.ListWrongCardSaid := listwrong_card list_says
#print axioms listwrong_claim
end Go.Proofs.YtmadlappalhmlaaDoor
