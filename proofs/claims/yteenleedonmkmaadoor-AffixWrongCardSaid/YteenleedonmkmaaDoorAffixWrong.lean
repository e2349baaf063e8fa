/- For every input: AffixWrong returns true and leaves its arguments as they were. Conditions: the row's own; the tables unicode/utf8.first and acceptRanges are laid as the card ties them. -/
import Derived.Test.YteenleedonmkmaaDoorVRowWrong
import Derived.Test.YteenleedonmkmaaDoorWText
namespace Go.Proofs.YteenleedonmkmaaDoor
open Go Go.RowKit

theorem affixwrong_claim : Rows.AffixWrongCardSaid := affixwrong_card affix_says
#print axioms affixwrong_claim
end Go.Proofs.YteenleedonmkmaaDoor
