/- For every input: AffixBack returns true and leaves its arguments as they were. Conditions: the row's own; the tables unicode/utf8.first and acceptRanges are laid as the card ties them. -/
import Derived.Test.YteenleedonmkmaaDoorVRowBack
import Derived.Test.YteenleedonmkmaaDoorWText
namespace Go.Proofs.YteenleedonmkmaaDoor
open Go Go.RowKit

theorem affixback_claim : Rows.AffixBackCardSaid := affixback_card affix_says
#print axioms affixback_claim
end Go.Proofs.YteenleedonmkmaaDoor
