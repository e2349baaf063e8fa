/- For every input: AffixMany returns true and leaves its arguments as they were. Conditions: the row's own; the tables unicode/utf8.first and acceptRanges are laid as the card ties them. -/
import Derived.Test.YteenleedonmkmaaDoorVRowMany
import Derived.Test.YteenleedonmkmaaDoorWText
namespace Go.Proofs.YteenleedonmkmaaDoor
open Go Go.RowKit

theorem affixmany_claim : Rows.AffixManyCardSaid := affixmany_card affix_says
#print axioms affixmany_claim
end Go.Proofs.YteenleedonmkmaaDoor
