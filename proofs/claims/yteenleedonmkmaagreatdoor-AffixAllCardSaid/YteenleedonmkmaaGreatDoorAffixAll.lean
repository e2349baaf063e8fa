/- For every text and every affix file: AffixAll returns true and leaves its arguments as they were. Conditions: the row's own; the tables unicode/utf8.first and acceptRanges are laid as the card ties them. -/
import Derived.Test.YteenleedonmkmaaGreatDoorVRowAll
import Derived.Test.YteenleedonmkmaaGreatDoorWText
namespace Go.Proofs.YteenleedonmkmaaGreatDoor
open Go Go.RowKit

theorem affixall_claim : Rows.AffixAllCardSaid := affixall_card affix_says
#print axioms affixall_claim
end Go.Proofs.YteenleedonmkmaaGreatDoor
