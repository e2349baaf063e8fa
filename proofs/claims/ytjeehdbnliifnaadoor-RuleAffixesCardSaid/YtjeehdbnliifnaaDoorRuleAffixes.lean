/- For every input: RuleAffixes returns true and leaves its arguments as they were. Conditions: the row's own; the tables unicode/utf8.first and acceptRanges are laid as the card ties them. -/
import Derived.Test.YtjeehdbnliifnaaDoorQRowAff
import Derived.Test.YtjeehdbnliifnaaDoorRSays
namespace Go.Proofs.YtjeehdbnliifnaaDoor
open Go Go.RowKit

theorem ruleAffixes_claim : Rows.RuleAffixesCardSaid := aff_card rule_says
#print axioms ruleAffixes_claim
end Go.Proofs.YtjeehdbnliifnaaDoor
