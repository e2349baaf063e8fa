/- For every s: RuleBack returns true and leaves its argument as it was. Conditions: the row's own; the tables unicode/utf8.first and acceptRanges are laid as the card ties them. -/
import Derived.Test.YtjeehdbnliifnaaDoorQRowBack
import Derived.Test.YtjeehdbnliifnaaDoorRSays
namespace Go.Proofs.YtjeehdbnliifnaaDoor
open Go Go.RowKit

theorem ruleBack_claim : Rows.RuleBackCardSaid := back_card rule_says
#print axioms ruleBack_claim
end Go.Proofs.YtjeehdbnliifnaaDoor
