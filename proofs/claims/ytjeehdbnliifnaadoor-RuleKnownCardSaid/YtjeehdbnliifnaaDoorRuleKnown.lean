/- For every input: RuleKnown returns true and leaves its argument as it was. Conditions: the row's own; the tables unicode/utf8.first and acceptRanges are laid as the card ties them. -/
import Derived.Test.YtjeehdbnliifnaaDoorQRowKnown
import Derived.Test.YtjeehdbnliifnaaDoorRSays
namespace Go.Proofs.YtjeehdbnliifnaaDoor
open Go Go.RowKit

theorem ruleKnown_claim : Rows.RuleKnownCardSaid := known_card rule_says
#print axioms ruleKnown_claim
end Go.Proofs.YtjeehdbnliifnaaDoor
