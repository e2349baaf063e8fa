/- For every s, p, r, word: RuleAll returns true and leaves its arguments as they were. Conditions: the row's own; the tables unicode/utf8.first and acceptRanges are laid as the card ties them. -/
import Derived.Test.YtjeehdbnliifnaaGreatDoorRRowAll
import Derived.Test.YtjeehdbnliifnaaGreatDoorRSays
namespace Go.Proofs.YtjeehdbnliifnaaGreatDoor
open Go Go.RowKit

theorem ruleAll_claim : Rows.RuleAllCardSaid := all_card rule_says
#print axioms ruleAll_claim
end Go.Proofs.YtjeehdbnliifnaaGreatDoor
