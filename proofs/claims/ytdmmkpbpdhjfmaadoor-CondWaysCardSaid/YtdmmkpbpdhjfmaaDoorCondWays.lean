/- For every list of numbers and every number: abecedarylaw09.CondWays returns true and leaves its arguments as they were. Conditions: the row's own; the tables unicode/utf8.first and acceptRanges are laid as the card ties them. -/
import Derived.Test.YtdmmkpbpdhjfmaaDoorOSays
import Derived.Test.YtdmmkpbpdhjfmaaDoorNRowWays
namespace Go.Proofs.YtdmmkpbpdhjfmaaDoor

theorem cond_ways : Rows.CondWaysCardSaid := ways_card cond_says
end Go.Proofs.YtdmmkpbpdhjfmaaDoor
