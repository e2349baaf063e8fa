/- For every text s: abecedarylaw09.CondBack returns true and leaves its argument as it was. Conditions: the row's own; the tables unicode/utf8.first and acceptRanges are laid as the card ties them. -/
import Derived.Test.YtdmmkpbpdhjfmaaDoorOSays
import Derived.Test.YtdmmkpbpdhjfmaaDoorNRowBack
namespace Go.Proofs.YtdmmkpbpdhjfmaaDoor

theorem cond_back : Rows.CondBackCardSaid := back_card cond_says
end Go.Proofs.YtdmmkpbpdhjfmaaDoor
