/- What stage 9 asks of cond's calls: paid by the landed code. -/
import Derived.Test.YtdmmkpbpdhjfmaaDoorNFrame
import Derived.Test.YtdmmkpbpdhjfmaaDoorOText
import Derived.Test.YtdmmkpbpdhjfmaaDoorOEnds
namespace Go.Proofs.YtdmmkpbpdhjfmaaDoor
open Go Go.RowKit

theorem cond_says : SaysC Tabs9 where
  kept := fun _ _ h hb => tabs_below h hb
  parse := fun w s hT hs => (parse_any w s (by omega) hT).mono fun _ _ h => h
  text := fun w v l hT h hf => (text_any w v l h (fun it hit => by have := hf.sets it hit; omega) hT).mono fun _ _ ⟨he, hb⟩ => ⟨by rw [he, textG_fit hf], hb⟩
  starts := fun w v l vc cs _ h hc hl _ _ => starts_any w v vc l cs h hc (by omega)
  ends := fun w v l vc cs _ h hc hl _ _ => ends_any w v vc l cs h hc (by omega)
end Go.Proofs.YtdmmkpbpdhjfmaaDoor
