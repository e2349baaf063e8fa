/- What stage 10 asks of rule's calls: paid by the landed code. -/
import Derived.Test.YtjeehdbnliifnaaGreatDoorQFrame
import Derived.Test.YtjeehdbnliifnaaGreatDoorRParse
import Derived.Test.YtjeehdbnliifnaaGreatDoorRText
import Derived.Test.YtjeehdbnliifnaaGreatDoorRBoth
namespace Go.Proofs.YtjeehdbnliifnaaGreatDoor
open Go Go.RowKit

theorem FewR.fit {r : Ru} (h : FewR r) : FitR r := ⟨by have := h.items; omega, fun it hit => by have := h.sets it hit; omega, by have := h.strip; omega, by have := h.add; omega⟩
theorem rule_says : SaysR Tabs9 where
  kept := fun _ _ h hb => tabs_below h hb
  parse := fun w s hT hs => rpar_any w s (by omega) hT
  text := fun w v r hT h hf => rul_text_any w v r h hf.fit hT
  check := fun w v r hT h hf => (rcheck_any w v r h hf.fit hT).mono fun _ _ ⟨he, hb⟩ => ⟨by rw [he, check_text], hb⟩
  apply := fun w v r wd hT h hf hw => rapp_any w v r wd h hf.fit (by omega) hT
  both := fun w v v' p s wd hT h hf h' hf' hw => rul_both_any w v v' p s wd h h' hf.fit hf'.fit (by omega) hT
end Go.Proofs.YtjeehdbnliifnaaGreatDoor
