/- The document's Same of chapter 10 by contract, of whatever rules. -/
import Derived.Test.YtfhoffdgbkoffaaDoorQLaws
import Derived.Test.YtfhoffdgbkoffaaDoorNRefSame
namespace Go.Proofs.YtfhoffdgbkoffaaDoor
open Go Go.RowKit Go.Lib

theorem ba_beqS (a b : ByteArray) : (a.toList == b.toList) = decide (a = b) := by
  rw [Bool.eq_iff_iff, beq_iff_eq, decide_eq_true_eq, ByteArray.toList_eq, ByteArray.toList_eq]
  constructor
  · intro h
    cases a; cases b
    simp only [ByteArray.mk.injEq]
    exact Array.toList_inj.1 h
  · intro h; rw [h]

end Go.Proofs.YtfhoffdgbkoffaaDoor
