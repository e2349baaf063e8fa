/- The document's Apply of chapter 10 by contract, of whatever rules. -/
import Derived.Test.YteenleedonmkmaaGreatDoorMWords
import Derived.Test.YteenleedonmkmaaGreatDoorQLaws
import Derived.Test.YteenleedonmkmaaGreatDoorNRefStarts
namespace Go.Proofs.YteenleedonmkmaaGreatDoor
open Go Go.RowKit Go.Lib

theorem codesB_two (l : List UInt8) : (codesB l).isSome = validD l ∧ (codesB l).getD [] = codesL l := by
  unfold codesB codesL
  cases validD l <;> simp
theorem okB_empty (s : ByteArray) : okB s = !s.toList.isEmpty := by
  unfold okB
  rw [toL_data, Bool.eq_iff_iff, decide_eq_true_eq, Lib.size_eq]
  cases s.data.toList <;> simp
/-- A rule that is not too great for whoever applies it. -/
structure MidR (r : Ru) : Prop where
  items : r.cond.length ≤ 100000
  sets : ∀ it ∈ r.cond, it.set.length ≤ 100000
  strip : r.strip.size ≤ 1000000
  add : r.add.size ≤ 1000000
/-- What is answered. -/
def ApplyE (e : Ending) (s : ByteArray) : Prop := e = .returned (.tuple #[.string s, .bool (okB s)])
theorem applyR_none {r : Ru} {wd : ByteArray} (h : codesB wd.data.toList = none) : applyR r wd = ⟨#[]⟩ := by unfold applyR; rw [h]
theorem applyR_pre {r : Ru} {wd : ByteArray} {cs : List Int} (h : codesB wd.data.toList = some cs) (hp : r.pre = true) : applyR r wd = if begins wd r.strip = true ∧ startsP r.cond cs = true then r.add ++ wd.extract r.strip.size wd.size else ⟨#[]⟩ := by
  unfold applyR begins
  rw [h]
  dsimp only
  rw [if_pos hp]
  simp only [decide_eq_true_eq, and_assoc]
theorem applyR_suf {r : Ru} {wd : ByteArray} {cs : List Int} (h : codesB wd.data.toList = some cs) (hp : r.pre = false) : applyR r wd = if endsW wd r.strip = true ∧ endsP r.cond cs = true then wd.extract 0 (wd.size - r.strip.size) ++ r.add else ⟨#[]⟩ := by
  unfold applyR endsW
  rw [h]
  dsimp only
  rw [if_neg (by simp [hp])]
  simp only [decide_eq_true_eq, and_assoc]

end Go.Proofs.YteenleedonmkmaaGreatDoor
