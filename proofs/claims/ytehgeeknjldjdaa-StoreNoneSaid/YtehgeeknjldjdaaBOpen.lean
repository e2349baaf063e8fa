/- An argument that is a slice of strings. -/
import Derived.Test.YtehgeeknjldjdaaBLawGrows
import Derived.Test.YtehgeeknjldjdaaRows
import Derived.ProofKit
import Derived.Deep.Slices
import Derived.Carry
import Derived.SliceStrings
import Derived.OpenShut
namespace Go.Proofs.Ytehgeeknjldjdaa
open Go Go.ChangeShapes Go.WideShapes Go.ChangeAt Go.RowKit

theorem Try.own : ownKnob Try.prog.godebug = none := by kernel_rfl
theorem Try.laidOut : laidOutB Try.prog = true := by kernel_rfl
theorem Try.cells9 : Try.prog.cellsOf 9 = 1 := by kernel_rfl

theorem open_strs {H : Type} {enc : TypeId × Value → H} {W : World} {base : Nat} {v : Value} {d : DataW H} {ps : List MemPlace}
    (hval : Value.okWide Try.prog W .any base 22 v) (h : DataW.Trod enc Try.prog W 0 (fun _ => true) true 22 v d ps) :
    ∃ (A : Option Addr) (n cap : Nat) (ss : List ByteArray), v = .slice A n cap ∧ Strs W A n cap ss := by
  obtain ⟨A, n, cap, rfl⟩ := okWide_slice Try.underlying22 hval
  obtain ⟨fuel, hf⟩ := h
  rcases open_strings Try.underlying22 Try.underlying9 Try.cells9 hf with ⟨hcs, _⟩ | ⟨a, len, cap', ss, hcs, _, hl, hm, hz, _, hcell, hsz⟩
  · simp [Value.cells] at hcs
    obtain ⟨rfl, rfl, rfl⟩ := hcs
    exact ⟨none, 0, 0, [], rfl, rfl, Nat.le_refl _, Nat.zero_le _, fun i z hi => by simp at hi⟩
  · simp [Value.cells] at hcs
    obtain ⟨rfl, rfl, rfl⟩ := hcs
    simp only [if_true] at hz
    refine ⟨some a, n, cap, ss.take n, rfl, by rw [List.length_take]; omega, hl, hm, fun i z hi => ?_⟩
    rw [List.getElem?_take] at hi
    split at hi
    · have hil := (List.getElem?_eq_some_iff.1 hi).1
      have hms := hsz z (List.mem_of_getElem? hi)
      obtain ⟨b, off, spot⟩ := a
      have hw0 := hcell i hil
      have hspot : spot = none := by simpa [Addr.add] using World.cell?_spot (hcell 0 (by omega))
      subst hspot
      have hadd : ∀ j, (⟨b, off, none⟩ : Addr).add j = ⟨b, off + j, none⟩ := fun j => by unfold Addr.add; split <;> simp_all
      have hblt := World.block_lt_of_cell? W _ hw0
      rw [hadd] at hblt hw0
      refine ⟨⟨b, off, rfl, hblt, ?_⟩, by unfold maxLen at hms; omega⟩
      rw [hw0, List.getD, hi]
      rfl
    · cases hi
end Go.Proofs.Ytehgeeknjldjdaa
