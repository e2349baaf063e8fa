/- Arguments that are slices of numbers, nil or not; how many there may be. -/
import Derived.Test.YtbghfbhchmoddaaMDOpen
import Derived.Test.YtbghfbhchmoddaaMDApp
import Derived.SizedLaws
namespace Go.Proofs.Ytbghfbhchmoddaa
open Go Go.ChangeShapes Go.WideShapes Go.ChangeAt Go.RowKit Go.Deep

theorem Try.bytes8 : Try.prog.bytesOf 3 = 8 := by kernel_rfl
set_option maxRecDepth 100000 in
theorem open_numsQ {H : Type} {enc : TypeId × Value → H} {W : World} {base : Nat} {v : Value} {d : DataW H} {ps : List MemPlace}
    (hval : Value.okWide Try.prog W .any base 22 v) (h : DataW.Trod enc Try.prog W 0 (fun _ => true) true 22 v d ps) : ∃ l, IntsQ W v l ∧ ((d = .nil ∧ l = []) ∨ ∃ el sp, d = .slice el sp ∧ el.length = l.length) := by
  obtain ⟨A, n, cap, rfl⟩ := okWide_slice Try.underlying22 hval
  obtain ⟨fuel, hf⟩ := h
  rcases open_slice Try.underlying22 hf with ⟨hcs, hx⟩ | ⟨a, len, cap', m, k, D, Pl, hcs, _, hl, hm, hmm, hx, hi⟩
  · simp [Value.cells] at hcs
    obtain ⟨rfl, rfl, rfl⟩ := hcs
    exact ⟨[], .inl ⟨rfl, .inl rfl⟩, .inl ⟨(Prod.mk.inj hx).1, rfl⟩⟩
  · simp [Value.cells] at hcs
    obtain ⟨rfl, rfl, rfl⟩ := hcs
    simp only [if_true] at hmm
    have each : ∀ i, i < n → ∃ r : Int, W.cell? (a.add i) = some (.int .i64 r) := by
      intro i hin
      obtain ⟨cs', h1, h2⟩ := hi i (by omega)
      rw [Try.cellsI3] at h1
      obtain ⟨_, hlen, hcell⟩ := World.cells?_some h1
      match cs', hlen with
      | [x0], _ =>
        obtain ⟨n0, e0, _, _⟩ := DataW.trod_int Try.underlying3 h2
        simp at e0
        subst e0
        have w0 := hcell 0 (by omega)
        rw [Nat.mul_one] at w0
        exact ⟨n0, by simpa [Addr.add] using w0⟩
    obtain ⟨f, hfc⟩ := choose_lt each
    by_cases h0 : n = 0
    · subst h0
      exact ⟨[], .inl ⟨rfl, .inr ⟨_, _, rfl⟩⟩, .inr ⟨_, _, (Prod.mk.inj hx).1, by simp⟩⟩
    · obtain ⟨b, off, spot⟩ := a
      have hw0 := hfc 0 (by omega)
      have hspot : spot = none := by simpa [Addr.add] using World.cell?_spot hw0
      subst hspot
      have hadd : ∀ j, (⟨b, off, none⟩ : Addr).add j = ⟨b, off + j, none⟩ := fun j => by unfold Addr.add; split <;> simp_all
      have hblt := World.block_lt_of_cell? W _ hw0
      rw [hadd] at hblt
      refine ⟨(List.range n).map f, .inr ⟨b, off, cap, by simp, hblt, by simpa using hl, hm, fun i s hs => ?_⟩, .inr ⟨_, _, (Prod.mk.inj hx).1, by simp⟩⟩
      have hin : i < n := by
        have := (List.getElem?_eq_some_iff.1 hs).1
        simpa using this
      have hfi : s = f i := by
        rw [List.getElem?_map, List.getElem?_range hin] at hs
        simpa using hs.symm
      rw [hfi, ← hadd]
      exact hfc i hin
end Go.Proofs.Ytbghfbhchmoddaa
