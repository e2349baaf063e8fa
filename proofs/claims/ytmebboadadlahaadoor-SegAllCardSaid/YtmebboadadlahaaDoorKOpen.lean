/- An argument that is a slice of ranges reads as a table; one that is a slice of numbers, as numbers. -/
import Derived.Test.YtmebboadadlahaaDoorKCheck
import Derived.Test.YtmebboadadlahaaDoorRows
import Derived.ProofKit
import Derived.Deep.Slices
import Derived.Carry
namespace Go.Proofs.YtmebboadadlahaaDoor.Cls
open Go Go.ChangeShapes Go.WideShapes Go.ChangeAt Go.RowKit Go.Deep

theorem Tryd.own : ownKnob Tryd.prog.godebug = none := by kernel_rfl
theorem Tryd.laidOut : laidOutB Tryd.prog = true := by kernel_rfl
theorem Tryd.cells54 : Tryd.prog.cellsOf 54 = 3 := by kernel_rfl
theorem Tryd.cells3 : Tryd.prog.cellsOf 3 = 1 := by kernel_rfl

theorem open_tbl {H : Type} {enc : TypeId × Value → H} {W : World} {base : Nat} {v : Value} {d : DataW H} {ps : List MemPlace}
    (hval : Value.okWide Tryd.prog W .any base 22 v) (h : DataW.Trod enc Tryd.prog W 0 (fun _ => true) true 22 v d ps) :
    ∃ (A : Option Addr) (n cap : Nat) (rs : List R3), v = .slice A n cap ∧ n ≤ maxLen ∧ Tbl W (.slice A n cap) rs := by
  obtain ⟨A, n, cap, rfl⟩ := okWide_slice Tryd.underlying22 hval
  obtain ⟨fuel, hf⟩ := h
  rcases open_slice Tryd.underlying22 hf with ⟨hcs, _⟩ | ⟨a, len, cap', m, k, D, Pl, hcs, _, hl, hm, hmm, _, hi⟩
  · simp [Value.cells] at hcs
    obtain ⟨rfl, rfl, rfl⟩ := hcs
    exact ⟨none, 0, 0, [], rfl, Nat.zero_le _, .inl ⟨⟨_, _, rfl⟩, rfl⟩⟩
  · simp [Value.cells] at hcs
    obtain ⟨rfl, rfl, rfl⟩ := hcs
    simp only [if_true] at hmm
    have each : ∀ i, i < n → ∃ r : R3, W.cell? (a.add (i * 3)) = some (.int .i64 r.1) ∧ W.cell? (a.add (i * 3 + 1)) = some (.int .i64 r.2.1) ∧ W.cell? (a.add (i * 3 + 2)) = some (.int .i64 r.2.2) := by
      intro i hin
      obtain ⟨cs', h1, h2⟩ := hi i (by omega)
      rw [Tryd.cells54] at h1
      obtain ⟨_, hlen, hcell⟩ := World.cells?_some h1
      obtain ⟨xs, k', _, _, _, hxl, hfd⟩ := DataW.trod_struct Tryd.underlying54 h2
      match cs', hlen, xs, hxl with
      | [x0, x1, x2], _, [y0, y1, y2], _ =>
        have g0 := hfd 0 _ rfl
        have g1 := hfd 1 _ rfl
        have g2 := hfd 2 _ rfl
        simp [Tryd.cells3] at g0 g1 g2
        obtain ⟨n0, e0, _, _⟩ := DataW.trod_int Tryd.underlying3 g0
        obtain ⟨n1, e1, _, _⟩ := DataW.trod_int Tryd.underlying3 g1
        obtain ⟨n2, e2, _, _⟩ := DataW.trod_int Tryd.underlying3 g2
        simp at e0 e1 e2
        subst e0 e1 e2
        have w0 := hcell 0 (by omega)
        have w1 := hcell 1 (by omega)
        have w2 := hcell 2 (by omega)
        rw [add_add] at w0 w1 w2
        exact ⟨(n0, n1, n2), by simpa using w0, by simpa using w1, by simpa using w2⟩
    obtain ⟨f, hfc⟩ := choose_lt each
    refine ⟨some a, n, cap, (List.range n).map f, rfl, by omega, ?_⟩
    by_cases h0 : n = 0
    · subst h0
      exact .inl ⟨⟨_, _, rfl⟩, rfl⟩
    · obtain ⟨b, off, spot⟩ := a
      have hw0 := (hfc 0 (by omega)).1
      have hspot : spot = none := by simpa [Addr.add] using World.cell?_spot hw0
      subst hspot
      have hadd : ∀ j, (⟨b, off, none⟩ : Addr).add j = ⟨b, off + j, none⟩ := fun j => by unfold Addr.add; split <;> simp_all
      have hblt := World.block_lt_of_cell? W _ hw0
      rw [hadd] at hblt
      refine .inr ⟨b, off, cap, by simp, hblt, by simpa using hl, hm, fun i r hr => ?_⟩
      have hin : i < n := by
        have := (List.getElem?_eq_some_iff.1 hr).1
        simpa using this
      have hfi : r = f i := by
        rw [List.getElem?_map, List.getElem?_range hin] at hr
        simpa using hr.symm
      obtain ⟨q0, q1, q2⟩ := hfc i hin
      rw [hadd] at q0 q1 q2
      rw [hfi]
      exact ⟨q0, by rw [← q1, Nat.add_assoc], by rw [← q2, Nat.add_assoc]⟩
end Go.Proofs.YtmebboadadlahaaDoor.Cls
