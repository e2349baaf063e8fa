/- Arguments that are numbers in a slice, entries in a slice, read as such. -/
import Derived.Test.YtmadlappalhmlaaDoorYLaws
import Derived.Test.YtmadlappalhmlaaDoorRows
import Derived.ProofKit
import Derived.Deep.Slices
import Derived.Deep.Strs
import Derived.Carry
import Derived.SliceStrings
import Derived.OpenShut
import Derived.SizedLaws
namespace Go.Proofs.YtmadlappalhmlaaDoor
open Go Go.ChangeShapes Go.WideShapes Go.ChangeAt Go.RowKit Go.Deep

theorem Tryd.cellsR43 : Tryd.prog.cellsOf 43 = 2 := by kernel_rfl
theorem Tryd.cellsR31 : Tryd.prog.cellsOf 31 = 1 := by kernel_rfl
theorem Tryd.cellsR3 : Tryd.prog.cellsOf 3 = 1 := by kernel_rfl
theorem Tryd.cellsR9 : Tryd.prog.cellsOf 9 = 1 := by kernel_rfl
instance : Inhabited En := ⟨⟨⟨#[]⟩, []⟩⟩

theorem r_spot {w : World} {a : Addr} {n : Nat} {x : Value} (h : w.cell? (a.add n) = some x) (h0 : ∃ y, w.cell? a = some y) : ∃ b off, a = ⟨b, off, none⟩ ∧ b < w.heap.size ∧ ∀ j, a.add j = ⟨b, off + j, none⟩ := by
  obtain ⟨b, off, spot⟩ := a
  obtain ⟨y, hy⟩ := h0
  have hspot : spot = none := World.cell?_spot hy
  subst hspot
  exact ⟨b, off, rfl, World.block_lt_of_cell? w _ hy, fun j => by unfold Addr.add; split <;> simp_all⟩

set_option maxRecDepth 100000 in
/-- A slice of numbers, within something. -/
theorem r_ints {H : Type} {enc : TypeId × Value → H} {W : World} {fuel : Nat} {v : Value} {x : DataW H × List MemPlace}
    (hf : DataW.trod enc Tryd.prog W 0 (fun _ => true) true fuel 31 [v] = some x) : ∃ cs : List Int, IntsAt W v cs := by
  rcases open_ints Tryd.underlying31 Tryd.underlying3 Tryd.cellsR3 hf with ⟨hcs, _⟩ | ⟨a, len, cap, zs, hcs, _, hl, hm, hz, _, hcell, _⟩
  · obtain rfl : v = .slice none 0 0 := by simpa using hcs
    exact ⟨[], .inl ⟨rfl, _, _, rfl⟩⟩
  · obtain rfl : v = .slice (some a) len cap := by simpa using hcs
    simp only [if_true] at hz
    by_cases h0 : len = 0
    · subst h0
      exact ⟨[], .inl ⟨rfl, _, _, rfl⟩⟩
    · have hc0 := hcell 0 (by omega)
      obtain ⟨b, off, rfl, hb, hadd⟩ := r_spot (a := a) hc0 ⟨_, by simpa [Addr.add] using hc0⟩
      have hlen : (zs.take len).length = len := by rw [List.length_take]; omega
      refine ⟨zs.take len, .inr ⟨b, off, cap, by rw [hlen], hb, by omega, hm, fun i c hi => ?_⟩⟩
      rw [List.getElem?_take] at hi
      split at hi
      · have hil := (List.getElem?_eq_some_iff.1 hi).1
        rw [← hadd, hcell i hil, List.getD, hi]
        rfl
      · cases hi

set_option maxRecDepth 100000 in
/-- An argument that is a slice of numbers. -/
theorem open_nums {H : Type} {enc : TypeId × Value → H} {W : World} {base : Nat} {v : Value} {d : DataW H} {ps : List MemPlace}
    (hval : Value.okWide Tryd.prog W .any base 31 v) (h : DataW.Trod enc Tryd.prog W 0 (fun _ => true) true 31 v d ps) : ∃ cs : List Int, IntsAt W v cs := by
  obtain ⟨A, n, cap, rfl⟩ := okWide_slice Tryd.underlying31 hval
  obtain ⟨fuel, hf⟩ := h
  have hcl : (Value.slice A n cap).cells.toList = [.slice A n cap] := by simp [Value.cells]
  rw [hcl] at hf
  exact r_ints hf

set_option maxRecDepth 100000 in
/-- An argument that is a slice of entries. -/
theorem open_ents {H : Type} {enc : TypeId × Value → H} {W : World} {base : Nat} {v : Value} {d : DataW H} {ps : List MemPlace}
    (hval : Value.okWide Tryd.prog W .any base 22 v) (h : DataW.Trod enc Tryd.prog W 0 (fun _ => true) true 22 v d ps) : ∃ es : List En, EntsAt W v es := by
  obtain ⟨A0, n0, c0, rfl⟩ := okWide_slice Tryd.underlying22 hval
  obtain ⟨fuel, hf⟩ := h
  have hcl : (Value.slice A0 n0 c0).cells.toList = [.slice A0 n0 c0] := by simp [Value.cells]
  rw [hcl] at hf
  rcases open_slice Tryd.underlying22 hf with ⟨hcs, _⟩ | ⟨a, len, cap', m, k, D, Pl, hcs, _, hl, hm, hmm, _, hi⟩
  · exact ⟨[], .inl ⟨rfl, none, 0, by simpa using hcs⟩⟩
  · have hv : Value.slice A0 n0 c0 = .slice (some a) len cap' := by simpa using hcs
    rw [hv]
    simp only [if_true] at hmm
    have each : ∀ i, i < len → ∃ o : En, W.cell? (a.add (i * 2)) = some (.string o.word) ∧ ∃ A cap, W.cell? (a.add (i * 2 + 1)) = some (.slice A o.flags.length cap) ∧ IntsAt W (.slice A o.flags.length cap) o.flags := by
      intro i hin
      obtain ⟨cs', h1, h2⟩ := hi i (by omega)
      rw [Tryd.cellsR43] at h1
      obtain ⟨_, hlen, hcell⟩ := World.cells?_some h1
      obtain ⟨xs, k', _, _, _, hxl, hfd⟩ := DataW.trod_struct Tryd.underlying43 h2
      match cs', hlen, xs, hxl with
      | [x0, x1], _, [y0, y1], _ =>
        have g0 := hfd 0 _ rfl
        have g1 := hfd 1 _ rfl
        simp [Tryd.cellsR9, Tryd.cellsR31] at g0 g1
        obtain ⟨s0, e0, q0, _⟩ := DataW.trod_string Tryd.underlying9 g0
        obtain ⟨cs, hcs⟩ := r_ints g1
        simp at e0
        subst e0
        obtain ⟨A, cap, hx1, hA⟩ : ∃ A cap, x1 = .slice A cs.length cap ∧ IntsAt W (.slice A cs.length cap) cs := by
          rcases id hcs with ⟨rfl, a, cap, rfl⟩ | ⟨b, off, cap, rfl, _⟩
          · exact ⟨a, cap, rfl, hcs⟩
          · exact ⟨_, cap, rfl, hcs⟩
        subst hx1
        have w0 := hcell 0 (by omega)
        have w1 := hcell 1 (by omega)
        rw [add_add] at w0 w1
        exact ⟨⟨s0, cs⟩, by simpa using w0, A, cap, by simpa using w1, hA⟩
    obtain ⟨f, hfc⟩ := choose_lt each
    by_cases h0 : len = 0
    · subst h0
      exact ⟨[], .inl ⟨rfl, _, _, rfl⟩⟩
    · obtain ⟨b, off, rfl, hb, hadd⟩ := r_spot (a := a) (n := 0) (by simpa using (hfc 0 (by omega)).1) ⟨_, by simpa [Addr.add] using (hfc 0 (by omega)).1⟩
      have hgl : ((List.range len).map f).length = len := by simp
      refine ⟨(List.range len).map f, .inr ⟨b, off, cap', by rw [hgl], hb, by omega, hm, fun i e he => ?_⟩⟩
      have hin : i < len := by rw [← hgl]; exact (List.getElem?_eq_some_iff.1 he).1
      have hfi : e = f i := by
        rw [List.getElem?_map, List.getElem?_range hin] at he
        simpa using he.symm
      obtain ⟨c0, A, cap, c1, c2⟩ := hfc i hin
      rw [hadd] at c0 c1
      rw [hfi]
      exact ⟨c0, A, cap, by rw [Nat.add_assoc]; exact c1, c2⟩
end Go.Proofs.YtmadlappalhmlaaDoor
