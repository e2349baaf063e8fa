/- An argument that is a rule reads as a rule. -/
import Derived.Test.YtcbmfkgekhadkaaGreatDoorZGa
import Derived.Test.YtcbmfkgekhadkaaGreatDoorRows
import Derived.ProofKit
import Derived.Deep.Slices
import Derived.Deep.Strs
import Derived.Carry
import Derived.SliceStrings
import Derived.OpenShut
import Derived.SizedLaws
namespace Go.Proofs.YtcbmfkgekhadkaaGreatDoor
open Go Go.ChangeShapes Go.WideShapes Go.ChangeAt Go.RowKit Go.Deep

theorem Tryz.cellsR51 : Tryz.prog.cellsOf 51 = 6 := by kernel_rfl
theorem Tryz.cellsR48 : Tryz.prog.cellsOf 48 = 3 := by kernel_rfl
theorem Tryz.cellsR49 : Tryz.prog.cellsOf 49 = 1 := by kernel_rfl
theorem Tryz.cellsR23 : Tryz.prog.cellsOf 23 = 1 := by kernel_rfl
theorem Tryz.cellsR3 : Tryz.prog.cellsOf 3 = 1 := by kernel_rfl
theorem Tryz.cellsR9 : Tryz.prog.cellsOf 9 = 1 := by kernel_rfl
theorem Tryz.cellsR4 : Tryz.prog.cellsOf 4 = 1 := by kernel_rfl
instance : Inhabited It := ⟨⟨false, false, []⟩⟩

theorem r_spot {w : World} {a : Addr} {n : Nat} {x : Value} (h : w.cell? (a.add n) = some x) (h0 : ∃ y, w.cell? a = some y) : ∃ b off, a = ⟨b, off, none⟩ ∧ b < w.heap.size ∧ ∀ j, a.add j = ⟨b, off + j, none⟩ := by
  obtain ⟨b, off, spot⟩ := a
  obtain ⟨y, hy⟩ := h0
  have hspot : spot = none := World.cell?_spot hy
  subst hspot
  exact ⟨b, off, rfl, World.block_lt_of_cell? w _ hy, fun j => by unfold Addr.add; split <;> simp_all⟩

set_option maxRecDepth 100000 in
/-- A slice of numbers, within something. -/
theorem r_ints {H : Type} {enc : TypeId × Value → H} {W : World} {fuel : Nat} {v : Value} {x : DataW H × List MemPlace}
    (hf : DataW.trod enc Tryz.prog W 0 (fun _ => true) true fuel 23 [v] = some x) : ∃ cs : List Int, IntsAt W v cs := by
  rcases open_ints Tryz.underlying23 Tryz.underlying3 Tryz.cellsR3 hf with ⟨hcs, _⟩ | ⟨a, len, cap, zs, hcs, _, hl, hm, hz, _, hcell, _⟩
  · obtain rfl : v = .slice none 0 0 := by simpa using hcs
    exact ⟨[], .inl ⟨rfl, _, _, rfl⟩⟩
  · obtain rfl : v = .slice (some a) len cap := by simpa using hcs
    simp only [if_true] at hz
    by_cases h0 : len = 0
    · subst h0
      exact ⟨[], .inl ⟨rfl, _, _, rfl⟩⟩
    · have hc0 := hcell 0 (by omega)
      obtain ⟨b, off, rfl, hb, hadd⟩ := r_spot (a := a) hc0 ⟨_, by simpa [Addr.add] using hc0⟩
      have hlen : (zs.take len).length = len := by rw [List.length_take]; omega
      refine ⟨zs.take len, .inr ⟨b, off, cap, by rw [hlen], hb, by omega, hm, fun i c hi => ?_⟩⟩
      rw [List.getElem?_take] at hi
      split at hi
      · have hil := (List.getElem?_eq_some_iff.1 hi).1
        rw [← hadd, hcell i hil, List.getD, hi]
        rfl
      · cases hi

set_option maxRecDepth 100000 in
/-- A slice of items, within something. -/
theorem r_items {H : Type} {enc : TypeId × Value → H} {W : World} {fuel : Nat} {v : Value} {x : DataW H × List MemPlace}
    (hf : DataW.trod enc Tryz.prog W 0 (fun _ => true) true fuel 49 [v] = some x) : ∃ l : List It, ItemsAt W v l := by
  rcases open_slice Tryz.underlying49 hf with ⟨hcs, _⟩ | ⟨a, len, cap', m, k, D, Pl, hcs, _, hl, hm, hmm, _, hi⟩
  · obtain rfl : v = .slice none 0 0 := by simpa using hcs
    exact ⟨[], .inl ⟨rfl, _, _, rfl⟩⟩
  · obtain rfl : v = .slice (some a) len cap' := by simpa using hcs
    simp only [if_true] at hmm
    have each : ∀ i, i < len → ∃ o : It, W.cell? (a.add (i * 3)) = some (.bool o.any) ∧ W.cell? (a.add (i * 3 + 1)) = some (.bool o.not) ∧ ∃ sv, W.cell? (a.add (i * 3 + 2)) = some sv ∧ IntsAt W sv o.set := by
      intro i hin
      obtain ⟨cs', h1, h2⟩ := hi i (by omega)
      rw [Tryz.cellsR48] at h1
      obtain ⟨_, hlen, hcell⟩ := World.cells?_some h1
      obtain ⟨xs, k', _, _, _, hxl, hfd⟩ := DataW.trod_struct Tryz.underlying48 h2
      match cs', hlen, xs, hxl with
      | [x0, x1, x2], _, [y0, y1, y2], _ =>
        have g0 := hfd 0 _ rfl
        have g1 := hfd 1 _ rfl
        have g2 := hfd 2 _ rfl
        simp [Tryz.cellsR4, Tryz.cellsR23] at g0 g1 g2
        obtain ⟨b0, e0, _⟩ := DataW.trod_bool Tryz.underlying4 g0
        obtain ⟨b1, e1, _⟩ := DataW.trod_bool Tryz.underlying4 g1
        obtain ⟨cs, hcs⟩ := r_ints g2
        simp at e0 e1
        subst e0 e1
        have w0 := hcell 0 (by omega)
        have w1 := hcell 1 (by omega)
        have w2 := hcell 2 (by omega)
        rw [add_add] at w0 w1 w2
        exact ⟨⟨b0, b1, cs⟩, by simpa using w0, by simpa using w1, x2, by simpa using w2, hcs⟩
    obtain ⟨f, hfc⟩ := choose_lt each
    by_cases h0 : len = 0
    · subst h0
      exact ⟨[], .inl ⟨rfl, _, _, rfl⟩⟩
    · obtain ⟨b, off, rfl, hb, hadd⟩ := r_spot (a := a) (n := 0) (by simpa using (hfc 0 (by omega)).1) ⟨_, by simpa [Addr.add] using (hfc 0 (by omega)).1⟩
      have hgl : ((List.range len).map f).length = len := by simp
      refine ⟨(List.range len).map f, .inr ⟨b, off, cap', by rw [hgl], hb, by omega, hm, fun i e he => ?_⟩⟩
      have hin : i < len := by rw [← hgl]; exact (List.getElem?_eq_some_iff.1 he).1
      have hfi : e = f i := by
        rw [List.getElem?_map, List.getElem?_range hin] at he
        simpa using he.symm
      obtain ⟨c0, c1, sv, c2, c3⟩ := hfc i hin
      rw [hadd] at c0 c1 c2
      rw [hfi]
      exact ⟨c0, by rw [Nat.add_assoc]; exact c1, sv, by rw [Nat.add_assoc]; exact c2, c3⟩

set_option maxRecDepth 100000 in
theorem open_rule {H : Type} {enc : TypeId × Value → H} {W : World} {base : Nat} {v : Value} {d : DataW H} {ps : List MemPlace}
    (hval : Value.okWide Tryz.prog W .any base 51 v) (h : DataW.Trod enc Tryz.prog W 0 (fun _ => true) true 51 v d ps) :
    ∃ (r : Ru) (y : DataW H), RuAt W v r ∧ (-9223372036854775808 ≤ r.flag ∧ r.flag ≤ 9223372036854775807) ∧ d = .agg [.lit (.bool r.pre), .lit (.int .i64 r.flag), .lit (.bool r.cross), .lit (.string r.strip.data.toList), .lit (.string r.add.data.toList), y] := by
  obtain ⟨cs, rfl, hsz⟩ := okWide_struct Tryz.underlying51 hval
  rw [Tryz.cellsR51] at hsz
  obtain ⟨fuel, hf⟩ := h
  obtain ⟨cl⟩ := cs
  have hcl : (Value.agg ⟨cl⟩).cells.toList = cl := by simp [Value.cells]
  rw [hcl] at hf
  obtain ⟨xs, k', _, hd, _, hxl, hfd⟩ := DataW.trod_struct Tryz.underlying51 hf
  match cl, hsz, xs, hxl with
  | [x0, x1, x2, x3, x4, x5], _, [y0, y1, y2, y3, y4, y5], _ =>
    have g0 := hfd 0 _ rfl
    have g1 := hfd 1 _ rfl
    have g2 := hfd 2 _ rfl
    have g3 := hfd 3 _ rfl
    have g4 := hfd 4 _ rfl
    have g5 := hfd 5 _ rfl
    simp [Tryz.cellsR3, Tryz.cellsR9, Tryz.cellsR4, Tryz.cellsR49] at g0 g1 g2 g3 g4 g5
    obtain ⟨b0, e0, q0⟩ := DataW.trod_bool Tryz.underlying4 g0
    obtain ⟨n1, e1, q1, u1⟩ := DataW.trod_int Tryz.underlying3 g1
    obtain ⟨b2, e2, q2⟩ := DataW.trod_bool Tryz.underlying4 g2
    obtain ⟨s3, e3, q3, _⟩ := DataW.trod_string Tryz.underlying9 g3
    obtain ⟨s4, e4, q4, _⟩ := DataW.trod_string Tryz.underlying9 g4
    obtain ⟨l, hl⟩ := r_items g5
    simp at e0 e1 e2 e3 e4
    subst e0 e1 e2 e3 e4 q0 q1 q2 q3 q4
    obtain ⟨A, cap, hx5, hA⟩ : ∃ A cap, x5 = .slice A l.length cap ∧ ItemsAt W (.slice A l.length cap) l := by
      rcases id hl with ⟨rfl, a, cap, rfl⟩ | ⟨b, off, cap, rfl, _⟩
      · exact ⟨a, cap, rfl, hl⟩
      · exact ⟨_, cap, rfl, hl⟩
    subst hx5
    exact ⟨⟨b0, n1, b2, s3, s4, l⟩, y5.1, ⟨A, cap, rfl, hA⟩, bounds_i64 u1, (Prod.mk.inj hd).1⟩
end Go.Proofs.YtcbmfkgekhadkaaGreatDoor
