/- Rules in a slice, an entry: arguments that read as such, their numbers within bounds. -/
import Derived.Test.YtcbmfkgekhadkaaGreatDoorVOpen
import Derived.Test.YtcbmfkgekhadkaaGreatDoorZGb
namespace Go.Proofs.YtcbmfkgekhadkaaGreatDoor
open Go Go.ChangeShapes Go.WideShapes Go.ChangeAt Go.RowKit Go.Deep

theorem Tryz.cellsZ25 : Tryz.prog.cellsOf 25 = 2 := by kernel_rfl
set_option maxRecDepth 100000 in
/-- A slice of numbers, within something. -/
theorem z_ints {H : Type} {enc : TypeId × Value → H} {W : World} {fuel : Nat} {v : Value} {x : DataW H × List MemPlace}
    (hf : DataW.trod enc Tryz.prog W 0 (fun _ => true) true fuel 23 [v] = some x) : ∃ cs : List Int, IntsAt W v cs ∧ ∀ c ∈ cs, In64 c := by
  rcases open_ints Tryz.underlying23 Tryz.underlying3 Tryz.cellsR3 hf with ⟨hcs, _⟩ | ⟨a, len, cap, zs, hcs, _, hl, hm, hz, _, hcell, hwf⟩
  · obtain rfl : v = .slice none 0 0 := by simpa using hcs
    exact ⟨[], .inl ⟨rfl, _, _, rfl⟩, fun c h => by cases h⟩
  · obtain rfl : v = .slice (some a) len cap := by simpa using hcs
    simp only [if_true] at hz
    by_cases h0 : len = 0
    · subst h0
      exact ⟨[], .inl ⟨rfl, _, _, rfl⟩, fun c h => by cases h⟩
    · have hc0 := hcell 0 (by omega)
      obtain ⟨b, off, rfl, hb, hadd⟩ := r_spot (a := a) hc0 ⟨_, by simpa [Addr.add] using hc0⟩
      have hlen : (zs.take len).length = len := by rw [List.length_take]; omega
      refine ⟨zs.take len, .inr ⟨b, off, cap, by rw [hlen], hb, by omega, hm, fun i c hi => ?_⟩, fun c hc => bounds_i64 (hwf c (List.mem_of_mem_take hc))⟩
      rw [List.getElem?_take] at hi
      split at hi
      · have hil := (List.getElem?_eq_some_iff.1 hi).1
        rw [← hadd, hcell i hil, List.getD, hi]
        rfl
      · cases hi
set_option maxRecDepth 100000 in
/-- An argument that is a slice of numbers. -/
theorem open_numsZ {H : Type} {enc : TypeId × Value → H} {W : World} {base : Nat} {v : Value} {d : DataW H} {ps : List MemPlace}
    (hval : Value.okWide Tryz.prog W .any base 23 v) (h : DataW.Trod enc Tryz.prog W 0 (fun _ => true) true 23 v d ps) : ∃ cs : List Int, IntsAt W v cs ∧ ∀ c ∈ cs, In64 c := by
  obtain ⟨A, n, cap, rfl⟩ := okWide_slice Tryz.underlying23 hval
  obtain ⟨fuel, hf⟩ := h
  have hcl : (Value.slice A n cap).cells.toList = [.slice A n cap] := by simp [Value.cells]
  rw [hcl] at hf
  exact z_ints hf
set_option maxRecDepth 100000 in
/-- An argument that is a slice of rules. -/
theorem open_rules {H : Type} {enc : TypeId × Value → H} {W : World} {base : Nat} {v : Value} {d : DataW H} {ps : List MemPlace}
    (hval : Value.okWide Tryz.prog W .any base 22 v) (h : DataW.Trod enc Tryz.prog W 0 (fun _ => true) true 22 v d ps) : ∃ rs : List Ru, RulesAt W v rs ∧ ∀ r ∈ rs, InR (DataW.weights Tryz.prog 22 d) r () := by
  obtain ⟨A, n, cap, rfl⟩ := okWide_slice Tryz.underlying22 hval
  obtain ⟨fuel, hf⟩ := h
  have hcl : (Value.slice A n cap).cells.toList = [.slice A n cap] := by simp [Value.cells]
  rw [hcl] at hf
  exact r_rules hf
set_option maxRecDepth 100000 in
/-- An argument that is an entry. -/
theorem open_entry {H : Type} {enc : TypeId × Value → H} {W : World} {base : Nat} {v : Value} {d : DataW H} {ps : List MemPlace}
    (hval : Value.okWide Tryz.prog W .any base 25 v) (h : DataW.Trod enc Tryz.prog W 0 (fun _ => true) true 25 v d ps) :
    ∃ (wd : ByteArray) (A : Option Addr) (n cap : Nat) (fl : List Int), v = .agg #[.string wd, .slice A n cap] ∧ IntsAt W (.slice A n cap) fl ∧ ∀ f ∈ fl, In64 f := by
  obtain ⟨cs, rfl, hsz⟩ := okWide_struct Tryz.underlying25 hval
  rw [Tryz.cellsZ25] at hsz
  obtain ⟨fuel, hf⟩ := h
  obtain ⟨cl⟩ := cs
  have hcl : (Value.agg ⟨cl⟩).cells.toList = cl := by simp [Value.cells]
  rw [hcl] at hf
  obtain ⟨xs, k', _, hd, _, hxl, hfd⟩ := DataW.trod_struct Tryz.underlying25 hf
  match cl, hsz, xs, hxl with
  | [x0, x1], _, [y0, y1], _ =>
    have g0 := hfd 0 _ rfl
    have g1 := hfd 1 _ rfl
    simp [Tryz.cellsR9, Tryz.cellsR23] at g0 g1
    obtain ⟨s0, e0, q0, _⟩ := DataW.trod_string Tryz.underlying9 g0
    obtain ⟨cs, hcs, hin⟩ := z_ints g1
    simp at e0
    subst e0
    obtain ⟨A, cap, hx1⟩ : ∃ A cap, x1 = .slice A cs.length cap := by
      rcases id hcs with ⟨rfl, a, cap, rfl⟩ | ⟨b, off, cap, rfl, _⟩
      · exact ⟨a, cap, rfl⟩
      · exact ⟨_, cap, rfl⟩
    subst hx1
    exact ⟨s0, A, cs.length, cap, cs, rfl, hcs, hin⟩
end Go.Proofs.YtcbmfkgekhadkaaGreatDoor
