/- What a pair's line says, plain; a box of two cells that is written. -/
import Derived.Test.YtfhoffdgbkoffaaDoorVSame
import Derived.Test.YtfhoffdgbkoffaaDoorNGrow
import Derived.Test.YtfhoffdgbkoffaaDoorCodes
namespace Go.Proofs.YtfhoffdgbkoffaaDoor
open Go Go.RowKit Go.Lib

/-- What pair answers. -/
def PairE (e : Ending) (o : Option (Int × Int)) : Prop := e = .returned (.tuple #[.agg #[.int .i64 (o.getD (0, 0)).1, .int .i64 (o.getD (0, 0)).2], .bool o.isSome])
theorem PairE.none {e : Ending} {o : Option (Int × Int)} (h : o = Option.none) (he : e = .returned (.tuple #[.agg #[.int .i64 0, .int .i64 0], .bool false])) : PairE e o := by subst h; exact he
theorem pairL_head {ps : List (Int × Int)} {l : List UInt8} (h : l.take 5 ≠ caseW) : pairL ps l = none := by unfold pairL; rw [if_neg h]
theorem pairL_short {ps : List (Int × Int)} {l : List UInt8} (h : l.length < 6) : pairL ps l = none := by
  unfold pairL
  split
  · rw [List.drop_of_length_le (by omega)]; rfl
  · rfl
theorem pairL_codes {ps : List (Int × Int)} {l : List UInt8} (h : validD (l.drop 5) = false ∨ (codesL (l.drop 5)).length ≠ 2) : pairL ps l = none := by
  unfold pairL
  split
  · unfold codesB
    cases hv : validD (l.drop 5) with
    | false => rfl
    | true =>
      rw [if_pos rfl]
      rcases h with h | h
      · rw [hv] at h; cases h
      · unfold codesL at h
        rw [if_pos hv] at h
        split
        · rename_i g s hc
          rw [Option.some.inj hc] at h
          exact absurd rfl h
        · rfl
  · rfl
theorem pairL_two {ps : List (Int × Int)} {l : List UInt8} {g s : Int} (h5 : l.take 5 = caseW) (hv : validD (l.drop 5) = true) (hc : codesL (l.drop 5) = [g, s]) : pairL ps l = if okPair ps g s = true then some (g, s) else none := by
  unfold codesL at hc
  rw [if_pos hv] at hc
  unfold pairL codesB
  rw [if_pos h5, if_pos hv, hc]
theorem used_take {ps : List (Int × Int)} {k : Nat} {p : Int × Int} {c : Int} (h : ps[k]? = some p) : usedP (ps.take (k + 1)) c = (usedP (ps.take k) c || (p.1 == c || p.2 == c)) := by
  obtain ⟨hlt, he⟩ := List.getElem?_eq_some_iff.1 h
  unfold usedP
  rw [List.take_succ_eq_append_getElem hlt, he, List.any_append]
  simp
theorem used_in {ps : List (Int × Int)} {k : Nat} {p : Int × Int} {c : Int} (h : ps[k]? = some p) (hc : p.1 = c ∨ p.2 = c) : usedP ps c = true := by
  unfold usedP
  rw [List.any_eq_true]
  exact ⟨p, List.mem_of_getElem? h, by simpa using hc⟩
theorem v_own {w : World} {B n : Nat} {v : Value} {cs : List Int} (h : w.ownsRow B 3 1 v n (cs.map (Value.int .i64))) (hn : n = cs.length) : IntsAt w v cs := by
  subst hn
  have hadd : ∀ (g j : Nat), (⟨g, 0, none⟩ : Addr).add j = ⟨g, j, none⟩ := fun g j => by unfold Addr.add; split <;> simp_all
  have hc := @World.ownsRow.cells _ _ _ _ _ _ _ h
  rcases h.2 with ⟨rfl, h0⟩ | ⟨g, cap, cur, rfl, hb, hg, hnc, hcm, _⟩
  · exact .inl ⟨List.eq_nil_of_length_eq_zero h0, _, _, rfl⟩
  · refine .inr ⟨g, 0, cap, rfl, (Array.getElem?_eq_some_iff.1 hg).1, hnc, hcm, fun i c hi => ?_⟩
    rw [Nat.zero_add, ← hadd]
    exact hc (g := g) rfl i _ (by rw [List.getElem?_map, hi]; rfl)
theorem box2f {w w' : World} {a b : Value} {t : TypeId} (hb : Below (w.alloc (.cells #[a, b] t)).heap.size (w.alloc (.cells #[a, b] t)) w') : ∀ o, w'.frozen? ⟨w.heap.size, o, none⟩ = false := by
  have h : w'.heap[w.heap.size]? = some (.cells #[a, b] t (0, 0)) := (hb.block w.heap.size (by rw [World.size_alloc]; omega)).trans (World.alloc_heap_new w _)
  intro o
  simp [World.frozen?, h]
theorem put2_below {B : Nat} {w w' : World} {H : Nat} (h : Below B w w') (hB : B ≤ H) (a b : Value) : Below B w ((w'.setCell ⟨H, 0, none⟩ a).setCell ⟨H, 1, none⟩ b) :=
  (h.setCell (p := ⟨H, 0, none⟩) hB _).setCell (p := ⟨H, 1, none⟩) hB _

end Go.Proofs.YtfhoffdgbkoffaaDoor
