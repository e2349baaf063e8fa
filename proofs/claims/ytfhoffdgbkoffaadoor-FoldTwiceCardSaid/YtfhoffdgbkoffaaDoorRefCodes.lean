/- The document's own codes of a text, by their contract. -/
import Derived.Test.YtfhoffdgbkoffaaDoorRefAll
namespace Go.Proofs.YtfhoffdgbkoffaaDoor
open Go Go.RowKit Go.Lib

theorem cells3 : ∀ (us : List (Nat × Nat × Int)) (k : Nat) (u : Nat × Nat × Int), us[k]? = some u →
    (us.flatMap uCells)[k * 3]? = some (.int .i64 u.1) ∧ (us.flatMap uCells)[k * 3 + 1]? = some (.int .i64 u.2.1) ∧ (us.flatMap uCells)[k * 3 + 2]? = some (.int .i64 u.2.2)
  | [], k, u, h => by simp at h
  | x :: us, 0, u, h => by
    simp at h; subst h
    simp [uCells]
  | x :: us, k + 1, u, h => by
    have ih := cells3 us k u (by simpa using h)
    have e : (x :: us).flatMap uCells = uCells x ++ us.flatMap uCells := rfl
    have hl : (uCells x).length = 3 := rfl
    rw [e]
    refine ⟨?_, ?_, ?_⟩
    · rw [List.getElem?_append_right (by omega), hl, show (k + 1) * 3 - 3 = k * 3 by omega]; exact ih.1
    · rw [List.getElem?_append_right (by omega), hl, show (k + 1) * 3 + 1 - 3 = k * 3 + 1 by omega]; exact ih.2.1
    · rw [List.getElem?_append_right (by omega), hl, show (k + 1) * 3 + 2 - 3 = k * 3 + 2 by omega]; exact ih.2.2
theorem own_open {w : World} {B e size n : Nat} {v : Value} {xs : List Value} (h : w.ownsRow B e size v n xs) (hn : 0 < n) :
    ∃ g cap, v = .slice (some ⟨g, 0, none⟩) n cap ∧ B ≤ g ∧ g < w.heap.size ∧ n ≤ cap ∧ cap ≤ maxLen ∧ ∀ j u, xs[j]? = some u → w.cell? ⟨g, j, none⟩ = some u := by
  have hc := @World.ownsRow.cells _ _ _ _ _ _ _ h
  rcases h.2 with ⟨_, rfl⟩ | ⟨g, cap, cur, rfl, hb, hg, hnc, hcm, _⟩
  · omega
  · refine ⟨g, cap, rfl, hb, (Array.getElem?_eq_some_iff.1 hg).1, hnc, hcm, fun j u hu => ?_⟩
    have hadd : (⟨g, 0, none⟩ : Addr).add j = ⟨g, j, none⟩ := by unfold Addr.add; split <;> simp_all
    rw [← hadd]
    exact hc (g := g) rfl j u hu

theorem own_apart {w : World} {B e e' size size' n n' : Nat} {v v' : Value} {xs xs' : List Value} (h : w.ownsRow B e size v n xs) (h' : w.ownsRow B e' size' v' n' xs') (hne : e ≠ e') : v.ownBlock = none ∨ v.ownBlock ≠ v'.ownBlock := by
  rcases h.2 with ⟨rfl, _⟩ | ⟨g, cap, cur, rfl, _, hg, _⟩
  · left; rfl
  · right
    rcases h'.2 with ⟨rfl, _⟩ | ⟨g', cap', cur', rfl, _, hg', _⟩
    · simp [Value.ownBlock]
    · simp only [Value.ownBlock]
      intro e1
      obtain rfl : g = g' := Option.some.inj e1
      rw [hg] at hg'
      simp at hg'
      exact hne hg'.2

/-- What holds at the head of each round. -/
def RcodInv (w : World) (B : Nat) (us : List (Nat × Nat × Int)) (vs : Value) (n : Nat) (v : Value) (wr : World) (k : Nat) : Prop :=
  wr.ownsRow B 61 3 vs n (us.flatMap uCells) ∧ wr.ownsRow B 3 1 v k ((us.take k).map fun u => .int .i64 u.2.2) ∧ ((us.take k).all fun u => decide (0 ≤ u.2.2)) = true ∧ Below B w wr ∧ B ≤ wr.heap.size

theorem RcodInv.step {w : World} {B : Nat} {us : List (Nat × Nat × Int)} {vs : Value} {n : Nat} {v : Value} {wr : World} {k : Nat} (h : RcodInv w B us vs n v wr k) {u : Nat × Nat × Int} (hu : us[k]? = some u) (h0 : 0 ≤ u.2.2)
    {v' : Value} {w4 : World} {o o' : Obj} (hown : w4.ownsRow B 3 1 v' (k + 1) (((us.take k).map fun u => .int .i64 u.2.2) ++ [.int .i64 u.2.2])) (hg : ((wr.alloc o).alloc o').grownBy w4 v.ownBlock) : RcodInv w B us vs n v' w4 (k + 1) := by
  obtain ⟨h1, h2, h3, h4, h5⟩ := h
  have ht : us.take (k + 1) = us.take k ++ [u] := by
    rw [List.take_add_one, hu]; rfl
  refine ⟨((h1.alloc o).alloc o').kept hg (own_apart h1 h2 (by decide)), ?_, ?_, ?_, ?_⟩
  · rw [ht, List.map_append]; exact hown
  · rw [ht, List.all_append, h3]; simp [h0]
  · exact ((h4.alloc h5 o).alloc (by simp; omega) o').grown hg (by simp; omega) (fun g hk => (h2.lt g hk).1)
  · have := hg.size; simp at this; omega

set_option maxHeartbeats 1000000 in
theorem rcodes_any (s : ByteArray) (w : World) (hs : s.size ≤ 1000000000000) :
    Calls Tryd.prog 24 #[.string s] w fun e w' => ∃ v, e = .returned (.tuple #[v, .bool (validD s.data.toList)]) ∧ w'.ownsRow w.heap.size 3 1 v (codesL s.data.toList).length ((codesL s.data.toList).map (Value.int .i64)) ∧ Below w.heap.size w w' := by
  obtain ⟨i0, hi, hz0, hz1, hz2⟩ := info_parts Tryd.info3
  have hlen := units_length_le s.data.toList 0
  rw [← Lib.size_eq] at hlen
  have hvu := validD_units s.data.toList 0
  have hcl : codesL s.data.toList = if validD s.data.toList then (units 0 s.data.toList).map (·.2.2) else [] := rfl
  obtain ⟨us, hus⟩ : ∃ us, us = units 0 s.data.toList := ⟨_, rfl⟩
  have cA : ∀ wx, Calls Tryd.prog 36 #[.string s] wx fun e w' => ∃ A cap, e = .returned (.slice A us.length cap) ∧ us.length ≤ cap ∧ cap ≤ maxLen ∧ w'.ownsRow wx.heap.size 61 3 (.slice A us.length cap) us.length (us.flatMap uCells) ∧ Below wx.heap.size wx w' := by
    intro wx
    rw [hus]
    refine (rall_any s wx hs).mono ?_
    rintro e w' ⟨v, he, ho, hb⟩
    rcases ho.2 with ⟨rfl, h0⟩ | ⟨g, cap, cur, rfl, _, _, hnc, hcm, _⟩
    · exact ⟨none, 0, by rw [he, h0], by omega, by simp, by rw [h0] at ho ⊢; exact ho, hb⟩
    · exact ⟨_, cap, he, hnc, hcm, ho, hb⟩
  rw [← hus] at hlen hvu hcl
  obtain ⟨n, hn⟩ : ∃ n, n = us.length := ⟨_, rfl⟩
  rw [← hn] at hlen cA
  have CA := Lib.hid cA
  have HVU := Lib.hid hvu
  have HCL := Lib.hid hcl
  have HN := Lib.hid hn
  clear cA hvu hcl hus hn
  go_enter Tryd.func24, Tryd.ntmps24
  go_wp2_with fail
  refine (CA.out _).mono ?_
  rintro e w1 ⟨A, cap, rfl, hc1, hc2, hown1, hb1⟩
  have hinv0 := Lib.hid (show RcodInv w w.heap.size us (.slice A n cap) n (.slice none 0 0) w1 0 from ⟨hown1, by simpa using World.ownsRow_nil w1 w.heap.size 3 1, by simp, hb1, hb1.size⟩)
  clear hown1 hb1
  go_wp2_with fail
  unfold maxLen at hc2
  go_loopw [4, 10] (fun v i wr => ∃ k : Nat, i = .int .i64 k ∧ k ≤ n ∧ Hid (RcodInv w w.heap.size us (.slice A n cap) n v wr k)) (fun _ i _ => n - (RowKit.intOf i).toNat)
  case atStart => exact ⟨0, rfl, Nat.zero_le _, hinv0.out⟩
  case round =>
    obtain ⟨k, rfl, hkn, HI⟩ := hrel
    clear hinv0
    by_cases hk : k < n
    · obtain ⟨u, hu⟩ : ∃ u, us[k]? = some u := by
        have hql : k < us.length := by rw [← HN.out]; exact hk
        exact ⟨us[k], List.getElem?_eq_getElem hql⟩
      obtain ⟨g, cap', hA, _, hg, hcc, _, hcells⟩ := own_open HI.out.1 (by omega)
      simp only [Value.slice.injEq, true_and] at hA
      obtain ⟨rfl, rfl⟩ := hA
      obtain ⟨x0, x1, x2⟩ := cells3 us k u hu
      have m0 := hcells _ _ x0
      have m1 := hcells _ _ x1
      have m2 := hcells _ _ x2
      have HU := Lib.hid hu
      clear hcells x0 x1 x2 hu
      obtain ⟨ua, ub, uc⟩ := u
      dsimp only at m0 m1 m2
      by_cases hc : uc < 0
      · have hbad : validD s.data.toList = false := by
          rw [HVU.out, Bool.eq_false_iff]
          intro hall
          have := List.all_eq_true.1 hall _ (List.mem_of_getElem? HU.out)
          simp at this
          omega
        have hcod : codesL s.data.toList = [] := by rw [HCL.out, hbad]; rfl
        have HB := Lib.hid (And.intro hbad hcod)
        clear hbad hcod
        go_wp2
        go_ret2
        refine ⟨_, by rw [HB.out.1]; rfl, ?_, HI.out.2.2.2.1.alloc HI.out.2.2.2.2 _⟩
        rw [HB.out.2]
        exact World.ownsRow_nil _ _ _ _
      · have hc0 : 0 ≤ uc := by omega
        go_wp2_with (at_builtin; refine wpList_append_own _ rfl _ _ 42 rfl w.heap.size 3 i0 (.int .i64 0) 1 8 Tryd.underlying42 hi hz0 hz1 hz2 rfl (by decide) _ _ _ rfl ((HI.out.2.1.alloc _).alloc _) ⟨wr.heap.size + 1, 0, none⟩ 1 1 [.int .i64 uc] rfl rfl (cells_new2 _ _ _ _) (ints_oneCell .i64 [uc]) (by unfold maxLen; omega) (by omega) (by have := HI.out.2.2.2.2; simp; omega) ?_; intro v' w4 hown4 hgrow4 _)
        have hst := Lib.hid (HI.out.step HU.out hc0 hown4 hgrow4)
        clear hown4 hgrow4
        go_roundw
        case rel => exact ⟨k + 1, by go_num, by omega, hst.out⟩
        case measure => simp [RowKit.intOf]; omega
    · have hkk : k = n := by omega
      obtain ⟨i1, i2, i3, i4, i5⟩ := HI.out
      have htk : us.take k = us := List.take_of_length_le (by rw [← HN.out]; omega)
      rw [htk] at i2 i3
      have hgood : validD s.data.toList = true := by rw [HVU.out]; exact i3
      have hcod : codesL s.data.toList = us.map (·.2.2) := by rw [HCL.out, hgood]; rfl
      have HB := Lib.hid (And.intro hgood (And.intro hcod (And.intro i2 i4)))
      clear hgood hcod i1 i2 i3 i4 i5 htk
      go_wp2_with fail
      go_ret2
      refine ⟨_, by rw [HB.out.1]; rfl, ?_, HB.out.2.2.2⟩
      rw [HB.out.2.1, List.length_map, List.map_map, ← HN.out, ← hkk]
      exact HB.out.2.2.1
end Go.Proofs.YtfhoffdgbkoffaaDoor
