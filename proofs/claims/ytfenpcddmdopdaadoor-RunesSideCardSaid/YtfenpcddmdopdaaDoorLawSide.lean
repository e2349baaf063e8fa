/- RunesSide: units side by side are the text: the walk. -/
import Derived.Test.YtfenpcddmdopdaaDoorSide
import Derived.Test.YtfenpcddmdopdaaDoorLawCodes
import Derived.Deep.QuietTactic
import Derived.BigQuiet
namespace Go.Proofs.YtfenpcddmdopdaaDoor
open Go Go.RowKit Go.Lib

set_option maxRecDepth 100000 in
set_option maxHeartbeats 1000000 in
theorem side_long (s t : ByteArray) (w : World) (hT : Lib.Utf8Tabs 0 1 w) (hl : decide ((1000 : Int) < s.size) = true ∨ (decide ((1000 : Int) < s.size) = false ∧ decide ((1000 : Int) < t.size) = true)) :
    Calls Tryd.prog 4 #[.string s, .string t] w fun e w' => e = .returned (.bool true) ∧ Below w.heap.size w w' := by
  have HT := Lib.hid hT
  clear hT
  rcases hl with h1 | ⟨h1, h2⟩
  all_goals
    go_enter Tryd.func4, Tryd.ntmps4
    go_wp2_with (go_at_call 7; refine (awake_any _ HT.out).mono ?_; rintro e w2 ⟨rfl, hb2⟩)
    go_ret
    exact ⟨rfl, hb2⟩

/-- What holds at the head of each round. -/
def SideInv (s : ByteArray) (w : World) (B g : Nat) (wr : World) (k p : Nat) : Prop :=
  p ≤ s.size ∧ (units 0 s.data.toList).drop k = units p (s.data.toList.drop p) ∧ k ≤ (units 0 s.data.toList).length ∧ Below B w wr ∧
  (∀ j u, ((units 0 s.data.toList).flatMap uCells)[j]? = some u → wr.cell? ⟨g, j, none⟩ = some u) ∧ (g < wr.heap.size ∨ (units 0 s.data.toList).length = 0) ∧ B ≤ wr.heap.size

theorem SideInv.step {s : ByteArray} {w : World} {B g : Nat} {wr : World} {k p N : Nat} (h : SideInv s w B g wr k p) {w4 : World} (h1 : Below B w w4) (h2 : Below wr.heap.size wr w4) (hp : p + N ≤ s.size)
    (hu : (units 0 s.data.toList).drop (k + 1) = units (p + N) ((s.data.toList.drop p).drop N)) (hk : k + 1 ≤ (units 0 s.data.toList).length) : SideInv s w B g w4 (k + 1) (p + N) := by
  obtain ⟨i1, i2, i3, i4, i5, i6, i7⟩ := h
  refine ⟨hp, by rw [hu, List.drop_drop], hk, h1, fun j u hju => ?_, ?_, Nat.le_trans i7 h2.size⟩
  · rcases i6 with i6 | i6
    · exact (h2.cell (p := ⟨g, j, none⟩) i6).trans (i5 j u hju)
    · omega
  · rcases i6 with i6 | i6
    · exact .inl (Nat.lt_of_lt_of_le i6 h2.size)
    · exact .inr i6

set_option maxRecDepth 100000 in
set_option maxHeartbeats 4000000 in
theorem side_short (s t : ByteArray) (w : World) (hT : Lib.Utf8Tabs 0 1 w) (hs : s.size ≤ 1000) (ht : t.size ≤ 1000) :
    Calls Tryd.prog 4 #[.string s, .string t] w fun e w' => e = .returned (.bool true) ∧ Below w.heap.size w w' := by
  have h1 : decide ((1000 : Int) < s.size) = false := by simp; omega
  have h2 : decide ((1000 : Int) < t.size) = false := by simp; omega
  have c1 : ∀ wx, Calls Tryd.prog 13 #[.string s] wx fun e w' => ∃ A cap g, e = .returned (.slice A (units 0 s.data.toList).length cap) ∧ ((units 0 s.data.toList).length ≤ cap ∧ cap ≤ maxLen) ∧ (0 < (units 0 s.data.toList).length → A = some ⟨g, 0, none⟩) ∧
      (∀ j u, ((units 0 s.data.toList).flatMap uCells)[j]? = some u → w'.cell? ⟨g, j, none⟩ = some u) ∧ (g < w'.heap.size ∨ (units 0 s.data.toList).length = 0) ∧ Below wx.heap.size wx w' := by
    intro wx
    refine (all_any s wx (by omega)).mono ?_
    rintro e w' ⟨v, he, ho, hb⟩
    by_cases h0 : 0 < (units 0 s.data.toList).length
    · obtain ⟨g, cap, rfl, _, hg, hc1, hc2, hc⟩ := own_open ho h0
      exact ⟨_, cap, g, he, ⟨hc1, hc2⟩, fun _ => rfl, hc, .inl hg, hb⟩
    · have h0' : (units 0 s.data.toList).length = 0 := by omega
      have hnil : units 0 s.data.toList = [] := List.eq_nil_of_length_eq_zero h0'
      rw [hnil] at ho ⊢
      rcases ho.2 with ⟨rfl, _⟩ | ⟨g, cap, cur, rfl, _, _, hnc, hcm, _⟩
      · exact ⟨none, 0, 0, he, ⟨by simp, by simp⟩, fun h => by simp at h, fun j u hu => by simp at hu, .inr rfl, hb⟩
      · exact ⟨_, cap, g, he, ⟨hnc, hcm⟩, fun _ => rfl, fun j u hu => by simp at hu, .inr rfl, hb⟩
  have hlen := units_length_le s.data.toList 0
  rw [← Lib.size_eq] at hlen
  obtain ⟨n, hn⟩ : ∃ n, n = (units 0 s.data.toList).length := ⟨_, rfl⟩
  rw [← hn] at c1 hlen
  have C1 := Lib.hid c1
  have HN := Lib.hid hn
  have HT := Lib.hid hT
  clear c1 hT hn
  go_enter Tryd.func4, Tryd.ntmps4
  go_wp2_with fail
  refine (C1.out _).mono ?_
  rintro e w1 ⟨A, cap, g, rfl, ⟨hc1, hc2⟩, hA, hcells, hg, hb1⟩
  have hinv0 : SideInv s w w.heap.size g w1 0 0 := ⟨Nat.zero_le _, by simp, Nat.zero_le _, hb1, hcells, by rw [← HN.out]; exact hg, hb1.size⟩
  have HA := Lib.hid hA
  clear hcells hg hA
  go_wp2_with fail
  unfold maxLen at hc2
  go_loopw [5, 24] (fun a i wr => ∃ (k p : Nat), i = .int .i64 k ∧ a = .int .i64 p ∧ k ≤ n ∧ p ≤ s.size ∧ Hid (SideInv s w w.heap.size g wr k p)) (fun _ i _ => n - (RowKit.intOf i).toNat)
  case atStart => exact ⟨0, 0, rfl, rfl, by omega, by omega, hinv0⟩
  case round =>
    obtain ⟨k, p, rfl, rfl, hkn, hps, HI⟩ := hrel
    by_cases hk : k < n
    · obtain rfl := HA.out (by omega)
      obtain ⟨i1, i2, i3, i4, i5, i6, i7⟩ := HI.out
      have hne : s.data.toList.drop p ≠ [] := by
        intro h0
        rw [h0, units_nil] at i2
        have := congrArg List.length i2
        rw [List.length_drop, ← HN.out] at this
        simp at this; omega
      have hp : p < s.size := by
        apply Nat.lt_of_not_le
        intro h
        exact hne (List.drop_eq_nil_of_le (by rw [← Lib.size_eq]; exact h))
      obtain ⟨u1, u2, u3⟩ := unit_at _ k p _ i2 hne
      obtain ⟨x0, x1, x2⟩ := cells3 _ k _ u1
      have z0 := i5 _ _ x0
      have z1 := i5 _ _ x1
      have z2 := i5 _ _ x2
      have hw1 := decodeL_width (s.data.toList.drop p)
      have hw4 := width_le4 (s.data.toList.drop p)
      have hle := decodeL_le _ hne
      rw [List.length_drop, ← Lib.size_eq] at hle
      have hsplit : (uBad (s.data.toList.drop p) = true ∧ (decodeL (s.data.toList.drop p)).2 = 1 ∧ uCode (s.data.toList.drop p) = -1 - (s[p].toNat : Int)) ∨
          (uBad (s.data.toList.drop p) = false ∧ 0 ≤ uCode (s.data.toList.drop p) ∧ bytesOf (uCode (s.data.toList.drop p)) = s.extract p (p + (decodeL (s.data.toList.drop p)).2)) := by
        cases hb : uBad (s.data.toList.drop p)
        · right
          refine ⟨rfl, by simp [uCode, hb], bytes_unit s p hne hb⟩
        · left
          refine ⟨rfl, ?_, ?_⟩
          · simp [uBad] at hb; exact hb.2
          · simp only [uCode, hb, if_true, getD_drop_at s p hp]
      have cA : ∀ wx, Lib.Utf8Tabs 0 1 wx → Calls Tryd.prog 8 #[.string s, .int .i64 p] wx fun e w' => e = .returned (.tuple #[uVal p (s.data.toList.drop p), .bool true]) ∧ Below wx.heap.size wx w' := fun wx ht => at_some s p wx hp (by omega) ht
      have hCu : uCode (s.data.toList.drop p) ≤ 1114111 := by
        have := decodeL_rune (s.data.toList.drop p)
        have hb := s[p].toNat_lt
        unfold uCode; split <;> omega
      unfold uVal at cA
      obtain ⟨N, hN⟩ : ∃ N, N = (decodeL (s.data.toList.drop p)).2 := ⟨_, rfl⟩
      obtain ⟨C, hC⟩ : ∃ C, C = uCode (s.data.toList.drop p) := ⟨_, rfl⟩
      rw [← hN] at u2 hw1 hw4 hle hsplit cA z1
      rw [← hC] at hsplit cA z2 hCu
      have CA := Lib.hid cA
      have HNI := Lib.hid (show SideInv s w w.heap.size g wr k p → True from fun _ => trivial)
      have U2 := Lib.hid u2
      clear u1 u2 x0 x1 x2 i2 i5 hN hC cA HNI
      have HTW := Lib.hid (show ∀ o, Lib.Utf8Tabs 0 1 (wr.alloc o) from fun o => tabs_below HT.out ((i4.alloc i7 o)))
      have HIC := Lib.hid HI.out
      have hkl : k + 1 ≤ (units 0 s.data.toList).length := by rw [← HN.out]; omega
      have hsN : p + N ≤ s.size := by omega
      have g1 : decide ((N : Int) < 1) = false := by simp; omega
      have g2 : decide ((4 : Int) < N) = false := by simp; omega
      have g3 : decide (s.size < p + N) = false := by simp; omega
      have g3' : decide ((s.size : Int) < (p : Int) + N) = false := by simp; omega
      have g4 : IntKind.i64.wrap ((p : Int) + N) = (p : Int) + N := IntWalk.i64_in _ (by omega)
      have g5 : 0 ≤ (p : Int) + N := by omega
      have g6 : ((p : Int) + N).toNat = p + N := by omega
      have g7 : IntKind.i64.wrap (-1 - C) = -1 - C := IntWalk.i64_in _ (by
        rcases hsplit with ⟨_, _, h⟩ | ⟨_, h, _⟩
        · have := s[p].toNat_lt; omega
        · omega)
      rcases hsplit with ⟨-, hN1, hC1⟩ | ⟨-, hC0, hB⟩
      · have hbb := s[p].toNat_lt
        have q1 : decide (C < 0) = true := by simp; omega
        have q2 : decide (0 ≤ C) = false := by simp; omega
        have q3 : ((-1 - C) != (s[p].toNat : Int)) = false := by simp; omega
        have q5 : IntKind.i64.wrap (s[p].toNat : Int) = (s[p].toNat : Int) := IntWalk.i64_in _ (by omega)
        have q4 : ((N : Int) != 1) = false := by simp; omega
        clear hN1 hC1
        go_wp2_with fail
        refine (CA.out _ (HTW.out _)).mono ?_
        rintro e w2 ⟨rfl, hb2⟩
        obtain ⟨⟨y0, y1, y2⟩, -⟩ := box3 hb2
        have hz : wr.heap.size < w2.heap.size := by have := hb2.size; simp at this; omega
        clear h1 h2 z0 z1 z2
        go_wp2_with fail
        have o0 : (w2.alloc (.cells #[.int .i64 p, .int .i64 N, .int .i64 C] 24)).cell? ⟨wr.heap.size, 0, none⟩ = some (.int .i64 p) := by rw [World.cell?_alloc_lt _ _ _ hz]; exact y0
        have o1 : (w2.alloc (.cells #[.int .i64 p, .int .i64 N, .int .i64 C] 24)).cell? ⟨wr.heap.size, 1, none⟩ = some (.int .i64 N) := by rw [World.cell?_alloc_lt _ _ _ hz]; exact y1
        have o2 : (w2.alloc (.cells #[.int .i64 p, .int .i64 N, .int .i64 C] 24)).cell? ⟨wr.heap.size, 2, none⟩ = some (.int .i64 C) := by rw [World.cell?_alloc_lt _ _ _ hz]; exact y2
        have v1 : (w2.alloc (.cells #[.int .i64 p, .int .i64 N, .int .i64 C] 24)).cell? ⟨w2.heap.size, 1, none⟩ = some (.int .i64 N) := by simp
        have v2 : (w2.alloc (.cells #[.int .i64 p, .int .i64 N, .int .i64 C] 24)).cell? ⟨w2.heap.size, 2, none⟩ = some (.int .i64 C) := by simp
        have hW3 : Below w.heap.size w (w2.alloc (.cells #[.int .i64 p, .int .i64 N, .int .i64 C] 24)) ∧ Below wr.heap.size wr (w2.alloc (.cells #[.int .i64 p, .int .i64 N, .int .i64 C] 24)) := by
          have e1 : Below wr.heap.size wr w2 := ((Below.refl _ _).alloc (Nat.le_refl _) _).trans (hb2.mono (by simp))
          have e2 := e1.alloc e1.size (.cells #[.int .i64 p, .int .i64 N, .int .i64 C] 24)
          exact ⟨i4.trans (e2.mono i7), e2⟩
        generalize w2.alloc (.cells #[.int .i64 p, .int .i64 N, .int .i64 C] 24) = w3 at o0 o1 o2 v1 v2 hW3 ⊢
        have HW3 := Lib.hid hW3
        have HI4 := Lib.hid (And.intro i4 (And.intro i6 i7))
        have HB2 := Lib.hid hz
        clear hW3 i4 i6 i7 hz y0 y1 y2 hb2 hb1 hinv0 hne u3 HTW C1 CA HA hc1 hc2 i3 i1
        simp only [List.append]
        go_quiet (fail)
        have o1' : (w3.drewN nq).cell? ⟨wr.heap.size, 1, none⟩ = some (.int .i64 N) := by simpa using o1
        clear o0 o1 o2 v1 v2 q1 q2 q3 q4 q5 g1 g2 g3 g3' g4 g5 g6 g7
        have hst := Lib.hid (HIC.out.step (N := N) (below_drewN HW3.out.1 nq) (below_drewN HW3.out.2 nq) hsN U2.out hkl)
        clear HW3
        go_wp2_with fail
        go_roundw
        case rel => exact ⟨k + 1, p + N, by go_num, by go_num, by omega, by omega, hst.out⟩
        case measure => simp [RowKit.intOf]; omega
      · skip
        have q1 : decide (C < 0) = false := by simp; omega
        have q2 : decide (0 ≤ C) = true := by simp; omega
        have BQ := Lib.hid (show ∀ wx, Calls Tryd.prog 15 #[.int .i64 C] wx fun e w' => e = .returned (.string (s.extract p (p + N))) ∧ w' = wx from fun wx => (bytes_at C _ hB wx).mono fun e w' h => ⟨h.1, h.2.symm⟩)
        clear hB
        go_wp2_with fail
        refine (CA.out _ (HTW.out _)).mono ?_
        rintro e w2 ⟨rfl, hb2⟩
        obtain ⟨⟨y0, y1, y2⟩, -⟩ := box3 hb2
        have hz : wr.heap.size < w2.heap.size := by have := hb2.size; simp at this; omega
        clear h1 h2 z0 z1 z2
        go_wp2_with fail
        have o0 : (w2.alloc (.cells #[.int .i64 p, .int .i64 N, .int .i64 C] 24)).cell? ⟨wr.heap.size, 0, none⟩ = some (.int .i64 p) := by rw [World.cell?_alloc_lt _ _ _ hz]; exact y0
        have o1 : (w2.alloc (.cells #[.int .i64 p, .int .i64 N, .int .i64 C] 24)).cell? ⟨wr.heap.size, 1, none⟩ = some (.int .i64 N) := by rw [World.cell?_alloc_lt _ _ _ hz]; exact y1
        have o2 : (w2.alloc (.cells #[.int .i64 p, .int .i64 N, .int .i64 C] 24)).cell? ⟨wr.heap.size, 2, none⟩ = some (.int .i64 C) := by rw [World.cell?_alloc_lt _ _ _ hz]; exact y2
        have v1 : (w2.alloc (.cells #[.int .i64 p, .int .i64 N, .int .i64 C] 24)).cell? ⟨w2.heap.size, 1, none⟩ = some (.int .i64 N) := by simp
        have v2 : (w2.alloc (.cells #[.int .i64 p, .int .i64 N, .int .i64 C] 24)).cell? ⟨w2.heap.size, 2, none⟩ = some (.int .i64 C) := by simp
        have hW3 : Below w.heap.size w (w2.alloc (.cells #[.int .i64 p, .int .i64 N, .int .i64 C] 24)) ∧ Below wr.heap.size wr (w2.alloc (.cells #[.int .i64 p, .int .i64 N, .int .i64 C] 24)) := by
          have e1 : Below wr.heap.size wr w2 := ((Below.refl _ _).alloc (Nat.le_refl _) _).trans (hb2.mono (by simp))
          have e2 := e1.alloc e1.size (.cells #[.int .i64 p, .int .i64 N, .int .i64 C] 24)
          exact ⟨i4.trans (e2.mono i7), e2⟩
        generalize w2.alloc (.cells #[.int .i64 p, .int .i64 N, .int .i64 C] 24) = w3 at o0 o1 o2 v1 v2 hW3 ⊢
        have HW3 := Lib.hid hW3
        have HI4 := Lib.hid (And.intro i4 (And.intro i6 i7))
        have HB2 := Lib.hid hz
        clear hW3 i4 i6 i7 hz y0 y1 y2 hb2 hb1 hinv0 hne u3 HTW C1 CA HA hc1 hc2 i3 i1
        simp only [List.append]
        go_quiet ((go_at_call 15; exact Calls.quiet_of_same (BQ.out _)))
        have o1' : (w3.drewN nq).cell? ⟨wr.heap.size, 1, none⟩ = some (.int .i64 N) := by simpa using o1
        clear o0 o1 o2 v1 v2 q1 q2 g1 g2 g3 g3' g4 g5 g6 g7
        have hst := Lib.hid (HIC.out.step (N := N) (below_drewN HW3.out.1 nq) (below_drewN HW3.out.2 nq) hsN U2.out hkl)
        clear HW3
        go_wp2_with fail
        go_roundw
        case rel => exact ⟨k + 1, p + N, by go_num, by go_num, by omega, by omega, hst.out⟩
        case measure => simp [RowKit.intOf]; omega
    · have hkk : k = n := by omega
      obtain ⟨i1, i2, i3, i4, i5, i6, i7⟩ := HI.out
      have hnil : units p (s.data.toList.drop p) = [] := by rw [← i2]; exact List.drop_eq_nil_of_le (by rw [← HN.out]; omega)
      have hp : p = s.size := by
        by_cases hd : s.data.toList.drop p = []
        · have := congrArg List.length hd
          rw [List.length_drop, ← Lib.size_eq, List.length_nil] at this
          omega
        · rw [units_step p _ hd] at hnil; cases hnil
      subst hp
      subst hkk
      have HI4 := Lib.hid i4
      have HTr := Lib.hid (show Lib.Utf8Tabs 0 1 wr from tabs_below HT.out i4)
      clear i1 i2 i3 i4 i5 i6 i7 hnil hinv0 HA hc1 hc2 hb1
      have hsame : decide ((s.size : Int) = s.size) = true := by simp
      cases hv : validD s.data.toList
      · have CN := Lib.hid (fun wx ht => codes_no s wx (by omega) ht hv)
        have HV := Lib.hid (show True from trivial)
        clear hv
        go_wp2_with fail
        refine (CN.out _ HTr.out).mono ?_
        rintro e w2 ⟨rfl, hb2⟩
        go_wp2_with fail
        refine (awake_any _ (tabs_below HTr.out hb2)).mono ?_
        rintro e w3 ⟨rfl, hb3⟩
        have hf : Below w.heap.size w w3 := HI4.out.trans ((hb2.mono HI4.out.size).trans (hb3.mono (Nat.le_trans HI4.out.size hb2.size)))
        have HF := Lib.hid hf
        clear hb2 hb3 hf
        go_wp2_with fail
        go_ret
        exact ⟨rfl, HF.out⟩
      · have CY := Lib.hid (fun wx ht => codes_yes s wx (by omega) ht hv)
        obtain ⟨n1, hn1⟩ : ∃ n1, n1 = (units 0 t.data.toList).length := ⟨_, rfl⟩
        have happ : (s ++ t).data.toList = s.data.toList ++ t.data.toList := by simp
        have hsum : k + n1 = (units 0 (s ++ t).data.toList).length := by
          rw [happ, units_append _ _ 0 hv, List.length_append, ← HN.out, hn1]
          congr 1
          have hsh : ∀ (l : List UInt8) p q, (units p l).length = (units q l).length := by
            apply unit_ind (C := fun l => ∀ p q, (units p l).length = (units q l).length)
            · intro p q; rfl
            · intro l hne ih p q
              rw [units_step p l hne, units_step q l hne, List.length_cons, List.length_cons, ih _ (q + (decodeL l).2)]
          exact hsh _ _ _
        have hn1le : n1 ≤ t.size := by rw [hn1, Lib.size_eq]; exact units_length_le _ _
        have A1 := Lib.hid (fun wx => all_len (s ++ t) wx (by simp; omega) (k + n1) hsum)
        have A2 := Lib.hid (fun wx => all_len s wx (by omega) k HN.out)
        have A3 := Lib.hid (fun wx => all_len t wx (by omega) n1 hn1)
        clear hv hn1 happ hsum
        go_wp2_with fail
        refine (CY.out _ HTr.out).mono ?_
        rintro e w2 ⟨v2, rfl, -, hb2⟩
        have e1 : ((k : Int) + n1) = ((k + n1 : Nat) : Int) := by omega
        have e2 : IntKind.i64.wrap ((k : Int) + n1) = ((k + n1 : Nat) : Int) := by rw [e1]; exact IntWalk.i64_in _ (by omega)
        have HE := Lib.hid e2
        have HE1 := Lib.hid e1
        clear e1 e2
        go_wp2_with fail
        refine (A1.out _).mono ?_
        rintro e w3 ⟨S1, cap1, rfl, hb3⟩
        go_wp2_with fail
        refine (A2.out _).mono ?_
        rintro e w4 ⟨S2, cap2, rfl, hb4⟩
        go_wp2_with fail
        refine (A3.out _).mono ?_
        rintro e w5 ⟨S3, cap3, rfl, hb5⟩
        have hf : Below w.heap.size w w5 := HI4.out.trans ((hb2.mono HI4.out.size).trans ((hb3.mono (Nat.le_trans HI4.out.size hb2.size)).trans ((hb4.mono (Nat.le_trans (Nat.le_trans HI4.out.size hb2.size) hb3.size)).trans (hb5.mono (Nat.le_trans (Nat.le_trans (Nat.le_trans HI4.out.size hb2.size) hb3.size) hb4.size)))))
        have HF := Lib.hid hf
        clear hb2 hb3 hb4 hb5 hf
        go_wp2_with fail
        refine (awake_any _ (tabs_below HT.out HF.out)).mono ?_
        rintro e w6 ⟨rfl, hb6⟩
        have HF6 := Lib.hid (HF.out.trans (hb6.mono HF.out.size))
        clear hb6
        go_wp2_with fail
        go_ret
        exact ⟨rfl, HF6.out⟩

theorem side_law (s t : ByteArray) (w : World) (hT : Lib.Utf8Tabs 0 1 w) :
    Calls Tryd.prog 4 #[.string s, .string t] w fun e w' => e = .returned (.bool true) ∧ Below w.heap.size w w' := by
  by_cases h1 : 1000 < s.size
  · exact side_long s t w hT (.inl (by simp; omega))
  · by_cases h2 : 1000 < t.size
    · exact side_long s t w hT (.inr ⟨by simp; omega, by simp; omega⟩)
    · exact side_short s t w hT (by omega) (by omega)
end Go.Proofs.YtfenpcddmdopdaaDoor
