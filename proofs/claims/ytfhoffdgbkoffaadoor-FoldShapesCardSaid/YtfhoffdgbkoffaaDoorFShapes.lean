/- FoldShapes. -/
import Derived.Test.YtfhoffdgbkoffaaDoorFAwake
import Derived.Test.YtfhoffdgbkoffaaDoorFShapeP
import Derived.Deep.LoopGhost
import Derived.Deep.RegionHeld3
import Derived.Deep.DeepCutAuto
import Derived.Deep.CutRange
namespace Go.Proofs.YtfhoffdgbkoffaaDoor
open Go Go.RowKit Go.Lib

/-- A slice that reads as these truths. -/
def BoolsAt (w : World) (A : Option Addr) (n : Nat) (B : Nat → Bool) : Prop := ∀ i, i < n → ∃ b off, A = some ⟨b, off, none⟩ ∧ b < w.heap.size ∧ w.cell? ⟨b, off + i, none⟩ = some (.bool (B i))

set_option maxRecDepth 100000 in
set_option maxHeartbeats 4000000 in
theorem shapes_law (w : World) (hT : TU w) (A : Option Addr) (n cap : Nat) (B : Nat → Bool) (hB : BoolsAt w A n B) (_hnc : n ≤ cap) (_hcm : cap ≤ maxLen) :
    Calls Tryd.prog 4 #[.slice A n cap] w fun e w' => e = .returned (.bool true) ∧ Below w.heap.size w w' := by
  have HT := Lib.hid hT
  have HBO := Lib.hid hB
  obtain ⟨m, hm⟩ : ∃ m, m = min n 30 := ⟨_, rfl⟩
  have hm30 : m ≤ 30 := by omega
  have HM := Lib.hid hm
  clear hT hB hm
  go_enter Tryd.func4, Tryd.ntmps4
  go_wp2_with fail
  go_loopg [3, 4, 5, 6] m (fun gh s t c i wr => ∃ j : Nat, j + gh = m ∧ s = .string (mixB B j) ∧ t = .string (lowB j) ∧ c = .int .i64 (cntB B j : Nat) ∧ i = .int .i64 j ∧ wr = w)
  case atStart => exact ⟨0, by omega, rfl, rfl, rfl, rfl, rfl⟩
  case round =>
    obtain ⟨j, hj, rfl, rfl, rfl, rfl, rfl⟩ := hrel
    by_cases hlt : j < m
    · obtain ⟨blk, off, rfl, hblk, hcell⟩ := HBO.out j (by have := HM.out; omega)
      have hjn : (j : Int) < n := by have := HM.out; omega
      have hj30 : (j : Int) < 30 := by omega
      have hXs := mixB_size B j (by omega)
      have hLs := lowB_size j (by omega)
      obtain ⟨X, hX⟩ : ∃ X, X = mixB B j := ⟨_, rfl⟩
      obtain ⟨L, hL⟩ : ∃ L, L = lowB j := ⟨_, rfl⟩
      obtain ⟨C, hC⟩ : ∃ C, C = cntB B j := ⟨_, rfl⟩
      have hCj := cnt_le B j
      rw [← hX] at hXs
      rw [← hL] at hLs
      rw [← hC] at hCj
      rw [← hX, ← hL, ← hC]
      obtain ⟨je, hje⟩ : ∃ je, je = j + 1 := ⟨_, rfl⟩
      have g4 : IntKind.i64.wrap ((j : Int) + 1) = (je : Int) := by rw [hje]; rw [IntWalk.i64_in _ (by omega)]; omega
      have g5 : IntKind.i64.wrap ((C : Int) + 1) = ((C + 1 : Nat) : Int) := by rw [IntWalk.i64_in _ (by omega)]; omega
      have h5 : j ≤ je ∧ je ≤ 30 := by omega
      obtain ⟨h5, h6⟩ := h5
      have c1 : ¬ 9223372036854775807 < L.size + (min je 30 - j) := by omega
      have c2 : ¬ 9223372036854775807 < X.size + (min je 30 - j) := by omega
      have c3 : ¬ 9223372036854775807 < L.size + (je - j) := by omega
      have c4 : ¬ 9223372036854775807 < X.size + (je - j) := by omega
      have H := Lib.hid (And.intro hX (And.intro hL (And.intro hC hje)))
      have hlow : L ++ loS.extract j je = lowB (j + 1) := by rw [hL, hje]; rfl
      have hmx : X ++ (if B j = true then upS.extract j je else loS.extract j je) = mixB B (j + 1) := by rw [hX, hje]; rfl
      have hcc : C + (if B j = true then 1 else 0) = cntB B (j + 1) := by rw [hC]; rfl
      have HR := Lib.hid (And.intro hlow (And.intro hmx hcc))
      have tk1 : (0 : Int) ≤ j := by omega
      clear hX hL hC hje hXs hLs hCj hlow hmx hcc
      cases hbj : B j
      · have HBJ := Lib.hid hbj
        rw [hbj] at hcell
        clear hbj
        go_wp2_with fail
        go_roundg (gk - 1)
        case measure => omega
        case rel =>
          obtain ⟨r1, r2, r3⟩ := HR.out
          rw [HBJ.out] at r2 r3
          exact ⟨j + 1, by omega, by rw [← r2]; rfl, by rw [← r1]; rfl, by rw [← r3]; rfl, by have := H.out.2.2.2; go_num, rfl⟩
      · have HBJ := Lib.hid hbj
        rw [hbj] at hcell
        clear hbj
        go_wp2_with fail
        go_roundg (gk - 1)
        case measure => omega
        case rel =>
          obtain ⟨r1, r2, r3⟩ := HR.out
          rw [HBJ.out] at r2 r3
          exact ⟨j + 1, by omega, by rw [← r2]; rfl, by rw [← r1]; rfl, by rw [← r3]; rfl, by have := H.out.2.2.2; go_num, rfl⟩
    · obtain rfl : j = m := by omega
      obtain ⟨X, hX⟩ : ∃ X, X = mixB B j := ⟨_, rfl⟩
      obtain ⟨L, hL⟩ : ∃ L, L = lowB j := ⟨_, rfl⟩
      obtain ⟨C, hC⟩ : ∃ C, C = cntB B j := ⟨_, rfl⟩
      obtain ⟨W, hW⟩ : ∃ W, W = wantB B j := ⟨_, rfl⟩
      have hXs : X.size = j := by rw [hX]; exact mixB_size B j hm30
      have hLs : L.size = j := by rw [hL]; exact lowB_size j hm30
      have hCj : C ≤ j := by rw [hC]; exact cnt_le B j
      have hWC : W = if C = 0 then 0 else if C = 1 ∧ B 0 = true then 1 else if 2 ≤ C ∧ C = j then 2 else 3 := by rw [hW, hC]; rfl
      have l1 : shapeT [] X.data.toList = W := by rw [hX, hW]; exact (shapes_shape B j hm30).1
      have l2 : shapeT [] (X.data.toList ++ [33]) = W := by rw [hX, hW]; exact (shapes_shape B j hm30).2
      have l3 : smallT [] X.data.toList = L.data.toList := by rw [hX, hL]; exact shapes_small B j hm30
      have l4 : 0 < j → titleT [] L.data.toList = ((⟨#[65]⟩ : ByteArray) ++ L.extract 1 L.size).data.toList := by rw [hL]; exact shapes_title j hm30
      rw [← hX, ← hL, ← hC]
      have HL := Lib.hid (And.intro hXs (And.intro hLs (And.intro hCj (And.intro hWC (And.intro l1 (And.intro l2 (And.intro l3 l4)))))))
      have HB0 := Lib.hid (show 0 < j → ∃ b off, A = some ⟨b, off, none⟩ ∧ b < wr.heap.size ∧ wr.cell? ⟨b, off, none⟩ = some (.bool (B 0)) from fun h0 => by
        obtain ⟨b, off, e, hb, hc⟩ := HBO.out 0 (by have := HM.out; omega)
        exact ⟨b, off, e, hb, hc⟩)
      clear hX hL hC hW hXs hLs hCj hWC l1 l2 l3 l4 hlt
      go_upto_region 4 with fail
      go_cut [16] (fun t wz => t = .bool false ∧ wz = wr)
      case first =>
        rcases Nat.lt_or_ge 30 n with h30 | h30
        · have hj30 : j = 30 := by have := HM.out; omega
          have t1 : decide ((j : Int) < 30) = false := by simp; omega
          have t2 : decide ((j : Int) < n) = true := by simp; omega
          have t3 : decide (j < n) = true := by simp; omega
          have t4 : decide (j < 30) = false := by simp; omega
          clear hj30 h30
          go_wp2_with fail
          go_meet
          exact ⟨rfl, rfl⟩
        · have hjn : j = n := by have := HM.out; omega
          have t1 : decide ((j : Int) < n) = false := by simp; omega
          have t2 : decide (j < n) = false := by simp; omega
          clear hjn h30
          go_wp2_with fail
          go_meet
          exact ⟨rfl, rfl⟩
      case rest =>
      obtain ⟨rfl, rfl⟩ := hcut
      go_upto_region 12 with fail
      go_cut [8] (fun t wz => t = .int .i64 3 ∧ wz = wc)
      case first =>
        go_wp2_with fail
        go_meet
        exact ⟨rfl, rfl⟩
      case rest =>
      obtain ⟨rfl, rfl⟩ := hcut
      go_step
      go_step
      go_cut [8] (fun t wz => t = .int .i64 W ∧ wz = wc)
      case first =>
        have hWC := HL.out.2.2.2.1
        by_cases c0 : C = 0
        · rw [if_pos c0] at hWC
          subst c0 hWC
          go_wp2_with fail
          go_meet
          exact ⟨rfl, rfl⟩
        · rw [if_neg c0] at hWC
          have d0 : ((C : Int) == 0) = false := by simp; omega
          obtain ⟨b, off, rfl, hb, hc⟩ := HB0.out (by have := HL.out.2.2.1; omega)
          have hn0 : (0 : Int) < n := by have := HL.out.2.2.1; have := HM.out; omega
          by_cases c1 : C = 1
          · subst c1
            cases hb0 : B 0
            · rw [hb0] at hWC hc
              rw [if_neg (by simp), if_neg (by omega)] at hWC
              subst hWC
              clear c0 hb0
              go_wp2_with fail
              go_meet
              exact ⟨rfl, rfl⟩
            · rw [hb0] at hWC hc
              rw [if_pos ⟨rfl, rfl⟩] at hWC
              subst hWC
              clear c0 hb0
              go_wp2_with fail
              go_meet
              exact ⟨rfl, rfl⟩
          · rw [if_neg (fun h => c1 h.1)] at hWC
            have d1 : ((C : Int) == 1) = false := by simp; omega
            have d2 : decide ((2 : Int) ≤ C) = true := by simp; omega
            by_cases c2 : C = j
            · rw [if_pos ⟨by omega, c2⟩] at hWC
              have d3 : ((C : Int) == (X.size : Int)) = true := by rw [HL.out.1]; simp; omega
              subst hWC
              clear c0 c1 c2
              go_wp2_with fail
              go_meet
              exact ⟨rfl, rfl⟩
            · rw [if_neg (fun h => c2 h.2)] at hWC
              have d3 : ((C : Int) == (X.size : Int)) = false := by rw [HL.out.1]; simp; omega
              subst hWC
              clear c0 c1 c2
              go_wp2_with fail
              go_meet
              exact ⟨rfl, rfl⟩
      case rest =>
      obtain ⟨rfl, rfl⟩ := hcut
      obtain ⟨hXs, hLs, -, -, l1, l2, l3, l4⟩ := HL.out
      have lx : (X ++ ⟨#[33]⟩).data.toList = X.data.toList ++ [33] := by rw [ByteArray.data_append, Array.toList_append]
      rw [← lx] at l2
      have z33 : (⟨#[33]⟩ : ByteArray).size = 1 := rfl
      have D1 := Lib.hid (fun wx (hb : Hid (Below wc.heap.size wc wx)) => (fshape (Prs.nil wx) (s := X) (by omega) l1).mono fun e w' h => (⟨h.1, Lib.hid (hb.out.trans (h.2.mono hb.out.size))⟩ : e = .returned (.int .i64 W) ∧ Hid (Below wc.heap.size wc w')))
      have D2 := Lib.hid (fun wx (hb : Hid (Below wc.heap.size wc wx)) => (fsmall (Prs.nil wx) (s := X) (t := L) (by omega) l3).mono fun e w' h => (⟨h.1, Lib.hid (hb.out.trans (h.2.mono hb.out.size))⟩ : e = .returned (.string L) ∧ Hid (Below wc.heap.size wc w')))
      have D4 := Lib.hid (fun wx (hb : Hid (Below wc.heap.size wc wx)) => (fshape (Prs.nil wx) (s := X ++ ⟨#[33]⟩) (by rw [ByteArray.size_append, z33]; omega) l2).mono fun e w' h => (⟨h.1, Lib.hid (hb.out.trans (h.2.mono hb.out.size))⟩ : e = .returned (.int .i64 W) ∧ Hid (Below wc.heap.size wc w')))
      have D5 := Lib.hid (fun wx (hb : Hid (Below wc.heap.size wc wx)) => (fawake_any wx (tabs_below HT.out hb.out)).mono fun e w' h => (⟨h.1, Lib.hid (hb.out.trans (h.2.mono hb.out.size))⟩ : e = .returned (.bool true) ∧ Hid (Below wc.heap.size wc w')))
      have HS0 := Lib.hid (Below.refl wc.heap.size wc).drew
      have c4 : ¬ 9223372036854775807 < X.size + 1 := by omega
      by_cases hj0 : j = 0
      · have hX0 : X = ⟨#[]⟩ := by
          have h1 := Lib.size_eq X
          rw [hXs, hj0] at h1
          have h2 := List.eq_nil_of_length_eq_zero h1.symm
          rw [← str_back X, h2]
        have e1 : X.toList.isEmpty = true := by rw [ByteArray.toList_eq, hX0]; rfl
        have e2 : X.data.toList.isEmpty = true := by rw [hX0]; rfl
        clear hXs hLs l1 l2 l3 l4 lx z33 hj0 HL HB0 HBO HM hj hm30 hX0
        go_upto_region 19 with fail
        refine wp_region_held_drew (S := fun wx => Hid (Below wc.heap.size wc wx)) (by kernel_rfl) HS0 (fun hHeld => ?_)
        refine wpAnyH_take (i := 0) (oi := { dst := some 59, op := _, type := _, pos := _, after := _, guard := _ }) (v := ?_) rfl (by kernel_rfl) (by kernel_rfl) (by kernel_rfl) (fun _ _ _ h => h) (Or.inl ⟨by rfl, ?_⟩) (by assumption) ?_
        rotate_left
        · (intro w hSw; go_simp; first | done | with_reducible rfl)
        try simp only [Act.put, List.setIfInBounds_toArray, List.set_cons_zero, List.set_cons_succ]
        refine wpAnyH_take (i := 2) (oi := { dst := some 61, op := _, type := _, pos := _, after := _, guard := _ }) (v := ?_) rfl (by kernel_rfl) (by kernel_rfl) (by kernel_rfl) (fun _ _ _ h => h) (Or.inl ⟨by rfl, ?_⟩) (by assumption) ?_
        rotate_left
        · (intro w hSw; go_simp; first | done | with_reducible rfl)
        try simp only [Act.put, List.setIfInBounds_toArray, List.set_cons_zero, List.set_cons_succ]
        refine wpAnyH_ready (rs := [1]) (by kernel_rfl) (by simp) ?_
        refine AllReadyH.cons (o := { dst := some 60, op := _, type := _, pos := _, after := _, guard := _ }) rfl (fun K hK => ?_) AllReadyH.nil
        go_simp
        refine (D1.out _ (by assumption)).mono ?_
        rintro e w1 ⟨rfl, hs1⟩
        go_wp2_with fail
        refine hK.out _ _ hs1 (fun hHeld1 => ?_)
        clear hK K
        try simp only [Act.put, List.setIfInBounds_toArray, List.set_cons_zero, List.set_cons_succ]
        refine wpAnyH_take (i := 3) (oi := { dst := some 62, op := _, type := _, pos := _, after := _, guard := _ }) (v := ?_) rfl (by kernel_rfl) (by kernel_rfl) (by kernel_rfl) (fun _ _ _ h => h) (Or.inl ⟨by rfl, ?_⟩) (by assumption) ?_
        rotate_left
        · (intro w hSw; go_simp; first | done | with_reducible rfl)
        try simp only [Act.put, List.setIfInBounds_toArray, List.set_cons_zero, List.set_cons_succ]
        refine wpAnyH_take (i := 4) (oi := { dst := some 63, op := _, type := _, pos := _, after := _, guard := _ }) (v := ?_) rfl (by kernel_rfl) (by kernel_rfl) (by kernel_rfl) (fun _ _ _ h => h) (Or.inl ⟨by rfl, ?_⟩) (by assumption) ?_
        rotate_left
        · (intro w hSw; go_simp; first | done | with_reducible rfl)
        try simp only [Act.put, List.setIfInBounds_toArray, List.set_cons_zero, List.set_cons_succ]
        refine wpAnyH_take (i := 5) (oi := { dst := some 64, op := _, type := _, pos := _, after := _, guard := _ }) (v := ?_) rfl (by kernel_rfl) (by kernel_rfl) (by kernel_rfl) (fun _ _ _ h => h) (Or.inl ⟨by rfl, ?_⟩) (by assumption) ?_
        rotate_left
        · (intro w hSw; go_simp; first | done | with_reducible rfl)
        try simp only [Act.put, List.setIfInBounds_toArray, List.set_cons_zero, List.set_cons_succ]
        refine wpAnyH_take (i := 7) (oi := { dst := some 66, op := _, type := _, pos := _, after := _, guard := _ }) (v := ?_) rfl (by kernel_rfl) (by kernel_rfl) (by kernel_rfl) (fun _ _ _ h => h) (Or.inl ⟨by rfl, ?_⟩) (by assumption) ?_
        rotate_left
        · (intro w hSw; go_simp; first | done | with_reducible rfl)
        try simp only [Act.put, List.setIfInBounds_toArray, List.set_cons_zero, List.set_cons_succ]
        refine wpAnyH_ready (rs := [6]) (by kernel_rfl) (by simp) ?_
        refine AllReadyH.cons (o := { dst := some 65, op := _, type := _, pos := _, after := _, guard := _ }) rfl (fun K hK => ?_) AllReadyH.nil
        go_simp
        refine (D2.out _ (by assumption)).mono ?_
        rintro e w2 ⟨rfl, hs2⟩
        go_wp2_with fail
        refine hK.out _ _ hs2 (fun hHeld2 => ?_)
        clear hK K
        try simp only [Act.put, List.setIfInBounds_toArray, List.set_cons_zero, List.set_cons_succ]
        refine wpAnyH_take (i := 8) (oi := { dst := some 67, op := _, type := _, pos := _, after := _, guard := _ }) (v := ?_) rfl (by kernel_rfl) (by kernel_rfl) (by kernel_rfl) (fun _ _ _ h => h) (Or.inl ⟨by rfl, ?_⟩) (by assumption) ?_
        rotate_left
        · (intro w hSw; go_simp; first | done | with_reducible rfl)
        try simp only [Act.put, List.setIfInBounds_toArray, List.set_cons_zero, List.set_cons_succ]
        refine wpAnyH_take (i := 9) (oi := { dst := some 68, op := _, type := _, pos := _, after := _, guard := _ }) (v := ?_) rfl (by kernel_rfl) (by kernel_rfl) (by kernel_rfl) (fun _ _ _ h => h) (Or.inl ⟨by rfl, ?_⟩) (by assumption) ?_
        rotate_left
        · (intro w hSw; go_simp; first | done | with_reducible rfl)
        try simp only [Act.put, List.setIfInBounds_toArray, List.set_cons_zero, List.set_cons_succ]
        refine wpAnyH_take (i := 10) (oi := { dst := some 69, op := _, type := _, pos := _, after := _, guard := _ }) (v := ?_) rfl (by kernel_rfl) (by kernel_rfl) (by kernel_rfl) (fun _ _ _ h => h) (Or.inl ⟨by rfl, ?_⟩) (by assumption) ?_
        rotate_left
        · (intro w hSw; go_simp; first | done | with_reducible rfl)
        try simp only [Act.put, List.setIfInBounds_toArray, List.set_cons_zero, List.set_cons_succ]
        refine wpAnyH_take (i := 11) (oi := { dst := some 70, op := _, type := _, pos := _, after := _, guard := _ }) (v := ?_) rfl (by kernel_rfl) (by kernel_rfl) (by kernel_rfl) (fun _ _ _ h => h) (Or.inl ⟨by rfl, ?_⟩) (by assumption) ?_
        rotate_left
        · (intro w hSw; go_simp; first | done | with_reducible rfl)
        try simp only [Act.put, List.setIfInBounds_toArray, List.set_cons_zero, List.set_cons_succ]
        refine wpAnyH_take (i := 12) (oi := { dst := some 71, op := _, type := _, pos := _, after := _, guard := _ }) (v := ?_) rfl (by kernel_rfl) (by kernel_rfl) (by kernel_rfl) (fun _ _ _ h => h) (Or.inl ⟨by rfl, ?_⟩) (by assumption) ?_
        rotate_left
        · (intro w hSw; go_simp; first | done | with_reducible rfl)
        try simp only [Act.put, List.setIfInBounds_toArray, List.set_cons_zero, List.set_cons_succ]
        refine wpAnyH_take (i := 13) (oi := { dst := some 72, op := _, type := _, pos := _, after := _, guard := _ }) (v := ?_) rfl (by kernel_rfl) (by kernel_rfl) (by kernel_rfl) (fun _ _ _ h => h) (Or.inl ⟨by rfl, ?_⟩) (by assumption) ?_
        rotate_left
        · (intro w hSw; go_simp; first | done | with_reducible rfl)
        try simp only [Act.put, List.setIfInBounds_toArray, List.set_cons_zero, List.set_cons_succ]
        refine wpAnyH_take (i := 14) (oi := { dst := some 73, op := _, type := _, pos := _, after := _, guard := _ }) (v := undef) rfl (by kernel_rfl) (by kernel_rfl) (by kernel_rfl) (fun _ _ _ h => h) (Or.inr ⟨by rfl, rfl⟩) (by assumption) ?_
        try simp only [Act.put, List.setIfInBounds_toArray, List.set_cons_zero, List.set_cons_succ]
        refine wpAnyH_take (i := 15) (oi := { dst := some 74, op := _, type := _, pos := _, after := _, guard := _ }) (v := undef) rfl (by kernel_rfl) (by kernel_rfl) (by kernel_rfl) (fun _ _ _ h => h) (Or.inr ⟨by rfl, rfl⟩) (by assumption) ?_
        try simp only [Act.put, List.setIfInBounds_toArray, List.set_cons_zero, List.set_cons_succ]
        refine wpAnyH_take (i := 16) (oi := { dst := some 75, op := _, type := _, pos := _, after := _, guard := _ }) (v := undef) rfl (by kernel_rfl) (by kernel_rfl) (by kernel_rfl) (fun _ _ _ h => h) (Or.inr ⟨by rfl, rfl⟩) (by assumption) ?_
        try simp only [Act.put, List.setIfInBounds_toArray, List.set_cons_zero, List.set_cons_succ]
        refine wpAnyH_take (i := 17) (oi := { dst := some 76, op := _, type := _, pos := _, after := _, guard := _ }) (v := undef) rfl (by kernel_rfl) (by kernel_rfl) (by kernel_rfl) (fun _ _ _ h => h) (Or.inr ⟨by rfl, rfl⟩) (by assumption) ?_
        try simp only [Act.put, List.setIfInBounds_toArray, List.set_cons_zero, List.set_cons_succ]
        refine wpAnyH_take (i := 18) (oi := { dst := some 77, op := _, type := _, pos := _, after := _, guard := _ }) (v := undef) rfl (by kernel_rfl) (by kernel_rfl) (by kernel_rfl) (fun _ _ _ h => h) (Or.inr ⟨by rfl, rfl⟩) (by assumption) ?_
        try simp only [Act.put, List.setIfInBounds_toArray, List.set_cons_zero, List.set_cons_succ]
        refine wpAnyH_take (i := 19) (oi := { dst := some 78, op := _, type := _, pos := _, after := _, guard := _ }) (v := undef) rfl (by kernel_rfl) (by kernel_rfl) (by kernel_rfl) (fun _ _ _ h => h) (Or.inr ⟨by rfl, rfl⟩) (by assumption) ?_
        try simp only [Act.put, List.setIfInBounds_toArray, List.set_cons_zero, List.set_cons_succ]
        refine wpAnyH_take (i := 20) (oi := { dst := some 79, op := _, type := _, pos := _, after := _, guard := _ }) (v := ?_) rfl (by kernel_rfl) (by kernel_rfl) (by kernel_rfl) (fun _ _ _ h => h) (Or.inl ⟨by rfl, ?_⟩) (by assumption) ?_
        rotate_left
        · (intro w hSw; go_simp; first | done | with_reducible rfl)
        try simp only [Act.put, List.setIfInBounds_toArray, List.set_cons_zero, List.set_cons_succ]
        refine wpAnyH_take (i := 21) (oi := { dst := some 80, op := _, type := _, pos := _, after := _, guard := _ }) (v := ?_) rfl (by kernel_rfl) (by kernel_rfl) (by kernel_rfl) (fun _ _ _ h => h) (Or.inl ⟨by rfl, ?_⟩) (by assumption) ?_
        rotate_left
        · (intro w hSw; go_simp; first | done | with_reducible rfl)
        try simp only [Act.put, List.setIfInBounds_toArray, List.set_cons_zero, List.set_cons_succ]
        refine wpAnyH_take (i := 22) (oi := { dst := some 81, op := _, type := _, pos := _, after := _, guard := _ }) (v := ?_) rfl (by kernel_rfl) (by kernel_rfl) (by kernel_rfl) (fun _ _ _ h => h) (Or.inl ⟨by rfl, ?_⟩) (by assumption) ?_
        rotate_left
        · (intro w hSw; go_simp; first | done | with_reducible rfl)
        try simp only [Act.put, List.setIfInBounds_toArray, List.set_cons_zero, List.set_cons_succ]
        refine wpAnyH_take (i := 23) (oi := { dst := some 82, op := _, type := _, pos := _, after := _, guard := _ }) (v := ?_) rfl (by kernel_rfl) (by kernel_rfl) (by kernel_rfl) (fun _ _ _ h => h) (Or.inl ⟨by rfl, ?_⟩) (by assumption) ?_
        rotate_left
        · (intro w hSw; go_simp; first | done | with_reducible rfl)
        try simp only [Act.put, List.setIfInBounds_toArray, List.set_cons_zero, List.set_cons_succ]
        refine wpAnyH_take (i := 24) (oi := { dst := some 83, op := _, type := _, pos := _, after := _, guard := _ }) (v := ?_) rfl (by kernel_rfl) (by kernel_rfl) (by kernel_rfl) (fun _ _ _ h => h) (Or.inl ⟨by rfl, ?_⟩) (by assumption) ?_
        rotate_left
        · (intro w hSw; go_simp; first | done | with_reducible rfl)
        try simp only [Act.put, List.setIfInBounds_toArray, List.set_cons_zero, List.set_cons_succ]
        refine wpAnyH_take (i := 26) (oi := { dst := some 85, op := _, type := _, pos := _, after := _, guard := _ }) (v := ?_) rfl (by kernel_rfl) (by kernel_rfl) (by kernel_rfl) (fun _ _ _ h => h) (Or.inl ⟨by rfl, ?_⟩) (by assumption) ?_
        rotate_left
        · (intro w hSw; go_simp; first | done | with_reducible rfl)
        try simp only [Act.put, List.setIfInBounds_toArray, List.set_cons_zero, List.set_cons_succ]
        refine wpAnyH_ready (rs := [25]) (by kernel_rfl) (by simp) ?_
        refine AllReadyH.cons (o := { dst := some 84, op := _, type := _, pos := _, after := _, guard := _ }) rfl (fun K hK => ?_) AllReadyH.nil
        go_simp
        refine (D4.out _ (by assumption)).mono ?_
        rintro e w3 ⟨rfl, hs3⟩
        go_wp2_with fail
        refine hK.out _ _ hs3 (fun hHeld3 => ?_)
        clear hK K
        try simp only [Act.put, List.setIfInBounds_toArray, List.set_cons_zero, List.set_cons_succ]
        refine wpAnyH_take (i := 27) (oi := { dst := some 86, op := _, type := _, pos := _, after := _, guard := _ }) (v := ?_) rfl (by kernel_rfl) (by kernel_rfl) (by kernel_rfl) (fun _ _ _ h => h) (Or.inl ⟨by rfl, ?_⟩) (by assumption) ?_
        rotate_left
        · (intro w hSw; go_simp; first | done | with_reducible rfl)
        try simp only [Act.put, List.setIfInBounds_toArray, List.set_cons_zero, List.set_cons_succ]
        refine wpAnyH_take (i := 28) (oi := { dst := some 87, op := _, type := _, pos := _, after := _, guard := _ }) (v := ?_) rfl (by kernel_rfl) (by kernel_rfl) (by kernel_rfl) (fun _ _ _ h => h) (Or.inl ⟨by rfl, ?_⟩) (by assumption) ?_
        rotate_left
        · (intro w hSw; go_simp; first | done | with_reducible rfl)
        try simp only [Act.put, List.setIfInBounds_toArray, List.set_cons_zero, List.set_cons_succ]
        refine wpAnyH_take (i := 29) (oi := { dst := some 88, op := _, type := _, pos := _, after := _, guard := _ }) (v := ?_) rfl (by kernel_rfl) (by kernel_rfl) (by kernel_rfl) (fun _ _ _ h => h) (Or.inl ⟨by rfl, ?_⟩) (by assumption) ?_
        rotate_left
        · (intro w hSw; go_simp; first | done | with_reducible rfl)
        try simp only [Act.put, List.setIfInBounds_toArray, List.set_cons_zero, List.set_cons_succ]
        refine wpAnyH_ready (rs := [30]) (by kernel_rfl) (by simp) ?_
        refine AllReadyH.cons (o := { dst := some 89, op := _, type := _, pos := _, after := _, guard := _ }) rfl (fun K hK => ?_) AllReadyH.nil
        go_simp
        refine (D5.out _ (by assumption)).mono ?_
        rintro e w4 ⟨rfl, hs4⟩
        go_wp2_with fail
        refine hK.out _ _ hs4 (fun hHeld4 => ?_)
        clear hK K
        try simp only [Act.put, List.setIfInBounds_toArray, List.set_cons_zero, List.set_cons_succ]
        refine wpAnyH_take (i := 31) (oi := { dst := some 90, op := _, type := _, pos := _, after := _, guard := _ }) (v := ?_) rfl (by kernel_rfl) (by kernel_rfl) (by kernel_rfl) (fun _ _ _ h => h) (Or.inl ⟨by rfl, ?_⟩) (by assumption) ?_
        rotate_left
        · (intro w hSw; go_simp; first | done | with_reducible rfl)
        try simp only [Act.put, List.setIfInBounds_toArray, List.set_cons_zero, List.set_cons_succ]
        refine wpAnyH_take (i := 32) (oi := { dst := some 2, op := _, type := _, pos := _, after := _, guard := _ }) (v := ?_) rfl (by kernel_rfl) (by kernel_rfl) (by kernel_rfl) (fun _ _ _ h => h) (Or.inl ⟨by rfl, ?_⟩) (by assumption) ?_
        rotate_left
        · (intro w hSw; go_simp; first | done | with_reducible rfl)
        try simp only [Act.put, List.setIfInBounds_toArray, List.set_cons_zero, List.set_cons_succ]
        refine wpAnyH_done (by kernel_rfl) ?_ _
        go_wp2_with fail
        go_ret
        exact ⟨rfl, hs4.out⟩
      · have e1 : X.toList.isEmpty = false := by
          rw [ByteArray.toList_eq]
          cases hx : X.data.toList with
          | nil => rw [Lib.size_eq, hx] at hXs; exact absurd hXs.symm hj0
          | cons y t => rfl
        have e2 : X.data.toList.isEmpty = false := by rw [← ByteArray.toList_eq]; exact e1
        obtain ⟨T, hTt⟩ : ∃ T, T = (⟨#[65]⟩ : ByteArray) ++ L.extract 1 L.size := ⟨_, rfl⟩
        have l5 := l4 (by omega)
        rw [← hTt] at l5
        have D3 := Lib.hid (fun wx (hb : Hid (Below wc.heap.size wc wx)) => (ftitle (Prs.nil wx) (tabs_below HT.out hb.out) (s := L) (t := T) (by omega) l5).mono fun e w' h => (⟨h.1, Lib.hid (hb.out.trans (h.2.mono hb.out.size))⟩ : e = .returned (.string T) ∧ Hid (Below wc.heap.size wc w')))
        have hTt2 := hTt.symm
        have b1 : 1 ≤ L.size := by omega
        have b2 : L.size ≤ 30 := by omega
        have b3 : decide (L.size < 1) = false := decide_eq_false (by omega)
        have b4 : decide ((L.size : Int) < 1) = false := decide_eq_false (by omega)
        have q4 : ¬ 9223372036854775807 < L.size := by omega
        have b5 : (1 : Int) ≤ (L.size : Int) := by omega
        have b6 : ¬ L.size < 1 := by omega
        have b7 : 0 < L.size := by omega
        have q1 : ¬ 9223372036854775807 < 1 + (L.size - 1) := by omega
        have q2 : ¬ 9223372036854775807 < 1 + (min L.size L.size - 1) := by omega
        have q3 : ¬ 9223372036854775807 < 1 + (L.extract 1 L.size).size := by rw [ByteArray.size_extract]; omega
        clear hXs hLs l1 l2 l3 l4 l5 lx z33 hj0 HL HB0 HBO HM hj hm30 hTt
        go_upto_region 19 with fail
        go_region_held3 (fun wx => Hid (Below wc.heap.size wc wx))
          (first | exact HS0 | assumption)
          (first
            | (go_at_call 9; refine (D2.out _ (by assumption)).mono ?_; rintro e w5 ⟨rfl, hs⟩)
            | (go_at_call 11; refine (D3.out _ (by assumption)).mono ?_; rintro e w5 ⟨rfl, hs⟩)
            | (go_at_call 10; have hz := hdone3; clear hz; refine (D4.out _ (by assumption)).mono ?_; rintro e w5 ⟨rfl, hs⟩)
            | (go_at_call 10; refine (D1.out _ (by assumption)).mono ?_; rintro e w5 ⟨rfl, hs⟩; have hdone3 : True := trivial)
            | (go_at_call 7; refine (D5.out _ (by assumption)).mono ?_; rintro e w5 ⟨rfl, hs⟩))
        go_wp2_with fail
        go_ret
        exact ⟨rfl, hs.out⟩
end Go.Proofs.YtfhoffdgbkoffaaDoor
