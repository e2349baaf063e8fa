/- FoldTwice. -/
import Derived.Test.YtfhoffdgbkoffaaDoorFAwake
import Derived.Test.YtfhoffdgbkoffaaDoorVParse
import Derived.Deep.RegionHeld3
namespace Go.Proofs.YtfhoffdgbkoffaaDoor
open Go Go.RowKit Go.Lib

theorem fmem_sum : ∀ (ls : List (List UInt8)) (l : List UInt8), l ∈ ls → l.length ≤ (ls.map List.length).sum
  | x :: ls, l, h => by
    rw [List.map_cons, List.sum_cons]
    rcases List.mem_cons.1 h with rfl | h
    · omega
    · have := fmem_sum ls l h; omega
theorem parseA_pairs {s : ByteArray} (hs : s.size ≤ 1000) (h : (parseA s).2.2 = 0) : PairsOk (parseA s).1.pairs ∧ (parseA s).1.pairs.length ≤ 200 := by
  unfold parseA at h ⊢
  rw [if_neg (by omega)] at h ⊢
  have hl : ∀ l ∈ linesL s.data.toList, (10 : UInt8) ∉ l ∧ l.length ≤ s.size := fun l hl => ⟨linesL_mem _ l hl, by
    have h1 := linesL_sum s.data.toList
    rw [← Lib.size_eq] at h1
    have h2 := fmem_sum _ l hl
    omega⟩
  have hr := RdOk.read (k := s.size) (by omega) (linesL s.data.toList) rd0 0 1 (RdOk.start _) (by omega) hl
  generalize readA rd0 1 (linesL s.data.toList) = d at h hr ⊢
  unfold endA at h ⊢
  split at h
  · simp at h
  · rename_i h1
    rw [if_neg h1]
    split at h
    · simp at h
    · rename_i h2
      rw [if_neg h2]
      split at h
      · simp at h
      · rename_i h3
        rw [if_neg h3]
        exact ⟨hr.pairs, by show d.pairs.length ≤ 200; omega⟩
theorem pt_fit {c : Int} (h : Pt c) : I64 c := by
  unfold Pt Utf8.valid at h
  simp at h
  unfold I64
  omega

set_option maxRecDepth 100000 in
set_option maxHeartbeats 2000000 in
theorem twice_law (w : World) (hT : TU w) (f s : ByteArray) :
    Calls Tryd.prog 3 #[.string f, .string s] w fun e w' => e = .returned (.bool true) ∧ Below w.heap.size w w' := by
  have HT := Lib.hid hT
  clear hT
  by_cases h1 : 1000 < f.size
  · have CW := Lib.hid (fawake_any w HT.out)
    go_enter Tryd.func3, Tryd.ntmps3
    go_wp2_with fail
    refine CW.out.mono ?_
    rintro e w1 ⟨rfl, hb1⟩
    have HB1 := Lib.hid hb1
    clear hb1
    go_wp2_with fail
    go_ret
    exact ⟨rfl, HB1.out⟩
  by_cases h2 : 500 < s.size
  · have CW := Lib.hid (fawake_any w HT.out)
    go_enter Tryd.func3, Tryd.ntmps3
    go_wp2_with fail
    refine CW.out.mono ?_
    rintro e w1 ⟨rfl, hb1⟩
    have HB1 := Lib.hid hb1
    clear hb1
    go_wp2_with fail
    go_ret
    exact ⟨rfl, HB1.out⟩
  have CP := Lib.hid (rparseA_any w f (by omega))
  obtain ⟨o, ho⟩ : ∃ o, o = parseA f := ⟨_, rfl⟩
  rw [← ho] at CP
  have HO := Lib.hid ho
  have HF := Lib.hid (show f.size ≤ 1000 by omega)
  clear ho
  go_enter Tryd.func3, Tryd.ntmps3
  go_wp2_with fail
  refine CP.out.mono ?_
  rintro e w1 ⟨v, rfl, ⟨A, cap, B, cap', rfl, hru, hpa⟩, hb1⟩
  obtain ⟨⟨rs, ps⟩, on, oc⟩ := o
  dsimp only at hru hpa ⊢
  clear hru CP
  have HPA := Lib.hid (And.intro hpa hb1)
  generalize rs.length = rn at *
  clear hpa hb1
  by_cases hoc : oc = 0
  · subst hoc
    have hpo := parseA_pairs HF.out (by rw [← HO.out])
    rw [← HO.out] at hpo
    dsimp only at hpo
    have hfit : ∀ p ∈ ps, I64 p.1 ∧ I64 p.2 := fun p hp => ⟨pt_fit (hpo.1.mem hp).1, pt_fit (hpo.1.mem hp).2.1⟩
    obtain ⟨t, ht⟩ : ∃ t : ByteArray, t = ⟨(smallT ps s.data.toList).toArray⟩ := ⟨_, rfl⟩
    have htl : t.data.toList = smallT ps s.data.toList := by rw [ht]
    obtain ⟨u, hu⟩ : ∃ u : ByteArray, u = ⟨(titleT ps t.data.toList).toArray⟩ := ⟨_, rfl⟩
    have hts : t.size ≤ 2500 := by
      have h1 := small_size ps s.data.toList
      rw [← Lib.size_eq] at h1
      rw [Lib.size_eq, htl]
      omega
    have hus : u.size ≤ 1000000 := by
      rw [Lib.size_eq, hu]
      show (titleT ps t.data.toList).length ≤ _
      unfold titleT
      split
      · simp
      · split
        · rename_i d _
          have hb : (byC d).length ≤ 4 := by
            unfold byC
            split
            · exact enc_len d
            · simp
          rw [List.length_append, List.length_drop, ← Lib.size_eq]
          omega
        · rw [← Lib.size_eq]; omega
    obtain ⟨k, hk⟩ : ∃ k, k = shapeT ps u.data.toList := ⟨_, rfl⟩
    have hk01 : k = 0 ∨ k = 1 := by
      have := shape_title hpo.1 s.data.toList
      rw [hk, hu, htl]
      exact this
    have hP : ∀ wx, Below w1.heap.size w1 wx → Prs wx (.slice B ps.length cap') ps := fun wx hb => ⟨HPA.out.1.keep hb, by omega, hfit⟩
    have C1 := Lib.hid (fun wx (hb : Below w1.heap.size w1 wx) => fsmall (hP wx hb) (s := s) (t := t) (by omega) htl.symm)
    have C2 := Lib.hid (fun wx (hb : Below w1.heap.size w1 wx) (htb : TU wx) => ftitle (hP wx hb) htb (s := t) (t := u) (by omega) (by rw [hu]))
    have C3 := Lib.hid (fun wx (hb : Below w1.heap.size w1 wx) => fshape (hP wx hb) (s := u) (k := k) (by omega) hk.symm)
    have C4 := Lib.hid (fun wx (hb : Below w1.heap.size w1 wx) => fsmall (hP wx hb) (s := t) (t := t) (by omega) (by rw [htl]; exact small_small hpo.1 _))
    have C5 := Lib.hid (fun wx (hb : Below w1.heap.size w1 wx) => fshape (hP wx hb) (s := t) (k := 0) (by omega) (by rw [htl]; exact shape_small hpo.1 _))
    have CW := Lib.hid (fun wx (hb : Below w1.heap.size w1 wx) => fawake_any wx (tabs_below HT.out (HPA.out.2.trans (hb.mono HPA.out.2.size))))
    have HTB := Lib.hid (fun wx (hb : Below w1.heap.size w1 wx) => tabs_below HT.out (HPA.out.2.trans (hb.mono HPA.out.2.size)))
    obtain ⟨wx, hwx⟩ : ∃ wx, wx = w1.alloc (.cells #[.slice A rn cap, .slice B ps.length cap'] 26) := ⟨_, rfl⟩
    have hbx : Below w1.heap.size w1 wx := by rw [hwx]; exact (Below.refl _ _).alloc (Nat.le_refl _) _
    have y0 : wx.heap[w1.heap.size]? = some (.cells #[.slice A rn cap, .slice B ps.length cap'] 26 (0, 0)) := by rw [hwx]; exact World.alloc_heap_new _ _
    generalize ps.length = n at *
    clear hk hu ht htl hpo hfit hP hts hus h1 h2
    go_upto_region 6 with fail
    rw [← hwx]
    obtain ⟨G, hG⟩ : ∃ G, G = w1.heap.size := ⟨_, rfl⟩
    rw [← hG] at y0 ⊢
    have CELL := Lib.hid (show ∀ wz, Below wx.heap.size wx wz → Below w1.heap.size w1 wz ∧ wz.cell? ⟨G, 1, none⟩ = some (.slice B n cap') from fun wz hz => by
      have y3 := (hz.block G (Array.getElem?_eq_some_iff.1 y0).1).trans y0
      exact ⟨hbx.trans (hz.mono hbx.size), by rw [Lib.cell_of_heap y3]; rfl⟩)
    obtain ⟨bx0, x1⟩ := CELL.out wx (Below.refl _ _)
    have BX0 := Lib.hid bx0
    clear hwx hbx y0 hG bx0
    go_wp2_with fail
    refine (C1.out _ BX0.out).mono ?_
    rintro e w2 ⟨rfl, hb2⟩
    obtain ⟨b2, x2⟩ := CELL.out w2 hb2
    obtain ⟨b2d, x2d⟩ := CELL.out w2.drew hb2.drew
    have HB2 := Lib.hid (And.intro hb2 (And.intro b2 b2d))
    have HK := Lib.hid (show ∀ wz, Below w2.drew.heap.size w2.drew wz → wz.cell? ⟨G, 1, none⟩ = some (.slice B n cap') ∧ Below wx.heap.size wx wz ∧ Below w1.heap.size w1 wz from fun wz hz => by
      have h1 : Below wx.heap.size wx wz := hb2.trans ((Below.refl w2.heap.size w2).drew.trans hz |>.mono hb2.size)
      exact ⟨(CELL.out wz h1).2, h1, (CELL.out wz h1).1⟩)
    clear x1 hb2 b2 b2d
    go_upto_region 7 with fail
    go_region_with (first
      | (go_at_call 11; refine (C2.out _ HB2.out.2.2 (HTB.out _ HB2.out.2.2)).mono ?_; rintro e w3 ⟨rfl, hb3⟩; obtain ⟨x3, hb3'⟩ := HK.out w3 hb3; have HB3 := Lib.hid hb3'; clear hb3 hb3')
      | (go_at_call 10; refine (C3.out _ HB3.out.2).mono ?_; rintro e w4 ⟨rfl, hb4⟩; have HB4 := Lib.hid (HB3.out.1.trans (hb4.mono HB3.out.1.size)); clear hb4))
    all_goals
      obtain ⟨b4, x4⟩ := CELL.out w4 HB4.out
      have B4 := Lib.hid b4
      clear x2 x2d x3 b4
      rcases hk01 with rfl | rfl
      all_goals
        go_wp2_with fail
        refine (C4.out _ B4.out).mono ?_
        rintro e w5 ⟨rfl, hb5⟩
        have HB5 := Lib.hid (HB4.out.trans (hb5.mono HB4.out.size))
        clear hb5
        obtain ⟨b5, x5⟩ := CELL.out w5 HB5.out
        have B5 := Lib.hid b5
        clear x4 b5
        go_wp2_with fail
        refine (C5.out _ B5.out).mono ?_
        rintro e w6 ⟨rfl, hb6⟩
        have HB6 := Lib.hid (HB5.out.trans (hb6.mono HB5.out.size))
        clear hb6 x5
        go_wp2_with fail
        refine (CW.out _ (CELL.out w6 HB6.out).1).mono ?_
        rintro e w7 ⟨rfl, hb7⟩
        have HB7 := Lib.hid (HPA.out.2.trans ((CELL.out w7 (HB6.out.trans (hb7.mono HB6.out.size))).1.mono HPA.out.2.size))
        clear hb7
        go_wp2_with fail
        go_ret
        exact ⟨rfl, HB7.out⟩
  · have g0 : (oc == 0) = false := by simp; omega
    have g1 : (oc != 0) = true := by simp; omega
    go_wp2_with fail
    have hbx : Below w.heap.size w (w1.alloc (.cells #[.slice A rn cap, .slice B ps.length cap'] 26)) := HPA.out.2.alloc HPA.out.2.size _
    have HBX := Lib.hid hbx
    clear hbx
    refine (fawake_any _ (tabs_below HT.out HBX.out)).mono ?_
    rintro e w2 ⟨rfl, hb2⟩
    have HB2 := Lib.hid (HBX.out.trans (hb2.mono HBX.out.size))
    clear hb2
    go_wp2_with fail
    go_ret
    exact ⟨rfl, HB2.out⟩
end Go.Proofs.YtfhoffdgbkoffaaDoor
