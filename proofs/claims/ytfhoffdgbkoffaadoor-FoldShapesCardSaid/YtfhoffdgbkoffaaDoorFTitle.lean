/- fold.Title by contract. -/
import Derived.Test.YtfhoffdgbkoffaaDoorFSmall
import Derived.Test.YtfhoffdgbkoffaaDoorCodes
import Derived.Deep.RegionHeld3
import Derived.BigQuiet
namespace Go.Proofs.YtfhoffdgbkoffaaDoor
open Go Go.RowKit Go.Lib

theorem titleT_nil (ps : List (Int × Int)) : titleT ps [] = [] := rfl
/-- runes.At at a text's beginning. -/
theorem at_first (s : ByteArray) (w : World) (hs : s.size ≤ 1000000000) (hT : Lib.Utf8Tabs 0 1 w) :
    ∃ (N : Nat) (C : Int) (th : Bool), (Calls Tryd.prog 23 #[.string s, .int .i64 0] w fun e w' => e = .returned (.tuple #[.agg #[.int .i64 0, .int .i64 N, .int .i64 C], .bool th]) ∧ Below w.heap.size w w') ∧
      ((th = false ∧ s.data.toList = [] ∧ C = 0) ∨ (th = true ∧ s.data.toList ≠ [] ∧ N = (decodeL s.data.toList).2 ∧ C = uCode s.data.toList)) := by
  by_cases h0 : s.size = 0
  · refine ⟨0, 0, false, at_none s 0 w (.inr (by omega)) (by omega), .inl ⟨rfl, ?_, rfl⟩⟩
    have := Lib.size_eq s
    rw [h0] at this
    exact List.eq_nil_of_length_eq_zero this.symm
  · refine ⟨(decodeL s.data.toList).2, uCode s.data.toList, true, at_some s 0 w (by omega) (by omega) hT, .inr ⟨rfl, ?_, rfl, rfl⟩⟩
    intro e
    have := Lib.size_eq s
    rw [e] at this
    exact h0 this
theorem str_back (s : ByteArray) : (⟨s.data.toList.toArray⟩ : ByteArray) = s := by cases s; simp

set_option maxRecDepth 100000 in
set_option maxHeartbeats 2000000 in
theorem title_any (w : World) (v : Value) (ps : List (Int × Int)) (s : ByteArray) (h : PairsAt w v ps) (hn : ps.length ≤ 1000000) (hin : ∀ p ∈ ps, I64 p.1 ∧ I64 p.2) (hs : s.size ≤ 1000000000) (hT : Lib.Utf8Tabs 0 1 w) :
    Calls Tryd.prog 11 #[v, .string s] w fun e w' => e = .returned (.string ⟨(titleT ps s.data.toList).toArray⟩) ∧ Below w.heap.size w w' := by
  have CL := Lib.hid (fun wx (hb : Below w.heap.size w wx) => letters_any wx v ps (h.keep hb) hn hin)
  obtain ⟨A, cap, rfl⟩ := pairs_form h
  obtain ⟨N, C, th, cA, hcase⟩ := at_first s w hs hT
  have hCb : -1000000000000 ≤ C ∧ C ≤ 1000000000000 := by
    rcases hcase with ⟨_, _, rfl⟩ | ⟨_, h1, _, rfl⟩
    · omega
    · have := unit_bd s.data.toList 0 (0, (decodeL s.data.toList).2, uCode s.data.toList) (by rw [units_step 0 _ h1]; exact List.mem_cons_self ..)
      dsimp only at this
      omega
  have CA := Lib.hid cA
  have HC := Lib.hid hcase
  have CG := Lib.hid (fun wx a b (ht : TwoM wx a b ps.length ps) => pgreat_any wx a b ps.length ps C ht hCb)
  generalize ps.length = n at *
  obtain ⟨R, hR⟩ : ∃ R, R = (⟨(titleT ps s.data.toList).toArray⟩ : ByteArray) := ⟨_, rfl⟩
  rw [← hR]
  have HR := Lib.hid hR
  clear h hin hT cA hcase hCb hR
  go_enter Tryd.func11, Tryd.ntmps11
  go_wp2_with fail
  refine CA.out.mono ?_
  rintro e w1 ⟨rfl, hb1⟩
  obtain ⟨wx, hwx⟩ : ∃ wx, wx = w1.alloc (.cells #[.int .i64 0, .int .i64 N, .int .i64 C] 61) := ⟨_, rfl⟩
  have hbx : Below w.heap.size w wx := by rw [hwx]; exact hb1.alloc hb1.size _
  have y0 : wx.heap[w1.heap.size]? = some (.cells #[.int .i64 0, .int .i64 N, .int .i64 C] 61 (0, 0)) := by rw [hwx]; exact World.alloc_heap_new _ _
  go_upto_region 2 with fail
  rw [← hwx]
  obtain ⟨G, hG⟩ : ∃ G, G = w1.heap.size := ⟨_, rfl⟩
  rw [← hG] at y0 ⊢
  have hlt : G < wx.heap.size := (Array.getElem?_eq_some_iff.1 y0).1
  have y0d : wx.drew.heap[G]? = some (.cells #[.int .i64 0, .int .i64 N, .int .i64 C] 61 (0, 0)) := y0
  have z2 : wx.drew.cell? ⟨G, 2, none⟩ = some (.int .i64 C) := by rw [Lib.cell_of_heap y0d]; rfl
  have HW := Lib.hid (And.intro hbx y0)
  have HK := Lib.hid (show ∀ w2, Below wx.drew.heap.size wx.drew w2 → w2.cell? ⟨G, 2, none⟩ = some (.int .i64 C) ∧ Below wx.heap.size wx w2 from fun w2 hb => by
    have hb' : Below wx.heap.size wx w2 := (Below.refl wx.heap.size wx).drew.trans hb
    have := (hb'.block G hlt).trans y0
    exact ⟨by simp [World.cell?, this], hb'⟩)
  clear hwx hbx y0 y0d hG hb1 CA
  go_region_with (first
    | (go_at_call 16; refine (CL.out _ HW.out.1.drew).mono ?_; rintro e w2 ⟨a, b, rfl, htm, hb2⟩; obtain ⟨z2', hb2'⟩ := HK.out w2 hb2; have HT2 := Lib.hid (And.intro htm hb2'); clear htm hb2 hb2')
    | (go_at_call 22; refine (CG.out _ _ _ HT2.out.1).mono ?_; rintro e w3 ⟨rfl, hb3⟩; have HB3 := Lib.hid hb3; clear hb3))
  all_goals
    have hb3x : Below wx.heap.size wx w3 := HT2.out.2.trans (HB3.out.mono HT2.out.2.size)
    have y3 := (hb3x.block G hlt).trans HW.out.2
    have z1 : w3.cell? ⟨G, 1, none⟩ = some (.int .i64 N) := by rw [Lib.cell_of_heap y3]; rfl
    have HBW := Lib.hid (HW.out.1.trans (hb3x.mono HW.out.1.size))
    clear hb3x y3 z2 z2' HK
    rcases HC.out with ⟨hth, hs0, -⟩ | ⟨hth, hne, hN, hC⟩
    · have hans : (⟨(titleT ps s.data.toList).toArray⟩ : ByteArray) = s := by
        rw [hs0, titleT_nil, ← hs0, str_back]
      have HA := Lib.hid hans
      subst hth
      clear hs0 hans
      go_wp2_with fail
      go_ret
      exact ⟨by rw [HR.out, HA.out]; rfl, HBW.out⟩
    · subst hth
      cases hq : grC ps C with
      | none =>
        have hans : (⟨(titleT ps s.data.toList).toArray⟩ : ByteArray) = s := by
          unfold titleT
          rw [if_neg hne, ← hC, hq]
        have HA := Lib.hid hans
        dsimp only [Option.isSome]
        clear hN hC hq hans hne
        go_wp2_with fail
        go_ret
        exact ⟨by rw [HR.out, HA.out]; rfl, HBW.out⟩
      | some d =>
        have hv : grV ps C = d := by unfold grV; rw [hq]
        have hNs : N ≤ s.size := by rw [hN, Lib.size_eq]; exact decodeL_le _ hne
        have hans : (⟨(titleT ps s.data.toList).toArray⟩ : ByteArray) = bytesOf d ++ s.extract N s.size := by
          unfold titleT
          rw [if_neg hne, ← hC, hq, ← hN, ← str_back (bytesOf d ++ s.extract N s.size)]
          congr 2
          rw [ByteArray.data_append, Array.toList_append, Lib.extract_to_end, ← byC_bytes]
        have hbl : (bytesOf d).size ≤ 4 := by
          rw [Lib.size_eq, ← byC_bytes]
          unfold byC
          split
          · exact enc_len d
          · simp
        have HA := Lib.hid hans
        rw [hv]
        dsimp only [Option.isSome]
        have CB := Lib.hid (fun wx => (bytes_any d wx).mono fun e w' h => (⟨h.1, h.2.symm⟩ : e = .returned (.string (bytesOf d)) ∧ w' = wx))
        have hcat : ¬ 9223372036854775807 < (bytesOf d).size + (s.extract N s.size).size := by rw [ByteArray.size_extract]; omega
        clear hN hC hq hans hne hv
        go_upto_region 5 with fail
        go_quiet ((go_at_call 20; exact Calls.quiet_of_same (CB.out _)))
        go_wp2_with fail
        go_ret
        exact ⟨by rw [HR.out, HA.out]; rfl, below_drewN HBW.out nq⟩
end Go.Proofs.YtfhoffdgbkoffaaDoor
