/- Chapter 13's own Forms and All by contract. -/
import Derived.Test.YtcbmfkgekhadkaaGreatDoorZRef
import Derived.Test.YtcbmfkgekhadkaaGreatDoorZTable
import Derived.Test.YtcbmfkgekhadkaaGreatDoorPBoth
import Derived.StillTailTactics
import Derived.IntWalk
import Derived.Deep.RegionWith
import Derived.Deep.CutRange
import Derived.Deep.DeepCutAuto
namespace Go.Proofs.YtcbmfkgekhadkaaGreatDoor
open Go Go.RowKit Go.Lib

theorem putOk_len (l : List ByteArray) (x : ByteArray) : (putOk l x).length ≤ l.length + 1 := by
  unfold putOk
  split
  · exact putL_length x l
  · omega
theorem StrsP.keep {w w' : World} {v : Value} {l : List ByteArray} (h : StrsP w v l) (hb : Below w.heap.size w w') : StrsP w' v l := by
  rcases h with h | ⟨b, off, cap, rfl, h1, h2, h3, h4⟩
  · exact .inl h
  · exact .inr ⟨b, off, cap, rfl, Nat.lt_of_lt_of_le h1 hb.size, h2, h3, fun i c hc => (cell_old (p := ⟨b, off + i, none⟩) hb h1).trans (h4 i c hc)⟩
theorem take_fold {α β : Type} (f : β → α → β) (x : β) {l : List α} {k : Nat} {a : α} (h : l[k]? = some a) : (l.take (k + 1)).foldl f x = f ((l.take k).foldl f x) a := by
  rw [List.take_add_one, h, List.foldl_append]; rfl
/-- What reads while the document's Forms goes on. -/
structure RF (w W0 : World) (b off : Nat) (rs : List Ru) (wd : ByteArray) (A : Option Addr) (n cap : Nat) (fl : List Int) (W : World) : Prop where
  below : Below W0.heap.size W0 W
theorem rf_box {w W0 : World} (hW0 : ∃ o, W0 = w.alloc o) {W : World} (h : Below W0.heap.size W0 W) : Below w.heap.size w W := by
  obtain ⟨o, rfl⟩ := hW0
  exact ((Below.refl w.heap.size w).alloc (Nat.le_refl _) o).trans (h.mono (by simp))

set_option maxRecDepth 100000 in
set_option maxHeartbeats 8000000 in
theorem forms13_any (w : World) (v : Value) (rs : List Ru) (A : Option Addr) (n cap : Nat) (wd : ByteArray) (fl : List Int) (hr : RulesAt w v rs) (hI : IntsAt w (.slice A n cap) fl) (hm : ∀ r ∈ rs, MidR r) (hw : wd.size ≤ 100000) (hn : rs.length ≤ 1000) :
    Calls Tryz.prog 12 #[v, .agg #[.string wd, .slice A n cap]] w fun e w' => ∃ v', e = .returned v' ∧ StrsP w' v' (formsL rs ⟨wd, fl⟩) ∧ Below w.heap.size w w' := by
  obtain ⟨SA, sc, rfl⟩ := rules_form hr
  obtain ⟨sn, hsn⟩ : ∃ sn, sn = rs.length := ⟨_, rfl⟩
  rw [← hsn] at hr hn ⊢
  have HN := Lib.hid (And.intro hsn (And.intro hm hw))
  have HO := Lib.hid (rules_open hr)
  have HIW := Lib.hid hI
  obtain ⟨W0, hW0⟩ : ∃ W0, W0 = w.alloc (.cells #[.string wd, .slice A n cap] 25) := ⟨_, rfl⟩
  have z := World.alloc_heap_new w (.cells #[.string wd, .slice A n cap] 25)
  rw [← hW0] at z
  have hb0 : Below w.heap.size w W0 := by rw [hW0]; exact (Below.refl _ _).alloc (Nat.le_refl _) _
  obtain ⟨B0, hB0⟩ : ∃ B0, B0 = w.heap.size := ⟨_, rfl⟩
  rw [← hB0] at z
  have hBl : B0 < W0.heap.size := (Array.getElem?_eq_some_iff.1 z).1
  have x0 : W0.cell? ⟨B0, 0, none⟩ = some (.string wd) := by simp [World.cell?, z]
  have x1 : W0.cell? ⟨B0, 1, none⟩ = some (.slice A n cap) := by simp [World.cell?, z]
  -- what reads in whatever has grown
  have HBX := Lib.hid (show ∀ W, Below W0.heap.size W0 W → W.cell? ⟨B0, 0, none⟩ = some (.string wd) ∧ W.cell? ⟨B0, 1, none⟩ = some (.slice A n cap) from fun W h => ⟨(cell_old (p := ⟨B0, 0, none⟩) h hBl).trans x0, (cell_old (p := ⟨B0, 1, none⟩) h hBl).trans x1⟩)
  have HBW := Lib.hid (show ∀ W, Below W0.heap.size W0 W → Below w.heap.size w W from fun W h => hb0.trans (h.mono hb0.size))
  have HRU := Lib.hid (show ∀ (i : Nat) r, rs[i]? = some r → ∃ b off B bc, SA = some ⟨b, off, none⟩ ∧ sn ≤ sc ∧ (∀ W, Below W0.heap.size W0 W → (W.cell? ⟨b, off + i * 6, none⟩ = some (.bool r.pre) ∧ W.cell? ⟨b, off + i * 6 + 1, none⟩ = some (.int .i64 r.flag) ∧ W.cell? ⟨b, off + i * 6 + 2, none⟩ = some (.bool r.cross) ∧ W.cell? ⟨b, off + i * 6 + 3, none⟩ = some (.string r.strip) ∧ W.cell? ⟨b, off + i * 6 + 4, none⟩ = some (.string r.add) ∧ W.cell? ⟨b, off + i * 6 + 5, none⟩ = some (.slice B r.cond.length bc)) ∧
      RuAt W (.agg #[.bool r.pre, .int .i64 r.flag, .bool r.cross, .string r.strip, .string r.add, .slice B r.cond.length bc]) r) from fun i r hi => by
    obtain ⟨b, off, k1, k2, k3, c0, c1, c2, c3, c4, B, bc, c5, hits⟩ := HO.out i r hi
    refine ⟨b, off, B, bc, k1, k3, fun W h => ?_⟩
    have hb := HBW.out W h
    have hc : ∀ o, W.cell? ⟨b, o, none⟩ = w.cell? ⟨b, o, none⟩ := fun o => cell_old (p := ⟨b, o, none⟩) hb k2
    exact ⟨⟨(hc _).trans c0, (hc _).trans c1, (hc _).trans c2, (hc _).trans c3, (hc _).trans c4, (hc _).trans c5⟩, B, bc, rfl, hits.keep hb⟩)
  have HS1 := Lib.hid (show Below W0.heap.size W0 (W0.alloc (.cells #[.string wd] 9)) ∧ StrsP (W0.alloc (.cells #[.string wd] 9)) (.slice (some ⟨W0.heap.size, 0, none⟩) 1 1) [wd] from ⟨(Below.refl _ _).alloc (Nat.le_refl _) _, .inr ⟨W0.heap.size, 0, 1, rfl, by simp, by simp, by unfold maxLen; omega, fun i s hi => by
    cases i with
    | zero =>
      simp at hi; subst hi
      exact cell_of_row _ _ 0 _ _ _ (World.alloc_heap_new _ _)
    | succ i => simp at hi⟩⟩)
  have HEN := Lib.hid (fun W (h : Below W0.heap.size W0 W) f => has_any W wd A n cap fl f (HIW.out.keep (HBW.out W h)))
  clear hr hI hm hw hsn z hb0 hBl
  go_enter Tryz.func12, Tryz.ntmps12
  go_upto_region 1 with fail
  rw [← hB0, ← hW0]
  clear hW0 hB0
  go_wp2_with fail
  go_loopg [5, 6] sn (fun gh s5 s6 wr => ∃ k : Nat, k + gh = sn ∧ s6 = .int .i64 k ∧ Hid (StrsP wr s5 ((rs.take k).foldl (oneL rs ⟨wd, fl⟩) [wd]) ∧ Below W0.heap.size W0 wr ∧ ((rs.take k).foldl (oneL rs ⟨wd, fl⟩) [wd]).length ≤ 1 + k * (sn + 1)))
  case atStart => exact ⟨0, by omega, rfl, Lib.hid ⟨HS1.out.2, HS1.out.1, by simp⟩⟩
  case round =>
    obtain ⟨k, hk, rfl, HQ⟩ := hrel
    by_cases hlt : k < sn
    · obtain ⟨r, hr⟩ : ∃ r, rs[k]? = some r := ⟨rs[k]'(by have := HN.out.1; omega), List.getElem?_eq_getElem _⟩
      obtain ⟨b, off, B, bc, rfl, hsc, hru⟩ := HRU.out k r hr
      have HR := Lib.hid (And.intro hr hru)
      obtain ⟨⟨c0, c1, c2, c3, c4, c5⟩, -⟩ := hru wr HQ.out.2.1
      obtain ⟨y0, y1⟩ := HBX.out wr HQ.out.2.1
      have CH := Lib.hid (HEN.out wr.drew HQ.out.2.1.drew r.flag)
      clear x0 x1 hr hru
      go_upto_region 5 with fail
      go_still_tail 6, (by kernel_rfl)
      change wpList _ _ _ _ _ wr.drew
      clear c0 c1 c2 c3 c4 c5 y0 y1
      have HQD := Lib.hid (And.intro (HQ.out.1.keep ((Below.refl wr.heap.size wr).drew)) HQ.out.2.1.drew)
      generalize wr.drew = wd0 at *
      by_cases hf : r.flag ∈ fl
      · rw [decide_eq_true hf] at CH
        go_wp2_with (go_at_call 25; refine (CH.out).mono ?_; rintro e w1 ⟨rfl, hb1⟩; have HB1 := Lib.hid (HQD.out.2.trans (hb1.mono HQD.out.2.size)); have HBD := Lib.hid hb1.drew; clear hb1 CH)
        obtain ⟨⟨c0, c1, c2, c3, c4, c5⟩, hra⟩ := HR.out.2 w1 HB1.out
        obtain ⟨y0, y1⟩ := HBX.out w1 HB1.out
        have CA := Lib.hid (rapply_any w1.drew _ r wd ((HR.out.2 w1.drew HB1.out.drew).2) (HN.out.2.1 r (List.mem_of_getElem? HR.out.1)) HN.out.2.2)
        have HS2 := Lib.hid (show StrsP w1.drew u5 ((rs.take k).foldl (oneL rs ⟨wd, fl⟩) [wd]) from HQD.out.1.keep HBD.out)
        have HF := Lib.hid hf
        clear hf hra
        go_cut [7, 8] (fun s7 s8 wx => s7 = .string (applyR r wd) ∧ s8 = .bool (okB (applyR r wd)) ∧ Hid (StrsP wx u5 ((rs.take k).foldl (oneL rs ⟨wd, fl⟩) [wd]) ∧ Below W0.heap.size W0 wx))
        case first =>
          go_region_with (go_at_call 26; refine (CA.out).mono ?_; rintro e w2 ⟨rfl, hb2⟩; have HB2 := Lib.hid hb2; clear hb2)
          all_goals
            clear c0 c1 c2 c3 c4 c5 y0 y1
            go_wp2_with fail
            go_meet
            exact ⟨rfl, rfl, Lib.hid ⟨HS2.out.keep HB2.out, HB1.out.drew.trans (HB2.out.mono HB1.out.size)⟩⟩
        case rest =>
          obtain ⟨rfl, rfl, HQ2⟩ := hcut
          have HLEN := Lib.hid (show ((rs.take k).foldl (oneL rs ⟨wd, fl⟩) [wd]).length ≤ 1000000000 by
            have := HQ.out.2.2
            have : k * (sn + 1) ≤ 1000 * 1001 := Nat.mul_le_mul (by omega) (by omega)
            omega)
          clear c0 c1 c2 c3 c4 c5 y0 y1 CA HS2
          obtain ⟨ob, hob⟩ : ∃ ob, ob = okB (applyR r wd) := ⟨_, rfl⟩
          rw [← hob]
          have HOB := Lib.hid hob
          clear hob
          go_upto_if 39 with (fail)
          go_cut [5] (fun s5 wx => Hid (StrsP wx s5 (putOk ((rs.take k).foldl (oneL rs ⟨wd, fl⟩) [wd]) (applyR r wd)) ∧ Below W0.heap.size W0 wx))
          case first =>
            cases ob with
            | true =>
              have HPUT := Lib.hid (show putOk ((rs.take k).foldl (oneL rs ⟨wd, fl⟩) [wd]) (applyR r wd) = putL ((rs.take k).foldl (oneL rs ⟨wd, fl⟩) [wd]) (applyR r wd) from if_pos (of_decide_eq_true HOB.out.symm))
              have CP := Lib.hid (put13_any wc u5 _ (applyR r wd) HQ2.out.1 HLEN.out)
              go_wp2_with (go_at_call 27; refine (CP.out).mono ?_; rintro e w3 ⟨v3, rfl, hs3, hb3⟩)
              go_meet
              exact Lib.hid ⟨by rw [HPUT.out]; exact hs3, HQ2.out.2.trans (hb3.mono HQ2.out.2.size)⟩
            | false =>
              have HPUT := Lib.hid (show putOk ((rs.take k).foldl (oneL rs ⟨wd, fl⟩) [wd]) (applyR r wd) = (rs.take k).foldl (oneL rs ⟨wd, fl⟩) [wd] from if_neg (of_decide_eq_false HOB.out.symm))
              go_wp2_with fail
              go_meet
              exact Lib.hid ⟨by rw [HPUT.out]; exact HQ2.out.1, HQ2.out.2⟩
          case rest =>
            have HQ3 := hcut
            have hL1 : Hid (oneL rs ⟨wd, fl⟩ ((rs.take k).foldl (oneL rs ⟨wd, fl⟩) [wd]) r = rs.foldl (twoL ⟨wd, fl⟩ r) (putOk ((rs.take k).foldl (oneL rs ⟨wd, fl⟩) [wd]) (applyR r wd))) := Lib.hid (if_pos HF.out)
            have hL2 : (putOk ((rs.take k).foldl (oneL rs ⟨wd, fl⟩) [wd]) (applyR r wd)).length ≤ 2 + k * (sn + 1) := by
              have := putOk_len ((rs.take k).foldl (oneL rs ⟨wd, fl⟩) [wd]) (applyR r wd)
              have := HQ.out.2.2
              omega
            have hL3 : 2 + k * (sn + 1) ≤ 1002002 := by
              have : k * (sn + 1) ≤ 1000 * 1001 := Nat.mul_le_mul (by omega) (by omega)
              omega
            have HL2 := Lib.hid (And.intro hL2 hL3)
            clear hcut hL2 hL3 HLEN HQ2
            generalize putOk ((rs.take k).foldl (oneL rs ⟨wd, fl⟩) [wd]) (applyR r wd) = L1 at HQ3 hL1 HL2
            obtain ⟨g1, hg1⟩ : ∃ g1, g1 = gk := ⟨_, rfl⟩
            go_wp2_with fail
            go_loopg [5, 9] sn (fun gh s5 s9 wq => ∃ j : Nat, j + gh = sn ∧ s9 = .int .i64 j ∧ Hid (StrsP wq s5 ((rs.take j).foldl (twoL ⟨wd, fl⟩ r) L1) ∧ Below W0.heap.size W0 wq ∧ ((rs.take j).foldl (twoL ⟨wd, fl⟩ r) L1).length ≤ L1.length + j))
            case atStart => exact ⟨0, by omega, rfl, Lib.hid ⟨HQ3.out.1, HQ3.out.2, by simp⟩⟩
            case round =>
              obtain ⟨j, hj, rfl, HJ⟩ := hrel
              by_cases hltj : j < sn
              · obtain ⟨t, ht⟩ : ∃ t, rs[j]? = some t := ⟨rs[j]'(by have := HN.out.1; omega), List.getElem?_eq_getElem _⟩
                obtain ⟨b2, off2, B2, bc2, e2, -, hru2⟩ := HRU.out j t ht
                cases e2
                have HT := Lib.hid (And.intro ht hru2)
                obtain ⟨⟨c0, c1, c2, c3, c4, c5⟩, -⟩ := hru2 wr HJ.out.2.1
                obtain ⟨y0, y1⟩ := HBX.out wr HJ.out.2.1
                have CH := Lib.hid (HEN.out wr.drew HJ.out.2.1.drew t.flag)
                clear ht hru2
                go_upto_region 12 with fail
                go_still_tail 6, (by kernel_rfl)
                change wpList _ _ _ _ _ wr.drew
                clear c0 c1 c2 c3 c4 c5 y0 y1
                have HQD := Lib.hid (And.intro (HJ.out.1.keep ((Below.refl wr.heap.size wr).drew)) HJ.out.2.1.drew)
                generalize wr.drew = wd0 at *
                by_cases hf2 : t.flag ∈ fl
                · rw [decide_eq_true hf2] at CH
                  go_wp2_with (go_at_call 25; refine (CH.out).mono ?_; rintro e w1 ⟨rfl, hb1⟩; have HB1 := Lib.hid (HQD.out.2.trans (hb1.mono HQD.out.2.size)); have HBD := Lib.hid hb1.drew; clear hb1 CH)
                  obtain ⟨⟨c0, c1, c2, c3, c4, c5⟩, -⟩ := HR.out.2 w1 HB1.out
                  obtain ⟨⟨d0, d1, d2, d3, d4, d5⟩, -⟩ := HT.out.2 w1 HB1.out
                  obtain ⟨y0, y1⟩ := HBX.out w1 HB1.out
                  have CA := Lib.hid (rboth_any w1.drew _ _ r t wd ((HR.out.2 w1.drew HB1.out.drew).2) (HN.out.2.1 r (List.mem_of_getElem? HR.out.1)) ((HT.out.2 w1.drew HB1.out.drew).2) (HN.out.2.1 t (List.mem_of_getElem? HT.out.1)) HN.out.2.2)
                  have HS2 := Lib.hid (show StrsP w1.drew u5 ((rs.take j).foldl (twoL ⟨wd, fl⟩ r) L1) from HQD.out.1.keep HBD.out)
                  have HF2 := Lib.hid hf2
                  clear hf2
                  go_cut [10, 11] (fun s7 s8 wx => s7 = .string (bothR r t wd) ∧ s8 = .bool (okB (bothR r t wd)) ∧ Hid (StrsP wx u5 ((rs.take j).foldl (twoL ⟨wd, fl⟩ r) L1) ∧ Below W0.heap.size W0 wx))
                  case first =>
                    go_region_with (go_at_call 28; refine (CA.out).mono ?_; rintro e w2 ⟨rfl, hb2⟩; have HB2 := Lib.hid hb2; clear hb2)
                    all_goals
                      clear c0 c1 c2 c3 c4 c5 d0 d1 d2 d3 d4 d5 y0 y1
                      go_wp2_with fail
                      go_meet
                      exact ⟨rfl, rfl, Lib.hid ⟨HS2.out.keep HB2.out, HB1.out.drew.trans (HB2.out.mono HB1.out.size)⟩⟩
                  case rest =>
                    obtain ⟨rfl, rfl, HQ2⟩ := hcut
                    have HLEN := Lib.hid (show ((rs.take j).foldl (twoL ⟨wd, fl⟩ r) L1).length ≤ 1000000000 by
                      have := HJ.out.2.2
                      have := HL2.out
                      omega)
                    clear c0 c1 c2 c3 c4 c5 d0 d1 d2 d3 d4 d5 y0 y1 CA HS2
                    obtain ⟨ob2, hob⟩ : ∃ ob, ob = okB (bothR r t wd) := ⟨_, rfl⟩
                    rw [← hob]
                    have HOB2 := Lib.hid hob
                    clear hob
                    have HX := Lib.hid (show twoL ⟨wd, fl⟩ r ((rs.take j).foldl (twoL ⟨wd, fl⟩ r) L1) t = putOk ((rs.take j).foldl (twoL ⟨wd, fl⟩ r) L1) (bothR r t wd) from if_pos HF2.out)
                    cases ob2 with
                    | true =>
                      have HPUT := Lib.hid (show putOk ((rs.take j).foldl (twoL ⟨wd, fl⟩ r) L1) (bothR r t wd) = putL ((rs.take j).foldl (twoL ⟨wd, fl⟩ r) L1) (bothR r t wd) from if_pos (of_decide_eq_true HOB2.out.symm))
                      have CP := Lib.hid (put13_any wc u5 _ (bothR r t wd) HQ2.out.1 HLEN.out)
                      go_wp2_with (go_at_call 27; refine (CP.out).mono ?_; rintro e w3 ⟨v3, rfl, hs3, hb3⟩; have HS3 := Lib.hid hs3; have HB3 := Lib.hid (HQ2.out.2.trans (hb3.mono HQ2.out.2.size)); clear hs3 hb3)
                      go_roundg (gk - 1)
                      case measure => omega
                      case rel => exact ⟨j + 1, by omega, by go_num, Lib.hid (by rw [take_fold _ _ HT.out.1, HX.out]; exact ⟨by rw [HPUT.out]; exact HS3.out, HB3.out, by have := HJ.out.2.2; have := putOk_len ((rs.take j).foldl (twoL ⟨wd, fl⟩ r) L1) (bothR r t wd); omega⟩)⟩
                    | false =>
                      have HPUT := Lib.hid (show putOk ((rs.take j).foldl (twoL ⟨wd, fl⟩ r) L1) (bothR r t wd) = (rs.take j).foldl (twoL ⟨wd, fl⟩ r) L1 from if_neg (of_decide_eq_false HOB2.out.symm))
                      go_wp2_with fail
                      go_roundg (gk - 1)
                      case measure => omega
                      case rel => exact ⟨j + 1, by omega, by go_num, Lib.hid (by rw [take_fold _ _ HT.out.1, HX.out]; exact ⟨by rw [HPUT.out]; exact HQ2.out.1, HQ2.out.2, by have := HJ.out.2.2; have := putOk_len ((rs.take j).foldl (twoL ⟨wd, fl⟩ r) L1) (bothR r t wd); omega⟩)⟩
                · rw [decide_eq_false hf2] at CH
                  have HX := Lib.hid (show twoL ⟨wd, fl⟩ r ((rs.take j).foldl (twoL ⟨wd, fl⟩ r) L1) t = (rs.take j).foldl (twoL ⟨wd, fl⟩ r) L1 from if_neg hf2)
                  go_wp2_with (go_at_call 25; refine (CH.out).mono ?_; rintro e w1 ⟨rfl, hb1⟩; have HB1 := Lib.hid (HQD.out.2.trans (hb1.mono HQD.out.2.size)); have HS1 := Lib.hid (HQD.out.1.keep hb1); clear hb1 CH)
                  go_roundg (gk - 1)
                  case measure => omega
                  case rel => exact ⟨j + 1, by omega, by go_num, Lib.hid (by rw [take_fold _ _ HT.out.1, HX.out]; exact ⟨HS1.out, HB1.out, by have := HJ.out.2.2; omega⟩)⟩
              · obtain rfl : j = sn := by omega
                go_wp2_with fail
                go_roundg (g1 - 1)
                case measure => omega
                case rel =>
                  refine ⟨k + 1, by omega, by go_num, Lib.hid ?_⟩
                  rw [take_fold _ _ HR.out.1, hL1.out]
                  have h1 := HJ.out
                  rw [List.take_of_length_le (by have := HN.out.1; omega)] at h1
                  exact ⟨h1.1, h1.2.1, by have := h1.2.2; have := HL2.out.1; rw [Nat.add_mul]; omega⟩
      · rw [decide_eq_false hf] at CH
        have HX := Lib.hid (show oneL rs ⟨wd, fl⟩ ((rs.take k).foldl (oneL rs ⟨wd, fl⟩) [wd]) r = (rs.take k).foldl (oneL rs ⟨wd, fl⟩) [wd] from if_neg hf)
        go_wp2_with (go_at_call 25; refine (CH.out).mono ?_; rintro e w1 ⟨rfl, hb1⟩; have HB1 := Lib.hid (HQD.out.2.trans (hb1.mono HQD.out.2.size)); have HS1 := Lib.hid (HQD.out.1.keep hb1); clear hb1 CH)
        go_roundg (gk - 1)
        case measure => omega
        case rel => exact ⟨k + 1, by omega, by go_num, Lib.hid (by rw [take_fold _ _ HR.out.1, HX.out]; exact ⟨HS1.out, HB1.out, by have := HQ.out.2.2; rw [Nat.add_mul]; omega⟩)⟩
    · obtain rfl : k = sn := by omega
      go_wp2_with fail
      go_ret
      have h1 := HQ.out
      rw [List.take_of_length_le (by have := HN.out.1; omega)] at h1
      exact ⟨_, rfl, h1.1, HBW.out _ h1.2.1⟩
end Go.Proofs.YtcbmfkgekhadkaaGreatDoor
