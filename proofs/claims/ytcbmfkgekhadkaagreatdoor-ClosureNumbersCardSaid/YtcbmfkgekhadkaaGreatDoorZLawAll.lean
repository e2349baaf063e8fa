/- Stage 13's law ClosureAll by contract. -/
import Derived.Test.YtcbmfkgekhadkaaGreatDoorZAwake
import Derived.Test.YtcbmfkgekhadkaaGreatDoorZFew
import Derived.Deep.RegionWith
namespace Go.Proofs.YtcbmfkgekhadkaaGreatDoor
open Go Go.RowKit Go.Lib

theorem Few1.fit {r : Ru} (h : Few1 r) : FitR r := ⟨by have := h.1; omega, fun it hit => by have := h.2.1 it hit; omega, by have := h.2.2; omega, by have := h.2.2; omega⟩
theorem Few1.mid {r : Ru} (h : Few1 r) : MidR r := ⟨by have := h.1; omega, fun it hit => by have := h.2.1 it hit; omega, by have := h.2.2; omega, by have := h.2.2; omega⟩

set_option maxRecDepth 100000 in
set_option maxHeartbeats 8000000 in
theorem law_all (w : World) (v : Value) (rs : List Ru) (wd : ByteArray) (A : Option Addr) (n cap : Nat) (fl : List Int) (hr : RulesAt w v rs) (hI : IntsAt w (.slice A n cap) fl) (hT : Tabs9 w) (hz : ∀ r ∈ rs, r.strip.size ≤ 1000000000000000 ∧ r.add.size ≤ 1000000000000000) (hrin : ∀ r ∈ rs, In64 r.flag) (hfin : ∀ f ∈ fl, In64 f) :
    Calls Tryz.prog 3 #[v, .agg #[.string wd, .slice A n cap]] w fun e w' => e = .returned (.bool true) ∧ Below w.heap.size w w' := by
  obtain ⟨W0, hW0⟩ : ∃ W0, W0 = w.alloc (.cells #[.string wd, .slice A n cap] 25) := ⟨_, rfl⟩
  have z := World.alloc_heap_new w (.cells #[.string wd, .slice A n cap] 25)
  rw [← hW0] at z
  have hb0 : Below w.heap.size w W0 := by rw [hW0]; exact (Below.refl _ _).alloc (Nat.le_refl _) _
  obtain ⟨B0, hB0⟩ : ∃ B0, B0 = w.heap.size := ⟨_, rfl⟩
  rw [← hB0] at z
  have hBl : B0 < W0.heap.size := (Array.getElem?_eq_some_iff.1 z).1
  have x0 : W0.cell? ⟨B0, 0, none⟩ = some (.string wd) := by simp [World.cell?, z]
  have x1 : W0.cell? ⟨B0, 1, none⟩ = some (.slice A n cap) := by simp [World.cell?, z]
  have HBX := Lib.hid (show ∀ W, Below W0.heap.size W0 W → W.cell? ⟨B0, 0, none⟩ = some (.string wd) ∧ W.cell? ⟨B0, 1, none⟩ = some (.slice A n cap) from fun W h => ⟨(cell_old (p := ⟨B0, 0, none⟩) h hBl).trans x0, (cell_old (p := ⟨B0, 1, none⟩) h hBl).trans x1⟩)
  have HBW := Lib.hid (show ∀ W, Below W0.heap.size W0 W → Below w.heap.size w W from fun W h => hb0.trans (h.mono hb0.size))
  have HTB := Lib.hid (show ∀ W, Below W0.heap.size W0 W → Tabs9 W from fun W h => tabs_below hT (HBW.out W h))
  have CFW := Lib.hid (few13_any W0 v rs (hr.keep hb0) hz)
  have HA := Lib.hid (And.intro hr (And.intro hI (And.intro hrin hfin)))
  have HI2 := ints_open hI
  have hn : n = fl.length := by
    obtain ⟨A', c', e, -⟩ := HI2
    injection e
  have hfl : n ≤ 9223372036854775807 := hn ▸ ints_bd hI
  obtain ⟨SA, sc, rfl⟩ := rules_form hr
  obtain ⟨sn, hsn⟩ : ∃ sn, sn = rs.length := ⟨_, rfl⟩
  rw [← hsn] at HA CFW ⊢
  have HSN := Lib.hid (And.intro hsn hn)
  clear hr hI hT hz hrin hfin z hb0 hBl HI2 hsn hn
  go_enter Tryz.func3, Tryz.ntmps3
  go_upto_region 1 with fail
  rw [← hB0, ← hW0]
  clear hW0 hB0
  go_wp2_with fail
  refine CFW.out.mono ?_
  rintro e w1 ⟨⟨b, rfl, hfew⟩, hb1⟩
  have HFW := Lib.hid hfew
  have HB1 := Lib.hid hb1
  obtain ⟨y0, y1⟩ := HBX.out w1 hb1
  have CAW := Lib.hid (fun W (h : Below W0.heap.size W0 W) => awake13_any W (HTB.out W h))
  clear hfew hb1 CFW x0 x1
  cases b with
  | false =>
    go_wp2_with (go_at_call 9; refine (CAW.out _ HB1.out).mono ?_; rintro e w9 ⟨rfl, hb9⟩)
    go_ret
    exact ⟨rfl, HBW.out _ (HB1.out.trans (hb9.mono HB1.out.size))⟩
  | true =>
    by_cases h60 : (60 : Int) < wd.size
    · go_wp2_with (go_at_call 9; refine (CAW.out _ HB1.out).mono ?_; rintro e w9 ⟨rfl, hb9⟩)
      go_ret
      exact ⟨rfl, HBW.out _ (HB1.out.trans (hb9.mono HB1.out.size))⟩
    · by_cases h30 : (30 : Int) < n
      · go_wp2_with (go_at_call 9; refine (CAW.out _ HB1.out).mono ?_; rintro e w9 ⟨rfl, hb9⟩)
        go_ret
        exact ⟨rfl, HBW.out _ (HB1.out.trans (hb9.mono HB1.out.size))⟩
      · have hF := HFW.out rfl
        have hz : ZArg rs ⟨wd, fl⟩ := ⟨fun r hr => (hF.2 r hr).fit, HA.out.2.2.1, HA.out.2.2.2, by show wd.size ≤ _; omega, by have := hF.1; omega, by have := HSN.out.2; show fl.length ≤ _; omega⟩
        have HFM := Lib.hid (fun W (h : Below W0.heap.size W0 W) => forms_any W _ rs A n cap wd fl (HA.out.1.keep (HBW.out W h)) (HA.out.2.1.keep (HBW.out W h)) (HTB.out W h) hz)
        have HFR := Lib.hid (fun W (h : Below W0.heap.size W0 W) => forms13_any W _ rs A n cap wd fl (HA.out.1.keep (HBW.out W h)) (HA.out.2.1.keep (HBW.out W h)) (fun r hr => (hF.2 r hr).mid) (by omega) (by have := hF.1; omega))
        generalize formsL rs ⟨wd, fl⟩ = L at HFM HFR
        clear hF hz
        go_wp2_with fail
        have HBd := Lib.hid (show Below W0.heap.size W0 w1.drew from HB1.out.drew)
        clear h60 h30
        go_region_with (first
          | (go_at_call 11; refine (HFM.out _ (by first | exact HBr.out | exact HBd.out)).mono ?_; rintro e wf ⟨vf, rfl, hsf, hkf⟩; have HBf : Hid (Below W0.heap.size W0 wf) := Lib.hid (by first | exact HBr.out.trans (hkf.mono HBr.out.size) | exact HBd.out.trans (hkf.mono HBd.out.size)); obtain ⟨y0f, y1f⟩ := HBX.out wf HBf.out; have HSF := Lib.hid hsf; have HKF := Lib.hid hkf; clear hsf hkf)
          | (go_at_call 12; refine (HFR.out _ (by first | exact HBf.out | exact HBd.out)).mono ?_; rintro e wr ⟨vr, rfl, hsr, hkr⟩; have HBr : Hid (Below W0.heap.size W0 wr) := Lib.hid (by first | exact HBf.out.trans (hkr.mono HBf.out.size) | exact HBd.out.trans (hkr.mono HBd.out.size)); obtain ⟨y0r, y1r⟩ := HBX.out wr HBr.out; have HSR := Lib.hid hsr.at_; have HKR := Lib.hid hkr; clear hsr hkr)
          | (go_at_call 10; refine (sames_any _ _ _ L L (by first | exact HSF.out | exact HSF.out.keep HKR.out) (by first | exact HSR.out | exact HSR.out.keep HKF.out)).mono ?_; rintro e ws ⟨he, hbs⟩; unfold SameE at he; rw [decide_eq_true rfl] at he; subst he; have HBs : Hid (Below W0.heap.size W0 ws) := Lib.hid (by first | exact HBr.out.trans (hbs.mono HBr.out.size) | exact HBf.out.trans (hbs.mono HBf.out.size)); clear hbs)
          | (go_at_call 9; refine (CAW.out _ HBs.out).mono ?_; rintro e w9 ⟨rfl, hb9⟩; have HB9 := Lib.hid (HBs.out.trans (hb9.mono HBs.out.size)); clear hb9))
        all_goals
          clear y0 y1
          go_wp2_with fail
          go_ret
          exact ⟨rfl, HBW.out _ HB9.out⟩
end Go.Proofs.YtcbmfkgekhadkaaGreatDoor
