/- The document's example, as the laws ask it: it answers true. -/
import Derived.Test.YtfenpcddmdopdaaDoorCodes
namespace Go.Proofs.YtfenpcddmdopdaaDoor
open Go Go.RowKit Go.Lib

theorem own_open {w : World} {B e size n : Nat} {v : Value} {xs : List Value} (h : w.ownsRow B e size v n xs) (hn : 0 < n) :
    ∃ g cap, v = .slice (some ⟨g, 0, none⟩) n cap ∧ B ≤ g ∧ g < w.heap.size ∧ n ≤ cap ∧ cap ≤ maxLen ∧ ∀ j u, xs[j]? = some u → w.cell? ⟨g, j, none⟩ = some u := by
  have hc := @World.ownsRow.cells _ _ _ _ _ _ _ h
  rcases h.2 with ⟨_, rfl⟩ | ⟨g, cap, cur, rfl, hb, hg, hnc, hcm, _⟩
  · omega
  · refine ⟨g, cap, rfl, hb, (Array.getElem?_eq_some_iff.1 hg).1, hnc, hcm, fun j u hu => ?_⟩
    have hadd : (⟨g, 0, none⟩ : Addr).add j = ⟨g, j, none⟩ := by unfold Addr.add; split <;> simp_all
    rw [← hadd]
    exact hc (g := g) rfl j u hu

theorem ex_units : units 0 (ByteArray.mk #[97, 255]).data.toList = [(0, 1, 97), (1, 1, -256)] := by rfl
theorem ex_valid : validD (ByteArray.mk #[195, 169]).data.toList = true := by rfl
theorem ex_codes : units 0 (ByteArray.mk #[195, 169]).data.toList = [(0, 2, 233)] := by rfl
theorem ex_bytes : bytesOf 233 = ⟨#[195, 169]⟩ := by rfl

set_option maxHeartbeats 1000000 in
theorem awake_any (w : World) (hT : Lib.Utf8Tabs 0 1 w) : Calls Tryd.prog 7 #[] w fun e w' => e = .returned (.bool true) ∧ Below w.heap.size w w' := by
  have c1 : ∀ wx, Calls Tryd.prog 13 #[.string ⟨#[97, 255]⟩] wx fun e w' => ∃ g cap, e = .returned (.slice (some ⟨g, 0, none⟩) 2 cap) ∧ (g < w'.heap.size ∧ 2 ≤ cap ∧ cap ≤ maxLen) ∧ (w'.cell? ⟨g, 3, none⟩ = some (.int .i64 1) ∧ w'.cell? ⟨g, 5, none⟩ = some (.int .i64 (-256))) ∧ Below wx.heap.size wx w' := by
    intro wx
    refine (all_any ⟨#[97, 255]⟩ wx (by decide)).mono ?_
    rintro e w' ⟨v, he, ho, hb⟩
    rw [ex_units] at ho
    obtain ⟨g, cap, rfl, _, hg, hc1, hc2, hc⟩ := own_open ho (by decide)
    exact ⟨g, cap, he, ⟨hg, hc1, hc2⟩, ⟨hc 3 _ rfl, hc 5 _ rfl⟩, hb⟩
  have c2 : ∀ wx, Lib.Utf8Tabs 0 1 wx → Calls Tryd.prog 10 #[.string ⟨#[195, 169]⟩] wx fun e w' => ∃ g cap, e = .returned (.tuple #[.slice (some ⟨g, 0, none⟩) 1 cap, .bool true]) ∧ (g < w'.heap.size ∧ 1 ≤ cap ∧ cap ≤ maxLen) ∧ w'.cell? ⟨g, 0, none⟩ = some (.int .i64 233) ∧ Below wx.heap.size wx w' := by
    intro wx ht
    refine (codes_yes ⟨#[195, 169]⟩ wx (by decide) ht ex_valid).mono ?_
    rintro e w' ⟨v, he, ho, hb⟩
    rw [ex_codes] at ho
    obtain ⟨g, cap, rfl, _, hg, hc1, hc2, hc⟩ := own_open ho (by decide)
    exact ⟨g, cap, he, ⟨hg, hc1, hc2⟩, hc 0 _ rfl, hb⟩
  have c3 : ∀ wx, Calls Tryd.prog 15 #[.int .i64 233] wx fun e w' => e = .returned (.string ⟨#[195, 169]⟩) ∧ wx = w' := by
    intro wx
    have := bytes_any 233 wx
    rwa [ex_bytes] at this
  have C1 := Lib.hid c1
  have C2 := Lib.hid c2
  have C3 := Lib.hid c3
  have HT := Lib.hid hT
  clear c1 c2 c3 hT
  go_enter Tryd.func7, Tryd.ntmps7
  go_wp2_with (first
    | (go_at_call 13; refine (C1.out _).mono ?_; rintro e w1 ⟨g1, cap1, rfl, ⟨hg1, hc1, hc2⟩, ⟨z3, z5⟩, hb1⟩)
    | (go_at_call 10; refine (C2.out _ (tabs_below HT.out hb1)).mono ?_; rintro e w2 ⟨g2, cap2, rfl, ⟨hg2, hd1, hd2⟩, y0, hb2⟩; have x3 := (hb2.cell (p := ⟨g1, 3, none⟩) hg1).trans z3; have x5 := (hb2.cell (p := ⟨g1, 5, none⟩) hg1).trans z5; unfold maxLen at hc2 hd2)
    | (go_at_call 15; refine (C3.out _).mono ?_; rintro e w3 ⟨rfl, rfl⟩))
  go_ret
  exact ⟨rfl, hb1.trans (hb2.mono hb1.size)⟩
end Go.Proofs.YtfenpcddmdopdaaDoor
