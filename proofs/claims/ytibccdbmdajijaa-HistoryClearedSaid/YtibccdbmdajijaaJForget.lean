/- A place of the ring is cleared; the groups that can be redone, the oldest one, are forgotten: by contract. -/
import Derived.Test.YtibccdbmdajijaaJRing
import Derived.Deep.LoopGhost
import Derived.Deep.RegionWith
import Derived.Deep.RegionHeld3
import Derived.Shelf.RegionOpen
namespace Go.Proofs.Ytibccdbmdajijaa
open Go Go.RowKit
variable {F : Nat → Prop} {hb lo old u r D : Nat} {L : List (List Ed)}

set_option maxRecDepth 100000 in
set_option maxHeartbeats 1000000 in
theorem empty_raw (w : World) (k lo' : Nat) (L' : List (List Ed)) (h : Ring F hb w lo old u r D L) (hk : k < 50) (hlo : lo ≤ lo') (hL : ∀ (i : Nat) g, lo' ≤ i → L'[i]? = some g → i ≠ k ∧ L[i]? = some g) (hlen : L'.length ≤ 50) :
    Calls Try.prog 24 #[.pointer (some ⟨hb, 0, none⟩), .int .i64 k] w fun e w' => e = .returned (.tuple #[]) ∧ Ring F hb w' lo' old u r D L' ∧ OnlyAt (fun z => z = hb) w w' := by
  have hold := h.old50
  obtain ⟨⟨c0, -⟩, -⟩ := h.facts
  have C := Lib.hid (place_raw w hb old k hold (by omega) c0)
  have H := Lib.hid (fun n => show Ring F hb (w.drewN n) lo old u r D L from h.keep (KeepsAt.of_only (OnlyAt.of_below (below_drewN (Below.refl _ _) n)) (fun _ _ (e : False) => e.elim)))
  have hm : (old + k) % 50 < 50 := Nat.mod_lt _ (by decide)
  clear c0
  go_enter Try.func24, Try.ntmps24
  go_wp2_with fail
  refine C.out.mono ?_
  rintro e w1 ⟨rfl, n, rfl⟩
  obtain ⟨-, cf, ca⟩ := (H.out n).facts
  obtain ⟨x, cx⟩ := ca ((old + k) % 50) (by omega)
  generalize hj : (old + k) % 50 = j at *
  go_wp2_with fail
  go_end0
  refine ⟨rfl, ?_, (OnlyAt.of_below (below_drewN (Below.refl _ _) n)).trans (ring_only _ _ _ _)⟩
  rw [← hj]
  exact (H.out n).clear hk hlo hL hlen

set_option maxRecDepth 100000 in
set_option maxHeartbeats 1000000 in
theorem forget_redo (w : World) (h : Ring F hb w 0 old u r D L) (hur : L.length = u + r) :
    Calls Try.prog 19 #[.pointer (some ⟨hb, 0, none⟩)] w fun e w' => e = .returned (.tuple #[]) ∧ Ring F hb w' 0 old u 0 D (L.take u) ∧ OnlyAt (fun z => z = hb) w w' := by
  have hlen := h.len
  have h0 : Hid (Ring F hb w 0 old u r D (L.take (u + r)) ∧ OnlyAt (fun z => z = hb) w w) := Lib.hid ⟨by rw [List.take_of_length_le (by omega)]; exact h, OnlyAt.refl _ _⟩
  have h50 := h.old50
  clear h
  have C := Lib.hid (fun (gk : Nat) (hg : 0 < gk) (hr : gk ≤ r) (w2 : World) (h2 : Ring F hb w2 0 old u gk D (L.take (u + gk))) => empty_raw w2 (u + gk - 1) 0 (L.take (u + (gk - 1))) h2 (by have := h2.len; rw [List.length_take] at this; omega) (Nat.le_refl _) (fun i g _ hi => by
    have hi' : i < u + (gk - 1) := by
      have := (List.getElem?_eq_some_iff.1 hi).1
      rw [List.length_take] at this; omega
    rw [List.getElem?_take, if_pos hi'] at hi
    exact ⟨by omega, by rw [List.getElem?_take, if_pos (by omega)]; exact hi⟩) (by rw [List.length_take]; omega))
  go_enter Try.func19, Try.ntmps19
  go_wp2_with fail
  go_loopg [] r (fun m wr => Hid (Ring F hb wr 0 old u m D (L.take (u + m)) ∧ OnlyAt (fun z => z = hb) w wr) ∧ m ≤ r)
  case atStart => exact ⟨h0, Nat.le_refl _⟩
  case round =>
    obtain ⟨H, hle⟩ := hrel
    obtain ⟨⟨c0, c1, c2, c3⟩, cf, -⟩ := H.out.1.facts
    rcases Nat.eq_zero_or_pos gk with h00 | hpos
    · subst h00
      go_wp2_with fail
      go_end0
      exact ⟨rfl, H.out⟩
    · have hI : (0 : Int) < gk := by omega
      have hu : (0 : Int) ≤ u := by omega
      have hu50 : (u : Int) + r ≤ 50 := by omega
      have hw1 : IntKind.i64.wrap ((u : Int) + gk) = (u : Int) + gk := by rw [IntWalk.i64_in _ (by omega)]
      have hw2 : IntKind.i64.wrap ((u : Int) + gk - 1) = ((u + gk - 1 : Nat) : Int) := by rw [IntWalk.i64_in _ (by omega)]; omega
      have hw3 : IntKind.i64.wrap ((gk : Int) - 1) = ((gk - 1 : Nat) : Int) := by rw [IntWalk.i64_in _ (by omega)]; omega
      go_wp2_with fail
      go_region_with ((go_at_call 24; refine (C.out gk hpos hle _ (H.out.1.keep (KeepsAt.of_only (OnlyAt.of_below (Below.refl _ _).drew) (fun _ _ (e : False) => e.elim)))).mono ?_; rintro e w5 ⟨rfl, hR5, ho5⟩))
      all_goals
        obtain ⟨⟨d0, d1, d2, d3⟩, df, -⟩ := hR5.facts
        have HX := Lib.hid (And.intro (hR5.redos (gk - 1)) (((H.out.2.trans (OnlyAt.of_below (Below.refl _ _).drew)).trans ho5).trans (ring_only w5 hb 52 (.int .i64 ((gk - 1 : Nat) : Int)))))
        clear hR5 ho5
        go_wp2_with fail
        go_roundg (gk - 1)
        case measure => omega
        case rel => exact ⟨HX, by omega⟩

set_option maxRecDepth 100000 in
set_option maxHeartbeats 1000000 in
theorem forget_oldest (w : World) (h : Ring F hb w 0 old u r D L) (hu : 0 < u) (hu50 : u ≤ 50) :
    Calls Try.prog 20 #[.pointer (some ⟨hb, 0, none⟩)] w fun e w' => e = .returned (.tuple #[]) ∧ Ring F hb w' 0 ((old + 1) % 50) (u - 1) r D (L.drop 1) ∧ OnlyAt (fun z => z = hb) w w' := by
  have h50 := h.old50
  have C := Lib.hid (empty_raw w 0 1 L h (by decide) (by decide) (fun i g hi hg => ⟨by omega, hg⟩) h.len)
  have hw1 : IntKind.i64.wrap ((old : Int) + 1) = (old : Int) + 1 := by rw [IntWalk.i64_in _ (by omega)]
  have hw3 : Int.tmod ((old : Int) + 1) 50 = (((old + 1) % 50 : Nat) : Int) := by rw [Int.tmod_eq_emod_of_nonneg (by omega)]; omega
  have hw2 : IntKind.i64.wrap (((old + 1) % 50 : Nat) : Int) = (((old + 1) % 50 : Nat) : Int) := by rw [IntWalk.i64_in _ (by omega)]
  have hw4 : IntKind.i64.wrap ((u : Int) - 1) = ((u - 1 : Nat) : Int) := by rw [IntWalk.i64_in _ (by omega)]; omega
  clear h
  go_enter Try.func20, Try.ntmps20
  go_wp2_with fail
  refine C.out.mono ?_
  rintro e w1 ⟨rfl, h1, ho1⟩
  have H2 := Lib.hid h1.olds
  have HO2 := Lib.hid (ho1.trans (ring_only w1 hb 50 (.int .i64 (((old + 1) % 50 : Nat) : Int))))
  obtain ⟨⟨c0, c1, c2, c3⟩, cf, -⟩ := h1.facts
  generalize hj : (old + 1) % 50 = j at *
  clear h1 ho1
  go_wp2_with fail
  go_end0
  exact ⟨rfl, by rw [hj]; exact H2.out.undos (u - 1), HO2.out.trans (ring_only _ _ _ _)⟩
end Go.Proofs.Ytibccdbmdajijaa
