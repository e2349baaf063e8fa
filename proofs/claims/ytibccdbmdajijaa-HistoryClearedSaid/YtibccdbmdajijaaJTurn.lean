/- Undo and Redo of a history in a ring, where there is a group. -/
import Derived.Test.YtibccdbmdajijaaJCalls
namespace Go.Proofs.Ytibccdbmdajijaa
open Go Go.RowKit

theorem row_keeps {w w' : World} {B e size n : Nat} {v : Value} {xs : List Value} (h : w.ownsRow B e size v n xs) (hk : ∀ g, v.ownBlock = some g → w'.heap[g]? = w.heap[g]?) : w'.ownsRow B e size v n xs := by
  refine ⟨h.1, ?_⟩
  rcases h.2 with hn | ⟨g, cap, cur, rfl, hgb, hgg, rest⟩
  · exact .inl hn
  · exact .inr ⟨g, cap, cur, rfl, hgb, (hk g rfl).trans hgg, rest⟩
theorem row_lower {w : World} {B B' e size n : Nat} {v : Value} {xs : List Value} (h : w.ownsRow B e size v n xs) (hB : B' ≤ B) : w.ownsRow B' e size v n xs := by
  refine ⟨h.1, ?_⟩
  rcases h.2 with hn | ⟨g, cap, cur, rfl, hgb, rest⟩
  · exact .inl hn
  · exact .inr ⟨g, cap, cur, rfl, Nat.le_trans hB hgb, rest⟩

set_option maxRecDepth 100000 in
set_option maxHeartbeats 1000000 in
theorem hist_undo (F : Nat → Prop) (w : World) (a : Addr) (D : Nat) (us : List (List Ed)) (g : List Ed) (rs : List (List Ed)) (h : RingH F w a D (us ++ [g]) rs) :
    Calls Try.prog 13 #[.pointer (some a)] w fun e w' => ∃ v, e = .returned (.tuple #[v, .bool true]) ∧ w'.ownsRow w.heap.size 31 3 v g.length (eCells g) ∧ HGoes RingH F w w' a D us (rs ++ [g]) (fun k => v.ownBlock = some k) := by
  obtain ⟨hb, old, rfl, hr, hlen, hD⟩ := h
  rw [List.length_append, List.length_singleton] at hlen hr
  have hLL : us ++ [g] ++ rs.reverse = us ++ (rs ++ [g]).reverse := by simp
  have hLg : (us ++ (rs ++ [g]).reverse)[us.length]? = some g := by simp
  rw [hLL] at hr
  obtain ⟨⟨c0, c1, c2, c3⟩, cf, -⟩ := hr.facts
  obtain ⟨w2, hw2⟩ : ∃ w2, w2 = (w.setCell ⟨hb, 51, none⟩ (.int .i64 us.length)).setCell ⟨hb, 52, none⟩ (.int .i64 ((rs.length : Int) + 1)) := ⟨_, rfl⟩
  have H2 : Hid (Ring F hb w2 0 old us.length (rs.length + 1) D (us ++ (rs ++ [g]).reverse)) := Lib.hid (by rw [hw2]; exact (hr.undos us.length).redos (rs.length + 1))
  have HO2 : Hid (OnlyAt (fun k => k = hb) w w2) := Lib.hid (by rw [hw2]; exact (ring_only w hb 51 _).trans (ring_only _ hb 52 _))
  have HS2 : Hid (w2.heap.size = w.heap.size) := Lib.hid (by rw [hw2]; simp [World.setCell])
  have HW := Lib.hid hw2
  have hI : (0 : Int) ≤ us.length := by omega
  have hI2 : (us.length : Int) + 1 + rs.length ≤ 50 := by omega
  have ne0 : (((us.length : Int) + 1) == 0) = false := by simp; omega
  have hw1 : IntKind.i64.wrap ((us.length : Int) + 1 - 1) = us.length := by rw [IntWalk.i64_in _ (by omega)]; omega
  have hw3 : IntKind.i64.wrap ((rs.length : Int) + 1) = (rs.length : Int) + 1 := by rw [IntWalk.i64_in _ (by omega)]
  have HR := Lib.hid hr
  clear hr hw2
  go_enter Try.func13, Try.ntmps13
  go_wp2_with fail
  rw [← HW.out]
  have h50 := H2.out.old50
  refine (place_raw w2 hb old us.length h50 (by omega) H2.out.facts.1.1).mono ?_
  rintro e w3 ⟨rfl, n, rfl⟩
  have H3 := H2.out.keep (below_keeps (below_drewN (Below.refl _ _) n))
  obtain ⟨v, hv, hG⟩ := H3.at (Nat.zero_le _) hLg
  have C := Lib.hid (clone_any (w2.drewN n) v g hG.1 hG.2.1.1 hG.2.1.2)
  have HH3 := Lib.hid (And.intro H3 hG)
  clear H3 hG
  generalize hj : (old + us.length) % 50 = j at *
  go_wp2_with fail
  refine C.out.mono ?_
  rintro e w4 ⟨v', rfl, hown, hb4⟩
  have HF := Lib.hid (And.intro hown hb4)
  clear hown hb4 C
  go_wp2_with fail
  go_ret2
  have hsz : (w2.drewN n).heap.size = w.heap.size := HS2.out
  refine ⟨v', rfl, row_lower HF.out.1 (by omega), F, ⟨hb, old, rfl, ?_, by rw [List.length_append, List.length_singleton]; omega, hD⟩, ?_, fun k hk => ⟨.inl hk, fun e => ?_⟩⟩
  · rw [List.length_append, List.length_singleton]
    exact HH3.out.1.keep (below_keeps HF.out.2)
  · exact ((HO2.out.mono fun k hk => hk ▸ HR.out.own).trans (OnlyAt.of_below (below_drewN (Below.refl _ _) n))).trans (OnlyAt.of_below HF.out.2)
  · have h1 := HH3.out.1.lt k hk
    have h2 := (HF.out.1.lt k e).1
    omega

set_option maxRecDepth 100000 in
set_option maxHeartbeats 1000000 in
theorem hist_redo (F : Nat → Prop) (w : World) (a : Addr) (D : Nat) (us : List (List Ed)) (g : List Ed) (rs : List (List Ed)) (h : RingH F w a D us (rs ++ [g])) :
    Calls Try.prog 16 #[.pointer (some a)] w fun e w' => ∃ v, e = .returned (.tuple #[v, .bool true]) ∧ w'.ownsRow w.heap.size 31 3 v g.length (eCells g) ∧ HGoes RingH F w w' a D (us ++ [g]) rs (fun k => v.ownBlock = some k) := by
  obtain ⟨hb, old, rfl, hr, hlen, hD⟩ := h
  rw [List.length_append, List.length_singleton] at hlen hr
  have hLL : us ++ [g] ++ rs.reverse = us ++ (rs ++ [g]).reverse := by simp
  have hLg : (us ++ (rs ++ [g]).reverse)[us.length]? = some g := by simp
  obtain ⟨⟨c0, c1, c2, c3⟩, cf, -⟩ := hr.facts
  have hI : (0 : Int) ≤ us.length := by omega
  have hI3 : (0 : Int) ≤ rs.length := by omega
  have hI2 : (us.length : Int) + 1 + rs.length ≤ 50 := by omega
  have ne0 : (((rs.length : Int) + 1) == 0) = false := by simp; omega
  have hw1 : IntKind.i64.wrap ((rs.length : Int) + 1 - 1) = rs.length := by rw [IntWalk.i64_in _ (by omega)]; omega
  have hw3 : IntKind.i64.wrap ((us.length : Int) + 1) = (us.length : Int) + 1 := by rw [IntWalk.i64_in _ (by omega)]
  have HR := Lib.hid hr
  clear hr
  go_enter Try.func16, Try.ntmps16
  go_wp2_with fail
  have h50 := HR.out.old50
  refine (place_raw w hb old us.length h50 (by omega) c0).mono ?_
  rintro e w3 ⟨rfl, n, rfl⟩
  have H3 := HR.out.keep (below_keeps (below_drewN (Below.refl _ _) n))
  obtain ⟨v, hv, hG⟩ := H3.at (Nat.zero_le _) hLg
  have C := Lib.hid (clone_any (w.drewN n) v g hG.1 hG.2.1.1 hG.2.1.2)
  have HH3 := Lib.hid (And.intro H3 hG)
  clear H3 hG c0 c1 c2 c3 cf
  generalize hj : (old + us.length) % 50 = j at *
  go_wp2_with fail
  refine C.out.mono ?_
  rintro e w4 ⟨v', rfl, hown, hb4⟩
  have H4 := HH3.out.1.keep (below_keeps hb4)
  obtain ⟨⟨c0, c1, c2, c3⟩, cf, -⟩ := H4.facts
  have HF := Lib.hid (And.intro hown (And.intro hb4 H4))
  clear hown hb4 C H4
  go_wp2_with fail
  go_ret2
  have hsz : (w.drewN n).heap.size = w.heap.size := rfl
  have hown := HF.out.1
  have hF4 := HF.out.2.2.lt
  have hhb := HR.out.lt hb HR.out.own
  obtain ⟨w5, hw5⟩ : ∃ w5, w5 = (w4.setCell ⟨hb, 51, none⟩ (.int .i64 ((us.length : Int) + 1))).setCell ⟨hb, 52, none⟩ (.int .i64 rs.length) := ⟨_, rfl⟩
  rw [← hw5]
  have ho5 : OnlyAt (fun k => k = hb) w4 w5 := by rw [hw5]; exact (ring_only w4 hb 51 _).trans (ring_only _ hb 52 _)
  refine ⟨v', rfl, row_keeps (row_lower hown (by omega)) (fun b hvb => ho5.block b (hown.lt b hvb).2 (by have := (hown.lt b hvb).1; omega)), F, ⟨hb, old, rfl, ?_, by rw [List.length_append, List.length_singleton]; omega, hD⟩, ?_, fun k hk => ⟨.inl hk, fun e => ?_⟩⟩
  · rw [List.length_append, List.length_singleton, hLL, hw5]
    exact (HF.out.2.2.undos (us.length + 1)).redos rs.length
  · exact ((OnlyAt.of_below (below_drewN (Below.refl _ _) n)).trans (OnlyAt.of_below HF.out.2.1)).trans (ho5.mono fun k hk => hk ▸ HR.out.own)
  · have h1 := HR.out.lt k hk
    have h2 := (hown.lt k e).1
    omega
end Go.Proofs.Ytibccdbmdajijaa
