/- Push of a history in a ring; all that is asked of a history's calls. -/
import Derived.Test.YtibccdbmdajijaaJTurn
namespace Go.Proofs.Ytibccdbmdajijaa
open Go Go.RowKit

set_option maxRecDepth 100000 in
set_option maxHeartbeats 1000000 in
theorem hist_push_none (F : Nat → Prop) (w : World) (a : Addr) (D : Nat) (us rs : List (List Ed)) (v : Value) (h : RingH F w a D us rs) (hv : RowAt w v []) :
    Calls Try.prog 11 #[.pointer (some a), v] w fun e w' => e = .returned (.tuple #[]) ∧ HGoes RingH F w w' a D us rs (fun _ => False) := by
  have HG := Lib.hid (show HGoes RingH F w w a D us rs (fun _ => False) from ⟨F, h, OnlyAt.refl _ _, fun k hk => ⟨.inl hk, fun h => h⟩⟩)
  clear h
  obtain ⟨⟨_, ⟨rfl, _⟩ | ⟨ad, cap, rfl, _⟩⟩, _⟩ := hv
  · go_enter Try.func11, Try.ntmps11
    go_wp2_with fail
    refine bodyPost_ret (results_none rfl _ _ _) rfl ?_
    exact ⟨rfl, HG.out⟩
  · simp only [List.length_nil]
    go_enter Try.func11, Try.ntmps11
    go_wp2_with fail
    refine bodyPost_ret (results_none rfl _ _ _) rfl ?_
    exact ⟨rfl, HG.out⟩

/-- What is behind the store of a group, of the number of groups. -/
theorem push_fin {F : Nat → Prop} {hb old u D : Nat} {w w1 w4 : World} {L : List (List Ed)} {v : Value} {g : List Ed} (h : Ring F hb w4 0 old u 0 D L) (hu : L.length = u) (huD : u < D) (hD : D ≤ 50) (hF : F hb) (hlt : ∀ k, F k → k < w.heap.size) (ho : OnlyAt (fun k => k = hb) w w1) (hb4 : Below w1.heap.size w1 w4)
    (hown : w4.ownsRow w1.heap.size 31 3 v g.length (eCells g)) (hg : 0 < g.length ∧ g.length ≤ 20) :
    HGoes RingH F w ((w4.setCell ⟨hb, (old + u) % 50, none⟩ v).setCell ⟨hb, 51, none⟩ (.int .i64 ((u : Int) + 1))) ⟨hb, 0, none⟩ D (L ++ [g]) [] (fun _ => False) := by
  subst hu
  have hs1 := ho.size
  have hs4 := hb4.size
  have hp := h.put (F' := fun k => F k ∨ v.ownBlock = some k) (v := v) (g := g) (by omega) (fun k hk => .inl hk) (fun k hk => hk.elim (h.lt k) (fun e => (hown.lt k e).2)) ⟨⟨Vals.own hown, fun _ b hb => (hown.lt b hb).2⟩, hg, fun b hv => ⟨.inr hv, by have := (hown.lt b hv).1; have := hlt hb hF; omega⟩⟩
  refine ⟨fun k => F k ∨ v.ownBlock = some k, ⟨hb, old, rfl, ?_, by rw [List.length_append, List.length_singleton]; simp; omega, hD⟩, ?_, fun k hk => ⟨hk.imp id (fun e => by have := (hown.lt k e).1; omega), fun e => e⟩⟩
  · have := hp.undos (L.length + 1)
    simpa using this
  · exact ((ho.mono fun k hk => hk ▸ hF).trans (OnlyAt.of_below hb4)).trans ((ring_only w4 hb _ v).trans (ring_only _ hb 51 _) |>.mono fun k hk => hk ▸ hF)

set_option maxRecDepth 100000 in
set_option maxHeartbeats 4000000 in
theorem hist_push_some (F : Nat → Prop) (w : World) (a : Addr) (D : Nat) (us rs : List (List Ed)) (ad : Addr) (cap : Nat) (g : List Ed) (h : RingH F w a D us rs) (hv : RowAt w (.slice (some ad) g.length cap) g) (hn : ¬ F ad.block) (h0 : 0 < g.length) (h20 : g.length ≤ 20) :
    Calls Try.prog 11 #[.pointer (some a), .slice (some ad) g.length cap] w fun e w' => e = .returned (.tuple #[]) ∧ HGoes RingH F w w' a D ((us ++ [g]).drop (us.length + 1 - D)) [] (fun _ => False) := by
  have HG := Lib.hid (show RingH F w a D us rs from h)
  obtain ⟨hb, old, rfl, hr, hlen, hD⟩ := h
  obtain ⟨⟨c0, c1, c2, c3⟩, cf, -⟩ := hr.facts
  have hgI : (0 : Int) < g.length := by omega
  have hgE : ((g.length : Int) == 0) = false := by rw [beq_eq_false_iff_ne]; omega
  rcases Nat.eq_zero_or_pos D with hD0 | hDp
  · subst hD0
    have hu0 : us = [] := List.eq_nil_of_length_eq_zero (by omega)
    have hr0 : rs = [] := List.eq_nil_of_length_eq_zero (by omega)
    subst hu0 hr0
    clear hr hv
    go_enter Try.func11, Try.ntmps11
    go_wp2_with fail
    refine bodyPost_ret (results_none rfl _ _ _) rfl ?_
    exact ⟨rfl, F, HG.out, OnlyAt.refl _ _, fun k hk => ⟨.inl hk, fun h => h⟩⟩
  · have hDE : ((D : Int) == 0) = false := by rw [beq_eq_false_iff_ne]; omega
    have hF := hr.own
    have hlt := hr.lt
    have C1 := Lib.hid (forget_redo w hr (by rw [List.length_append, List.length_reverse]))
    rw [List.take_left] at C1
    have HV := Lib.hid hv
    have HN := Lib.hid (And.intro hn (And.intro hF hlt))
    have hnb : ad.block ≠ hb := fun e => hn (e ▸ hF)
    have H0 := Lib.hid (And.intro h0 h20)
    clear hr hv hn hF hlt h0 h20
    go_enter Try.func11, Try.ntmps11
    go_wp2_with fail
    refine C1.out.mono ?_
    rintro e w1 ⟨rfl, h1, ho1⟩
    obtain ⟨⟨d0, d1, d2, d3⟩, df, -⟩ := h1.facts
    have H1 := Lib.hid (And.intro h1 ho1)
    clear h1 ho1 c0 c1 c2 c3 cf C1
    have hI : (0 : Int) ≤ us.length := by omega
    go_wp2_with fail
    by_cases hE : us.length = D
    · have hEb : ((us.length : Int) == (D : Int)) = true := by simp; omega
      have C2 := Lib.hid (fun n => forget_oldest (w1.drewN n) (H1.out.1.keep (below_keeps (below_drewN (Below.refl _ _) n))) (by omega) (by omega))
      go_quiet (fail)
      go_wp2_with fail
      refine (C2.out nq).mono ?_
      rintro e w2 ⟨rfl, h2, ho2⟩
      have HL := Lib.hid (show us.drop 1 ++ [g] = (us ++ [g]).drop (us.length + 1 - D) by
        rw [show us.length + 1 - D = 1 by omega]
        cases us with
        | nil => simp at hE; omega
        | cons x xs => rfl)
      have HO2 := Lib.hid ((H1.out.2.trans (OnlyAt.of_below (below_drewN (Below.refl _ _) nq))).trans ho2)
      have HM := Lib.hid (And.intro h2 (And.intro (show (us.drop 1).length = us.length - 1 by rw [List.length_drop]) (show us.length - 1 < D by omega)))
      clear d0 d1 d2 d3 df C2 ho2
      generalize us.length - 1 = u2 at h2 HM
      generalize us.drop 1 = L2 at h2 HM HL
      generalize (old + 1) % 50 = o2 at h2 HM
      have hI2 : (0 : Int) ≤ u2 := by omega
      obtain ⟨⟨d0, d1, d2, d3⟩, df, -⟩ := h2.facts
      clear h2
      go_wp2_with fail
      have hU50 : u2 < 50 := by have := HM.out.2.2; omega
      have hwU : IntKind.i64.wrap (((u2 : Nat) : Int) + 1) = ((u2 : Nat) : Int) + 1 := by rw [IntWalk.i64_in _ (by omega)]
      refine (place_raw w2 hb o2 (u2) HM.out.1.old50 (by omega) HM.out.1.facts.1.1).mono ?_
      rintro e w3 ⟨rfl, n3, rfl⟩
      have ho3 := HO2.out.trans (OnlyAt.of_below (below_drewN (Below.refl _ _) n3))
      have h3 := HM.out.1.keep (below_keeps (below_drewN (Below.refl _ _) n3))
      have C3 := Lib.hid (clone_any _ _ g (HV.out.keep ho3.size (fun b _ hvb => ho3.block b (HV.out.2 H0.out.1 b hvb) (by cases hvb; exact hnb))) H0.out.1 H0.out.2)
      have H3 := Lib.hid (And.intro h3 ho3)
      have hj50 : (o2 + (u2)) % 50 < 50 := Nat.mod_lt _ (by decide)
      clear h3 ho3
      generalize hj : (o2 + (u2)) % 50 = j at *
      go_wp2_with fail
      refine C3.out.mono ?_
      rintro e w4 ⟨v', rfl, hown, hb4⟩
      have h4 := H3.out.1.keep (below_keeps hb4)
      obtain ⟨q, cq, rfl, -⟩ := own_open hown H0.out.1
      have hcl : Ring F hb (w4.setCell ⟨hb, j, none⟩ (.slice (some ⟨q, 0, none⟩) g.length cq)) 0 (o2) (u2) 0 D (L2) := by
        rw [← hj]
        exact h4.clear hU50 (Nat.le_refl _) (fun i g _ hi => ⟨by have := (List.getElem?_eq_some_iff.1 hi).1; have := HM.out.2.1; omega, hi⟩) h4.len
      obtain ⟨⟨-, k1, -, -⟩, kf, -⟩ := hcl.facts
      obtain ⟨-, cf, ca⟩ := h4.facts
      obtain ⟨x, cx⟩ := ca j (by omega)
      have H4 := Lib.hid (And.intro h4 (And.intro hown hb4))
      clear h4 hown hb4 hcl ca C3
      go_wp2_with fail
      go_end0
      refine ⟨rfl, ?_⟩
      have HP := push_fin H4.out.1 HM.out.2.1 HM.out.2.2 hD HN.out.2.1 HN.out.2.2 H3.out.2 H4.out.2.2 H4.out.2.1 H0.out
      rw [hj, HL.out] at HP
      exact HP
    · have hEb : ((us.length : Int) == (D : Int)) = false := by simp; omega
      go_quiet (fail)
      go_wp2_with fail
      have HL := Lib.hid (show us ++ [g] = (us ++ [g]).drop (us.length + 1 - D) by rw [show us.length + 1 - D = 0 by omega, List.drop_zero])
      have HO2 := Lib.hid (H1.out.2.trans (OnlyAt.of_below (below_drewN (Below.refl _ _) nq)))
      have HM := Lib.hid (And.intro (H1.out.1.keep (w' := w1.drewN nq) (below_keeps (below_drewN (Below.refl _ _) nq))) (And.intro (Nat.le_refl us.length) (show us.length < D by omega)))
      clear d0 d1 d2 d3 df H1
      generalize w1.drewN nq = wd at *
      have hU50 : us.length < 50 := by have := HM.out.2.2; omega
      have hwU : IntKind.i64.wrap (((us.length : Nat) : Int) + 1) = ((us.length : Nat) : Int) + 1 := by rw [IntWalk.i64_in _ (by omega)]
      refine (place_raw wd hb old (us.length) HM.out.1.old50 (by omega) HM.out.1.facts.1.1).mono ?_
      rintro e w3 ⟨rfl, n3, rfl⟩
      have ho3 := HO2.out.trans (OnlyAt.of_below (below_drewN (Below.refl _ _) n3))
      have h3 := HM.out.1.keep (below_keeps (below_drewN (Below.refl _ _) n3))
      have C3 := Lib.hid (clone_any _ _ g (HV.out.keep ho3.size (fun b _ hvb => ho3.block b (HV.out.2 H0.out.1 b hvb) (by cases hvb; exact hnb))) H0.out.1 H0.out.2)
      have H3 := Lib.hid (And.intro h3 ho3)
      have hj50 : (old + (us.length)) % 50 < 50 := Nat.mod_lt _ (by decide)
      clear h3 ho3
      generalize hj : (old + (us.length)) % 50 = j at *
      go_wp2_with fail
      refine C3.out.mono ?_
      rintro e w4 ⟨v', rfl, hown, hb4⟩
      have h4 := H3.out.1.keep (below_keeps hb4)
      obtain ⟨q, cq, rfl, -⟩ := own_open hown H0.out.1
      have hcl : Ring F hb (w4.setCell ⟨hb, j, none⟩ (.slice (some ⟨q, 0, none⟩) g.length cq)) 0 (old) (us.length) 0 D (us) := by
        rw [← hj]
        exact h4.clear hU50 (Nat.le_refl _) (fun i g _ hi => ⟨by have := (List.getElem?_eq_some_iff.1 hi).1; omega, hi⟩) h4.len
      obtain ⟨⟨-, k1, -, -⟩, kf, -⟩ := hcl.facts
      obtain ⟨-, cf, ca⟩ := h4.facts
      obtain ⟨x, cx⟩ := ca j (by omega)
      have H4 := Lib.hid (And.intro h4 (And.intro hown hb4))
      clear h4 hown hb4 hcl ca C3
      go_wp2_with fail
      go_end0
      refine ⟨rfl, ?_⟩
      have HP := push_fin H4.out.1 rfl HM.out.2.2 hD HN.out.2.1 HN.out.2.2 H3.out.2 H4.out.2.2 H4.out.2.1 H0.out
      rw [hj, HL.out] at HP
      exact HP

/-- All that is asked of a history's calls. -/
theorem hist_says : SaysH RingH := by
  refine ⟨hist_new, fun F w a D us rs v xs h hv hn h20 => ?_, hist_undo_no, hist_undo, hist_redo_no, hist_redo, hist_len, RingH.firm.lt, RingH.firm.frame, fun F w a D us rs ⟨_, _, _, _, h1, h2⟩ => ⟨h1, h2⟩⟩
  by_cases h0 : xs.length = 0
  · have hx : xs = [] := List.eq_nil_of_length_eq_zero h0
    subst hx
    exact hist_push_none F w a D us rs v h hv
  · have hU : pushU D us xs = (us ++ [xs]).drop (us.length + 1 - D) := by unfold pushU; rw [if_neg h0]
    have hR : pushR rs xs = [] := by unfold pushR; rw [if_neg h0]
    rw [hU, hR]
    obtain ⟨_, ⟨_, hz⟩ | ⟨ad, cap, rfl, _⟩⟩ := hv.1
    · omega
    · exact hist_push_some F w a D us rs ad cap xs h hv (hn _ rfl) (by omega) h20
end Go.Proofs.Ytibccdbmdajijaa
