/- follow: down to a node. -/
import Derived.Test.YtfdnlbeancdajaaTChange
import Derived.Deep.LoopGhost
namespace Go.Proofs.Ytfdnlbeancdajaa.Avl
open Go Go.RowKit

section
variable {σ : Type} {kl : Nat} {fl cl : Array Value} {TL : Nat → Prop} {St : σ → World → Prop} {step : σ → AT → Way × σ} {Ok : AT → σ → Prop}

theorem node_side (W : Way) (h : W ≠ .h) (lp rp : Option Addr) : ∃ q : Option Addr, q = (match W with | .l => lp | .r => rp | .h => none) := ⟨_, rfl⟩

set_option maxRecDepth 100000 in
set_option maxHeartbeats 4000000 in
theorem follow_any (hL : Leads kl fl cl TL St Ok step) (el : ∀ args w, (callFunc kl args).run Try.prog w = .ok (.enter kl args) w)
    (okl : ∀ s l x r, Ok (.node l x r) s → (step s (.node l x r)).1 = .l → Ok l (step s (.node l x r)).2) (okr : ∀ s l x r, Ok (.node l x r) s → (step s (.node l x r)).1 = .r → Ok r (step s (.node l x r)).2)
    {w : World} {p : Option Addr} {t : AT} {F : List Nat} {s : σ} (hl : LiesT w p t F) (hT : ∀ z ∈ F, ¬ TL z) (hS : St s w) (hO : Ok t s) (hc : t.cnt ≤ 1000000) (ht : t.tot ≤ 1000000000000000000) :
    Calls Try.prog 61 #[.pointer p, .func (.func kl) fl cl] w fun e w' => ∃ q G, e = .returned (.pointer q) ∧ LiesT w' q (fol step t s).2 G ∧ (∀ z ∈ G, z ∈ F) ∧ St (fol step t s).1 w' ∧ OnlyAt TL w w' := by
  have HL := Lib.hid hl
  have HT := Lib.hid hT
  have HS := Lib.hid hS
  have HO := Lib.hid hO
  have HB := Lib.hid (And.intro hc ht)
  have HLL := Lib.hid hL
  have HK := Lib.hid (And.intro okl okr)
  clear hl hT hS hO hc ht hL okl okr
  go_enter Try.func61, Try.ntmps61
  go_wp2_with fail
  go_loopg [0] t.cnt (fun m pv wr => ∃ (u : AT) (q : Option Addr) (G : List Nat) (s' : σ), u.cnt ≤ m ∧ pv = .pointer q ∧ Hid (LiesT wr q u G) ∧ Hid (OnlyAt TL w wr) ∧ Hid (St s' wr) ∧
    Hid (fol step u s' = fol step t s ∧ (∀ z ∈ G, z ∈ F) ∧ Ok u s' ∧ u.cnt ≤ t.cnt ∧ u.tot ≤ t.tot))
  case atStart => exact ⟨t, p, F, s, Nat.le_refl _, rfl, HL.out, OnlyAt.refl _ _, HS.out, ⟨rfl, fun _ h => h, HO.out, Nat.le_refl _, Nat.le_refl _⟩⟩
  case round =>
    obtain ⟨u, q, G, s', hm, rfl, HU, HOr, HSr, HE⟩ := hrel
    cases q with
    | none =>
      obtain rfl := (HU.out.none_iff).1 rfl
      go_wp2_with fail
      go_ret
      obtain ⟨e1, e2, -⟩ := HE.out
      rw [fol] at e1
      exact ⟨none, G, rfl, by rw [← e1]; exact HU.out, e2, by rw [← e1]; exact HSr.out, HOr.out⟩
    | some a =>
      obtain ⟨l, x, r, b, lp, rp, Fl, Fr, rfl, rfl, hG, hb, hl, hr, ⟨nl, nr⟩, ap⟩ := HU.out.of_some
      have hn : AtNode wr b lp rp x l r Fl Fr := ⟨⟨_, _, _, hb⟩, hl, hr, nl, nr, ap⟩
      obtain ⟨c0, c1, -, -⟩ := hn.cells
      obtain ⟨e1, e2, e3, e4, e5⟩ := HE.out
      have hbT : ¬ TL b := HT.out b (e2 b (by rw [hG]; simp))
      have CL := Lib.hid (HLL.out.call s' wr b lp rp x l r Fl Fr hn HSr.out e3 (fun z hz => HT.out z (e2 z (by rw [hG]; exact hz))) (Nat.le_trans e4 HB.out.1) (Nat.le_trans e5 HB.out.2))
      have HN := Lib.hid hn
      have HF := Lib.hid hG
      clear hb hl hr nl nr ap hn hG e1 e2 e3 e4 e5
      cases hw : (step s' (.node l x r)).1 with
      | l =>
        rw [hw] at CL
        go_wp2_with fail
        refine CL.out.mono ?_
        rintro e w2 ⟨rfl, hs2, ho2⟩
        have HS2 := Lib.hid hs2
        have HO2 := Lib.hid ho2
        clear hs2 ho2
        simp only [Way.num]
        have c2 := only_cell HO2.out c0 hbT
        go_wp2_with fail
        go_roundg l.cnt
        case measure => have := HU.out; simp only [AT.cnt] at hm; omega
        case rel =>
          obtain ⟨e1, e2, e3, e4, e5⟩ := HE.out
          refine ⟨l, lp, Fl, _, Nat.le_refl _, rfl, HN.out.left.only HO2.out (fun z hz => HT.out z (e2 z (by rw [HF.out]; simp [hz]))), HOr.out.trans HO2.out, HS2.out, ⟨?_, fun z hz => e2 z (by rw [HF.out]; simp [hz]), HK.out.1 _ _ _ _ e3 hw, ?_, ?_⟩⟩
          · rw [← e1, fol_l hw]
          · simp only [AT.cnt] at e4; omega
          · simp only [AT.tot] at e5; omega
      | r =>
        rw [hw] at CL
        go_wp2_with fail
        refine CL.out.mono ?_
        rintro e w2 ⟨rfl, hs2, ho2⟩
        have HS2 := Lib.hid hs2
        have HO2 := Lib.hid ho2
        clear hs2 ho2
        simp only [Way.num]
        have c2 := only_cell HO2.out c1 hbT
        go_wp2_with fail
        go_roundg r.cnt
        case measure => have := HU.out; simp only [AT.cnt] at hm; omega
        case rel =>
          obtain ⟨e1, e2, e3, e4, e5⟩ := HE.out
          refine ⟨r, rp, Fr, _, Nat.le_refl _, rfl, HN.out.right.only HO2.out (fun z hz => HT.out z (e2 z (by rw [HF.out]; simp [hz]))), HOr.out.trans HO2.out, HS2.out, ⟨?_, fun z hz => e2 z (by rw [HF.out]; simp [hz]), HK.out.2 _ _ _ _ e3 hw, ?_, ?_⟩⟩
          · rw [← e1, fol_r hw]
          · simp only [AT.cnt] at e4; omega
          · simp only [AT.tot] at e5; omega
      | h =>
        rw [hw] at CL
        go_wp2_with fail
        refine CL.out.mono ?_
        rintro e w2 ⟨rfl, hs2, ho2⟩
        have HS2 := Lib.hid hs2
        have HO2 := Lib.hid ho2
        clear hs2 ho2
        simp only [Way.num]
        go_wp2_with fail
        go_ret
        obtain ⟨e1, e2, e3, e4, e5⟩ := HE.out
        rw [fol_h hw] at e1
        exact ⟨some ⟨b, 0, none⟩, G, rfl, by rw [← e1]; exact HU.out.only HO2.out (fun z hz => HT.out z (e2 z hz)), e2, by rw [← e1]; exact HS2.out, HOr.out.trans HO2.out⟩
end
end Go.Proofs.Ytfdnlbeancdajaa.Avl
