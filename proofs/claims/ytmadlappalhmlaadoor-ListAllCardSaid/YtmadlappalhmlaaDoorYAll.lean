/- Stage 12's law ListAll: few by contract; the law out of what is asked of list's calls. -/
import Derived.Test.YtmadlappalhmlaaDoorYText
namespace Go.Proofs.YtmadlappalhmlaaDoor
open Go Go.RowKit Go.Lib

/-- What few says. -/
def FewL (es : List En) : Prop := es.length ≤ 40 ∧ ∀ e ∈ es, e.word.size ≤ 100 ∧ e.flags.length ≤ 60
def FewLE (e : Ending) (es : List En) : Prop := ∃ b, e = .returned (.bool b) ∧ (b = true → FewL es)
theorem FewL.few {es : List En} (h : FewL es) : FewE es :=
  ⟨by have := h.1; omega, fun e he => by have := (h.2 e he).1; omega, fun e he => by have := (h.2 e he).2; omega⟩

set_option maxRecDepth 100000 in
set_option maxHeartbeats 1000000 in
theorem efew_any (w : World) (v : Value) (es : List En) (h : EntsAt w v es) :
    Calls Tryd.prog 8 #[v] w fun e w' => FewLE e es ∧ w' = w := by
  obtain ⟨A, cap, rfl⟩ := ents_form h
  have hA := ents_open h
  obtain ⟨n, hn⟩ : ∃ n, n = es.length := ⟨_, rfl⟩
  rw [← hn] at hA ⊢
  have HA := Lib.hid hA
  have HN := Lib.hid hn
  clear h hA hn
  go_enter Tryd.func8, Tryd.ntmps8
  go_wp2_with fail
  go_loopg [3] 41 (fun g i wr => ∃ k : Nat, k + g = 41 ∧ i = .int .i64 k ∧ k ≤ n ∧ k ≤ 40 ∧ w = wr ∧ Hid (∀ j e, j < k → es[j]? = some e → e.word.size ≤ 100 ∧ e.flags.length ≤ 60))
  case atStart => exact ⟨0, by omega, rfl, Nat.zero_le _, by omega, rfl, Lib.hid fun j e hj => absurd hj (Nat.not_lt_zero _)⟩
  case round =>
    obtain ⟨k, hk, rfl, hkn, hk40, rfl, HP⟩ := hrel
    have hk0 : (0 : Int) ≤ k := by omega
    have hcs : (k < n ∧ k < 40) ∨ (¬ k < n) ∨ (k < n ∧ ¬ k < 40) := by omega
    rcases hcs with ⟨h1, h2⟩ | h1 | ⟨h1, h2⟩
    · have d1 : (k : Int) < n := by omega
      have d2 : (k : Int) < 40 := by omega
      obtain ⟨e, he⟩ : ∃ e, es[k]? = some e := ⟨_, List.getElem?_eq_getElem (by have := HN.out; omega)⟩
      obtain ⟨b, off, rfl, hb, hnc, x0, FA, fc, x1, -⟩ := HA.out k e he
      have hnc2 : (n : Int) ≤ cap := by omega
      obtain ⟨W, hW⟩ : ∃ W, W = e.word := ⟨_, rfl⟩
      obtain ⟨m, hm⟩ : ∃ m, m = e.flags.length := ⟨_, rfl⟩
      rw [← hW] at x0
      rw [← hm] at x1
      have HE := Lib.hid (And.intro he (And.intro hW hm))
      clear he hW hm hb hnc h1 h2
      by_cases c1 : 100 < W.size
      · have d3 : (100 : Int) < W.size := by omega
        clear c1
        go_wp2_with fail
        go_ret
        exact ⟨⟨_, rfl, fun e => (by cases e)⟩, rfl⟩
      have d3 : ¬ (100 : Int) < W.size := by omega
      by_cases c2 : 60 < m
      · have d4 : (60 : Int) < m := by omega
        clear c1 c2
        go_wp2_with fail
        go_ret
        exact ⟨⟨_, rfl, fun e => (by cases e)⟩, rfl⟩
      have d4 : ¬ (60 : Int) < m := by omega
      have HP2 := Lib.hid (show ∀ j e, j < k + 1 → es[j]? = some e → e.word.size ≤ 100 ∧ e.flags.length ≤ 60 from fun j x hj hx => by
        rcases Nat.lt_or_ge j k with h | h
        · exact HP.out j x h hx
        · obtain rfl : j = k := by omega
          rw [HE.out.1] at hx
          rw [← Option.some.inj hx, ← HE.out.2.1, ← HE.out.2.2]
          omega)
      clear c1 c2
      go_wp2_with fail
      go_roundg (gk - 1)
      case measure => omega
      case rel => exact ⟨k + 1, by omega, by go_num, by omega, by omega, rfl, HP2⟩
    · have d1 : ¬ (k : Int) < n := by omega
      have hn40 : (n : Int) ≤ 40 := by omega
      have HF := Lib.hid (show FewL es from ⟨by have := HN.out; omega, fun e he => by
        obtain ⟨j, hj, hje⟩ := List.getElem_of_mem he
        exact HP.out j e (by have := HN.out; omega) (by rw [List.getElem?_eq_getElem hj, hje])⟩)
      clear h1
      go_wp2_with fail
      go_ret
      exact ⟨⟨_, rfl, fun _ => HF.out⟩, rfl⟩
    · have d1 : (k : Int) < n := by omega
      have d2 : ¬ (k : Int) < 40 := by omega
      have d3 : ¬ (n : Int) ≤ 40 := by omega
      clear h1 h2
      go_wp2_with fail
      go_ret
      exact ⟨⟨_, rfl, fun e => (by cases e)⟩, rfl⟩

variable {T : World → Prop}
set_option maxRecDepth 100000 in
set_option maxHeartbeats 4000000 in
theorem eall_law (S : SaysL T) (w : World) (hT : T w) (s : ByteArray) (v : Value) (es : List En) (h : EntsAt w v es) :
    Calls Tryd.prog 3 #[.string s, v] w fun e w' => e = .returned (.bool true) ∧ Below w.heap.size w w' := by
  have HT := Lib.hid (fun wx (hb : Below w.heap.size w wx) => S.kept w wx hT hb)
  have AW := Lib.hid (fun wx (hb : Below w.heap.size w wx) => eawake_any S wx (S.kept w wx hT hb))
  have HS := Lib.hid S
  have CF := Lib.hid (efew_any w v es h)
  have HV := Lib.hid (fun wx (hb : Below w.heap.size w wx) => h.keep hb)
  obtain ⟨A, cap, rfl⟩ := ents_form h
  obtain ⟨n, hn⟩ : ∃ n, n = es.length := ⟨_, rfl⟩
  rw [← hn] at CF HV ⊢
  have HN := Lib.hid hn
  clear h hT S hn
  by_cases h2000 : 2000 < s.size
  · have d1 : (2000 : Int) < s.size := by omega
    clear h2000 CF
    go_enter Tryd.func3, Tryd.ntmps3
    go_wp2_with (go_at_call 9; refine (AW.out _ (Below.refl _ _)).mono ?_; rintro e w1 ⟨rfl, hb⟩; have HB1 := Lib.hid hb; clear hb)
    go_ret
    exact ⟨rfl, HB1.out⟩
  have d1 : ¬ (2000 : Int) < s.size := by omega
  go_enter Tryd.func3, Tryd.ntmps3
  go_wp2_with (go_at_call 8; refine CF.out.mono ?_; rintro e w1 ⟨⟨fb, rfl, hfb⟩, hwx⟩; have hwy := hwx.symm; clear hwx; subst hwy; have HFB := Lib.hid hfb; clear hfb)
  · clear CF
    refine (AW.out _ (Below.refl _ _)).mono ?_
    rintro e w2 ⟨rfl, hb⟩
    have HB1 := Lib.hid hb
    clear hb
    go_wp2_with fail
    go_ret
    exact ⟨rfl, HB1.out⟩
  · have hfb1 : fb = true := by simpa using (by assumption : (!fb) = false)
    subst hfb1
    clear CF
    have HFF := Lib.hid (HFB.out rfl).few
    have CP := Lib.hid (HS.out.parse w s (HT.out _ (Below.refl _ _)) (by omega))
    have CQ := Lib.hid (fun wx => eparse_any wx s (by omega))
    have HPF := Lib.hid (parseE_few (s := s) (by omega))
    obtain ⟨O, hO⟩ : ∃ O, O = parseE s := ⟨_, rfl⟩
    rw [← hO] at CP CQ HPF
    clear hO HFB h2000
    refine CP.out.mono ?_
    rintro e w2 ⟨vx, rfl, hax, hb2⟩
    have HX2 := Lib.hid (fun wx (hb : Below w2.heap.size w2 wx) => hax.keep hb)
    have HB2 := Lib.hid hb2
    clear hax hb2 CP
    go_wp2_with (go_at_call 11; refine (CQ.out _).mono ?_; rintro e w3 ⟨vy, rfl, hay, hb3⟩; have HY3 := Lib.hid (fun wx (hb : Below w3.heap.size w3 wx) => hay.keep hb); have HX3 := Lib.hid (fun wx (hb : Below w3.heap.size w3 wx) => HX2.out wx (hb3.trans (hb.mono hb3.size))); have HB3 := Lib.hid (HB2.out.trans (hb3.mono HB2.out.size)); clear hay hb3; have C3 := Lib.hid (esame_any w3 vx vy O.1 O.1 (HX3.out _ (Below.refl _ _)) (HY3.out _ (Below.refl _ _))); rw [decide_eq_true (rfl : O.1 = O.1)] at C3; obtain ⟨nn, hnn⟩ : ∃ k : Int, k = (O.2.1 : Nat) := ⟨_, rfl⟩; obtain ⟨cc, hcc⟩ : ∃ k : Int, k = O.2.2 := ⟨_, rfl⟩; rw [← hnn, ← hcc]; have q1 : (nn == nn) = true := (by simp); have q2 : (cc == cc) = true := (by simp); clear hnn hcc HX2 HX3)
    have HT3 := Lib.hid (show ∀ wx, Below w3.heap.size w3 wx → Below w.heap.size w wx from fun wx hb => HB3.out.trans (hb.mono HB3.out.size))
    obtain ⟨T1, hT1⟩ : ∃ T, T = textE es := ⟨_, rfl⟩
    obtain ⟨T2, hT2⟩ : ∃ T, T = textE O.1 := ⟨_, rfl⟩
    have D1 := Lib.hid (show ∀ wx, Below w3.heap.size w3 wx → Calls Tryd.prog 13 #[.slice A n cap] wx fun e w' => e = .returned (.string T1) ∧ Below w3.heap.size w3 w' from fun wx hb => by
      refine (hT1 ▸ HS.out.text wx _ es (HT.out _ (HT3.out _ hb)) (HV.out _ (HT3.out _ hb)) HFF.out).mono ?_
      rintro e w' ⟨rfl, hbb⟩
      exact ⟨rfl, hb.trans (hbb.mono hb.size)⟩)
    have D2 := Lib.hid (show ∀ wx, Below w3.heap.size w3 wx → Calls Tryd.prog 14 #[.slice A n cap] wx fun e w' => e = .returned (.string T1) ∧ Below w3.heap.size w3 w' from fun wx hb => by
      refine (hT1 ▸ etext_any wx _ es (HV.out _ (HT3.out _ hb)) HFF.out).mono ?_
      rintro e w' ⟨rfl, hbb⟩
      exact ⟨rfl, hb.trans (hbb.mono hb.size)⟩)
    have D3 := Lib.hid (show ∀ wx, Below w3.heap.size w3 wx → Calls Tryd.prog 13 #[vy] wx fun e w' => e = .returned (.string T2) ∧ Below w3.heap.size w3 w' from fun wx hb => by
      refine (hT2 ▸ HS.out.text wx _ O.1 (HT.out _ (HT3.out _ hb)) (HY3.out _ hb) HPF.out).mono ?_
      rintro e w' ⟨rfl, hbb⟩
      exact ⟨rfl, hb.trans (hbb.mono hb.size)⟩)
    have D4 := Lib.hid (show ∀ wx, Below w3.heap.size w3 wx → Calls Tryd.prog 14 #[vy] wx fun e w' => e = .returned (.string T2) ∧ Below w3.heap.size w3 w' from fun wx hb => by
      refine (hT2 ▸ etext_any wx _ O.1 (HY3.out _ hb) HPF.out).mono ?_
      rintro e w' ⟨rfl, hbb⟩
      exact ⟨rfl, hb.trans (hbb.mono hb.size)⟩)
    have D5 := Lib.hid (show ∀ wx, Below w3.heap.size w3 wx → Calls Tryd.prog 9 #[] wx fun e w' => e = .returned (.bool true) ∧ Below w3.heap.size w3 w' from fun wx hb => by
      refine (AW.out wx (HT3.out _ hb)).mono ?_
      rintro e w' ⟨rfl, hbb⟩
      exact ⟨rfl, hb.trans (hbb.mono hb.size)⟩)
    have q3 : (T1.toList == T1.toList) = true := by simp
    have q4 : (T2.toList == T2.toList) = true := by simp
    clear hT1 hT2
    go_wp2_with (first
      | (go_at_call 12; refine C3.out.mono ?_; rintro e w4 ⟨rfl, hb4⟩; have K4 := Lib.hid hb4; clear hb4)
      | (go_at_call 13; have hz := hdone1; clear hz; refine (D3.out _ K6.out).mono ?_; rintro e w7 ⟨rfl, hb7⟩; have K7 := Lib.hid hb7; clear hb7)
      | (go_at_call 13; refine (D1.out _ K4.out).mono ?_; rintro e w5 ⟨rfl, hb5⟩; have K5 := Lib.hid hb5; clear hb5; have hdone1 : True := trivial)
      | (go_at_call 14; have hz := hdone2; clear hz; refine (D4.out _ K7.out).mono ?_; rintro e w8 ⟨rfl, hb8⟩; have K8 := Lib.hid hb8; clear hb8)
      | (go_at_call 14; refine (D2.out _ K5.out).mono ?_; rintro e w6 ⟨rfl, hb6⟩; have K6 := Lib.hid hb6; clear hb6; have hdone2 : True := trivial)
      | (go_at_call 9; refine (D5.out _ K8.out).mono ?_; rintro e w9 ⟨rfl, hb9⟩; have K9 := Lib.hid hb9; clear hb9))
    go_ret
    exact ⟨rfl, HT3.out _ K9.out⟩
end Go.Proofs.YtmadlappalhmlaaDoor
