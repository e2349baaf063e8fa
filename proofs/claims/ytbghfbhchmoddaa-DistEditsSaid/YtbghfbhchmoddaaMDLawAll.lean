/- DistAll by contract. -/
import Derived.Test.YtbghfbhchmoddaaMDAwake
import Derived.Test.YtbghfbhchmoddaaMDRef
namespace Go.Proofs.Ytbghfbhchmoddaa
open Go Go.RowKit Go.Lib

theorem ints_bd {w : World} {v : Value} {l : List Int} (h : IntsAt w v l) : l.length ≤ 9223372036854775807 := by
  rcases h with ⟨e, _⟩ | ⟨b, off, cap, e, h1, h2, h3, h4⟩
  · rw [e]; simp
  · unfold maxLen at h3; omega
set_option maxRecDepth 100000 in
set_option maxHeartbeats 4000000 in
theorem all_law (w : World) (va vb : Value) (la lb : List Int) (most : Int) (ha : IntsAt w va la) (hb : IntsAt w vb lb) :
    Calls Try.prog 3 #[va, vb, .int .i64 most] w fun e w' => e = .returned (.bool true) ∧ Below w.heap.size w w' := by
  have CA := Lib.hid awake_any
  have HA := Lib.hid ha
  have HB := Lib.hid hb
  obtain ⟨A, cap, rfl⟩ := ints_form ha
  obtain ⟨A', cap', rfl⟩ := ints_form hb
  obtain ⟨n, hn⟩ : ∃ n, n = la.length := ⟨_, rfl⟩
  obtain ⟨m, hm⟩ : ∃ m, m = lb.length := ⟨_, rfl⟩
  rw [← hn] at HA ⊢
  rw [← hm] at HB ⊢
  have HN := Lib.hid (And.intro hn hm)
  clear ha hb hn hm
  by_cases h1 : n ≤ 60 ∧ m ≤ 60
  · have g1 : decide ((60 : Int) < n) = false := decide_eq_false (by omega)
    have g2 : decide ((60 : Int) < m) = false := decide_eq_false (by omega)
    have CR := Lib.hid (ref_any w _ _ la lb HA.out HB.out (by rw [← HN.out.1]; omega) (by rw [← HN.out.2]; omega))
    have CN := Lib.hid (fun wx (hx : Below w.heap.size w wx) => near_any wx _ _ la lb most (HA.out.keep hx) (HB.out.keep hx) (by rw [← HN.out.1]; omega) (by rw [← HN.out.2]; omega))
    have CF := Lib.hid (fun wx (hx : Below w.heap.size w wx) => far_any wx _ _ la lb (HA.out.keep hx) (HB.out.keep hx) (by rw [← HN.out.1]; omega) (by rw [← HN.out.2]; omega))
    obtain ⟨d, hd⟩ : ∃ d, d = farL la lb := ⟨_, rfl⟩
    rw [← hd] at CR CN CF
    clear h1 hd
    by_cases hdm : (d : Int) ≤ most
    · have e1 : nearV d most = .tuple #[.int .i64 d, .bool true] := by unfold nearV; rw [if_pos hdm, decide_eq_true hdm]
      have g3 : decide ((d : Int) ≤ most) = true := decide_eq_true hdm
      rw [e1] at CN
      go_enter Try.func3, Try.ntmps3
      go_wp2_with fail
      refine CR.out.mono ?_
      rintro e w1 ⟨rfl, h1⟩
      have H1 := Lib.hid h1
      clear h1
      go_wp2_with fail
      refine (CN.out w1 H1.out).mono ?_
      rintro e w2 ⟨rfl, h2⟩
      have H2 := Lib.hid (H1.out.trans (h2.mono H1.out.size))
      clear h2
      go_wp2_with fail
      refine (CF.out w2 H2.out).mono ?_
      rintro e w3 ⟨rfl, h3⟩
      have H3 := Lib.hid (H2.out.trans (h3.mono H2.out.size))
      clear h3
      go_wp2_with fail
      refine (CA.out w3).mono ?_
      rintro e w4 ⟨rfl, h4⟩
      have H4 := Lib.hid (H3.out.trans (h4.mono H3.out.size))
      clear h4
      go_wp2_with fail
      go_ret
      exact ⟨rfl, H4.out⟩
    · have e1 : nearV d most = .tuple #[.int .i64 0, .bool false] := by unfold nearV; rw [if_neg hdm, decide_eq_false hdm]
      have g3 : decide ((d : Int) ≤ most) = false := decide_eq_false hdm
      rw [e1] at CN
      go_enter Try.func3, Try.ntmps3
      go_wp2_with fail
      refine CR.out.mono ?_
      rintro e w1 ⟨rfl, h1⟩
      have H1 := Lib.hid h1
      clear h1
      go_wp2_with fail
      refine (CN.out w1 H1.out).mono ?_
      rintro e w2 ⟨rfl, h2⟩
      have H2 := Lib.hid (H1.out.trans (h2.mono H1.out.size))
      clear h2
      go_wp2_with fail
      refine (CF.out w2 H2.out).mono ?_
      rintro e w3 ⟨rfl, h3⟩
      have H3 := Lib.hid (H2.out.trans (h3.mono H2.out.size))
      clear h3
      go_wp2_with fail
      refine (CA.out w3).mono ?_
      rintro e w4 ⟨rfl, h4⟩
      have H4 := Lib.hid (H3.out.trans (h4.mono H3.out.size))
      clear h4
      go_wp2_with fail
      go_ret
      exact ⟨rfl, H4.out⟩
  · by_cases h2 : n ≤ 60
    · have g1 : decide ((60 : Int) < n) = false := decide_eq_false (by omega)
      have g2 : decide ((60 : Int) < m) = true := decide_eq_true (by omega)
      clear h1 h2
      go_enter Try.func3, Try.ntmps3
      go_wp2_with fail
      refine (CA.out w).mono ?_
      rintro e w1 ⟨rfl, h1⟩
      have H1 := Lib.hid h1
      clear h1
      go_wp2_with fail
      go_ret
      exact ⟨rfl, H1.out⟩
    · have g1 : decide ((60 : Int) < n) = true := decide_eq_true (by omega)
      clear h1 h2
      go_enter Try.func3, Try.ntmps3
      go_wp2_with fail
      refine (CA.out w).mono ?_
      rintro e w1 ⟨rfl, h1⟩
      have H1 := Lib.hid h1
      clear h1
      go_wp2_with fail
      go_ret
      exact ⟨rfl, H1.out⟩
end Go.Proofs.Ytbghfbhchmoddaa
