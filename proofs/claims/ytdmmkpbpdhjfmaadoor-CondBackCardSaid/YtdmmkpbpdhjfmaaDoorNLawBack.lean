/- Stage 9's law CondBack, out of what is asked of cond's calls. -/
import Derived.Test.YtdmmkpbpdhjfmaaDoorNLaws
namespace Go.Proofs.YtdmmkpbpdhjfmaaDoor
open Go Go.RowKit
variable {T : World → Prop}

set_option maxRecDepth 100000 in
set_option maxHeartbeats 1000000 in
theorem back_law (S : SaysC T) (w : World) (hT : T w) (s : ByteArray) (hs : s.size ≤ 9223372036854775807) : Calls Tryd.prog 3 #[.string s] w fun e w' => e = .returned (.bool true) ∧ Below w.heap.size w w' := by
  have HS := Lib.hid S
  have HT := Lib.hid hT
  by_cases hbig : 300 < s.size
  · have C1 := Lib.hid (awake_any S w hT)
    have hbI : (300 : Int) < s.size := by omega
    clear S hT
    go_enter Tryd.func3, Tryd.ntmps3
    go_wp2_with fail
    refine C1.out.mono ?_
    rintro e w1 ⟨rfl, hb⟩
    have HB := Lib.hid hb
    clear hb
    go_wp2_with fail
    go_ret
    exact ⟨rfl, HB.out⟩
  have hbI : ¬ (300 : Int) < s.size := by omega
  have C1 := Lib.hid (S.parse w s hT (by omega))
  have HBG := Lib.hid hbig
  clear S hT hbig
  have AW := Lib.hid (fun wx (hb : Below w.heap.size w wx) => awake_any HS.out wx (HS.out.kept w wx HT.out hb))
  cases hp : parseS s with
  | none =>
    rw [hp] at C1
    go_enter Tryd.func3, Tryd.ntmps3
    go_wp2_with fail
    refine C1.out.mono ?_
    rintro e w1 ⟨v, rfl, h1, hb1⟩
    have hv : ∃ a cap, v = .slice a 0 cap := by
      rcases h1 with ⟨_, h⟩ | ⟨b, off, cap, rfl, _⟩
      · exact h
      · exact ⟨_, _, rfl⟩
    obtain ⟨a, cap, rfl⟩ := hv
    have C2 := Lib.hid (AW.out w1 hb1)
    have HB1 := Lib.hid hb1
    clear h1 hb1 C1
    go_wp2_with fail
    refine C2.out.mono ?_
    rintro e w2 ⟨rfl, hb2⟩
    have HB := Lib.hid (HB1.out.trans (hb2.mono HB1.out.size))
    clear hb2
    go_wp2_with fail
    go_ret
    exact ⟨rfl, HB.out⟩
  | some l =>
    rw [hp] at C1
    obtain ⟨hf, htx⟩ := parseS_fit hp (by have := HBG.out; omega)
    obtain ⟨hrt, hsz⟩ := parseS_text hf
    have HF := Lib.hid (And.intro hf (And.intro hrt (show (textS l).size ≤ 4800 by have := HBG.out; omega)))
    clear hf htx hrt hsz hp
    go_enter Tryd.func3, Tryd.ntmps3
    go_wp2_with fail
    refine C1.out.mono ?_
    rintro e w1 ⟨v, rfl, h1, hb1⟩
    simp only [Option.getD_some] at h1
    have t1 := HS.out.kept w w1 HT.out hb1
    have C2 := Lib.hid (HS.out.text w1 v l t1 h1 HF.out.1)
    have H1 := Lib.hid (And.intro h1 (And.intro hb1 t1))
    clear h1 hb1 t1 C1
    go_wp2_with fail
    refine C2.out.mono ?_
    rintro e w2 ⟨rfl, hb2⟩
    have t2 := HS.out.kept w1 w2 H1.out.2.2 hb2
    have C3 := Lib.hid (HS.out.parse w2 (textS l) t2 HF.out.2.2)
    rw [HF.out.2.1] at C3
    have H2 := Lib.hid (And.intro (H1.out.1.keep hb2) (And.intro (H1.out.2.1.trans (hb2.mono H1.out.2.1.size)) t2))
    clear hb2 t2 C2
    go_wp2_with fail
    refine C3.out.mono ?_
    rintro e w3 ⟨v', rfl, h3, hb3⟩
    simp only [Option.getD_some] at h3
    have t3 := HS.out.kept w2 w3 H2.out.2.2 hb3
    have C4 := Lib.hid (same_true w3 v v' l (H2.out.1.keep hb3) h3 HF.out.1.few HF.out.1.sets)
    have H3 := Lib.hid (And.intro h3 (And.intro (H2.out.2.1.trans (hb3.mono H2.out.2.1.size)) t3))
    clear h3 hb3 t3 C3
    go_wp2_with fail
    refine C4.out.mono ?_
    rintro e w4 ⟨rfl, hb4⟩
    have t4 := HS.out.kept w3 w4 H3.out.2.2 hb4
    have C5 := Lib.hid (HS.out.text w4 v' l t4 (H3.out.1.keep hb4) HF.out.1)
    have H4 := Lib.hid (And.intro (H3.out.2.1.trans (hb4.mono H3.out.2.1.size)) t4)
    clear hb4 t4 C4
    go_wp2_with fail
    refine C5.out.mono ?_
    rintro e w5 ⟨rfl, hb5⟩
    have hb5' := H4.out.1.trans (hb5.mono H4.out.1.size)
    have C6 := Lib.hid (AW.out w5 hb5')
    have H5 := Lib.hid hb5'
    have hself : ((textS l).toList == (textS l).toList) = true := by simp
    clear hb5 hb5' C5
    go_wp2_with fail
    refine C6.out.mono ?_
    rintro e w6 ⟨rfl, hb6⟩
    have HB := Lib.hid (H5.out.trans (hb6.mono H5.out.size))
    clear hb6
    go_wp2_with fail
    go_ret
    exact ⟨rfl, HB.out⟩
end Go.Proofs.YtdmmkpbpdhjfmaaDoor
