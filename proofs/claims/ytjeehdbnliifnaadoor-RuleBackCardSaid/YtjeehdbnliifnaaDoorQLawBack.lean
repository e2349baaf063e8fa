/- The document's Same of chapter 10, where the rules are the same; stage 10's law RuleBack, out of what is asked of rule's calls. -/
import Derived.Test.YtjeehdbnliifnaaDoorQLaws
namespace Go.Proofs.YtjeehdbnliifnaaDoor
open Go Go.RowKit

set_option maxRecDepth 100000 in
set_option maxHeartbeats 2000000 in
theorem rsame_true (w : World) (v v' : Value) (r : Ru) (h : RuAt w v r) (h' : RuAt w v' r) (hl : r.cond.length ≤ 8) (hs : ∀ it ∈ r.cond, it.set.length ≤ 1200) :
    Calls Tryd.prog 8 #[v, v'] w fun e w' => e = .returned (.bool true) ∧ Below w.heap.size w w' := by
  obtain ⟨A, cap, rfl, h1⟩ := h
  obtain ⟨A', cap', rfl, h1'⟩ := h'
  obtain ⟨pre, flag, cross, strip, add, cond⟩ := r
  dsimp only at h1 h1' hl hs ⊢
  obtain ⟨n, hn⟩ : ∃ n, n = cond.length := ⟨_, rfl⟩
  rw [← hn] at h1 h1' hl ⊢
  have hb2 : Below w.heap.size w ((w.alloc (.cells #[.bool pre, .int .i64 flag, .bool cross, .string strip, .string add, .slice A n cap] /-t-/25)).alloc (.cells #[.bool pre, .int .i64 flag, .bool cross, .string strip, .string add, .slice A' n cap'] /-t-/25)) :=
    ((Below.refl _ _).alloc (Nat.le_refl _) _).alloc (by rw [World.size_alloc]; omega) _
  have C := Lib.hid (same_true _ _ _ cond (h1.keep hb2) (h1'.keep hb2) (by omega) hs)
  have HB := Lib.hid hb2
  have s1 : (strip.toList == strip.toList) = true := by simp
  have s2 : (add.toList == add.toList) = true := by simp
  clear h1 h1' hb2 hs hn
  go_enter Tryd.func8, Tryd.ntmps8
  go_wp2_with fail
  refine C.out.mono ?_
  rintro e w1 ⟨rfl, hb1⟩
  have HF := Lib.hid (HB.out.trans (hb1.mono HB.out.size))
  clear hb1
  go_wp2_with fail
  go_ret
  exact ⟨rfl, HF.out⟩
variable {T : World → Prop}
theorem ru_box {w : World} {v : Value} {r : Ru} (h : RuAt w v r) : ∃ p f c s a A n cap, v = .agg #[.bool p, .int .i64 f, .bool c, .string s, .string a, .slice A n cap] := by
  obtain ⟨A, cap, rfl, _⟩ := h
  exact ⟨_, _, _, _, _, _, _, _, rfl⟩
theorem fit_few {r : Ru} (h : Fit r.cond) (h1 : r.strip.size ≤ 20) (h2 : r.add.size ≤ 20) : FewR r := ⟨by have := h.few; omega, h.sets, by omega, by omega⟩

set_option maxRecDepth 100000 in
set_option maxHeartbeats 2000000 in
theorem back_law (S : SaysR T) (w : World) (hT : T w) (s : ByteArray) (hs : s.size ≤ 9223372036854775807) : Calls Tryd.prog 3 #[.string s] w fun e w' => e = .returned (.bool true) ∧ Below w.heap.size w w' := by
  have HS := Lib.hid S
  have HT := Lib.hid hT
  by_cases hbig : 300 < s.size
  · have C1 := Lib.hid (awake_any S w hT)
    have hbI : (300 : Int) < s.size := by omega
    clear S hT
    go_enter Tryd.func3, Tryd.ntmps3
    go_wp2_with fail
    refine C1.out.mono ?_
    rintro e w1 ⟨rfl, hb⟩
    have HB := Lib.hid hb
    clear hb
    go_wp2_with fail
    go_ret
    exact ⟨rfl, HB.out⟩
  have hbI : ¬ (300 : Int) < s.size := by omega
  have C1 := Lib.hid (S.parse w s hT (by omega))
  have HBG := Lib.hid hbig
  clear S hT hbig
  have AW := Lib.hid (fun wx (hb : Below w.heap.size w wx) => awake_any HS.out wx (HS.out.kept w wx HT.out hb))
  cases hp : parseR s with
  | none =>
    rw [hp] at C1
    go_enter Tryd.func3, Tryd.ntmps3
    go_wp2_with fail
    refine C1.out.mono ?_
    rintro e w1 ⟨v, rfl, h1, hb1⟩
    simp only [Option.getD_none] at h1
    obtain ⟨p, f, c, s0, a0, A, n, cap, rfl⟩ := ru_box h1
    have hba := (Below.refl w1.heap.size w1).alloc (Nat.le_refl _) (.cells #[.bool p, .int .i64 f, .bool c, .string s0, .string a0, .slice A n cap] /-t-/25)
    have C2 := Lib.hid (rsame_true _ _ (.agg #[.bool false, .int .i64 0, .bool false, .string ⟨#[]⟩, .string ⟨#[]⟩, .slice none 0 0]) ru0 (h1.keep hba) ⟨none, 0, rfl, .inl ⟨rfl, _, _, rfl⟩⟩ (by decide) (fun it hit => by cases hit))
    have H1 := Lib.hid (hb1.trans (hba.mono hb1.size))
    clear h1 hb1 hba C1
    go_wp2_with fail
    refine C2.out.mono ?_
    rintro e w2 ⟨rfl, hb2⟩
    have hb2' := H1.out.trans (hb2.mono H1.out.size)
    have C3 := Lib.hid (AW.out w2 hb2')
    have HB2 := Lib.hid hb2'
    clear hb2 hb2' C2
    go_wp2_with fail
    refine C3.out.mono ?_
    rintro e w3 ⟨rfl, hb3⟩
    have HB := Lib.hid (HB2.out.trans (hb3.mono HB2.out.size))
    clear hb3
    go_wp2_with fail
    go_ret
    exact ⟨rfl, HB.out⟩
  | some r =>
    rw [hp] at C1
    obtain ⟨hback, hf1, hf2, hfit, hst, had, htc⟩ := parseR_back hp (by have := HBG.out; omega)
    obtain ⟨htx, hrt⟩ := textR_back hp (by have := HBG.out; omega)
    have hsz : (textR r).size ≤ 4800 := by
      have h1 := (parseS_text hfit).2
      have h2 : (textS r.cond).data.toList.length = (textS r.cond).size := (Lib.size_eq _).symm
      have h3 : r.strip.data.toList.length = r.strip.size := (Lib.size_eq _).symm
      have h4 : r.add.data.toList.length = r.add.size := (Lib.size_eq _).symm
      have hor : ∀ x : ByteArray, (or0L x).length ≤ x.data.toList.length + 1 := fun x => by unfold or0L; split <;> simp
      have h5 := hor r.strip
      have h6 := hor r.add
      have hbg := HBG.out
      rw [htx]
      show (lineL r (textS r.cond).data.toList).toArray.size ≤ 4800
      rw [List.size_toArray]
      unfold lineL
      have h7 : (if r.pre = true then pfx else sfx).length = 3 := by split <;> rfl
      have h8 : (if r.cross = true then [89] else [78] : List UInt8).length = 1 := by split <;> rfl
      simp only [List.length_append, List.length_cons, List.length_nil, h7, h8]
      omega
    have hok : okB (textR r) = true := by
      unfold okB
      rw [htx]
      refine decide_eq_true ?_
      show (lineL r (textS r.cond).data.toList).toArray.size ≠ 0
      rw [List.size_toArray]
      unfold lineL
      simp
    have HF := Lib.hid (And.intro (fit_few hfit hst had) (And.intro hrt (And.intro hsz (And.intro hok hfit))))
    clear hback hf1 hf2 hfit hst had htc htx hrt hsz hok hp
    go_enter Tryd.func3, Tryd.ntmps3
    go_wp2_with fail
    refine C1.out.mono ?_
    rintro e w1 ⟨v, rfl, h1, hb1⟩
    simp only [Option.getD_some] at h1
    obtain ⟨p, f, c, s0, a0, A, n, cap, rfl⟩ := ru_box h1
    have hba := (Below.refl w1.heap.size w1).alloc (Nat.le_refl _) (.cells #[.bool p, .int .i64 f, .bool c, .string s0, .string a0, .slice A n cap] /-t-/25)
    have t1 := HS.out.kept w1 _ (HS.out.kept w w1 HT.out hb1) hba
    have C2 := Lib.hid (HS.out.text _ _ r t1 (h1.keep hba) HF.out.1)
    have H1 := Lib.hid (And.intro (h1.keep hba) (And.intro (hb1.trans (hba.mono hb1.size)) t1))
    clear h1 hb1 t1 hba C1
    go_wp2_with fail
    refine C2.out.mono ?_
    rintro e w2 ⟨rfl, hb2⟩
    obtain ⟨x0, x1, x2, x3, x4, x5⟩ := box6 hb2
    have t2 := HS.out.kept _ w2 H1.out.2.2 hb2
    have C3 := Lib.hid (HS.out.parse w2 (textR r) t2 HF.out.2.2.1)
    rw [HF.out.2.1] at C3
    have B2 := Lib.hid hb2
    clear hb2 t2 C2
    go_wp2_with fail
    refine C3.out.mono ?_
    rintro e w3 ⟨v', rfl, h3, hb3⟩
    simp only [Option.getD_some] at h3
    obtain ⟨p', f', c', s0', a0', A', n', cap', rfl⟩ := ru_box h3
    have hbb := (Below.refl w3.heap.size w3).alloc (Nat.le_refl _) (.cells #[.bool p', .int .i64 f', .bool c', .string s0', .string a0', .slice A' n' cap'] /-t-/25)
    have hb3' := B2.out.trans ((hb3.trans (hbb.mono hb3.size)).mono B2.out.size)
    have hb3w := B2.out.trans (hb3.mono B2.out.size)
    clear x0 x1 x2 x3 x4 x5
    obtain ⟨x0, x1, x2, x3, x4, x5⟩ := box6 hb3'
    have B3 := Lib.hid hb3'
    have Q3 := Lib.hid (h3.keep hbb)
    have C4 := Lib.hid (HS.out.check _ _ r (HS.out.kept _ _ H1.out.2.2 hb3') (H1.out.1.keep hb3') HF.out.1)
    rw [HF.out.2.2.2.1] at C4
    have W3 := Lib.hid hb3w
    clear hb3 hbb hb3' hb3w h3 C3 B2
    go_wp2_with fail
    refine C4.out.mono ?_
    rintro e w4 ⟨rfl, hb4⟩
    have hb4' := B3.out.trans (hb4.mono B3.out.size)
    clear x0 x1 x2 x3 x4 x5
    obtain ⟨x0, x1, x2, x3, x4, x5⟩ := box6 hb4'
    obtain ⟨y0, y1, y2, y3, y4, y5⟩ := box6 hb4
    have C5 := Lib.hid (rsame_true w4 _ _ r (H1.out.1.keep hb4') (Q3.out.keep hb4) HF.out.2.2.2.2.few HF.out.2.2.2.2.sets)
    have B4 := Lib.hid (And.intro hb4' hb4)
    clear hb4 hb4' C4
    go_wp2_with fail
    refine C5.out.mono ?_
    rintro e w5 ⟨rfl, hb5⟩
    have hb5' := B4.out.1.trans (hb5.mono B4.out.1.size)
    have hb5q := B4.out.2.trans (hb5.mono B4.out.2.size)
    clear x0 x1 x2 x3 x4 x5 y0 y1 y2 y3 y4 y5
    obtain ⟨y0, y1, y2, y3, y4, y5⟩ := box6 hb5q
    have C6 := Lib.hid (HS.out.text w5 _ r (HS.out.kept _ _ H1.out.2.2 hb5') (Q3.out.keep hb5q) HF.out.1)
    have B5 := Lib.hid (H1.out.2.1.trans (hb5'.mono H1.out.2.1.size))
    clear hb5 hb5' hb5q C5
    go_wp2_with fail
    refine C6.out.mono ?_
    rintro e w6 ⟨rfl, hb6⟩
    have hb6' := B5.out.trans (hb6.mono B5.out.size)
    have C7 := Lib.hid (AW.out w6 hb6')
    have B6 := Lib.hid hb6'
    have hself : ((textR r).toList == (textR r).toList) = true := by simp
    clear hb6 hb6' C6 y0 y1 y2 y3 y4 y5
    go_wp2_with fail
    refine C7.out.mono ?_
    rintro e w7 ⟨rfl, hb7⟩
    have HB := Lib.hid (B6.out.trans (hb7.mono B6.out.size))
    clear hb7
    go_wp2_with fail
    go_ret
    exact ⟨rfl, HB.out⟩
end Go.Proofs.YtjeehdbnliifnaaDoor
