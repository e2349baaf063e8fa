/- The document's Both of chapter 10 by contract, of whatever rules. -/
import Derived.Test.YtcbmfkgekhadkaaGreatDoorPApply
namespace Go.Proofs.YtcbmfkgekhadkaaGreatDoor
open Go Go.RowKit Go.Lib

theorem bothR_yes {p s : Ru} {wd : ByteArray} (h : p.pre = true ∧ s.pre = false ∧ p.cross = true ∧ s.cross = true ∧ okB (applyR p wd) = true ∧ okB (applyR s wd) = true ∧ p.strip.size + s.strip.size ≤ wd.size) : bothR p s wd = p.add ++ wd.extract p.strip.size (wd.size - s.strip.size) ++ s.add := by
  unfold bothR
  obtain ⟨h1, h2, h3, h4, h5, h6, h7⟩ := h
  exact if_pos ⟨h1, h2, h3, h4, of_decide_eq_true h5, of_decide_eq_true h6, h7⟩
theorem bothR_no {p s : Ru} {wd : ByteArray} (h : ¬ (p.pre = true ∧ s.pre = false ∧ p.cross = true ∧ s.cross = true ∧ okB (applyR p wd) = true ∧ okB (applyR s wd) = true ∧ p.strip.size + s.strip.size ≤ wd.size)) : bothR p s wd = ⟨#[]⟩ := by
  unfold bothR
  exact if_neg fun ⟨h1, h2, h3, h4, h5, h6, h7⟩ => h ⟨h1, h2, h3, h4, decide_eq_true h5, decide_eq_true h6, h7⟩

set_option maxRecDepth 100000 in
set_option maxHeartbeats 4000000 in
theorem rboth_any (w : World) (v v' : Value) (p s : Ru) (wd : ByteArray) (h : RuAt w v p) (hp : MidR p) (h' : RuAt w v' s) (hs : MidR s) (hw : wd.size ≤ 100000) :
    Calls Tryz.prog 28 #[v, v', .string wd] w fun e w' => ApplyE e (bothR p s wd) ∧ Below w.heap.size w w' := by
  have h0 := h
  have h0' := h'
  obtain ⟨A, cap, rfl, hi⟩ := h
  obtain ⟨A', cap', rfl, hi'⟩ := h'
  obtain ⟨n, hn⟩ : ∃ n, n = p.cond.length := ⟨_, rfl⟩
  obtain ⟨n', hn'⟩ : ∃ n, n = s.cond.length := ⟨_, rfl⟩
  rw [← hn] at h0 hi ⊢
  rw [← hn'] at h0' hi' ⊢
  have hb2 : Below w.heap.size w ((w.alloc (.cells #[.bool p.pre, .int .i64 p.flag, .bool p.cross, .string p.strip, .string p.add, .slice A n cap] /-t-/51)).alloc (.cells #[.bool s.pre, .int .i64 s.flag, .bool s.cross, .string s.strip, .string s.add, .slice A' n' cap'] /-t-/51)) :=
    ((Below.refl _ _).alloc (Nat.le_refl _) _).alloc (by rw [World.size_alloc]; omega) _
  have CA := Lib.hid (fun wx (hb : Below w.heap.size w wx) => rapply_any wx _ p wd (h0.keep hb) hp hw)
  have CS := Lib.hid (fun wx (hb : Below w.heap.size w wx) => rapply_any wx _ s wd (h0'.keep hb) hs hw)
  have HB := Lib.hid hb2
  have g1 := hp.strip
  have g2 := hs.strip
  have g3 := hp.add
  have g4 := hs.add
  obtain ⟨R, hR⟩ : ∃ R, R = bothR p s wd := ⟨_, rfl⟩
  rw [← hR]
  have HR := Lib.hid hR
  have YES := Lib.hid (fun h => hR.trans (bothR_yes (p := p) (s := s) (wd := wd) h))
  have NO := Lib.hid (fun h => hR.trans (bothR_no (p := p) (s := s) (wd := wd) h))
  obtain ⟨RA, hRA⟩ : ∃ R, R = applyR p wd := ⟨_, rfl⟩
  obtain ⟨RS, hRS⟩ : ∃ R, R = applyR s wd := ⟨_, rfl⟩
  rw [← hRA] at CA YES NO
  rw [← hRS] at CS YES NO
  clear h0 h0' hi hi' hb2 hR hn hn' hRA hRS hp hs HR
  obtain ⟨pre, flag, cross, strip, add, cond⟩ := p
  obtain ⟨pre', flag', cross', strip', add', cond'⟩ := s
  dsimp only at CA CS HB g1 g2 g3 g4 YES NO ⊢
  have BX : Hid (∀ w1, Below ((w.alloc (.cells #[.bool pre, .int .i64 flag, .bool cross, .string strip, .string add, .slice A n cap] /-t-/51)).alloc (.cells #[.bool pre', .int .i64 flag', .bool cross', .string strip', .string add', .slice A' n' cap'] /-t-/51)).heap.size ((w.alloc (.cells #[.bool pre, .int .i64 flag, .bool cross, .string strip, .string add, .slice A n cap] /-t-/51)).alloc (.cells #[.bool pre', .int .i64 flag', .bool cross', .string strip', .string add', .slice A' n' cap'] /-t-/51)) w1 →
      (w1.cell? ⟨w.heap.size, 0, none⟩ = some (.bool pre) ∧ w1.cell? ⟨w.heap.size, 2, none⟩ = some (.bool cross) ∧ w1.cell? ⟨w.heap.size, 3, none⟩ = some (.string strip) ∧ w1.cell? ⟨w.heap.size, 4, none⟩ = some (.string add)) ∧
      (w1.cell? ⟨w.heap.size + 1, 0, none⟩ = some (.bool pre') ∧ w1.cell? ⟨w.heap.size + 1, 1, none⟩ = some (.int .i64 flag') ∧ w1.cell? ⟨w.heap.size + 1, 2, none⟩ = some (.bool cross') ∧ w1.cell? ⟨w.heap.size + 1, 3, none⟩ = some (.string strip') ∧ w1.cell? ⟨w.heap.size + 1, 4, none⟩ = some (.string add') ∧ w1.cell? ⟨w.heap.size + 1, 5, none⟩ = some (.slice A' n' cap'))) := Lib.hid fun w1 hb => by
    have h1 := box6 (w := w.alloc (.cells #[.bool pre, .int .i64 flag, .bool cross, .string strip, .string add, .slice A n cap] /-t-/51)) hb
    rw [World.size_alloc] at h1
    have hb0 : Below (w.alloc (.cells #[.bool pre, .int .i64 flag, .bool cross, .string strip, .string add, .slice A n cap] /-t-/51)).heap.size (w.alloc (.cells #[.bool pre, .int .i64 flag, .bool cross, .string strip, .string add, .slice A n cap] /-t-/51)) w1 :=
      ((Below.refl _ _).alloc (Nat.le_refl _) _).trans (hb.mono (by rw [World.size_alloc (w.alloc _)]; omega))
    have h2 := box6 hb0
    exact ⟨⟨h2.1, h2.2.2.1, h2.2.2.2.1, h2.2.2.2.2.1⟩, h1⟩
  go_enter Tryz.func28, Tryz.ntmps28
  go_wp2_with (go_at_call 26; refine (CA.out _ HB.out).mono ?_)
  rintro e w1 ⟨rfl, hb1⟩
  obtain ⟨⟨x0, x2, x3, x4⟩, y0, y1, y2, y3, y4, y5⟩ := BX.out w1 hb1
  have B1 := Lib.hid hb1
  have HB1 := Lib.hid (HB.out.trans (hb1.mono HB.out.size))
  clear hb1
  go_wp2_with (go_at_call 26; refine (CS.out _ HB1.out).mono ?_)
  rintro e w2 ⟨rfl, hb2⟩
  have hbb := B1.out.trans (hb2.mono B1.out.size)
  clear x0 x2 x3 x4 y0 y1 y2 y3 y4 y5
  obtain ⟨⟨x0, x2, x3, x4⟩, y0, y1, y2, y3, y4, y5⟩ := BX.out w2 hbb
  have HB2 := Lib.hid (HB1.out.trans (hb2.mono HB1.out.size))
  clear hb2 hbb
  generalize okB RA = oa at *
  generalize okB RS = os at *
  have e0 : IntKind.i64.wrap ((strip.size : Int) + strip'.size) = (strip.size : Int) + strip'.size := IntWalk.i64_in _ (by omega)
  by_cases hall : pre = true ∧ pre' = false ∧ cross = true ∧ cross' = true ∧ oa = true ∧ os = true ∧ strip.size + strip'.size ≤ wd.size
  · have HY := Lib.hid (YES.out hall)
    obtain ⟨rfl, rfl, rfl, rfl, rfl, rfl, hle⟩ := hall
    have d1 : ¬ (wd.size : Int) < (strip.size : Int) + strip'.size := by omega
    obtain ⟨k, hk⟩ : ∃ k, k = wd.size - strip'.size := ⟨_, rfl⟩
    have e1 : (wd.size : Int) - strip'.size = k := by omega
    have e2 : IntKind.i64.wrap (k : Int) = k := IntWalk.i64_in _ (by omega)
    have q1 : (0 : Int) ≤ strip.size := by omega
    have q2 : (strip.size : Int) ≤ k := by omega
    have q3 : (k : Int) ≤ wd.size := by omega
    have q4 : (0 : Int) ≤ k := by omega
    have q5 : ¬ 9223372036854775807 < add.size + (min k wd.size - strip.size) := by omega
    have q6 : ¬ 9223372036854775807 < add.size + (min k wd.size - strip.size) + add'.size := by omega
    have q7 : ¬ 9223372036854775807 < add.size + (k - strip.size) := by omega
    have q8 : ¬ 9223372036854775807 < add.size + (k - strip.size) + add'.size := by omega
    rw [← hk] at HY
    clear hk hle YES NO
    go_wp2_with fail
    go_quiet (fail)
    go_wp2_with fail
    go_ret2
    rw [HY.out]
    exact ⟨by unfold ApplyE; rw [okB_empty]; rfl, below_drewN HB2.out _⟩
  · have HZ := Lib.hid (NO.out hall)
    have hcs : pre = false ∨ (pre = true ∧ pre' = true) ∨ (pre = true ∧ pre' = false ∧ cross = false) ∨ (pre = true ∧ pre' = false ∧ cross = true ∧ cross' = false) ∨ (pre = true ∧ pre' = false ∧ cross = true ∧ cross' = true ∧ oa = false) ∨
        (pre = true ∧ pre' = false ∧ cross = true ∧ cross' = true ∧ oa = true ∧ os = false) ∨ (pre = true ∧ pre' = false ∧ cross = true ∧ cross' = true ∧ oa = true ∧ os = true ∧ (wd.size : Int) < (strip.size : Int) + strip'.size) := by
      cases pre
      · exact .inl rfl
      cases pre'
      case true => exact .inr (.inl ⟨rfl, rfl⟩)
      cases cross
      · exact .inr (.inr (.inl ⟨rfl, rfl, rfl⟩))
      cases cross'
      · exact .inr (.inr (.inr (.inl ⟨rfl, rfl, rfl, rfl⟩)))
      cases oa
      · exact .inr (.inr (.inr (.inr (.inl ⟨rfl, rfl, rfl, rfl, rfl⟩))))
      cases os
      · exact .inr (.inr (.inr (.inr (.inr (.inl ⟨rfl, rfl, rfl, rfl, rfl, rfl⟩)))))
      · refine .inr (.inr (.inr (.inr (.inr (.inr ⟨rfl, rfl, rfl, rfl, rfl, rfl, ?_⟩)))))
        rcases Nat.lt_or_ge wd.size (strip.size + strip'.size) with h | h
        · omega
        · exact absurd ⟨rfl, rfl, rfl, rfl, rfl, rfl, h⟩ hall
    clear hall YES NO
    rcases hcs with rfl | ⟨rfl, rfl⟩ | ⟨rfl, rfl, rfl⟩ | ⟨rfl, rfl, rfl, rfl⟩ | ⟨rfl, rfl, rfl, rfl, rfl⟩ | ⟨rfl, rfl, rfl, rfl, rfl, rfl⟩ | ⟨rfl, rfl, rfl, rfl, rfl, rfl, hlt⟩
    all_goals
      go_wp2_with fail
      go_ret2
      rw [HZ.out]
      exact ⟨rfl, HB2.out⟩
end Go.Proofs.YtcbmfkgekhadkaaGreatDoor
