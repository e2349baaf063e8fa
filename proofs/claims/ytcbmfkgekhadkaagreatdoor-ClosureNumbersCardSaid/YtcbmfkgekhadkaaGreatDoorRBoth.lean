/- rule.Both by contract, of whatever rules. -/
import Derived.Test.YtcbmfkgekhadkaaGreatDoorRApply
namespace Go.Proofs.YtcbmfkgekhadkaaGreatDoor
open Go Go.RowKit Go.Lib

theorem both_no {p s : Ru} {wd : ByteArray} (h : ¬ ((p.pre && !s.pre && p.cross && s.cross) = true ∧ p.strip.size + s.strip.size ≤ wd.size ∧ okB (applyR p wd) = true ∧ okB (applyR s wd) = true)) : bothR p s wd = ⟨#[]⟩ := by
  unfold bothR
  refine if_neg fun h2 => h ?_
  obtain ⟨h3, h4, h5, h6, h7, h8, h9⟩ := h2
  refine ⟨by rw [h3, h4, h5, h6]; rfl, h9, decide_eq_true h7, decide_eq_true h8⟩
theorem both_yes {p s : Ru} {wd : ByteArray} (h1 : (p.pre && !s.pre && p.cross && s.cross) = true) (h2 : p.strip.size + s.strip.size ≤ wd.size) (h3 : okB (applyR p wd) = true) (h4 : okB (applyR s wd) = true) :
    bothR p s wd = p.add ++ wd.extract p.strip.size (wd.size - s.strip.size) ++ s.add := by
  unfold bothR
  simp only [Bool.and_eq_true, Bool.not_eq_true'] at h1
  exact if_pos ⟨h1.1.1.1, h1.1.1.2, h1.1.2, h1.2, of_decide_eq_true h3, of_decide_eq_true h4, h2⟩

set_option maxRecDepth 100000 in
set_option maxHeartbeats 8000000 in
theorem rul_both_any (w : World) (v v' : Value) (p s : Ru) (wd : ByteArray) (h : RuAt w v p) (h' : RuAt w v' s) (hf : FitR p) (hf' : FitR s) (hw : wd.size ≤ 1000000000) (hT : Lib.Utf8Tabs 1 2 w) :
    Calls Tryz.prog 62 #[v, v', .string wd] w fun e w' => e = .returned (.tuple #[.string (bothR p s wd), .bool (okB (bothR p s wd))]) ∧ Below w.heap.size w w' := by
  have h0 := h
  have h0' := h'
  obtain ⟨A, cap, rfl, -⟩ := h
  obtain ⟨A', cap', rfl, -⟩ := h'
  obtain ⟨n, hn⟩ : ∃ n, n = p.cond.length := ⟨_, rfl⟩
  obtain ⟨n', hn'⟩ : ∃ n, n = s.cond.length := ⟨_, rfl⟩
  rw [← hn] at h0
  rw [← hn'] at h0'
  rw [← hn, ← hn']
  obtain ⟨W0, hW0⟩ : ∃ W0, W0 = ((w.alloc (.cells #[.bool p.pre, .int .i64 p.flag, .bool p.cross, .string p.strip, .string p.add, .slice A n cap] 51)).alloc (.cells #[.bool s.pre, .int .i64 s.flag, .bool s.cross, .string s.strip, .string s.add, .slice A' n' cap'] 51)) := ⟨_, rfl⟩
  have hb0 : Below w.heap.size w W0 := by
    rw [hW0]
    exact ((Below.refl _ _).alloc (Nat.le_refl _) _).alloc (by rw [World.size_alloc]; omega) _
  have HB := Lib.hid hb0
  have CG := Lib.hid (rtogether_any W0 _ _ p s (h0.keep hb0) (h0'.keep hb0))
  have CP := Lib.hid (fun wx (hb : Below w.heap.size w wx) => rapplies_any wx _ p wd (h0.keep hb) hf hw (tabs_below hT hb))
  have CS := Lib.hid (fun wx (hb : Below w.heap.size w wx) => rapplies_any wx _ s wd (h0'.keep hb) hf' hw (tabs_below hT hb))
  have BX := Lib.hid (show ∀ w1, Below W0.heap.size W0 w1 →
      (w1.cell? ⟨w.heap.size, 0, none⟩ = some (.bool p.pre) ∧ w1.cell? ⟨w.heap.size, 1, none⟩ = some (.int .i64 p.flag) ∧ w1.cell? ⟨w.heap.size, 2, none⟩ = some (.bool p.cross) ∧ w1.cell? ⟨w.heap.size, 3, none⟩ = some (.string p.strip) ∧ w1.cell? ⟨w.heap.size, 4, none⟩ = some (.string p.add) ∧ w1.cell? ⟨w.heap.size, 5, none⟩ = some (.slice A n cap)) ∧
      (w1.cell? ⟨w.heap.size + 1, 0, none⟩ = some (.bool s.pre) ∧ w1.cell? ⟨w.heap.size + 1, 1, none⟩ = some (.int .i64 s.flag) ∧ w1.cell? ⟨w.heap.size + 1, 2, none⟩ = some (.bool s.cross) ∧ w1.cell? ⟨w.heap.size + 1, 3, none⟩ = some (.string s.strip) ∧ w1.cell? ⟨w.heap.size + 1, 4, none⟩ = some (.string s.add) ∧ w1.cell? ⟨w.heap.size + 1, 5, none⟩ = some (.slice A' n' cap')) from fun w1 hb => by
    rw [hW0] at hb
    have h1 := box6 (w := w.alloc (.cells #[.bool p.pre, .int .i64 p.flag, .bool p.cross, .string p.strip, .string p.add, .slice A n cap] 51)) hb
    rw [World.size_alloc] at h1
    have hb0 : Below (w.alloc (.cells #[.bool p.pre, .int .i64 p.flag, .bool p.cross, .string p.strip, .string p.add, .slice A n cap] 51)).heap.size (w.alloc (.cells #[.bool p.pre, .int .i64 p.flag, .bool p.cross, .string p.strip, .string p.add, .slice A n cap] 51)) w1 :=
      ((Below.refl _ _).alloc (Nat.le_refl _) _).trans (hb.mono (by rw [World.size_alloc (w.alloc _)]; omega))
    exact ⟨box6 hb0, h1⟩)
  have HW0 := Lib.hid hW0
  have HN := Lib.hid (both_no (p := p) (s := s) (wd := wd))
  have HY := Lib.hid (both_yes (p := p) (s := s) (wd := wd))
  have hz1 := hf.strip
  have hz2 := hf'.strip
  have hz3 := hf.add
  have hz4 := hf'.add
  obtain ⟨R, hR⟩ : ∃ R, R = bothR p s wd := ⟨_, rfl⟩
  rw [← hR] at HN HY ⊢
  obtain ⟨b1, h1⟩ : ∃ b, b = (p.pre && !s.pre && p.cross && s.cross) := ⟨_, rfl⟩
  obtain ⟨b2, h2⟩ : ∃ b, b = okB (applyR p wd) := ⟨_, rfl⟩
  obtain ⟨b3, h3⟩ : ∃ b, b = okB (applyR s wd) := ⟨_, rfl⟩
  rw [← h1] at HN HY CG
  rw [← h2] at HN HY CP
  rw [← h3] at HN HY CS
  obtain ⟨ppre, pflag, pcross, pstrip, padd, pcond⟩ := p
  obtain ⟨spre, sflag, scross, sstrip, sadd, scond⟩ := s
  dsimp only at HB CG CP CS BX HW0 HN HY hz1 hz2 hz3 hz4 ⊢
  have wsum : IntKind.i64.wrap ((pstrip.size : Int) + sstrip.size) = (pstrip.size : Int) + sstrip.size := IntWalk.i64_in _ (by omega)
  have hcs : (wd.size : Int) < (pstrip.size : Int) + sstrip.size ∨ ¬ (wd.size : Int) < (pstrip.size : Int) + sstrip.size := Decidable.em _
  clear h0 h0' hf hf' hT hb0 hn hn' h1 h2 h3 hR
  go_enter Tryz.func62, Tryz.ntmps62
  go_upto_region 1 with fail
  rw [← HW0.out]
  clear hW0
  obtain ⟨⟨x0, x1, x2, x3, x4, x5⟩, y0, y1, y2, y3, y4, y5⟩ := BX.out W0 (Below.refl _ _)
  have hb0 := Below.refl W0.heap.size W0
  cases b1 with
  | false =>
    have hz := HN.out (by simp)
    subst hz
    clear hcs hb0
    go_wp2_with (go_at_call 78; refine CG.out.mono ?_; rintro e w1 ⟨rfl, hb⟩; have HX1 := Lib.hid hb; clear hb; obtain ⟨⟨z0, z1, z2, z3, z4, z5⟩, u0, u1, u2, u3, u4, u5⟩ := BX.out w1 HX1.out)
    have HB1 := Lib.hid (HB.out.trans (HX1.out.mono HB.out.size))
    go_wp2_with fail
    go_ret2
    exact ⟨rfl, HB1.out⟩
  | true =>
    clear hb0
    rcases hcs with hlt | hge
    · have hz := HN.out (by rintro ⟨_, h, _⟩; omega)
      subst hz
      go_wp2_with (go_at_call 78; refine CG.out.mono ?_; rintro e w1 ⟨rfl, hb⟩; have HX1 := Lib.hid hb; clear hb; obtain ⟨⟨z0, z1, z2, z3, z4, z5⟩, u0, u1, u2, u3, u4, u5⟩ := BX.out w1 HX1.out)
      have HB1 := Lib.hid (HB.out.trans (HX1.out.mono HB.out.size))
      clear x0 x1 x2 x3 x4 x5 y0 y1 y2 y3 y4 y5
      obtain ⟨⟨x0, x1, x2, x3, x4, x5⟩, y0, y1, y2, y3, y4, y5⟩ := BX.out w1 HX1.out
      go_wp2_with fail
      go_ret2
      exact ⟨rfl, HB1.out⟩
    · go_wp2_with (go_at_call 78; refine CG.out.mono ?_; rintro e w1 ⟨rfl, hb⟩; have HX1 := Lib.hid hb; clear hb; obtain ⟨⟨z0, z1, z2, z3, z4, z5⟩, u0, u1, u2, u3, u4, u5⟩ := BX.out w1 HX1.out)
      have HB1 := Lib.hid (HB.out.trans (HX1.out.mono HB.out.size))
      clear x0 x1 x2 x3 x4 x5 y0 y1 y2 y3 y4 y5
      obtain ⟨⟨x0, x1, x2, x3, x4, x5⟩, y0, y1, y2, y3, y4, y5⟩ := BX.out w1 HX1.out
      go_wp2_with (go_at_call 79; refine (CP.out _ HB1.out).mono ?_)
      rintro e w2 ⟨rfl, hb⟩
      have HB2 := Lib.hid (HB1.out.trans (hb.mono HB1.out.size))
      have HX2 := Lib.hid (HX1.out.trans (hb.mono HX1.out.size))
      clear x0 x1 x2 x3 x4 x5 y0 y1 y2 y3 y4 y5 hb
      obtain ⟨⟨x0, x1, x2, x3, x4, x5⟩, y0, y1, y2, y3, y4, y5⟩ := BX.out w2 HX2.out
      cases b2 with
      | false =>
        have hz := HN.out (by simp)
        subst hz
        go_wp2_with fail
        go_ret2
        exact ⟨rfl, HB2.out⟩
      | true =>
        go_wp2_with (go_at_call 79; refine (CS.out _ HB2.out).mono ?_)
        rintro e w3 ⟨rfl, hb⟩
        have HB3 := Lib.hid (HB2.out.trans (hb.mono HB2.out.size))
        have HX3 := Lib.hid (HX2.out.trans (hb.mono HX2.out.size))
        clear x0 x1 x2 x3 x4 x5 y0 y1 y2 y3 y4 y5 hb
        obtain ⟨⟨x0, x1, x2, x3, x4, x5⟩, y0, y1, y2, y3, y4, y5⟩ := BX.out w3 HX3.out
        cases b3 with
        | false =>
          have hz := HN.out (by simp)
          subst hz
          go_wp2_with fail
          go_ret2
          exact ⟨rfl, HB3.out⟩
        | true =>
          obtain ⟨k, hk⟩ : ∃ k, k = wd.size - sstrip.size := ⟨_, rfl⟩
          have hz : R = padd ++ wd.extract pstrip.size k ++ sadd := by rw [hk]; exact HY.out (by simp) (by omega) (by simp) (by simp)
          have HZ := Lib.hid hz
          have e1 : IntKind.i64.wrap ((wd.size : Int) - sstrip.size) = (k : Int) := by rw [IntWalk.i64_in _ (by omega)]; omega
          have e2 : (wd.size : Int) - sstrip.size = (k : Int) := by omega
          have q1 : (0 : Int) ≤ pstrip.size := by omega
          have q2 : (pstrip.size : Int) ≤ k := by omega
          have q3 : (k : Int) ≤ wd.size := by omega
          have q4 : (0 : Int) ≤ k := by omega
          have e3 : IntKind.i64.wrap (k : Int) = (k : Int) := IntWalk.i64_in _ (by omega)
          have hes : (wd.extract pstrip.size k).size = k - pstrip.size := by rw [ByteArray.size_extract]; omega
          have q5 : ¬ 9223372036854775807 < padd.size + (k - pstrip.size) := by omega
          have q6 : ¬ 9223372036854775807 < padd.size + (k - pstrip.size) + sadd.size := by omega
          have q7 : (padd ++ wd.extract pstrip.size k).size = padd.size + (k - pstrip.size) := by rw [ByteArray.size_append, hes]
          have q8 : ¬ 9223372036854775807 < padd.size + (min k wd.size - pstrip.size) := by omega
          have q9 : ¬ 9223372036854775807 < padd.size + (min k wd.size - pstrip.size) + sadd.size := by omega
          clear hk hz hge hz1 hz2 hz3 hz4 wsum
          go_upto_region 5 with fail
          go_quiet (fail)
          go_wp2_with fail
          go_ret2
          rw [HZ.out]
          exact ⟨by rw [r_okB]; rfl, below_drewN HB3.out _⟩
end Go.Proofs.YtcbmfkgekhadkaaGreatDoor
