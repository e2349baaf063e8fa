/- The landed answer, Parse by contract. -/
import Derived.Test.YteenleedonmkmaaGreatDoorWLines
import Derived.StillTailTactics
namespace Go.Proofs.YteenleedonmkmaaGreatDoor
open Go Go.RowKit Go.Lib

/-- What answer answers. -/
def AnsE (w0 w' : World) (HA : Nat) (d : Rd) (k : Nat) (e : Ending) : Prop :=
  (∃ (n : Nat) (c : Int), endA d = (af0, n, c) ∧ e = .returned (.tuple #[.agg #[.slice none 0 0, .slice none 0 0], .int .i64 n, .int .i64 c]) ∧ RdAt w0 w' HA d k) ∨
  (∃ F rv pv xs m, LQ w0 w' HA F rv pv xs d (k : Nat) m ∧ endA d = (⟨d.rules, d.pairs⟩, 0, 0) ∧ e = .returned (.tuple #[.agg #[rv, pv], .int .i64 0, .int .i64 0]))
theorem AnsE.no {w0 w' : World} {HA : Nat} {d : Rd} {k n : Nat} {c : Int} (h : endA d = (af0, n, c)) (hr : RdAt w0 w' HA d k) : AnsE w0 w' HA d k (.returned (.tuple #[.agg #[.slice none 0 0, .slice none 0 0], .int .i64 n, .int .i64 c])) := .inl ⟨n, c, h, rfl, hr⟩

set_option maxRecDepth 100000 in
set_option maxHeartbeats 1000000 in
theorem wans_any (w0 w : World) (HA : Nat) (d : Rd) (k : Nat) (h : RdAt w0 w HA d k) :
    Calls Tryz.prog 13 #[.pointer (some ⟨HA, 0, none⟩)] w fun e w' => AnsE w0 w' HA d k e := by
  obtain ⟨W0, hW0⟩ : ∃ W0, W0 = w.alloc (.cells #[.slice none 0 0, .slice none 0 0] 25) := ⟨_, rfl⟩
  have hb0 : Below w.heap.size w W0 := by rw [hW0]; exact (Below.refl _ _).alloc (Nat.le_refl _) _
  have HB := Lib.hid hb0
  have BX := show ∀ wx, Below W0.heap.size W0 wx → _ from fun wx hb => And.intro (box2 (hW0 ▸ hb)) (box2f (hW0 ▸ hb))
  obtain ⟨⟨x0, x1⟩, fz⟩ := BX W0 (Below.refl _ _)
  clear BX
  obtain ⟨F, rv, pv, xs, h⟩ := h
  obtain ⟨m, hm⟩ : ∃ m : Nat, m = flagA [] d.rules d.at_ := ⟨_, rfl⟩
  rw [← hm] at h
  have HQ := Lib.hid (show ∀ wx, Below w.heap.size w wx → LQ w0 wx HA F rv pv xs d (k : Nat) (m : Nat) from fun wx hb => h.keep hb)
  have HR := Lib.hid (show ∀ wx, Below w.heap.size w wx → RdAt w0 wx HA d k from fun wx hb => ⟨F, rv, pv, xs, hm ▸ h.keep hb⟩)
  have CB := Lib.hid (wbig_any w0 W0 HA F rv pv xs d _ _ (HQ.out W0 hb0))
  obtain ⟨y0, y1, y2, y3, y4, -⟩ := (HQ.out W0 hb0).boxc
  have HM := Lib.hid hm
  have HW0 := Lib.hid hW0
  clear h hm hb0
  cases hbig : bigB d with
  | true =>
    have HZ := Lib.hid (show endA d = (af0, 0, 3) by
      unfold bigB at hbig
      rw [decide_eq_true_eq] at hbig
      exact endA_big (d := d) 0 [] hbig)
    rw [hbig] at CB
    clear hbig y0 y1 y2 y3 y4
    go_enter Tryz.func13, Tryz.ntmps13
    go_upto_region 1 with fail
    rw [← HW0.out]
    clear hW0
    go_wp2_with (go_at_call 30; refine CB.out.mono ?_; rintro e w6 ⟨rfl, rfl⟩)
    exact bodyPost_ret (v := .tuple #[.agg #[.slice none 0 0, .slice none 0 0], .int .i64 (0 : Nat), .int .i64 3]) (by simp [results, Tryz.results13, go_sem, x0, x1]) rfl (AnsE.no HZ.out (HR.out _ (put2_below HB.out (Nat.le_refl _) _ _)))
  | false =>
    have hnb : ¬ (200 < d.rules.length ∨ 200 < d.pairs.length) := by unfold bigB at hbig; rwa [decide_eq_false_iff_not] at hbig
    rw [hbig] at CB
    obtain ⟨b, hb⟩ : ∃ b, b = d.bad := ⟨_, rfl⟩
    rw [← hb] at y3
    by_cases h1 : 0 < b
    · have HZ := Lib.hid (show endA d = (af0, b, 5) by
        unfold endA
        rw [if_neg hnb, if_pos (by omega), hb])
      have h1' : (0 : Int) < b := by omega
      have hbk : b = 0 ∨ b ≠ 0 := by omega
      clear hbig hnb hb y0 y1 y2 y4 h1 hbk
      go_enter Tryz.func13, Tryz.ntmps13
      go_upto_region 1 with fail
      rw [← HW0.out]
      clear hW0
      go_upto_region 4 with (go_at_call 30; refine CB.out.mono ?_; rintro e w6 ⟨rfl, rfl⟩)
      have HD2 := Lib.hid HB.out
      go_region
      go_wp2_with fail
      exact bodyPost_ret (v := .tuple #[.agg #[.slice none 0 0, .slice none 0 0], .int .i64 b, .int .i64 5]) (by simp [results, Tryz.results13, go_sem, x0, x1]) rfl (AnsE.no HZ.out (HR.out _ (put2_below HD2.out (Nat.le_refl _) _ _).drew))
    · have hb0 : ((b : Nat) : Int) = 0 := by omega
      rw [hb0] at y3
      by_cases h2 : 0 < m
      · have HZ := Lib.hid (show endA d = (af0, m, 6) by
          unfold endA
          rw [if_neg hnb, if_neg (by omega), ← HM.out, if_pos h2])
        have h1' : (0 : Int) < m := by omega
        clear hbig hnb hb y0 y1 y2 h1 h2 hb0
        go_enter Tryz.func13, Tryz.ntmps13
        go_upto_region 1 with fail
        rw [← HW0.out]
        clear hW0
        go_upto_region 6 with (go_at_call 30; refine CB.out.mono ?_; rintro e w6 ⟨rfl, rfl⟩)
        have HD2 := Lib.hid HB.out
        go_region
        go_wp2_with fail
        exact bodyPost_ret (v := .tuple #[.agg #[.slice none 0 0, .slice none 0 0], .int .i64 m, .int .i64 6]) (by simp [results, Tryz.results13, go_sem, x0, x1]) rfl (AnsE.no HZ.out (HR.out _ (put2_below HD2.out (Nat.le_refl _) _ _).drew))
      · have HZ := Lib.hid (show endA d = (⟨d.rules, d.pairs⟩, 0, 0) by
          unfold endA
          rw [if_neg hnb, if_neg (by omega), ← HM.out, if_neg h2])
        have hm0 : ((m : Nat) : Int) = 0 := by omega
        rw [hm0] at y4
        obtain ⟨RA, cR, RB, cR', rfl, rfl, -, -⟩ := (HQ.out w (Below.refl _ _)).forms
        obtain ⟨pn, hpn⟩ : ∃ n, n = d.pairs.length := ⟨_, rfl⟩
        obtain ⟨rn, hrn⟩ : ∃ n, n = d.rules.length := ⟨_, rfl⟩
        rw [← hrn, ← hpn] at HQ
        rw [← hrn] at y0
        rw [← hpn] at y1
        clear hbig hnb hb y2 h1 h2 hb0 hm0 hpn hrn
        go_enter Tryz.func13, Tryz.ntmps13
        go_upto_region 1 with fail
        rw [← HW0.out]
        clear hW0
        go_wp2_with (go_at_call 30; refine CB.out.mono ?_; rintro e w6 ⟨rfl, rfl⟩)
        exact bodyPost_ret (v := .tuple #[.agg #[.slice RA rn cR, .slice RB pn cR'], .int .i64 0, .int .i64 0]) (by simp [results, Tryz.results13, go_sem, x0, x1]) rfl (Or.inr ⟨_, _, _, _, _, HQ.out _ (put2_below HB.out (Nat.le_refl _) _ _), HZ.out, rfl⟩)

/-- A cell below the file is written. -/
theorem LQ.low {w0 w : World} {HA : Nat} {F : Nat → Prop} {rv pv : Value} {xs : List Value} {d : Rd} {k m : Int} (h : LQ w0 w HA F rv pv xs d k m) {q o : Nat} {v : Value} (hq : w0.heap.size ≤ q) (hlt : q < HA) : LQ w0 (w.setCell ⟨q, o, none⟩ v) HA F rv pv xs d k m := by
  refine ⟨(set_other _ _ _ _ (by omega)).trans h.box, own_blk h.rrow fun g hg => set_other _ _ _ _ ?_, h.rules.still (by rw [set_size]; exact Nat.le_refl _) fun b hF _ => set_other _ _ _ _ ?_, own_blk h.prow fun g hg => set_other _ _ _ _ ?_, fun b hF => by rw [set_size]; exact h.foot b hF, h.base, h.below.setCell (p := ⟨q, o, none⟩) hq _⟩
  · have := (h.rrow.lt g hg).1; omega
  · have := (h.foot b hF).1; omega
  · have := (h.prow.lt g hg).1; omega
theorem LQ.start2 (w0 w : World) (hb : Below w0.heap.size w0 w) : LQ w0 (w.alloc (.cells #[.slice none 0 0, .slice none 0 0, .int .i64 0, .int .i64 0, .int .i64 0] 41)) w.heap.size (fun _ => False) (.slice none 0 0) (.slice none 0 0) [] rd0 0 0 :=
  ⟨World.alloc_heap_new w _, World.ownsRow_nil _ _ _ _, RulesIn.nil _ _, World.ownsRow_nil _ _ _ _, fun _ h => h.elim, hb.size, hb.alloc hb.size _⟩

/-- What Parse answers. -/
def WParseE (w w' : World) (o : Af × Nat × Int) (e : Ending) : Prop := ∃ v, e = .returned (.tuple #[v, .int .i64 (o.2.1 : Nat), .int .i64 o.2.2]) ∧ AffAt w' v o.1 ∧ Below w.heap.size w w'
theorem WParseE.no {w w' : World} {o : Af × Nat × Int} {n : Nat} {c : Int} (h : o = (af0, n, c)) (hb : Below w.heap.size w w') : WParseE w w' o (.returned (.tuple #[.agg #[.slice none 0 0, .slice none 0 0], .int .i64 n, .int .i64 c])) := by
  subst h; exact ⟨_, rfl, ⟨none, 0, none, 0, rfl, .inl ⟨rfl, _, _, rfl⟩, .inl ⟨rfl, _, _, rfl⟩⟩, hb⟩

set_option maxRecDepth 100000 in
set_option maxHeartbeats 1000000 in
theorem wparse_any (w : World) (s : ByteArray) (hs : s.size ≤ 1000000000) (hT : Lib.Utf8Tabs 1 2 w) :
    Calls Tryz.prog 6 #[.string s] w fun e w' => WParseE w w' (parseA s) e := by
  obtain ⟨W0, hW0⟩ : ∃ W0, W0 = w.alloc (.cells #[.slice none 0 0, .slice none 0 0] 25) := ⟨_, rfl⟩
  have hb0 : Below w.heap.size w W0 := by rw [hW0]; exact (Below.refl _ _).alloc (Nat.le_refl _) _
  have HB := Lib.hid hb0
  have BX := Lib.hid (show ∀ wx, Below W0.heap.size W0 wx → _ from fun wx hb => And.intro (box2 (hW0 ▸ hb)) (box2f (hW0 ▸ hb)))
  have HW0 := Lib.hid hW0
  have hH0 : w.heap.size < W0.heap.size := by rw [hW0, World.size_alloc]; omega
  by_cases hbig : (65536 : Int) < s.size
  · have HZ := Lib.hid (show parseA s = (af0, 0, 3) by unfold parseA; rw [if_pos (by omega)])
    clear hb0 hH0
    go_enter Tryz.func6, Tryz.ntmps6
    go_upto_region 1 with fail
    rw [← HW0.out]
    clear hW0
    obtain ⟨⟨x0, x1⟩, fz⟩ := BX.out W0 (Below.refl _ _)
    go_wp2_with fail
    exact bodyPost_ret (v := .tuple #[.agg #[.slice none 0 0, .slice none 0 0], .int .i64 (0 : Nat), .int .i64 3]) (by simp [results, Tryz.results6, go_sem, x0, x1]) rfl (WParseE.no HZ.out (put2_below HB.out (Nat.le_refl _) _ _))
  have HP := Lib.hid (show parseA s = endA (readA rd0 1 (linesL s.data.toList)) by unfold parseA; rw [if_neg (by omega)])
  have hbW := (Below.refl W0.heap.size W0).alloc (Nat.le_refl _) (.cells #[.slice none 0 0, .slice none 0 0, .int .i64 0, .int .i64 0, .int .i64 0] 41)
  have CE := Lib.hid (weach_any W0 (W0.alloc (.cells #[.slice none 0 0, .slice none 0 0, .int .i64 0, .int .i64 0, .int .i64 0] 41)) W0.heap.size s ⟨_, _, _, _, LQ.start2 W0 W0 (Below.refl _ _)⟩ hs (tabs_below hT hb0))
  have HH := Lib.hid hH0
  clear hb0 hH0 hT hbW
  go_enter Tryz.func6, Tryz.ntmps6
  go_upto_region 1 with fail
  rw [← HW0.out]
  clear hW0
  go_wp2_with (go_at_call 11; refine CE.out.mono ?_; rintro e w1 ⟨rfl, hea⟩; have HEA := Lib.hid hea; clear hea CE)
  obtain ⟨d, k, hr, hk, he⟩ := HEA.out
  have HE := Lib.hid (show parseA s = endA d from HP.out.trans he.symm)
  have CA := Lib.hid (wans_any W0 w1 W0.heap.size d k hr)
  clear hr he hk HEA
  go_wp2_with (go_at_call 13; refine CA.out.mono ?_)
  rintro e w2 hans
  rcases hans with ⟨n, c, hz, rfl, hr⟩ | ⟨F, rv, pv, xs, m, hq, hz, rfl⟩
  · have HZ := Lib.hid (HE.out.trans hz)
    have HB2 := Lib.hid hr.below
    obtain ⟨⟨x0, x1⟩, fz⟩ := BX.out w2 hr.below
    clear hz hr CA
    go_wp2_with fail
    exact bodyPost_ret (v := .tuple #[.agg #[.slice none 0 0, .slice none 0 0], .int .i64 n, .int .i64 c]) (by simp [results, Tryz.results6, go_sem, x0, x1]) rfl (WParseE.no HZ.out (put2_below (HB.out.trans (HB2.out.mono HB.out.size)) (Nat.le_refl _) _ _))
  · have HZ := Lib.hid (HE.out.trans hz)
    obtain ⟨RA, cR, RB, cR', rfl, rfl, -, -⟩ := hq.forms
    obtain ⟨⟨x0, x1⟩, fz⟩ := BX.out w2 hq.below
    have HQ := Lib.hid hq
    obtain ⟨pn, hpn⟩ : ∃ n, n = d.pairs.length := ⟨_, rfl⟩
    obtain ⟨rn, hrn⟩ : ∃ n, n = d.rules.length := ⟨_, rfl⟩
    rw [← hrn, ← hpn] at HQ ⊢
    have HB2 := Lib.hid (HB.out.trans (hq.below.mono HB.out.size))
    clear hz hq CA hpn hrn
    go_wp2_with fail
    refine bodyPost_ret (v := .tuple #[.agg #[.slice RA rn cR, .slice RB pn cR'], .int .i64 0, .int .i64 0]) (by simp [results, Tryz.results6, go_sem, x0, x1]) rfl ?_
    rw [HZ.out]
    refine ⟨_, rfl, ?_, put2_below HB2.out (Nat.le_refl _) _ _⟩
    have hq := HQ.out
    have hq2 : LQ w w2 W0.heap.size F (.slice RA rn cR) (.slice RB pn cR') xs d (k : Nat) m := ⟨hq.box, hq.rrow, hq.rules, hq.prow, hq.foot, Nat.le_of_lt HH.out, HB2.out⟩
    exact ((hq2.low (q := w.heap.size) (o := 0) (v := .slice RA rn cR) (Nat.le_refl _) HH.out).low (q := w.heap.size) (o := 1) (v := .slice RB pn cR') (Nat.le_refl _) HH.out).reads
end Go.Proofs.YteenleedonmkmaaGreatDoor
