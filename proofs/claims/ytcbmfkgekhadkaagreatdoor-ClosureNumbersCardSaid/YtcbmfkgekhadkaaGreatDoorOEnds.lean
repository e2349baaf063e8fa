/- cond's Starts and Ends by contract. -/
import Derived.Test.YtcbmfkgekhadkaaGreatDoorZGc
import Derived.Test.YtcbmfkgekhadkaaGreatDoorOFirst
namespace Go.Proofs.YtcbmfkgekhadkaaGreatDoor
open Go Go.RowKit

theorem zip_drop_self (l : List It) (cs : List Int) : startsP l cs = (decide (l.length ≤ cs.length) && (l.zip cs).all fun x => hasP x.1 x.2) := rfl

set_option maxRecDepth 100000 in
set_option maxHeartbeats 4000000 in
theorem cstarts_any (w : World) (v vc : Value) (l : List It) (cs : List Int) (h : ItemsAt w v l) (hc : IntsAt w vc cs) (hl : l.length ≤ 1000000000000) :
    Calls Tryz.prog 101 #[v, vc] w fun e w' => e = .returned (.bool (startsP l cs)) ∧ Below w.heap.size w w' := by
  have hbig := items_bd h
  have hbig2 := ints_bd hc
  have C1 := Lib.hid (checks_any w v l h hl)
  have HC := Lib.hid hc
  obtain ⟨A, cap, rfl, -⟩ := items_openO h
  obtain ⟨A', cap', rfl, -⟩ := ints_open hc
  clear h hc
  by_cases hle : l.length ≤ cs.length
  · have hd : startsP l cs = ((l.zip cs).all fun x => hasP x.1 x.2) := by unfold startsP; rw [decide_eq_true hle]; rfl
    rw [hd]
    have C2 := Lib.hid fun wx vx (hf : FunsAt w wx vx l) (hb : Below w.heap.size w wx) => hold_any w wx vx _ l cs hf (HC.out.keep hb) hle hb
    have hz : (l.length : Int) ≤ cs.length := by omega
    clear hd hle
    go_enter Tryz.func101, Tryz.ntmps101
    go_wp2_with (first
      | (go_at_call 124; refine C1.out.mono ?_; rintro e w1 ⟨v1, rfl, hf1, hb1⟩; have H1 := Lib.hid (And.intro hf1 hb1); clear hf1 hb1)
      | (go_at_call 123; refine (C2.out _ _ H1.out.1 H1.out.2).mono ?_; rintro e w2 ⟨rfl, hb2⟩; have H2 := Lib.hid (H1.out.2.trans (hb2.mono H1.out.2.size)); clear hb2))
    go_ret
    exact ⟨rfl, H2.out⟩
  · have hd : startsP l cs = false := by unfold startsP; rw [decide_eq_false hle]; rfl
    rw [hd]
    have hz : ¬ (l.length : Int) ≤ cs.length := by omega
    clear hd hle C1
    go_enter Tryz.func101, Tryz.ntmps101
    go_wp2
    go_ret
    exact ⟨rfl, Below.refl _ _⟩

/-- A slice's last part. -/
theorem ints_last {w : World} {A : Option Addr} {cap : Nat} {cs : List Int} (h : IntsAt w (.slice A cs.length cap) cs) (k : Nat) (hk : k ≤ cs.length) (hlt : k < cs.length) : ∃ b off, A = some ⟨b, off, none⟩ ∧ k < cap ∧ cs.length ≤ cap ∧ IntsAt w (.slice (some ⟨b, off + k, none⟩) (cs.length - k) (cap - k)) (cs.drop k) := by
  obtain ⟨rfl, _⟩ | ⟨b, off, cp, e, h1, h2, h3, h4⟩ := h
  · simp at hlt
  · injection e with e1 e2 e3
    subst e1
    subst e3
    have := ints_part (cs := cs) h1 h3 h4 k (cs.length - k) (n := cs.length - k) (by rw [List.length_take, List.length_drop, Nat.min_self]) (by omega)
    rw [List.take_of_length_le (by rw [List.length_drop]; exact Nat.le_refl _)] at this
    exact ⟨b, off, rfl, by omega, h2, this⟩

set_option maxRecDepth 100000 in
set_option maxHeartbeats 4000000 in
theorem cends_any (w : World) (v vc : Value) (l : List It) (cs : List Int) (h : ItemsAt w v l) (hc : IntsAt w vc cs) (hl : l.length ≤ 1000000000000) :
    Calls Tryz.prog 102 #[v, vc] w fun e w' => e = .returned (.bool (endsP l cs)) ∧ Below w.heap.size w w' := by
  have hbig := items_bd h
  have hbig2 := ints_bd hc
  have C1 := Lib.hid (fun m => checks_any (w.drewN m) v l (h.keep (below_drewN (Below.refl _ _) m)) hl)
  have HC := Lib.hid hc
  obtain ⟨A, cap, rfl, -⟩ := items_openO h
  obtain ⟨A', cap', rfl, -⟩ := ints_open hc
  clear h hc
  by_cases hle : l.length ≤ cs.length
  · have hd : endsP l cs = ((l.zip (cs.drop (cs.length - l.length))).all fun x => hasP x.1 x.2) := by
      unfold endsP startsP
      rw [decide_eq_true hle, decide_eq_true (by rw [List.length_drop]; omega)]
      rfl
    rw [hd]
    clear hd
    have HD := Lib.hid (below_drewN (Below.refl w.heap.size w) 1)
    have C2 := Lib.hid fun wx vx v2 (hf : FunsAt (w.drewN 1) wx vx l) (hi : IntsAt wx v2 (cs.drop (cs.length - l.length))) (hb : Below (w.drewN 1).heap.size (w.drewN 1) wx) => hold_any (w.drewN 1) wx vx v2 l (cs.drop (cs.length - l.length)) hf hi (by rw [List.length_drop]; omega) hb
    rcases Nat.eq_zero_or_pos l.length with h0 | h0
    · have hnil : l = [] := List.eq_nil_of_length_eq_zero h0
      have hdr : cs.drop (cs.length - l.length) = [] := by rw [h0, Nat.sub_zero, List.drop_length]
      have hz : decide (l.length ≤ cs.length) = true := decide_eq_true hle
      have HI := Lib.hid (fun wx a c => (show IntsAt wx (.slice a 0 c) (cs.drop (cs.length - l.length)) from .inl ⟨hdr, a, c, rfl⟩))
      have HA := Lib.hid (show cs.length ≤ cap' ∨ cs.length = 0 by
        rcases HC.out with ⟨e, _⟩ | ⟨b, off, cp, e, h1, h2, h3, h4⟩
        · right; rw [e]; rfl
        · left; injection e with e1 e2 e3; omega)
      have HA2 := Lib.hid (show cs.length = 0 ∨ ∃ b off, A' = some ⟨b, off, none⟩ by
        rcases HC.out with ⟨e, _⟩ | ⟨b, off, cp, e, h1, h2, h3, h4⟩
        · left; rw [e]; rfl
        · right; injection e with e1 e2 e3; exact ⟨b, off, e1⟩)
      clear hle hdr
      subst hnil
      simp only [List.length_nil] at hz ⊢ C1
      obtain ⟨m, hm⟩ : ∃ m, m = cs.length := ⟨_, rfl⟩
      rw [← hm] at hz hbig2 HA HA2 ⊢
      have e1 : (m : Int) - 0 = m := by omega
      have e2 : IntKind.i64.wrap (m : Int) = m := IntWalk.i64_in _ (by omega)
      have g0 : (0 : Int) ≤ m := by omega
      have g5 : (m : Int) ≤ m := by omega
      clear hm
      have g6 : m ≤ cap' := by have := HA.out; omega
      have e3 : m - m = 0 := by omega
      have gz : decide (m ≤ m) = true := decide_eq_true (by omega)
      rcases A' with _ | ⟨b, off, ix⟩
      · by_cases h1 : cap' = m
        · subst h1
          go_enter Tryz.func102, Tryz.ntmps102
          go_wp2_with fail
          go_region_held3 (fun wx => True)
            (trivial)
            (first
              | (go_at_call 124; refine (C1.out 1).mono ?_; rintro e w1 ⟨v1, rfl, hf1, hb1⟩; have H1 := Lib.hid (And.intro hf1 (And.intro hb1 (HD.out.trans (hb1.mono HD.out.size)))); clear hf1 hb1)
              | (go_at_call 123; refine (C2.out _ _ _ H1.out.1 (HI.out _ _ _) H1.out.2.1).mono ?_; rintro e w2 ⟨rfl, hb2⟩; have H2 := Lib.hid (H1.out.2.2.trans (hb2.mono H1.out.2.2.size)); clear hb2))
          go_wp2_with fail
          go_ret
          exact ⟨rfl, H2.out⟩
        · skip
          go_enter Tryz.func102, Tryz.ntmps102
          go_wp2_with fail
          go_region_held3 (fun wx => True)
            (trivial)
            (first
              | (go_at_call 124; refine (C1.out 1).mono ?_; rintro e w1 ⟨v1, rfl, hf1, hb1⟩; have H1 := Lib.hid (And.intro hf1 (And.intro hb1 (HD.out.trans (hb1.mono HD.out.size)))); clear hf1 hb1)
              | (go_at_call 123; refine (C2.out _ _ _ H1.out.1 (HI.out _ _ _) H1.out.2.1).mono ?_; rintro e w2 ⟨rfl, hb2⟩; have H2 := Lib.hid (H1.out.2.2.trans (hb2.mono H1.out.2.2.size)); clear hb2))
          go_wp2_with fail
          go_ret
          exact ⟨rfl, H2.out⟩
      · by_cases h1 : cap' = m
        · subst h1
          go_enter Tryz.func102, Tryz.ntmps102
          go_wp2_with fail
          go_region_held3 (fun wx => True)
            (trivial)
            (first
              | (go_at_call 124; refine (C1.out 1).mono ?_; rintro e w1 ⟨v1, rfl, hf1, hb1⟩; have H1 := Lib.hid (And.intro hf1 (And.intro hb1 (HD.out.trans (hb1.mono HD.out.size)))); clear hf1 hb1)
              | (go_at_call 123; refine (C2.out _ _ _ H1.out.1 (HI.out _ _ _) H1.out.2.1).mono ?_; rintro e w2 ⟨rfl, hb2⟩; have H2 := Lib.hid (H1.out.2.2.trans (hb2.mono H1.out.2.2.size)); clear hb2))
          go_wp2_with fail
          go_ret
          exact ⟨rfl, H2.out⟩
        · skip
          go_enter Tryz.func102, Tryz.ntmps102
          go_wp2_with fail
          go_region_held3 (fun wx => True)
            (trivial)
            (first
              | (go_at_call 124; refine (C1.out 1).mono ?_; rintro e w1 ⟨v1, rfl, hf1, hb1⟩; have H1 := Lib.hid (And.intro hf1 (And.intro hb1 (HD.out.trans (hb1.mono HD.out.size)))); clear hf1 hb1)
              | (go_at_call 123; refine (C2.out _ _ _ H1.out.1 (HI.out _ _ _) H1.out.2.1).mono ?_; rintro e w2 ⟨rfl, hb2⟩; have H2 := Lib.hid (H1.out.2.2.trans (hb2.mono H1.out.2.2.size)); clear hb2))
          go_wp2_with fail
          go_ret
          exact ⟨rfl, H2.out⟩
    · obtain ⟨b, off, rfl, hk, g4, hi⟩ := ints_last HC.out (cs.length - l.length) (by omega) (by omega)
      have hz : decide (l.length ≤ cs.length) = true := decide_eq_true hle
      obtain ⟨k, hkk⟩ : ∃ k, k = cs.length - l.length := ⟨_, rfl⟩
      have e1 : (cs.length : Int) - l.length = k := by omega
      have hi2 : cs.length - k = l.length := by omega
      rw [← hkk] at hk hi C2 ⊢
      rw [hi2] at hi
      have HI := Lib.hid hi
      have e2 : IntKind.i64.wrap (k : Int) = k := by exact IntWalk.i64_in _ (by omega)
      have g0 : (0 : Int) ≤ k := by omega
      have g1 : (k : Int) ≤ cs.length := by omega
      have g3 : (k : Int) ≤ cap' := by omega
      have g2 : ¬ cap' = k := by omega
      have HK := Lib.hid hkk
      clear hkk hi
      go_enter Tryz.func102, Tryz.ntmps102
      go_wp2_with fail
      go_region_held3 (fun wx => True)
        (trivial)
        (first
          | (go_at_call 124; refine (C1.out 1).mono ?_; rintro e w1 ⟨v1, rfl, hf1, hb1⟩; have H1 := Lib.hid (And.intro hf1 (And.intro hb1 (HD.out.trans (hb1.mono HD.out.size)))); clear hf1 hb1)
          | (go_at_call 123; refine (C2.out _ _ _ H1.out.1 (HI.out.keep H1.out.2.2) H1.out.2.1).mono ?_; rintro e w2 ⟨rfl, hb2⟩; have H2 := Lib.hid (H1.out.2.2.trans (hb2.mono H1.out.2.2.size)); clear hb2))
      go_wp2_with fail
      go_ret
      exact ⟨rfl, H2.out⟩
  · have hd : endsP l cs = false := by unfold endsP; rw [decide_eq_false hle]; rfl
    rw [hd]
    have hz : decide (l.length ≤ cs.length) = false := decide_eq_false hle
    clear hd hle C1
    go_enter Tryz.func102, Tryz.ntmps102
    go_wp2_with fail
    go_quiet (fail)
    go_wp2_with fail
    go_ret
    exact ⟨rfl, below_drewN (Below.refl _ _) _⟩
end Go.Proofs.YtcbmfkgekhadkaaGreatDoor
