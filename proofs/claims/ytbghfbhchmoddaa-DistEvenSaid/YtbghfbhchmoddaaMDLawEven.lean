/- DistEven by contract. -/
import Derived.Test.YtbghfbhchmoddaaMDLawAll
import Derived.Test.YtbghfbhchmoddaaMDSame
import Derived.Test.YtbghfbhchmoddaaMDApp
namespace Go.Proofs.Ytbghfbhchmoddaa
open Go Go.RowKit Go.Lib

theorem own_len {w : World} {B n k : Nat} {v : Value} {xs : List Value} (h : w.ownsRow B 3 1 v n xs) (hn : n = k) : w.ownsRow B 3 1 v k xs := by subst hn; exact h
theorem GB.nil {w w' : World} {v' : Value} (h : GB w w' (.slice none 0 0) v') : Below w.heap.size w w' := h.below (Below.refl _ _) (Nat.le_refl _) fun g hg => by cases hg
theorem GB.next {w0 w w' : World} {B n : Nat} {v v' : Value} {xs : List Value} (h : GB w w' v v') (hb : Below B w0 w) (hB : B ≤ w0.heap.size) (ho : w.ownsRow B 3 1 v n xs) : Below B w0 w' := h.below hb (Nat.le_trans hB hb.size) fun g hg => (ho.lt g hg).1
set_option maxRecDepth 100000 in
set_option maxHeartbeats 8000000 in
theorem even_law (w : World) (va vb vc : Value) (la lb lc : List Int) (qa : IntsQ w va la) (qb : IntsQ w vb lb) (qc : IntsQ w vc lc) (ba : la.length ≤ 100000000000000) (bb : lb.length ≤ 100000000000000) (bc : lc.length ≤ 100000000000000) :
    Calls Try.prog 4 #[va, vb, vc] w fun e w' => e = .returned (.bool true) ∧ Below w.heap.size w w' := by
  have CA := Lib.hid awake_any
  have HA := Lib.hid qa
  have HB := Lib.hid qb
  have HC := Lib.hid qc
  obtain ⟨A, cap, rfl⟩ := ints_form qa.at_
  obtain ⟨A', cap', rfl⟩ := ints_form qb.at_
  obtain ⟨A'', cap'', rfl⟩ := ints_form qc.at_
  obtain ⟨n, hn⟩ : ∃ n, n = la.length := ⟨_, rfl⟩
  obtain ⟨m, hm⟩ : ∃ m, m = lb.length := ⟨_, rfl⟩
  obtain ⟨c, hc⟩ : ∃ c, c = lc.length := ⟨_, rfl⟩
  rw [← hn] at HA ba ⊢
  rw [← hm] at HB bb ⊢
  rw [← hc] at HC bc ⊢
  have HN := Lib.hid (And.intro hn (And.intro hm hc))
  have wnc : IntKind.i64.wrap ((n : Int) + c) = (n : Int) + c := IntWalk.i64_in _ (by omega)
  have wmc : IntKind.i64.wrap ((m : Int) + c) = (m : Int) + c := IntWalk.i64_in _ (by omega)
  clear qa qb qc hn hm hc
  by_cases h1 : n + c ≤ 60 ∧ m + c ≤ 60
  · have g1 : decide ((60 : Int) < (n : Int) + c) = false := decide_eq_false (by omega)
    have g2 : decide ((60 : Int) < (m : Int) + c) = false := decide_eq_false (by omega)
    have wnm : IntKind.i64.wrap ((n : Int) - m) = (n : Int) - m := IntWalk.i64_in _ (by omega)
    have wmn : IntKind.i64.wrap ((m : Int) - n) = (m : Int) - n := IntWalk.i64_in _ (by omega)
    have hla : la.length ≤ 60 := by rw [← HN.out.1]; omega
    have hlb : lb.length ≤ 60 := by rw [← HN.out.2.1]; omega
    have hlc : lc.length ≤ 60 := by rw [← HN.out.2.2]; omega
    have CF := Lib.hid (fun wx (hx : Below w.heap.size w wx) => far_any wx _ _ la lb (HA.out.at_.keep hx) (HB.out.at_.keep hx) (by omega) (by omega))
    have CG := Lib.hid (fun wx (hx : Below w.heap.size w wx) => far_any wx _ _ lb la (HB.out.at_.keep hx) (HA.out.at_.keep hx) (by omega) (by omega))
    have CS := Lib.hid (fun wx (hx : Below w.heap.size w wx) => same_any wx _ _ la lb (HA.out.at_.keep hx) (HB.out.at_.keep hx) (by omega) (by omega))
    have CP := Lib.hid (fun wx v v' (hv : IntsAt wx v (lc ++ la)) (hv' : IntsAt wx v' (lc ++ lb)) => far_any wx v v' _ _ hv hv' (by rw [List.length_append]; omega) (by rw [List.length_append]; omega))
    rw [farL_comm lb la] at CG
    obtain ⟨d, hd⟩ : ∃ d, d = farL la lb := ⟨_, rfl⟩
    obtain ⟨d2, hd2⟩ : ∃ d2, d2 = farL (lc ++ la) (lc ++ lb) := ⟨_, rfl⟩
    have hle : d2 ≤ d := by rw [hd, hd2]; exact farL_app la lb lc
    have hmx : d ≤ max n m := by rw [hd, HN.out.1, HN.out.2.1]; exact farL_max la lb
    have hln : n ≤ d + m ∧ m ≤ d + n := by rw [hd, HN.out.1, HN.out.2.1]; exact farL_len la lb
    have hz : d = 0 ↔ la = lb := by rw [hd]; exact farL_zero la lb
    rw [← hd] at CF CG
    rw [← hd2] at CP
    obtain ⟨np, hnp⟩ : ∃ np, np = (lc ++ la).length := ⟨_, rfl⟩
    obtain ⟨nq, hnq⟩ : ∃ nq, nq = (lc ++ lb).length := ⟨_, rfl⟩
    have HNP := Lib.hid (And.intro hnp (And.intro hnq (And.intro hla (And.intro hlb hlc))))
    have k1 : ¬ ((d : Int) < (n : Int) - m) := by omega
    have k2 : ¬ ((d : Int) < (m : Int) - n) := by omega
    have k1' : (n : Int) - m ≤ d := by omega
    have k2' : (m : Int) - n ≤ d := by omega
    have k3 : (d2 : Int) ≤ d := by omega
    have HMX := Lib.hid hmx
    have HZ := Lib.hid hz
    clear hd hd2 hle hln hmx hz hnp hnq hla hlb hlc ba bb bc h1
    rcases Nat.lt_or_ge n m with ho | ho
    · have o1 : (n : Int) < m := by omega
      have o2 : ¬ (m : Int) < n := by omega
      have k4 : (d : Int) ≤ m := by have := HMX.out; omega
      clear ho
      by_cases hd0 : d = 0
      · have z1 : ((d : Int) == 0) = true := by simp [hd0]
        have z2 : decide ((d : Int) = 0) = true := by simp [hd0]
        have HE := Lib.hid (show decide (la = lb) = true from decide_eq_true (HZ.out.1 hd0))
        rw [HE.out] at CS
        clear hd0
        go_enter Try.func4, Try.ntmps4
        go_wp2_with fail
        refine (CF.out w (Below.refl _ _)).mono ?_
        rintro e w1 ⟨rfl, h1⟩
        have H1 := Lib.hid h1
        clear h1
        go_upto_region 5 with (first
          | (at_builtin; refine wpList_append_nums rfl _ _ rfl w3.heap.size (.slice A4 c c4) lc _ lb rfl HO4.out.2 rfl (HB.out.keep (H1.out.trans ((H3.out.trans (HO4.out.1.mono H3.out.size)).mono H1.out.size))) (by have := HNP.out; omega) HO4.out.1.size ?_; intro v5 w5 ho5 hg5; rw [← HNP.out.2.1] at ho5; obtain ⟨A5, c5, rfl⟩ := row_shape ho5; have HO5 := Lib.hid (And.intro (hg5.next HO4.out.1 (Nat.le_refl _) HO4.out.2) ho5); clear ho5 hg5)
          | (at_builtin; refine wpList_append_nums rfl _ _ rfl w3.heap.size (.slice none 0 0) [] _ lc rfl (World.ownsRow_nil _ _ _ _) rfl (HC.out.keep (H1.out.trans (H3.out.mono H1.out.size))) (by have := HNP.out; simp; omega) (Nat.le_refl _) ?_; intro v4 w4 ho4 hg4; rw [List.nil_append, ← HN.out.2.2] at ho4; obtain ⟨A4, c4, rfl⟩ := row_shape ho4; have HO4 := Lib.hid (And.intro hg4.nil (own_len ho4 HN.out.2.2)); clear ho4 hg4)
          | (at_builtin; refine wpList_append_nums rfl _ _ rfl w1.heap.size (.slice A2 c c2) lc _ la rfl HO2.out.2 rfl (HA.out.keep (H1.out.trans (HO2.out.1.mono H1.out.size))) (by have := HNP.out; omega) HO2.out.1.size ?_; intro v3 w3 ho3 hg3; rw [← HNP.out.1] at ho3; obtain ⟨A3, c3, rfl⟩ := row_shape ho3; have H3 := Lib.hid (hg3.next HO2.out.1 (Nat.le_refl _) HO2.out.2); have HO3 := Lib.hid (own_intsQ ho3 HNP.out.1); clear ho3 hg3)
          | (at_builtin; refine wpList_append_nums rfl _ _ rfl w1.heap.size (.slice none 0 0) [] _ lc rfl (World.ownsRow_nil _ _ _ _) rfl (HC.out.keep H1.out) (by have := HNP.out; simp; omega) (Nat.le_refl _) ?_; intro v2 w2 ho2 hg2; rw [List.nil_append, ← HN.out.2.2] at ho2; obtain ⟨A2, c2, rfl⟩ := row_shape ho2; have HO2 := Lib.hid (And.intro hg2.nil (own_len ho2 HN.out.2.2)); clear ho2 hg2))
        have HB5 := Lib.hid (H1.out.trans ((H3.out.trans (HO5.out.1.mono H3.out.size)).mono H1.out.size))
        have HP5 := Lib.hid (show IntsAt w5 (.slice A3 np c3) (lc ++ la) ∧ IntsAt w5 (.slice A5 nq c5) (lc ++ lb) from ⟨(HO3.out.keep HO5.out.1).at_, (own_intsQ HO5.out.2 HNP.out.2.1).at_⟩)
        clear HO2 HO3 HO4 HO5 H1 H3
        go_wp2_with fail
        refine (CG.out w5 HB5.out).mono ?_
        rintro e w6 ⟨rfl, h6⟩
        have HB6 := Lib.hid (HB5.out.trans (h6.mono HB5.out.size))
        have HP6 := Lib.hid (And.intro (HP5.out.1.keep h6) (HP5.out.2.keep h6))
        clear h6 HP5 HB5
        go_wp2_with fail
        refine (CS.out w6 HB6.out).mono ?_
        rintro e w7 ⟨rfl, h7⟩
        have HB7 := Lib.hid (HB6.out.trans (h7.mono HB6.out.size))
        have HP7 := Lib.hid (And.intro (HP6.out.1.keep h7) (HP6.out.2.keep h7))
        clear h7 HP6 HB6
        go_wp2_with fail
        refine (CP.out w7 _ _ HP7.out.1 HP7.out.2).mono ?_
        rintro e w8 ⟨rfl, h8⟩
        have HB8 := Lib.hid (HB7.out.trans (h8.mono HB7.out.size))
        clear h8 HP7 HB7
        go_wp2_with fail
        refine (CA.out w8).mono ?_
        rintro e w9 ⟨rfl, h9⟩
        have HB9 := Lib.hid (HB8.out.trans (h9.mono HB8.out.size))
        clear h9
        go_wp2_with fail
        go_ret
        exact ⟨rfl, HB9.out⟩
      · have z1 : ((d : Int) == 0) = false := by simp [hd0]
        have z2 : decide ((d : Int) = 0) = false := by simp [hd0]
        have HE := Lib.hid (show decide (la = lb) = false from decide_eq_false fun h => hd0 (HZ.out.2 h))
        rw [HE.out] at CS
        clear hd0
        go_enter Try.func4, Try.ntmps4
        go_wp2_with fail
        refine (CF.out w (Below.refl _ _)).mono ?_
        rintro e w1 ⟨rfl, h1⟩
        have H1 := Lib.hid h1
        clear h1
        go_upto_region 5 with (first
          | (at_builtin; refine wpList_append_nums rfl _ _ rfl w3.heap.size (.slice A4 c c4) lc _ lb rfl HO4.out.2 rfl (HB.out.keep (H1.out.trans ((H3.out.trans (HO4.out.1.mono H3.out.size)).mono H1.out.size))) (by have := HNP.out; omega) HO4.out.1.size ?_; intro v5 w5 ho5 hg5; rw [← HNP.out.2.1] at ho5; obtain ⟨A5, c5, rfl⟩ := row_shape ho5; have HO5 := Lib.hid (And.intro (hg5.next HO4.out.1 (Nat.le_refl _) HO4.out.2) ho5); clear ho5 hg5)
          | (at_builtin; refine wpList_append_nums rfl _ _ rfl w3.heap.size (.slice none 0 0) [] _ lc rfl (World.ownsRow_nil _ _ _ _) rfl (HC.out.keep (H1.out.trans (H3.out.mono H1.out.size))) (by have := HNP.out; simp; omega) (Nat.le_refl _) ?_; intro v4 w4 ho4 hg4; rw [List.nil_append, ← HN.out.2.2] at ho4; obtain ⟨A4, c4, rfl⟩ := row_shape ho4; have HO4 := Lib.hid (And.intro hg4.nil (own_len ho4 HN.out.2.2)); clear ho4 hg4)
          | (at_builtin; refine wpList_append_nums rfl _ _ rfl w1.heap.size (.slice A2 c c2) lc _ la rfl HO2.out.2 rfl (HA.out.keep (H1.out.trans (HO2.out.1.mono H1.out.size))) (by have := HNP.out; omega) HO2.out.1.size ?_; intro v3 w3 ho3 hg3; rw [← HNP.out.1] at ho3; obtain ⟨A3, c3, rfl⟩ := row_shape ho3; have H3 := Lib.hid (hg3.next HO2.out.1 (Nat.le_refl _) HO2.out.2); have HO3 := Lib.hid (own_intsQ ho3 HNP.out.1); clear ho3 hg3)
          | (at_builtin; refine wpList_append_nums rfl _ _ rfl w1.heap.size (.slice none 0 0) [] _ lc rfl (World.ownsRow_nil _ _ _ _) rfl (HC.out.keep H1.out) (by have := HNP.out; simp; omega) (Nat.le_refl _) ?_; intro v2 w2 ho2 hg2; rw [List.nil_append, ← HN.out.2.2] at ho2; obtain ⟨A2, c2, rfl⟩ := row_shape ho2; have HO2 := Lib.hid (And.intro hg2.nil (own_len ho2 HN.out.2.2)); clear ho2 hg2))
        have HB5 := Lib.hid (H1.out.trans ((H3.out.trans (HO5.out.1.mono H3.out.size)).mono H1.out.size))
        have HP5 := Lib.hid (show IntsAt w5 (.slice A3 np c3) (lc ++ la) ∧ IntsAt w5 (.slice A5 nq c5) (lc ++ lb) from ⟨(HO3.out.keep HO5.out.1).at_, (own_intsQ HO5.out.2 HNP.out.2.1).at_⟩)
        clear HO2 HO3 HO4 HO5 H1 H3
        go_wp2_with fail
        refine (CG.out w5 HB5.out).mono ?_
        rintro e w6 ⟨rfl, h6⟩
        have HB6 := Lib.hid (HB5.out.trans (h6.mono HB5.out.size))
        have HP6 := Lib.hid (And.intro (HP5.out.1.keep h6) (HP5.out.2.keep h6))
        clear h6 HP5 HB5
        go_wp2_with fail
        refine (CS.out w6 HB6.out).mono ?_
        rintro e w7 ⟨rfl, h7⟩
        have HB7 := Lib.hid (HB6.out.trans (h7.mono HB6.out.size))
        have HP7 := Lib.hid (And.intro (HP6.out.1.keep h7) (HP6.out.2.keep h7))
        clear h7 HP6 HB6
        go_wp2_with fail
        refine (CP.out w7 _ _ HP7.out.1 HP7.out.2).mono ?_
        rintro e w8 ⟨rfl, h8⟩
        have HB8 := Lib.hid (HB7.out.trans (h8.mono HB7.out.size))
        clear h8 HP7 HB7
        go_wp2_with fail
        refine (CA.out w8).mono ?_
        rintro e w9 ⟨rfl, h9⟩
        have HB9 := Lib.hid (HB8.out.trans (h9.mono HB8.out.size))
        clear h9
        go_wp2_with fail
        go_ret
        exact ⟨rfl, HB9.out⟩
    · have o1 : ¬ (n : Int) < m := by omega
      have k4 : (d : Int) ≤ n := by have := HMX.out; omega
      clear ho
      by_cases hd0 : d = 0
      · have z1 : ((d : Int) == 0) = true := by simp [hd0]
        have z2 : decide ((d : Int) = 0) = true := by simp [hd0]
        have HE := Lib.hid (show decide (la = lb) = true from decide_eq_true (HZ.out.1 hd0))
        rw [HE.out] at CS
        clear hd0
        go_enter Try.func4, Try.ntmps4
        go_wp2_with fail
        refine (CF.out w (Below.refl _ _)).mono ?_
        rintro e w1 ⟨rfl, h1⟩
        have H1 := Lib.hid h1
        clear h1
        go_upto_region 5 with (first
          | (at_builtin; refine wpList_append_nums rfl _ _ rfl w3.heap.size (.slice A4 c c4) lc _ lb rfl HO4.out.2 rfl (HB.out.keep (H1.out.trans ((H3.out.trans (HO4.out.1.mono H3.out.size)).mono H1.out.size))) (by have := HNP.out; omega) HO4.out.1.size ?_; intro v5 w5 ho5 hg5; rw [← HNP.out.2.1] at ho5; obtain ⟨A5, c5, rfl⟩ := row_shape ho5; have HO5 := Lib.hid (And.intro (hg5.next HO4.out.1 (Nat.le_refl _) HO4.out.2) ho5); clear ho5 hg5)
          | (at_builtin; refine wpList_append_nums rfl _ _ rfl w3.heap.size (.slice none 0 0) [] _ lc rfl (World.ownsRow_nil _ _ _ _) rfl (HC.out.keep (H1.out.trans (H3.out.mono H1.out.size))) (by have := HNP.out; simp; omega) (Nat.le_refl _) ?_; intro v4 w4 ho4 hg4; rw [List.nil_append, ← HN.out.2.2] at ho4; obtain ⟨A4, c4, rfl⟩ := row_shape ho4; have HO4 := Lib.hid (And.intro hg4.nil (own_len ho4 HN.out.2.2)); clear ho4 hg4)
          | (at_builtin; refine wpList_append_nums rfl _ _ rfl w1.heap.size (.slice A2 c c2) lc _ la rfl HO2.out.2 rfl (HA.out.keep (H1.out.trans (HO2.out.1.mono H1.out.size))) (by have := HNP.out; omega) HO2.out.1.size ?_; intro v3 w3 ho3 hg3; rw [← HNP.out.1] at ho3; obtain ⟨A3, c3, rfl⟩ := row_shape ho3; have H3 := Lib.hid (hg3.next HO2.out.1 (Nat.le_refl _) HO2.out.2); have HO3 := Lib.hid (own_intsQ ho3 HNP.out.1); clear ho3 hg3)
          | (at_builtin; refine wpList_append_nums rfl _ _ rfl w1.heap.size (.slice none 0 0) [] _ lc rfl (World.ownsRow_nil _ _ _ _) rfl (HC.out.keep H1.out) (by have := HNP.out; simp; omega) (Nat.le_refl _) ?_; intro v2 w2 ho2 hg2; rw [List.nil_append, ← HN.out.2.2] at ho2; obtain ⟨A2, c2, rfl⟩ := row_shape ho2; have HO2 := Lib.hid (And.intro hg2.nil (own_len ho2 HN.out.2.2)); clear ho2 hg2))
        have HB5 := Lib.hid (H1.out.trans ((H3.out.trans (HO5.out.1.mono H3.out.size)).mono H1.out.size))
        have HP5 := Lib.hid (show IntsAt w5 (.slice A3 np c3) (lc ++ la) ∧ IntsAt w5 (.slice A5 nq c5) (lc ++ lb) from ⟨(HO3.out.keep HO5.out.1).at_, (own_intsQ HO5.out.2 HNP.out.2.1).at_⟩)
        clear HO2 HO3 HO4 HO5 H1 H3
        go_wp2_with fail
        refine (CG.out w5 HB5.out).mono ?_
        rintro e w6 ⟨rfl, h6⟩
        have HB6 := Lib.hid (HB5.out.trans (h6.mono HB5.out.size))
        have HP6 := Lib.hid (And.intro (HP5.out.1.keep h6) (HP5.out.2.keep h6))
        clear h6 HP5 HB5
        go_wp2_with fail
        refine (CS.out w6 HB6.out).mono ?_
        rintro e w7 ⟨rfl, h7⟩
        have HB7 := Lib.hid (HB6.out.trans (h7.mono HB6.out.size))
        have HP7 := Lib.hid (And.intro (HP6.out.1.keep h7) (HP6.out.2.keep h7))
        clear h7 HP6 HB6
        go_wp2_with fail
        refine (CP.out w7 _ _ HP7.out.1 HP7.out.2).mono ?_
        rintro e w8 ⟨rfl, h8⟩
        have HB8 := Lib.hid (HB7.out.trans (h8.mono HB7.out.size))
        clear h8 HP7 HB7
        go_wp2_with fail
        refine (CA.out w8).mono ?_
        rintro e w9 ⟨rfl, h9⟩
        have HB9 := Lib.hid (HB8.out.trans (h9.mono HB8.out.size))
        clear h9
        go_wp2_with fail
        go_ret
        exact ⟨rfl, HB9.out⟩
      · have z1 : ((d : Int) == 0) = false := by simp [hd0]
        have z2 : decide ((d : Int) = 0) = false := by simp [hd0]
        have HE := Lib.hid (show decide (la = lb) = false from decide_eq_false fun h => hd0 (HZ.out.2 h))
        rw [HE.out] at CS
        clear hd0
        go_enter Try.func4, Try.ntmps4
        go_wp2_with fail
        refine (CF.out w (Below.refl _ _)).mono ?_
        rintro e w1 ⟨rfl, h1⟩
        have H1 := Lib.hid h1
        clear h1
        go_upto_region 5 with (first
          | (at_builtin; refine wpList_append_nums rfl _ _ rfl w3.heap.size (.slice A4 c c4) lc _ lb rfl HO4.out.2 rfl (HB.out.keep (H1.out.trans ((H3.out.trans (HO4.out.1.mono H3.out.size)).mono H1.out.size))) (by have := HNP.out; omega) HO4.out.1.size ?_; intro v5 w5 ho5 hg5; rw [← HNP.out.2.1] at ho5; obtain ⟨A5, c5, rfl⟩ := row_shape ho5; have HO5 := Lib.hid (And.intro (hg5.next HO4.out.1 (Nat.le_refl _) HO4.out.2) ho5); clear ho5 hg5)
          | (at_builtin; refine wpList_append_nums rfl _ _ rfl w3.heap.size (.slice none 0 0) [] _ lc rfl (World.ownsRow_nil _ _ _ _) rfl (HC.out.keep (H1.out.trans (H3.out.mono H1.out.size))) (by have := HNP.out; simp; omega) (Nat.le_refl _) ?_; intro v4 w4 ho4 hg4; rw [List.nil_append, ← HN.out.2.2] at ho4; obtain ⟨A4, c4, rfl⟩ := row_shape ho4; have HO4 := Lib.hid (And.intro hg4.nil (own_len ho4 HN.out.2.2)); clear ho4 hg4)
          | (at_builtin; refine wpList_append_nums rfl _ _ rfl w1.heap.size (.slice A2 c c2) lc _ la rfl HO2.out.2 rfl (HA.out.keep (H1.out.trans (HO2.out.1.mono H1.out.size))) (by have := HNP.out; omega) HO2.out.1.size ?_; intro v3 w3 ho3 hg3; rw [← HNP.out.1] at ho3; obtain ⟨A3, c3, rfl⟩ := row_shape ho3; have H3 := Lib.hid (hg3.next HO2.out.1 (Nat.le_refl _) HO2.out.2); have HO3 := Lib.hid (own_intsQ ho3 HNP.out.1); clear ho3 hg3)
          | (at_builtin; refine wpList_append_nums rfl _ _ rfl w1.heap.size (.slice none 0 0) [] _ lc rfl (World.ownsRow_nil _ _ _ _) rfl (HC.out.keep H1.out) (by have := HNP.out; simp; omega) (Nat.le_refl _) ?_; intro v2 w2 ho2 hg2; rw [List.nil_append, ← HN.out.2.2] at ho2; obtain ⟨A2, c2, rfl⟩ := row_shape ho2; have HO2 := Lib.hid (And.intro hg2.nil (own_len ho2 HN.out.2.2)); clear ho2 hg2))
        have HB5 := Lib.hid (H1.out.trans ((H3.out.trans (HO5.out.1.mono H3.out.size)).mono H1.out.size))
        have HP5 := Lib.hid (show IntsAt w5 (.slice A3 np c3) (lc ++ la) ∧ IntsAt w5 (.slice A5 nq c5) (lc ++ lb) from ⟨(HO3.out.keep HO5.out.1).at_, (own_intsQ HO5.out.2 HNP.out.2.1).at_⟩)
        clear HO2 HO3 HO4 HO5 H1 H3
        go_wp2_with fail
        refine (CG.out w5 HB5.out).mono ?_
        rintro e w6 ⟨rfl, h6⟩
        have HB6 := Lib.hid (HB5.out.trans (h6.mono HB5.out.size))
        have HP6 := Lib.hid (And.intro (HP5.out.1.keep h6) (HP5.out.2.keep h6))
        clear h6 HP5 HB5
        go_wp2_with fail
        refine (CS.out w6 HB6.out).mono ?_
        rintro e w7 ⟨rfl, h7⟩
        have HB7 := Lib.hid (HB6.out.trans (h7.mono HB6.out.size))
        have HP7 := Lib.hid (And.intro (HP6.out.1.keep h7) (HP6.out.2.keep h7))
        clear h7 HP6 HB6
        go_wp2_with fail
        refine (CP.out w7 _ _ HP7.out.1 HP7.out.2).mono ?_
        rintro e w8 ⟨rfl, h8⟩
        have HB8 := Lib.hid (HB7.out.trans (h8.mono HB7.out.size))
        clear h8 HP7 HB7
        go_wp2_with fail
        refine (CA.out w8).mono ?_
        rintro e w9 ⟨rfl, h9⟩
        have HB9 := Lib.hid (HB8.out.trans (h9.mono HB8.out.size))
        clear h9
        go_wp2_with fail
        go_ret
        exact ⟨rfl, HB9.out⟩
  · by_cases h2 : n + c ≤ 60
    · have g1 : decide ((60 : Int) < (n : Int) + c) = false := decide_eq_false (by omega)
      have g2 : decide ((60 : Int) < (m : Int) + c) = true := decide_eq_true (by omega)
      clear h1 h2
      go_enter Try.func4, Try.ntmps4
      go_wp2_with fail
      refine (CA.out w).mono ?_
      rintro e w1 ⟨rfl, h1⟩
      have H1 := Lib.hid h1
      clear h1
      go_wp2_with fail
      go_ret
      exact ⟨rfl, H1.out⟩
    · have g1 : decide ((60 : Int) < (n : Int) + c) = true := decide_eq_true (by omega)
      clear h1 h2
      go_enter Try.func4, Try.ntmps4
      go_wp2_with fail
      refine (CA.out w).mono ?_
      rintro e w1 ⟨rfl, h1⟩
      have H1 := Lib.hid h1
      clear h1
      go_wp2_with fail
      go_ret
      exact ⟨rfl, H1.out⟩
end Go.Proofs.Ytbghfbhchmoddaa
