/- DistEdits by contract. -/
import Derived.Test.YtbghfbhchmoddaaMDLawAll
import Derived.Test.YtbghfbhchmoddaaMDPlace
import Derived.Test.YtbghfbhchmoddaaMDSub
import Derived.Deep.RegionHeld3
namespace Go.Proofs.Ytbghfbhchmoddaa
open Go Go.RowKit Go.Lib

/-- What stands when i changes are done. -/
structure EdS (w wr : World) (la : List Int) (nh : Nat) (A : Option Addr) (n c i : Nat) (L : List Int) : Prop where
  len : n = L.length
  le : n ≤ 40 + i
  own : wr.ownsRow w.heap.size 3 1 (.slice A n c) n (L.map (Value.int .i64))
  bel : Below w.heap.size w wr
  ed : Near1 i la L ∨ (nh ≤ 1 ∧ 1 ≤ i ∧ farL la L ≤ i)
theorem ed_far {la L : List Int} {nh i : Nat} (h : Near1 i la L ∨ (nh ≤ 1 ∧ 1 ≤ i ∧ farL la L ≤ i)) : farL la L ≤ i := h.elim (·.far) (·.2.2)
/-- The numbers that a change is told by. -/
theorem tell (K n : Nat) (hK : K < 1048576) (hn : n ≤ 100) : ∃ q r at' : Nat, (Int.tdiv (K : Int) 4 = (q : Int) ∧ IntKind.i64.wrap (q : Int) = (q : Int)) ∧ (Int.tmod (K : Int) 4 = (r : Int) ∧ IntKind.i64.wrap (r : Int) = (r : Int)) ∧ IntKind.i64.wrap ((n : Int) + 1) = ((n + 1 : Nat) : Int) ∧
    (Int.tmod (q : Int) ((n + 1 : Nat) : Int) = (at' : Int) ∧ IntKind.i64.wrap (at' : Int) = (at' : Int)) ∧ r < 4 ∧ at' ≤ n := by
  refine ⟨K / 4, K % 4, (K / 4) % (n + 1), ⟨?_, ?_⟩, ⟨?_, ?_⟩, ?_, ⟨?_, ?_⟩, by omega, ?_⟩
  · rw [Int.tdiv_eq_ediv_of_nonneg (by omega)]; omega
  · rw [IntWalk.i64_in _ (by omega)]
  · rw [Int.tmod_eq_emod_of_nonneg (by omega)]; omega
  · rw [IntWalk.i64_in _ (by omega)]
  · rw [IntWalk.i64_in _ (by omega)]; omega
  · rw [Int.tmod_eq_emod_of_nonneg (by omega)]
    exact (Int.natCast_emod _ _).symm
  · have := Nat.mod_lt (K / 4) (show 0 < n + 1 by omega)
    rw [IntWalk.i64_in _ (by omega)]
  · have := Nat.mod_lt (K / 4) (show 0 < n + 1 by omega)
    omega
set_option maxRecDepth 100000 in
set_option maxHeartbeats 8000000 in
theorem edits_law (w : World) (va vb : Value) (la lh : List Int) (ql : IntsQ w va la) (qh : IntsAt w vb lh) :
    Calls Try.prog 5 #[va, vb] w fun e w' => e = .returned (.bool true) ∧ Below w.heap.size w w' := by
  have CA := Lib.hid awake_any
  have HA := Lib.hid ql
  have HB := Lib.hid (ints_open qh)
  obtain ⟨A, cap, rfl⟩ := ints_form ql.at_
  obtain ⟨A', cap', rfl⟩ := ints_form qh
  obtain ⟨nl, hnl⟩ : ∃ n, n = la.length := ⟨_, rfl⟩
  obtain ⟨nh, hnh⟩ : ∃ n, n = lh.length := ⟨_, rfl⟩
  have HC := Lib.hid (show ∀ (i : Nat) x, lh[i]? = some x → ∃ q o, A' = some ⟨q, o, none⟩ ∧ q < w.heap.size ∧ nh ≤ cap' ∧ w.cell? ⟨q, o + i, none⟩ = some (.int .i64 x) from by
    obtain ⟨A9, c9, e9, h9⟩ := HB.out
    injection e9 with e1 e2 e3
    subst e1 e3
    rw [hnh]
    exact h9)
  rw [← hnl] at HA ⊢
  rw [← hnh] at ⊢
  have HN := Lib.hid (And.intro hnl hnh)
  clear ql qh hnl hnh HB
  by_cases h1 : nl ≤ 40 ∧ nh ≤ 5
  · have g1 : decide ((40 : Int) < nl) = false := decide_eq_false (by omega)
    have g2 : decide ((5 : Int) < nh) = false := decide_eq_false (by omega)
    have hl40 : la.length ≤ 40 := by rw [← HN.out.1]; exact h1.1
    have h5 : nh ≤ 5 := h1.2
    clear h1
    go_enter Try.func5, Try.ntmps5
    go_upto_region 4 with (at_builtin; refine wpList_append_nums rfl _ _ rfl w.heap.size (.slice none 0 0) [] _ la rfl (World.ownsRow_nil _ _ _ _) rfl HA.out (by simp; omega) (Nat.le_refl _) ?_; intro v2 w2 ho2 hg2; rw [List.nil_append, ← HN.out.1] at ho2; obtain ⟨A2, c2, rfl⟩ := row_shape ho2; have HO2 := Lib.hid (And.intro ho2 hg2.nil); clear ho2 hg2)
    have H0 := Lib.hid (show EdS w w2 la nh A2 nl c2 0 la from ⟨HN.out.1, by rw [HN.out.1]; omega, HO2.out.1, HO2.out.2, .inl (Near1.zero la)⟩)
    clear HO2
    go_wp2_with fail
    go_loopg [5, 6] nh (fun g b x wr => ∃ (i : Nat) (A : Option Addr) (n c : Nat), i + g = nh ∧ x = .int .i64 i ∧ b = .slice A n c ∧ Hid (∃ L, EdS w wr la nh A n c i L))
    case atStart => exact ⟨0, A2, nl, c2, by omega, rfl, rfl, Lib.hid ⟨la, H0.out⟩⟩
    case round =>
      obtain ⟨i, A, n, c, hi, rfl, rfl, HP⟩ := hrel
      by_cases hlt : i < nh
      · have d1 : (i : Int) < nh := by omega
        have wi : IntKind.i64.wrap ((i : Int) + 1) = ((i + 1 : Nat) : Int) := by rw [IntWalk.i64_in _ (by omega)]; omega
        obtain ⟨L, hL⟩ := HP.out
        obtain ⟨x, hx⟩ : ∃ x, lh[i]? = some x := ⟨_, List.getElem?_eq_getElem (by rw [← HN.out.2]; exact hlt)⟩
        obtain ⟨qb, qo, rfl, hq, hqc, cx⟩ := HC.out i x hx
        have cx' := (hL.bel.cell (p := ⟨qb, qo + i, none⟩) hq).trans cx
        obtain ⟨K, hK, hK2⟩ : ∃ K : Nat, x % 1048576 = K ∧ K < 1048576 := ⟨(x % 1048576).toNat, by omega, by omega⟩
        have CP := Lib.hid (fun wx => place9 x 1048576 wx (by omega) (by omega))
        rw [hK] at CP
        have hn45 : n ≤ 45 := by have := hL.le; omega
        obtain ⟨q, r, at', ⟨t1, t2⟩, ⟨t3, t4⟩, t5, ⟨t6, t7⟩, hr4, hat⟩ := tell K n hK2 (by omega)
        obtain ⟨n1, hn1⟩ : ∃ n1, n1 = n + 1 := ⟨_, rfl⟩
        rw [← hn1] at t5 t6
        have t8 : ((n1 : Int) == 0) = false := by simp; omega
        have t9 : ¬ (n1 : Int) = 0 := by omega
        have HL := Lib.hid hL
        have HR := Lib.hid (And.intro hr4 (And.intro hat (And.intro hn45 hn1)))
        clear hL HP hx hK cx hr4 hat hn1
        go_upto_region 11 with (go_at_call 12; refine (CP.out _).mono ?_; rintro e wx ⟨rfl, rfl⟩)
        clear CP t1 t2 t5 t6 t7 t8 t9 cx'
        go_cut [55] from 55 to 64 (fun t wx => t = .bool (decide (r = 0 ∨ n ≤ at')) ∧ wr = wx)
        case first =>
          by_cases hr0 : r = 0
          · have z1 : ((r : Int) == 0) = true := by simp [hr0]
            have HE := Lib.hid (show true = decide (r = 0 ∨ n ≤ at') from (decide_eq_true (.inl hr0)).symm)
            clear hr0
            go_wp2_with fail
            go_meet
            exact ⟨congrArg Value.bool HE.out, rfl⟩
          · have z1 : ((r : Int) == 0) = false := by simp [hr0]
            have HE := Lib.hid (show decide (n ≤ at') = decide (r = 0 ∨ n ≤ at') by simp [hr0])
            clear hr0
            go_wp2_with fail
            go_meet
            exact ⟨congrArg Value.bool HE.out, rfl⟩
        case rest =>
        obtain ⟨rfl, rfl⟩ := hcut
        have HQ := Lib.hid (own_intsQ HL.out.own HL.out.len)
        have HED := Lib.hid (show Near1 i la L from HL.out.ed.elim id fun h => by omega)
        rcases Bool.eq_false_or_eq_true (decide (r = 0 ∨ n ≤ at')) with dB | dB
        · rw [dB]
          obtain ⟨A6, c6, hs1, hq1⟩ := slice_hi HQ.out HL.out.len at' HR.out.2.1
          obtain ⟨A7, c7, hs2, hq2⟩ := slice_lo HQ.out HL.out.len at' HR.out.2.1
          have HQ1 := Lib.hid hq1
          have HQ2 := Lib.hid hq2
          have HT := Lib.hid (show (L.take at').length = at' ∧ (L.take at' ++ [(K : Int)]).length = at' + 1 ∧ (L.take at' ++ [(K : Int)] ++ L.drop at').length = n + 1 ∧ (L.drop at').length = n - at' ∧ at' ≤ 45 ∧ n ≤ 45 from by
            have h1 := HL.out.len
            have h2 := HR.out
            have e1 : (L.take at').length = at' := by rw [List.length_take]; omega
            have e2 : (L.drop at').length = n - at' := by rw [List.length_drop]; omega
            refine ⟨e1, by rw [List.length_append, e1]; rfl, by rw [List.length_append, List.length_append, e1, e2]; simp; omega, e2, by omega, by omega⟩)
          have k0 : (0 : Int) ≤ at' := by omega
          have k1 : (at' : Int) ≤ n := by have := HR.out; omega
          clear hq1 hq2
          go_upto_region 12 with fail
          go_region_law (first
            | (refine step_append_nums (by rfl) _ _ (by rfl) wr.heap.size (.slice A5 (at' + 1) c5) (L.take at' ++ [(K : Int)]) (.slice A7 (n - at') c7) (L.drop at') (by simp [Act.eval]) (own_len HO5.out.1 HT.out.2.1.symm) (by simp [Act.eval]) (HQ2.out.keep HO5.out.2) (by rw [HT.out.2.1, HT.out.2.2.2.1]; have := HT.out.2.2.2.2; omega) HO5.out.2.size ?_; intro v6 w6 ho6 hg6; rw [HT.out.2.2.1] at ho6; obtain ⟨A8, c8, rfl⟩ := row_shape ho6; have HO6 := Lib.hid (And.intro ho6 (hg6.next HO5.out.2 (Nat.le_refl _) HO5.out.1)); clear ho6 hg6)
            | (refine step_append_nums (by rfl) _ _ (by rfl) wr.heap.size (.slice A4 at' c4) (L.take at') (.slice (some ⟨w4.heap.size, 0, none⟩) 1 1) [(K : Int)] (by simp [Act.eval]) (own_len (HO4.out.1.alloc _) HT.out.1.symm) (by simp [Act.eval]) (lit_intsQ w4 [(K : Int)] _ _ rfl (by simp)) (by rw [HT.out.1]; have := HT.out.2.2.2.2; simp; omega) (by have := HO4.out.2.1.size; simp; omega) ?_; intro v5 w5 ho5 hg5; rw [HT.out.2.1] at ho5; obtain ⟨A5, c5, rfl⟩ := row_shape ho5; have HO5 := Lib.hid (And.intro ho5 (hg5.next (HO4.out.2.1.alloc HO4.out.2.1.size _) (Nat.le_refl _) (HO4.out.1.alloc _))); clear ho5 hg5)
            | (refine step_append_nums (by rfl) _ _ (by rfl) wr.heap.size (.slice A4 at' c4) (L.take at') (.slice (some ⟨wr.heap.size, 0, none⟩) 1 1) [(K : Int)] (by simp [Act.eval]) (own_len HO4.out.1 HT.out.1.symm) (by simp [Act.eval]) (by first | exact (lit_intsQ wr.drew [(K : Int)] _ _ rfl (by simp)).keep HO4.out.2.2 | exact ((lit_intsQ wr [(K : Int)] _ _ rfl (by simp)).keep (Below.refl _ _).drew).keep HO4.out.2.2) (by rw [HT.out.1]; have := HT.out.2.2.2.2; simp; omega) HO4.out.2.1.size ?_; intro v5 w5 ho5 hg5; rw [HT.out.2.1] at ho5; obtain ⟨A5, c5, rfl⟩ := row_shape ho5; have HO5 := Lib.hid (And.intro ho5 (hg5.next HO4.out.2.1 (Nat.le_refl _) HO4.out.1)); clear ho5 hg5)
            | (refine step_append_nums (by rfl) _ _ (by rfl) wr.heap.size (.slice none 0 0) [] (.slice A6 at' c6) (L.take at') (by simp [Act.eval]) (World.ownsRow_nil _ _ _ _) (by simp [Act.eval, Act.put]) (HQ1.out.keep (by first | exact (Below.refl _ _).drew | exact ((Below.refl _ _).drew).alloc (Nat.le_refl _) _ | exact ((Below.refl _ _).alloc (Nat.le_refl _) _).drew)) (by rw [HT.out.1]; have := HT.out.2.2.2.2; simp; omega) (by first | exact Nat.le_refl _ | simp) ?_; intro v4 w4 ho4 hg4; rw [List.nil_append, HT.out.1] at ho4; obtain ⟨A4, c4, rfl⟩ := row_shape ho4; have HO4 := Lib.hid (And.intro ho4 (And.intro (hg4.below (B := wr.heap.size) (w0 := wr) (by first | exact (Below.refl _ _).drew | exact ((Below.refl _ _).drew).alloc (Nat.le_refl _) _ | exact ((Below.refl _ _).alloc (Nat.le_refl _) _).drew) (by first | exact Nat.le_refl _ | simp) (fun g hg => by cases hg)) hg4.nil)); clear ho4 hg4))
          all_goals
            have HX := Lib.hid (show ∃ L', EdS w w6 la nh A8 (n + 1) c8 (i + 1) L' from ⟨L.take at' ++ [(K : Int)] ++ L.drop at', HT.out.2.2.1.symm, by have := HL.out.le; omega, own_low HO6.out.1 HL.out.bel.size, HL.out.bel.trans (HO6.out.2.mono HL.out.bel.size), .inl (by rw [List.append_assoc]; exact HED.out.ins at' (K : Int))⟩)
            clear HO4 HO5 HO6
            go_wp2_with fail
            go_roundg (gk - 1)
          all_goals first
            | omega
            | exact ⟨i + 1, A8, n + 1, c8, by omega, by go_num, rfl, HX⟩
        · rw [dB]
          have hB := of_decide_eq_false dB
          have hr0 : r ≠ 0 := fun h => hB (.inl h)
          have hlt2 : at' < n := by omega
          clear hB dB
          obtain ⟨a1, ha1⟩ : ∃ a1, a1 = at' + 1 := ⟨_, rfl⟩
          have wa1 : IntKind.i64.wrap ((at' : Int) + 1) = (a1 : Int) := by rw [IntWalk.i64_in _ (by have := HR.out; omega)]; omega
          by_cases hr1 : r = 1
          · have z1 : ((r : Int) == 1) = true := by rw [beq_iff_eq]; omega
            obtain ⟨A6, c6, hs1, hq1⟩ := slice_hi HQ.out HL.out.len at' (by omega)
            obtain ⟨A7, c7, hs2, hq2⟩ := slice_lo HQ.out HL.out.len a1 (by omega)
            have HQ1 := Lib.hid hq1
            have HQ2 := Lib.hid hq2
            obtain ⟨nm, hnm⟩ : ∃ nm, nm = n - 1 := ⟨_, rfl⟩
            obtain ⟨nd, hnd⟩ : ∃ nd, nd = n - a1 := ⟨_, rfl⟩
            rw [← hnd] at hs2 HQ2
            have HT := Lib.hid (show (L.take at').length = at' ∧ (L.take at' ++ L.drop a1).length = nm ∧ (L.drop a1).length = nd ∧ at' ≤ 45 ∧ nd ≤ 45 ∧ at' < L.length from by
              have h1 := HL.out.len
              have h2 := HR.out
              have e1 : (L.take at').length = at' := by rw [List.length_take]; omega
              have e2 : (L.drop a1).length = nd := by rw [List.length_drop]; omega
              refine ⟨e1, by rw [List.length_append, e1, e2]; omega, e2, by omega, by omega, by omega⟩)
            have HM := Lib.hid (And.intro hnm (And.intro ha1 hlt2))
            have k0 : (0 : Int) ≤ at' := by omega
            have k1 : (at' : Int) ≤ n := by omega
            have k2 : (0 : Int) ≤ a1 := by omega
            have k3 : (a1 : Int) ≤ n := by omega
            clear hq1 hq2 hr1 hr0 hlt2 hnm hnd ha1
            go_upto_region 14 with fail
            go_region_law (first
              | (refine step_append_nums (by rfl) _ _ (by rfl) wr.heap.size (.slice A4 at' c4) (L.take at') (.slice A7 nd c7) (L.drop a1) (by simp [Act.eval]) (own_len HO4.out.1 HT.out.1.symm) (by simp [Act.eval]) (HQ2.out.keep HO4.out.2) (by rw [HT.out.1, HT.out.2.2.1]; have := HT.out.2.2.2; omega) HO4.out.2.size ?_; intro v6 w6 ho6 hg6; rw [HT.out.2.1] at ho6; obtain ⟨A8, c8, rfl⟩ := row_shape ho6; have HO6 := Lib.hid (And.intro ho6 (hg6.next HO4.out.2 (Nat.le_refl _) HO4.out.1)); clear ho6 hg6)
              | (refine step_append_nums (by rfl) _ _ (by rfl) wr.heap.size (.slice none 0 0) [] (.slice A6 at' c6) (L.take at') (by simp [Act.eval]) (World.ownsRow_nil _ _ _ _) (by simp [Act.eval, Act.put]) (HQ1.out.keep (Below.refl _ _).drew) (by rw [HT.out.1]; have := HT.out.2.2.2; simp; omega) (Nat.le_refl _) ?_; intro v4 w4 ho4 hg4; rw [List.nil_append, HT.out.1] at ho4; obtain ⟨A4, c4, rfl⟩ := row_shape ho4; have HO4 := Lib.hid (And.intro ho4 (hg4.below (B := wr.heap.size) (w0 := wr) ((Below.refl _ _).drew) (Nat.le_refl _) (fun g hg => by cases hg))); clear ho4 hg4))
            all_goals
              have HX := Lib.hid (show ∃ L', EdS w w6 la nh A8 nm c8 (i + 1) L' from ⟨L.take at' ++ L.drop a1, HT.out.2.1.symm, by have := HL.out.le; have := HM.out; omega, own_low HO6.out.1 HL.out.bel.size, HL.out.bel.trans (HO6.out.2.mono HL.out.bel.size), .inl (by rw [HM.out.2.1]; exact HED.out.del at' HT.out.2.2.2.2.2)⟩)
              clear HO4 HO6
              go_wp2_with fail
              go_roundg (gk - 1)
            all_goals first
              | omega
              | exact ⟨i + 1, A8, nm, c8, by omega, by go_num, rfl, HX⟩
          · have z1 : ((r : Int) == 1) = false := by rw [beq_eq_false_iff_ne]; omega
            have HH := Lib.hid (And.intro hr0 (And.intro hr1 (And.intro hlt2 ha1)))
            clear hr0 hr1 hlt2 ha1
            go_upto_region 15 with fail
            go_cut [89] from 89 to 104 (fun t wx => t = .bool (decide (r = 2 ∨ n ≤ a1 ∨ 1 < nh)) ∧ wr = wx)
            case first =>
              by_cases hr2 : r = 2
              · have z2 : ((r : Int) == 2) = true := by rw [beq_iff_eq]; omega
                have HE := Lib.hid (show true = decide (r = 2 ∨ n ≤ a1 ∨ 1 < nh) from (decide_eq_true (.inl hr2)).symm)
                clear hr2
                go_wp2_with fail
                go_meet
                exact ⟨congrArg Value.bool HE.out, rfl⟩
              · have z2 : ((r : Int) == 2) = false := by rw [beq_eq_false_iff_ne]; omega
                by_cases h3 : n ≤ a1
                · have z3 : decide (n ≤ a1) = true := decide_eq_true h3
                  have z4 : decide ((n : Int) ≤ a1) = true := decide_eq_true (by omega)
                  have HE := Lib.hid (show true = decide (r = 2 ∨ n ≤ a1 ∨ 1 < nh) from (decide_eq_true (.inr (.inl h3))).symm)
                  clear hr2 h3
                  go_wp2_with fail
                  go_meet
                  exact ⟨congrArg Value.bool HE.out, rfl⟩
                · have z3 : decide (n ≤ a1) = false := decide_eq_false h3
                  have z4 : decide ((n : Int) ≤ a1) = false := decide_eq_false (by omega)
                  have HE := Lib.hid (show decide (1 < nh) = decide (r = 2 ∨ n ≤ a1 ∨ 1 < nh) by simp [hr2, h3])
                  by_cases h4 : 1 < nh
                  · have z5 : decide (1 < nh) = true := decide_eq_true h4
                    have z6 : decide ((1 : Int) < nh) = true := decide_eq_true (by omega)
                    have HE2 := Lib.hid (z5.symm.trans HE.out)
                    clear hr2 h3 h4
                    go_wp2_with fail
                    go_meet
                    exact ⟨congrArg Value.bool HE2.out, rfl⟩
                  · have z5 : decide (1 < nh) = false := decide_eq_false h4
                    have z6 : decide ((1 : Int) < nh) = false := decide_eq_false (by omega)
                    have HE2 := Lib.hid (z5.symm.trans HE.out)
                    clear hr2 h3 h4
                    go_wp2_with fail
                    go_meet
                    exact ⟨congrArg Value.bool HE2.out, rfl⟩
            case rest =>
            obtain ⟨rfl, rfl⟩ := hcut
            have hLn : L.length = n := HL.out.len.symm
            have HLN := Lib.hid (show ([] ++ L).length = n ∧ n ≤ 45 ∧ ([] ++ L) = L from ⟨by simpa using hLn, HR.out.2.2.1, rfl⟩)
            clear hLn
            rcases Bool.eq_false_or_eq_true (decide (r = 2 ∨ n ≤ a1 ∨ 1 < nh)) with dC | dC
            · rw [dC]
              go_upto_region 17 with (at_builtin; refine wpList_append_nums rfl _ _ rfl wr.heap.size (.slice none 0 0) [] _ L rfl (World.ownsRow_nil _ _ _ _) rfl HQ.out (by have := HLN.out; simp at this ⊢; omega) (Nat.le_refl _) ?_; intro v4 w4 ho4 hg4; rw [HLN.out.1, List.nil_append] at ho4; obtain ⟨A4, c4, rfl⟩ := row_shape ho4; have HO4 := Lib.hid (And.intro ho4 hg4.nil); clear ho4 hg4)
              obtain ⟨g4, rfl, hg1, hg2, hg3, fz, hcs⟩ := own_cells HO4.out.1 (by have := HH.out; omega)
              obtain ⟨y, hy⟩ : ∃ y, L[at']? = some y := ⟨_, List.getElem?_eq_getElem (by rw [← HL.out.len]; exact HH.out.2.2.1)⟩
              have cy := hcs _ _ hy
              have hlt2 : at' < n := HH.out.2.2.1
              have HX := Lib.hid (show ∃ L', EdS w (w4.setCell ⟨g4, at', none⟩ (.int .i64 K)) la nh (some ⟨g4, 0, none⟩) n c4 (i + 1) L' from ⟨L.set at' (K : Int), by rw [List.length_set]; exact HL.out.len, by have := HL.out.le; omega, own_low (own_set HO4.out.1 at' (K : Int)) HL.out.bel.size, (HL.out.bel.trans (HO4.out.2.mono HL.out.bel.size)).setCell (p := ⟨g4, at', none⟩) (Nat.le_trans HL.out.bel.size hg1) _, .inl (HED.out.sub at' (K : Int) (by rw [← HL.out.len]; exact hlt2))⟩)
              clear hcs hy hg1 hg2
              go_wp2_with fail
              go_roundg (gk - 1)
              case measure => omega
              case rel => exact ⟨i + 1, _, n, c4, by omega, by go_num, rfl, HX⟩
            · rw [dC]
              have hC := of_decide_eq_false dC
              have ha2 : a1 < n := by omega
              have hnh : nh ≤ 1 := by omega
              clear hC dC
              go_upto_region 10 with (at_builtin; refine wpList_append_nums rfl _ _ rfl wr.heap.size (.slice none 0 0) [] _ L rfl (World.ownsRow_nil _ _ _ _) rfl HQ.out (by have := HLN.out; simp at this ⊢; omega) (Nat.le_refl _) ?_; intro v4 w4 ho4 hg4; rw [HLN.out.1, List.nil_append] at ho4; obtain ⟨A4, c4, rfl⟩ := row_shape ho4; have HO4 := Lib.hid (And.intro ho4 hg4.nil); clear ho4 hg4)
              obtain ⟨g4, rfl, hg1, hg2, hg3, fz, hcs⟩ := own_cells HO4.out.1 (by have := HH.out; omega)
              obtain ⟨y, hy⟩ : ∃ y, L[at']? = some y := ⟨_, List.getElem?_eq_getElem (by rw [← HL.out.len]; exact HH.out.2.2.1)⟩
              obtain ⟨y1, hy1⟩ : ∃ y, L[a1]? = some y := ⟨_, List.getElem?_eq_getElem (by rw [← HL.out.len]; exact ha2)⟩
              have cy := hcs _ _ hy
              have cy1 := hcs _ _ hy1
              have hlt2 : at' < n := HH.out.2.2.1
              have HX := Lib.hid (show ∀ m, ∃ L', EdS w (((w4.setCell ⟨g4, at', none⟩ (.int .i64 y1)).setCell ⟨g4, a1, none⟩ (.int .i64 y)).drewN m) la nh (some ⟨g4, 0, none⟩) n c4 (i + 1) L' from fun m => by
                have hLa : la = L := (farL_zero la L).1 (by have := HED.out.far; omega)
                have hl1 : at' + 1 < L.length := by rw [← HL.out.len]; have := HH.out; omega
                refine ⟨(L.set at' y1).set a1 y, by rw [List.length_set, List.length_set]; exact HL.out.len, by have := HL.out.le; omega, own_low (own_set (own_set HO4.out.1 at' y1) a1 y) HL.out.bel.size, ?_, .inr ⟨hnh, by omega, ?_⟩⟩
                · exact (((HL.out.bel.trans (HO4.out.2.mono HL.out.bel.size)).setCell (p := ⟨g4, at', none⟩) (Nat.le_trans HL.out.bel.size hg1) _).setCell (p := ⟨g4, a1, none⟩) (Nat.le_trans HL.out.bel.size hg1) _).trans ⟨rfl, rfl, rfl, Nat.le_refl _, fun _ _ => rfl⟩
                · have h9 := far_swap L at' hl1
                  have e9 : L[at' + 1] = y1 := by
                    have := hy1
                    rw [HH.out.2.2.2, List.getElem?_eq_getElem hl1] at this
                    exact Option.some.inj this
                  have e8 : L[at'] = y := by
                    have := hy
                    rw [List.getElem?_eq_getElem (by omega)] at this
                    exact Option.some.inj this
                  rw [e9, e8, ← HH.out.2.2.2] at h9
                  rw [hLa]
                  omega)
              have ca1 : (w4.setCell ⟨g4, at', none⟩ (.int .i64 y1)).cell? ⟨g4, a1, none⟩ = some (.int .i64 y1) := (World.cell?_setCell_other _ _ _ _ (by have := HH.out; simp only [ne_eq, Addr.mk.injEq, not_and]; omega)).trans cy1
              have fa1 : (w4.setCell ⟨g4, at', none⟩ (.int .i64 y1)).frozen? ⟨g4, a1, none⟩ = false := (World.frozen?_setCell _ _ _ _).trans (fz a1)
              clear hcs hy hy1 hg1 hg2 hnh
              go_upto_region 10 with fail
              go_region
              go_wp2_with fail
              go_roundg (gk - 1)
              case measure => omega
              case rel => exact ⟨i + 1, _, n, c4, by omega, by go_num, rfl, Lib.hid (by first | exact HX.out 1 | exact HX.out 0)⟩
      · obtain rfl : nh = i := by omega
        have d1 : ¬ (nh : Int) < nh := by omega
        obtain ⟨L, hL⟩ := HP.out
        have hd := ed_far hL.ed
        have hLl : L.length ≤ 45 := by rw [← hL.len]; have := hL.le; omega
        have HQ := Lib.hid (own_intsQ hL.own hL.len).at_
        have CF := Lib.hid (fun wx (hx : Below wr.heap.size wr wx) => far_any wx _ _ la L ((HA.out.keep (hL.bel.trans (hx.mono hL.bel.size))).at_) (HQ.out.keep hx) (by omega) (by omega))
        have CG := Lib.hid (fun wx (hx : Below wr.heap.size wr wx) => far_any wx _ _ L la (HQ.out.keep hx) ((HA.out.keep (hL.bel.trans (hx.mono hL.bel.size))).at_) (by omega) (by omega))
        rw [farL_comm L la] at CG
        obtain ⟨d, hd2⟩ : ∃ d, d = farL la L := ⟨_, rfl⟩
        rw [← hd2] at CF CG hd
        have d2 : (d : Int) ≤ nh := by omega
        have HBE := Lib.hid hL.bel
        clear hL HP hd2 hLl hd hlt
        go_wp2_with fail
        refine (CF.out _ (Below.refl _ _)).mono ?_
        rintro e w5 ⟨rfl, h5⟩
        have H5 := Lib.hid h5
        clear h5
        go_wp2_with fail
        refine (CG.out _ H5.out).mono ?_
        rintro e w6 ⟨rfl, h6⟩
        have H6 := Lib.hid (HBE.out.trans ((H5.out.trans (h6.mono H5.out.size)).mono HBE.out.size))
        clear h6
        go_wp2_with fail
        refine (CA.out _).mono ?_
        rintro e w7 ⟨rfl, h7⟩
        have H7 := Lib.hid (H6.out.trans (h7.mono H6.out.size))
        clear h7
        go_wp2_with fail
        go_ret
        exact ⟨rfl, H7.out⟩
  · by_cases h2 : nl ≤ 40
    · have g1 : decide ((40 : Int) < nl) = false := decide_eq_false (by omega)
      have g2 : decide ((5 : Int) < nh) = true := decide_eq_true (by omega)
      clear h1 h2
      go_enter Try.func5, Try.ntmps5
      go_wp2_with fail
      refine (CA.out w).mono ?_
      rintro e w1 ⟨rfl, h1⟩
      have H1 := Lib.hid h1
      clear h1
      go_wp2_with fail
      go_ret
      exact ⟨rfl, H1.out⟩
    · have g1 : decide ((40 : Int) < nl) = true := decide_eq_true (by omega)
      clear h1 h2
      go_enter Try.func5, Try.ntmps5
      go_wp2_with fail
      refine (CA.out w).mono ?_
      rintro e w1 ⟨rfl, h1⟩
      have H1 := Lib.hid h1
      clear h1
      go_wp2_with fail
      go_ret
      exact ⟨rfl, H1.out⟩
end Go.Proofs.Ytbghfbhchmoddaa
