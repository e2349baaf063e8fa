/- fill by contract. -/
import Derived.Test.YtbghfbhchmoddaaMDGood
import Derived.Deep.DeepCutAuto
namespace Go.Proofs.Ytbghfbhchmoddaa
open Go Go.RowKit Go.Lib

/-- least, told by what the rows say. -/
theorem least_good (wr : World) (p : Nat) (va vb : Value) (B : Nat) (la lb : List Int) (i k : Nat) (T : Tab wr p va vb B lb.length) (ha : IntsAt wr va la) (hb : IntsAt wr vb lb) (R : Nat → List Int) (hR : ∀ j, j < 3 → NRow (p + 1 + j) (R j) wr)
    (hi : i ≤ la.length) (hk : k ≤ lb.length) (na : la.length ≤ 1000) (nb : lb.length ≤ 1000) (nB : B ≤ 1000) (b1 : i ≤ k + B) (b2 : k ≤ i + B)
    (g1 : 1 ≤ i → Good la lb B (i - 1) (R ((i - 1) % 3))) (g2 : 2 ≤ i → Good la lb B (i - 2) (R ((i - 2) % 3))) (g0 : 1 ≤ k → GoodC la lb B i (k - 1) (R (i % 3))) :
    ∃ v : Nat, (v ≤ la.length + B + 1 + k ∧ min v (B + 1) = min (cellL la lb i k) (B + 1)) ∧
      Calls Try.prog 16 #[.pointer (some ⟨p, 0, none⟩), .int .i64 i, .int .i64 k] wr fun e w' => e = .returned (.int .i64 v) ∧ ∃ n, w' = wr.drewN n := by
  by_cases h0 : i = 0 ∨ k = 0
  · refine ⟨i + k, ⟨by omega, ?_⟩, least_edge wr p i k (by omega) (by omega) h0⟩
    rcases h0 with rfl | rfl
    · rw [cellL_left la lb k hk, Nat.zero_add]
    · rw [cellL_top la lb i hi, Nat.add_zero]
  · obtain ⟨i, rfl⟩ : ∃ j, i = j + 1 := ⟨i - 1, by omega⟩
    obtain ⟨k, rfl⟩ : ∃ j, k = j + 1 := ⟨k - 1, by omega⟩
    obtain ⟨x, hx, bx, ex⟩ := g1 (by omega) k (by omega) (by omega) (by omega)
    obtain ⟨y, hy, bY, ey⟩ := g1 (by omega) (k + 1) (by omega) (by omega) (by omega)
    obtain ⟨z, hz, bz, ez⟩ := g0 (by omega)
    rw [Nat.add_sub_cancel] at hx hy ex ey hz bz ez
    obtain ⟨u, bu, hu⟩ : ∃ u, u ≤ 10000 ∧ (exL la lb (i + 1) (k + 1) = true → (R ((i + 1 - 2) % 3))[k + 1 - 2]? = some ((u : Nat) : Int) ∧ min u (B + 1) = min (cellL la lb (i + 1 - 2) (k + 1 - 2)) (B + 1)) := by
      by_cases hX : exL la lb (i + 1) (k + 1) = true
      · have hX' := of_decide_eq_true hX
        obtain ⟨u, h1, h2, h3⟩ := g2 (by omega) (k + 1 - 2) (by omega) (by omega) (by omega)
        exact ⟨u, by omega, fun _ => ⟨h1, h3⟩⟩
      · exact ⟨0, by omega, fun h => absurd h hX⟩
    refine ⟨leN (decide (la[i]? = lb[k]?)) (exL la lb (i + 1) (k + 1)) x y z u, ⟨?_, leN_good la lb B i k x y z u (by omega) (by omega) ex ey ez (fun h => (hu h).2)⟩, ?_⟩
    · have := leN_le (decide (la[i]? = lb[k]?)) (exL la lb (i + 1) (k + 1)) x y z u
      omega
    · exact least_any wr p va vb B lb.length la lb (i + 1) (k + 1) i (i + 1 - 2) k (k + 1 - 2) ((i + 1) % 3) (i % 3) ((i + 1 - 2) % 3) T ha hb hi hk rfl na nb rfl rfl rfl rfl rfl rfl rfl x y z u (by omega) (by omega) (by omega) bu
        ((hR (i % 3) (Nat.mod_lt _ (by decide))).cell hx) ((hR (i % 3) (Nat.mod_lt _ (by decide))).cell hy) ((hR ((i + 1) % 3) (Nat.mod_lt _ (by decide))).cell hz) (fun h => (hR ((i + 1 - 2) % 3) (Nat.mod_lt _ (by decide))).cell (hu h).1)
/-- What a walk of fill knows: the row R of its own, the first places up to k told. -/
structure FillS (w wr : World) (q n : Nat) (R : List Int) : Prop where
  row : NRow q R wr
  len : R.length = n
  only : OnlyAt (fun k => k = q) w wr
theorem int_eq0 {k : IntKind} {a b : Int} (h : a = b) : Value.int k a = Value.int k b := by rw [h]
theorem FillS.set {w wr : World} {q n : Nat} {R : List Int} (h : FillS w wr q n R) (k : Nat) (v : Int) : FillS w (wr.setCell ⟨q, k, none⟩ (.int .i64 v)) q n (R.set k v) :=
  ⟨h.row.set k v, by rw [List.length_set]; exact h.len, h.only.trans (OnlyAt.setCell _ _ _ rfl)⟩
theorem FillS.cell {w wr : World} {q n : Nat} {R : List Int} (h : FillS w wr q n R) {p o : Nat} {v : Value} (hc : w.cell? ⟨p, o, none⟩ = some v) (hp : p ≠ q) : wr.cell? ⟨p, o, none⟩ = some v := by
  rw [← hc]
  exact World.cell?_of_block (w := w) (a := ⟨p, o, none⟩) (h.only.block p (block_lt_of_cell hc) hp)
theorem FillS.drewN {w wr : World} {q n : Nat} {R : List Int} (h : FillS w wr q n R) (m : Nat) : FillS w (wr.drewN m) q n R :=
  ⟨h.row.drewN m, h.len, h.only.trans (OnlyAt.drewN _ _ m)⟩
set_option maxRecDepth 100000 in
set_option maxHeartbeats 4000000 in
theorem fill_any (w0 w : World) (p : Nat) (va vb : Value) (B : Nat) (la lb : List Int) (i : Nat) (T : Tab w p va vb B lb.length) (h0 : w0.heap.size = p) (hb0 : Below p w0 w) (ha : IntsAt w0 va la) (hb : IntsAt w0 vb lb) (R : Nat → List Int) (hR : ∀ j, j < 3 → NRow (p + 1 + j) (R j) w ∧ (R j).length = lb.length + 1)
    (hi : i ≤ la.length) (na : la.length ≤ 1000) (nb : lb.length ≤ 1000) (nB : B ≤ 1000) (b1 : i ≤ lb.length + B)
    (g1 : 1 ≤ i → Good la lb B (i - 1) (R ((i - 1) % 3))) (g2 : 2 ≤ i → Good la lb B (i - 2) (R ((i - 2) % 3))) :
    Calls Try.prog 14 #[.pointer (some ⟨p, 0, none⟩), .int .i64 i] w fun e w' => e = .returned (.tuple #[]) ∧ ∃ R', FillS w w' (p + 1 + i % 3) (lb.length + 1) R' ∧ Good la lb B i R' := by
  obtain ⟨-, c1, c2, c3⟩ := T.cells
  obtain ⟨r, hr⟩ : ∃ r, r = i % 3 := ⟨_, rfl⟩
  have r3 : r < 3 := by omega
  have CR := Lib.hid (row_any w p i r (lb.length + 1) (p + 1 + r) (by omega) hr.symm (hr ▸ c3 i))
  rw [← hr]
  obtain ⟨A', cap', rfl⟩ := ints_form hb
  obtain ⟨m, hm⟩ : ∃ m, m = lb.length := ⟨_, rfl⟩
  rw [← hm] at c1 CR ⊢
  obtain ⟨f, hf⟩ : ∃ f, f = i - B := ⟨_, rfl⟩
  obtain ⟨t, ht⟩ : ∃ t, t = min (i + B) m := ⟨_, rfl⟩
  have wf : IntKind.i64.wrap ((i : Int) - B) = (i : Int) - B := by rw [IntWalk.i64_in _ (by omega)]
  have wt : IntKind.i64.wrap ((i : Int) + B) = (i : Int) + B := by rw [IntWalk.i64_in _ (by omega)]
  have HS := Lib.hid (show FillS w w (p + 1 + r) (m + 1) (R r) from ⟨(hR r r3).1, by rw [(hR r r3).2, hm], OnlyAt.refl _ _⟩)
  have HH := Lib.hid (And.intro T (And.intro hb0 (And.intro ha (And.intro hb (And.intro hR (And.intro hi (And.intro b1 (And.intro g1 g2))))))))
  have HN := Lib.hid (And.intro na (And.intro nb (And.intro nB (And.intro h0 (And.intro hr (And.intro hm (And.intro hf ht)))))))
  clear hR T hb0 ha hb hi g1 g2 b1 c3 na nb nB h0 hr hm
  go_enter Try.func14, Try.ntmps14
  go_wp2_with fail
  refine CR.out.mono ?_
  rintro e w1 ⟨rfl, h⟩
  obtain rfl : w1 = w := h
  go_upto_region 1 with fail
  go_cut [5, 6] (fun a b wx => a = .int .i64 f ∧ b = .int .i64 t ∧ ∃ n, wx = w1.drewN n)
  case first =>
    go_quiet (fail)
    go_wp2_with fail
    all_goals go_meet
    all_goals exact ⟨int_eq0 (by omega), int_eq0 (by omega), _, rfl⟩
  case rest =>
  obtain ⟨rfl, rfl, n1, rfl⟩ := hcut
  go_step
  go_step
  have hfm : f ≤ m := by have := HN.out; have := HH.out.2.2.2.2.2.2.1; omega
  have htm : t ≤ m := by omega
  have wB : IntKind.i64.wrap ((B : Int) + 1) = ((B + 1 : Nat) : Int) := by rw [IntWalk.i64_in _ (by have := HN.out.2.2.1; omega)]; omega
  obtain ⟨B1, hB1⟩ : ∃ B1, B1 = B + 1 := ⟨_, rfl⟩
  rw [← hB1] at wB
  have HB1 := Lib.hid hB1
  clear hB1
  go_cut [] (fun wx => ∃ R1, Hid (FillS w1 wx (p + 1 + r) (m + 1) R1 ∧ (0 < f → R1[f - 1]? = some ((B1 : Nat) : Int))))
  case first =>
    by_cases h : 0 < f
    · have d1 : (0 : Int) < f := by omega
      obtain ⟨f1, hf1⟩ : ∃ f1, f1 = f - 1 := ⟨_, rfl⟩
      have wf1 : IntKind.i64.wrap ((f : Int) - 1) = (f1 : Int) := w64 f 1 f1 (by omega) (by have := HN.out; omega)
      obtain ⟨o, ho⟩ : ∃ o, (R r)[f1]? = some o := ⟨_, List.getElem?_eq_getElem (by rw [HS.out.len]; omega)⟩
      have co := HS.out.row.cell ho
      have fz := HS.out.row.frozen
      have j1 : f1 < m + 1 := by omega
      have HS1 := Lib.hid ((HS.out.drewN n1).set f1 B1)
      have HG := Lib.hid (show ((R r).set f1 (B1 : Int))[f - 1]? = some ((B1 : Nat) : Int) by rw [hf1, List.getElem?_set_self (by rw [HS.out.len, ← hf1]; exact j1)])
      clear ho hf1 hf ht
      go_wp2_with fail
      go_meet
      exact ⟨_, Lib.hid ⟨HS1.out, fun _ => HG.out⟩⟩
    · have d1 : ¬ (0 : Int) < f := by omega
      clear hf ht
      go_wp2_with fail
      go_meet
      exact ⟨_, Lib.hid ⟨HS.out.drewN n1, fun h' => absurd h' h⟩⟩
  case rest =>
  obtain ⟨R1, HS1⟩ := hcut
  have d1 := HS1.out.1.cell c1 (by omega)
  have d2 := HS1.out.1.cell c2 (by omega)
  clear HS
  go_step
  go_step
  go_cut [] (fun wx => ∃ R1, Hid (FillS w1 wx (p + 1 + r) (m + 1) R1 ∧ (0 < f → R1[f - 1]? = some ((B1 : Nat) : Int)) ∧ (t < m → R1[t + 1]? = some ((B1 : Nat) : Int))))
  case first =>
    by_cases h : t < m
    · have e1 : (t : Int) < m := by omega
      have wt1 : IntKind.i64.wrap ((t : Int) + 1) = ((t + 1 : Nat) : Int) := by rw [IntWalk.i64_in _ (by have := HN.out; omega)]; omega
      obtain ⟨t1, ht1⟩ : ∃ t1, t1 = t + 1 := ⟨_, rfl⟩
      rw [← ht1] at wt1
      obtain ⟨o, ho⟩ : ∃ o, R1[t1]? = some o := ⟨_, List.getElem?_eq_getElem (by rw [HS1.out.1.len]; omega)⟩
      have co := HS1.out.1.row.cell ho
      have fz := HS1.out.1.row.frozen
      have j1 : t1 < m + 1 := by omega
      have HS2 := Lib.hid (HS1.out.1.set t1 B1)
      have HG := Lib.hid (show (0 < f → (R1.set t1 (B1 : Int))[f - 1]? = some ((B1 : Nat) : Int)) ∧ (t < m → (R1.set t1 (B1 : Int))[t + 1]? = some ((B1 : Nat) : Int)) from ⟨fun hf0 => by rw [List.getElem?_set_ne (by omega)]; exact HS1.out.2 hf0, fun _ => by rw [← ht1, List.getElem?_set_self (by rw [HS1.out.1.len]; exact j1)]⟩)
      clear ho ht1 hf ht
      go_wp2_with fail
      go_meet
      exact ⟨_, Lib.hid ⟨HS2.out, HG.out⟩⟩
    · have e1 : ¬ (t : Int) < m := by omega
      clear hf ht
      go_wp2_with fail
      go_meet
      exact ⟨_, Lib.hid ⟨HS1.out.1, HS1.out.2, fun h' => absurd h' h⟩⟩
  case rest =>
  clear d1 d2 HS1
  obtain ⟨R2, HS2⟩ := hcut
  have hft : f ≤ t := by have := HN.out; have := HH.out.2.2.2.2.2.2.1; omega
  have HFT := Lib.hid (And.intro hf (And.intro ht (And.intro hfm (And.intro htm hft))))
  have ht1k : t ≤ 3000 := by have := HN.out; omega
  clear hf ht hfm htm
  go_wp2_with fail
  go_loopg [7] (t + 1 - f) (fun g i' wr => ∃ k : Nat, k + g = t + 1 ∧ f ≤ k ∧ i' = .int .i64 k ∧ ∃ R', Hid (FillS w1 wr (p + 1 + r) (m + 1) R' ∧ (∀ j, i ≤ j + B + 1 → j ≤ lb.length → (j < k ∨ j = i + B + 1) → GoodC la lb B i j R')))
  case atStart =>
    refine ⟨f, by omega, Nat.le_refl _, rfl, R2, Lib.hid ⟨HS2.out.1, fun j h1 h2 h3 => ?_⟩⟩
    obtain ⟨f1, f2, f3, f4, f5⟩ := HFT.out
    obtain ⟨-, -, -, -, -, n6, -⟩ := HN.out
    refine good_edge la lb B i j R2 HH.out.2.2.2.2.2.1 h2 (by omega) ?_
    rcases h3 with h3 | h3
    · rw [show j = f - 1 by omega, HS2.out.2.1 (by omega), HB1.out]
    · rw [show j = t + 1 by omega, HS2.out.2.2 (by omega), HB1.out]
  case round =>
    obtain ⟨k, hk, hfk, rfl, R', HP⟩ := hrel
    by_cases hlt : k ≤ t
    · have e1 : (k : Int) ≤ t := by omega
      obtain ⟨v, hv, hC⟩ : ∃ v : Nat, (v ≤ la.length + B + 1 + k ∧ min v (B + 1) = min (cellL la lb i k) (B + 1)) ∧
          Calls Try.prog 16 #[.pointer (some ⟨p, 0, none⟩), .int .i64 i, .int .i64 k] wr fun e w' => e = .returned (.int .i64 v) ∧ ∃ n, w' = wr.drewN n := by
        obtain ⟨T, hb0, ha, hb, hR, hi, hb1, g1, g2⟩ := HH.out
        obtain ⟨n1', n2, n3, n4, n5, n6, -, -⟩ := HN.out
        obtain ⟨f1, f2, f3, f4, f5⟩ := HFT.out
        have ho := HP.out.1.only
        have hbw : Below p w0 wr := OnlyAt.below hb0 ho (by have := hb0.size; omega) (fun k hk => by omega)
        rw [← n4] at hbw
        refine least_good wr p va _ B la lb i k (T.keep ho (by omega)) (ha.keep hbw) (hb.keep hbw) (fun j => if j = r then R' else R j) (fun j hj => ?_) hi (by omega) n1' n2 n3 (by omega) (by omega) (fun h => ?_) (fun h => ?_) (fun h => ?_)
        · by_cases hjr : j = r
          · rw [if_pos hjr, hjr]; exact HP.out.1.row
          · rw [if_neg hjr]; exact (hR j hj).1.keep ho (by omega)
        · rw [if_neg (by omega)]; exact g1 h
        · rw [if_neg (by omega)]; exact g2 h
        · rw [if_pos n5.symm]
          exact HP.out.2 (k - 1) (by omega) (by omega) (.inl (by omega))
      have HC := Lib.hid hC
      obtain ⟨o, ho⟩ : ∃ o, R'[k]? = some o := ⟨_, List.getElem?_eq_getElem (by rw [HP.out.1.len]; have := HFT.out; omega)⟩
      have j1 : k < m + 1 := by have := HFT.out; omega
      have wk1 : IntKind.i64.wrap ((k : Int) + 1) = ((k + 1 : Nat) : Int) := by rw [IntWalk.i64_in _ (by omega)]; omega
      have HP1 := Lib.hid (show ∀ n, FillS w1 ((wr.drewN n).setCell ⟨p + 1 + r, k, none⟩ (.int .i64 v)) (p + 1 + r) (m + 1) (R'.set k (v : Int)) ∧ (∀ j, i ≤ j + B + 1 → j ≤ lb.length → (j < k + 1 ∨ j = i + B + 1) → GoodC la lb B i j (R'.set k (v : Int))) from fun n => ⟨(HP.out.1.drewN n).set k v, fun j h1 h2 h3 => by
        by_cases hjk : j = k
        · subst hjk
          exact ⟨v, by rw [List.getElem?_set_self (by rw [HP.out.1.len]; exact j1)], hv.1, hv.2⟩
        · obtain ⟨x, hx, hx2⟩ := HP.out.2 j h1 h2 (by omega)
          exact ⟨x, by rw [List.getElem?_set_ne (by omega)]; exact hx, hx2⟩⟩)
      have co := HP.out.1.row.cell ho
      have fz := HP.out.1.row.frozen
      clear hC hv ho HP HS2
      go_wp2_with fail
      refine HC.out.mono ?_
      rintro e w2 ⟨rfl, n2, rfl⟩
      go_wp2_with fail
      go_roundg (gk - 1)
      case measure => omega
      case rel => exact ⟨k + 1, by omega, by omega, by go_num, _, Lib.hid (HP1.out _)⟩
    · have e1 : ¬ (k : Int) ≤ t := by omega
      go_wp2_with fail
      go_end0
      refine ⟨rfl, R', HP.out.1, fun j h1 h2 h3 => HP.out.2 j h1 h3 ?_⟩
      obtain ⟨f1, f2, f3, f4, f5⟩ := HFT.out
      obtain ⟨-, -, -, -, -, n6, -⟩ := HN.out
      omega
end Go.Proofs.Ytbghfbhchmoddaa
