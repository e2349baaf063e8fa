/- Near, Far by contract. -/
import Derived.Test.YtbghfbhchmoddaaMDFill
import Derived.Test.YtbghfbhchmoddaaMDNew
import Derived.Deep.DeepCutAuto
namespace Go.Proofs.Ytbghfbhchmoddaa
open Go Go.RowKit Go.Lib

/-- What Near answers. -/
def nearV (d : Nat) (most : Int) : Value := .tuple #[.int .i64 (if (d : Int) ≤ most then d else 0), .bool (decide ((d : Int) ≤ most))]
/-- What stands when j rows are filled. -/
structure NearS (w wr : World) (p : Nat) (va vb : Value) (B : Nat) (la lb : List Int) (j : Nat) (R : Nat → List Int) : Prop where
  tab : Tab wr p va vb B lb.length
  below : Below p w wr
  rows : ∀ s, s < 3 → NRow (p + 1 + s) (R s) wr ∧ (R s).length = lb.length + 1
  one : 1 ≤ j → Good la lb B (j - 1) (R ((j - 1) % 3))
  two : 2 ≤ j → Good la lb B (j - 2) (R ((j - 2) % 3))
theorem NewS.near {w wr : World} {p : Nat} {va vb : Value} {B : Nat} {la lb : List Int} (h : NewS w wr p va vb B lb.length 3) : NearS w wr p va vb B la lb 0 (fun _ => List.replicate (lb.length + 1) 0) :=
  ⟨h.box, h.below, fun s hs => ⟨h.rows s hs, List.length_replicate⟩, fun h => absurd h (by omega), fun h => absurd h (by omega)⟩
theorem NearS.more {w wr w' : World} {p : Nat} {va vb : Value} {B : Nat} {la lb : List Int} {j : Nat} {R : Nat → List Int} (h : NearS w wr p va vb B la lb j R) {R' : List Int} (hp : w.heap.size = p) (hf : FillS wr w' (p + 1 + j % 3) (lb.length + 1) R') (hg : Good la lb B j R') :
    NearS w w' p va vb B la lb (j + 1) (fun s => if s = j % 3 then R' else R s) := by
  refine ⟨h.tab.keep hf.only (by omega), OnlyAt.below h.below hf.only (by have := h.below.size; omega) (fun k hk => by omega), fun s hs => ?_, fun _ => ?_, fun h2 => ?_⟩
  · by_cases e : s = j % 3
    · rw [if_pos e, e]; exact ⟨hf.row, hf.len⟩
    · rw [if_neg e]; exact ⟨(h.rows s hs).1.keep hf.only (by omega), (h.rows s hs).2⟩
  · rw [Nat.add_sub_cancel, if_pos rfl]; exact hg
  · have e : j + 1 - 2 = j - 1 := by omega
    rw [e, if_neg (by omega)]
    exact h.one (by omega)
theorem near_end {la lb : List Int} {B : Nat} {R : List Int} {most : Int} (hB : min most (max (la.length : Int) lb.length) = B) (hn : la.length ≤ lb.length + B) (hm : lb.length ≤ la.length + B) (h : Good la lb B la.length R) :
    ∃ v : Nat, R[lb.length]? = some (v : Int) ∧ (((v : Int) ≤ most ∧ (farL la lb : Int) ≤ most ∧ v = farL la lb) ∨ (¬ (v : Int) ≤ most ∧ ¬ (farL la lb : Int) ≤ most)) := by
  obtain ⟨v, h1, -, h2⟩ := h lb.length (by omega) (by omega) (Nat.le_refl _)
  rw [cellL_all] at h2
  have h3 := farL_max la lb
  refine ⟨v, h1, ?_⟩
  omega
set_option maxRecDepth 100000 in
set_option maxHeartbeats 4000000 in
theorem near_any (w : World) (va vb : Value) (la lb : List Int) (most : Int) (ha : IntsAt w va la) (hb : IntsAt w vb lb) (na : la.length ≤ 1000) (nb : lb.length ≤ 1000) :
    Calls Try.prog 9 #[va, vb, .int .i64 most] w fun e w' => e = .returned (nearV (farL la lb) most) ∧ Below w.heap.size w w' := by
  obtain ⟨h1, h2⟩ := farL_len la lb
  obtain ⟨A, cap, rfl⟩ := ints_form ha
  obtain ⟨A', cap', rfl⟩ := ints_form hb
  obtain ⟨n, hn⟩ : ∃ n, n = la.length := ⟨_, rfl⟩
  obtain ⟨m, hm⟩ : ∃ m, m = lb.length := ⟨_, rfl⟩
  obtain ⟨D, hD⟩ : ∃ D : Int, D = max ((n : Int) - m) ((m : Int) - n) := ⟨_, rfl⟩
  have HA := Lib.hid ha
  have HB := Lib.hid hb
  rw [← hn] at h1 h2 na HA ⊢
  rw [← hm] at h1 h2 nb HB ⊢
  have w1 : IntKind.i64.wrap ((n : Int) - m) = (n : Int) - m := by rw [IntWalk.i64_in _ (by omega)]
  have w2 : IntKind.i64.wrap ((m : Int) - n) = (m : Int) - n := by rw [IntWalk.i64_in _ (by omega)]
  have w3 : IntKind.i64.wrap ((n : Int) + 1) = ((n + 1 : Nat) : Int) := by rw [IntWalk.i64_in _ (by omega)]; omega
  obtain ⟨p, hp⟩ : ∃ p, p = w.heap.size := ⟨_, rfl⟩
  have HN := Lib.hid (And.intro hn (And.intro hm (And.intro hp (And.intro h1 (And.intro h2 (And.intro na nb))))))
  clear ha hb hn hm h1 h2 hp na nb
  by_cases hmost : D ≤ most
  · obtain ⟨B, hB⟩ : ∃ B : Nat, min most (max (n : Int) m) = B := ⟨(min most (max (n : Int) m)).toNat, by omega⟩
    have hb1 : n ≤ m + B ∧ m ≤ n + B := by omega
    have hB1 : B ≤ 1000 := by have := HN.out; omega
    have CN := Lib.hid (by
      have h := new_any w la lb (.slice A la.length cap) (.slice A' lb.length cap') most B p (by rw [← HN.out.1]; exact HA.out) (by rw [← HN.out.2.1]; exact HB.out) HN.out.2.2.1 (by rw [← HN.out.2.1]; exact HN.out.2.2.2.2.2.2) (by rw [← HN.out.1, ← HN.out.2.1]; exact hB)
      rw [← HN.out.1, ← HN.out.2.1] at h
      exact h)
    have HBB := Lib.hid (And.intro hB (And.intro hb1 hB1))
    have dm : decide (D ≤ most) = true := decide_eq_true hmost
    clear hB hb1 hB1
    go_enter Try.func9, Try.ntmps9
    go_upto_region 1 with fail
    go_cut [23] (fun t wx => t = .bool false ∧ wx = w)
    case first =>
      go_wp2_with fail
      all_goals go_meet
      all_goals exact ⟨by first | rfl | (congr 1; simp; omega), rfl⟩
    case rest =>
    obtain ⟨rfl, rfl⟩ := hcut
    clear hD
    go_wp2_with fail
    refine CN.out.mono ?_
    rintro e w4 ⟨rfl, h4⟩
    have H4 := Lib.hid h4
    clear h4 CN
    go_wp2_with fail
    go_loopg [31] (n + 1) (fun g i wr => ∃ j : Nat, j + g = n + 1 ∧ i = .int .i64 j ∧ Hid (∃ R, NearS wc wr p (.slice A n cap) (.slice A' m cap') B la lb j R))
    case atStart => exact ⟨0, by omega, rfl, Lib.hid ⟨_, by obtain ⟨e1, e2, -⟩ := HN.out; have h := H4.out; rw [e2] at h ⊢; exact h.near⟩⟩
    case round =>
      obtain ⟨j, hj, rfl, HP⟩ := hrel
      have n1 : n ≤ 1000 := by have := HN.out; omega
      by_cases hlt : j < n + 1
      · have e1 : (j : Int) < (n : Int) + 1 := by omega
        have wj : IntKind.i64.wrap ((j : Int) + 1) = ((j + 1 : Nat) : Int) := by rw [IntWalk.i64_in _ (by omega)]; omega
        have CF := Lib.hid (show Calls Try.prog 14 #[.pointer (some ⟨p, 0, none⟩), .int .i64 j] wr fun e w' => e = .returned (.tuple #[]) ∧ ∃ R, NearS wc w' p (.slice A n cap) (.slice A' m cap') B la lb (j + 1) R from by
          obtain ⟨R, h⟩ := HP.out
          obtain ⟨g1, g2, g3, -, -, g6, g7⟩ := HN.out
          obtain ⟨-, ⟨q1, q2⟩, q3⟩ := HBB.out
          have hA := HA.out
          have hB := HB.out
          refine (fill_any wc wr p _ _ B la lb j h.tab g3.symm h.below hA hB R h.rows (by omega) (by omega) (by omega) q3 (by omega) h.one h.two).mono ?_
          rintro e w' ⟨rfl, R', hf, hg⟩
          exact ⟨rfl, _, h.more g3.symm hf hg⟩)
        clear HP
        go_wp2_with fail
        refine CF.out.mono ?_
        rintro e w5 ⟨rfl, h5⟩
        have H5 := Lib.hid h5
        clear h5 CF
        go_wp2_with fail
        go_roundg (gk - 1)
        case measure => omega
        case rel => exact ⟨j + 1, by omega, by go_num, H5⟩
      · have e1 : ¬ (j : Int) < (n : Int) + 1 := by omega
        obtain rfl : j = n + 1 := by omega
        obtain ⟨v, hv, hc, hvm⟩ : ∃ v : Nat, (((v : Int) ≤ most ∧ (farL la lb : Int) ≤ most ∧ v = farL la lb) ∨ (¬ (v : Int) ≤ most ∧ ¬ (farL la lb : Int) ≤ most)) ∧ wr.cell? ⟨p + 1 + n % 3, m, none⟩ = some (.int .i64 v) ∧ wr.cell? ⟨p, 3 + n % 3, none⟩ = some (.slice (some ⟨p + 1 + n % 3, 0, none⟩) (m + 1) (m + 1)) := by
          obtain ⟨R, h⟩ := HP.out
          obtain ⟨g1, g2, g3, -, -, g6, g7⟩ := HN.out
          obtain ⟨q0, ⟨q1, q2⟩, q3⟩ := HBB.out
          have hg := h.one (by omega)
          rw [Nat.add_sub_cancel, g1] at hg
          obtain ⟨v, h1, h2⟩ := near_end (by rw [← g1, ← g2]; exact q0) (by omega) (by omega) hg
          rw [← g2, ← g1] at h1
          have h3 := h.tab.cells.2.2.2 n
          rw [← g2] at h3
          exact ⟨v, h2, (h.rows (n % 3) (Nat.mod_lt _ (by decide))).1.cell h1, h3⟩
        have HV := Lib.hid hv
        have HBE := Lib.hid (show Below p wc wr from by obtain ⟨R, h⟩ := HP.out; exact h.below)
        obtain ⟨r, hr⟩ : ∃ r, r = n % 3 := ⟨_, rfl⟩
        rw [← hr] at hc hvm
        have CR := Lib.hid (row_any wr p n r (m + 1) (p + 1 + r) (by omega) hr.symm hvm)
        have mm : m < m + 1 := Nat.lt_succ_self m
        clear hv hr hvm HP
        go_wp2_with fail
        refine CR.out.mono ?_
        rintro e w5 ⟨rfl, h⟩
        obtain rfl : w5 = wr := h
        rcases HV.out with ⟨v1, v2, v3⟩ | ⟨v1, v2⟩
        · have d1 : ¬ most < (v : Int) := by omega
          go_wp2_with fail
          go_ret2
          refine ⟨?_, by rw [← HN.out.2.2.1]; exact HBE.out⟩
          unfold nearV
          rw [if_pos v2, decide_eq_true v2]
          rfl
        · have d1 : most < (v : Int) := by omega
          go_wp2_with fail
          go_ret2
          refine ⟨?_, by rw [← HN.out.2.2.1]; exact HBE.out⟩
          unfold nearV
          rw [if_neg (by omega), decide_eq_false (by omega)]
          rfl
  · have hf : ¬ (farL la lb : Int) ≤ most := by have := HN.out; omega
    have HF := Lib.hid hf
    clear hf
    go_enter Try.func9, Try.ntmps9
    go_upto_region 1 with fail
    go_cut [23] (fun t wx => t = .bool true ∧ wx = w)
    case first =>
      go_wp2_with fail
      all_goals go_meet
      all_goals exact ⟨by first | rfl | (congr 1; simp; omega), rfl⟩
    case rest =>
    obtain ⟨rfl, rfl⟩ := hcut
    clear hD
    go_wp2_with fail
    go_ret2
    refine ⟨?_, Below.refl _ _⟩
    unfold nearV
    have h9 := HF.out
    rw [if_neg (by omega), decide_eq_false (by omega)]
    rfl
/-- Near within the greatest. -/
theorem near_far (la lb : List Int) : nearV (farL la lb) (max (la.length : Int) lb.length) = .tuple #[.int .i64 (farL la lb), .bool true] := by
  have := farL_max la lb
  unfold nearV
  rw [if_pos (by omega), decide_eq_true (by omega)]
set_option maxRecDepth 100000 in
set_option maxHeartbeats 4000000 in
theorem far_any (w : World) (va vb : Value) (la lb : List Int) (ha : IntsAt w va la) (hb : IntsAt w vb lb) (na : la.length ≤ 1000) (nb : lb.length ≤ 1000) :
    Calls Try.prog 10 #[va, vb] w fun e w' => e = .returned (.int .i64 (farL la lb)) ∧ Below w.heap.size w w' := by
  have CN := Lib.hid (near_any w va vb la lb (max (la.length : Int) lb.length) ha hb na nb)
  rw [near_far] at CN
  obtain ⟨A, cap, rfl⟩ := ints_form ha
  obtain ⟨A', cap', rfl⟩ := ints_form hb
  obtain ⟨d, hd⟩ : ∃ d, d = farL la lb := ⟨_, rfl⟩
  rw [← hd] at CN ⊢
  obtain ⟨n, hn⟩ : ∃ n, n = la.length := ⟨_, rfl⟩
  obtain ⟨m, hm⟩ : ∃ m, m = lb.length := ⟨_, rfl⟩
  rw [← hn, ← hm] at CN ⊢
  clear ha hb hn hm hd na nb
  go_enter Try.func10, Try.ntmps10
  rcases Nat.lt_or_ge n m with h | h
  · have h1 : (n : Int) < m := by omega
    have h2 : ¬ (m : Int) < n := by omega
    rw [show max (n : Int) m = m by omega] at CN
    clear h
    go_wp2_with fail
    refine CN.out.mono ?_
    rintro e w1 ⟨rfl, hb⟩
    have HB := Lib.hid hb
    clear hb
    go_wp2_with fail
    go_ret
    exact ⟨rfl, HB.out⟩
  · have h1 : ¬ (n : Int) < m := by omega
    rw [show max (n : Int) m = n by omega] at CN
    clear h
    go_wp2_with fail
    refine CN.out.mono ?_
    rintro e w1 ⟨rfl, hb⟩
    have HB := Lib.hid hb
    clear hb
    go_wp2_with fail
    go_ret
    exact ⟨rfl, HB.out⟩
end Go.Proofs.Ytbghfbhchmoddaa
