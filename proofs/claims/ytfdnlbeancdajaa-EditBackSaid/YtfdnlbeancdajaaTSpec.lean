/- What Insert, Remove, Get, Find and Before make of a tree, plain. -/
import Derived.Test.YtfdnlbeancdajaaTTake
import Derived.Test.YtfdnlbeancdajaaTFollow
namespace Go.Proofs.Ytfdnlbeancdajaa.Avl
open Go Go.RowKit

/-! ### Insert -/
theorem gap_goes : Goes gapStep (fun t => t = .nil) Sea.Ok where
  nil := fun _ _ => rfl
  l := fun s l x r h hw => by
    simp only [gapStep] at hw ⊢
    split at hw
    · rename_i hc; rw [if_pos hc]; exact Sea.ok_l h
    · cases hw
  r := fun s l x r h hw => by
    simp only [gapStep] at hw ⊢
    split at hw
    · cases hw
    · rename_i hc; rw [if_neg hc]; exact Sea.ok_r h
  h := fun s l x r h hw => by
    simp only [gapStep] at hw
    split at hw <;> cases hw
theorem put_chg (y : It) : ∀ (t : AT) (i : Nat) (s : Sea), s.1 = i → chg gapStep (putAct y) t s = t.ins i y
  | .nil, i, s, h => rfl
  | .node l x r, i, s, h => by
    by_cases hc : i ≤ l.cnt
    · have hw : gapStep s (.node l x r) = (.l, s) := by simp only [gapStep]; rw [if_pos (by omega)]
      rw [chg_l (by rw [hw]), hw, AT.ins, if_pos hc, put_chg y l i s h]
    · have hw : gapStep s (.node l x r) = (.r, s.pass l x) := by simp only [gapStep]; rw [if_neg (by omega)]
      rw [chg_r (by rw [hw]), hw, AT.ins, if_neg hc, put_chg y r (i - l.cnt - 1) (s.pass l x) (by simp only [Sea.pass]; omega)]

/-! ### Remove -/
def delOk (t : AT) (s : Sea) : Prop := Sea.Ok t s ∧ t.Bal ∧ 0 ≤ s.1 ∧ s.1 < t.cnt ∧ t.cnt ≤ 700000 ∧ t.tot ≤ 800000000000000000
theorem place_goes : Goes placeStep (fun t => t.Bal ∧ t ≠ .nil ∧ t.cnt ≤ 700000 ∧ t.tot ≤ 800000000000000000) delOk where
  nil := fun s h => by
    obtain ⟨-, -, h1, h2, -⟩ := h
    simp only [AT.cnt] at h2; omega
  l := fun s l x r h hw => by
    obtain ⟨ho, hb, h1, h2, h3, h4⟩ := h
    simp only [placeStep] at hw ⊢
    split at hw
    · rename_i hc
      rw [if_pos hc]
      simp only [AT.cnt] at h3
      simp only [AT.tot] at h4
      exact ⟨Sea.ok_l ho, hb.1, h1, hc, by omega, by omega⟩
    · split at hw <;> cases hw
  r := fun s l x r h hw => by
    obtain ⟨ho, hb, h1, h2, h3, h4⟩ := h
    simp only [placeStep] at hw ⊢
    split at hw
    · cases hw
    · rename_i hc
      split at hw
      · cases hw
      · rename_i hd
        rw [if_neg hc, if_neg hd]
        simp only [AT.cnt] at h2 h3
        simp only [AT.tot] at h4
        refine ⟨Sea.ok_r ho, hb.2.1, ?_, ?_, by omega, by omega⟩
        · simp only [Sea.pass]; omega
        · simp only [Sea.pass]; omega
  h := fun s l x r h hw => ⟨h.2.1, by simp, h.2.2.2.2⟩
def delT (t : AT) (s : Sea) : AT := chg placeStep takeAct t s
theorem take_toL (l : AT) (x : It) (r : AT) : (takeAct (.node l x r)).fx.toL = l.toL ++ r.toL := by
  cases r with
  | nil =>
    simp only [takeAct, AT.toL, List.append_nil]
    cases l with
    | nil => rfl
    | node a y m => rw [AT.fx, AT.fix_toL]; rfl
  | node a y m =>
    rw [takeAct, AT.fx, AT.fix_toL, ← AT.pop_toL]
    rfl
theorem take_bal (l : AT) (x : It) (r : AT) (h : (AT.node l x r).Bal) : (takeAct (.node l x r)).fx.Bal ∧ (takeAct (.node l x r)).fx.ht ≤ max l.ht r.ht + 1 ∧ max l.ht r.ht ≤ (takeAct (.node l x r)).fx.ht := by
  obtain ⟨h1, h2, h3, h4⟩ := h
  cases r with
  | nil =>
    rw [takeAct, AT.fx_bal h1]
    exact ⟨h1, by simp [AT.ht], by simp [AT.ht]⟩
  | node a y m =>
    obtain ⟨b1, b2, b3⟩ := AT.pop_bal a y m h2
    obtain ⟨c1, c2, c3⟩ := AT.fix_bal l (AT.pop a y m).1 (AT.pop a y m).2 h1 b1 (by omega) (by omega)
    rw [takeAct, AT.fx]
    refine ⟨c1, by omega, ?_⟩
    by_cases hh : l.ht ≤ (AT.pop a y m).2.ht + 1
    · rw [AT.fix_same (by omega) (by omega), AT.ht_node l (AT.pop a y m).1 (AT.pop a y m).2]; omega
    · omega
theorem del_toL : ∀ (t : AT) (i : Nat) (s : Sea), s.1 = i → i < t.cnt → (delT t s).toL = dropL t.toL i
  | .nil, i, s, hs, h => by simp [AT.cnt] at h
  | .node l x r, i, s, hs, h => by
    rw [delT]
    by_cases hc : i < l.cnt
    · have hw : placeStep s (.node l x r) = (.l, s) := by simp only [placeStep]; rw [if_pos (by omega)]
      rw [chg_l (by rw [hw]), hw, AT.fix_toL]
      rw [show chg placeStep takeAct l (Way.l, s).2 = delT l s from rfl, del_toL l i s hs hc, AT.toL, dropL_left (by rw [AT.len]; exact hc)]
    · by_cases hd : i = l.cnt
      · have hw : placeStep s (.node l x r) = (.h, s) := by simp only [placeStep]; rw [if_neg (by omega), if_pos (by omega)]
        rw [chg_h (by rw [hw]), take_toL, AT.toL, show i = l.toL.length by rw [AT.len]; exact hd, dropL_here]
      · have hw : placeStep s (.node l x r) = (.r, s.pass l x) := by simp only [placeStep]; rw [if_neg (by omega), if_neg (by omega)]
        rw [chg_r (by rw [hw]), hw, AT.fix_toL]
        rw [show chg placeStep takeAct r (Way.r, s.pass l x).2 = delT r (s.pass l x) from rfl, del_toL r (i - l.cnt - 1) (s.pass l x) (by simp only [Sea.pass]; omega) (by rw [AT.cnt] at h; omega), AT.toL,
          dropL_right (by rw [AT.len]; omega), AT.len]
theorem del_bal : ∀ (t : AT) (i : Nat) (s : Sea), s.1 = i → i < t.cnt → t.Bal → (delT t s).Bal ∧ (delT t s).ht ≤ t.ht ∧ t.ht ≤ (delT t s).ht + 1
  | .nil, i, s, hs, h, _ => by simp [AT.cnt] at h
  | .node l x r, i, s, hs, h, ⟨h1, h2, h3, h4⟩ => by
    rw [delT]
    by_cases hc : i < l.cnt
    · have hw : placeStep s (.node l x r) = (.l, s) := by simp only [placeStep]; rw [if_pos (by omega)]
      rw [chg_l (by rw [hw]), hw]
      rw [show chg placeStep takeAct l (Way.l, s).2 = delT l s from rfl]
      obtain ⟨b1, b2, b3⟩ := del_bal l i s hs hc h1
      obtain ⟨c1, c2, c3⟩ := AT.fix_bal (delT l s) x r b1 h2 (by omega) (by omega)
      rw [AT.ht]
      refine ⟨c1, by omega, ?_⟩
      by_cases hh : r.ht ≤ (delT l s).ht + 1
      · rw [AT.fix_same (by omega) (by omega), AT.ht_node (delT l s) x r]; omega
      · omega
    · by_cases hd : i = l.cnt
      · have hw : placeStep s (.node l x r) = (.h, s) := by simp only [placeStep]; rw [if_neg (by omega), if_pos (by omega)]
        rw [chg_h (by rw [hw])]
        obtain ⟨c1, c2, c3⟩ := take_bal l x r ⟨h1, h2, h3, h4⟩
        rw [AT.ht]
        exact ⟨c1, by omega, by omega⟩
      · have hw : placeStep s (.node l x r) = (.r, s.pass l x) := by simp only [placeStep]; rw [if_neg (by omega), if_neg (by omega)]
        rw [chg_r (by rw [hw]), hw]
        rw [show chg placeStep takeAct r (Way.r, s.pass l x).2 = delT r (s.pass l x) from rfl]
        obtain ⟨b1, b2, b3⟩ := del_bal r (i - l.cnt - 1) (s.pass l x) (by simp only [Sea.pass]; omega) (by rw [AT.cnt] at h; omega) h2
        obtain ⟨c1, c2, c3⟩ := AT.fix_bal l x (delT r (s.pass l x)) h1 b1 (by omega) (by omega)
        rw [AT.ht]
        refine ⟨c1, by omega, ?_⟩
        by_cases hh : l.ht ≤ (delT r (s.pass l x)).ht + 1
        · rw [AT.fix_same (by omega) (by omega), AT.ht_node l x (delT r (s.pass l x))]; omega
        · omega

/-! ### Get, Find, Before -/
/-- The node that stands at a place. -/
theorem fol_place : ∀ (t : AT) (i : Nat) (s : Sea) (y : It), s.1 = i → t.toL[i]? = some y → ∃ l r, (fol placeStep t s).2 = .node l y r
  | .nil, i, s, y, hs, h => by simp [AT.toL] at h
  | .node l x r, i, s, y, hs, h => by
    by_cases hc : i < l.cnt
    · have hw : placeStep s (.node l x r) = (.l, s) := by simp only [placeStep]; rw [if_pos (by omega)]
      rw [fol_l (by rw [hw]), hw]
      rw [AT.toL, get_left (by rw [AT.len]; exact hc)] at h
      exact fol_place l i s y hs h
    · by_cases hd : i = l.cnt
      · have hw : placeStep s (.node l x r) = (.h, s) := by simp only [placeStep]; rw [if_neg (by omega), if_pos (by omega)]
        rw [fol_h (by rw [hw])]
        rw [AT.toL, show i = l.toL.length by rw [AT.len]; exact hd, get_here] at h
        cases h
        exact ⟨l, r, rfl⟩
      · have hw : placeStep s (.node l x r) = (.r, s.pass l x) := by simp only [placeStep]; rw [if_neg (by omega), if_neg (by omega)]
        rw [fol_r (by rw [hw]), hw]
        rw [AT.toL, get_right (by rw [AT.len]; omega), AT.len] at h
        exact fol_place r (i - l.cnt - 1) (s.pass l x) y (by simp only [Sea.pass]; omega) h
/-- What lies ahead of a gap. -/
theorem fol_gap : ∀ (t : AT) (i : Nat) (s : Sea), s.1 = i → (fol gapStep t s).1.2.2 = s.2.2 + before t.toL (i : Int)
  | .nil, i, s, hs => by simp [fol, AT.toL, before]
  | .node l x r, i, s, hs => by
    by_cases hc : i ≤ l.cnt
    · have hw : gapStep s (.node l x r) = (.l, s) := by simp only [gapStep]; rw [if_pos (by omega)]
      rw [fol_l (by rw [hw]), hw, fol_gap l i s hs, AT.toL, before_left (by rw [AT.len]; exact hc)]
    · have hw : gapStep s (.node l x r) = (.r, s.pass l x) := by simp only [gapStep]; rw [if_neg (by omega)]
      rw [fol_r (by rw [hw]), hw, fol_gap r (i - l.cnt - 1) (s.pass l x) (by simp only [Sea.pass]; omega), AT.toL, before_right (by rw [AT.len]; omega), AT.len, AT.total]
      simp only [Sea.pass]
      push_cast
      omega
/-- The item that a place lies in. -/
theorem fol_end : ∀ (t : AT) (p : Nat) (s : Sea), s.1 = p → (t.tot ≤ p → (fol endStep t s).2 = .nil) ∧
    (p < t.tot → (fol endStep t s).2 ≠ .nil ∧ (fol endStep t s).1.2.1 = s.2.1 + (findL t.toL p).1 ∧ (fol endStep t s).1.2.2 + (findL t.toL p).2 = s.2.2 + p)
  | .nil, p, s, hs => ⟨fun _ => rfl, fun h => by simp [AT.tot] at h⟩
  | .node l x r, p, s, hs => by
    by_cases hc : p < l.tot
    · have hw : endStep s (.node l x r) = (.l, s) := by simp only [endStep]; rw [if_pos (by omega)]
      rw [fol_l (by rw [hw]), hw]
      obtain ⟨-, ih⟩ := fol_end l p s hs
      refine ⟨fun h => by rw [AT.tot] at h; omega, fun _ => ?_⟩
      rw [AT.toL, find_left (by rw [AT.total]; exact hc)]
      exact ih hc
    · by_cases hd : p < l.tot + x.2
      · have hw : endStep s (.node l x r) = (.h, (s.1 - l.tot, s.2.1 + l.cnt, s.2.2 + l.tot)) := by simp only [endStep]; rw [if_neg (by omega), if_pos (by omega)]
        rw [fol_h (by rw [hw]), hw]
        refine ⟨fun h => by rw [AT.tot] at h; omega, fun _ => ⟨by simp, ?_, ?_⟩⟩
        · rw [AT.toL, find_right (by rw [AT.total]; omega), find_here (by rw [AT.total]; omega), AT.len]
          simp
        · rw [AT.toL, find_right (by rw [AT.total]; omega), find_here (by rw [AT.total]; omega), AT.total]
          simp only
          omega
      · have hw : endStep s (.node l x r) = (.r, s.passZ l x) := by simp only [endStep]; rw [if_neg (by omega), if_neg (by omega)]
        rw [fol_r (by rw [hw]), hw]
        obtain ⟨ih1, ih2⟩ := fol_end r (p - l.tot - x.2) (s.passZ l x) (by simp only [Sea.passZ]; omega)
        refine ⟨fun h => ih1 (by rw [AT.tot] at h; omega), fun h => ?_⟩
        obtain ⟨g1, g2, g3⟩ := ih2 (by rw [AT.tot] at h; omega)
        refine ⟨g1, ?_, ?_⟩
        · rw [g2, AT.toL, find_right (by rw [AT.total]; omega), find_over (by rw [AT.total]; omega), AT.len, AT.total]
          simp only [Sea.passZ]
          rw [show p - l.tot - x.2 = p - l.tot - x.2 from rfl]
          omega
        · rw [AT.toL, find_right (by rw [AT.total]; omega), find_over (by rw [AT.total]; omega), AT.total]
          simp only [Sea.passZ] at g3 ⊢
          omega
end Go.Proofs.Ytfdnlbeancdajaa.Avl
