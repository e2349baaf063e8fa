/- Plain: tokens are runs of units: each begins and ends with a letter or a digit, they rise and do not touch; a token's bytes are read by themselves as they are there. -/
import Derived.Test.YtmebboadadlahaaDoorSMath
namespace Go.Proofs.YtmebboadadlahaaDoor
open Go Go.Lib

/-- What is cut behind a unit reads that unit. -/
theorem decodeL_take (m : List UInt8) (n : Nat) (hne : m ≠ []) (hn : (decodeL m).2 ≤ n) : decodeL (m.take n) = decodeL m := by
  have hm : 0 < m.length := List.length_pos_iff.2 hne
  have hw := decodeL_width m
  have hg : ∀ k, k < n → (m.take n).getD k 0 = m.getD k 0 := fun k hk => by simp [List.getD, hk]
  have hlen : (m.take n).length = min n m.length := List.length_take
  rw [decodeL_N] at hn hw
  rw [decodeL_N, decodeL_N m, hg 0 (by omega)]
  by_cases h1 : n = 1
  · subst h1
    by_cases ha : (m.getD 0 0).toNat < 128
    · unfold decodeN
      rw [if_pos ha, if_pos ha]
    · rw [decodeN_alone _ _ _ _ _ (by omega) (.inl (by omega))]
      revert hn
      unfold decodeN
      rw [if_neg ha]
      repeat' split
      all_goals simp_all
  · rw [hg 1 (by omega)]
    have c1 : (1 < (m.take n).length) = (1 < m.length) := propext ⟨fun h => by omega, fun h => by omega⟩
    by_cases h2 : n = 2
    · have c2 : (2 < (m.take n).length) = False := propext ⟨fun h => by omega, fun h => h.elim⟩
      revert hn
      unfold decodeN
      simp only [c1, c2, false_and, and_false, if_false]
      subst h2
      repeat' split
      all_goals simp_all
    · have c2 : (2 < (m.take n).length) = (2 < m.length) := propext ⟨fun h => by omega, fun h => by omega⟩
      rw [hg 2 (by omega)]
      by_cases h3 : n = 3
      · have c3 : (3 < (m.take n).length) = False := propext ⟨fun h => by omega, fun h => h.elim⟩
        revert hn
        unfold decodeN
        simp only [c1, c2, c3, false_and, and_false, if_false]
        subst h3
        repeat' split
        all_goals simp_all
      · have c3 : (3 < (m.take n).length) = (3 < m.length) := propext ⟨fun h => by omega, fun h => by omega⟩
        rw [hg 3 (by omega)]
        unfold decodeN
        simp only [c1, c2, c3]

theorem uCode_take (m : List UInt8) (n : Nat) (hne : m ≠ []) (hn : (decodeL m).2 ≤ n) : uCode (m.take n) = uCode m := by
  have hd := decodeL_take m n hne hn
  have hw := decodeL_width m
  have hg : (m.take n).getD 0 0 = m.getD 0 0 := by simp [List.getD, show 0 < n by omega]
  have hu : uBad (m.take n) = uBad m := by simp [uBad, hd]
  rw [uCode, uCode, hu, hd, hg]

/-- The bytes of units. -/
def lenU : List U3 → Nat
  | [] => 0
  | u :: t => u.2.1 + lenU t
theorem lenU_append : ∀ (a b : List U3), lenU (a ++ b) = lenU a + lenU b
  | [], b => by simp [lenU]
  | u :: a, b => by rw [List.cons_append, lenU, lenU, lenU_append a b]; omega

/-- Behind some units the rest is the units from there on. -/
theorem units_behind : ∀ (a r : List U3) (p : Nat) (l : List UInt8), units p l = a ++ r → r = units (p + lenU a) (l.drop (lenU a)) ∧ lenU a ≤ l.length
  | [], r, p, l, h => by simpa [lenU] using h.symm
  | u :: a, r, p, l, h => by
    by_cases hne : l = []
    · subst hne; simp [units_nil] at h
    · rw [units_step p l hne, List.cons_append, List.cons.injEq] at h
      obtain ⟨hu, ht⟩ := h
      have hle := decodeL_le l hne
      have hul : u.2.1 = (decodeL l).2 := by rw [← hu]
      obtain ⟨h1, h2⟩ := units_behind a r _ _ ht
      rw [List.length_drop] at h2
      rw [lenU, hul]
      refine ⟨?_, by omega⟩
      rw [h1, List.drop_drop, Nat.add_assoc]
/-- Cut behind some units, those units are left. -/
theorem units_ahead : ∀ (b d : List U3) (p : Nat) (l : List UInt8), units p l = b ++ d → units p (l.take (lenU b)) = b
  | [], _, p, l, _ => by simp [lenU, units_nil]
  | u :: b, d, p, l, h => by
    by_cases hne : l = []
    · subst hne; simp [units_nil] at h
    · rw [units_step p l hne, List.cons_append, List.cons.injEq] at h
      obtain ⟨hu, ht⟩ := h
      have hle := decodeL_le l hne
      have hw := decodeL_width l
      have hul : u.2.1 = (decodeL l).2 := by rw [← hu]
      have hn : (decodeL l).2 ≤ lenU (u :: b) := by rw [lenU, hul]; omega
      have hne2 : l.take (lenU (u :: b)) ≠ [] := by
        intro h0
        have := congrArg List.length h0
        rw [List.length_take, List.length_nil] at this
        have hl : 0 < l.length := List.length_pos_iff.2 hne
        omega
      have ih := units_ahead b d _ _ ht
      rw [units_step p _ hne2, decodeL_take l _ hne hn, uCode_take l _ hne hn, hu]
      congr 1
      rw [List.drop_take, show lenU (u :: b) - (decodeL l).2 = lenU b from by rw [lenU, hul]; omega]
      exact ih

/-- The runs of solid units, one of which is open. -/
def runs (kd : Int → Int) : Int → List U3 → List U3 → List (List U3)
  | _, c, [] => if c = [] then [] else [c]
  | p, c, u :: t => if solidB p (kd u.2.2) (headK kd t) then runs kd (kd u.2.2) (c ++ [u]) t else (if c = [] then [] else [c]) ++ runs kd (kd u.2.2) [] t
/-- A run's token. -/
def tokOf (kd : Int → Int) (b : List U3) : Tok := ((b.headD (0, 0, 0)).1, (b.headD (0, 0, 0)).1 + lenU b, b.all fun u => kd u.2.2 != 2)
def openTok (kd : Int → Int) (c : List U3) : Option Tok := if c = [] then none else some (tokOf kd c)

/-- Units one behind the other, from a place on. -/
def Contig : Nat → List U3 → Prop
  | _, [] => True
  | p, u :: t => u.1 = p ∧ 1 ≤ u.2.1 ∧ Contig (p + u.2.1) t
theorem contig_units : ∀ (l : List UInt8) (p : Nat), Contig p (units p l) := by
  apply unit_ind (C := fun l => ∀ p, Contig p (units p l))
  · intro p; rw [units_nil]; trivial
  · intro l hne ih p
    rw [units_step p l hne]
    exact ⟨rfl, decodeL_width l, ih _⟩
theorem contig_append : ∀ (a b : List U3) (p : Nat), Contig p (a ++ b) ↔ Contig p a ∧ Contig (p + lenU a) b
  | [], b, p => by simp [Contig, lenU]
  | u :: a, b, p => by
    rw [List.cons_append, Contig, Contig, contig_append a b, lenU, and_assoc, and_assoc, Nat.add_assoc]
theorem contig_head {p : Nat} {c : List U3} (h : Contig p c) (hc : c ≠ []) : (c.headD (0, 0, 0)).1 = p ∧ 1 ≤ lenU c := by
  cases c with
  | nil => exact absurd rfl hc
  | cons u t => exact ⟨h.1, by have := h.2.1; rw [lenU]; omega⟩

theorem tokOf_snoc (kd : Int → Int) (c : List U3) (u : U3) (p : Nat) (h : Contig p (c ++ [u])) : some (tokOf kd (c ++ [u])) = some (ext (openTok kd c) u (kd u.2.2)) := by
  cases c with
  | nil =>
    simp [tokOf, ext, openTok, lenU]
  | cons x t =>
    have h1 := (contig_append (x :: t) [u] p).1 h
    have hx : x.1 = p := h1.1.1
    have hu : u.1 = p + lenU (x :: t) := h1.2.1
    have hl : lenU (x :: t ++ [u]) = lenU (x :: t) + u.2.1 := by rw [lenU_append]; simp [lenU]
    have e1 : (tokOf kd (x :: t ++ [u])) = (x.1, x.1 + lenU (x :: t ++ [u]), (x :: t ++ [u]).all fun u => kd u.2.2 != 2) := rfl
    rw [e1, hl, List.all_append]
    simp [ext, openTok, tokOf, hu, hx, Nat.add_assoc]

theorem segs_runs (kd : Int → Int) : ∀ (us : List U3) (p : Int) (c : List U3) (q : Nat), Contig q (c ++ us) → segs kd p (openTok kd c) us = (runs kd p c us).map (tokOf kd)
  | [], p, c, q, h => by
    by_cases hc : c = []
    · subst hc; simp [segs, runs, openTok]
    · simp [segs, runs, openTok, hc]
  | u :: us, p, c, q, h => by
    have h' : Contig q ((c ++ [u]) ++ us) := by simpa using h
    rw [segs, runs]
    split
    · have hc1 : Contig q (c ++ [u]) := ((contig_append (c ++ [u]) us q).1 h').1
      have := segs_runs kd us (kd u.2.2) (c ++ [u]) q h'
      rw [← this, ← tokOf_snoc kd c u q hc1]
      simp [openTok]
    · have hc2 : Contig (q + lenU (c ++ [u])) ([] ++ us) := ((contig_append (c ++ [u]) us q).1 h').2
      have := segs_runs kd us (kd u.2.2) [] _ hc2
      rw [List.map_append, ← this]
      by_cases hc : c = []
      · subst hc; simp [openTok]
      · simp [openTok, hc]

/-- A run begins and ends with a letter or a digit. -/
def Firm (kd : Int → Int) (b : List U3) : Prop := ∃ x y, b.head? = some x ∧ b.getLast? = some y ∧ firmB (kd x.2.2) = true ∧ firmB (kd y.2.2) = true
theorem runs_firm (kd : Int → Int) : ∀ (us : List U3) (p : Int) (c : List U3),
    (c = [] → firmB p = false) → (c ≠ [] → ∃ x y, c.head? = some x ∧ c.getLast? = some y ∧ firmB (kd x.2.2) = true ∧ p = kd y.2.2 ∧ (firmB (kd y.2.2) = true ∨ firmB (headK kd us) = true)) →
    ∀ b ∈ runs kd p c us, Firm kd b
  | [], p, c, _, h2, b, hb => by
    rw [runs] at hb
    split at hb
    · simp at hb
    · rename_i hc
      obtain ⟨x, y, hx, hy, f1, _, f2⟩ := h2 hc
      have : b = c := by simpa using hb
      subst this
      rcases f2 with f2 | f2
      · exact ⟨x, y, hx, hy, f1, f2⟩
      · simp [headK, firmB] at f2
  | u :: us, p, c, h1, h2, b, hb => by
    rw [runs] at hb
    split at hb
    · rename_i hs
      refine runs_firm kd us (kd u.2.2) (c ++ [u]) (fun h => by simp at h) (fun _ => ?_) b hb
      have hk : firmB (kd u.2.2) = true ∨ firmB (headK kd us) = true := by
        simp only [solidB, Bool.or_eq_true, Bool.and_eq_true] at hs
        rcases hs with hs | ⟨_, hs⟩
        · exact .inl hs
        · exact .inr hs
      by_cases hc : c = []
      · subst hc
        have hp := h1 rfl
        have hf : firmB (kd u.2.2) = true := by
          simp only [solidB, hp, Bool.and_false, Bool.false_and, Bool.or_false] at hs
          exact hs
        exact ⟨u, u, rfl, rfl, hf, rfl, hk⟩
      · obtain ⟨x, y, hx, _, f1, _, _⟩ := h2 hc
        refine ⟨x, u, ?_, by simp, f1, rfl, hk⟩
        cases c with
        | nil => exact absurd rfl hc
        | cons z zs => exact hx
    · rename_i hs
      have hk : firmB (kd u.2.2) = false := by
        cases hf : firmB (kd u.2.2) with
        | false => rfl
        | true => exact absurd (by simp [solidB, hf]) hs
      rw [List.mem_append] at hb
      rcases hb with hb | hb
      · split at hb
        · simp at hb
        · rename_i hc
          obtain ⟨x, y, hx, hy, f1, _, f2⟩ := h2 hc
          have : b = c := by simpa using hb
          subst this
          rcases f2 with f2 | f2
          · exact ⟨x, y, hx, hy, f1, f2⟩
          · rw [headK, hk] at f2; cases f2
      · exact runs_firm kd us (kd u.2.2) [] (fun _ => hk) (fun h => absurd rfl h) b hb

/-- A run lies in the units as it is. -/
theorem runs_in (kd : Int → Int) : ∀ (us : List U3) (p : Int) (c : List U3), ∀ b ∈ runs kd p c us, b ≠ [] ∧ ∃ a d, c ++ us = a ++ b ++ d
  | [], p, c, b, hb => by
    rw [runs] at hb
    split at hb
    · simp at hb
    · rename_i hc
      have : b = c := by simpa using hb
      subst this
      exact ⟨hc, [], [], by simp⟩
  | u :: us, p, c, b, hb => by
    rw [runs] at hb
    split at hb
    · obtain ⟨h0, a, d, h⟩ := runs_in kd us _ _ b hb
      exact ⟨h0, a, d, by rw [← h]; simp⟩
    · rw [List.mem_append] at hb
      rcases hb with hb | hb
      · split at hb
        · simp at hb
        · rename_i hc
          have : b = c := by simpa using hb
          subst this
          exact ⟨hc, [], u :: us, by simp⟩
      · obtain ⟨h0, a, d, h⟩ := runs_in kd us _ _ b hb
        exact ⟨h0, c ++ [u] ++ a, d, by rw [List.nil_append] at h; rw [h]; simp⟩

/-- Tokens rise and do not touch. -/
def Rise : Int → List Tok → Prop
  | _, [] => True
  | a, t :: ts => a < t.1 ∧ t.1 < t.2.1 ∧ Rise t.2.1 ts
theorem runs_rise (kd : Int → Int) : ∀ (us : List U3) (p : Int) (c : List U3) (q : Nat) (a : Int), Contig q (c ++ us) → a < q → Rise a ((runs kd p c us).map (tokOf kd))
  | [], p, c, q, a, h, ha => by
    rw [runs]
    split
    · trivial
    · rename_i hc
      obtain ⟨h1, h2⟩ := contig_head (by simpa using h) hc
      refine ⟨?_, ?_, trivial⟩
      · show a < ((c.headD (0, 0, 0)).1 : Int); rw [h1]; exact ha
      · show ((c.headD (0, 0, 0)).1 : Nat) < (c.headD (0, 0, 0)).1 + lenU c; omega
  | u :: us, p, c, q, a, h, ha => by
    have h' : Contig q ((c ++ [u]) ++ us) := by simpa using h
    rw [runs]
    split
    · exact runs_rise kd us _ (c ++ [u]) q a h' ha
    · have h2 := ((contig_append (c ++ [u]) us q).1 h')
      have hu : 1 ≤ u.2.1 := ((contig_append c [u] q).1 h2.1).2.2.1
      have hl : lenU (c ++ [u]) = lenU c + u.2.1 := by rw [lenU_append]; simp [lenU]
      have hr := fun a ha => runs_rise kd us (kd u.2.2) [] (q + lenU (c ++ [u])) a (by simpa using h2.2) ha
      by_cases hc : c = []
      · rw [if_pos hc, List.nil_append]
        exact hr a (by omega)
      · obtain ⟨g1, g2⟩ := contig_head ((contig_append c [u] q).1 h2.1).1 hc
        rw [if_neg hc]
        refine ⟨?_, ?_, hr _ ?_⟩
        · show a < ((c.headD (0, 0, 0)).1 : Int); rw [g1]; exact ha
        · show ((c.headD (0, 0, 0)).1 : Nat) < (c.headD (0, 0, 0)).1 + lenU c; omega
        · show (((c.headD (0, 0, 0)).1 + lenU c : Nat) : Int) < _; rw [g1, hl]; omega
end Go.Proofs.YtmebboadadlahaaDoor
