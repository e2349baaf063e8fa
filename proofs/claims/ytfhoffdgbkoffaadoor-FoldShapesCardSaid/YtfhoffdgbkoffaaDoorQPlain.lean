/- Rules, plain: no program. A line's words; what a line reads as; a rule's line; one is read as the other. -/
import Derived.Test.YtfhoffdgbkoffaaDoorNText
namespace Go.Proofs.YtfhoffdgbkoffaaDoor
open Go Go.Lib

/-! ### Words -/
def wordsL : List UInt8 → List (List UInt8)
  | [] => [[]]
  | b :: r => if b = 32 then [] :: wordsL r else match wordsL r with
    | [] => [[b]]
    | h :: t => (b :: h) :: t
theorem wordsL_cons (b : UInt8) (r : List UInt8) : wordsL (b :: r) = if b = 32 then [] :: wordsL r else match wordsL r with
    | [] => [[b]]
    | h :: t => (b :: h) :: t := rfl
theorem wordsL_ne : ∀ l, wordsL l ≠ []
  | [] => by simp [wordsL]
  | b :: r => by
    unfold wordsL
    split
    · simp
    · split <;> simp
/-- A word ahead of a blank. -/
theorem wordsL_app : ∀ (a r : List UInt8), (32 : UInt8) ∉ a → wordsL (a ++ 32 :: r) = a :: wordsL r
  | [], r, _ => by simp [wordsL]
  | b :: a, r, h => by
    have hb : b ≠ 32 := fun e => h (by rw [e]; exact List.mem_cons_self ..)
    have ih := wordsL_app a r fun e => h (List.mem_cons_of_mem _ e)
    show wordsL (b :: (a ++ 32 :: r)) = _
    rw [wordsL_cons, if_neg hb, ih]
theorem wordsL_one : ∀ (a : List UInt8), (32 : UInt8) ∉ a → wordsL a = [a]
  | [], _ => rfl
  | b :: a, h => by
    have hb : b ≠ 32 := fun e => h (by rw [e]; exact List.mem_cons_self ..)
    have ih := wordsL_one a fun e => h (List.mem_cons_of_mem _ e)
    rw [wordsL_cons, if_neg hb, ih]
theorem wordsL_mem : ∀ (l : List UInt8) w, w ∈ wordsL l → (32 : UInt8) ∉ w ∧ w.length ≤ l.length
  | [], w, h => by
    simp [wordsL] at h
    subst h
    simp
  | b :: r, w, h => by
    unfold wordsL at h
    split at h
    · rcases List.mem_cons.1 h with rfl | h
      · simp
      · obtain ⟨h1, h2⟩ := wordsL_mem r w h
        exact ⟨h1, by rw [List.length_cons]; omega⟩
    · rename_i hb
      split at h
      · rename_i he; exact absurd he (wordsL_ne r)
      · rename_i x t he
        rcases List.mem_cons.1 h with rfl | h
        · obtain ⟨h1, h2⟩ := wordsL_mem r x (by rw [he]; exact List.mem_cons_self ..)
          refine ⟨fun e => ?_, by rw [List.length_cons, List.length_cons]; omega⟩
          rcases List.mem_cons.1 e with e | e
          · exact hb e.symm
          · exact h1 e
        · obtain ⟨h1, h2⟩ := wordsL_mem r w (by rw [he]; exact List.mem_cons_of_mem _ h)
          exact ⟨h1, by rw [List.length_cons]; omega⟩

/-! ### Rules -/
structure Ru where
  pre : Bool
  flag : Int
  cross : Bool
  strip : ByteArray
  add : ByteArray
  cond : List It
deriving DecidableEq
def ru0 : Ru := ⟨false, 0, false, ⟨#[]⟩, ⟨#[]⟩, []⟩
/-- A letter's number; 0: it is none. -/
def flagL : List UInt8 → Int
  | [b] => if (97 ≤ b.toNat ∧ b.toNat ≤ 122) ∨ (65 ≤ b.toNat ∧ b.toNat ≤ 90) then (b.toNat : Int) else 0
  | _ => 0
/-- What is taken away, what is put there. -/
def partL (w : List UInt8) : Option ByteArray := if w = [48] then some ⟨#[]⟩ else if w ≠ [] ∧ w.length ≤ 20 ∧ validD w = true then some ⟨w.toArray⟩ else none
def pfx : List UInt8 := [80, 70, 88]
def sfx : List UInt8 := [83, 70, 88]
def parse6 (a f c x y z : List UInt8) : Option Ru :=
  if (a = pfx ∨ a = sfx) ∧ flagL f ≠ 0 ∧ (c = [89] ∨ c = [78]) then
    match partL x, partL y, parseS ⟨z.toArray⟩ with
    | some u, some v, some l => some ⟨decide (a = pfx), flagL f, decide (c = [89]), u, v, l⟩
    | _, _, _ => none
  else none
def parseR (s : ByteArray) : Option Ru :=
  match wordsL s.data.toList with
  | [a, f, c, x, y, z] => parse6 a f c x y z
  | _ => none
def or0L (s : ByteArray) : List UInt8 := if s.data.toList = [] then [48] else s.data.toList
/-- A rule's line, its condition's text t. -/
def lineL (r : Ru) (t : List UInt8) : List UInt8 :=
  (if r.pre then pfx else sfx) ++ 32 :: ([UInt8.ofNat r.flag.toNat] ++ 32 :: ((if r.cross then [89] else [78]) ++ 32 :: (or0L r.strip ++ 32 :: (or0L r.add ++ 32 :: t))))
theorem flagL_says {w : List UInt8} (h : flagL w ≠ 0) : w = [UInt8.ofNat (flagL w).toNat] ∧ (32 : UInt8) ∉ w ∧ 0 < flagL w ∧ flagL w ≤ 127 := by
  match w, h with
  | [], h => exact absurd rfl h
  | _ :: _ :: _, h => exact absurd rfl h
  | [b], h =>
    have hd : flagL [b] = if (97 ≤ b.toNat ∧ b.toNat ≤ 122) ∨ (65 ≤ b.toNat ∧ b.toNat ≤ 90) then (b.toNat : Int) else 0 := rfl
    rw [hd] at h ⊢
    by_cases hb : (97 ≤ b.toNat ∧ b.toNat ≤ 122) ∨ (65 ≤ b.toNat ∧ b.toNat ≤ 90)
    · rw [if_pos hb]
      have hlt := b.toNat_lt
      refine ⟨by simp, ?_, by omega, by omega⟩
      simp only [List.mem_singleton]
      intro e
      rw [← e] at hb
      simp at hb
    · rw [if_neg hb] at h
      exact absurd rfl h
theorem partL_says {w : List UInt8} {u : ByteArray} (h : partL w = some u) (hw : (32 : UInt8) ∉ w) : partL (or0L u) = some u ∧ (32 : UInt8) ∉ or0L u ∧ u.size ≤ 20 := by
  unfold partL at h
  split at h
  · simp only [Option.some.injEq] at h
    subst h
    exact ⟨rfl, by decide, by decide⟩
  · rename_i h48
    split at h
    · rename_i hc
      simp only [Option.some.injEq] at h
      subst h
      have ho : or0L ⟨w.toArray⟩ = w := by unfold or0L; rw [if_neg (by simpa using hc.1)]
      rw [ho]
      refine ⟨?_, hw, by show w.toArray.size ≤ 20; simpa using hc.2.1⟩
      unfold partL
      rw [if_neg h48, if_pos hc]
    · cases h
/-- What is read has a line that is read as that. -/
theorem parseR_back {s : ByteArray} {r : Ru} (h : parseR s = some r) (hs : s.size ≤ 1200) :
    parseR ⟨(lineL r (textS r.cond).data.toList).toArray⟩ = some r ∧ 0 < r.flag ∧ r.flag ≤ 127 ∧ Fit r.cond ∧ r.strip.size ≤ 20 ∧ r.add.size ≤ 20 ∧ (textC r.cond).length ≤ s.size := by
  unfold parseR at h
  split at h
  · rename_i a f c x y z hw
    have hmem : ∀ w ∈ [a, f, c, x, y, z], (32 : UInt8) ∉ w ∧ w.length ≤ s.data.toList.length := fun w hw' => wordsL_mem _ w (by rw [hw]; exact hw')
    unfold parse6 at h
    split at h
    · rename_i hc
      split at h
      · rename_i u v l hx hy hz
        simp only [Option.some.injEq] at h
        subst h
        obtain ⟨hf1, hf2, hf3, hf4⟩ := flagL_says hc.2.1
        obtain ⟨hx1, hx2, hx3⟩ := partL_says hx (hmem x (by simp)).1
        obtain ⟨hy1, hy2, hy3⟩ := partL_says hy (hmem y (by simp)).1
        have hzl := (hmem z (by simp)).2
        have hsl : s.data.toList.length = s.size := (Lib.size_eq s).symm
        have hzs : (⟨z.toArray⟩ : ByteArray).size ≤ 1200 := by show z.toArray.size ≤ 1200; rw [List.size_toArray]; omega
        obtain ⟨hfit, htx⟩ := parseS_fit hz hzs
        have hzz : (⟨z.toArray⟩ : ByteArray).size = z.length := by show z.toArray.size = _; rw [List.size_toArray]
        refine ⟨?_, hf3, hf4, hfit, hx3, hy3, by dsimp only; omega⟩
        -- the condition's text has no blank
        have hnb : (32 : UInt8) ∉ (textS l).data.toList := by
          unfold parseS at hz
          split at hz
          · cases hz
          · rename_i cs hcs
            have hpt := (codesB_says hcs).1
            have he := encL_codesB hcs
            have hz32 : (32 : Int) ∉ cs := fun hm => (hmem z (by simp)).1 (by
              have := (encL_mem hpt (b := 32) (by decide)).2 hm
              rw [he] at this
              exact this)
            have hall := (parseC_says hz).1
            intro hm
            have hpc : ∀ c ∈ textC l, Pt c := textC_mem hfit.pts rfl rfl rfl rfl
            have h1 := (encL_mem hpc (b := 32) (by decide)).1 hm
            exact textC_mem (P := fun c => c ≠ 32) (fun it hit c hc e => hz32 (e ▸ (hall it hit).2.1 c hc)) (by decide) (by decide) (by decide) (by decide) _ h1 rfl
        have hpre : (32 : UInt8) ∉ (if decide (a = pfx) = true then pfx else sfx) := by split <;> decide
        have hcr : (32 : UInt8) ∉ (if decide (c = [89]) = true then [89] else [78] : List UInt8) := by split <;> decide
        have hfl : (32 : UInt8) ∉ [UInt8.ofNat (flagL f).toNat] := by rw [← hf1]; exact hf2
        unfold parseR lineL
        dsimp only
        rw [wordsL_app _ _ hpre, wordsL_app _ _ hfl, wordsL_app _ _ hcr, wordsL_app _ _ hx2, wordsL_app _ _ hy2, wordsL_one _ hnb]
        dsimp only
        have ha : (if decide (a = pfx) = true then pfx else sfx) = a := by
          rcases hc.1 with e | e
          · rw [e]; simp
          · rw [e]; decide
        have hcc : (if decide (c = [89]) = true then [89] else [78] : List UInt8) = c := by
          rcases hc.2.2 with e | e
          · rw [e]; simp
          · rw [e]; decide
        rw [ha, hcc, ← hf1]
        unfold parse6
        rw [if_pos hc, hx1, hy1, show (⟨((textS l).data.toList).toArray⟩ : ByteArray) = textS l by simp, (parseS_text hfit).1]
      · cases h
    · cases h
  · cases h

/-! ### A rule's text; what comes of a word -/
def textR (r : Ru) : ByteArray :=
  if 0 ≤ r.flag ∧ r.flag ≤ 127 ∧ parseR ⟨(lineL r (textG r.cond).data.toList).toArray⟩ = some r then ⟨(lineL r (textG r.cond).data.toList).toArray⟩ else ⟨#[]⟩
/-- What comes of a word by a rule; empty: nothing. -/
def applyR (r : Ru) (w : ByteArray) : ByteArray :=
  match codesB w.data.toList with
  | none => ⟨#[]⟩
  | some cs =>
    if r.pre then
      if r.strip.size ≤ w.size ∧ w.extract 0 r.strip.size = r.strip ∧ startsP r.cond cs = true then r.add ++ w.extract r.strip.size w.size else ⟨#[]⟩
    else if r.strip.size ≤ w.size ∧ w.extract (w.size - r.strip.size) w.size = r.strip ∧ endsP r.cond cs = true then w.extract 0 (w.size - r.strip.size) ++ r.add else ⟨#[]⟩
def bothR (p s : Ru) (w : ByteArray) : ByteArray :=
  if p.pre = true ∧ s.pre = false ∧ p.cross = true ∧ s.cross = true ∧ (applyR p w).size ≠ 0 ∧ (applyR s w).size ≠ 0 ∧ p.strip.size + s.strip.size ≤ w.size then
    p.add ++ w.extract p.strip.size (w.size - s.strip.size) ++ s.add
  else ⟨#[]⟩
theorem textR_back {s : ByteArray} {r : Ru} (h : parseR s = some r) (hs : s.size ≤ 1200) : textR r = ⟨(lineL r (textS r.cond).data.toList).toArray⟩ ∧ parseR (textR r) = some r := by
  obtain ⟨h1, h2, h3, h4, _⟩ := parseR_back h hs
  have ht : textR r = ⟨(lineL r (textS r.cond).data.toList).toArray⟩ := by
    unfold textR
    rw [textG_fit h4]
    exact if_pos ⟨by omega, h3, h1⟩
  exact ⟨ht, ht ▸ h1⟩
end Go.Proofs.YtfhoffdgbkoffaaDoor
