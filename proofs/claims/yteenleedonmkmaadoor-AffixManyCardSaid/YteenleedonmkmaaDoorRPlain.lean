/- Rules, plain: what Check asks, and that a line says just such rules; a text cut at its blanks into so many parts at most. -/
import Derived.Test.YteenleedonmkmaaDoorQLaws
namespace Go.Proofs.YteenleedonmkmaaDoor
open Go Go.RowKit Go.Lib

theorem wordsL_count : ∀ l : List UInt8, (wordsL l).length = l.count 32 + 1
  | [] => rfl
  | b :: r => by
    have ih := wordsL_count r
    rw [wordsL_cons]
    by_cases hb : b = 32
    · rw [if_pos hb, hb, List.length_cons, ih, List.count_cons_self]
    · rw [if_neg hb, List.count_cons_of_ne hb]
      cases h : wordsL r with
      | nil => exact absurd h (wordsL_ne r)
      | cons x t => rw [h] at ih; simpa using ih
/-- Six words: none of them has a blank. -/
theorem six_none {a f c x y t : List UInt8} (h : (wordsL (a ++ 32 :: (f ++ 32 :: (c ++ 32 :: (x ++ 32 :: (y ++ 32 :: t)))))).length = 6) :
    (32 : UInt8) ∉ a ∧ (32 : UInt8) ∉ f ∧ (32 : UInt8) ∉ c ∧ (32 : UInt8) ∉ x ∧ (32 : UInt8) ∉ y ∧ (32 : UInt8) ∉ t := by
  rw [wordsL_count] at h
  simp only [List.count_append, List.count_cons_self] at h
  have hz : ∀ l : List UInt8, l.count 32 = 0 → (32 : UInt8) ∉ l := fun l => List.count_eq_zero.1
  exact ⟨hz _ (by omega), hz _ (by omega), hz _ (by omega), hz _ (by omega), hz _ (by omega), hz _ (by omega)⟩
theorem six_words {a f c x y t : List UInt8} (h1 : (32 : UInt8) ∉ a) (h2 : (32 : UInt8) ∉ f) (h3 : (32 : UInt8) ∉ c) (h4 : (32 : UInt8) ∉ x) (h5 : (32 : UInt8) ∉ y) (h6 : (32 : UInt8) ∉ t) :
    wordsL (a ++ 32 :: (f ++ 32 :: (c ++ 32 :: (x ++ 32 :: (y ++ 32 :: t))))) = [a, f, c, x, y, t] := by
  rw [wordsL_app _ _ h1, wordsL_app _ _ h2, wordsL_app _ _ h3, wordsL_app _ _ h4, wordsL_app _ _ h5, wordsL_one _ h6]

/-! ### What Check asks -/
def letterB (k : Int) : Bool := decide ((97 ≤ k ∧ k ≤ 122) ∨ (65 ≤ k ∧ k ≤ 90))
/-- A text without blanks that is right. -/
def wordB (s : ByteArray) : Bool := decide (validD s.data.toList = true ∧ (32 : UInt8) ∉ s.data.toList)
def sayB (s : ByteArray) : Bool := decide (s.data.toList ≠ [48] ∧ s.size ≤ 20 ∧ wordB s = true)
def condB (l : List It) : Bool := decide ((textG l).data.toList ≠ [] ∧ wordB (textG l) = true)
def checkB (r : Ru) : Bool := letterB r.flag && sayB r.strip && sayB r.add && condB r.cond

theorem r_mk (s : ByteArray) : (⟨s.data.toList.toArray⟩ : ByteArray) = s := by cases s; simp
theorem or0_say (s : ByteArray) : (partL (or0L s) = some s ∧ (32 : UInt8) ∉ or0L s) ↔ sayB s = true := by
  unfold sayB wordB
  simp only [decide_eq_true_eq]
  by_cases h0 : s.data.toList = []
  · have hs : s = ⟨#[]⟩ := by rw [← r_mk s, h0]
    subst hs
    refine ⟨fun _ => ⟨by decide, by decide, by decide, by decide⟩, fun _ => ⟨rfl, by decide⟩⟩
  · have ho : or0L s = s.data.toList := by unfold or0L; rw [if_neg h0]
    rw [ho]
    have hsz : s.size = s.data.toList.length := Lib.size_eq s
    unfold partL
    by_cases h48 : s.data.toList = [48]
    · rw [if_pos h48]
      refine ⟨fun ⟨h, _⟩ => ?_, fun h => absurd h48 h.1⟩
      have he : s = ⟨#[]⟩ := (Option.some.inj h).symm
      rw [he] at h0
      exact absurd rfl h0
    · rw [if_neg h48]
      by_cases hc : s.data.toList ≠ [] ∧ s.data.toList.length ≤ 20 ∧ validD s.data.toList = true
      · rw [if_pos hc, r_mk]
        exact ⟨fun h => ⟨h48, by omega, hc.2.2, h.2⟩, fun h => ⟨rfl, h.2.2.2⟩⟩
      · rw [if_neg hc]
        exact ⟨fun h => by simp at h, fun h => absurd ⟨h0, by omega, h.2.2.1⟩ hc⟩
theorem flag_letter {k : Int} (h0 : 0 ≤ k) (h1 : k ≤ 127) : flagL [UInt8.ofNat k.toNat] = (if letterB k = true then k else 0) := by
  have hn : (UInt8.ofNat k.toNat).toNat = k.toNat := ofNat_toNat k.toNat (by omega)
  show (if (97 ≤ (UInt8.ofNat k.toNat).toNat ∧ (UInt8.ofNat k.toNat).toNat ≤ 122) ∨ (65 ≤ (UInt8.ofNat k.toNat).toNat ∧ (UInt8.ofNat k.toNat).toNat ≤ 90) then ((UInt8.ofNat k.toNat).toNat : Int) else 0) = _
  rw [hn]
  unfold letterB
  simp only [decide_eq_true_eq]
  by_cases h : (97 ≤ k ∧ k ≤ 122) ∨ (65 ≤ k ∧ k ≤ 90)
  · rw [if_pos h, if_pos (by omega)]; omega
  · rw [if_neg h, if_neg (by omega)]
theorem letter_range {k : Int} (h : letterB k = true) : 65 ≤ k ∧ k ≤ 122 := by
  unfold letterB at h
  simp only [decide_eq_true_eq] at h
  omega
theorem flag_noblank {k : Int} (h : letterB k = true) : (32 : UInt8) ∉ [UInt8.ofNat k.toNat] := by
  have := letter_range h
  intro hm
  rw [List.mem_singleton] at hm
  have h2 : (32 : UInt8).toNat = k.toNat := by rw [hm]; exact ofNat_toNat k.toNat (by omega)
  have h3 : (32 : UInt8).toNat = 32 := rfl
  omega
/-- A line says a rule: just if its parts may be said. -/
theorem line_says (r : Ru) (t : List UInt8) : (0 ≤ r.flag ∧ r.flag ≤ 127 ∧ parseR ⟨(lineL r t).toArray⟩ = some r) ↔ (letterB r.flag = true ∧ sayB r.strip = true ∧ sayB r.add = true ∧ (32 : UInt8) ∉ t ∧ parseS ⟨t.toArray⟩ = some r.cond) := by
  have hpre : (32 : UInt8) ∉ (if r.pre then pfx else sfx) := by split <;> decide
  have hcr : (32 : UInt8) ∉ (if r.cross then [89] else [78] : List UInt8) := by split <;> decide
  have hp : (if r.pre then pfx else sfx) = pfx ∨ (if r.pre then pfx else sfx) = sfx := by split <;> simp
  have hp2 : decide ((if r.pre then pfx else sfx) = pfx) = r.pre := by cases r.pre <;> decide
  have hc : (if r.cross then [89] else [78] : List UInt8) = [89] ∨ (if r.cross then [89] else [78] : List UInt8) = [78] := by split <;> simp
  have hc2 : decide ((if r.cross then [89] else [78] : List UInt8) = [89]) = r.cross := by cases r.cross <;> decide
  have hl : (⟨(lineL r t).toArray⟩ : ByteArray).data.toList = lineL r t := by simp
  obtain ⟨P, hP⟩ : ∃ P, P = (if r.pre then pfx else sfx) := ⟨_, rfl⟩
  obtain ⟨C, hC⟩ : ∃ C, C = (if r.cross then [89] else [78] : List UInt8) := ⟨_, rfl⟩
  have hL : lineL r t = P ++ 32 :: ([UInt8.ofNat r.flag.toNat] ++ 32 :: (C ++ 32 :: (or0L r.strip ++ 32 :: (or0L r.add ++ 32 :: t)))) := by rw [hP, hC]; rfl
  rw [← hP] at hpre hp hp2
  rw [← hC] at hcr hc hc2
  clear hP hC
  constructor
  · rintro ⟨h0, h1, h⟩
    have h6 : (wordsL (lineL r t)).length = 6 := by
      unfold parseR at h
      rw [hl] at h
      split at h
      · rename_i e; rw [e]; rfl
      · cases h
    obtain ⟨n1, n2, n3, n4, n5, n6⟩ := six_none (hL ▸ h6)
    unfold parseR at h
    rw [hl, hL, six_words n1 n2 n3 n4 n5 n6] at h
    dsimp only at h
    unfold parse6 at h
    obtain ⟨K, hK⟩ : ∃ K, K = flagL [UInt8.ofNat r.flag.toNat] := ⟨_, rfl⟩
    rw [← hK] at h
    rw [flag_letter h0 h1] at hK
    split at h
    · rename_i hq
      have hlet : letterB r.flag = true := by
        cases hb : letterB r.flag with
        | true => rfl
        | false => exact absurd (by rw [hK, hb]; rfl) hq.2.1
      split at h
      · rename_i u v l hx hy hz
        have he := Option.some.inj h
        have e1 : u = r.strip := congrArg Ru.strip he
        have e2 : v = r.add := congrArg Ru.add he
        have e3 : l = r.cond := congrArg Ru.cond he
        subst e1 e2 e3
        exact ⟨hlet, (or0_say _).1 ⟨hx, n4⟩, (or0_say _).1 ⟨hy, n5⟩, n6, hz⟩
      · cases h
    · cases h
  · rintro ⟨h1, h2, h3, h4, h5⟩
    have hr := letter_range h1
    obtain ⟨hx, n4⟩ := (or0_say _).2 h2
    obtain ⟨hy, n5⟩ := (or0_say _).2 h3
    refine ⟨by omega, by omega, ?_⟩
    unfold parseR
    rw [hl, hL, six_words hpre (flag_noblank h1) hcr n4 n5 h4]
    dsimp only
    unfold parse6
    rw [flag_letter (by omega) (by omega), if_pos h1, if_pos ⟨hp, by omega, hc⟩, hx, hy, h5, hp2, hc2]
theorem parseS_empty : parseS ⟨#[]⟩ = none := by decide +kernel
theorem parseS_valid {s : ByteArray} {l : List It} (h : parseS s = some l) : validD s.data.toList = true ∧ s.data.toList ≠ [] := by
  constructor
  · unfold parseS codesB at h
    by_cases hv : validD s.data.toList = true
    · exact hv
    · rw [if_neg hv] at h; cases h
  · intro h0
    rw [← r_mk s, h0, show (⟨([] : List UInt8).toArray⟩ : ByteArray) = ⟨#[]⟩ from rfl, parseS_empty] at h
    cases h
theorem textG_parse {l : List It} (h : (textG l).data.toList ≠ []) : parseS (textG l) = some l := by
  unfold textG at h ⊢
  split
  · assumption
  · rename_i hn
    rw [if_neg hn] at h
    exact absurd rfl h
theorem cond_says10 (l : List It) : ((32 : UInt8) ∉ (textG l).data.toList ∧ parseS (textG l) = some l) ↔ condB l = true := by
  unfold condB wordB
  simp only [decide_eq_true_eq]
  constructor
  · rintro ⟨h1, h2⟩
    obtain ⟨h3, h4⟩ := parseS_valid h2
    exact ⟨h4, h3, h1⟩
  · rintro ⟨h1, h2, h3⟩
    exact ⟨h3, textG_parse h1⟩
/-- What may be said has a line; what may not has none. -/
theorem text_yes {r : Ru} (h : checkB r = true) : textR r = ⟨(lineL r (textG r.cond).data.toList).toArray⟩ := by
  unfold checkB at h
  simp only [Bool.and_eq_true] at h
  obtain ⟨⟨⟨h1, h2⟩, h3⟩, h4⟩ := h
  obtain ⟨h5, h6⟩ := (cond_says10 _).2 h4
  unfold textR
  exact if_pos ((line_says r _).2 ⟨h1, h2, h3, h5, by rw [r_mk]; exact h6⟩)
theorem text_no {r : Ru} (h : checkB r = false) : textR r = ⟨#[]⟩ := by
  unfold textR
  refine if_neg fun hp => ?_
  obtain ⟨h1, h2, h3, h4, h5⟩ := (line_says r _).1 hp
  rw [r_mk] at h5
  have := (cond_says10 r.cond).1 ⟨h4, h5⟩
  unfold checkB at h
  rw [h1, h2, h3, this] at h
  cases h
theorem check_text (r : Ru) : checkB r = okB (textR r) := by
  cases h : checkB r with
  | true =>
    rw [text_yes h]
    unfold okB
    symm
    rw [decide_eq_true_eq]
    show (lineL r _).toArray.size ≠ 0
    rw [List.size_toArray]
    unfold lineL
    rw [List.length_append, List.length_cons]
    omega
  | false => rw [text_no h]; rfl

/-! ### A text cut at its blanks, into so many parts at most -/
def splitL : Nat → List UInt8 → List (List UInt8)
  | 0, l => [l]
  | n + 1, l => if (32 : UInt8) ∈ l then l.takeWhile (· ≠ 32) :: splitL n ((l.dropWhile (· ≠ 32)).tail) else [l]
theorem blank_cut {l : List UInt8} (h : (32 : UInt8) ∈ l) : l = l.takeWhile (· ≠ 32) ++ 32 :: (l.dropWhile (· ≠ 32)).tail ∧ (32 : UInt8) ∉ l.takeWhile (· ≠ 32) := by
  induction l with
  | nil => cases h
  | cons b l ih =>
    by_cases hb : b = 32
    · subst hb
      simp
    · have hm : (32 : UInt8) ∈ l := by
        rcases List.mem_cons.1 h with e | e
        · exact absurd e.symm hb
        · exact e
      obtain ⟨h1, h2⟩ := ih hm
      have hd : (decide (b ≠ 32)) = true := by simpa using hb
      rw [List.takeWhile_cons, List.dropWhile_cons, if_pos hd, if_pos hd]
      refine ⟨by rw [List.cons_append, ← h1], fun hm2 => ?_⟩
      rcases List.mem_cons.1 hm2 with e | e
      · exact hb e.symm
      · exact h2 e
theorem splitL_words : ∀ (n : Nat) (l : List UInt8), (splitL n l).length ≤ n → splitL n l = wordsL l
  | 0, l, h => by simp [splitL] at h
  | n + 1, l, h => by
    unfold splitL at h ⊢
    by_cases hm : (32 : UInt8) ∈ l
    · rw [if_pos hm] at h ⊢
      obtain ⟨h1, h2⟩ := blank_cut hm
      conv => rhs; rw [h1, wordsL_app _ _ h2]
      rw [splitL_words n _ (by rw [List.length_cons] at h; omega)]
    · rw [if_neg hm] at h ⊢
      exact (wordsL_one l hm).symm
theorem splitL_more : ∀ (n : Nat) (l : List UInt8), n < (splitL n l).length → n < (wordsL l).length
  | 0, l, _ => List.length_pos_iff.2 (wordsL_ne l)
  | n + 1, l, h => by
    unfold splitL at h
    by_cases hm : (32 : UInt8) ∈ l
    · rw [if_pos hm] at h
      obtain ⟨h1, h2⟩ := blank_cut hm
      rw [h1, wordsL_app _ _ h2, List.length_cons]
      have := splitL_more n _ (by rw [List.length_cons] at h; exact Nat.lt_of_succ_lt_succ h)
      omega
    · rw [if_neg hm] at h
      simp at h
/-- Six parts of at most seven: just if there are six words. -/
theorem splitL_six (l : List UInt8) : ((splitL 6 l).length = 6 ↔ (wordsL l).length = 6) ∧ ((wordsL l).length = 6 → splitL 6 l = wordsL l) := by
  by_cases h : (splitL 6 l).length ≤ 6
  · have := splitL_words 6 l h
    rw [this]
    exact ⟨Iff.rfl, fun _ => rfl⟩
  · have := splitL_more 6 l (by omega)
    exact ⟨⟨fun h2 => by omega, fun h2 => by omega⟩, fun h2 => by omega⟩
end Go.Proofs.YteenleedonmkmaaDoor
