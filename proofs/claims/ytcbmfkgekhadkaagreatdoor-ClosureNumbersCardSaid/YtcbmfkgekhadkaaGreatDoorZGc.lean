/- Rules, plain: what Check asks, and that a line says just such rules; a text cut at its blanks into so many parts at most. -/
import Derived.Test.YtcbmfkgekhadkaaGreatDoorZGa
import Derived.OwnWalk
import Derived.Test.YtcbmfkgekhadkaaGreatDoorZGb
import Derived.Lib.Hide
import Derived.Lib.SliceRun
import Derived.Shelf.Abstract
import Derived.Laws.EntriesVeiled
import Derived.Deep.RegionHeld3
namespace Go.Proofs.YtcbmfkgekhadkaaGreatDoor
section
open Go Go.RowKit Go.Lib

theorem wordsL_count : ∀ l : List UInt8, (wordsL l).length = l.count 32 + 1
  | [] => rfl
  | b :: r => by
    have ih := wordsL_count r
    rw [wordsL_cons]
    by_cases hb : b = 32
    · rw [if_pos hb, hb, List.length_cons, ih, List.count_cons_self]
    · rw [if_neg hb, List.count_cons_of_ne hb]
      cases h : wordsL r with
      | nil => exact absurd h (wordsL_ne r)
      | cons x t => rw [h] at ih; simpa using ih
/-- Six words: none of them has a blank. -/
theorem six_none {a f c x y t : List UInt8} (h : (wordsL (a ++ 32 :: (f ++ 32 :: (c ++ 32 :: (x ++ 32 :: (y ++ 32 :: t)))))).length = 6) :
    (32 : UInt8) ∉ a ∧ (32 : UInt8) ∉ f ∧ (32 : UInt8) ∉ c ∧ (32 : UInt8) ∉ x ∧ (32 : UInt8) ∉ y ∧ (32 : UInt8) ∉ t := by
  rw [wordsL_count] at h
  simp only [List.count_append, List.count_cons_self] at h
  have hz : ∀ l : List UInt8, l.count 32 = 0 → (32 : UInt8) ∉ l := fun l => List.count_eq_zero.1
  exact ⟨hz _ (by omega), hz _ (by omega), hz _ (by omega), hz _ (by omega), hz _ (by omega), hz _ (by omega)⟩
theorem six_words {a f c x y t : List UInt8} (h1 : (32 : UInt8) ∉ a) (h2 : (32 : UInt8) ∉ f) (h3 : (32 : UInt8) ∉ c) (h4 : (32 : UInt8) ∉ x) (h5 : (32 : UInt8) ∉ y) (h6 : (32 : UInt8) ∉ t) :
    wordsL (a ++ 32 :: (f ++ 32 :: (c ++ 32 :: (x ++ 32 :: (y ++ 32 :: t))))) = [a, f, c, x, y, t] := by
  rw [wordsL_app _ _ h1, wordsL_app _ _ h2, wordsL_app _ _ h3, wordsL_app _ _ h4, wordsL_app _ _ h5, wordsL_one _ h6]

/-! ### What Check asks -/
def letterB (k : Int) : Bool := decide ((97 ≤ k ∧ k ≤ 122) ∨ (65 ≤ k ∧ k ≤ 90))
/-- A text without blanks that is right. -/
def wordB (s : ByteArray) : Bool := decide (validD s.data.toList = true ∧ (32 : UInt8) ∉ s.data.toList)
def sayB (s : ByteArray) : Bool := decide (s.data.toList ≠ [48] ∧ s.size ≤ 20 ∧ wordB s = true)
def condB (l : List It) : Bool := decide ((textG l).data.toList ≠ [] ∧ wordB (textG l) = true)
def checkB (r : Ru) : Bool := letterB r.flag && sayB r.strip && sayB r.add && condB r.cond

theorem r_mk (s : ByteArray) : (⟨s.data.toList.toArray⟩ : ByteArray) = s := by cases s; simp
theorem or0_say (s : ByteArray) : (partL (or0L s) = some s ∧ (32 : UInt8) ∉ or0L s) ↔ sayB s = true := by
  unfold sayB wordB
  simp only [decide_eq_true_eq]
  by_cases h0 : s.data.toList = []
  · have hs : s = ⟨#[]⟩ := by rw [← r_mk s, h0]
    subst hs
    refine ⟨fun _ => ⟨by decide, by decide, by decide, by decide⟩, fun _ => ⟨rfl, by decide⟩⟩
  · have ho : or0L s = s.data.toList := by unfold or0L; rw [if_neg h0]
    rw [ho]
    have hsz : s.size = s.data.toList.length := Lib.size_eq s
    unfold partL
    by_cases h48 : s.data.toList = [48]
    · rw [if_pos h48]
      refine ⟨fun ⟨h, _⟩ => ?_, fun h => absurd h48 h.1⟩
      have he : s = ⟨#[]⟩ := (Option.some.inj h).symm
      rw [he] at h0
      exact absurd rfl h0
    · rw [if_neg h48]
      by_cases hc : s.data.toList ≠ [] ∧ s.data.toList.length ≤ 20 ∧ validD s.data.toList = true
      · rw [if_pos hc, r_mk]
        exact ⟨fun h => ⟨h48, by omega, hc.2.2, h.2⟩, fun h => ⟨rfl, h.2.2.2⟩⟩
      · rw [if_neg hc]
        exact ⟨fun h => by simp at h, fun h => absurd ⟨h0, by omega, h.2.2.1⟩ hc⟩
theorem flag_letter {k : Int} (h0 : 0 ≤ k) (h1 : k ≤ 127) : flagL [UInt8.ofNat k.toNat] = (if letterB k = true then k else 0) := by
  have hn : (UInt8.ofNat k.toNat).toNat = k.toNat := ofNat_toNat k.toNat (by omega)
  show (if (97 ≤ (UInt8.ofNat k.toNat).toNat ∧ (UInt8.ofNat k.toNat).toNat ≤ 122) ∨ (65 ≤ (UInt8.ofNat k.toNat).toNat ∧ (UInt8.ofNat k.toNat).toNat ≤ 90) then ((UInt8.ofNat k.toNat).toNat : Int) else 0) = _
  rw [hn]
  unfold letterB
  simp only [decide_eq_true_eq]
  by_cases h : (97 ≤ k ∧ k ≤ 122) ∨ (65 ≤ k ∧ k ≤ 90)
  · rw [if_pos h, if_pos (by omega)]; omega
  · rw [if_neg h, if_neg (by omega)]
theorem letter_range {k : Int} (h : letterB k = true) : 65 ≤ k ∧ k ≤ 122 := by
  unfold letterB at h
  simp only [decide_eq_true_eq] at h
  omega
theorem flag_noblank {k : Int} (h : letterB k = true) : (32 : UInt8) ∉ [UInt8.ofNat k.toNat] := by
  have := letter_range h
  intro hm
  rw [List.mem_singleton] at hm
  have h2 : (32 : UInt8).toNat = k.toNat := by rw [hm]; exact ofNat_toNat k.toNat (by omega)
  have h3 : (32 : UInt8).toNat = 32 := rfl
  omega
/-- A line says a rule: just if its parts may be said. -/
theorem line_says (r : Ru) (t : List UInt8) : (0 ≤ r.flag ∧ r.flag ≤ 127 ∧ parseR ⟨(lineL r t).toArray⟩ = some r) ↔ (letterB r.flag = true ∧ sayB r.strip = true ∧ sayB r.add = true ∧ (32 : UInt8) ∉ t ∧ parseS ⟨t.toArray⟩ = some r.cond) := by
  have hpre : (32 : UInt8) ∉ (if r.pre then pfx else sfx) := by split <;> decide
  have hcr : (32 : UInt8) ∉ (if r.cross then [89] else [78] : List UInt8) := by split <;> decide
  have hp : (if r.pre then pfx else sfx) = pfx ∨ (if r.pre then pfx else sfx) = sfx := by split <;> simp
  have hp2 : decide ((if r.pre then pfx else sfx) = pfx) = r.pre := by cases r.pre <;> decide
  have hc : (if r.cross then [89] else [78] : List UInt8) = [89] ∨ (if r.cross then [89] else [78] : List UInt8) = [78] := by split <;> simp
  have hc2 : decide ((if r.cross then [89] else [78] : List UInt8) = [89]) = r.cross := by cases r.cross <;> decide
  have hl : (⟨(lineL r t).toArray⟩ : ByteArray).data.toList = lineL r t := by simp
  obtain ⟨P, hP⟩ : ∃ P, P = (if r.pre then pfx else sfx) := ⟨_, rfl⟩
  obtain ⟨C, hC⟩ : ∃ C, C = (if r.cross then [89] else [78] : List UInt8) := ⟨_, rfl⟩
  have hL : lineL r t = P ++ 32 :: ([UInt8.ofNat r.flag.toNat] ++ 32 :: (C ++ 32 :: (or0L r.strip ++ 32 :: (or0L r.add ++ 32 :: t)))) := by rw [hP, hC]; rfl
  rw [← hP] at hpre hp hp2
  rw [← hC] at hcr hc hc2
  clear hP hC
  constructor
  · rintro ⟨h0, h1, h⟩
    have h6 : (wordsL (lineL r t)).length = 6 := by
      unfold parseR at h
      rw [hl] at h
      split at h
      · rename_i e; rw [e]; rfl
      · cases h
    obtain ⟨n1, n2, n3, n4, n5, n6⟩ := six_none (hL ▸ h6)
    unfold parseR at h
    rw [hl, hL, six_words n1 n2 n3 n4 n5 n6] at h
    dsimp only at h
    unfold parse6 at h
    obtain ⟨K, hK⟩ : ∃ K, K = flagL [UInt8.ofNat r.flag.toNat] := ⟨_, rfl⟩
    rw [← hK] at h
    rw [flag_letter h0 h1] at hK
    split at h
    · rename_i hq
      have hlet : letterB r.flag = true := by
        cases hb : letterB r.flag with
        | true => rfl
        | false => exact absurd (by rw [hK, hb]; rfl) hq.2.1
      split at h
      · rename_i u v l hx hy hz
        have he := Option.some.inj h
        have e1 : u = r.strip := congrArg Ru.strip he
        have e2 : v = r.add := congrArg Ru.add he
        have e3 : l = r.cond := congrArg Ru.cond he
        subst e1 e2 e3
        exact ⟨hlet, (or0_say _).1 ⟨hx, n4⟩, (or0_say _).1 ⟨hy, n5⟩, n6, hz⟩
      · cases h
    · cases h
  · rintro ⟨h1, h2, h3, h4, h5⟩
    have hr := letter_range h1
    obtain ⟨hx, n4⟩ := (or0_say _).2 h2
    obtain ⟨hy, n5⟩ := (or0_say _).2 h3
    refine ⟨by omega, by omega, ?_⟩
    unfold parseR
    rw [hl, hL, six_words hpre (flag_noblank h1) hcr n4 n5 h4]
    dsimp only
    unfold parse6
    rw [flag_letter (by omega) (by omega), if_pos h1, if_pos ⟨hp, by omega, hc⟩, hx, hy, h5, hp2, hc2]
theorem parseS_empty : parseS ⟨#[]⟩ = none := by decide +kernel
theorem parseS_valid {s : ByteArray} {l : List It} (h : parseS s = some l) : validD s.data.toList = true ∧ s.data.toList ≠ [] := by
  constructor
  · unfold parseS codesB at h
    by_cases hv : validD s.data.toList = true
    · exact hv
    · rw [if_neg hv] at h; cases h
  · intro h0
    rw [← r_mk s, h0, show (⟨([] : List UInt8).toArray⟩ : ByteArray) = ⟨#[]⟩ from rfl, parseS_empty] at h
    cases h
theorem textG_parse {l : List It} (h : (textG l).data.toList ≠ []) : parseS (textG l) = some l := by
  unfold textG at h ⊢
  split
  · assumption
  · rename_i hn
    rw [if_neg hn] at h
    exact absurd rfl h
theorem cond_says10 (l : List It) : ((32 : UInt8) ∉ (textG l).data.toList ∧ parseS (textG l) = some l) ↔ condB l = true := by
  unfold condB wordB
  simp only [decide_eq_true_eq]
  constructor
  · rintro ⟨h1, h2⟩
    obtain ⟨h3, h4⟩ := parseS_valid h2
    exact ⟨h4, h3, h1⟩
  · rintro ⟨h1, h2, h3⟩
    exact ⟨h3, textG_parse h1⟩
/-- What may be said has a line; what may not has none. -/
theorem text_yes {r : Ru} (h : checkB r = true) : textR r = ⟨(lineL r (textG r.cond).data.toList).toArray⟩ := by
  unfold checkB at h
  simp only [Bool.and_eq_true] at h
  obtain ⟨⟨⟨h1, h2⟩, h3⟩, h4⟩ := h
  obtain ⟨h5, h6⟩ := (cond_says10 _).2 h4
  unfold textR
  exact if_pos ((line_says r _).2 ⟨h1, h2, h3, h5, by rw [r_mk]; exact h6⟩)
theorem text_no {r : Ru} (h : checkB r = false) : textR r = ⟨#[]⟩ := by
  unfold textR
  refine if_neg fun hp => ?_
  obtain ⟨h1, h2, h3, h4, h5⟩ := (line_says r _).1 hp
  rw [r_mk] at h5
  have := (cond_says10 r.cond).1 ⟨h4, h5⟩
  unfold checkB at h
  rw [h1, h2, h3, this] at h
  cases h
theorem check_text (r : Ru) : checkB r = okB (textR r) := by
  cases h : checkB r with
  | true =>
    rw [text_yes h]
    unfold okB
    symm
    rw [decide_eq_true_eq]
    show (lineL r _).toArray.size ≠ 0
    rw [List.size_toArray]
    unfold lineL
    rw [List.length_append, List.length_cons]
    omega
  | false => rw [text_no h]; rfl

/-! ### A text cut at its blanks, into so many parts at most -/
def splitL : Nat → List UInt8 → List (List UInt8)
  | 0, l => [l]
  | n + 1, l => if (32 : UInt8) ∈ l then l.takeWhile (· ≠ 32) :: splitL n ((l.dropWhile (· ≠ 32)).tail) else [l]
theorem blank_cut {l : List UInt8} (h : (32 : UInt8) ∈ l) : l = l.takeWhile (· ≠ 32) ++ 32 :: (l.dropWhile (· ≠ 32)).tail ∧ (32 : UInt8) ∉ l.takeWhile (· ≠ 32) := by
  induction l with
  | nil => cases h
  | cons b l ih =>
    by_cases hb : b = 32
    · subst hb
      simp
    · have hm : (32 : UInt8) ∈ l := by
        rcases List.mem_cons.1 h with e | e
        · exact absurd e.symm hb
        · exact e
      obtain ⟨h1, h2⟩ := ih hm
      have hd : (decide (b ≠ 32)) = true := by simpa using hb
      rw [List.takeWhile_cons, List.dropWhile_cons, if_pos hd, if_pos hd]
      refine ⟨by rw [List.cons_append, ← h1], fun hm2 => ?_⟩
      rcases List.mem_cons.1 hm2 with e | e
      · exact hb e.symm
      · exact h2 e
theorem splitL_words : ∀ (n : Nat) (l : List UInt8), (splitL n l).length ≤ n → splitL n l = wordsL l
  | 0, l, h => by simp [splitL] at h
  | n + 1, l, h => by
    unfold splitL at h ⊢
    by_cases hm : (32 : UInt8) ∈ l
    · rw [if_pos hm] at h ⊢
      obtain ⟨h1, h2⟩ := blank_cut hm
      conv => rhs; rw [h1, wordsL_app _ _ h2]
      rw [splitL_words n _ (by rw [List.length_cons] at h; omega)]
    · rw [if_neg hm] at h ⊢
      exact (wordsL_one l hm).symm
theorem splitL_more : ∀ (n : Nat) (l : List UInt8), n < (splitL n l).length → n < (wordsL l).length
  | 0, l, _ => List.length_pos_iff.2 (wordsL_ne l)
  | n + 1, l, h => by
    unfold splitL at h
    by_cases hm : (32 : UInt8) ∈ l
    · rw [if_pos hm] at h
      obtain ⟨h1, h2⟩ := blank_cut hm
      rw [h1, wordsL_app _ _ h2, List.length_cons]
      have := splitL_more n _ (by rw [List.length_cons] at h; exact Nat.lt_of_succ_lt_succ h)
      omega
    · rw [if_neg hm] at h
      simp at h
/-- Six parts of at most seven: just if there are six words. -/
theorem splitL_six (l : List UInt8) : ((splitL 6 l).length = 6 ↔ (wordsL l).length = 6) ∧ ((wordsL l).length = 6 → splitL 6 l = wordsL l) := by
  by_cases h : (splitL 6 l).length ≤ 6
  · have := splitL_words 6 l h
    rw [this]
    exact ⟨Iff.rfl, fun _ => rfl⟩
  · have := splitL_more 6 l (by omega)
    exact ⟨⟨fun h2 => by omega, fun h2 => by omega⟩, fun h2 => by omega⟩
end
section
open Go Go.RowKit Go.Lib

theorem r_toL (s : ByteArray) : s.toList = s.data.toList := by rw [ByteArray.toList_eq]

theorem letter_flag (b : UInt8) : decide (flagL [b] ≠ 0) = letterB b.toNat ∧ (flagL [b] ≠ 0 → (b.toNat : Int) = flagL [b]) := by
  have hd : flagL [b] = if (97 ≤ b.toNat ∧ b.toNat ≤ 122) ∨ (65 ≤ b.toNat ∧ b.toNat ≤ 90) then (b.toNat : Int) else 0 := rfl
  unfold letterB
  rw [hd]
  by_cases h : (97 ≤ b.toNat ∧ b.toNat ≤ 122) ∨ (65 ≤ b.toNat ∧ b.toNat ≤ 90)
  · rw [if_pos h]
    exact ⟨by rw [decide_eq_true (by omega), decide_eq_true (by omega)], fun _ => rfl⟩
  · rw [if_neg h]
    exact ⟨by rw [decide_eq_false (by simp), decide_eq_false (by omega)], fun h2 => absurd rfl h2⟩
theorem flag_none {x : List UInt8} (h : x.length ≠ 1) : flagL x = 0 := by
  match x, h with
  | [], _ => rfl
  | _ :: _ :: _, _ => rfl

/-- What letter answers. -/
def LetterE (e : Ending) (L : List UInt8) : Prop := ∃ k, e = .returned (.tuple #[.int .i64 k, .bool (decide (flagL L ≠ 0))]) ∧ (flagL L ≠ 0 → k = flagL L)

/-! ### form: the first and the third word -/
def formL (a c : List UInt8) : List UInt8 := a ++ 32 :: c
theorem form_cut {a c p q : List UInt8} (hp : (32 : UInt8) ∉ p) (hq : (32 : UInt8) ∉ q) : (a ++ 32 :: c = p ++ 32 :: q) ↔ (a = p ∧ c = q) := by
  refine ⟨fun h => ?_, fun ⟨h1, h2⟩ => by rw [h1, h2]⟩
  have hw : wordsL (a ++ 32 :: c) = [p, q] := by rw [h, wordsL_app _ _ hp, wordsL_one _ hq]
  have hn : (wordsL (a ++ 32 :: c)).length = 2 := by rw [hw]; rfl
  rw [wordsL_count] at hn
  simp only [List.count_append, List.count_cons_self] at hn
  have ha : (32 : UInt8) ∉ a := List.count_eq_zero.1 (by omega)
  have hc : (32 : UInt8) ∉ c := List.count_eq_zero.1 (by omega)
  rw [wordsL_app _ _ ha, wordsL_one _ hc] at hw
  exact ⟨(List.cons.inj hw).1, (List.cons.inj (List.cons.inj hw).2).1⟩
/-- What form answers. -/
def fP (a c : List UInt8) : Bool := decide (a = pfx ∧ (c = [89] ∨ c = [78]))
def fX (a c : List UInt8) : Bool := decide ((a = pfx ∨ a = sfx) ∧ c = [89])
def fO (a c : List UInt8) : Bool := decide ((a = pfx ∨ a = sfx) ∧ (c = [89] ∨ c = [78]))
def FormE (e : Ending) (a c : List UInt8) : Prop := e = .returned (.tuple #[.bool (fP a c), .bool (fX a c), .bool (fO a c)])
theorem FormE.mk {a c : List UInt8} {p x o : Bool} (h1 : fP a c = p) (h2 : fX a c = x) (h3 : fO a c = o) : FormE (.returned (.tuple #[.bool p, .bool x, .bool o])) a c := by subst h1 h2 h3; rfl

theorem r_app (a b : ByteArray) : (a ++ b).data.toList = a.data.toList ++ b.data.toList := by
  rw [ByteArray.data_append, Array.toList_append]

set_option maxRecDepth 100000 in
set_option maxHeartbeats 1000000 in
theorem rwith_any (w : World) (v : Value) (r : Ru) (s : ByteArray) (h : RuAt w v r) (hs : s.size ≤ 1000000000000) (ha : r.add.size ≤ 1000000000000) :
    Calls Tryz.prog 77 #[v, .string s] w fun e w' => e = .returned (.string (if r.pre then r.add ++ s else s ++ r.add)) ∧ Below w.heap.size w w' := by
  obtain ⟨A, cap, rfl, -⟩ := h
  have HB := Lib.hid ((Below.refl w.heap.size w).alloc (Nat.le_refl _) (.cells #[.bool r.pre, .int .i64 r.flag, .bool r.cross, .string r.strip, .string r.add, .slice A r.cond.length cap] 51))
  obtain ⟨n, hn⟩ : ∃ n, n = r.cond.length := ⟨_, rfl⟩
  rw [← hn] at HB ⊢
  clear hn
  obtain ⟨pre, flag, cross, strip, add, cond⟩ := r
  dsimp only at HB ha ⊢
  have q1 : ¬ 9223372036854775807 < add.size + s.size := by omega
  have q2 : ¬ 9223372036854775807 < s.size + add.size := by omega
  cases pre with
  | true =>
    go_enter Tryz.func77, Tryz.ntmps77
    go_wp2_with fail
    go_ret
    exact ⟨rfl, HB.out⟩
  | false =>
    go_enter Tryz.func77, Tryz.ntmps77
    go_wp2_with fail
    go_ret
    exact ⟨rfl, HB.out⟩

set_option maxRecDepth 100000 in
set_option maxHeartbeats 1000000 in
theorem rtogether_any (w : World) (v v' : Value) (p s : Ru) (h : RuAt w v p) (h' : RuAt w v' s) :
    Calls Tryz.prog 78 #[v, v'] w fun e w' => e = .returned (.bool (p.pre && !s.pre && p.cross && s.cross)) ∧ Below w.heap.size w w' := by
  obtain ⟨A, cap, rfl, -⟩ := h
  obtain ⟨A', cap', rfl, -⟩ := h'
  have HB := Lib.hid (((Below.refl w.heap.size w).alloc (Nat.le_refl _) (.cells #[.bool p.pre, .int .i64 p.flag, .bool p.cross, .string p.strip, .string p.add, .slice A p.cond.length cap] 51)).alloc (by rw [World.size_alloc]; omega) (.cells #[.bool s.pre, .int .i64 s.flag, .bool s.cross, .string s.strip, .string s.add, .slice A' s.cond.length cap'] 51))
  obtain ⟨n, hn⟩ : ∃ n, n = p.cond.length := ⟨_, rfl⟩
  obtain ⟨n', hn'⟩ : ∃ n, n = s.cond.length := ⟨_, rfl⟩
  rw [← hn, ← hn'] at HB
  rw [← hn, ← hn']
  clear hn hn'
  obtain ⟨ppre, pflag, pcross, pstrip, padd, pcond⟩ := p
  obtain ⟨spre, sflag, scross, sstrip, sadd, scond⟩ := s
  dsimp only at HB ⊢
  cases ppre <;> cases spre <;> cases pcross <;> cases scross
  all_goals
    go_enter Tryz.func78, Tryz.ntmps78
    go_wp2_with fail
    go_ret
    exact ⟨rfl, HB.out⟩
end
section
open Go Go.RowKit Go.Lib

/-- Items that are not too great for whoever checks them. -/
def SetsOk (l : List It) : Prop := ∀ it ∈ l, it.set.length ≤ 1000000000
/-- A rule that is not too great. -/
structure FitR (r : Ru) : Prop where
  items : r.cond.length ≤ 100000
  sets : SetsOk r.cond
  strip : r.strip.size ≤ 1000000000
  add : r.add.size ≤ 1000000000
end
section
open Go Go.RowKit

theorem ints_bd {w : World} {v : Value} {cs : List Int} (h : IntsAt w v cs) : cs.length ≤ 9223372036854775807 := by
  rcases h with ⟨rfl, _⟩ | ⟨b, off, cap, rfl, h1, h2, h3, h4⟩
  · exact Nat.zero_le _
  · unfold maxLen at h3; omega

set_option maxHeartbeats 1000000 in
theorem index_any (w : World) (v : Value) (cs : List Int) (x : Int) (h : IntsAt w v cs) :
    Calls Tryz.prog 152 #[v, .int .i64 x] w fun e w' => ∃ r : Int, e = .returned (.int .i64 r) ∧ w' = w ∧ ((r = -1 ∧ ∀ c ∈ cs, c ≠ x) ∨ ∃ k : Nat, r = k ∧ cs[k]? = some x ∧ ∀ j, j < k → cs[j]? ≠ some x) := by
  have hbig := ints_bd h
  obtain ⟨A, cap, rfl, hA⟩ := ints_open h
  clear h
  have HA := Lib.hid hA
  clear hA
  obtain ⟨n, hn⟩ : ∃ n, n = cs.length := ⟨_, rfl⟩
  rw [← hn] at hbig ⊢
  have HN := Lib.hid hn
  clear hn
  go_enter Tryz.func152, Tryz.ntmps152
  go_wp2
  go_loopg [5, 8] n (fun g _s5 s8 wr => ∃ k : Nat, k + g = n ∧ s8 = .int .i64 k ∧ wr = w ∧ Hid (∀ j, j < k → cs[j]? ≠ some x))
  case atStart => exact ⟨0, by omega, rfl, rfl, Lib.hid fun j hj => absurd hj (Nat.not_lt_zero _)⟩
  case round =>
    obtain ⟨k, hk, rfl, rfl, HP⟩ := hrel
    rcases Nat.eq_zero_or_pos gk with h0 | h0
    · have hkn : k = n := by omega
      subst hkn
      go_wp2
      go_ret
      refine ⟨_, rfl, rfl, .inl ⟨rfl, fun c hc e => ?_⟩⟩
      obtain ⟨j, hj, hjc⟩ := List.getElem_of_mem hc
      exact HP.out j (by have := HN.out; omega) (by rw [List.getElem?_eq_getElem hj, hjc, e])
    · have hkn : (k : Int) < n := by omega
      obtain ⟨c, hc⟩ : ∃ c, cs[k]? = some c := ⟨_, List.getElem?_eq_getElem (by have := HN.out; omega)⟩
      obtain ⟨q, o, rfl, hq, hqc, cq⟩ := HA.out k c hc
      have HC := Lib.hid hc
      clear hc hqc
      have tk1 : (0 : Int) ≤ k := by omega
      by_cases hx : x = c
      · subst hx
        have d : (x == x) = true := by simp
        go_wp2_with fail
        go_ret
        exact ⟨_, rfl, rfl, .inr ⟨k, rfl, HC.out, HP.out⟩⟩
      · have d : (x == c) = false := by simpa using hx
        have HX := Lib.hid hx
        clear hx
        go_wp2_with fail
        go_roundg (gk - 1)
        case measure => omega
        case rel =>
          refine ⟨k + 1, by omega, by go_num, rfl, Lib.hid fun j hj => ?_⟩
          rcases Nat.lt_or_ge j k with hjk | hjk
          · exact HP.out j hjk
          · obtain rfl : j = k := by omega
            rw [HC.out]
            intro e
            exact HX.out (Option.some.inj e).symm

theorem contains_any (w : World) (v : Value) (cs : List Int) (x : Int) (h : IntsAt w v cs) :
    Calls Tryz.prog 148 #[v, .int .i64 x] w fun e w' => e = .returned (.bool (cs.contains x)) ∧ w' = w := by
  have C := Lib.hid (index_any w v cs x h)
  obtain ⟨A, cap, rfl, hA⟩ := ints_open h
  clear h hA
  go_enter Tryz.func148, Tryz.ntmps148
  go_wp2_with (go_at_call 152; refine C.out.mono ?_; rintro e w1 ⟨r, rfl, rfl, hi⟩; rcases hi with ⟨rfl, hno⟩ | ⟨k, rfl, hk, -⟩)
  · have hb : cs.contains x = false := by
      rw [Bool.eq_false_iff]
      intro hc
      exact hno x (List.contains_iff_mem.1 hc) rfl
    rw [hb]
    go_ret
    exact ⟨rfl, rfl⟩
  · have hb : cs.contains x = true := List.contains_iff_mem.2 (List.mem_of_getElem? hk)
    rw [hb]
    go_ret
    exact ⟨rfl, rfl⟩

theorem ret_bool {a b : Bool} (h : a = b) : Ending.returned (.bool a) = .returned (.bool b) := by rw [h]
set_option maxRecDepth 100000 in
theorem int_info : ∃ i0 : TypeInfo, Tryz.prog.info? 3 = some i0 ∧ i0.zero = some (.int .i64 0) ∧ i0.size = 1 ∧ i0.bytes = 8 := ⟨_, rfl, rfl, rfl, rfl⟩
end
section
open Go Go.RowKit

theorem items_bd {w : World} {v : Value} {l : List It} (h : ItemsAt w v l) : l.length ≤ 9223372036854775807 := by
  rcases h with ⟨rfl, _⟩ | ⟨b, off, cap, rfl, h1, h2, h3, h4⟩
  · exact Nat.zero_le _
  · unfold maxLen at h3; omega
theorem items_openO {w : World} {v : Value} {l : List It} (h : ItemsAt w v l) : ∃ A cap, v = .slice A l.length cap ∧ ∀ (i : Nat) it, l[i]? = some it → ∃ q o, A = some ⟨q, o, none⟩ ∧ q < w.heap.size ∧ l.length ≤ cap ∧ w.cell? ⟨q, o + i * 3, none⟩ = some (.bool it.any) ∧ w.cell? ⟨q, o + i * 3 + 1, none⟩ = some (.bool it.not) ∧ ∃ a m c, w.cell? ⟨q, o + i * 3 + 2, none⟩ = some (.slice a m c) ∧ IntsAt w (.slice a m c) it.set := by
  obtain ⟨rfl, a, cap, rfl⟩ | ⟨b, off, cap, rfl, hlt, hcap, hm, hc⟩ := h
  · exact ⟨a, cap, rfl, fun i c hi => by simp at hi⟩
  · refine ⟨_, cap, rfl, fun i it hi => ?_⟩
    obtain ⟨k1, k2, sv, k3, k4⟩ := hc i it hi
    obtain ⟨A, cp, rfl, -⟩ := ints_open k4
    exact ⟨b, off, rfl, hlt, hcap, k1, k2, _, _, _, k3, k4⟩
end
section
open Go Go.RowKit

theorem wpList_append_where_g {P : Program} (w : World) {ops : Array Oper} {rest : List Oper} {o : Oper} {a : Act} {Q : Exit → Act → World → Prop} (hgd : Region.wanted o (yielded ops a.tmps) = true) (s x : Operand) (t : TypeId)
    (ho : o.op = .call { callee := .builtin .append, args := #[s, x], argTypes := #[t, t] })
    (base : Nat) (e : TypeId) (i : TypeInfo) (z : Value) (size bytes : Nat) (ht : P.underlying t = some (.slice e)) (hi : P.info? e = some i) (hz : i.zero = some z)
    (hsize : i.size = size) (hby : i.bytes = bytes) (hzs : z.cells.size = size) (hsz : 0 < size)
    (v : Value) (n : Nat) (xs : List Value) (hs : a.eval s = v) (hown : w.ownsRow base e size v n xs)
    (ad : Addr) (m c : Nat) (news : List Value) (hx : a.eval x = .slice (some ad) m c) (hl : news.length = m * size) (hnews : ∀ j u, news[j]? = some u → w.cell? (ad.add j) = some u) (h1 : ∀ u ∈ news, u.oneCell' = true)
    (h63 : n + m ≤ maxLen) (hbytes : (n + m) * bytes ≤ 140737488355328) (hbase : base ≤ w.heap.size)
    (h : ∀ v' w', w'.ownsRow base e size v' (n + m) (xs ++ news) → w.grownBy w' v.ownBlock → (v'.ownBlock = v.ownBlock ∨ ∀ g, v'.ownBlock = some g → w.heap.size ≤ g) → wpList P ops Q rest (a.put o.dst v') w') : wpList P ops Q (o :: rest) a w := by
  refine wpList_step fun K hK => ?_
  simp only [hgd, if_true]
  obtain ⟨v', w', hr, h2, h3, _⟩ := run_append_own (P := P) w base t o.type e i z size bytes ht hi hz hsize hby hzs hsz v n xs hown ad m c news hl hnews h1 h63 hbytes hbase
  have h4 := append_where (P := P) w base t o.type e i z size bytes ht hi hz hsize hby hzs hsz v n xs hown ad m c news hl hnews h1 h63 hbytes hr
  unfold Oper.wp execOp
  simp only [ho, resolve, invoke, builtin, Sem.run_bind, Sem.run_pure, Result.andThen_ok, List.map_toArray, List.map_cons, List.map_nil, hs, hx, hr]
  exact hK _ _ (h v' w' h2 h3 h4)
end
section
open Go Go.RowKit

/-- A box of an item. -/
def BoxAt (w0 w : World) (q : Nat) (it : It) : Prop := ∃ a n c, w.heap[q]? = some (.cells #[.bool it.any, .bool it.not, .slice a n c] 48 (0, 0)) ∧ IntsAt w0 (.slice a n c) it.set
/-- A function value that says what an item has. -/
def FunIs (w0 w : World) (f : Value) (it : It) : Prop :=
  (it.any = true ∧ f = .func (.func 149) #[] #[]) ∨
  (it.any = false ∧ it.not = true ∧ ∃ p q, f = .func (.func 150) #[] #[.pointer (some ⟨p, 0, none⟩)] ∧ w.heap[p]? = some (.cells #[.func (.func 147) #[] #[.pointer (some ⟨q, 0, none⟩)]] 102 (0, 0)) ∧ BoxAt w0 w q it) ∨
  (it.any = false ∧ it.not = false ∧ ∃ q, f = .func (.func 147) #[] #[.pointer (some ⟨q, 0, none⟩)] ∧ BoxAt w0 w q it)
theorem cell_box {w : World} {q : Nat} {cs : Array Value} {t : TypeId} (h : w.heap[q]? = some (.cells cs t (0, 0))) (j : Nat) : w.cell? ⟨q, j, none⟩ = cs[j]? := by
  simp [World.cell?, h]
/-- Only blocks that are no item's and no function's are written. -/
theorem FunIs.still {w0 w w' : World} {f : Value} {it : It} (h : FunIs w0 w f it) (hb : ∀ (b : Nat) (cs : Array Value) (t : TypeId), w.heap[b]? = some (Obj.cells cs t (0, 0)) → t = 48 ∨ t = 102 → w'.heap[b]? = w.heap[b]?) : FunIs w0 w' f it := by
  rcases h with h | ⟨h1, h2, p, q, h3, h4, a, n, c, h5, h6⟩ | ⟨h1, h2, q, h3, a, n, c, h5, h6⟩
  · exact .inl h
  · exact .inr (.inl ⟨h1, h2, p, q, h3, (hb p _ _ h4 (.inr rfl)).trans h4, a, n, c, (hb q _ _ h5 (.inl rfl)).trans h5, h6⟩)
  · exact .inr (.inr ⟨h1, h2, q, h3, a, n, c, (hb q _ _ h5 (.inl rfl)).trans h5, h6⟩)
theorem FunIs.keep {w0 w w' : World} {f : Value} {it : It} (h : FunIs w0 w f it) (hb : Below w.heap.size w w') : FunIs w0 w' f it :=
  h.still fun b _ _ hg _ => hb.block b (Array.getElem?_eq_some_iff.1 hg).1

set_option maxRecDepth 100000 in
set_option maxHeartbeats 1000000 in
theorem fun1_any (w0 w : World) (q : Nat) (it : It) (c : Int) (h : BoxAt w0 w q it) (hb : Below w0.heap.size w0 w) :
    Calls Tryz.prog 147 #[.int .i64 c, .pointer (some ⟨q, 0, none⟩)] w fun e w' => e = .returned (.bool (it.set.contains c)) ∧ w' = w := by
  obtain ⟨a, n, cp, hq, hi⟩ := h
  have C := Lib.hid (contains_any w _ it.set c (hi.keep hb))
  have z2 := cell_box hq 2
  simp at z2
  clear hq hi hb
  go_enter Tryz.func147, Tryz.ntmps147
  go_wp2_with (go_at_call 148; refine C.out.mono ?_; rintro e w1 ⟨rfl, rfl⟩)
  go_ret
  exact ⟨ret_bool (by simp), rfl⟩
set_option maxRecDepth 100000 in
set_option maxHeartbeats 1000000 in
theorem fun2_any (w : World) (c : Int) : Calls Tryz.prog 149 #[.int .i64 c] w fun e w' => e = .returned (.bool true) ∧ w' = w := by
  go_enter Tryz.func149, Tryz.ntmps149
  go_wp2
  go_ret
  exact ⟨rfl, rfl⟩
set_option maxRecDepth 100000 in
set_option maxHeartbeats 1000000 in
theorem fun3_any (w0 w : World) (p q : Nat) (it : It) (c : Int) (hp : w.heap[p]? = some (.cells #[.func (.func 147) #[] #[.pointer (some ⟨q, 0, none⟩)]] 102 (0, 0))) (h : BoxAt w0 w q it) (hb : Below w0.heap.size w0 w) :
    Calls Tryz.prog 150 #[.int .i64 c, .pointer (some ⟨p, 0, none⟩)] w fun e w' => e = .returned (.bool (!it.set.contains c)) ∧ w' = w := by
  have C := Lib.hid (fun1_any w0 w q it c h hb)
  have z0 := cell_box hp 0
  simp at z0
  clear hp h hb
  go_enter Tryz.func150, Tryz.ntmps150
  go_wp2_with (go_at_call 147; refine C.out.mono ?_; rintro e w1 ⟨rfl, rfl⟩)
  go_ret
  exact ⟨ret_bool (by simp), rfl⟩
theorem BoxAt.keep {w0 w w' : World} {q : Nat} {it : It} (h : BoxAt w0 w q it) (hb : Below w.heap.size w w') : BoxAt w0 w' q it := by
  obtain ⟨a, n, c, h1, h2⟩ := h
  exact ⟨a, n, c, (hb.block q (Array.getElem?_eq_some_iff.1 h1).1).trans h1, h2⟩
/-- A function value that is called. -/
theorem fun_call {w0 w : World} {f : Value} {it : It} (h : FunIs w0 w f it) (hb : Below w0.heap.size w0 w) : ∃ (k : Nat) (cap : Array Value), f = .func (.func k) #[] cap ∧ (∀ args w, (callFunc k args).run Tryz.prog w = .ok (.enter k args) w) ∧
    ∀ wx, Below w.heap.size w wx → ∀ c, Calls Tryz.prog k (#[.int .i64 c] ++ cap) wx fun e w' => e = .returned (.bool (hasP it c)) ∧ w' = wx := by
  have hB : ∀ wx, Below w.heap.size w wx → Below w0.heap.size w0 wx := fun wx hx => hb.trans (hx.mono hb.size)
  rcases h with ⟨h1, rfl⟩ | ⟨h1, h2, p, q, rfl, h4, h5⟩ | ⟨h1, h2, q, rfl, h5⟩
  · exact ⟨_, _, rfl, enters_of Tryz.func149 rfl rfl, fun wx _ c => by
      have := fun2_any wx c
      rwa [show hasP it c = true by unfold hasP; rw [h1]; rfl]⟩
  · exact ⟨_, _, rfl, enters_of Tryz.func150 rfl rfl, fun wx hx c => by
      have := fun3_any w0 wx p q it c ((hx.block p (Array.getElem?_eq_some_iff.1 h4).1).trans h4) (h5.keep hx) (hB wx hx)
      rwa [show hasP it c = !it.set.contains c by unfold hasP; rw [h1, h2]; simp]⟩
  · exact ⟨_, _, rfl, enters_of Tryz.func147 rfl rfl, fun wx hx c => by
      have := fun1_any w0 wx q it c (h5.keep hx) (hB wx hx)
      rwa [show hasP it c = it.set.contains c by unfold hasP; rw [h1, h2]; simp]⟩

set_option maxRecDepth 100000 in
set_option maxHeartbeats 1000000 in
theorem function_any (w0 w : World) (it : It) (sv : Value) (h : IntsAt w0 sv it.set) :
    Calls Tryz.prog 142 #[.agg #[.bool it.any, .bool it.not, sv]] w fun e w' => ∃ f, e = .returned f ∧ FunIs w0 w' f it ∧ Below w.heap.size w w' := by
  obtain ⟨A, cap, rfl, -⟩ := ints_open h
  have HI := Lib.hid h
  clear h
  have hb0 := (Below.refl w.heap.size w).alloc (Nat.le_refl _) (.cells #[.bool it.any, .bool it.not, .slice A it.set.length cap] 48)
  have HB := Lib.hid (hb0.alloc hb0.size (.cells #[.func (.func 147) #[] #[.pointer (some ⟨w.heap.size, 0, none⟩)]] 102))
  clear hb0
  obtain ⟨any, neg, set⟩ := it
  dsimp only at HI HB ⊢
  have HQ := Lib.hid (show BoxAt w0 ((w.alloc (.cells #[.bool any, .bool neg, .slice A set.length cap] 48)).alloc (.cells #[.func (.func 147) #[] #[.pointer (some ⟨w.heap.size, 0, none⟩)]] 102)) w.heap.size ⟨any, neg, set⟩ from
    ⟨_, _, _, by rw [Below.heap_alloc _ _ _ (by simp)]; exact World.alloc_heap_new w _, HI.out⟩)
  have HP := Lib.hid (show ((w.alloc (.cells #[.bool any, .bool neg, .slice A set.length cap] 48)).alloc (.cells #[.func (.func 147) #[] #[.pointer (some ⟨w.heap.size, 0, none⟩)]] 102)).heap[w.heap.size + 1]? = some (.cells #[.func (.func 147) #[] #[.pointer (some ⟨w.heap.size, 0, none⟩)]] 102 (0, 0)) by
    have := World.alloc_heap_new (w.alloc (.cells #[.bool any, .bool neg, .slice A set.length cap] 48)) (.cells #[.func (.func 147) #[] #[.pointer (some ⟨w.heap.size, 0, none⟩)]] 102)
    rwa [World.size_alloc] at this)
  cases any with
  | true =>
    go_enter Tryz.func142, Tryz.ntmps142
    go_wp2_with fail

    go_ret
    exact ⟨_, rfl, .inl ⟨rfl, rfl⟩, HB.out⟩
  | false =>
    cases neg with
    | true =>
      go_enter Tryz.func142, Tryz.ntmps142
      go_wp2_with fail
      go_ret
      exact ⟨_, rfl, .inr (.inl ⟨rfl, rfl, _, _, rfl, HP.out, HQ.out⟩), HB.out⟩
    | false =>
      go_enter Tryz.func142, Tryz.ntmps142
      go_wp2_with fail
      go_ret
      exact ⟨_, rfl, .inr (.inr ⟨rfl, rfl, _, rfl, HQ.out⟩), HB.out⟩
end
section
open Go Go.RowKit

theorem Tryz.infosN179 : (Tryz.prog.info? 179).map (fun i => (i.zero, i.size, i.bytes)) = some (some (.agg #[.nilFunc]), 1, 8) := by kernel_rfl
theorem FunIs.grown {w0 w w' : World} {f v : Value} {it : It} {B n : Nat} {xs : List Value} (h : FunIs w0 w f it) (hr : w.ownsRow B 179 1 v n xs) (hg : w.grownBy w' v.ownBlock) : FunIs w0 w' f it := by
  refine h.still fun b cs t hb ht => hg.block b (Array.getElem?_eq_some_iff.1 hb).1 fun e => ?_
  rcases hr.2 with ⟨rfl, _⟩ | ⟨g, cap, cur, rfl, _, h2, _⟩
  · cases e
  · simp only [Value.ownBlock, Option.some.injEq] at e
    subst e
    rw [hb] at h2
    simp only [Option.some.injEq, Obj.cells.injEq] at h2
    have h3 := h2.2.1
    rcases ht with rfl | rfl <;> exact absurd h3 (by decide)
/-- Functions in a list, an item's each. -/
def FunsIs (w0 w : World) (fs : List Value) (l : List It) : Prop := ∀ (i : Nat) it, l[i]? = some it → ∃ f, fs[i]? = some f ∧ FunIs w0 w f it
def FunsAt (w0 w : World) (v : Value) (l : List It) : Prop := ∃ fs, w.ownsRow w0.heap.size 179 1 v l.length fs ∧ FunsIs w0 w fs l
theorem FunsIs.snoc {w0 w : World} {fs : List Value} {l : List It} {k : Nat} {f : Value} {it : It} (h : FunsIs w0 w fs (l.take k)) (hl : fs.length = k) (hit : l[k]? = some it) (hf : FunIs w0 w f it) : FunsIs w0 w (fs ++ [f]) (l.take (k + 1)) := by
  intro i x hi
  have hik : i < k + 1 := by
    have := (List.getElem?_eq_some_iff.1 hi).1
    rw [List.length_take] at this; omega
  rw [List.getElem?_take_of_lt hik] at hi
  rcases Nat.lt_or_ge i k with h1 | h1
  · obtain ⟨f', h2, h3⟩ := h i x (by rw [List.getElem?_take_of_lt h1]; exact hi)
    exact ⟨f', by rw [List.getElem?_append_left (by omega)]; exact h2, h3⟩
  · obtain rfl : i = k := by omega
    rw [hit] at hi
    obtain rfl := Option.some.inj hi
    exact ⟨f, by rw [List.getElem?_append_right (by omega), hl, Nat.sub_self]; rfl, hf⟩

set_option maxRecDepth 100000 in
set_option maxHeartbeats 4000000 in
theorem checks_any (w : World) (v : Value) (l : List It) (h : ItemsAt w v l) (hn : l.length ≤ 1000000000000) :
    Calls Tryz.prog 124 #[v] w fun e w' => ∃ v', e = .returned v' ∧ FunsAt w w' v' l ∧ Below w.heap.size w w' := by
  obtain ⟨i1, hi1, hz10, hz11, hz12⟩ := info_parts Tryz.infosN179
  obtain ⟨A, cap, rfl, hA⟩ := items_openO h
  have HA := Lib.hid hA
  clear hA h
  obtain ⟨n, hn'⟩ : ∃ n, n = l.length := ⟨_, rfl⟩
  rw [← hn'] at hn ⊢
  have HN := Lib.hid hn'
  clear hn'
  go_enter Tryz.func124, Tryz.ntmps124
  go_wp2_with (at_make; refine wpList_make_own _ rfl _ _ 160 rfl w.heap.size 179 i1 (.agg #[.nilFunc]) 1 Tryz.underlying160 hi1 hz10 hz11 .i64 .i64 _ n rfl rfl rfl (by rw [hz12]; omega) (by unfold maxLen; omega) (Nat.le_refl _) ?_)
  intro w1 hown1 hgrow1
  have H1 := Lib.hid (show (∃ fs : List Value, fs.length = 0 ∧ w1.ownsRow w.heap.size 179 1 (.slice (some ⟨w.heap.size, 0, none⟩) 0 n) 0 fs ∧ FunsIs w w1 fs (l.take 0)) ∧ Below w.heap.size w w1 from ⟨⟨[], rfl, hown1, fun i it hi => by simp at hi⟩, (Below.refl _ _).grown hgrow1 (Nat.le_refl _) (fun k hk => by cases hk)⟩)
  clear hown1 hgrow1
  go_wp2_with fail
  go_loopg [3, 5, 11] n (fun g v' _ i wr => ∃ k : Nat, k + g = n ∧ i = .int .i64 k ∧ Hid ((∃ fs : List Value, fs.length = k ∧ wr.ownsRow w.heap.size 179 1 v' k fs ∧ FunsIs w wr fs (l.take k)) ∧ Below w.heap.size w wr))
  case atStart => exact ⟨0, by omega, rfl, H1⟩
  case round =>
    obtain ⟨k, hk, rfl, HM⟩ := hrel
    rcases Nat.eq_zero_or_pos gk with h0 | h0
    · have hkn : k = n := by omega
      subst hkn
      have hfull : l.take k = l := List.take_of_length_le (by have := HN.out; omega)
      rw [hfull] at HM
      obtain ⟨⟨fs, hfl, hrow, hfs⟩, hb⟩ := HM.out
      have HF := Lib.hid (And.intro (show FunsAt w wr u3 l from ⟨fs, by rw [← HN.out]; exact hrow, hfs⟩) hb)
      clear HM hfl hrow hfs hb hfull
      go_wp2_with fail
      go_ret
      exact ⟨_, rfl, HF.out.1, HF.out.2⟩
    · have hkn : (k : Int) < n := by omega
      obtain ⟨it, hit⟩ : ∃ it, l[k]? = some it := ⟨_, List.getElem?_eq_getElem (by have := HN.out; omega)⟩
      obtain ⟨q, o, rfl, hq, -, m0, m1, a, m, cp, m2, hs⟩ := HA.out k it hit
      obtain ⟨⟨fs, hfl, hrow, hfs⟩, hb⟩ := HM.out
      have p0 := (hb.cell (p := ⟨q, o + k * 3, none⟩) hq).trans m0
      have p1 := (hb.cell (p := ⟨q, o + k * 3 + 1, none⟩) hq).trans m1
      have p2 := (hb.cell (p := ⟨q, o + k * 3 + 2, none⟩) hq).trans m2
      have tk1 : (0 : Int) ≤ k := by omega
      have hb0 := Lib.hid ((Below.refl wr.heap.size wr).alloc (Nat.le_refl _) (.cells #[.bool it.any, .bool it.not, .slice a m cp] 48))
      have FC := Lib.hid (function_any w (wr.alloc (.cells #[.bool it.any, .bool it.not, .slice a m cp] 48)) it (.slice a m cp) hs)
      have HR := Lib.hid (And.intro hrow (And.intro hfs (And.intro hb (And.intro hfl hit))))
      clear m0 m1 m2 hs hit hrow hfs hb hfl HM
      go_wp2_with (go_at_call 142; refine FC.out.mono ?_)
      rintro e w2 ⟨f, rfl, hf, hb2⟩
      have hbw : Below wr.heap.size wr w2 := hb0.out.trans (hb2.mono hb0.out.size)
      obtain ⟨fk, fcap, rfl, -, -⟩ := fun_call hf (HR.out.2.2.1.trans (hbw.mono HR.out.2.2.1.size))
      have hba := (Below.refl w2.heap.size w2).alloc (Nat.le_refl _) (.cells #[.func (.func fk) #[] fcap] 179)
      have hrow2 := own_keep9 (own_keep9 HR.out.1 hbw) hba
      have HS := Lib.hid (show (w2.alloc (.cells #[.func (.func fk) #[] fcap] 179)).ownsRow w.heap.size 179 1 u3 k fs ∧ FunIs w (w2.alloc (.cells #[.func (.func fk) #[] fcap] 179)) (.func (.func fk) #[] fcap) it ∧ FunsIs w (w2.alloc (.cells #[.func (.func fk) #[] fcap] 179)) fs (l.take k) ∧ Below w.heap.size w (w2.alloc (.cells #[.func (.func fk) #[] fcap] 179)) from
        ⟨hrow2, hf.keep hba, fun i x hi => by obtain ⟨f', h2, h3⟩ := HR.out.2.1 i x hi; exact ⟨f', h2, (h3.keep hbw).keep hba⟩, (HR.out.2.2.1.trans (hbw.mono HR.out.2.2.1.size)).trans (hba.mono (by have := hbw.size; have := HR.out.2.2.1.size; omega))⟩)
      have hkm : k + 1 ≤ 1000000000000 := by omega
      clear hbw hba hrow2 hf hb2
      go_wp2_with (at_builtin; refine wpList_append_own _ rfl _ _ 160 rfl w.heap.size 179 i1 (.agg #[.nilFunc]) 1 8 Tryz.underlying160 hi1 hz10 hz11 hz12 rfl (by decide) u3 k fs rfl HS.out.1 ⟨w2.heap.size, 0, none⟩ 1 1 [.func (.func fk) #[] fcap] rfl rfl (news_row _ _ _) (by intro u hu; simp at hu; subst hu; rfl) (by unfold maxLen; omega) (by omega) (HS.out.2.2.2.size) ?_)
      intro v' w4 hown4 hgrow4 _
      have HM2 := Lib.hid (show (∃ fs : List Value, fs.length = k + 1 ∧ w4.ownsRow w.heap.size 179 1 v' (k + 1) fs ∧ FunsIs w w4 fs (l.take (k + 1))) ∧ Below w.heap.size w w4 from
        ⟨⟨fs ++ [.func (.func fk) #[] fcap], by rw [List.length_append, HR.out.2.2.2.1]; rfl, hown4, FunsIs.snoc (fun i x hi => by obtain ⟨f', h2, h3⟩ := HS.out.2.2.1 i x hi; exact ⟨f', h2, h3.grown HS.out.1 hgrow4⟩) HR.out.2.2.2.1 HR.out.2.2.2.2 (HS.out.2.1.grown HS.out.1 hgrow4)⟩, HS.out.2.2.2.grown hgrow4 HS.out.2.2.2.size (fun z hz => (HS.out.1.lt z hz).1)⟩)
      clear hown4 hgrow4 hkm
      go_wp2_with fail
      go_roundg (gk - 1)
      case measure => omega
      case rel => exact ⟨k + 1, by omega, by go_num, HM2⟩

theorem all_upto {l : List It} {cs : List Int} {n : Nat} (hn : n = l.length) (hl : l.length ≤ cs.length) (h : ∀ j, j < n → ∀ it c, l[j]? = some it → cs[j]? = some c → hasP it c = true) : (l.zip cs).all (fun x => hasP x.1 x.2) = true := by
  rw [List.all_eq_true]
  intro x hx
  obtain ⟨j, hj, hjx⟩ := List.getElem_of_mem hx
  rw [List.length_zip] at hj
  rw [List.getElem_zip] at hjx
  subst hjx
  exact h j (by omega) _ _ (List.getElem?_eq_getElem (by omega)) (List.getElem?_eq_getElem (by omega))
theorem all_not {l : List It} {cs : List Int} {k : Nat} {it : It} {c : Int} (h1 : l[k]? = some it) (h2 : cs[k]? = some c) (h : hasP it c = false) : (l.zip cs).all (fun x => hasP x.1 x.2) = false := by
  rw [List.all_eq_false]
  exact ⟨(it, c), List.mem_of_getElem? (i := k) (by rw [List.getElem?_zip_eq_some]; exact ⟨h1, h2⟩), by simp [h]⟩

set_option maxRecDepth 100000 in
set_option maxHeartbeats 4000000 in
theorem hold_any (w0 w : World) (v vc : Value) (l : List It) (cs : List Int) (h : FunsAt w0 w v l) (hc : IntsAt w vc cs) (hl : l.length ≤ cs.length) (hb0 : Below w0.heap.size w0 w) :
    Calls Tryz.prog 123 #[v, vc] w fun e w' => e = .returned (.bool ((l.zip cs).all fun x => hasP x.1 x.2)) ∧ Below w.heap.size w w' := by
  obtain ⟨fs, hrow, hfs⟩ := h
  have hbig := ints_bd hc
  obtain ⟨A, cap, rfl, hA⟩ := ints_open hc
  have HR := Lib.hid (And.intro hrow hfs)
  obtain ⟨a, cp, rfl, hrd⟩ : ∃ a c, v = .slice a l.length c ∧ ∀ k, k < l.length → ∃ g, a = some ⟨g, 0, none⟩ ∧ g < w.heap.size ∧ l.length ≤ c ∧ ∀ u, fs[k]? = some u → w.cell? ⟨g, k, none⟩ = some u := by
    have hcl := @World.ownsRow.cells _ _ _ _ _ _ _ hrow
    rcases hrow.2 with ⟨e, e0⟩ | ⟨g, c, cur, e, _, h2, h3, _⟩
    · exact ⟨none, 0, by rw [e, e0], fun k hk => by omega⟩
    · subst e
      refine ⟨_, _, rfl, fun k _ => ⟨g, rfl, (Array.getElem?_eq_some_iff.1 h2).1, h3, fun u hu => ?_⟩⟩
      have := hcl (g := g) rfl k u hu
      rwa [add9] at this
  obtain ⟨n, hn⟩ : ∃ n, n = l.length := ⟨_, rfl⟩
  rw [← hn] at hl hrd ⊢
  have HN := Lib.hid (And.intro hn hl)
  have HRD := Lib.hid (And.intro hrd (And.intro hA hb0))
  have hncs : (n : Int) ≤ cs.length := by omega
  clear hn hrd hA hrow hfs hc hb0
  go_enter Tryz.func123, Tryz.ntmps123
  go_wp2
  go_loopg [5, 6, 9] n (fun g _ _ i wr => ∃ k : Nat, k + g = n ∧ i = .int .i64 k ∧ Hid (Below w.heap.size w wr) ∧ Hid (∀ j, j < k → ∀ it c, l[j]? = some it → cs[j]? = some c → hasP it c = true))
  case atStart => exact ⟨0, by omega, rfl, Lib.hid (Below.refl _ _), Lib.hid fun j hj => absurd hj (Nat.not_lt_zero _)⟩
  case round =>
    obtain ⟨k, hk, rfl, HB, HP⟩ := hrel
    rcases Nat.eq_zero_or_pos gk with h0 | h0
    · have hkn : k = n := by omega
      subst hkn
      have HF := Lib.hid (all_upto HN.out.1 (by have := HN.out; omega) HP.out)
      go_wp2_with fail
      go_ret
      exact ⟨ret_bool HF.out.symm, HB.out⟩
    · have hkn : (k : Int) < n := by omega
      obtain ⟨it, hit⟩ : ∃ it, l[k]? = some it := ⟨_, List.getElem?_eq_getElem (by have := HN.out.1; omega)⟩
      obtain ⟨c, hc⟩ : ∃ c, cs[k]? = some c := ⟨_, List.getElem?_eq_getElem (by have := HN.out; omega)⟩
      obtain ⟨g, rfl, hg, hgc, hcell⟩ := HRD.out.1 k (by omega)
      obtain ⟨f, hfk, hf⟩ := HR.out.2 k it hit
      obtain ⟨q, o, rfl, hq, hqc, cq⟩ := HRD.out.2.1 k c hc
      have hcg := hcell f hfk
      have p0 := (HB.out.cell (p := ⟨g, k, none⟩) hg).trans hcg
      have p1 := (HB.out.cell (p := ⟨q, o + k, none⟩) hq).trans cq
      have hqw : q < wr.heap.size := Nat.lt_of_lt_of_le hq HB.out.size
      have tk1 : (0 : Int) ≤ k := by omega
      have tk2 : (k : Int) < cs.length := by omega
      have hbA := (Below.refl wr.heap.size wr).alloc (Nat.le_refl _) (.cells #[f] 179)
      have hbW : Below w.heap.size w (wr.alloc (.cells #[f] 179)) := HB.out.trans (hbA.mono HB.out.size)
      have hbV : Below w0.heap.size w0 (wr.alloc (.cells #[f] 179)) := HRD.out.2.2.trans (hbW.mono HRD.out.2.2.size)
      obtain ⟨fk, fcap, rfl, el, hcall⟩ := fun_call (hf.keep hbW) hbV
      have FC := Lib.hid (fun m => hcall _ (below_drewN (Below.refl _ (wr.alloc (.cells #[.func (.func fk) #[] fcap] 179))) m) c)
      have HB2 := Lib.hid hbW
      have HC := Lib.hid (And.intro hit hc)
      clear hit hc hcell hfk hf cq hcg hbA hbW hbV hcall
      go_wp2_with fail
      cases hh : hasP it c with
      | true =>
        rw [hh] at FC
        have HH := Lib.hid hh
        clear hh
        go_quiet ((refine (FC.out _).mono ?_; rintro e w ⟨rfl, rfl⟩; exact ⟨rfl, _, rfl⟩))
        go_wp2_with fail
        go_roundg (gk - 1)
        case measure => omega
        case rel =>
          refine ⟨k + 1, by omega, by go_num, Lib.hid (below_drewN HB2.out _), Lib.hid fun j hj it' c' h1 h2 => ?_⟩
          rcases Nat.lt_or_ge j k with hjk | hjk
          · exact HP.out j hjk it' c' h1 h2
          · obtain rfl : j = k := by omega
            rw [HC.out.1] at h1
            rw [HC.out.2] at h2
            rw [← Option.some.inj h1, ← Option.some.inj h2]
            exact HH.out
      | false =>
        rw [hh] at FC
        have HF := Lib.hid (all_not HC.out.1 HC.out.2 hh)
        clear hh
        go_quiet ((refine (FC.out _).mono ?_; rintro e w ⟨rfl, rfl⟩; exact ⟨rfl, _, rfl⟩))
        go_wp2_with fail
        go_ret
        exact ⟨ret_bool HF.out.symm, below_drewN HB2.out _⟩
end
end Go.Proofs.YtcbmfkgekhadkaaGreatDoor
