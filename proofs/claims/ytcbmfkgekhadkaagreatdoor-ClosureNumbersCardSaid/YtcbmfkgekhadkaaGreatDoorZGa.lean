/- Conditions, plain: no program. What a list of codes reads as; items as codes; one is read as the other. -/
import Derived.Lib.MapLaws
import Derived.Lib.ValidLaws
import Derived.Lib.RuneBytes
import Derived.RangeFuncNested
import Derived.RangeFuncLeaves
import Derived.RangeFuncBound
import Derived.Laws.AppendOwn
import Derived.Test.YtcbmfkgekhadkaaGreatDoorProg
import Derived.Lib.Hide
import Derived.WalkKit
import Derived.WalkSpells
import Derived.WalkLawsBesides
import Derived.IntWalk
import Derived.BigQuiet
import Derived.BigRegion
import Derived.Deep.QuietTactic
import Derived.Deep.LoopGhost
import Derived.Below
import Derived.Outline
import Derived.WalkMore
import Derived.Laws.Rows
namespace Go.Proofs.YtcbmfkgekhadkaaGreatDoor
section
open Go

structure It where
  any : Bool
  not : Bool
  set : List Int
deriving DecidableEq
/-- The codes up to the closing bracket, and what is behind it. -/
def takeSet : List Int → Option (List Int × List Int)
  | [] => none
  | c :: r => if c = 93 then some ([], r) else (takeSet r).map fun x => (c :: x.1, x.2)
/-- What a bracket opens. -/
def setC (neg : Bool) (r : List Int) : Option (It × List Int) :=
  match takeSet r with
  | none => none
  | some (a, b) => if a = [] then none else some (⟨false, neg, a⟩, b)
/-- The first item, and what is behind it. -/
def headC : List Int → Option (It × List Int)
  | [] => none
  | c :: r => if c = 46 then some (⟨true, false, []⟩, r) else if c = 93 then none else if c = 91 then (if r.head? = some 94 then setC true r.tail else setC false r) else some (⟨false, false, [c]⟩, r)
def parseF : Nat → List Int → Option (List It)
  | 0, cs => if cs = [] then some [] else none
  | f + 1, cs => if cs = [] then some [] else match headC cs with
    | none => none
    | some (it, r) => (parseF f r).map fun l => it :: l
def parseC (cs : List Int) : Option (List It) :=
  match parseF cs.length cs with
  | none => none
  | some l => if 0 < l.length ∧ l.length ≤ 8 then some l else none
/-- An item as codes. -/
def itemC (it : It) : List Int :=
  if it.any then [46] else if it.set.length = 1 ∧ it.not = false ∧ it.set.head? ≠ some 46 ∧ it.set.head? ≠ some 91 ∧ it.set.head? ≠ some 93 then it.set
  else 91 :: ((if it.not then [94] else []) ++ (it.set ++ [93]))
def textC (l : List It) : List Int := l.flatMap itemC
/-- An item that can be read. -/
def Good (it : It) : Prop := it = ⟨true, false, []⟩ ∨ (it.any = false ∧ it.set ≠ [] ∧ (∀ c ∈ it.set, c ≠ 93) ∧ (it.not = false → it.set.head? = some 94 → it.set = [94]))
def hasP (it : It) (c : Int) : Bool := it.any || (it.set.contains c != it.not)
def startsP (l : List It) (cs : List Int) : Bool := decide (l.length ≤ cs.length) && (l.zip cs).all fun x => hasP x.1 x.2
def endsP (l : List It) (cs : List Int) : Bool := decide (l.length ≤ cs.length) && startsP l (cs.drop (cs.length - l.length))

theorem headC_cons (c : Int) (r : List Int) : headC (c :: r) = if c = 46 then some (⟨true, false, []⟩, r) else if c = 93 then none else if c = 91 then (if r.head? = some 94 then setC true r.tail else setC false r) else some (⟨false, false, [c]⟩, r) := rfl
theorem takeSet_len : ∀ (cs : List Int) {a b : List Int}, takeSet cs = some (a, b) → cs = a ++ 93 :: b ∧ ∀ c ∈ a, c ≠ 93
  | [], a, b, h => by simp [takeSet] at h
  | c :: r, a, b, h => by
    unfold takeSet at h
    by_cases hc : c = 93
    · rw [if_pos hc] at h
      simp only [Option.some.injEq, Prod.mk.injEq] at h
      obtain ⟨rfl, rfl⟩ := h
      exact ⟨by rw [hc]; rfl, fun c hc => by cases hc⟩
    · rw [if_neg hc, Option.map_eq_some_iff] at h
      obtain ⟨⟨a', b'⟩, h1, h2⟩ := h
      simp only [Prod.mk.injEq] at h2
      obtain ⟨rfl, rfl⟩ := h2
      obtain ⟨h3, h4⟩ := takeSet_len r h1
      refine ⟨by rw [h3]; rfl, fun x hx => ?_⟩
      rcases List.mem_cons.1 hx with rfl | hx
      · exact hc
      · exact h4 x hx
theorem takeSet_app : ∀ (a b : List Int), (∀ c ∈ a, c ≠ 93) → takeSet (a ++ 93 :: b) = some (a, b)
  | [], b, _ => by simp [takeSet]
  | c :: a, b, h => by
    have hc := h c (List.mem_cons_self ..)
    have ih := takeSet_app a b fun x hx => h x (List.mem_cons_of_mem _ hx)
    show takeSet (c :: (a ++ 93 :: b)) = _
    unfold takeSet
    rw [if_neg hc, ih]
    rfl
theorem setC_len {neg : Bool} {r b : List Int} {it : It} (h : setC neg r = some (it, b)) : it.any = false ∧ it.not = neg ∧ it.set ≠ [] ∧ (∀ c ∈ it.set, c ≠ 93) ∧ r = it.set ++ 93 :: b := by
  unfold setC at h
  split at h
  · cases h
  · rename_i a b' ht
    split at h
    · cases h
    · rename_i hne
      simp only [Option.some.injEq, Prod.mk.injEq] at h
      obtain ⟨rfl, rfl⟩ := h
      obtain ⟨h1, h2⟩ := takeSet_len r ht
      exact ⟨rfl, rfl, hne, h2, h1⟩
theorem setC_app {neg : Bool} {a b : List Int} (hne : a ≠ []) (h : ∀ c ∈ a, c ≠ 93) : setC neg (a ++ 93 :: b) = some (⟨false, neg, a⟩, b) := by
  unfold setC
  rw [takeSet_app a b h]
  simp [hne]
/-- What is read first can be read; its codes, and its text's, lie there. -/
theorem headC_says {cs r : List Int} {it : It} (h : headC cs = some (it, r)) : Good it ∧ (itemC it).length + r.length ≤ cs.length ∧ r.length < cs.length ∧ (∀ c ∈ it.set, c ∈ cs) ∧ (∀ c ∈ r, c ∈ cs) ∧ it.set.length ≤ cs.length := by
  match cs, h with
  | c :: t, h =>
    rw [headC_cons] at h
    split at h
    · simp only [Option.some.injEq, Prod.mk.injEq] at h
      obtain ⟨rfl, rfl⟩ := h
      exact ⟨.inl rfl, by simp [itemC]; omega, by simp, (fun c hc => by cases hc), (fun c hc => List.mem_cons_of_mem _ hc), Nat.zero_le _⟩
    split at h
    · cases h
    split at h
    · rename_i h46 h93 h91
      have hlen : ∀ (it : It), it.any = false → (itemC it).length ≤ it.set.length + 2 + (if it.not then 1 else 0) := by
        intro it ha
        unfold itemC
        rw [if_neg (by simp [ha])]
        split
        · omega
        · split <;> simp_all
      split at h
      · rename_i hhead
        obtain ⟨h1, h2, h3, h4, h5⟩ := setC_len h
        have ht : t = 94 :: t.tail := by
          cases t with
          | nil => simp at hhead
          | cons x t' => simp only [List.head?_cons, Option.some.injEq] at hhead; rw [hhead]; rfl
        have hl := hlen it h1
        rw [h2] at hl
        have hT : t.length = it.set.length + r.length + 2 := by
          rw [ht, h5]; simp; omega
        refine ⟨.inr ⟨h1, h3, h4, fun h => by rw [h2] at h; cases h⟩, by simp only [List.length_cons]; simp at hl; omega, by simp only [List.length_cons]; omega, fun c hc => ?_, fun c hc => ?_, by simp only [List.length_cons]; omega⟩
        · rw [ht, h5]; simp [hc]
        · rw [ht, h5]; simp [hc]
      · rename_i hhead
        obtain ⟨h1, h2, h3, h4, h5⟩ := setC_len h
        have hl := hlen it h1
        rw [h2] at hl
        have hT : t.length = it.set.length + r.length + 1 := by
          rw [h5]; simp; omega
        refine ⟨.inr ⟨h1, h3, h4, fun _ hh => ?_⟩, by simp only [List.length_cons]; simp at hl; omega, by simp only [List.length_cons]; omega, fun c hc => ?_, fun c hc => ?_, by simp only [List.length_cons]; omega⟩
        · exfalso
          apply hhead
          rw [h5]
          cases hs : it.set with
          | nil => exact absurd hs h3
          | cons x y => rw [hs] at hh; simpa using hh
        · rw [h5]; simp [hc]
        · rw [h5]; simp [hc]
    · rename_i h46 h93 h91
      simp only [Option.some.injEq, Prod.mk.injEq] at h
      obtain ⟨rfl, rfl⟩ := h
      refine ⟨.inr ⟨rfl, (fun h => by cases h), (fun x hx => ?_), (fun _ hh => ?_)⟩, ?_, by simp, (fun x hx => ?_), (fun c hc => List.mem_cons_of_mem _ hc), by simp⟩
      · simp only [List.mem_cons, List.not_mem_nil, or_false] at hx; rw [hx]; exact h93
      · simp only [List.head?_cons, Option.some.injEq] at hh; rw [hh]
      · unfold itemC
        rw [if_neg (by simp), if_pos (by simp [h46, h91, h93])]
        simp; omega
      · simp only [List.mem_cons, List.not_mem_nil, or_false] at hx; rw [hx]; exact List.mem_cons_self ..
/-- An item's codes are read as it. -/
theorem headC_item {it : It} (h : Good it) (r : List Int) : headC (itemC it ++ r) = some (it, r) := by
  obtain ⟨any, neg, set⟩ := it
  rcases h with h | ⟨h1, h2, h3, h4⟩
  · cases h
    rfl
  · simp only at h1 h2 h3 h4
    subst h1
    unfold itemC
    rw [if_neg (by simp)]
    split
    · rename_i hc
      obtain ⟨hl, hn, a, b, c⟩ := hc
      simp only at hl hn a b c
      match set, hl with
      | [x], _ =>
        simp only [List.head?_cons, ne_eq, Option.some.injEq] at a b c
        subst hn
        show headC (x :: r) = _
        rw [headC_cons, if_neg a, if_neg c, if_neg b]
    · rename_i hc
      simp only [List.cons_append, List.append_assoc, List.nil_append]
      rw [headC_cons, if_neg (by decide), if_neg (by decide), if_pos rfl]
      cases neg with
      | true =>
        simp only [if_true, List.cons_append, List.nil_append, List.head?_cons, List.tail_cons]
        exact setC_app h2 h3
      | false =>
        simp only [Bool.false_eq_true, if_false, List.nil_append]
        have hh : (set ++ 93 :: r).head? ≠ some 94 := by
          cases hs : set with
          | nil => exact absurd hs h2
          | cons x y =>
            intro hx
            have hx' : set.head? = some 94 := by rw [hs]; simpa using hx
            have := h4 rfl hx'
            apply hc
            simp [this]
        rw [if_neg hh]
        exact setC_app h2 h3
theorem parseF_text : ∀ (l : List It) (f : Nat), (∀ it ∈ l, Good it) → (textC l).length ≤ f → parseF f (textC l) = some l
  | [], f, _, _ => by cases f <;> simp [textC, parseF]
  | it :: l, f, h, hf => by
    have hg := h it (List.mem_cons_self ..)
    have hh := headC_item hg (textC l)
    have ht : textC (it :: l) = itemC it ++ textC l := by simp [textC]
    rw [ht] at hf ⊢
    have hlt := (headC_says hh).2.2.1
    cases f with
    | zero => omega
    | succ f =>
      have ih := parseF_text l f (fun x hx => h x (List.mem_cons_of_mem _ hx)) (by omega)
      unfold parseF
      rw [if_neg (by intro e; rw [e] at hlt; simp at hlt), hh]
      simp only [ih, Option.map_some]
theorem parseF_says : ∀ (f : Nat) (cs : List Int) {l : List It}, parseF f cs = some l → (∀ it ∈ l, Good it ∧ (∀ c ∈ it.set, c ∈ cs) ∧ it.set.length ≤ cs.length) ∧ (textC l).length ≤ cs.length
  | 0, cs, l, h => by
    unfold parseF at h
    split at h
    · simp only [Option.some.injEq] at h; subst h; exact ⟨(fun it hit => by cases hit), Nat.zero_le _⟩
    · cases h
  | f + 1, cs, l, h => by
    unfold parseF at h
    split at h
    · simp only [Option.some.injEq] at h; subst h; exact ⟨(fun it hit => by cases hit), Nat.zero_le _⟩
    split at h
    · cases h
    · rename_i it r hh
      rw [Option.map_eq_some_iff] at h
      obtain ⟨l', h1, rfl⟩ := h
      obtain ⟨g1, g2, g3, g4, g5, g6⟩ := headC_says hh
      obtain ⟨i1, i2⟩ := parseF_says f r h1
      refine ⟨fun x hx => ?_, by rw [show textC (it :: l') = itemC it ++ textC l' by simp [textC], List.length_append]; omega⟩
      rcases List.mem_cons.1 hx with rfl | hx
      · exact ⟨g1, g4, g6⟩
      · obtain ⟨j1, j2, j3⟩ := i1 x hx
        exact ⟨j1, fun c hc => g5 c (j2 c hc), by omega⟩
/-- What a list of codes reads as: items that can be read, one to eight. -/
theorem parseC_says {cs : List Int} {l : List It} (h : parseC cs = some l) : (∀ it ∈ l, Good it ∧ (∀ c ∈ it.set, c ∈ cs) ∧ it.set.length ≤ cs.length) ∧ (textC l).length ≤ cs.length ∧ 0 < l.length ∧ l.length ≤ 8 := by
  unfold parseC at h
  split at h
  · cases h
  · rename_i l' hf
    split at h
    · rename_i hl
      simp only [Option.some.injEq] at h
      subst h
      obtain ⟨h1, h2⟩ := parseF_says _ _ hf
      exact ⟨h1, h2, hl.1, hl.2⟩
    · cases h
theorem parseC_text {l : List It} (h : ∀ it ∈ l, Good it) (h0 : 0 < l.length) (h8 : l.length ≤ 8) : parseC (textC l) = some l := by
  unfold parseC
  rw [parseF_text l _ h (Nat.le_refl _)]
  simp [h0, h8]
theorem textC_mem {l : List It} {P : Int → Prop} (h : ∀ it ∈ l, ∀ c ∈ it.set, P c) (h46 : P 46) (h91 : P 91) (h93 : P 93) (h94 : P 94) : ∀ c ∈ textC l, P c := by
  intro c hc
  unfold textC at hc
  rw [List.mem_flatMap] at hc
  obtain ⟨it, hit, hc⟩ := hc
  unfold itemC at hc
  split at hc
  · simp at hc; exact hc ▸ h46
  split at hc
  · exact h it hit c hc
  · rcases List.mem_cons.1 hc with rfl | hc
    · exact h91
    rcases List.mem_append.1 hc with hc | hc
    · split at hc
      · simp at hc; exact hc ▸ h94
      · cases hc
    rcases List.mem_append.1 hc with hc | hc
    · exact h it hit c hc
    · simp at hc; exact hc ▸ h93
end
section
open Go Go.Lib

/-- Does the list begin with a byte that is no code point? -/
def uBad (l : List UInt8) : Bool := decide ((decodeL l).1 = 65533 ∧ (decodeL l).2 = 1)
/-- The code of the unit at the head. -/
def uCode (l : List UInt8) : Int := if uBad l then -1 - ((l.getD 0 0).toNat : Int) else ((decodeL l).1 : Int)
/-- A text's units from place p on: where, how long, which code. -/
def unitsF : Nat → Nat → List UInt8 → List (Nat × Nat × Int)
  | 0, _, _ => []
  | f + 1, p, l => if l = [] then [] else (p, (decodeL l).2, uCode l) :: unitsF f (p + (decodeL l).2) (l.drop (decodeL l).2)
def units (p : Nat) (l : List UInt8) : List (Nat × Nat × Int) := unitsF l.length p l

theorem unitsF_nil : ∀ f p, unitsF f p [] = []
  | 0, _ => rfl
  | _ + 1, _ => by simp [unitsF]
theorem unitsF_fuel : ∀ (n m p : Nat) (l : List UInt8), l.length ≤ n → l.length ≤ m → unitsF n p l = unitsF m p l
  | 0, m, p, l, hn, _ => by
    have : l = [] := List.eq_nil_of_length_eq_zero (by omega)
    subst this
    rw [unitsF_nil, unitsF_nil]
  | n + 1, 0, p, l, _, hm => by
    have : l = [] := List.eq_nil_of_length_eq_zero (by omega)
    subst this
    rw [unitsF_nil, unitsF_nil]
  | n + 1, m + 1, p, l, hn, hm => by
    by_cases hne : l = []
    · subst hne
      rw [unitsF_nil, unitsF_nil]
    · have hw := decodeL_width l
      have hl : 0 < l.length := List.length_pos_iff.2 hne
      simp only [unitsF, if_neg hne]
      rw [unitsF_fuel n m _ _ (by rw [List.length_drop]; omega) (by rw [List.length_drop]; omega)]
theorem units_nil (p : Nat) : units p [] = [] := rfl
theorem units_step (p : Nat) (l : List UInt8) (hne : l ≠ []) : units p l = (p, (decodeL l).2, uCode l) :: units (p + (decodeL l).2) (l.drop (decodeL l).2) := by
  have hw := decodeL_width l
  have hl : 0 < l.length := List.length_pos_iff.2 hne
  unfold units
  obtain ⟨n, hn⟩ : ∃ n, l.length = n + 1 := ⟨l.length - 1, by omega⟩
  rw [hn]
  simp only [unitsF, if_neg hne]
  rw [unitsF_fuel n _ _ _ (by rw [List.length_drop]; omega) (Nat.le_refl _)]
/-- Induction over a text, unit by unit. -/
theorem unit_ind (C : List UInt8 → Prop) (h0 : C []) (h1 : ∀ l, l ≠ [] → C (l.drop (decodeL l).2) → C l) : ∀ l, C l := by
  intro l
  suffices h : ∀ n (l : List UInt8), l.length ≤ n → C l from h l.length l (Nat.le_refl _)
  intro n
  induction n with
  | zero =>
    intro l hl
    have : l = [] := List.eq_nil_of_length_eq_zero (by omega)
    exact this ▸ h0
  | succ n ih =>
    intro l hl
    by_cases hne : l = []
    · exact hne ▸ h0
    · have hw := decodeL_width l
      have hp : 0 < l.length := List.length_pos_iff.2 hne
      exact h1 l hne (ih _ (by rw [List.length_drop]; omega))

theorem units_length_le : ∀ (l : List UInt8) p, (units p l).length ≤ l.length := by
  apply unit_ind
  · intro p; simp [units_nil]
  · intro l hne ih p
    have hw := decodeL_width l
    have hp : 0 < l.length := List.length_pos_iff.2 hne
    rw [units_step p l hne, List.length_cons]
    have := ih (p + (decodeL l).2)
    rw [List.length_drop] at this
    omega

/-- All codes are code points' where the text is right UTF-8, and there alone. -/
theorem validD_units : ∀ (l : List UInt8) p, validD l = (units p l).all fun u => decide (0 ≤ u.2.2) := by
  apply unit_ind
  · intro p; rfl
  · intro l hne ih p
    rw [units_step p l hne, validD_step l hne, List.all_cons, ← ih]
    by_cases hb : (decodeL l).1 = 65533 ∧ (decodeL l).2 = 1
    · have : decide (0 ≤ uCode l) = false := by simp [uCode, uBad, hb]; omega
      rw [if_pos hb]; simp [this]
    · have : decide (0 ≤ uCode l) = true := by
        have h : uBad l = false := by simpa [uBad] using hb
        simp [uCode, h]
      rw [if_neg hb]; simp [this]

theorem getD_append_left (l t : List UInt8) (k : Nat) (h : k < l.length) : (l ++ t).getD k 0 = l.getD k 0 := by
  simp [List.getD, List.getElem?_append_left h]

/-- What decodes to a code point does so whatever follows. -/
theorem decodeL_append (l t : List UInt8) (hne : l ≠ []) (hb : ¬ ((decodeL l).1 = 65533 ∧ (decodeL l).2 = 1)) : decodeL (l ++ t) = decodeL l := by
  have hl : 0 < l.length := List.length_pos_iff.2 hne
  rw [decodeL_N] at hb
  rw [decodeL_N, decodeL_N l, getD_append_left l t 0 hl, List.length_append]
  by_cases h1 : 1 < l.length
  · rw [getD_append_left l t 1 h1]
    by_cases h2 : 2 < l.length
    · rw [getD_append_left l t 2 h2]
      by_cases h3 : 3 < l.length
      · rw [getD_append_left l t 3 h3]
        unfold decodeN
        simp only [show 1 < l.length + t.length from by omega, show 2 < l.length + t.length from by omega, show 3 < l.length + t.length from by omega, h1, h2, h3, true_and]
      · revert hb
        unfold decodeN
        simp only [show 1 < l.length + t.length from by omega, show 2 < l.length + t.length from by omega, h1, h2, h3, true_and, false_and, and_false, if_false]
        intro hb
        split
        · rfl
        split
        · rfl
        split
        · rfl
        rename_i a b c
        rw [if_neg a, if_neg b, if_neg c] at hb
        simp at hb
    · revert hb
      unfold decodeN
      simp only [show 1 < l.length + t.length from by omega, h1, h2, true_and, false_and, and_false, if_false]
      intro hb
      split
      · rfl
      split
      · rfl
      rename_i a b
      rw [if_neg a, if_neg b] at hb
      simp at hb
  · revert hb
    unfold decodeN
    simp only [h1, false_and, and_false, if_false]
    intro hb
    split
    · rfl
    rename_i a
    rw [if_neg a] at hb
    simp at hb

/-- A right text ahead changes nothing behind it. -/
theorem units_append (t : List UInt8) : ∀ (l : List UInt8) p, validD l = true → units p (l ++ t) = units p l ++ units (p + l.length) t := by
  apply unit_ind (C := fun l => ∀ p, validD l = true → units p (l ++ t) = units p l ++ units (p + l.length) t)
  · intro p _; simp [units_nil]
  · intro l hne ih p hv
    rw [validD_step l hne] at hv
    by_cases hb : (decodeL l).1 = 65533 ∧ (decodeL l).2 = 1
    · rw [if_pos hb] at hv; cases hv
    · rw [if_neg hb] at hv
      have hd := decodeL_append l t hne hb
      have hle := decodeL_le l hne
      have hu : uBad (l ++ t) = uBad l := by simp [uBad, hd]
      have hc : uCode (l ++ t) = uCode l := by
        have h : uBad l = false := by simpa [uBad] using hb
        simp [uCode, hu, h, hd]
      rw [units_step p (l ++ t) (by simp [hne]), units_step p l hne, hd, hc, List.drop_append_of_le_length hle, ih _ hv, List.cons_append, List.length_drop]
      congr 3
      omega
theorem validD_append (t : List UInt8) (l : List UInt8) (h : validD l = true) : validD (l ++ t) = validD t := by
  rw [validD_units (l ++ t) 0, units_append t l 0 h, List.all_append, ← validD_units, ← validD_units, h, Bool.true_and]
end
section
open Go Go.Lib

theorem ofNat_toNat (n : Nat) (h : n < 256) : (UInt8.ofNat n).toNat = n := by simp; omega

/-- A code point's bytes, by their number. -/
theorem enc_cases (k : Nat) (hv : Utf8.valid (k : Int) = true) :
    (k < 128 ∧ (Utf8.encode k).data.toList = [UInt8.ofNat k]) ∨
    (128 ≤ k ∧ k < 2048 ∧ (Utf8.encode k).data.toList = [UInt8.ofNat (192 + k / 64), UInt8.ofNat (128 + k % 64)]) ∨
    (2048 ≤ k ∧ k < 65536 ∧ (k < 55296 ∨ 57344 ≤ k) ∧ (Utf8.encode k).data.toList = [UInt8.ofNat (224 + k / 4096), UInt8.ofNat (128 + k / 64 % 64), UInt8.ofNat (128 + k % 64)]) ∨
    (65536 ≤ k ∧ k ≤ 1114111 ∧ (Utf8.encode k).data.toList = [UInt8.ofNat (240 + k / 262144), UInt8.ofNat (128 + k / 4096 % 64), UInt8.ofNat (128 + k / 64 % 64), UInt8.ofNat (128 + k % 64)]) := by
  have hv' : (k < 55296) ∨ (57344 ≤ k ∧ k ≤ 1114111) := by
    simp [Utf8.valid] at hv; omega
  unfold Utf8.encode
  simp only [hv, if_true, Int.toNat_natCast]
  by_cases h1 : k < 128
  · left; exact ⟨h1, by rw [if_pos h1]⟩
  · by_cases h2 : k < 2048
    · right; left; exact ⟨by omega, h2, by rw [if_neg h1, if_pos h2]⟩
    · by_cases h3 : k < 65536
      · right; right; left; exact ⟨by omega, h3, by omega, by rw [if_neg h1, if_neg h2, if_pos h3]⟩
      · right; right; right; exact ⟨by omega, by omega, by rw [if_neg h1, if_neg h2, if_neg h3]⟩

theorem decode_encode (k : Nat) (hv : Utf8.valid (k : Int) = true) : decodeL (Utf8.encode k).data.toList = (k, (Utf8.encode k).size) ∧ 1 ≤ (Utf8.encode k).size ∧ (Utf8.encode k).size ≤ 4 ∧
    ∀ n, 0 < n → n < (Utf8.encode k).size → decodeL ((Utf8.encode k).data.toList.take n) = (65533, 1) := by
  rw [Lib.size_eq]
  rcases enc_cases k hv with ⟨h, e⟩ | ⟨h1, h2, e⟩ | ⟨h1, h2, h3, e⟩ | ⟨h1, h2, e⟩
  · rw [e]
    refine ⟨?_, by simp, by simp, fun n a b => by simp at b; omega⟩
    rw [decodeL_N]
    simp only [List.getD_cons_zero, List.length_cons, List.length_nil]
    rw [ofNat_toNat k (by omega)]
    simp [decodeN, h]
  · rw [e]
    have e0 := ofNat_toNat (192 + k / 64) (by omega)
    have e1 := ofNat_toNat (128 + k % 64) (by omega)
    refine ⟨?_, by simp, by simp, fun n a b => ?_⟩
    · rw [decodeL_N]
      simp only [List.getD_cons_zero, List.getD_cons_succ, List.length_cons, List.length_nil]
      rw [e0, e1]
      unfold decodeN
      rw [if_neg (by omega), if_pos (by omega), if_pos (by omega)]
      simp; omega
    · obtain rfl : n = 1 := by simp at b; omega
      rw [decodeL_N]
      simp only [List.take_succ_cons, List.take_zero, List.getD_cons_zero, List.getD_cons_succ, List.length_cons, List.length_nil]
      rw [e0]
      exact decodeN_alone _ _ _ _ _ (by omega) (.inl (by omega))
  · rw [e]
    have e0 := ofNat_toNat (224 + k / 4096) (by omega)
    have e1 := ofNat_toNat (128 + k / 64 % 64) (by omega)
    have e2 := ofNat_toNat (128 + k % 64) (by omega)
    refine ⟨?_, by simp, by simp, fun n a b => ?_⟩
    · rw [decodeL_N]
      simp only [List.getD_cons_zero, List.getD_cons_succ, List.length_cons, List.length_nil]
      rw [e0, e1, e2]
      unfold decodeN
      rw [if_neg (by omega), if_neg (by omega), if_pos (by omega), if_pos (by omega)]
      simp; omega
    · have hn : n = 1 ∨ n = 2 := by simp at b; omega
      rcases hn with rfl | rfl
      · rw [decodeL_N]
        simp only [List.take_succ_cons, List.take_zero, List.getD_cons_zero, List.getD_cons_succ, List.length_cons, List.length_nil]
        rw [e0]
        exact decodeN_alone _ _ _ _ _ (by omega) (.inl (by omega))
      · rw [decodeL_N]
        simp only [List.take_succ_cons, List.take_zero, List.getD_cons_zero, List.getD_cons_succ, List.length_cons, List.length_nil]
        rw [e0, e1]
        unfold decodeN
        rw [if_neg (by omega), if_neg (by omega), if_neg (by omega), if_neg (by omega)]
  · rw [e]
    have e0 := ofNat_toNat (240 + k / 262144) (by omega)
    have e1 := ofNat_toNat (128 + k / 4096 % 64) (by omega)
    have e2 := ofNat_toNat (128 + k / 64 % 64) (by omega)
    have e3 := ofNat_toNat (128 + k % 64) (by omega)
    refine ⟨?_, by simp, by simp, fun n a b => ?_⟩
    · rw [decodeL_N]
      simp only [List.getD_cons_zero, List.getD_cons_succ, List.length_cons, List.length_nil]
      rw [e0, e1, e2, e3]
      unfold decodeN
      rw [if_neg (by omega), if_neg (by omega), if_neg (by omega), if_pos (by omega), if_pos (by omega)]
      simp; omega
    · have hn : n = 1 ∨ n = 2 ∨ n = 3 := by simp at b; omega
      rcases hn with rfl | rfl | rfl
      · rw [decodeL_N]
        simp only [List.take_succ_cons, List.take_zero, List.getD_cons_zero, List.getD_cons_succ, List.length_cons, List.length_nil]
        rw [e0]
        exact decodeN_alone _ _ _ _ _ (by omega) (.inl (by omega))
      · rw [decodeL_N]
        simp only [List.take_succ_cons, List.take_zero, List.getD_cons_zero, List.getD_cons_succ, List.length_cons, List.length_nil]
        rw [e0, e1]
        unfold decodeN
        rw [if_neg (by omega), if_neg (by omega), if_neg (by omega), if_neg (by omega)]
      · rw [decodeL_N]
        simp only [List.take_succ_cons, List.take_zero, List.getD_cons_zero, List.getD_cons_succ, List.length_cons, List.length_nil]
        rw [e0, e1, e2]
        unfold decodeN
        rw [if_neg (by omega), if_neg (by omega), if_neg (by omega), if_neg (by omega)]

/-- A code point's bytes are one unit. -/
theorem units_encode (k : Nat) (hv : Utf8.valid (k : Int) = true) : validD (Utf8.encode k).data.toList = true ∧ units 0 (Utf8.encode k).data.toList = [(0, (Utf8.encode k).size, (k : Int))] := by
  obtain ⟨hd, h1, _, _⟩ := decode_encode k hv
  have hne : (Utf8.encode k).data.toList ≠ [] := by
    intro h0
    have := congrArg List.length h0
    rw [← Lib.size_eq, List.length_nil] at this
    omega
  have hdrop : (Utf8.encode k).data.toList.drop (Utf8.encode k).size = [] := List.drop_eq_nil_of_le (by rw [← Lib.size_eq]; omega)
  have hbad : ¬ ((decodeL (Utf8.encode k).data.toList).1 = 65533 ∧ (decodeL (Utf8.encode k).data.toList).2 = 1) := by
    rw [hd]
    rintro ⟨e1, e2⟩
    dsimp only at e1 e2
    subst e1
    revert e2; decide
  constructor
  · rw [validD_step _ hne, if_neg hbad, hd]
    dsimp only
    rw [hdrop]; rfl
  · have hu : uBad (Utf8.encode k).data.toList = false := by simpa [uBad] using hbad
    rw [units_step _ _ hne]
    simp [uCode, hu, hd, hdrop, units_nil]

theorem valid_cut (k n : Nat) (hv : Utf8.valid (k : Int) = true) (h0 : 0 < n) (h1 : n < (Utf8.encode k).size) : validD ((Utf8.encode k).data.toList.take n) = false := by
  obtain ⟨_, _, _, hc⟩ := decode_encode k hv
  have hne : (Utf8.encode k).data.toList.take n ≠ [] := by
    intro h
    have := congrArg List.length h
    rw [List.length_take, ← Lib.size_eq, List.length_nil] at this
    omega
  rw [validD_step _ hne, if_pos]
  rw [hc n h0 h1]
  exact ⟨rfl, rfl⟩
end
section
open Go Go.Lib

/-- The codes' bytes, one behind the other. -/
def encL (cs : List Int) : List UInt8 := cs.flatMap fun c => (Utf8.encode c).data.toList
def textS (l : List It) : ByteArray := ⟨(encL (textC l)).toArray⟩
/-- A right text's codes. -/
def codesB (s : List UInt8) : Option (List Int) := if validD s then some ((units 0 s).map (·.2.2)) else none
def parseS (s : ByteArray) : Option (List It) := match codesB s.data.toList with
  | none => none
  | some cs => parseC cs
/-- A code point. -/
def Pt (c : Int) : Prop := Utf8.valid c = true

theorem valid_dec (l : List UInt8) : Utf8.valid ((decodeL l).1 : Int) = true := by
  have k0 := (l.getD 0 0).toNat_lt
  have k1 := (l.getD 1 0).toNat_lt
  have h : (decodeL l).1 < 55296 ∨ (57344 ≤ (decodeL l).1 ∧ (decodeL l).1 ≤ 1114111) := by
    rw [decodeL_N]
    rcases decodeN_shape l.length (l.getD 0 0).toNat (l.getD 1 0).toNat (l.getD 2 0).toNat (l.getD 3 0).toNat with ⟨c, e⟩ | ⟨c1, c2, c3, cv, e⟩ | ⟨c1, c2, c3, c4, cv, cs, e⟩ | ⟨c1, c2, c3, c4, c5, cv, cw, e⟩ | e
    all_goals (rw [e]; dsimp only; omega)
  simp [Utf8.valid]; omega
theorem units_any : ∀ (l : List UInt8) p q, (units p l).map (·.2.2) = (units q l).map (·.2.2) := by
  apply unit_ind
  · intro p q; rfl
  · intro l hne ih p q
    rw [units_step p l hne, units_step q l hne, List.map_cons, List.map_cons]
    rw [ih _ (q + (decodeL l).2)]
theorem units_pts : ∀ (l : List UInt8) p, validD l = true → ∀ c ∈ (units p l).map (·.2.2), Pt c := by
  apply unit_ind (C := fun l => ∀ p, validD l = true → ∀ c ∈ (units p l).map (·.2.2), Pt c)
  · intro p _ c hc; simp [units_nil] at hc
  · intro l hne ih p hv c hc
    rw [validD_step l hne] at hv
    by_cases hb : (decodeL l).1 = 65533 ∧ (decodeL l).2 = 1
    · rw [if_pos hb] at hv; cases hv
    · rw [if_neg hb] at hv
      rw [units_step p l hne, List.map_cons] at hc
      rcases List.mem_cons.1 hc with rfl | hc
      · have hu : uBad l = false := by simpa [uBad] using hb
        show Pt (uCode l)
        unfold uCode Pt
        rw [hu]
        exact valid_dec l
      · exact ih _ hv c hc
theorem codesB_says {s : List UInt8} {cs : List Int} (h : codesB s = some cs) : (∀ c ∈ cs, Pt c) ∧ cs.length ≤ s.length := by
  unfold codesB at h
  split at h
  · rename_i hv
    simp only [Option.some.injEq] at h
    subst h
    exact ⟨units_pts s 0 hv, by rw [List.length_map]; exact units_length_le s 0⟩
  · cases h
theorem pt_nat {c : Int} (h : Pt c) : ∃ k : Nat, c = k ∧ Utf8.valid (k : Int) = true := by
  have h0 : 0 ≤ c := by unfold Pt Utf8.valid at h; simp at h; omega
  obtain ⟨k, rfl⟩ := Int.eq_ofNat_of_zero_le h0
  exact ⟨k, rfl, h⟩
theorem codesB_enc : ∀ (cs : List Int), (∀ c ∈ cs, Pt c) → codesB (encL cs) = some cs
  | [], _ => rfl
  | c :: cs, h => by
    obtain ⟨k, rfl, hk⟩ := pt_nat (h c (List.mem_cons_self ..))
    have ih := codesB_enc cs fun x hx => h x (List.mem_cons_of_mem _ hx)
    obtain ⟨hv, hu⟩ := units_encode k hk
    have he : encL ((k : Int) :: cs) = (Utf8.encode k).data.toList ++ encL cs := by simp [encL]
    unfold codesB at ih ⊢
    split at ih
    · rename_i hv2
      simp only [Option.some.injEq] at ih
      rw [he, validD_append _ _ hv, if_pos hv2, units_append _ _ _ hv, hu, List.map_append, units_any _ _ 0, ih]
      rfl
    · cases ih
theorem enc_len (c : Int) : (Utf8.encode c).data.toList.length ≤ 4 := by
  unfold Utf8.encode
  dsimp only
  generalize (if Utf8.valid c = true then c.toNat else Utf8.runeError) = k
  by_cases h1 : k < 128
  · rw [if_pos h1]; exact (by decide : 1 ≤ 4)
  rw [if_neg h1]
  by_cases h2 : k < 2048
  · rw [if_pos h2]; exact (by decide : 2 ≤ 4)
  rw [if_neg h2]
  by_cases h3 : k < 65536
  · rw [if_pos h3]; exact (by decide : 3 ≤ 4)
  rw [if_neg h3]
  exact (by decide : 4 ≤ 4)
theorem encL_len : ∀ cs : List Int, (encL cs).length ≤ 4 * cs.length
  | [] => by simp [encL]
  | c :: cs => by
    have he : encL (c :: cs) = (Utf8.encode c).data.toList ++ encL cs := by simp [encL]
    have h1 := enc_len c
    have h2 := encL_len cs
    rw [he, List.length_append, List.length_cons]
    omega
/-- What is asked of items whose text is asked for. -/
structure Fit (l : List It) : Prop where
  good : ∀ it ∈ l, Good it
  pts : ∀ it ∈ l, ∀ c ∈ it.set, Pt c
  pos : 0 < l.length
  few : l.length ≤ 8
  sets : ∀ it ∈ l, it.set.length ≤ 1200
  text : (textC l).length ≤ 1200
theorem parseS_fit {s : ByteArray} {l : List It} (h : parseS s = some l) (hs : s.size ≤ 1200) : Fit l ∧ (textC l).length ≤ s.size := by
  unfold parseS at h
  split at h
  · cases h
  · rename_i cs hc
    obtain ⟨h1, h2⟩ := codesB_says hc
    obtain ⟨g1, g2, g3, g4⟩ := parseC_says h
    have hl : s.data.toList.length = s.size := (Lib.size_eq s).symm
    exact ⟨⟨fun it hit => (g1 it hit).1, fun it hit c hc => h1 c ((g1 it hit).2.1 c hc), g3, g4, fun it hit => by have := (g1 it hit).2.2; omega, by omega⟩, by omega⟩
/-- The text that items have is read as they. -/
theorem parseS_text {l : List It} (h : Fit l) : parseS (textS l) = some l ∧ (textS l).size ≤ 4 * (textC l).length := by
  have hp : ∀ c ∈ textC l, Pt c := textC_mem h.pts rfl rfl rfl rfl
  constructor
  · unfold parseS
    show (match codesB (encL (textC l)) with | none => none | some cs => parseC cs) = _
    rw [codesB_enc _ hp]
    exact parseC_text h.good h.pos h.few
  · show (encL (textC l)).toArray.size ≤ _
    rw [List.size_toArray]
    exact encL_len _
end
section
open Go Go.Lib

theorem enc_rune9 (k : Nat) (hv : Utf8.valid (k : Int) = true) : (Utf8.encode k).data.toList = encodeRune k := by
  unfold encodeRune
  rcases enc_cases k hv with ⟨h, e⟩ | ⟨h1, h2, e⟩ | ⟨h1, h2, h3, e⟩ | ⟨h1, h2, e⟩
  · rw [e, encodeRuneZ_one (by omega) (by omega)]
    rfl
  · rw [e, encodeRuneZ_two (by omega) (by omega)]
    simp only [List.map_cons, List.map_nil]
    rw [show ((192 : Int) + k / 64).toNat = 192 + k / 64 from by omega, show ((128 : Int) + k % 64).toNat = 128 + k % 64 from by omega]
  · rw [e, encodeRuneZ_three (by omega)]
    simp only [List.map_cons, List.map_nil]
    rw [show ((224 : Int) + k / 4096).toNat = 224 + k / 4096 from by omega, show ((128 : Int) + k / 64 % 64).toNat = 128 + k / 64 % 64 from by omega, show ((128 : Int) + k % 64).toNat = 128 + k % 64 from by omega]
  · rw [e, encodeRuneZ_four (by omega) (by omega)]
    simp only [List.map_cons, List.map_nil]
    rw [show ((240 : Int) + k / 262144).toNat = 240 + k / 262144 from by omega, show ((128 : Int) + k / 4096 % 64).toNat = 128 + k / 4096 % 64 from by omega, show ((128 : Int) + k / 64 % 64).toNat = 128 + k / 64 % 64 from by omega, show ((128 : Int) + k % 64).toNat = 128 + k % 64 from by omega]
theorem encL_units : ∀ (l : List UInt8) p, validD l = true → encL ((units p l).map (·.2.2)) = l := by
  apply unit_ind (C := fun l => ∀ p, validD l = true → encL ((units p l).map (·.2.2)) = l)
  · intro p _; rfl
  · intro l hne ih p hv
    rw [validD_step l hne] at hv
    by_cases hb : (decodeL l).1 = 65533 ∧ (decodeL l).2 = 1
    · rw [if_pos hb] at hv; cases hv
    · rw [if_neg hb] at hv
      have hu : uBad l = false := by simpa [uBad] using hb
      have hc : uCode l = ((decodeL l).1 : Int) := by simp [uCode, hu]
      rw [units_step p l hne, List.map_cons]
      show (Utf8.encode (uCode l)).data.toList ++ encL ((units _ _).map (·.2.2)) = l
      rw [ih _ hv, hc, enc_rune9 _ (valid_dec l), encode_decode _ hne hb, List.take_append_drop]
/-- A right text is its codes' bytes. -/
theorem encL_codesB {s : List UInt8} {cs : List Int} (h : codesB s = some cs) : encL cs = s := by
  unfold codesB at h
  split at h
  · rename_i hv
    simp only [Option.some.injEq] at h
    subst h
    exact encL_units s 0 hv
  · cases h
theorem encL_append (a b : List Int) : encL (a ++ b) = encL a ++ encL b := by simp [encL]
/-- A byte below 128 lies among the bytes as it lies among the codes. -/
theorem encL_mem {cs : List Int} (h : ∀ c ∈ cs, Pt c) {b : UInt8} (hb : b.toNat < 128) : b ∈ encL cs ↔ (b.toNat : Int) ∈ cs := by
  have one : ∀ c : Int, Pt c → (b ∈ (Utf8.encode c).data.toList ↔ (b.toNat : Int) = c) := by
    intro c hc
    obtain ⟨k, rfl, hk⟩ := pt_nat hc
    have key : ∀ n : Nat, n < 256 → (b = UInt8.ofNat n ↔ b.toNat = n) := fun n hn =>
      ⟨fun e => by rw [e]; exact ofNat_toNat n hn, fun e => by rw [← e]; simp⟩
    rcases enc_cases k hk with ⟨h, e⟩ | ⟨h1, h2, e⟩ | ⟨h1, h2, h3, e⟩ | ⟨h1, h2, e⟩
    · rw [e, List.mem_singleton, key k (by omega)]; omega
    · rw [e]
      simp only [List.mem_cons, List.not_mem_nil, or_false]
      rw [key _ (by omega), key _ (by omega)]; omega
    · rw [e]
      simp only [List.mem_cons, List.not_mem_nil, or_false]
      rw [key _ (by omega), key _ (by omega), key _ (by omega)]; omega
    · have hk2 : k ≤ 1114111 := by unfold Utf8.valid at hk; simp at hk; omega
      rw [e]
      simp only [List.mem_cons, List.not_mem_nil, or_false]
      rw [key _ (by omega), key _ (by omega), key _ (by omega), key _ (by omega)]; omega
  unfold encL
  rw [List.mem_flatMap]
  constructor
  · rintro ⟨c, hc, hbc⟩
    rw [(one c (h c hc)).1 hbc]; exact hc
  · intro hc
    exact ⟨_, hc, (one _ (h _ hc)).2 rfl⟩

/-! ### Any items' text -/
def ptB (c : Int) : List UInt8 := if Utf8.valid c = true then (Utf8.encode c).data.toList else []
def ptL (cs : List Int) : List UInt8 := cs.flatMap ptB
/-- The text that reads as l; none: empty. -/
def textG (l : List It) : ByteArray := if parseS ⟨(ptL (textC l)).toArray⟩ = some l then ⟨(ptL (textC l)).toArray⟩ else ⟨#[]⟩
theorem ptL_enc : ∀ {cs : List Int}, (∀ c ∈ cs, Pt c) → ptL cs = encL cs
  | [], _ => rfl
  | c :: cs, h => by
    have ih := ptL_enc (cs := cs) fun x hx => h x (List.mem_cons_of_mem _ hx)
    have hc : Utf8.valid c = true := h c (List.mem_cons_self ..)
    show ptB c ++ ptL cs = (Utf8.encode c).data.toList ++ encL cs
    rw [ih]
    unfold ptB
    rw [if_pos hc]
theorem textG_fit {l : List It} (h : Fit l) : textG l = textS l := by
  have hp : ∀ c ∈ textC l, Pt c := textC_mem h.pts rfl rfl rfl rfl
  unfold textG
  rw [ptL_enc hp]
  exact if_pos (parseS_text h).1
end
section
open Go Go.Lib

/-! ### Words -/
def wordsL : List UInt8 → List (List UInt8)
  | [] => [[]]
  | b :: r => if b = 32 then [] :: wordsL r else match wordsL r with
    | [] => [[b]]
    | h :: t => (b :: h) :: t
theorem wordsL_cons (b : UInt8) (r : List UInt8) : wordsL (b :: r) = if b = 32 then [] :: wordsL r else match wordsL r with
    | [] => [[b]]
    | h :: t => (b :: h) :: t := rfl
theorem wordsL_ne : ∀ l, wordsL l ≠ []
  | [] => by simp [wordsL]
  | b :: r => by
    unfold wordsL
    split
    · simp
    · split <;> simp
/-- A word ahead of a blank. -/
theorem wordsL_app : ∀ (a r : List UInt8), (32 : UInt8) ∉ a → wordsL (a ++ 32 :: r) = a :: wordsL r
  | [], r, _ => by simp [wordsL]
  | b :: a, r, h => by
    have hb : b ≠ 32 := fun e => h (by rw [e]; exact List.mem_cons_self ..)
    have ih := wordsL_app a r fun e => h (List.mem_cons_of_mem _ e)
    show wordsL (b :: (a ++ 32 :: r)) = _
    rw [wordsL_cons, if_neg hb, ih]
theorem wordsL_one : ∀ (a : List UInt8), (32 : UInt8) ∉ a → wordsL a = [a]
  | [], _ => rfl
  | b :: a, h => by
    have hb : b ≠ 32 := fun e => h (by rw [e]; exact List.mem_cons_self ..)
    have ih := wordsL_one a fun e => h (List.mem_cons_of_mem _ e)
    rw [wordsL_cons, if_neg hb, ih]
theorem wordsL_mem : ∀ (l : List UInt8) w, w ∈ wordsL l → (32 : UInt8) ∉ w ∧ w.length ≤ l.length
  | [], w, h => by
    simp [wordsL] at h
    subst h
    simp
  | b :: r, w, h => by
    unfold wordsL at h
    split at h
    · rcases List.mem_cons.1 h with rfl | h
      · simp
      · obtain ⟨h1, h2⟩ := wordsL_mem r w h
        exact ⟨h1, by rw [List.length_cons]; omega⟩
    · rename_i hb
      split at h
      · rename_i he; exact absurd he (wordsL_ne r)
      · rename_i x t he
        rcases List.mem_cons.1 h with rfl | h
        · obtain ⟨h1, h2⟩ := wordsL_mem r x (by rw [he]; exact List.mem_cons_self ..)
          refine ⟨fun e => ?_, by rw [List.length_cons, List.length_cons]; omega⟩
          rcases List.mem_cons.1 e with e | e
          · exact hb e.symm
          · exact h1 e
        · obtain ⟨h1, h2⟩ := wordsL_mem r w (by rw [he]; exact List.mem_cons_of_mem _ h)
          exact ⟨h1, by rw [List.length_cons]; omega⟩

/-! ### Rules -/
structure Ru where
  pre : Bool
  flag : Int
  cross : Bool
  strip : ByteArray
  add : ByteArray
  cond : List It
deriving DecidableEq
def ru0 : Ru := ⟨false, 0, false, ⟨#[]⟩, ⟨#[]⟩, []⟩
/-- A letter's number; 0: it is none. -/
def flagL : List UInt8 → Int
  | [b] => if (97 ≤ b.toNat ∧ b.toNat ≤ 122) ∨ (65 ≤ b.toNat ∧ b.toNat ≤ 90) then (b.toNat : Int) else 0
  | _ => 0
/-- What is taken away, what is put there. -/
def partL (w : List UInt8) : Option ByteArray := if w = [48] then some ⟨#[]⟩ else if w ≠ [] ∧ w.length ≤ 20 ∧ validD w = true then some ⟨w.toArray⟩ else none
def pfx : List UInt8 := [80, 70, 88]
def sfx : List UInt8 := [83, 70, 88]
def parse6 (a f c x y z : List UInt8) : Option Ru :=
  if (a = pfx ∨ a = sfx) ∧ flagL f ≠ 0 ∧ (c = [89] ∨ c = [78]) then
    match partL x, partL y, parseS ⟨z.toArray⟩ with
    | some u, some v, some l => some ⟨decide (a = pfx), flagL f, decide (c = [89]), u, v, l⟩
    | _, _, _ => none
  else none
def parseR (s : ByteArray) : Option Ru :=
  match wordsL s.data.toList with
  | [a, f, c, x, y, z] => parse6 a f c x y z
  | _ => none
def or0L (s : ByteArray) : List UInt8 := if s.data.toList = [] then [48] else s.data.toList
/-- A rule's line, its condition's text t. -/
def lineL (r : Ru) (t : List UInt8) : List UInt8 :=
  (if r.pre then pfx else sfx) ++ 32 :: ([UInt8.ofNat r.flag.toNat] ++ 32 :: ((if r.cross then [89] else [78]) ++ 32 :: (or0L r.strip ++ 32 :: (or0L r.add ++ 32 :: t))))
theorem flagL_says {w : List UInt8} (h : flagL w ≠ 0) : w = [UInt8.ofNat (flagL w).toNat] ∧ (32 : UInt8) ∉ w ∧ 0 < flagL w ∧ flagL w ≤ 127 := by
  match w, h with
  | [], h => exact absurd rfl h
  | _ :: _ :: _, h => exact absurd rfl h
  | [b], h =>
    have hd : flagL [b] = if (97 ≤ b.toNat ∧ b.toNat ≤ 122) ∨ (65 ≤ b.toNat ∧ b.toNat ≤ 90) then (b.toNat : Int) else 0 := rfl
    rw [hd] at h ⊢
    by_cases hb : (97 ≤ b.toNat ∧ b.toNat ≤ 122) ∨ (65 ≤ b.toNat ∧ b.toNat ≤ 90)
    · rw [if_pos hb]
      have hlt := b.toNat_lt
      refine ⟨by simp, ?_, by omega, by omega⟩
      simp only [List.mem_singleton]
      intro e
      rw [← e] at hb
      simp at hb
    · rw [if_neg hb] at h
      exact absurd rfl h
theorem partL_says {w : List UInt8} {u : ByteArray} (h : partL w = some u) (hw : (32 : UInt8) ∉ w) : partL (or0L u) = some u ∧ (32 : UInt8) ∉ or0L u ∧ u.size ≤ 20 := by
  unfold partL at h
  split at h
  · simp only [Option.some.injEq] at h
    subst h
    exact ⟨rfl, by decide, by decide⟩
  · rename_i h48
    split at h
    · rename_i hc
      simp only [Option.some.injEq] at h
      subst h
      have ho : or0L ⟨w.toArray⟩ = w := by unfold or0L; rw [if_neg (by simpa using hc.1)]
      rw [ho]
      refine ⟨?_, hw, by show w.toArray.size ≤ 20; simpa using hc.2.1⟩
      unfold partL
      rw [if_neg h48, if_pos hc]
    · cases h
/-- What is read has a line that is read as that. -/
theorem parseR_back {s : ByteArray} {r : Ru} (h : parseR s = some r) (hs : s.size ≤ 1200) :
    parseR ⟨(lineL r (textS r.cond).data.toList).toArray⟩ = some r ∧ 0 < r.flag ∧ r.flag ≤ 127 ∧ Fit r.cond ∧ r.strip.size ≤ 20 ∧ r.add.size ≤ 20 ∧ (textC r.cond).length ≤ s.size := by
  unfold parseR at h
  split at h
  · rename_i a f c x y z hw
    have hmem : ∀ w ∈ [a, f, c, x, y, z], (32 : UInt8) ∉ w ∧ w.length ≤ s.data.toList.length := fun w hw' => wordsL_mem _ w (by rw [hw]; exact hw')
    unfold parse6 at h
    split at h
    · rename_i hc
      split at h
      · rename_i u v l hx hy hz
        simp only [Option.some.injEq] at h
        subst h
        obtain ⟨hf1, hf2, hf3, hf4⟩ := flagL_says hc.2.1
        obtain ⟨hx1, hx2, hx3⟩ := partL_says hx (hmem x (by simp)).1
        obtain ⟨hy1, hy2, hy3⟩ := partL_says hy (hmem y (by simp)).1
        have hzl := (hmem z (by simp)).2
        have hsl : s.data.toList.length = s.size := (Lib.size_eq s).symm
        have hzs : (⟨z.toArray⟩ : ByteArray).size ≤ 1200 := by show z.toArray.size ≤ 1200; rw [List.size_toArray]; omega
        obtain ⟨hfit, htx⟩ := parseS_fit hz hzs
        have hzz : (⟨z.toArray⟩ : ByteArray).size = z.length := by show z.toArray.size = _; rw [List.size_toArray]
        refine ⟨?_, hf3, hf4, hfit, hx3, hy3, by dsimp only; omega⟩
        -- the condition's text has no blank
        have hnb : (32 : UInt8) ∉ (textS l).data.toList := by
          unfold parseS at hz
          split at hz
          · cases hz
          · rename_i cs hcs
            have hpt := (codesB_says hcs).1
            have he := encL_codesB hcs
            have hz32 : (32 : Int) ∉ cs := fun hm => (hmem z (by simp)).1 (by
              have := (encL_mem hpt (b := 32) (by decide)).2 hm
              rw [he] at this
              exact this)
            have hall := (parseC_says hz).1
            intro hm
            have hpc : ∀ c ∈ textC l, Pt c := textC_mem hfit.pts rfl rfl rfl rfl
            have h1 := (encL_mem hpc (b := 32) (by decide)).1 hm
            exact textC_mem (P := fun c => c ≠ 32) (fun it hit c hc e => hz32 (e ▸ (hall it hit).2.1 c hc)) (by decide) (by decide) (by decide) (by decide) _ h1 rfl
        have hpre : (32 : UInt8) ∉ (if decide (a = pfx) = true then pfx else sfx) := by split <;> decide
        have hcr : (32 : UInt8) ∉ (if decide (c = [89]) = true then [89] else [78] : List UInt8) := by split <;> decide
        have hfl : (32 : UInt8) ∉ [UInt8.ofNat (flagL f).toNat] := by rw [← hf1]; exact hf2
        unfold parseR lineL
        dsimp only
        rw [wordsL_app _ _ hpre, wordsL_app _ _ hfl, wordsL_app _ _ hcr, wordsL_app _ _ hx2, wordsL_app _ _ hy2, wordsL_one _ hnb]
        dsimp only
        have ha : (if decide (a = pfx) = true then pfx else sfx) = a := by
          rcases hc.1 with e | e
          · rw [e]; simp
          · rw [e]; decide
        have hcc : (if decide (c = [89]) = true then [89] else [78] : List UInt8) = c := by
          rcases hc.2.2 with e | e
          · rw [e]; simp
          · rw [e]; decide
        rw [ha, hcc, ← hf1]
        unfold parse6
        rw [if_pos hc, hx1, hy1, show (⟨((textS l).data.toList).toArray⟩ : ByteArray) = textS l by simp, (parseS_text hfit).1]
      · cases h
    · cases h
  · cases h

/-! ### A rule's text; what comes of a word -/
def textR (r : Ru) : ByteArray :=
  if 0 ≤ r.flag ∧ r.flag ≤ 127 ∧ parseR ⟨(lineL r (textG r.cond).data.toList).toArray⟩ = some r then ⟨(lineL r (textG r.cond).data.toList).toArray⟩ else ⟨#[]⟩
/-- What comes of a word by a rule; empty: nothing. -/
def applyR (r : Ru) (w : ByteArray) : ByteArray :=
  match codesB w.data.toList with
  | none => ⟨#[]⟩
  | some cs =>
    if r.pre then
      if r.strip.size ≤ w.size ∧ w.extract 0 r.strip.size = r.strip ∧ startsP r.cond cs = true then r.add ++ w.extract r.strip.size w.size else ⟨#[]⟩
    else if r.strip.size ≤ w.size ∧ w.extract (w.size - r.strip.size) w.size = r.strip ∧ endsP r.cond cs = true then w.extract 0 (w.size - r.strip.size) ++ r.add else ⟨#[]⟩
def bothR (p s : Ru) (w : ByteArray) : ByteArray :=
  if p.pre = true ∧ s.pre = false ∧ p.cross = true ∧ s.cross = true ∧ (applyR p w).size ≠ 0 ∧ (applyR s w).size ≠ 0 ∧ p.strip.size + s.strip.size ≤ w.size then
    p.add ++ w.extract p.strip.size (w.size - s.strip.size) ++ s.add
  else ⟨#[]⟩
theorem textR_back {s : ByteArray} {r : Ru} (h : parseR s = some r) (hs : s.size ≤ 1200) : textR r = ⟨(lineL r (textS r.cond).data.toList).toArray⟩ ∧ parseR (textR r) = some r := by
  obtain ⟨h1, h2, h3, h4, _⟩ := parseR_back h hs
  have ht : textR r = ⟨(lineL r (textS r.cond).data.toList).toArray⟩ := by
    unfold textR
    rw [textG_fit h4]
    exact if_pos ⟨by omega, h3, h1⟩
  exact ⟨ht, ht ▸ h1⟩
end
section
open Go Go.RowKit

/-- W' is W, but for blocks of T and for what is new. -/
structure OnlyAt (T : Nat → Prop) (W W' : World) : Prop where
  os : W'.os = W.os
  tape : W'.tape = W.tape
  output : W'.output = W.output
  size : W.heap.size ≤ W'.heap.size
  block : ∀ k, k < W.heap.size → ¬ T k → W'.heap[k]? = W.heap[k]?

theorem OnlyAt.refl (T : Nat → Prop) (W : World) : OnlyAt T W W := ⟨rfl, rfl, rfl, Nat.le_refl _, fun _ _ _ => rfl⟩
theorem OnlyAt.trans {T : Nat → Prop} {A B C : World} (h : OnlyAt T A B) (k : OnlyAt T B C) : OnlyAt T A C :=
  ⟨k.os.trans h.os, k.tape.trans h.tape, k.output.trans h.output, Nat.le_trans h.size k.size, fun i hi ht => (k.block i (Nat.lt_of_lt_of_le hi h.size) ht).trans (h.block i hi ht)⟩
theorem OnlyAt.mono {T T' : Nat → Prop} {A B : World} (h : OnlyAt T A B) (ht : ∀ k, T k → T' k) : OnlyAt T' A B :=
  ⟨h.os, h.tape, h.output, h.size, fun i hi hn => h.block i hi (fun hh => hn (ht i hh))⟩
theorem OnlyAt.alloc (T : Nat → Prop) (W : World) (o : Obj) : OnlyAt T W (W.alloc o) := ⟨rfl, rfl, rfl, by simp, fun k hk _ => Below.heap_alloc _ _ _ hk⟩
theorem OnlyAt.drew (T : Nat → Prop) (W : World) : OnlyAt T W W.drew := ⟨rfl, rfl, rfl, Nat.le_refl _, fun _ _ _ => rfl⟩
theorem OnlyAt.putObj {T : Nat → Prop} (W : World) (l : Nat) (o : Obj) (h : T l) : OnlyAt T W (W.putObj l o) :=
  ⟨rfl, rfl, rfl, by simp, fun k _ hn => World.putObj_heap_other (fun e => hn (by rw [e]; exact h))⟩
theorem OnlyAt.setCell {T : Nat → Prop} (W : World) (p : Addr) (v : Value) (h : T p.block) : OnlyAt T W (W.setCell p v) :=
  ⟨rfl, rfl, rfl, by simp [World.setCell], fun k _ hn => Below.heap_setCell _ _ _ _ (fun e => hn (by rw [e]; exact h))⟩
theorem OnlyAt.of_below {T : Nat → Prop} {W W' : World} (h : Below W.heap.size W W') : OnlyAt T W W' :=
  ⟨h.os, h.tape, h.output, h.size, fun k hk _ => h.block k hk⟩
theorem OnlyAt.below {T : Nat → Prop} {B : Nat} {a W W' : World} (hb : Below B a W) (h : OnlyAt T W W') (hB : B ≤ W.heap.size) (ht : ∀ k, T k → B ≤ k) : Below B a W' :=
  hb.trans ⟨h.os, h.tape, h.output, h.size, fun k hk => h.block k (by omega) (fun hh => by have := ht k hh; omega)⟩
theorem OnlyAt.of_grown {T : Nat → Prop} {W W' : World} {row : Option Nat} (hg : W.grownBy W' row) (hr : ∀ k, row = some k → T k) : OnlyAt T W W' :=
  ⟨hg.os, hg.tape, hg.output, hg.size, fun k hk hn => hg.block k hk (fun e => hn (hr k e.symm))⟩

/-- Blocks of T lie as they lay. -/
structure KeepsAt (T : Nat → Prop) (W W' : World) : Prop where
  size : W.heap.size ≤ W'.heap.size
  block : ∀ k, k < W.heap.size → T k → W'.heap[k]? = W.heap[k]?
theorem KeepsAt.refl (T : Nat → Prop) (W : World) : KeepsAt T W W := ⟨Nat.le_refl _, fun _ _ _ => rfl⟩
theorem KeepsAt.trans {T : Nat → Prop} {A B C : World} (h : KeepsAt T A B) (k : KeepsAt T B C) : KeepsAt T A C :=
  ⟨Nat.le_trans h.size k.size, fun i hi ht => (k.block i (Nat.lt_of_lt_of_le hi h.size) ht).trans (h.block i hi ht)⟩
theorem KeepsAt.mono {T T' : Nat → Prop} {A B : World} (h : KeepsAt T A B) (ht : ∀ k, T' k → T k) : KeepsAt T' A B := ⟨h.size, fun i hi hn => h.block i hi (ht i hn)⟩
theorem KeepsAt.of_only {S T : Nat → Prop} {A B : World} (h : OnlyAt S A B) (hd : ∀ k, T k → ¬ S k) : KeepsAt T A B := ⟨h.size, fun k hk ht => h.block k hk (hd k ht)⟩

/-- What is said bears the turn of blocks of T, and T may go over to blocks that are new. -/
def Stab {β : Type} (I : (Nat → Prop) → β → World → Prop) : Prop :=
  ∀ T T' s W W', I T s W → OnlyAt T W W' → (∀ k, T' k → T k ∨ (W.heap.size ≤ k ∧ k < W'.heap.size)) → I T' s W'
theorem Stab.same {β : Type} {I : (Nat → Prop) → β → World → Prop} (h : Stab I) {T : Nat → Prop} {s : β} {W W' : World} (hs : I T s W) (ho : OnlyAt T W W') : I T s W' := h T T s W W' hs ho (fun _ hk => .inl hk)

/-- **The contract of an iterator whose rounds always go on: it hands over xs, one behind the other.** R: what it reads; T: what it has laid and still wants. -/
def Gives {α : Type} (P : Program) (g : Nat) (lb : Array Value) (encs : α → Array Value) (xs : List α) (R : Nat → Prop) (W : World) : Prop :=
  ∀ (l : Nat) (J : (Nat → Prop) → List α → World → Prop), Stab J →
    (∀ T pre x W1, (pre ++ [x]) <+: xs → J T pre W1 → YieldAt Fence.wide 0 P l (encs x) W1 fun e W2 => e = .returned (.bool true) ∧ J T (pre ++ [x]) W2 ∧ KeepsAt (fun k => R k ∨ T k) W1 W2) →
    J (fun _ => False) [] W →
    Calls P g (#[.func (.yield l) #[] #[]] ++ lb) W fun e W' => (∃ v, e = .returned v) ∧ ∃ T, J T xs W'

theorem RoundIn.wideIn {n m l0 l : Nat} {P : Program} {f : FuncId} {tmps : Array Value} {assign body : Code} {w : World} {R : Ending → World → Prop} (h : RoundIn Fence.wide n P l f tmps assign body w R) :
    RoundIn (Fence.wide.inRound l0) m P l f tmps assign body w R := ⟨h.1, fun c cs _ => h.2 c cs (room_wide _)⟩
theorem RoundIn.wideOut {n m l : Nat} {P : Program} {f : FuncId} {tmps : Array Value} {assign body : Code} {w : World} {R : Ending → World → Prop} (h : RoundIn Fence.wide n P l f tmps assign body w R) :
    RoundIn Fence.wide m P l f tmps assign body w R := ⟨h.1, fun c cs _ => h.2 c cs (room_wide _)⟩

/-- A new block, written at once. -/
theorem alloc_set (w : World) (cs : Array Value) (t : TypeId) (i : Nat) (v : Value) : (w.alloc (.cells cs t)).setCell ⟨w.heap.size, i, none⟩ v = w.alloc (.cells (cs.setIfInBounds i v) t) := by
  unfold World.setCell World.alloc
  simp only
  congr 1
  apply Array.ext (by simp)
  intro j h1 h2
  simp only [Array.getElem_modify, Array.getElem_push]
  split
  · rename_i h; subst h; simp
  · rename_i h; simp at h1
    rw [dif_pos (by omega)]
    rw [dif_pos (by omega)]

variable {P : Program} {n : Nat}

/-- **'for .. := range g': out of g's contract, the body walked once.** -/
theorem wpIn_gives {α : Type} {g : Operand} {ps : Array Tmp} {assign body : Code} {Q : Exit → Act → World → Prop} {a : Act} {w : World}
    {gf : Nat} {lb : Array Value} (hg : a.eval g = .func (.func gf) #[] lb) (eg : ∀ args w, (callFunc gf args).run P w = .ok (.enter gf args) w) (h1 : 1 ≤ n)
    {encs : α → Array Value} {xs : List α} {R : Nat → Prop} (hseq : ∀ W1, OnlyAt (fun _ => False) w W1 → Gives P gf lb encs xs R W1) (hps : ∀ x, (encs x).size = ps.size) (hR : ∀ k, R k → k < w.heap.size)
    (I : (Nat → Prop) → List α → World → Prop) (hI : Stab I) (h0 : I (fun _ => False) [] w)
    (Ax : (Nat → Prop) → List α → α → Act → World → Prop) (hAx : ∀ pre x a', Stab (fun T (_ : Unit) W => Ax T pre x a' W))
    (hassign : ∀ (l : Nat) (T : Nat → Prop) (pre : List α) (x : α) (W : World) (K : Act → World → Prop), (pre ++ [x]) <+: xs → I T pre W → (∀ k, T k → k < W.heap.size) →
      (∀ a' W', OnlyAt (fun _ => False) W W' → Ax T pre x a' W' → K a' W') →
      assign.wpIn (Fence.wide.inRound l) n P (Exit.then K (fun _ _ _ => False)) { tmps := (ps.zip (encs x)).foldl (fun t (p, v) => t.setIfInBounds p v) a.tmps, defers := [] } W)
    (hbody : ∀ (l : Nat) (T : Nat → Prop) (pre : List α) (x : α) (a' : Act) (W : World), (pre ++ [x]) <+: xs → Ax T pre x a' W → (∀ k, T k → k < W.heap.size) →
      body.wpIn (Fence.wide.inRound l) n P (fun e _ W' => e = .normal ∧ I T (pre ++ [x]) W' ∧ KeepsAt (fun k => R k ∨ T k) W W') a' W)
    (hdone : ∀ (D : Nat) (T : Nat → Prop) (W : World), w.heap.size ≤ D → T D → I T xs W → W.heap[D]? = some (.deferred (some [])) → Q .normal { a with defers := { target := .collected D, args := #[] } :: a.defers } W) :
    (Code.rangeFunc g ps assign body).wpIn Fence.wide n P Q a w := by
  refine wpIn_rangeFunc ?_
  intro fn hfn
  rw [show Fence.wide.round = none from rfl]
  obtain ⟨rec, hrec⟩ : ∃ rec : LoopState → Option Code → Loop, rec = fun st pe => { state := st, pending := pe, fn, tmps := a.tmps, params := ps, assign, body, defers := w.heap.size } := ⟨_, rfl⟩
  obtain ⟨W1, hW1⟩ : ∃ W1, (w.alloc (.deferred (some []))).alloc (.loop (rec .ready none)) = W1 := ⟨_, rfl⟩
  obtain ⟨D, hD⟩ : ∃ D, D = w.heap.size := ⟨_, rfl⟩
  obtain ⟨l, hl⟩ : ∃ l, l = w.heap.size + 1 := ⟨_, rfl⟩
  have hDl : D ≠ l := by omega
  have hs1 : W1.heap.size = w.heap.size + 2 := by rw [← hW1]; simp
  have hL1 : W1.heap[l]? = some (.loop (rec .ready none)) := by
    rw [← hW1, hl]; have := World.alloc_heap_new (w.alloc (.deferred (some []))) (.loop (rec .ready none)); rwa [World.size_alloc] at this
  have hK1 : W1.heap[D]? = some (.deferred (some [])) := by
    rw [← hW1, hD]; exact (Below.heap_alloc _ _ _ (by simp)).trans (World.alloc_heap_new w _)
  have ho1 : OnlyAt (fun _ => False) w W1 := by rw [← hW1]; exact (OnlyAt.alloc _ _ _).trans (OnlyAt.alloc _ _ _)
  refine ⟨l, [{ target := .collected D, args := #[] }], W1, { target := .fn (.func gf) lb, args := #[.func (.yield l) #[] #[]] }, W1, gf,
    #[.func (.yield l) #[] #[]] ++ lb, W1, ?_, ?_, ?_, ?_, fun _ => h1, ?_⟩
  · rw [← hW1, hrec, hl, hD]; exact run_enterLoop_outer _ _ _ _ _
  · simp only [resolve, hg]
    simp [go_sem]
  · intro f' _; trivial
  · simp [invoke, go_sem, eg]
  · refine callsIn_wide.2 ?_
    refine (hseq W1 ho1 l (fun T pre W => I (fun k => T k ∨ k = D ∨ k = l) pre W ∧ (W.heap[l]? = some (.loop (rec .ready none)) ∧ W.heap[D]? = some (.deferred (some []))) ∧ (¬ T l ∧ ¬ T D) ∧ ∀ k, T k → k < W.heap.size) ?_ ?_ ?_).mono ?_
    · -- it bears the iterator's own steps
      rintro T T' s A B ⟨hi, ⟨hl', hk'⟩, ⟨hnl, hnd⟩, hlt⟩ ho ht
      have hlA : l < A.heap.size := (Array.getElem?_eq_some_iff.1 hl').1
      have hDA : D < A.heap.size := (Array.getElem?_eq_some_iff.1 hk').1
      refine ⟨hI _ _ s A B hi (ho.mono (fun k h => .inl h)) ?_, ⟨(ho.block _ hlA hnl).trans hl', (ho.block _ hDA hnd).trans hk'⟩, ⟨fun h => ?_, fun h => ?_⟩, fun k hk => ?_⟩
      · rintro k (hk | hk)
        · rcases ht k hk with h | h
          · exact .inl (.inl h)
          · exact .inr h
        · exact .inl (.inr hk)
      · rcases ht _ h with h | h
        · exact hnl h
        · omega
      · rcases ht _ h with h | h
        · exact hnd h
        · omega
      · rcases ht k hk with h | h
        · have := hlt k h; have := ho.size; omega
        · exact h.2
    · -- one round
      rintro T pre x W hpre ⟨hi, ⟨hl', hk'⟩, ⟨hnl, hnd⟩, hlt⟩
      have hlW : l < W.heap.size := (Array.getElem?_eq_some_iff.1 hl').1
      have hDW : D < W.heap.size := (Array.getElem?_eq_some_iff.1 hk').1
      have hTW : ∀ k, (T k ∨ k = D ∨ k = l) → k < W.heap.size := by
        rintro k (hk | rfl | rfl)
        · exact hlt k hk
        · exact hDW
        · exact hlW
      have hy := run_yield (P := P) (args := encs x) hl' (by rw [hrec]; exact hps x)
      rw [hrec] at hy
      refine ⟨fn, _, assign, body, hy, RoundIn.wideOut (n := n) (roundIn_of_wpIn hfn (hassign l _ pre x W _ hpre hi hTW ?_))⟩
      clear hy
      intro a' Wa hoa hax
      have hla : Wa.heap[l]? = some (.loop (rec .ready none)) := (hoa.block _ hlW id).trans hl'
      have hka : Wa.heap[D]? = some (.deferred (some [])) := (hoa.block _ hDW id).trans hk'
      have hlWa : l < Wa.heap.size := (Array.getElem?_eq_some_iff.1 hla).1
      refine ⟨_, run_beginRound hla (by rw [hrec]), ?_⟩
      have hob : OnlyAt (fun k => T k ∨ k = D ∨ k = l) Wa (Wa.putObj l (.loop { rec .ready none with state := .busy })) := OnlyAt.putObj _ _ _ (.inr (.inr rfl))
      have hlb : (Wa.putObj l (.loop { rec .ready none with state := .busy })).heap[l]? = some (.loop { rec .ready none with state := .busy }) := World.putObj_heap_same hlWa
      have hkb : (Wa.putObj l (.loop { rec .ready none with state := .busy })).heap[D]? = some (.deferred (some [])) := (World.putObj_heap_other hDl).trans hka
      refine wpIn_mono (hbody l _ pre x a' _ hpre ((hAx pre x a').same (s := ()) hax hob) (fun k hk => Nat.lt_of_lt_of_le (hTW k hk) (Nat.le_trans hoa.size hob.size))) ?_
      rintro e a3 W3 ⟨rfl, hi3, hk3⟩
      have hlb' := (Array.getElem?_eq_some_iff.1 hlb).1
      have hkb' := (Array.getElem?_eq_some_iff.1 hkb).1
      have hl3 : W3.heap[l]? = some (.loop { rec .ready none with state := .busy }) := (hk3.block _ hlb' (.inr (.inr (.inr rfl)))).trans hlb
      have hd3 : W3.heap[D]? = some (.deferred (some [])) := (hk3.block _ hkb' (.inr (.inr (.inl rfl)))).trans hkb
      have hl3' := (Array.getElem?_eq_some_iff.1 hl3).1
      have hr := run_endRound (P := P) none hl3
      rw [hrec] at hr
      have hoe : OnlyAt (fun k => T k ∨ k = D ∨ k = l) W3 (W3.putObj l (.loop (rec .ready none))) := OnlyAt.putObj _ _ _ (.inr (.inr rfl))
      refine ⟨_, _, hr, rfl, ?_⟩
      rw [hrec] at hoe
      refine ⟨⟨hI.same hi3 hoe, ⟨?_, (World.putObj_heap_other hDl).trans hd3⟩, ⟨hnl, hnd⟩, fun k hk => ?_⟩, ?_⟩
      · rw [hrec]; exact World.putObj_heap_same hl3'
      · exact Nat.lt_of_lt_of_le (hlt k hk) (Nat.le_trans hoa.size (Nat.le_trans hob.size (Nat.le_trans hk3.size hoe.size)))
      · refine ⟨Nat.le_trans hoa.size (Nat.le_trans hob.size (Nat.le_trans hk3.size hoe.size)), fun k hk hrt => ?_⟩
        have hkl : k ≠ l := by
          rintro rfl
          rcases hrt with h | h
          · have := hR _ h; omega
          · exact hnl h
        refine (World.putObj_heap_other hkl).trans ((hk3.block k ?_ ?_).trans ((World.putObj_heap_other hkl).trans (hoa.block k hk id)))
        · exact Nat.lt_of_lt_of_le hk (Nat.le_trans hoa.size hob.size)
        · rcases hrt with h | h
          · exact .inl h
          · exact .inr (.inl h)
    · refine ⟨hI _ _ [] w W1 h0 ho1 ?_, ⟨hL1, hK1⟩, ⟨id, id⟩, fun _ h => h.elim⟩
      rintro k (h | rfl | rfl)
      · exact h.elim
      · right; omega
      · right; omega
    · -- behind the iterator
      rintro e W2 ⟨⟨v, rfl⟩, T, hi, ⟨hl', hk'⟩, ⟨hnl, hnd⟩, hlt⟩
      refine ⟨none, _, by have := run_endLoop (P := P) hl' (by rw [hrec]; simp); rw [hrec] at this; exact this, ?_⟩
      exact hdone D _ _ (by omega) (.inr (.inl rfl)) (hI.same hi (OnlyAt.putObj _ _ _ (.inr (.inr rfl)))) ((World.putObj_heap_other hDl).trans hk')
end
section
open Go Go.RowKit

/-- Where a row that has grown lies. -/
theorem append_where {P : Program} (w : World) (base : Nat) (t ty e : TypeId) (i : TypeInfo) (z : Value) (size bytes : Nat) (ht : P.underlying t = some (.slice e)) (hi : P.info? e = some i) (hz : i.zero = some z)
    (hsize : i.size = size) (hby : i.bytes = bytes) (hzs : z.cells.size = size) (hsz : 0 < size)
    (v : Value) (n : Nat) (xs : List Value) (hown : w.ownsRow base e size v n xs)
    (a : Addr) (m c : Nat) (news : List Value) (hl : news.length = m * size) (hnews : ∀ j u, news[j]? = some u → w.cell? (a.add j) = some u) (h1 : ∀ u ∈ news, u.oneCell' = true)
    (h63 : n + m ≤ maxLen) (hbytes : (n + m) * bytes ≤ 140737488355328) {v' : Value} {w' : World} (hr : (Builtin.append_ #[t, t] ty #[v, .slice (some a) m c]).run P w = .ok v' w') :
    v'.ownBlock = v.ownBlock ∨ ∀ g, v'.ownBlock = some g → w.heap.size ≤ g := by
  rcases hown.2 with ⟨rfl, rfl⟩ | ⟨g, cap, cur, rfl, hbg, hg, hnc, hcm, hcs, htake⟩
  · right
    have hx : xs = [] := List.eq_nil_of_length_eq_zero (by simpa using hown.1)
    subst hx
    obtain ⟨v2, w2, hr2, ho2, _⟩ := run_append_own (P := P) w w.heap.size t ty e i z size bytes ht hi hz hsize hby hzs hsz (.slice none 0 0) 0 [] (World.ownsRow_nil _ _ _ _) a m c news hl hnews h1 h63 hbytes (Nat.le_refl _)
    rw [hr] at hr2
    cases hr2
    intro g hgb
    exact (ho2.lt g hgb).1
  · subst hsize
    subst hby
    by_cases hroom : n + m ≤ cap
    · left
      have hfit : n * i.size + news.length ≤ cur.size := by rw [hl, hcs, ← Nat.add_mul]; exact Nat.mul_le_mul_right _ hroom
      have hr2 := run_append_room (P := P) w t ty e i ht hi g n cap cur hg a m c news hl hnews h1 hroom hfit
      rw [hr] at hr2
      cases hr2
      rfl
    · right
      have holds : ∀ j u, xs[j]? = some u → w.cell? ((⟨g, 0, none⟩ : Addr).add j) = some u := hown.cells (g := g) rfl
      have hsmall : n + m ≤ 9223372036854775807 := by simp only [maxLen] at h63; omega
      have hr2 := run_append_grow (P := P) w t ty e i z ht hi hz ⟨g, 0, none⟩ n cap xs hown.1 holds a m c news hl hnews (by omega) (by omega) (growslice_fits (by omega) hbytes)
      rw [hr] at hr2
      cases hr2
      intro k hk
      simp [Value.ownBlock] at hk
      omega

theorem wpList_append_where {P : Program} (w : World) {ops : Array Oper} {rest : List Oper} {o : Oper} {a : Act} {Q : Exit → Act → World → Prop} (hgd : o.guard = none) (s x : Operand) (t : TypeId)
    (ho : o.op = .call { callee := .builtin .append, args := #[s, x], argTypes := #[t, t] })
    (base : Nat) (e : TypeId) (i : TypeInfo) (z : Value) (size bytes : Nat) (ht : P.underlying t = some (.slice e)) (hi : P.info? e = some i) (hz : i.zero = some z)
    (hsize : i.size = size) (hby : i.bytes = bytes) (hzs : z.cells.size = size) (hsz : 0 < size)
    (v : Value) (n : Nat) (xs : List Value) (hs : a.eval s = v) (hown : w.ownsRow base e size v n xs)
    (ad : Addr) (m c : Nat) (news : List Value) (hx : a.eval x = .slice (some ad) m c) (hl : news.length = m * size) (hnews : ∀ j u, news[j]? = some u → w.cell? (ad.add j) = some u) (h1 : ∀ u ∈ news, u.oneCell' = true)
    (h63 : n + m ≤ maxLen) (hbytes : (n + m) * bytes ≤ 140737488355328) (hbase : base ≤ w.heap.size)
    (h : ∀ v' w', w'.ownsRow base e size v' (n + m) (xs ++ news) → w.grownBy w' v.ownBlock → (v'.ownBlock = v.ownBlock ∨ ∀ g, v'.ownBlock = some g → w.heap.size ≤ g) → wpList P ops Q rest (a.put o.dst v') w') : wpList P ops Q (o :: rest) a w := by
  refine wpList_plain hgd fun K hK => ?_
  obtain ⟨v', w', hr, h2, h3, _⟩ := run_append_own (P := P) w base t o.type e i z size bytes ht hi hz hsize hby hzs hsz v n xs hown ad m c news hl hnews h1 h63 hbytes hbase
  have h4 := append_where (P := P) w base t o.type e i z size bytes ht hi hz hsize hby hzs hsz v n xs hown ad m c news hl hnews h1 h63 hbytes hr
  unfold Oper.wp execOp
  simp only [ho, resolve, invoke, builtin, Sem.run_bind, Sem.run_pure, Result.andThen_ok, List.map_toArray, List.map_cons, List.map_nil, hs, hx, hr]
  exact hK _ _ (h v' w' h2 h3 h4)
end
section
open Go Go.RowKit

/-- A slice that reads as these numbers. -/
def IntsAt (w : World) (v : Value) (cs : List Int) : Prop :=
  (cs = [] ∧ ∃ a cap, v = .slice a 0 cap) ∨ ∃ b off cap, v = .slice (some ⟨b, off, none⟩) cs.length cap ∧ b < w.heap.size ∧ cs.length ≤ cap ∧ cap ≤ maxLen ∧ ∀ (i : Nat) c, cs[i]? = some c → w.cell? ⟨b, off + i, none⟩ = some (.int .i64 c)
/-- A slice that reads as these items. -/
def ItemsAt (w : World) (v : Value) (l : List It) : Prop :=
  (l = [] ∧ ∃ a cap, v = .slice a 0 cap) ∨ ∃ b off cap, v = .slice (some ⟨b, off, none⟩) l.length cap ∧ b < w.heap.size ∧ l.length ≤ cap ∧ cap ≤ maxLen ∧
    ∀ (i : Nat) it, l[i]? = some it → w.cell? ⟨b, off + i * 3, none⟩ = some (.bool it.any) ∧ w.cell? ⟨b, off + i * 3 + 1, none⟩ = some (.bool it.not) ∧ ∃ sv, w.cell? ⟨b, off + i * 3 + 2, none⟩ = some sv ∧ IntsAt w sv it.set
theorem cell_old {w w' : World} {p : Addr} (hb : Below w.heap.size w w') (hp : p.block < w.heap.size) : w'.cell? p = w.cell? p := by
  unfold World.cell?; rw [hb.block p.block hp]
theorem IntsAt.keep {w w' : World} {v : Value} {cs : List Int} (h : IntsAt w v cs) (hb : Below w.heap.size w w') : IntsAt w' v cs := by
  rcases h with h | ⟨b, off, cap, rfl, h1, h2, h3, h4⟩
  · exact .inl h
  · exact .inr ⟨b, off, cap, rfl, Nat.lt_of_lt_of_le h1 hb.size, h2, h3, fun i c hc => (cell_old (p := ⟨b, off + i, none⟩) hb h1).trans (h4 i c hc)⟩
theorem ItemsAt.keep {w w' : World} {v : Value} {l : List It} (h : ItemsAt w v l) (hb : Below w.heap.size w w') : ItemsAt w' v l := by
  rcases h with h | ⟨b, off, cap, rfl, h1, h2, h3, h4⟩
  · exact .inl h
  · refine .inr ⟨b, off, cap, rfl, Nat.lt_of_lt_of_le h1 hb.size, h2, h3, fun i it hi => ?_⟩
    obtain ⟨k1, k2, sv, k3, k4⟩ := h4 i it hi
    exact ⟨(cell_old (p := ⟨b, off + i * 3, none⟩) hb h1).trans k1, (cell_old (p := ⟨b, off + i * 3 + 1, none⟩) hb h1).trans k2, sv, (cell_old (p := ⟨b, off + i * 3 + 2, none⟩) hb h1).trans k3, k4.keep hb⟩
/-- Numbers in a new block. -/
theorem IntsAt.lit (w : World) (cs : List Int) (xs : Array Value) (t : TypeId) (hx : xs = (cs.map (Value.int .i64)).toArray) (hm : cs.length ≤ 1000) : IntsAt (w.alloc (.cells xs t)) (.slice (some ⟨w.heap.size, 0, none⟩) cs.length cs.length) cs := by
  subst hx
  refine .inr ⟨w.heap.size, 0, cs.length, rfl, by simp, Nat.le_refl _, by unfold maxLen; omega, fun i c hc => ?_⟩
  rw [cell_of_row _ w.heap.size (0 + i) _ t (0, 0) (World.alloc_heap_new w _)]
  simp [hc]

theorem ints_open {w : World} {v : Value} {cs : List Int} (h : IntsAt w v cs) : ∃ A cap, v = .slice A cs.length cap ∧ ∀ (i : Nat) c, cs[i]? = some c → ∃ q o, A = some ⟨q, o, none⟩ ∧ q < w.heap.size ∧ cs.length ≤ cap ∧ w.cell? ⟨q, o + i, none⟩ = some (.int .i64 c) := by
  obtain ⟨rfl, a, cap, rfl⟩ | ⟨b, off, cap, rfl, hlt, hcap, hm, hc⟩ := h
  · exact ⟨a, cap, rfl, fun i c hi => by simp at hi⟩
  · exact ⟨_, cap, rfl, fun i c hi => ⟨b, off, rfl, hlt, hcap, hc i c hi⟩⟩
end
section
open Go Go.RowKit
end
section
open Go Go.RowKit

/-- A value that reads as a rule. -/
def RuAt (w : World) (v : Value) (r : Ru) : Prop :=
  ∃ A cap, v = .agg #[.bool r.pre, .int .i64 r.flag, .bool r.cross, .string r.strip, .string r.add, .slice A r.cond.length cap] ∧ ItemsAt w (.slice A r.cond.length cap) r.cond
theorem RuAt.keep {w w' : World} {v : Value} {r : Ru} (h : RuAt w v r) (hb : Below w.heap.size w w') : RuAt w' v r := by
  obtain ⟨A, cap, rfl, h1⟩ := h
  exact ⟨A, cap, rfl, h1.keep hb⟩
/-- Not too much. -/
structure FewR (r : Ru) : Prop where
  items : r.cond.length ≤ 12
  sets : ∀ it ∈ r.cond, it.set.length ≤ 2000
  strip : r.strip.size ≤ 200
  add : r.add.size ≤ 200
def okB (s : ByteArray) : Bool := decide (s.size ≠ 0)

/-! ### What is asked of rule's calls -/
def exR : Ru := ⟨false, 83, true, ⟨#[121]⟩, ⟨#[105, 101, 115]⟩, [⟨false, false, [121]⟩]⟩
def exL : ByteArray := ⟨#[83, 70, 88, 32, 83, 32, 89, 32, 121, 32, 105, 101, 115, 32, 121]⟩
theorem exR_parse : parseR exL = some exR := by decide +kernel
theorem exR_text : textR exR = exL := by decide +kernel
theorem exR_city : applyR exR ⟨#[99, 105, 116, 121]⟩ = ⟨#[99, 105, 116, 105, 101, 115]⟩ := by decide +kernel
theorem exR_cat : applyR exR ⟨#[99, 97, 116]⟩ = ⟨#[]⟩ := by decide +kernel
theorem exR_few : FewR exR := ⟨by decide, by decide, by decide, by decide⟩

theorem exR_at {w : World} {v : Value} (h : RuAt w v exR) : ∃ A cap, v = .agg #[.bool false, .int .i64 83, .bool true, .string ⟨#[121]⟩, .string ⟨#[105, 101, 115]⟩, .slice A 1 cap] ∧ ItemsAt w (.slice A 1 cap) exR.cond := h

theorem box6 {w w' : World} {a b c d e f : Value} {t : TypeId} (hb : Below (w.alloc (.cells #[a, b, c, d, e, f] t)).heap.size (w.alloc (.cells #[a, b, c, d, e, f] t)) w') :
    w'.cell? ⟨w.heap.size, 0, none⟩ = some a ∧ w'.cell? ⟨w.heap.size, 1, none⟩ = some b ∧ w'.cell? ⟨w.heap.size, 2, none⟩ = some c ∧ w'.cell? ⟨w.heap.size, 3, none⟩ = some d ∧ w'.cell? ⟨w.heap.size, 4, none⟩ = some e ∧ w'.cell? ⟨w.heap.size, 5, none⟩ = some f := by
  have h : w'.heap[w.heap.size]? = some (.cells #[a, b, c, d, e, f] t (0, 0)) := (hb.block w.heap.size (by rw [World.size_alloc]; omega)).trans (World.alloc_heap_new w _)
  refine ⟨?_, ?_, ?_, ?_, ?_, ?_⟩ <;> simp [World.cell?, h]
variable {T : World → Prop}
end
end Go.Proofs.YtcbmfkgekhadkaaGreatDoor
