/- Conditions, plain: no program. What a list of codes reads as; items as codes; one is read as the other. -/
import Derived.Lib.MapLaws
import Derived.Lib.ValidLaws
import Derived.Lib.RuneBytes
import Derived.Lib.Bytealg
namespace Go.Proofs.YteenleedonmkmaaGreatDoor
section
open Go

structure It where
  any : Bool
  not : Bool
  set : List Int
deriving DecidableEq
/-- The codes up to the closing bracket, and what is behind it. -/
def takeSet : List Int → Option (List Int × List Int)
  | [] => none
  | c :: r => if c = 93 then some ([], r) else (takeSet r).map fun x => (c :: x.1, x.2)
/-- What a bracket opens. -/
def setC (neg : Bool) (r : List Int) : Option (It × List Int) :=
  match takeSet r with
  | none => none
  | some (a, b) => if a = [] then none else some (⟨false, neg, a⟩, b)
/-- The first item, and what is behind it. -/
def headC : List Int → Option (It × List Int)
  | [] => none
  | c :: r => if c = 46 then some (⟨true, false, []⟩, r) else if c = 93 then none else if c = 91 then (if r.head? = some 94 then setC true r.tail else setC false r) else some (⟨false, false, [c]⟩, r)
def parseF : Nat → List Int → Option (List It)
  | 0, cs => if cs = [] then some [] else none
  | f + 1, cs => if cs = [] then some [] else match headC cs with
    | none => none
    | some (it, r) => (parseF f r).map fun l => it :: l
def parseC (cs : List Int) : Option (List It) :=
  match parseF cs.length cs with
  | none => none
  | some l => if 0 < l.length ∧ l.length ≤ 8 then some l else none
/-- An item as codes. -/
def itemC (it : It) : List Int :=
  if it.any then [46] else if it.set.length = 1 ∧ it.not = false ∧ it.set.head? ≠ some 46 ∧ it.set.head? ≠ some 91 ∧ it.set.head? ≠ some 93 then it.set
  else 91 :: ((if it.not then [94] else []) ++ (it.set ++ [93]))
def textC (l : List It) : List Int := l.flatMap itemC
/-- An item that can be read. -/
def Good (it : It) : Prop := it = ⟨true, false, []⟩ ∨ (it.any = false ∧ it.set ≠ [] ∧ (∀ c ∈ it.set, c ≠ 93) ∧ (it.not = false → it.set.head? = some 94 → it.set = [94]))
def hasP (it : It) (c : Int) : Bool := it.any || (it.set.contains c != it.not)
def startsP (l : List It) (cs : List Int) : Bool := decide (l.length ≤ cs.length) && (l.zip cs).all fun x => hasP x.1 x.2
def endsP (l : List It) (cs : List Int) : Bool := decide (l.length ≤ cs.length) && startsP l (cs.drop (cs.length - l.length))

theorem headC_cons (c : Int) (r : List Int) : headC (c :: r) = if c = 46 then some (⟨true, false, []⟩, r) else if c = 93 then none else if c = 91 then (if r.head? = some 94 then setC true r.tail else setC false r) else some (⟨false, false, [c]⟩, r) := rfl
theorem takeSet_len : ∀ (cs : List Int) {a b : List Int}, takeSet cs = some (a, b) → cs = a ++ 93 :: b ∧ ∀ c ∈ a, c ≠ 93
  | [], a, b, h => by simp [takeSet] at h
  | c :: r, a, b, h => by
    unfold takeSet at h
    by_cases hc : c = 93
    · rw [if_pos hc] at h
      simp only [Option.some.injEq, Prod.mk.injEq] at h
      obtain ⟨rfl, rfl⟩ := h
      exact ⟨by rw [hc]; rfl, fun c hc => by cases hc⟩
    · rw [if_neg hc, Option.map_eq_some_iff] at h
      obtain ⟨⟨a', b'⟩, h1, h2⟩ := h
      simp only [Prod.mk.injEq] at h2
      obtain ⟨rfl, rfl⟩ := h2
      obtain ⟨h3, h4⟩ := takeSet_len r h1
      refine ⟨by rw [h3]; rfl, fun x hx => ?_⟩
      rcases List.mem_cons.1 hx with rfl | hx
      · exact hc
      · exact h4 x hx
theorem takeSet_app : ∀ (a b : List Int), (∀ c ∈ a, c ≠ 93) → takeSet (a ++ 93 :: b) = some (a, b)
  | [], b, _ => by simp [takeSet]
  | c :: a, b, h => by
    have hc := h c (List.mem_cons_self ..)
    have ih := takeSet_app a b fun x hx => h x (List.mem_cons_of_mem _ hx)
    show takeSet (c :: (a ++ 93 :: b)) = _
    unfold takeSet
    rw [if_neg hc, ih]
    rfl
theorem setC_len {neg : Bool} {r b : List Int} {it : It} (h : setC neg r = some (it, b)) : it.any = false ∧ it.not = neg ∧ it.set ≠ [] ∧ (∀ c ∈ it.set, c ≠ 93) ∧ r = it.set ++ 93 :: b := by
  unfold setC at h
  split at h
  · cases h
  · rename_i a b' ht
    split at h
    · cases h
    · rename_i hne
      simp only [Option.some.injEq, Prod.mk.injEq] at h
      obtain ⟨rfl, rfl⟩ := h
      obtain ⟨h1, h2⟩ := takeSet_len r ht
      exact ⟨rfl, rfl, hne, h2, h1⟩
theorem setC_app {neg : Bool} {a b : List Int} (hne : a ≠ []) (h : ∀ c ∈ a, c ≠ 93) : setC neg (a ++ 93 :: b) = some (⟨false, neg, a⟩, b) := by
  unfold setC
  rw [takeSet_app a b h]
  simp [hne]
/-- What is read first can be read; its codes, and its text's, lie there. -/
theorem headC_says {cs r : List Int} {it : It} (h : headC cs = some (it, r)) : Good it ∧ (itemC it).length + r.length ≤ cs.length ∧ r.length < cs.length ∧ (∀ c ∈ it.set, c ∈ cs) ∧ (∀ c ∈ r, c ∈ cs) ∧ it.set.length ≤ cs.length := by
  match cs, h with
  | c :: t, h =>
    rw [headC_cons] at h
    split at h
    · simp only [Option.some.injEq, Prod.mk.injEq] at h
      obtain ⟨rfl, rfl⟩ := h
      exact ⟨.inl rfl, by simp [itemC]; omega, by simp, (fun c hc => by cases hc), (fun c hc => List.mem_cons_of_mem _ hc), Nat.zero_le _⟩
    split at h
    · cases h
    split at h
    · rename_i h46 h93 h91
      have hlen : ∀ (it : It), it.any = false → (itemC it).length ≤ it.set.length + 2 + (if it.not then 1 else 0) := by
        intro it ha
        unfold itemC
        rw [if_neg (by simp [ha])]
        split
        · omega
        · split <;> simp_all
      split at h
      · rename_i hhead
        obtain ⟨h1, h2, h3, h4, h5⟩ := setC_len h
        have ht : t = 94 :: t.tail := by
          cases t with
          | nil => simp at hhead
          | cons x t' => simp only [List.head?_cons, Option.some.injEq] at hhead; rw [hhead]; rfl
        have hl := hlen it h1
        rw [h2] at hl
        have hT : t.length = it.set.length + r.length + 2 := by
          rw [ht, h5]; simp; omega
        refine ⟨.inr ⟨h1, h3, h4, fun h => by rw [h2] at h; cases h⟩, by simp only [List.length_cons]; simp at hl; omega, by simp only [List.length_cons]; omega, fun c hc => ?_, fun c hc => ?_, by simp only [List.length_cons]; omega⟩
        · rw [ht, h5]; simp [hc]
        · rw [ht, h5]; simp [hc]
      · rename_i hhead
        obtain ⟨h1, h2, h3, h4, h5⟩ := setC_len h
        have hl := hlen it h1
        rw [h2] at hl
        have hT : t.length = it.set.length + r.length + 1 := by
          rw [h5]; simp; omega
        refine ⟨.inr ⟨h1, h3, h4, fun _ hh => ?_⟩, by simp only [List.length_cons]; simp at hl; omega, by simp only [List.length_cons]; omega, fun c hc => ?_, fun c hc => ?_, by simp only [List.length_cons]; omega⟩
        · exfalso
          apply hhead
          rw [h5]
          cases hs : it.set with
          | nil => exact absurd hs h3
          | cons x y => rw [hs] at hh; simpa using hh
        · rw [h5]; simp [hc]
        · rw [h5]; simp [hc]
    · rename_i h46 h93 h91
      simp only [Option.some.injEq, Prod.mk.injEq] at h
      obtain ⟨rfl, rfl⟩ := h
      refine ⟨.inr ⟨rfl, (fun h => by cases h), (fun x hx => ?_), (fun _ hh => ?_)⟩, ?_, by simp, (fun x hx => ?_), (fun c hc => List.mem_cons_of_mem _ hc), by simp⟩
      · simp only [List.mem_cons, List.not_mem_nil, or_false] at hx; rw [hx]; exact h93
      · simp only [List.head?_cons, Option.some.injEq] at hh; rw [hh]
      · unfold itemC
        rw [if_neg (by simp), if_pos (by simp [h46, h91, h93])]
        simp; omega
      · simp only [List.mem_cons, List.not_mem_nil, or_false] at hx; rw [hx]; exact List.mem_cons_self ..
/-- An item's codes are read as it. -/
theorem headC_item {it : It} (h : Good it) (r : List Int) : headC (itemC it ++ r) = some (it, r) := by
  obtain ⟨any, neg, set⟩ := it
  rcases h with h | ⟨h1, h2, h3, h4⟩
  · cases h
    rfl
  · simp only at h1 h2 h3 h4
    subst h1
    unfold itemC
    rw [if_neg (by simp)]
    split
    · rename_i hc
      obtain ⟨hl, hn, a, b, c⟩ := hc
      simp only at hl hn a b c
      match set, hl with
      | [x], _ =>
        simp only [List.head?_cons, ne_eq, Option.some.injEq] at a b c
        subst hn
        show headC (x :: r) = _
        rw [headC_cons, if_neg a, if_neg c, if_neg b]
    · rename_i hc
      simp only [List.cons_append, List.append_assoc, List.nil_append]
      rw [headC_cons, if_neg (by decide), if_neg (by decide), if_pos rfl]
      cases neg with
      | true =>
        simp only [if_true, List.cons_append, List.nil_append, List.head?_cons, List.tail_cons]
        exact setC_app h2 h3
      | false =>
        simp only [Bool.false_eq_true, if_false, List.nil_append]
        have hh : (set ++ 93 :: r).head? ≠ some 94 := by
          cases hs : set with
          | nil => exact absurd hs h2
          | cons x y =>
            intro hx
            have hx' : set.head? = some 94 := by rw [hs]; simpa using hx
            have := h4 rfl hx'
            apply hc
            simp [this]
        rw [if_neg hh]
        exact setC_app h2 h3
theorem parseF_text : ∀ (l : List It) (f : Nat), (∀ it ∈ l, Good it) → (textC l).length ≤ f → parseF f (textC l) = some l
  | [], f, _, _ => by cases f <;> simp [textC, parseF]
  | it :: l, f, h, hf => by
    have hg := h it (List.mem_cons_self ..)
    have hh := headC_item hg (textC l)
    have ht : textC (it :: l) = itemC it ++ textC l := by simp [textC]
    rw [ht] at hf ⊢
    have hlt := (headC_says hh).2.2.1
    cases f with
    | zero => omega
    | succ f =>
      have ih := parseF_text l f (fun x hx => h x (List.mem_cons_of_mem _ hx)) (by omega)
      unfold parseF
      rw [if_neg (by intro e; rw [e] at hlt; simp at hlt), hh]
      simp only [ih, Option.map_some]
theorem parseF_says : ∀ (f : Nat) (cs : List Int) {l : List It}, parseF f cs = some l → (∀ it ∈ l, Good it ∧ (∀ c ∈ it.set, c ∈ cs) ∧ it.set.length ≤ cs.length) ∧ (textC l).length ≤ cs.length
  | 0, cs, l, h => by
    unfold parseF at h
    split at h
    · simp only [Option.some.injEq] at h; subst h; exact ⟨(fun it hit => by cases hit), Nat.zero_le _⟩
    · cases h
  | f + 1, cs, l, h => by
    unfold parseF at h
    split at h
    · simp only [Option.some.injEq] at h; subst h; exact ⟨(fun it hit => by cases hit), Nat.zero_le _⟩
    split at h
    · cases h
    · rename_i it r hh
      rw [Option.map_eq_some_iff] at h
      obtain ⟨l', h1, rfl⟩ := h
      obtain ⟨g1, g2, g3, g4, g5, g6⟩ := headC_says hh
      obtain ⟨i1, i2⟩ := parseF_says f r h1
      refine ⟨fun x hx => ?_, by rw [show textC (it :: l') = itemC it ++ textC l' by simp [textC], List.length_append]; omega⟩
      rcases List.mem_cons.1 hx with rfl | hx
      · exact ⟨g1, g4, g6⟩
      · obtain ⟨j1, j2, j3⟩ := i1 x hx
        exact ⟨j1, fun c hc => g5 c (j2 c hc), by omega⟩
/-- What a list of codes reads as: items that can be read, one to eight. -/
theorem parseC_says {cs : List Int} {l : List It} (h : parseC cs = some l) : (∀ it ∈ l, Good it ∧ (∀ c ∈ it.set, c ∈ cs) ∧ it.set.length ≤ cs.length) ∧ (textC l).length ≤ cs.length ∧ 0 < l.length ∧ l.length ≤ 8 := by
  unfold parseC at h
  split at h
  · cases h
  · rename_i l' hf
    split at h
    · rename_i hl
      simp only [Option.some.injEq] at h
      subst h
      obtain ⟨h1, h2⟩ := parseF_says _ _ hf
      exact ⟨h1, h2, hl.1, hl.2⟩
    · cases h
theorem parseC_text {l : List It} (h : ∀ it ∈ l, Good it) (h0 : 0 < l.length) (h8 : l.length ≤ 8) : parseC (textC l) = some l := by
  unfold parseC
  rw [parseF_text l _ h (Nat.le_refl _)]
  simp [h0, h8]
theorem textC_mem {l : List It} {P : Int → Prop} (h : ∀ it ∈ l, ∀ c ∈ it.set, P c) (h46 : P 46) (h91 : P 91) (h93 : P 93) (h94 : P 94) : ∀ c ∈ textC l, P c := by
  intro c hc
  unfold textC at hc
  rw [List.mem_flatMap] at hc
  obtain ⟨it, hit, hc⟩ := hc
  unfold itemC at hc
  split at hc
  · simp at hc; exact hc ▸ h46
  split at hc
  · exact h it hit c hc
  · rcases List.mem_cons.1 hc with rfl | hc
    · exact h91
    rcases List.mem_append.1 hc with hc | hc
    · split at hc
      · simp at hc; exact hc ▸ h94
      · cases hc
    rcases List.mem_append.1 hc with hc | hc
    · exact h it hit c hc
    · simp at hc; exact hc ▸ h93
end
section
open Go Go.Lib

/-- Does the list begin with a byte that is no code point? -/
def uBad (l : List UInt8) : Bool := decide ((decodeL l).1 = 65533 ∧ (decodeL l).2 = 1)
/-- The code of the unit at the head. -/
def uCode (l : List UInt8) : Int := if uBad l then -1 - ((l.getD 0 0).toNat : Int) else ((decodeL l).1 : Int)
/-- A text's units from place p on: where, how long, which code. -/
def unitsF : Nat → Nat → List UInt8 → List (Nat × Nat × Int)
  | 0, _, _ => []
  | f + 1, p, l => if l = [] then [] else (p, (decodeL l).2, uCode l) :: unitsF f (p + (decodeL l).2) (l.drop (decodeL l).2)
def units (p : Nat) (l : List UInt8) : List (Nat × Nat × Int) := unitsF l.length p l

theorem unitsF_nil : ∀ f p, unitsF f p [] = []
  | 0, _ => rfl
  | _ + 1, _ => by simp [unitsF]
theorem unitsF_fuel : ∀ (n m p : Nat) (l : List UInt8), l.length ≤ n → l.length ≤ m → unitsF n p l = unitsF m p l
  | 0, m, p, l, hn, _ => by
    have : l = [] := List.eq_nil_of_length_eq_zero (by omega)
    subst this
    rw [unitsF_nil, unitsF_nil]
  | n + 1, 0, p, l, _, hm => by
    have : l = [] := List.eq_nil_of_length_eq_zero (by omega)
    subst this
    rw [unitsF_nil, unitsF_nil]
  | n + 1, m + 1, p, l, hn, hm => by
    by_cases hne : l = []
    · subst hne
      rw [unitsF_nil, unitsF_nil]
    · have hw := decodeL_width l
      have hl : 0 < l.length := List.length_pos_iff.2 hne
      simp only [unitsF, if_neg hne]
      rw [unitsF_fuel n m _ _ (by rw [List.length_drop]; omega) (by rw [List.length_drop]; omega)]
theorem units_nil (p : Nat) : units p [] = [] := rfl
theorem units_step (p : Nat) (l : List UInt8) (hne : l ≠ []) : units p l = (p, (decodeL l).2, uCode l) :: units (p + (decodeL l).2) (l.drop (decodeL l).2) := by
  have hw := decodeL_width l
  have hl : 0 < l.length := List.length_pos_iff.2 hne
  unfold units
  obtain ⟨n, hn⟩ : ∃ n, l.length = n + 1 := ⟨l.length - 1, by omega⟩
  rw [hn]
  simp only [unitsF, if_neg hne]
  rw [unitsF_fuel n _ _ _ (by rw [List.length_drop]; omega) (Nat.le_refl _)]
/-- Induction over a text, unit by unit. -/
theorem unit_ind (C : List UInt8 → Prop) (h0 : C []) (h1 : ∀ l, l ≠ [] → C (l.drop (decodeL l).2) → C l) : ∀ l, C l := by
  intro l
  suffices h : ∀ n (l : List UInt8), l.length ≤ n → C l from h l.length l (Nat.le_refl _)
  intro n
  induction n with
  | zero =>
    intro l hl
    have : l = [] := List.eq_nil_of_length_eq_zero (by omega)
    exact this ▸ h0
  | succ n ih =>
    intro l hl
    by_cases hne : l = []
    · exact hne ▸ h0
    · have hw := decodeL_width l
      have hp : 0 < l.length := List.length_pos_iff.2 hne
      exact h1 l hne (ih _ (by rw [List.length_drop]; omega))

theorem units_length_le : ∀ (l : List UInt8) p, (units p l).length ≤ l.length := by
  apply unit_ind
  · intro p; simp [units_nil]
  · intro l hne ih p
    have hw := decodeL_width l
    have hp : 0 < l.length := List.length_pos_iff.2 hne
    rw [units_step p l hne, List.length_cons]
    have := ih (p + (decodeL l).2)
    rw [List.length_drop] at this
    omega

/-- All codes are code points' where the text is right UTF-8, and there alone. -/
theorem validD_units : ∀ (l : List UInt8) p, validD l = (units p l).all fun u => decide (0 ≤ u.2.2) := by
  apply unit_ind
  · intro p; rfl
  · intro l hne ih p
    rw [units_step p l hne, validD_step l hne, List.all_cons, ← ih]
    by_cases hb : (decodeL l).1 = 65533 ∧ (decodeL l).2 = 1
    · have : decide (0 ≤ uCode l) = false := by simp [uCode, uBad, hb]; omega
      rw [if_pos hb]; simp [this]
    · have : decide (0 ≤ uCode l) = true := by
        have h : uBad l = false := by simpa [uBad] using hb
        simp [uCode, h]
      rw [if_neg hb]; simp [this]

theorem getD_append_left (l t : List UInt8) (k : Nat) (h : k < l.length) : (l ++ t).getD k 0 = l.getD k 0 := by
  simp [List.getD, List.getElem?_append_left h]

/-- What decodes to a code point does so whatever follows. -/
theorem decodeL_append (l t : List UInt8) (hne : l ≠ []) (hb : ¬ ((decodeL l).1 = 65533 ∧ (decodeL l).2 = 1)) : decodeL (l ++ t) = decodeL l := by
  have hl : 0 < l.length := List.length_pos_iff.2 hne
  rw [decodeL_N] at hb
  rw [decodeL_N, decodeL_N l, getD_append_left l t 0 hl, List.length_append]
  by_cases h1 : 1 < l.length
  · rw [getD_append_left l t 1 h1]
    by_cases h2 : 2 < l.length
    · rw [getD_append_left l t 2 h2]
      by_cases h3 : 3 < l.length
      · rw [getD_append_left l t 3 h3]
        unfold decodeN
        simp only [show 1 < l.length + t.length from by omega, show 2 < l.length + t.length from by omega, show 3 < l.length + t.length from by omega, h1, h2, h3, true_and]
      · revert hb
        unfold decodeN
        simp only [show 1 < l.length + t.length from by omega, show 2 < l.length + t.length from by omega, h1, h2, h3, true_and, false_and, and_false, if_false]
        intro hb
        split
        · rfl
        split
        · rfl
        split
        · rfl
        rename_i a b c
        rw [if_neg a, if_neg b, if_neg c] at hb
        simp at hb
    · revert hb
      unfold decodeN
      simp only [show 1 < l.length + t.length from by omega, h1, h2, true_and, false_and, and_false, if_false]
      intro hb
      split
      · rfl
      split
      · rfl
      rename_i a b
      rw [if_neg a, if_neg b] at hb
      simp at hb
  · revert hb
    unfold decodeN
    simp only [h1, false_and, and_false, if_false]
    intro hb
    split
    · rfl
    rename_i a
    rw [if_neg a] at hb
    simp at hb

/-- A right text ahead changes nothing behind it. -/
theorem units_append (t : List UInt8) : ∀ (l : List UInt8) p, validD l = true → units p (l ++ t) = units p l ++ units (p + l.length) t := by
  apply unit_ind (C := fun l => ∀ p, validD l = true → units p (l ++ t) = units p l ++ units (p + l.length) t)
  · intro p _; simp [units_nil]
  · intro l hne ih p hv
    rw [validD_step l hne] at hv
    by_cases hb : (decodeL l).1 = 65533 ∧ (decodeL l).2 = 1
    · rw [if_pos hb] at hv; cases hv
    · rw [if_neg hb] at hv
      have hd := decodeL_append l t hne hb
      have hle := decodeL_le l hne
      have hu : uBad (l ++ t) = uBad l := by simp [uBad, hd]
      have hc : uCode (l ++ t) = uCode l := by
        have h : uBad l = false := by simpa [uBad] using hb
        simp [uCode, hu, h, hd]
      rw [units_step p (l ++ t) (by simp [hne]), units_step p l hne, hd, hc, List.drop_append_of_le_length hle, ih _ hv, List.cons_append, List.length_drop]
      congr 3
      omega
theorem validD_append (t : List UInt8) (l : List UInt8) (h : validD l = true) : validD (l ++ t) = validD t := by
  rw [validD_units (l ++ t) 0, units_append t l 0 h, List.all_append, ← validD_units, ← validD_units, h, Bool.true_and]
end
section
open Go Go.Lib

theorem ofNat_toNat (n : Nat) (h : n < 256) : (UInt8.ofNat n).toNat = n := by simp; omega

/-- A code point's bytes, by their number. -/
theorem enc_cases (k : Nat) (hv : Utf8.valid (k : Int) = true) :
    (k < 128 ∧ (Utf8.encode k).data.toList = [UInt8.ofNat k]) ∨
    (128 ≤ k ∧ k < 2048 ∧ (Utf8.encode k).data.toList = [UInt8.ofNat (192 + k / 64), UInt8.ofNat (128 + k % 64)]) ∨
    (2048 ≤ k ∧ k < 65536 ∧ (k < 55296 ∨ 57344 ≤ k) ∧ (Utf8.encode k).data.toList = [UInt8.ofNat (224 + k / 4096), UInt8.ofNat (128 + k / 64 % 64), UInt8.ofNat (128 + k % 64)]) ∨
    (65536 ≤ k ∧ k ≤ 1114111 ∧ (Utf8.encode k).data.toList = [UInt8.ofNat (240 + k / 262144), UInt8.ofNat (128 + k / 4096 % 64), UInt8.ofNat (128 + k / 64 % 64), UInt8.ofNat (128 + k % 64)]) := by
  have hv' : (k < 55296) ∨ (57344 ≤ k ∧ k ≤ 1114111) := by
    simp [Utf8.valid] at hv; omega
  unfold Utf8.encode
  simp only [hv, if_true, Int.toNat_natCast]
  by_cases h1 : k < 128
  · left; exact ⟨h1, by rw [if_pos h1]⟩
  · by_cases h2 : k < 2048
    · right; left; exact ⟨by omega, h2, by rw [if_neg h1, if_pos h2]⟩
    · by_cases h3 : k < 65536
      · right; right; left; exact ⟨by omega, h3, by omega, by rw [if_neg h1, if_neg h2, if_pos h3]⟩
      · right; right; right; exact ⟨by omega, by omega, by rw [if_neg h1, if_neg h2, if_neg h3]⟩

theorem decode_encode (k : Nat) (hv : Utf8.valid (k : Int) = true) : decodeL (Utf8.encode k).data.toList = (k, (Utf8.encode k).size) ∧ 1 ≤ (Utf8.encode k).size ∧ (Utf8.encode k).size ≤ 4 ∧
    ∀ n, 0 < n → n < (Utf8.encode k).size → decodeL ((Utf8.encode k).data.toList.take n) = (65533, 1) := by
  rw [Lib.size_eq]
  rcases enc_cases k hv with ⟨h, e⟩ | ⟨h1, h2, e⟩ | ⟨h1, h2, h3, e⟩ | ⟨h1, h2, e⟩
  · rw [e]
    refine ⟨?_, by simp, by simp, fun n a b => by simp at b; omega⟩
    rw [decodeL_N]
    simp only [List.getD_cons_zero, List.length_cons, List.length_nil]
    rw [ofNat_toNat k (by omega)]
    simp [decodeN, h]
  · rw [e]
    have e0 := ofNat_toNat (192 + k / 64) (by omega)
    have e1 := ofNat_toNat (128 + k % 64) (by omega)
    refine ⟨?_, by simp, by simp, fun n a b => ?_⟩
    · rw [decodeL_N]
      simp only [List.getD_cons_zero, List.getD_cons_succ, List.length_cons, List.length_nil]
      rw [e0, e1]
      unfold decodeN
      rw [if_neg (by omega), if_pos (by omega), if_pos (by omega)]
      simp; omega
    · obtain rfl : n = 1 := by simp at b; omega
      rw [decodeL_N]
      simp only [List.take_succ_cons, List.take_zero, List.getD_cons_zero, List.getD_cons_succ, List.length_cons, List.length_nil]
      rw [e0]
      exact decodeN_alone _ _ _ _ _ (by omega) (.inl (by omega))
  · rw [e]
    have e0 := ofNat_toNat (224 + k / 4096) (by omega)
    have e1 := ofNat_toNat (128 + k / 64 % 64) (by omega)
    have e2 := ofNat_toNat (128 + k % 64) (by omega)
    refine ⟨?_, by simp, by simp, fun n a b => ?_⟩
    · rw [decodeL_N]
      simp only [List.getD_cons_zero, List.getD_cons_succ, List.length_cons, List.length_nil]
      rw [e0, e1, e2]
      unfold decodeN
      rw [if_neg (by omega), if_neg (by omega), if_pos (by omega), if_pos (by omega)]
      simp; omega
    · have hn : n = 1 ∨ n = 2 := by simp at b; omega
      rcases hn with rfl | rfl
      · rw [decodeL_N]
        simp only [List.take_succ_cons, List.take_zero, List.getD_cons_zero, List.getD_cons_succ, List.length_cons, List.length_nil]
        rw [e0]
        exact decodeN_alone _ _ _ _ _ (by omega) (.inl (by omega))
      · rw [decodeL_N]
        simp only [List.take_succ_cons, List.take_zero, List.getD_cons_zero, List.getD_cons_succ, List.length_cons, List.length_nil]
        rw [e0, e1]
        unfold decodeN
        rw [if_neg (by omega), if_neg (by omega), if_neg (by omega), if_neg (by omega)]
  · rw [e]
    have e0 := ofNat_toNat (240 + k / 262144) (by omega)
    have e1 := ofNat_toNat (128 + k / 4096 % 64) (by omega)
    have e2 := ofNat_toNat (128 + k / 64 % 64) (by omega)
    have e3 := ofNat_toNat (128 + k % 64) (by omega)
    refine ⟨?_, by simp, by simp, fun n a b => ?_⟩
    · rw [decodeL_N]
      simp only [List.getD_cons_zero, List.getD_cons_succ, List.length_cons, List.length_nil]
      rw [e0, e1, e2, e3]
      unfold decodeN
      rw [if_neg (by omega), if_neg (by omega), if_neg (by omega), if_pos (by omega), if_pos (by omega)]
      simp; omega
    · have hn : n = 1 ∨ n = 2 ∨ n = 3 := by simp at b; omega
      rcases hn with rfl | rfl | rfl
      · rw [decodeL_N]
        simp only [List.take_succ_cons, List.take_zero, List.getD_cons_zero, List.getD_cons_succ, List.length_cons, List.length_nil]
        rw [e0]
        exact decodeN_alone _ _ _ _ _ (by omega) (.inl (by omega))
      · rw [decodeL_N]
        simp only [List.take_succ_cons, List.take_zero, List.getD_cons_zero, List.getD_cons_succ, List.length_cons, List.length_nil]
        rw [e0, e1]
        unfold decodeN
        rw [if_neg (by omega), if_neg (by omega), if_neg (by omega), if_neg (by omega)]
      · rw [decodeL_N]
        simp only [List.take_succ_cons, List.take_zero, List.getD_cons_zero, List.getD_cons_succ, List.length_cons, List.length_nil]
        rw [e0, e1, e2]
        unfold decodeN
        rw [if_neg (by omega), if_neg (by omega), if_neg (by omega), if_neg (by omega)]

/-- A code point's bytes are one unit. -/
theorem units_encode (k : Nat) (hv : Utf8.valid (k : Int) = true) : validD (Utf8.encode k).data.toList = true ∧ units 0 (Utf8.encode k).data.toList = [(0, (Utf8.encode k).size, (k : Int))] := by
  obtain ⟨hd, h1, _, _⟩ := decode_encode k hv
  have hne : (Utf8.encode k).data.toList ≠ [] := by
    intro h0
    have := congrArg List.length h0
    rw [← Lib.size_eq, List.length_nil] at this
    omega
  have hdrop : (Utf8.encode k).data.toList.drop (Utf8.encode k).size = [] := List.drop_eq_nil_of_le (by rw [← Lib.size_eq]; omega)
  have hbad : ¬ ((decodeL (Utf8.encode k).data.toList).1 = 65533 ∧ (decodeL (Utf8.encode k).data.toList).2 = 1) := by
    rw [hd]
    rintro ⟨e1, e2⟩
    dsimp only at e1 e2
    subst e1
    revert e2; decide
  constructor
  · rw [validD_step _ hne, if_neg hbad, hd]
    dsimp only
    rw [hdrop]; rfl
  · have hu : uBad (Utf8.encode k).data.toList = false := by simpa [uBad] using hbad
    rw [units_step _ _ hne]
    simp [uCode, hu, hd, hdrop, units_nil]

theorem valid_cut (k n : Nat) (hv : Utf8.valid (k : Int) = true) (h0 : 0 < n) (h1 : n < (Utf8.encode k).size) : validD ((Utf8.encode k).data.toList.take n) = false := by
  obtain ⟨_, _, _, hc⟩ := decode_encode k hv
  have hne : (Utf8.encode k).data.toList.take n ≠ [] := by
    intro h
    have := congrArg List.length h
    rw [List.length_take, ← Lib.size_eq, List.length_nil] at this
    omega
  rw [validD_step _ hne, if_pos]
  rw [hc n h0 h1]
  exact ⟨rfl, rfl⟩
end
section
open Go Go.Lib

/-- The codes' bytes, one behind the other. -/
def encL (cs : List Int) : List UInt8 := cs.flatMap fun c => (Utf8.encode c).data.toList
def textS (l : List It) : ByteArray := ⟨(encL (textC l)).toArray⟩
/-- A right text's codes. -/
def codesB (s : List UInt8) : Option (List Int) := if validD s then some ((units 0 s).map (·.2.2)) else none
def parseS (s : ByteArray) : Option (List It) := match codesB s.data.toList with
  | none => none
  | some cs => parseC cs
/-- A code point. -/
def Pt (c : Int) : Prop := Utf8.valid c = true

theorem valid_dec (l : List UInt8) : Utf8.valid ((decodeL l).1 : Int) = true := by
  have k0 := (l.getD 0 0).toNat_lt
  have k1 := (l.getD 1 0).toNat_lt
  have h : (decodeL l).1 < 55296 ∨ (57344 ≤ (decodeL l).1 ∧ (decodeL l).1 ≤ 1114111) := by
    rw [decodeL_N]
    rcases decodeN_shape l.length (l.getD 0 0).toNat (l.getD 1 0).toNat (l.getD 2 0).toNat (l.getD 3 0).toNat with ⟨c, e⟩ | ⟨c1, c2, c3, cv, e⟩ | ⟨c1, c2, c3, c4, cv, cs, e⟩ | ⟨c1, c2, c3, c4, c5, cv, cw, e⟩ | e
    all_goals (rw [e]; dsimp only; omega)
  simp [Utf8.valid]; omega
theorem units_any : ∀ (l : List UInt8) p q, (units p l).map (·.2.2) = (units q l).map (·.2.2) := by
  apply unit_ind
  · intro p q; rfl
  · intro l hne ih p q
    rw [units_step p l hne, units_step q l hne, List.map_cons, List.map_cons]
    rw [ih _ (q + (decodeL l).2)]
theorem units_pts : ∀ (l : List UInt8) p, validD l = true → ∀ c ∈ (units p l).map (·.2.2), Pt c := by
  apply unit_ind (C := fun l => ∀ p, validD l = true → ∀ c ∈ (units p l).map (·.2.2), Pt c)
  · intro p _ c hc; simp [units_nil] at hc
  · intro l hne ih p hv c hc
    rw [validD_step l hne] at hv
    by_cases hb : (decodeL l).1 = 65533 ∧ (decodeL l).2 = 1
    · rw [if_pos hb] at hv; cases hv
    · rw [if_neg hb] at hv
      rw [units_step p l hne, List.map_cons] at hc
      rcases List.mem_cons.1 hc with rfl | hc
      · have hu : uBad l = false := by simpa [uBad] using hb
        show Pt (uCode l)
        unfold uCode Pt
        rw [hu]
        exact valid_dec l
      · exact ih _ hv c hc
theorem codesB_says {s : List UInt8} {cs : List Int} (h : codesB s = some cs) : (∀ c ∈ cs, Pt c) ∧ cs.length ≤ s.length := by
  unfold codesB at h
  split at h
  · rename_i hv
    simp only [Option.some.injEq] at h
    subst h
    exact ⟨units_pts s 0 hv, by rw [List.length_map]; exact units_length_le s 0⟩
  · cases h
theorem pt_nat {c : Int} (h : Pt c) : ∃ k : Nat, c = k ∧ Utf8.valid (k : Int) = true := by
  have h0 : 0 ≤ c := by unfold Pt Utf8.valid at h; simp at h; omega
  obtain ⟨k, rfl⟩ := Int.eq_ofNat_of_zero_le h0
  exact ⟨k, rfl, h⟩
theorem codesB_enc : ∀ (cs : List Int), (∀ c ∈ cs, Pt c) → codesB (encL cs) = some cs
  | [], _ => rfl
  | c :: cs, h => by
    obtain ⟨k, rfl, hk⟩ := pt_nat (h c (List.mem_cons_self ..))
    have ih := codesB_enc cs fun x hx => h x (List.mem_cons_of_mem _ hx)
    obtain ⟨hv, hu⟩ := units_encode k hk
    have he : encL ((k : Int) :: cs) = (Utf8.encode k).data.toList ++ encL cs := by simp [encL]
    unfold codesB at ih ⊢
    split at ih
    · rename_i hv2
      simp only [Option.some.injEq] at ih
      rw [he, validD_append _ _ hv, if_pos hv2, units_append _ _ _ hv, hu, List.map_append, units_any _ _ 0, ih]
      rfl
    · cases ih
theorem enc_len (c : Int) : (Utf8.encode c).data.toList.length ≤ 4 := by
  unfold Utf8.encode
  dsimp only
  generalize (if Utf8.valid c = true then c.toNat else Utf8.runeError) = k
  by_cases h1 : k < 128
  · rw [if_pos h1]; exact (by decide : 1 ≤ 4)
  rw [if_neg h1]
  by_cases h2 : k < 2048
  · rw [if_pos h2]; exact (by decide : 2 ≤ 4)
  rw [if_neg h2]
  by_cases h3 : k < 65536
  · rw [if_pos h3]; exact (by decide : 3 ≤ 4)
  rw [if_neg h3]
  exact (by decide : 4 ≤ 4)
theorem encL_len : ∀ cs : List Int, (encL cs).length ≤ 4 * cs.length
  | [] => by simp [encL]
  | c :: cs => by
    have he : encL (c :: cs) = (Utf8.encode c).data.toList ++ encL cs := by simp [encL]
    have h1 := enc_len c
    have h2 := encL_len cs
    rw [he, List.length_append, List.length_cons]
    omega
/-- What is asked of items whose text is asked for. -/
structure Fit (l : List It) : Prop where
  good : ∀ it ∈ l, Good it
  pts : ∀ it ∈ l, ∀ c ∈ it.set, Pt c
  pos : 0 < l.length
  few : l.length ≤ 8
  sets : ∀ it ∈ l, it.set.length ≤ 1200
  text : (textC l).length ≤ 1200
theorem parseS_fit {s : ByteArray} {l : List It} (h : parseS s = some l) (hs : s.size ≤ 1200) : Fit l ∧ (textC l).length ≤ s.size := by
  unfold parseS at h
  split at h
  · cases h
  · rename_i cs hc
    obtain ⟨h1, h2⟩ := codesB_says hc
    obtain ⟨g1, g2, g3, g4⟩ := parseC_says h
    have hl : s.data.toList.length = s.size := (Lib.size_eq s).symm
    exact ⟨⟨fun it hit => (g1 it hit).1, fun it hit c hc => h1 c ((g1 it hit).2.1 c hc), g3, g4, fun it hit => by have := (g1 it hit).2.2; omega, by omega⟩, by omega⟩
/-- The text that items have is read as they. -/
theorem parseS_text {l : List It} (h : Fit l) : parseS (textS l) = some l ∧ (textS l).size ≤ 4 * (textC l).length := by
  have hp : ∀ c ∈ textC l, Pt c := textC_mem h.pts rfl rfl rfl rfl
  constructor
  · unfold parseS
    show (match codesB (encL (textC l)) with | none => none | some cs => parseC cs) = _
    rw [codesB_enc _ hp]
    exact parseC_text h.good h.pos h.few
  · show (encL (textC l)).toArray.size ≤ _
    rw [List.size_toArray]
    exact encL_len _
end
section
open Go Go.Lib

theorem enc_rune9 (k : Nat) (hv : Utf8.valid (k : Int) = true) : (Utf8.encode k).data.toList = encodeRune k := by
  unfold encodeRune
  rcases enc_cases k hv with ⟨h, e⟩ | ⟨h1, h2, e⟩ | ⟨h1, h2, h3, e⟩ | ⟨h1, h2, e⟩
  · rw [e, encodeRuneZ_one (by omega) (by omega)]
    rfl
  · rw [e, encodeRuneZ_two (by omega) (by omega)]
    simp only [List.map_cons, List.map_nil]
    rw [show ((192 : Int) + k / 64).toNat = 192 + k / 64 from by omega, show ((128 : Int) + k % 64).toNat = 128 + k % 64 from by omega]
  · rw [e, encodeRuneZ_three (by omega)]
    simp only [List.map_cons, List.map_nil]
    rw [show ((224 : Int) + k / 4096).toNat = 224 + k / 4096 from by omega, show ((128 : Int) + k / 64 % 64).toNat = 128 + k / 64 % 64 from by omega, show ((128 : Int) + k % 64).toNat = 128 + k % 64 from by omega]
  · rw [e, encodeRuneZ_four (by omega) (by omega)]
    simp only [List.map_cons, List.map_nil]
    rw [show ((240 : Int) + k / 262144).toNat = 240 + k / 262144 from by omega, show ((128 : Int) + k / 4096 % 64).toNat = 128 + k / 4096 % 64 from by omega, show ((128 : Int) + k / 64 % 64).toNat = 128 + k / 64 % 64 from by omega, show ((128 : Int) + k % 64).toNat = 128 + k % 64 from by omega]
theorem encL_units : ∀ (l : List UInt8) p, validD l = true → encL ((units p l).map (·.2.2)) = l := by
  apply unit_ind (C := fun l => ∀ p, validD l = true → encL ((units p l).map (·.2.2)) = l)
  · intro p _; rfl
  · intro l hne ih p hv
    rw [validD_step l hne] at hv
    by_cases hb : (decodeL l).1 = 65533 ∧ (decodeL l).2 = 1
    · rw [if_pos hb] at hv; cases hv
    · rw [if_neg hb] at hv
      have hu : uBad l = false := by simpa [uBad] using hb
      have hc : uCode l = ((decodeL l).1 : Int) := by simp [uCode, hu]
      rw [units_step p l hne, List.map_cons]
      show (Utf8.encode (uCode l)).data.toList ++ encL ((units _ _).map (·.2.2)) = l
      rw [ih _ hv, hc, enc_rune9 _ (valid_dec l), encode_decode _ hne hb, List.take_append_drop]
/-- A right text is its codes' bytes. -/
theorem encL_codesB {s : List UInt8} {cs : List Int} (h : codesB s = some cs) : encL cs = s := by
  unfold codesB at h
  split at h
  · rename_i hv
    simp only [Option.some.injEq] at h
    subst h
    exact encL_units s 0 hv
  · cases h
theorem encL_append (a b : List Int) : encL (a ++ b) = encL a ++ encL b := by simp [encL]
/-- A byte below 128 lies among the bytes as it lies among the codes. -/
theorem encL_mem {cs : List Int} (h : ∀ c ∈ cs, Pt c) {b : UInt8} (hb : b.toNat < 128) : b ∈ encL cs ↔ (b.toNat : Int) ∈ cs := by
  have one : ∀ c : Int, Pt c → (b ∈ (Utf8.encode c).data.toList ↔ (b.toNat : Int) = c) := by
    intro c hc
    obtain ⟨k, rfl, hk⟩ := pt_nat hc
    have key : ∀ n : Nat, n < 256 → (b = UInt8.ofNat n ↔ b.toNat = n) := fun n hn =>
      ⟨fun e => by rw [e]; exact ofNat_toNat n hn, fun e => by rw [← e]; simp⟩
    rcases enc_cases k hk with ⟨h, e⟩ | ⟨h1, h2, e⟩ | ⟨h1, h2, h3, e⟩ | ⟨h1, h2, e⟩
    · rw [e, List.mem_singleton, key k (by omega)]; omega
    · rw [e]
      simp only [List.mem_cons, List.not_mem_nil, or_false]
      rw [key _ (by omega), key _ (by omega)]; omega
    · rw [e]
      simp only [List.mem_cons, List.not_mem_nil, or_false]
      rw [key _ (by omega), key _ (by omega), key _ (by omega)]; omega
    · have hk2 : k ≤ 1114111 := by unfold Utf8.valid at hk; simp at hk; omega
      rw [e]
      simp only [List.mem_cons, List.not_mem_nil, or_false]
      rw [key _ (by omega), key _ (by omega), key _ (by omega), key _ (by omega)]; omega
  unfold encL
  rw [List.mem_flatMap]
  constructor
  · rintro ⟨c, hc, hbc⟩
    rw [(one c (h c hc)).1 hbc]; exact hc
  · intro hc
    exact ⟨_, hc, (one _ (h _ hc)).2 rfl⟩

/-! ### Any items' text -/
def ptB (c : Int) : List UInt8 := if Utf8.valid c = true then (Utf8.encode c).data.toList else []
def ptL (cs : List Int) : List UInt8 := cs.flatMap ptB
/-- The text that reads as l; none: empty. -/
def textG (l : List It) : ByteArray := if parseS ⟨(ptL (textC l)).toArray⟩ = some l then ⟨(ptL (textC l)).toArray⟩ else ⟨#[]⟩
theorem ptL_enc : ∀ {cs : List Int}, (∀ c ∈ cs, Pt c) → ptL cs = encL cs
  | [], _ => rfl
  | c :: cs, h => by
    have ih := ptL_enc (cs := cs) fun x hx => h x (List.mem_cons_of_mem _ hx)
    have hc : Utf8.valid c = true := h c (List.mem_cons_self ..)
    show ptB c ++ ptL cs = (Utf8.encode c).data.toList ++ encL cs
    rw [ih]
    unfold ptB
    rw [if_pos hc]
theorem textG_fit {l : List It} (h : Fit l) : textG l = textS l := by
  have hp : ∀ c ∈ textC l, Pt c := textC_mem h.pts rfl rfl rfl rfl
  unfold textG
  rw [ptL_enc hp]
  exact if_pos (parseS_text h).1
end
section
open Go Go.Lib

/-! ### Words -/
def wordsL : List UInt8 → List (List UInt8)
  | [] => [[]]
  | b :: r => if b = 32 then [] :: wordsL r else match wordsL r with
    | [] => [[b]]
    | h :: t => (b :: h) :: t
theorem wordsL_cons (b : UInt8) (r : List UInt8) : wordsL (b :: r) = if b = 32 then [] :: wordsL r else match wordsL r with
    | [] => [[b]]
    | h :: t => (b :: h) :: t := rfl
theorem wordsL_ne : ∀ l, wordsL l ≠ []
  | [] => by simp [wordsL]
  | b :: r => by
    unfold wordsL
    split
    · simp
    · split <;> simp
/-- A word ahead of a blank. -/
theorem wordsL_app : ∀ (a r : List UInt8), (32 : UInt8) ∉ a → wordsL (a ++ 32 :: r) = a :: wordsL r
  | [], r, _ => by simp [wordsL]
  | b :: a, r, h => by
    have hb : b ≠ 32 := fun e => h (by rw [e]; exact List.mem_cons_self ..)
    have ih := wordsL_app a r fun e => h (List.mem_cons_of_mem _ e)
    show wordsL (b :: (a ++ 32 :: r)) = _
    rw [wordsL_cons, if_neg hb, ih]
theorem wordsL_one : ∀ (a : List UInt8), (32 : UInt8) ∉ a → wordsL a = [a]
  | [], _ => rfl
  | b :: a, h => by
    have hb : b ≠ 32 := fun e => h (by rw [e]; exact List.mem_cons_self ..)
    have ih := wordsL_one a fun e => h (List.mem_cons_of_mem _ e)
    rw [wordsL_cons, if_neg hb, ih]
theorem wordsL_mem : ∀ (l : List UInt8) w, w ∈ wordsL l → (32 : UInt8) ∉ w ∧ w.length ≤ l.length
  | [], w, h => by
    simp [wordsL] at h
    subst h
    simp
  | b :: r, w, h => by
    unfold wordsL at h
    split at h
    · rcases List.mem_cons.1 h with rfl | h
      · simp
      · obtain ⟨h1, h2⟩ := wordsL_mem r w h
        exact ⟨h1, by rw [List.length_cons]; omega⟩
    · rename_i hb
      split at h
      · rename_i he; exact absurd he (wordsL_ne r)
      · rename_i x t he
        rcases List.mem_cons.1 h with rfl | h
        · obtain ⟨h1, h2⟩ := wordsL_mem r x (by rw [he]; exact List.mem_cons_self ..)
          refine ⟨fun e => ?_, by rw [List.length_cons, List.length_cons]; omega⟩
          rcases List.mem_cons.1 e with e | e
          · exact hb e.symm
          · exact h1 e
        · obtain ⟨h1, h2⟩ := wordsL_mem r w (by rw [he]; exact List.mem_cons_of_mem _ h)
          exact ⟨h1, by rw [List.length_cons]; omega⟩

/-! ### Rules -/
structure Ru where
  pre : Bool
  flag : Int
  cross : Bool
  strip : ByteArray
  add : ByteArray
  cond : List It
deriving DecidableEq
def ru0 : Ru := ⟨false, 0, false, ⟨#[]⟩, ⟨#[]⟩, []⟩
/-- A letter's number; 0: it is none. -/
def flagL : List UInt8 → Int
  | [b] => if (97 ≤ b.toNat ∧ b.toNat ≤ 122) ∨ (65 ≤ b.toNat ∧ b.toNat ≤ 90) then (b.toNat : Int) else 0
  | _ => 0
/-- What is taken away, what is put there. -/
def partL (w : List UInt8) : Option ByteArray := if w = [48] then some ⟨#[]⟩ else if w ≠ [] ∧ w.length ≤ 20 ∧ validD w = true then some ⟨w.toArray⟩ else none
def pfx : List UInt8 := [80, 70, 88]
def sfx : List UInt8 := [83, 70, 88]
def parse6 (a f c x y z : List UInt8) : Option Ru :=
  if (a = pfx ∨ a = sfx) ∧ flagL f ≠ 0 ∧ (c = [89] ∨ c = [78]) then
    match partL x, partL y, parseS ⟨z.toArray⟩ with
    | some u, some v, some l => some ⟨decide (a = pfx), flagL f, decide (c = [89]), u, v, l⟩
    | _, _, _ => none
  else none
def parseR (s : ByteArray) : Option Ru :=
  match wordsL s.data.toList with
  | [a, f, c, x, y, z] => parse6 a f c x y z
  | _ => none
def or0L (s : ByteArray) : List UInt8 := if s.data.toList = [] then [48] else s.data.toList
/-- A rule's line, its condition's text t. -/
def lineL (r : Ru) (t : List UInt8) : List UInt8 :=
  (if r.pre then pfx else sfx) ++ 32 :: ([UInt8.ofNat r.flag.toNat] ++ 32 :: ((if r.cross then [89] else [78]) ++ 32 :: (or0L r.strip ++ 32 :: (or0L r.add ++ 32 :: t))))
theorem flagL_says {w : List UInt8} (h : flagL w ≠ 0) : w = [UInt8.ofNat (flagL w).toNat] ∧ (32 : UInt8) ∉ w ∧ 0 < flagL w ∧ flagL w ≤ 127 := by
  match w, h with
  | [], h => exact absurd rfl h
  | _ :: _ :: _, h => exact absurd rfl h
  | [b], h =>
    have hd : flagL [b] = if (97 ≤ b.toNat ∧ b.toNat ≤ 122) ∨ (65 ≤ b.toNat ∧ b.toNat ≤ 90) then (b.toNat : Int) else 0 := rfl
    rw [hd] at h ⊢
    by_cases hb : (97 ≤ b.toNat ∧ b.toNat ≤ 122) ∨ (65 ≤ b.toNat ∧ b.toNat ≤ 90)
    · rw [if_pos hb]
      have hlt := b.toNat_lt
      refine ⟨by simp, ?_, by omega, by omega⟩
      simp only [List.mem_singleton]
      intro e
      rw [← e] at hb
      simp at hb
    · rw [if_neg hb] at h
      exact absurd rfl h
theorem partL_says {w : List UInt8} {u : ByteArray} (h : partL w = some u) (hw : (32 : UInt8) ∉ w) : partL (or0L u) = some u ∧ (32 : UInt8) ∉ or0L u ∧ u.size ≤ 20 := by
  unfold partL at h
  split at h
  · simp only [Option.some.injEq] at h
    subst h
    exact ⟨rfl, by decide, by decide⟩
  · rename_i h48
    split at h
    · rename_i hc
      simp only [Option.some.injEq] at h
      subst h
      have ho : or0L ⟨w.toArray⟩ = w := by unfold or0L; rw [if_neg (by simpa using hc.1)]
      rw [ho]
      refine ⟨?_, hw, by show w.toArray.size ≤ 20; simpa using hc.2.1⟩
      unfold partL
      rw [if_neg h48, if_pos hc]
    · cases h
/-- What is read has a line that is read as that. -/
theorem parseR_back {s : ByteArray} {r : Ru} (h : parseR s = some r) (hs : s.size ≤ 1200) :
    parseR ⟨(lineL r (textS r.cond).data.toList).toArray⟩ = some r ∧ 0 < r.flag ∧ r.flag ≤ 127 ∧ Fit r.cond ∧ r.strip.size ≤ 20 ∧ r.add.size ≤ 20 ∧ (textC r.cond).length ≤ s.size := by
  unfold parseR at h
  split at h
  · rename_i a f c x y z hw
    have hmem : ∀ w ∈ [a, f, c, x, y, z], (32 : UInt8) ∉ w ∧ w.length ≤ s.data.toList.length := fun w hw' => wordsL_mem _ w (by rw [hw]; exact hw')
    unfold parse6 at h
    split at h
    · rename_i hc
      split at h
      · rename_i u v l hx hy hz
        simp only [Option.some.injEq] at h
        subst h
        obtain ⟨hf1, hf2, hf3, hf4⟩ := flagL_says hc.2.1
        obtain ⟨hx1, hx2, hx3⟩ := partL_says hx (hmem x (by simp)).1
        obtain ⟨hy1, hy2, hy3⟩ := partL_says hy (hmem y (by simp)).1
        have hzl := (hmem z (by simp)).2
        have hsl : s.data.toList.length = s.size := (Lib.size_eq s).symm
        have hzs : (⟨z.toArray⟩ : ByteArray).size ≤ 1200 := by show z.toArray.size ≤ 1200; rw [List.size_toArray]; omega
        obtain ⟨hfit, htx⟩ := parseS_fit hz hzs
        have hzz : (⟨z.toArray⟩ : ByteArray).size = z.length := by show z.toArray.size = _; rw [List.size_toArray]
        refine ⟨?_, hf3, hf4, hfit, hx3, hy3, by dsimp only; omega⟩
        -- the condition's text has no blank
        have hnb : (32 : UInt8) ∉ (textS l).data.toList := by
          unfold parseS at hz
          split at hz
          · cases hz
          · rename_i cs hcs
            have hpt := (codesB_says hcs).1
            have he := encL_codesB hcs
            have hz32 : (32 : Int) ∉ cs := fun hm => (hmem z (by simp)).1 (by
              have := (encL_mem hpt (b := 32) (by decide)).2 hm
              rw [he] at this
              exact this)
            have hall := (parseC_says hz).1
            intro hm
            have hpc : ∀ c ∈ textC l, Pt c := textC_mem hfit.pts rfl rfl rfl rfl
            have h1 := (encL_mem hpc (b := 32) (by decide)).1 hm
            exact textC_mem (P := fun c => c ≠ 32) (fun it hit c hc e => hz32 (e ▸ (hall it hit).2.1 c hc)) (by decide) (by decide) (by decide) (by decide) _ h1 rfl
        have hpre : (32 : UInt8) ∉ (if decide (a = pfx) = true then pfx else sfx) := by split <;> decide
        have hcr : (32 : UInt8) ∉ (if decide (c = [89]) = true then [89] else [78] : List UInt8) := by split <;> decide
        have hfl : (32 : UInt8) ∉ [UInt8.ofNat (flagL f).toNat] := by rw [← hf1]; exact hf2
        unfold parseR lineL
        dsimp only
        rw [wordsL_app _ _ hpre, wordsL_app _ _ hfl, wordsL_app _ _ hcr, wordsL_app _ _ hx2, wordsL_app _ _ hy2, wordsL_one _ hnb]
        dsimp only
        have ha : (if decide (a = pfx) = true then pfx else sfx) = a := by
          rcases hc.1 with e | e
          · rw [e]; simp
          · rw [e]; decide
        have hcc : (if decide (c = [89]) = true then [89] else [78] : List UInt8) = c := by
          rcases hc.2.2 with e | e
          · rw [e]; simp
          · rw [e]; decide
        rw [ha, hcc, ← hf1]
        unfold parse6
        rw [if_pos hc, hx1, hy1, show (⟨((textS l).data.toList).toArray⟩ : ByteArray) = textS l by simp, (parseS_text hfit).1]
      · cases h
    · cases h
  · cases h

/-! ### A rule's text; what comes of a word -/
def textR (r : Ru) : ByteArray :=
  if 0 ≤ r.flag ∧ r.flag ≤ 127 ∧ parseR ⟨(lineL r (textG r.cond).data.toList).toArray⟩ = some r then ⟨(lineL r (textG r.cond).data.toList).toArray⟩ else ⟨#[]⟩
/-- What comes of a word by a rule; empty: nothing. -/
def applyR (r : Ru) (w : ByteArray) : ByteArray :=
  match codesB w.data.toList with
  | none => ⟨#[]⟩
  | some cs =>
    if r.pre then
      if r.strip.size ≤ w.size ∧ w.extract 0 r.strip.size = r.strip ∧ startsP r.cond cs = true then r.add ++ w.extract r.strip.size w.size else ⟨#[]⟩
    else if r.strip.size ≤ w.size ∧ w.extract (w.size - r.strip.size) w.size = r.strip ∧ endsP r.cond cs = true then w.extract 0 (w.size - r.strip.size) ++ r.add else ⟨#[]⟩
def bothR (p s : Ru) (w : ByteArray) : ByteArray :=
  if p.pre = true ∧ s.pre = false ∧ p.cross = true ∧ s.cross = true ∧ (applyR p w).size ≠ 0 ∧ (applyR s w).size ≠ 0 ∧ p.strip.size + s.strip.size ≤ w.size then
    p.add ++ w.extract p.strip.size (w.size - s.strip.size) ++ s.add
  else ⟨#[]⟩
theorem textR_back {s : ByteArray} {r : Ru} (h : parseR s = some r) (hs : s.size ≤ 1200) : textR r = ⟨(lineL r (textS r.cond).data.toList).toArray⟩ ∧ parseR (textR r) = some r := by
  obtain ⟨h1, h2, h3, h4, _⟩ := parseR_back h hs
  have ht : textR r = ⟨(lineL r (textS r.cond).data.toList).toArray⟩ := by
    unfold textR
    rw [textG_fit h4]
    exact if_pos ⟨by omega, h3, h1⟩
  exact ⟨ht, ht ▸ h1⟩
end
section
open Go Go.Lib

/-! ### Lines -/
def linesL : List UInt8 → List (List UInt8)
  | [] => []
  | b :: r => if b = 10 then [] :: linesL r else match linesL r with
    | [] => [[b]]
    | h :: t => (b :: h) :: t
theorem linesL_cons (b : UInt8) (r : List UInt8) : linesL (b :: r) = if b = 10 then [] :: linesL r else match linesL r with
    | [] => [[b]]
    | h :: t => (b :: h) :: t := rfl
/-- A line ahead of its end. -/
theorem linesL_app : ∀ (a r : List UInt8), (10 : UInt8) ∉ a → linesL (a ++ 10 :: r) = a :: linesL r
  | [], r, _ => by simp [linesL]
  | b :: a, r, h => by
    have hb : b ≠ 10 := fun e => h (by rw [e]; exact List.mem_cons_self ..)
    have ih := linesL_app a r fun e => h (List.mem_cons_of_mem _ e)
    show linesL (b :: (a ++ 10 :: r)) = _
    rw [linesL_cons, if_neg hb, ih]
theorem linesL_one : ∀ (a : List UInt8), a ≠ [] → (10 : UInt8) ∉ a → linesL a = [a]
  | [], h, _ => absurd rfl h
  | [b], _, h => by
    have hb : b ≠ 10 := fun e => h (by rw [e]; exact List.mem_cons_self ..)
    rw [linesL_cons, if_neg hb]; rfl
  | b :: c :: a, _, h => by
    have hb : b ≠ 10 := fun e => h (by rw [e]; exact List.mem_cons_self ..)
    have ih := linesL_one (c :: a) (by simp) fun e => h (List.mem_cons_of_mem _ e)
    rw [linesL_cons, if_neg hb, ih]
theorem linesL_flat : ∀ (ls : List (List UInt8)), (∀ l ∈ ls, (10 : UInt8) ∉ l) → linesL ((ls.map fun l => l ++ [10]).flatten) = ls
  | [], _ => rfl
  | l :: ls, h => by
    have ih := linesL_flat ls fun x hx => h x (List.mem_cons_of_mem _ hx)
    rw [List.map_cons, List.flatten_cons, List.append_assoc]
    show linesL (l ++ 10 :: (ls.map fun l => l ++ [10]).flatten) = _
    rw [linesL_app _ _ (h l (List.mem_cons_self ..)), ih]
theorem linesL_mem : ∀ (s l : List UInt8), l ∈ linesL s → (10 : UInt8) ∉ l
  | [], l, h => by simp [linesL] at h
  | b :: r, l, h => by
    rw [linesL_cons] at h
    by_cases hb : b = 10
    · rw [if_pos hb] at h
      rcases List.mem_cons.1 h with rfl | h
      · simp
      · exact linesL_mem r l h
    · rw [if_neg hb] at h
      split at h
      · rw [List.mem_singleton] at h
        subst h
        rw [List.mem_singleton]
        exact fun e => hb e.symm
      · rename_i x t he
        rcases List.mem_cons.1 h with rfl | h
        · intro hm
          rcases List.mem_cons.1 hm with e | e
          · exact hb e.symm
          · exact linesL_mem r x (by rw [he]; exact List.mem_cons_self ..) e
        · exact linesL_mem r l (by rw [he]; exact List.mem_cons_of_mem _ h)
/-- All lines' bytes are the text's. -/
theorem linesL_sum : ∀ (s : List UInt8), ((linesL s).map List.length).sum ≤ s.length
  | [] => Nat.le_refl _
  | b :: r => by
    have ih := linesL_sum r
    rw [linesL_cons]
    by_cases hb : b = 10
    · rw [if_pos hb, List.map_cons, List.sum_cons, List.length_cons]; simp; omega
    · rw [if_neg hb]
      cases he : linesL r with
      | nil => simp
      | cons x t =>
        rw [he, List.map_cons, List.sum_cons] at ih
        rw [List.map_cons, List.sum_cons, List.length_cons, List.length_cons]
        omega

/-! ### What a line says, what a file says -/
def plainC (c : Int) : Bool := decide ((65 ≤ c ∧ c ≤ 90) ∨ (97 ≤ c ∧ c ≤ 122))
def usedP (ps : List (Int × Int)) (c : Int) : Bool := ps.any fun p => p.1 == c || p.2 == c
def caseW : List UInt8 := [67, 65, 83, 69, 32]
/-- Two codes that are a pair behind these pairs. -/
def okPair (ps : List (Int × Int)) (g s : Int) : Bool := !(g == s) && !plainC g && !plainC s && !usedP ps g && !usedP ps s
def pairL (ps : List (Int × Int)) (l : List UInt8) : Option (Int × Int) :=
  if l.take 5 = caseW then match codesB (l.drop 5) with
    | some [g, s] => if okPair ps g s = true then some (g, s) else none
    | _ => none
  else none
structure Af where
  rules : List Ru
  pairs : List (Int × Int)
deriving DecidableEq
def af0 : Af := ⟨[], []⟩
/-- What is read so far: rules, where they stand, pairs, the first line that is none. -/
structure Rd where
  rules : List Ru
  at_ : List Nat
  pairs : List (Int × Int)
  bad : Nat
deriving DecidableEq
def rd0 : Rd := ⟨[], [], [], 0⟩
def stepA (d : Rd) (n : Nat) (l : List UInt8) : Rd :=
  if l = [] ∨ l.head? = some 35 then d
  else match pairL d.pairs l with
    | some p => { d with pairs := d.pairs ++ [p] }
    | none => match parseR ⟨l.toArray⟩ with
      | some r => { d with rules := d.rules ++ [r], at_ := d.at_ ++ [n] }
      | none => { d with bad := if d.bad = 0 then n else d.bad }
def readA : Rd → Nat → List (List UInt8) → Rd
  | d, _, [] => d
  | d, n, l :: r => readA (stepA d n l) (n + 1) r
/-- A rule of the other end ahead has its flag. -/
def clash (seen : List Ru) (r : Ru) : Bool := seen.any fun q => q.flag == r.flag && !(q.pre == r.pre)
def flagA : List Ru → List Ru → List Nat → Nat
  | _, [], _ => 0
  | seen, r :: rs, at_ => if clash seen r = true then at_.headD 0 else flagA (seen ++ [r]) rs at_.tail
def endA (d : Rd) : Af × Nat × Int :=
  if 200 < d.rules.length ∨ 200 < d.pairs.length then (af0, 0, 3)
  else if 0 < d.bad then (af0, d.bad, 5)
  else if 0 < flagA [] d.rules d.at_ then (af0, flagA [] d.rules d.at_, 6)
  else (⟨d.rules, d.pairs⟩, 0, 0)
def parseA (s : ByteArray) : Af × Nat × Int :=
  if 65536 < s.size then (af0, 0, 3) else endA (readA rd0 1 (linesL s.data.toList))
def pairT (p : Int × Int) : List UInt8 := caseW ++ ptL [p.1, p.2]
def fileL (a : Af) : List UInt8 := ((a.rules.map fun r => (textR r).data.toList) ++ a.pairs.map pairT).flatMap fun l => l ++ [10]
def textA (a : Af) : ByteArray :=
  if (parseA ⟨(fileL a).toArray⟩).1 = a ∧ (parseA ⟨(fileL a).toArray⟩).2.2 = 0 then ⟨(fileL a).toArray⟩ else ⟨#[]⟩

/-! ### What is read -/
/-- Pairs, each right behind those ahead. -/
def PairsOk (ps : List (Int × Int)) : Prop := ∀ (a : List (Int × Int)) p b, ps = a ++ p :: b → okPair a p.1 p.2 = true ∧ Pt p.1 ∧ Pt p.2 ∧ p.1 ≠ 10 ∧ p.2 ≠ 10
theorem PairsOk.nil : PairsOk [] := fun a p b h => by simp at h
theorem PairsOk.snoc {ps : List (Int × Int)} {p : Int × Int} (h : PairsOk ps) (hp : okPair ps p.1 p.2 = true ∧ Pt p.1 ∧ Pt p.2 ∧ p.1 ≠ 10 ∧ p.2 ≠ 10) : PairsOk (ps ++ [p]) := by
  intro a q b e
  rcases List.append_eq_append_iff.1 e with ⟨c, e1, e2⟩ | ⟨c, e1, e2⟩
  · cases c with
    | nil =>
      rw [List.append_nil] at e1
      rw [List.nil_append] at e2
      obtain ⟨e3, -⟩ := List.cons.inj e2
      rw [e1, ← e3]; exact hp
    | cons x c =>
      rw [List.cons_append] at e2
      have := (List.cons.inj e2).2
      simp at this
  · cases c with
    | nil =>
      rw [List.nil_append] at e2
      obtain ⟨e3, -⟩ := List.cons.inj e2
      rw [List.append_nil] at e1
      rw [← e1, e3]; exact hp
    | cons x c =>
      rw [List.cons_append] at e2
      obtain ⟨e3, e4⟩ := List.cons.inj e2
      rw [← e3] at e1
      exact h a q c e1
/-- A rule that a line says. -/
def FromLine (r : Ru) (k : Nat) : Prop := ∃ l : List UInt8, (10 : UInt8) ∉ l ∧ l.length ≤ k ∧ parseR ⟨l.toArray⟩ = some r
/-- What holds of what is read: behind m bytes of lines. -/
structure RdOk (d : Rd) (k m : Nat) : Prop where
  rules : ∀ r ∈ d.rules, FromLine r k
  pairs : PairsOk d.pairs
  len : d.at_.length = d.rules.length
  pos : ∀ n ∈ d.at_, 0 < n
  sum : (d.rules.map fun r => (textC r.cond).length).sum ≤ m
theorem RdOk.start (k : Nat) : RdOk rd0 k 0 := ⟨fun r h => by simp [rd0] at h, PairsOk.nil, rfl, fun n h => by simp [rd0] at h, Nat.le_refl _⟩
theorem pairL_says {ps : List (Int × Int)} {l : List UInt8} {p : Int × Int} (h : pairL ps l = some p) (h10 : (10 : UInt8) ∉ l) : okPair ps p.1 p.2 = true ∧ Pt p.1 ∧ Pt p.2 ∧ p.1 ≠ 10 ∧ p.2 ≠ 10 := by
  unfold pairL at h
  split at h
  · split at h
    · rename_i g s hc
      split at h
      · rename_i hok
        obtain rfl := Option.some.inj h
        obtain ⟨hp, -⟩ := codesB_says hc
        have he := encL_codesB hc
        have hn : ∀ c ∈ [g, s], c ≠ 10 := fun c hcm e => h10 (List.mem_of_mem_drop (i := 5) (by
          rw [← he]
          exact (encL_mem hp (b := 10) (by decide)).2 (by rw [show ((10 : UInt8).toNat : Int) = 10 from rfl, ← e]; exact hcm)))
        exact ⟨hok, hp g (by simp), hp s (by simp), hn g (by simp), hn s (by simp)⟩
      · cases h
    · cases h
  · cases h
theorem parseR_textC {s : ByteArray} {r : Ru} (h : parseR s = some r) (hs : s.size ≤ 1200) : (textC r.cond).length ≤ s.size := (parseR_back h hs).2.2.2.2.2.2
theorem RdOk.step {d : Rd} {k m n : Nat} {l : List UInt8} (h : RdOk d k m) (hk : l.length ≤ k) (hk2 : k ≤ 1200) (h10 : (10 : UInt8) ∉ l) (hn : 0 < n) : RdOk (stepA d n l) k (m + l.length) := by
  obtain ⟨h1, h2, h3, h4, h5⟩ := h
  unfold stepA
  split
  · exact ⟨h1, h2, h3, h4, by omega⟩
  · split
    · rename_i p hp
      exact ⟨h1, h2.snoc (pairL_says hp h10), h3, h4, Nat.le_trans h5 (Nat.le_add_right _ _)⟩
    · split
      · rename_i r hr
        have hsz : (⟨l.toArray⟩ : ByteArray).size = l.length := by show l.toArray.size = _; rw [List.size_toArray]
        refine ⟨fun q hq => ?_, h2, by simp [h3], fun q hq => ?_, ?_⟩
        · rcases List.mem_append.1 hq with hq | hq
          · exact h1 q hq
          · rw [List.mem_singleton] at hq
            subst hq
            exact ⟨l, h10, hk, hr⟩
        · rcases List.mem_append.1 hq with hq | hq
          · exact h4 q hq
          · rw [List.mem_singleton] at hq
            subst hq
            exact hn
        · have := parseR_textC hr (by omega)
          rw [List.map_append, List.sum_append]
          simp
          omega
      · exact ⟨h1, h2, h3, h4, Nat.le_trans h5 (Nat.le_add_right _ _)⟩
theorem RdOk.read {k : Nat} (hk2 : k ≤ 1200) : ∀ (ls : List (List UInt8)) (d : Rd) (m n : Nat), RdOk d k m → 0 < n → (∀ l ∈ ls, (10 : UInt8) ∉ l ∧ l.length ≤ k) → RdOk (readA d n ls) k (m + (ls.map List.length).sum)
  | [], d, m, n, h, _, _ => by simpa [readA] using h
  | l :: ls, d, m, n, h, hn, hl => by
    have h1 := hl l (List.mem_cons_self ..)
    have := RdOk.read hk2 ls (stepA d n l) (m + l.length) (n + 1) (h.step h1.2 hk2 h1.1 hn) (Nat.succ_pos _) fun x hx => hl x (List.mem_cons_of_mem _ hx)
    rw [List.map_cons, List.sum_cons, ← Nat.add_assoc]
    exact this

/-! ### What is read has a text that is read as that -/
theorem rule_line {r : Ru} {k : Nat} (h : FromLine r k) (hk : k ≤ 1200) : parseR (textR r) = some r ∧ (10 : UInt8) ∉ (textR r).data.toList ∧ (textR r).data.toList ≠ [] ∧ (textR r).data.toList.head? ≠ some 35 ∧ (∀ ps, pairL ps (textR r).data.toList = none) ∧ (textR r).data.toList.length ≤ 51 + 4 * (textC r.cond).length := by
  obtain ⟨l, h10, hlk, hp⟩ := h
  have hsz : (⟨l.toArray⟩ : ByteArray).size ≤ 1200 := by show l.toArray.size ≤ _; rw [List.size_toArray]; omega
  obtain ⟨b1, b2, b3, b4, b5, b6, b7⟩ := parseR_back hp hsz
  obtain ⟨t1, t2⟩ := textR_back hp hsz
  have hL : (textR r).data.toList = lineL r (textS r.cond).data.toList := by rw [t1]
  have hhead : ∃ b t, lineL r (textS r.cond).data.toList = b :: t ∧ (b = 80 ∨ b = 83) := by
    unfold lineL
    cases r.pre
    · exact ⟨83, _, rfl, .inr rfl⟩
    · exact ⟨80, _, rfl, .inl rfl⟩
  obtain ⟨b, t, hbt, hb⟩ := hhead
  refine ⟨t2, ?_, by rw [hL, hbt]; simp, ?_, ?_, ?_⟩
  · rw [hL]
    have hw := hp
    unfold parseR at hw
    have hll : (⟨l.toArray⟩ : ByteArray).data.toList = l := by simp
    rw [hll] at hw
    split at hw
    · rename_i a f c x y z hws
      have hmem : ∀ w ∈ [a, f, c, x, y, z], (10 : UInt8) ∉ w := fun w hm he => by
        have key : ∀ (s w : List UInt8), w ∈ wordsL s → ∀ u ∈ w, u ∈ s := by
          intro s
          induction s with
          | nil => intro w hw u hu; simp [wordsL] at hw; subst hw; cases hu
          | cons c s ih =>
            intro w hw u hu
            rw [wordsL_cons] at hw
            by_cases hc : c = 32
            · rw [if_pos hc] at hw
              rcases List.mem_cons.1 hw with rfl | hw
              · cases hu
              · exact List.mem_cons_of_mem _ (ih w hw u hu)
            · rw [if_neg hc] at hw
              split at hw
              · rename_i e; exact absurd e (wordsL_ne s)
              · rename_i h0 t0 e
                rcases List.mem_cons.1 hw with rfl | hw
                · rcases List.mem_cons.1 hu with rfl | hu
                  · exact List.mem_cons_self ..
                  · exact List.mem_cons_of_mem _ (ih h0 (by rw [e]; exact List.mem_cons_self ..) u hu)
                · exact List.mem_cons_of_mem _ (ih w (by rw [e]; exact List.mem_cons_of_mem _ hw) u hu)
        exact h10 (key l w (by rw [hws]; exact hm) 10 he)
      unfold parse6 at hw
      split at hw
      · rename_i hc
        split at hw
        · rename_i u v it hx hy hz
          obtain rfl := Option.some.inj hw
          obtain ⟨hf1, hf2, hf3, hf4⟩ := flagL_says hc.2.1
          have hpart : ∀ (w : List UInt8) (q : ByteArray), partL w = some q → (10 : UInt8) ∉ w → (10 : UInt8) ∉ or0L q := by
            intro w q hq hw10
            unfold partL at hq
            split at hq
            · obtain rfl := Option.some.inj hq; decide
            · split at hq
              · rename_i hc2
                obtain rfl := Option.some.inj hq
                unfold or0L
                rw [if_neg (by simpa using hc2.1)]
                simpa using hw10
              · cases hq
          have hnx := hpart x u hx (hmem x (by simp))
          have hny := hpart y v hy (hmem y (by simp))
          have hnt : (10 : UInt8) ∉ (textS it).data.toList := by
            unfold parseS at hz
            split at hz
            · cases hz
            · rename_i cs hcs
              have hpt := (codesB_says hcs).1
              have he := encL_codesB hcs
              have hz10 : (10 : Int) ∉ cs := fun hm => hmem z (by simp) (by
                have := (encL_mem hpt (b := 10) (by decide)).2 hm
                rw [he] at this
                simpa using this)
              have hall := (parseC_says hz).1
              intro hm
              have hpc : ∀ c ∈ textC it, Pt c := textC_mem b4.pts rfl rfl rfl rfl
              have h1 := (encL_mem hpc (b := 10) (by decide)).1 hm
              exact textC_mem (P := fun c => c ≠ 10) (fun i hi c hc e => hz10 (e ▸ (hall i hi).2.1 c hc)) (by decide) (by decide) (by decide) (by decide) _ h1 rfl
          have hpre : (10 : UInt8) ∉ (if decide (a = pfx) = true then pfx else sfx) := by split <;> decide
          have hcr : (10 : UInt8) ∉ (if decide (c = [89]) = true then [89] else [78] : List UInt8) := by split <;> decide
          have hfl : (10 : UInt8) ∉ [UInt8.ofNat (flagL f).toNat] := by rw [← hf1]; exact hmem f (by simp)
          unfold lineL
          dsimp only
          simp only [List.mem_append, List.mem_cons, not_or]
          exact ⟨hpre, by decide, by simpa using hfl, by decide, hcr, by decide, hnx, by decide, hny, by decide, hnt⟩
        · cases hw
      · cases hw
    · cases hw
  · rw [hL, hbt, List.head?_cons]
    intro e
    have := Option.some.inj e
    rcases hb with rfl | rfl <;> cases this
  · intro ps
    rw [hL, hbt]
    unfold pairL
    rw [if_neg]
    intro e
    have h1 : (b :: t).take 5 = b :: t.take 4 := rfl
    rw [h1] at e
    have := (List.cons.inj (e.trans (show caseW = 67 :: [65, 83, 69, 32] from rfl))).1
    rcases hb with rfl | rfl <;> cases this
  · rw [hL]
    have hs := (parseS_text b4).2
    rw [Lib.size_eq] at hs
    have ho : ∀ q : ByteArray, q.size ≤ 20 → (or0L q).length ≤ 20 := fun q hq => by
      have hq2 := hq; rw [Lib.size_eq] at hq2; unfold or0L; split <;> simp <;> omega
    have h1 := ho _ b5
    have h2 := ho _ b6
    unfold lineL
    have h3 : (if r.pre = true then pfx else sfx).length = 3 := by split <;> rfl
    have h4 : (if r.cross = true then [89] else [78] : List UInt8).length = 1 := by split <;> rfl
    simp only [List.length_append, List.length_cons, List.length_nil, h3, h4]
    omega
theorem stepA_rule {d : Rd} {n k : Nat} {r : Ru} (h : FromLine r k) (hk : k ≤ 1200) : stepA d n (textR r).data.toList = { d with rules := d.rules ++ [r], at_ := d.at_ ++ [n] } := by
  obtain ⟨h1, h2, h3, h4, h5, _⟩ := rule_line h hk
  unfold stepA
  rw [if_neg (by rintro (e | e); exact h3 e; exact h4 e), h5]
  dsimp only
  rw [show (⟨(textR r).data.toList.toArray⟩ : ByteArray) = textR r by simp, h1]
theorem stepA_pair {d : Rd} {n : Nat} {p : Int × Int} (h : okPair d.pairs p.1 p.2 = true ∧ Pt p.1 ∧ Pt p.2 ∧ p.1 ≠ 10 ∧ p.2 ≠ 10) : stepA d n (pairT p) = { d with pairs := d.pairs ++ [p] } := by
  have hpt : ∀ c ∈ [p.1, p.2], Pt c := fun c hc => by
    simp only [List.mem_cons, List.not_mem_nil, or_false] at hc
    rcases hc with rfl | rfl
    · exact h.2.1
    · exact h.2.2.1
  have hd : (pairT p).drop 5 = ptL [p.1, p.2] := rfl
  have ht : (pairT p).take 5 = caseW := rfl
  have hpl : pairL d.pairs (pairT p) = some p := by
    unfold pairL
    rw [if_pos ht, hd, ptL_enc hpt, codesB_enc _ hpt]
    dsimp only
    rw [if_pos h.1]
  unfold stepA
  rw [if_neg (by rintro (e | e); exact absurd e (by unfold pairT caseW; simp); exact absurd e (by unfold pairT caseW; simp)), hpl]
theorem readA_rules {k : Nat} (hk : k ≤ 1200) : ∀ (rs : List Ru) (d : Rd) (n : Nat) (ls : List (List UInt8)), (∀ r ∈ rs, FromLine r k) → ∃ at_, at_.length = rs.length ∧ readA d n ((rs.map fun r => (textR r).data.toList) ++ ls) = readA { d with rules := d.rules ++ rs, at_ := d.at_ ++ at_ } (n + rs.length) ls
  | [], d, n, ls, _ => ⟨[], rfl, by simp⟩
  | r :: rs, d, n, ls, h => by
    obtain ⟨at_, h1, h2⟩ := readA_rules hk rs { d with rules := d.rules ++ [r], at_ := d.at_ ++ [n] } (n + 1) ls fun x hx => h x (List.mem_cons_of_mem _ hx)
    refine ⟨n :: at_, by simp [h1], ?_⟩
    rw [List.map_cons, List.cons_append]
    show readA (stepA d n _) (n + 1) _ = _
    rw [stepA_rule (h r (List.mem_cons_self ..)) hk, h2]
    simp only [List.append_assoc, List.cons_append, List.nil_append, List.length_cons]
    rw [show n + 1 + rs.length = n + (rs.length + 1) by omega]
theorem readA_pairs : ∀ (ps : List (Int × Int)) (d : Rd) (n : Nat), PairsOk (d.pairs ++ ps) → readA d n (ps.map pairT) = { d with pairs := d.pairs ++ ps }
  | [], d, n, _ => by simp [readA]
  | p :: ps, d, n, h => by
    have h1 := h d.pairs p ps rfl
    have ih := readA_pairs ps { d with pairs := d.pairs ++ [p] } (n + 1) (by simpa using h)
    rw [List.map_cons]
    show readA (stepA d n _) (n + 1) _ = _
    rw [stepA_pair h1, ih]
    simp
theorem pairT_none {p : Int × Int} (h1 : Pt p.1) (h2 : Pt p.2) (h3 : p.1 ≠ 10) (h4 : p.2 ≠ 10) : (10 : UInt8) ∉ pairT p ∧ (pairT p).length ≤ 13 := by
  have hpt : ∀ c ∈ [p.1, p.2], Pt c := fun c hc => by
    simp only [List.mem_cons, List.not_mem_nil, or_false] at hc
    rcases hc with rfl | rfl
    · exact h1
    · exact h2
  unfold pairT
  rw [ptL_enc hpt]
  constructor
  · rw [List.mem_append, not_or]
    refine ⟨by decide, fun hm => ?_⟩
    have := (encL_mem hpt (b := 10) (by decide)).1 hm
    simp only [List.mem_cons, List.not_mem_nil, or_false] at this
    rcases this with e | e
    · exact h3 e.symm
    · exact h4 e.symm
  · have := encL_len [p.1, p.2]
    rw [List.length_append]
    simp [caseW] at this ⊢
    omega
theorem flagA_any : ∀ (rs seen : List Ru) (a b : List Nat), a.length = rs.length → (∀ n ∈ a, 0 < n) → flagA seen rs a = 0 → flagA seen rs b = 0
  | [], _, _, _, _, _, _ => rfl
  | r :: rs, seen, a, b, hl, hp, h => by
    match a, hl with
    | n :: a, hl =>
      unfold flagA at h ⊢
      by_cases hc : clash seen r = true
      · rw [if_pos hc] at h
        have := hp n (List.mem_cons_self ..)
        simp at h
        omega
      · rw [if_neg hc] at h ⊢
        exact flagA_any rs _ a b.tail (by simpa using hl) (fun x hx => hp x (List.mem_cons_of_mem _ hx)) h
theorem sum_lines : ∀ (ls : List (List UInt8)), (ls.flatMap fun l => l ++ [10]).length = (ls.map List.length).sum + ls.length
  | [] => rfl
  | l :: ls => by
    have ih := sum_lines ls
    rw [List.flatMap_cons, List.length_append, ih, List.map_cons, List.sum_cons, List.length_cons]
    simp
    omega
theorem sum_rules {k : Nat} (hk : k ≤ 1200) : ∀ (rs : List Ru), (∀ r ∈ rs, FromLine r k) → ((rs.map fun r => (textR r).data.toList).map List.length).sum ≤ 51 * rs.length + 4 * (rs.map fun r => (textC r.cond).length).sum
  | [], _ => Nat.le_refl _
  | r :: rs, h => by
    have ih := sum_rules hk rs fun x hx => h x (List.mem_cons_of_mem _ hx)
    have h1 := (rule_line (h r (List.mem_cons_self ..)) hk).2.2.2.2.2
    simp only [List.map_cons, List.sum_cons, List.length_cons] at ih ⊢
    omega
theorem sum_pairs : ∀ (ps : List (Int × Int)), (∀ p ∈ ps, (pairT p).length ≤ 13) → ((ps.map pairT).map List.length).sum ≤ 13 * ps.length
  | [], _ => Nat.le_refl _
  | p :: ps, h => by
    have ih := sum_pairs ps fun x hx => h x (List.mem_cons_of_mem _ hx)
    have h1 := h p (List.mem_cons_self ..)
    simp only [List.map_cons, List.sum_cons, List.length_cons] at ih ⊢
    omega
theorem mem_sum : ∀ (ls : List (List UInt8)) l, l ∈ ls → l.length ≤ (ls.map List.length).sum
  | [], l, h => by cases h
  | x :: ls, l, h => by
    rw [List.map_cons, List.sum_cons]
    rcases List.mem_cons.1 h with rfl | h
    · omega
    · have := mem_sum ls l h; omega
/-- What is read has a text that is read as that. -/
theorem textA_back {s : ByteArray} {a : Af} {n : Nat} (h : parseA s = (a, n, 0)) (hs : s.size ≤ 1200) : n = 0 ∧ textA a = ⟨(fileL a).toArray⟩ ∧ parseA (textA a) = (a, 0, 0) := by
  have hsl : s.data.toList.length = s.size := (Lib.size_eq s).symm
  unfold parseA at h
  rw [if_neg (by omega)] at h
  have hlen : ∀ l ∈ linesL s.data.toList, (10 : UInt8) ∉ l ∧ l.length ≤ 1200 := fun l hl => ⟨linesL_mem _ l hl, by
    have h1 := linesL_sum s.data.toList
    have h2 : l.length ≤ ((linesL s.data.toList).map List.length).sum := mem_sum _ l hl
    omega⟩
  have hok := RdOk.read (k := 1200) (Nat.le_refl _) (linesL s.data.toList) rd0 0 1 (RdOk.start _) (by decide) hlen
  have hsum := linesL_sum s.data.toList
  obtain ⟨d, hd⟩ : ∃ d, d = readA rd0 1 (linesL s.data.toList) := ⟨_, rfl⟩
  rw [← hd] at h hok
  unfold endA at h
  split at h
  · simp at h
  · rename_i hc
    split at h
    · simp at h
    · split at h
      · simp at h
      · rename_i hb hf
        simp only [Prod.mk.injEq, and_true] at h
        obtain ⟨rfl, rfl⟩ := h
        obtain ⟨k1, k2, k3, k4, k5⟩ := hok
        have hfl : flagA [] d.rules d.at_ = 0 := by omega
        have hpp : ∀ p ∈ d.pairs, (10 : UInt8) ∉ pairT p ∧ (pairT p).length ≤ 13 := fun p hp => by
          obtain ⟨x, y, e⟩ := List.append_of_mem hp
          obtain ⟨_, p1, p2, p3, p4⟩ := k2 x p y e
          exact pairT_none p1 p2 p3 p4
        have hl10 : ∀ l ∈ (d.rules.map fun r => (textR r).data.toList) ++ d.pairs.map pairT, (10 : UInt8) ∉ l := fun l hl => by
          rcases List.mem_append.1 hl with hl | hl
          · obtain ⟨r, hr, rfl⟩ := List.mem_map.1 hl
            exact (rule_line (k1 r hr) (Nat.le_refl _)).2.1
          · obtain ⟨p, hp, rfl⟩ := List.mem_map.1 hl
            exact (hpp p hp).1
        have hfz : (fileL ⟨d.rules, d.pairs⟩).length ≤ 65536 := by
          unfold fileL
          rw [sum_lines, List.map_append, List.sum_append, List.length_append, List.length_map, List.length_map]
          have q1 := sum_rules (Nat.le_refl 1200) d.rules k1
          have q2 := sum_pairs d.pairs fun p hp => (hpp p hp).2
          dsimp only
          omega
        have hlines : linesL (fileL ⟨d.rules, d.pairs⟩) = (d.rules.map fun r => (textR r).data.toList) ++ d.pairs.map pairT := by
          unfold fileL
          rw [List.flatMap_def]
          exact linesL_flat _ hl10
        have hpa : parseA ⟨(fileL ⟨d.rules, d.pairs⟩).toArray⟩ = (⟨d.rules, d.pairs⟩, 0, 0) := by
          unfold parseA
          rw [if_neg (by show ¬ 65536 < (fileL _).toArray.size; rw [List.size_toArray]; omega)]
          have hl2 : (⟨(fileL ⟨d.rules, d.pairs⟩).toArray⟩ : ByteArray).data.toList = fileL ⟨d.rules, d.pairs⟩ := by simp
          rw [hl2, hlines]
          obtain ⟨at_, e1, e2⟩ := readA_rules (Nat.le_refl 1200) d.rules rd0 1 (d.pairs.map pairT) k1
          rw [e2, readA_pairs _ _ _ (by simpa [rd0] using k2)]
          unfold endA
          simp only [rd0, List.nil_append]
          have hf0 : flagA [] d.rules at_ = 0 := flagA_any d.rules [] d.at_ at_ k3 k4 hfl
          refine (if_neg hc).trans ?_
          refine (if_neg (by omega)).trans ?_
          exact if_neg (by rw [hf0]; omega)
        have ht : textA ⟨d.rules, d.pairs⟩ = ⟨(fileL ⟨d.rules, d.pairs⟩).toArray⟩ := by
          unfold textA
          rw [hpa]
          exact if_pos ⟨rfl, rfl⟩
        exact ⟨rfl, ht, by rw [ht]; exact hpa⟩
end
section
open Go Go.Lib

/-! ### A reader that keeps the first clash -/
theorem flagA_snoc : ∀ (rs seen : List Ru) (a : List Nat) (r : Ru) (n : Nat), a.length = rs.length → (∀ x ∈ a, 0 < x) →
    flagA seen (rs ++ [r]) (a ++ [n]) = if flagA seen rs a = 0 then (if clash (seen ++ rs) r = true then n else 0) else flagA seen rs a
  | [], seen, a, r, n, hl, _ => by
    obtain rfl : a = [] := List.eq_nil_of_length_eq_zero hl
    simp [flagA]
  | q :: rs, seen, a, r, n, hl, hp => by
    match a, hl, hp with
    | m :: a, hl, hp =>
      have ih := flagA_snoc rs (seen ++ [q]) a r n (by simpa using hl) fun x hx => hp x (List.mem_cons_of_mem _ hx)
      have hm := hp m (List.mem_cons_self ..)
      rw [List.append_assoc, List.singleton_append] at ih
      show (if clash seen q = true then m else flagA (seen ++ [q]) (rs ++ [r]) (a ++ [n])) = if (if clash seen q = true then m else flagA (seen ++ [q]) rs a) = 0 then _ else (if clash seen q = true then m else flagA (seen ++ [q]) rs a)
      by_cases hc : clash seen q = true
      · rw [if_pos hc, if_pos hc, if_neg (by omega)]
      · rw [if_neg hc, if_neg hc, ih]
theorem stepA_grow (d : Rd) (n : Nat) (l : List UInt8) : d.rules.length ≤ (stepA d n l).rules.length ∧ d.pairs.length ≤ (stepA d n l).pairs.length := by
  unfold stepA
  split
  · exact ⟨Nat.le_refl _, Nat.le_refl _⟩
  · split
    · simp
    · split <;> simp
theorem readA_grow : ∀ (ls : List (List UInt8)) (d : Rd) (n : Nat), d.rules.length ≤ (readA d n ls).rules.length ∧ d.pairs.length ≤ (readA d n ls).pairs.length
  | [], d, n => ⟨Nat.le_refl _, Nat.le_refl _⟩
  | l :: ls, d, n => by
    have h1 := stepA_grow d n l
    have h2 := readA_grow ls (stepA d n l) (n + 1)
    exact ⟨Nat.le_trans h1.1 h2.1, Nat.le_trans h1.2 h2.2⟩
theorem endA_big {d : Rd} (n : Nat) (ls : List (List UInt8)) (h : 200 < d.rules.length ∨ 200 < d.pairs.length) : endA (readA d n ls) = (af0, 0, 3) := by
  have hg := readA_grow ls d n
  unfold endA
  exact if_pos (by omega)
/-- What is kept of numbers: as many as rules, each above 0. -/
def AtsOk (d : Rd) : Prop := d.at_.length = d.rules.length ∧ ∀ n ∈ d.at_, 0 < n
theorem AtsOk.step {d : Rd} {n : Nat} {l : List UInt8} (h : AtsOk d) (hn : 0 < n) : AtsOk (stepA d n l) := by
  unfold stepA
  split
  · exact h
  · split
    · exact h
    · split
      · refine ⟨by simp [h.1], fun m hm => ?_⟩
        rcases List.mem_append.1 hm with hm | hm
        · exact h.2 m hm
        · rw [List.mem_singleton] at hm; omega
      · exact h

/-! ### A text's first line -/
theorem linesL_split : ∀ (s : List UInt8), s ≠ [] → linesL s = s.takeWhile (· ≠ 10) :: linesL (s.dropWhile (· ≠ 10)).tail
  | [], h => absurd rfl h
  | b :: r, _ => by
    rw [linesL_cons]
    by_cases hb : b = 10
    · subst hb
      rw [if_pos rfl]
      simp
    · have hd : decide (b ≠ 10) = true := by simpa using hb
      rw [if_neg hb, List.takeWhile_cons, if_pos hd, List.dropWhile_cons, if_pos hd]
      cases r with
      | nil => rfl
      | cons c r =>
        rw [linesL_split (c :: r) (by simp)]
theorem idx10_none {l : List UInt8} (h : (10 : UInt8) ∉ l) : indexByte l 10 = -1 := by
  induction l with
  | nil => rfl
  | cons b l ih =>
    unfold indexByte
    rw [if_neg (by simp; exact fun e => h (by rw [e]; exact List.mem_cons_self ..)), ih fun e => h (List.mem_cons_of_mem _ e)]
    rfl
theorem idx10_some {l : List UInt8} (h : (10 : UInt8) ∈ l) : indexByte l 10 = ((l.takeWhile (· ≠ 10)).length : Nat) := by
  induction l with
  | nil => cases h
  | cons b l ih =>
    unfold indexByte
    by_cases hb : b = 10
    · subst hb
      simp
    · have hm : (10 : UInt8) ∈ l := by
        rcases List.mem_cons.1 h with e | e
        · exact absurd e.symm hb
        · exact e
      have hd : (decide (b ≠ 10)) = true := by simpa using hb
      rw [if_neg (by simpa using hb), ih hm, List.takeWhile_cons, if_pos hd, List.length_cons, if_neg (by simp)]
      omega
theorem cut10 : ∀ {l : List UInt8}, (10 : UInt8) ∈ l → l.take (l.takeWhile (· ≠ 10)).length = l.takeWhile (· ≠ 10) ∧ l.drop ((l.takeWhile (· ≠ 10)).length + 1) = (l.dropWhile (· ≠ 10)).tail ∧ (l.takeWhile (· ≠ 10)).length < l.length
  | [], h => by cases h
  | b :: l, h => by
    by_cases hb : b = 10
    · subst hb; simp
    · have hm : (10 : UInt8) ∈ l := by
        rcases List.mem_cons.1 h with e | e
        · exact absurd e.symm hb
        · exact e
      have hd : (decide (b ≠ 10)) = true := by simpa using hb
      obtain ⟨h1, h2, h3⟩ := cut10 hm
      rw [List.takeWhile_cons, if_pos hd, List.dropWhile_cons, if_pos hd, List.length_cons, List.take_succ_cons, List.drop_succ_cons, h1, h2, List.length_cons]
      exact ⟨rfl, rfl, by omega⟩
theorem all10 : ∀ {l : List UInt8}, (10 : UInt8) ∉ l → l.takeWhile (· ≠ 10) = l ∧ l.dropWhile (· ≠ 10) = []
  | [], _ => ⟨rfl, rfl⟩
  | b :: l, h => by
    have hb : b ≠ 10 := fun e => h (by rw [e]; exact List.mem_cons_self ..)
    have hd : (decide (b ≠ 10)) = true := by simpa using hb
    obtain ⟨h1, h2⟩ := all10 (l := l) fun e => h (List.mem_cons_of_mem _ e)
    rw [List.takeWhile_cons, if_pos hd, List.dropWhile_cons, if_pos hd, h1]
    exact ⟨rfl, h2⟩

/-! ### A rule's line begins with P or S -/
theorem wordsL_first {s a : List UInt8} {ws : List (List UInt8)} (h : wordsL s = a :: ws) (ha : a ≠ []) : s.head? = a.head? := by
  cases s with
  | nil =>
    have : a = [] := by
      have h2 : wordsL [] = [[]] := rfl
      rw [h2] at h
      exact (List.cons.inj h).1.symm
    exact absurd this ha
  | cons b t =>
    rw [wordsL_cons] at h
    by_cases hb : b = 32
    · rw [if_pos hb] at h
      exact absurd (List.cons.inj h).1.symm ha
    · rw [if_neg hb] at h
      split at h
      · rename_i e; exact absurd e (wordsL_ne t)
      · rw [← (List.cons.inj h).1]
        rfl
theorem parseR_head {s : ByteArray} {r : Ru} (h : parseR s = some r) : s.data.toList.head? = some 80 ∨ s.data.toList.head? = some 83 := by
  unfold parseR at h
  split at h
  · rename_i a f c x y z hw
    unfold parse6 at h
    split at h
    · rename_i hc
      rcases hc.1 with e | e
      · left
        rw [wordsL_first hw (by rw [e]; decide), e]; rfl
      · right
        rw [wordsL_first hw (by rw [e]; decide), e]; rfl
    · cases h
  · cases h
theorem pairL_head67 {ps : List (Int × Int)} {l : List UInt8} {p : Int × Int} (h : pairL ps l = some p) : l.head? = some 67 := by
  unfold pairL at h
  split at h
  · rename_i h5
    cases l with
    | nil => cases h5
    | cons b t =>
      have : (b :: t).take 5 = b :: t.take 4 := rfl
      rw [this] at h5
      rw [(List.cons.inj h5).1]; rfl
  · cases h
/-- A line that is skipped says nothing else. -/
theorem skip_none {l : List UInt8} (h : l = [] ∨ l.head? = some 35) : parseR ⟨l.toArray⟩ = none ∧ ∀ ps, pairL ps l = none := by
  have hl : (⟨l.toArray⟩ : ByteArray).data.toList = l := by simp
  constructor
  · cases hp : parseR ⟨l.toArray⟩ with
    | none => rfl
    | some r =>
      have := parseR_head hp
      rw [hl] at this
      rcases h with rfl | h
      · simp at this
      · rw [h] at this; rcases this with e | e <;> cases e
  · intro ps
    cases hp : pairL ps l with
    | none => rfl
    | some p =>
      have := pairL_head67 hp
      rcases h with rfl | h
      · simp at this
      · rw [h] at this; cases this
/-- One step, a rule's line asked for first. -/
theorem stepA_rule1 {d : Rd} {n : Nat} {l : List UInt8} {r : Ru} (h : parseR ⟨l.toArray⟩ = some r) : stepA d n l = { d with rules := d.rules ++ [r], at_ := d.at_ ++ [n] } := by
  have hs : ¬ (l = [] ∨ l.head? = some 35) := fun e => by rw [(skip_none e).1] at h; cases h
  have hp : pairL d.pairs l = none := by
    cases hp : pairL d.pairs l with
    | none => rfl
    | some p =>
      have h1 := pairL_head67 hp
      have h2 := parseR_head h
      have hl : (⟨l.toArray⟩ : ByteArray).data.toList = l := by simp
      rw [hl, h1] at h2
      rcases h2 with e | e <;> cases e
  unfold stepA
  rw [if_neg hs, hp]
  dsimp only
  rw [h]
theorem stepA_pair1 {d : Rd} {n : Nat} {l : List UInt8} {p : Int × Int} (h : pairL d.pairs l = some p) : stepA d n l = { d with pairs := d.pairs ++ [p] } := by
  have hs : ¬ (l = [] ∨ l.head? = some 35) := fun e => by rw [(skip_none e).2] at h; cases h
  unfold stepA
  rw [if_neg hs, h]
theorem stepA_none1 {d : Rd} {n : Nat} {l : List UInt8} (h1 : parseR ⟨l.toArray⟩ = none) (h2 : pairL d.pairs l = none) : stepA d n l = if l = [] ∨ l.head? = some 35 then d else { d with bad := if d.bad = 0 then n else d.bad } := by
  unfold stepA
  by_cases hs : l = [] ∨ l.head? = some 35
  · rw [if_pos hs, if_pos hs]
  · rw [if_neg hs, if_neg hs, h2]
    dsimp only
    rw [h1]

/-! ### Letters that are taken -/
theorem used_take1 {ps : List (Int × Int)} {k : Nat} {p : Int × Int} {c : Int} (h : ps[k]? = some p) : usedP (ps.take (k + 1)) c = (usedP (ps.take k) c || (p.1 == c || p.2 == c)) := by
  obtain ⟨hlt, he⟩ := List.getElem?_eq_some_iff.1 h
  unfold usedP
  rw [List.take_succ_eq_append_getElem hlt, he, List.any_append]
  simp
theorem used_in1 {ps : List (Int × Int)} {k : Nat} {p : Int × Int} {c : Int} (h : ps[k]? = some p) (hc : (p.1 == c || p.2 == c) = true) : usedP ps c = true := by
  unfold usedP
  rw [List.any_eq_true]
  exact ⟨p, List.mem_of_getElem? h, hc⟩

/-! ### What a line says has a line that says it, however long it is -/
theorem parseS_wide {s : ByteArray} {l : List It} (h : parseS s = some l) : parseS (textS l) = some l ∧ textG l = textS l ∧ (∀ it ∈ l, ∀ c ∈ it.set, Pt c) ∧ l.length ≤ 8 ∧ ∀ it ∈ l, it.set.length ≤ s.size := by
  unfold parseS at h
  split at h
  · cases h
  · rename_i cs hc
    obtain ⟨h1, h2⟩ := codesB_says hc
    obtain ⟨g1, g2, g3, g4⟩ := parseC_says h
    have hl : s.data.toList.length = s.size := (Lib.size_eq s).symm
    have hpt : ∀ it ∈ l, ∀ c ∈ it.set, Pt c := fun it hit c hc => h1 c ((g1 it hit).2.1 c hc)
    have hp : ∀ c ∈ textC l, Pt c := textC_mem hpt rfl rfl rfl rfl
    have ht : parseS (textS l) = some l := by
      unfold parseS
      show (match codesB (encL (textC l)) with | none => none | some cs => parseC cs) = _
      rw [codesB_enc _ hp]
      exact parseC_text (fun it hit => (g1 it hit).1) g3 g4
    refine ⟨ht, ?_, hpt, g4, fun it hit => by have := (g1 it hit).2.2; omega⟩
    unfold textG
    rw [ptL_enc hp]
    exact if_pos ht
theorem parseR_wide {s : ByteArray} {r : Ru} (h : parseR s = some r) :
    parseR (textR r) = some r ∧ r.cond.length ≤ 8 ∧ (∀ it ∈ r.cond, it.set.length ≤ s.size) ∧ r.strip.size ≤ 20 ∧ r.add.size ≤ 20 := by
  unfold parseR at h
  split at h
  · rename_i a f c x y z hw
    have hmem : ∀ w ∈ [a, f, c, x, y, z], (32 : UInt8) ∉ w ∧ w.length ≤ s.data.toList.length := fun w hw' => wordsL_mem _ w (by rw [hw]; exact hw')
    unfold parse6 at h
    split at h
    · rename_i hc
      split at h
      · rename_i u v l hx hy hz
        simp only [Option.some.injEq] at h
        subst h
        obtain ⟨hf1, hf2, hf3, hf4⟩ := flagL_says hc.2.1
        obtain ⟨hx1, hx2, hx3⟩ := partL_says hx (hmem x (by simp)).1
        obtain ⟨hy1, hy2, hy3⟩ := partL_says hy (hmem y (by simp)).1
        have hzl := (hmem z (by simp)).2
        have hsl : s.data.toList.length = s.size := (Lib.size_eq s).symm
        have hzz : (⟨z.toArray⟩ : ByteArray).size = z.length := by show z.toArray.size = _; rw [List.size_toArray]
        obtain ⟨k1, k2, k3, k4, k5⟩ := parseS_wide hz
        refine ⟨?_, k4, fun it hit => by have := k5 it hit; omega, hx3, hy3⟩
        have hnb : (32 : UInt8) ∉ (textS l).data.toList := by
          unfold parseS at hz
          split at hz
          · cases hz
          · rename_i cs hcs
            have hpt := (codesB_says hcs).1
            have he := encL_codesB hcs
            have hz32 : (32 : Int) ∉ cs := fun hm => (hmem z (by simp)).1 (by
              have := (encL_mem hpt (b := 32) (by decide)).2 hm
              rw [he] at this
              exact this)
            have hall := (parseC_says hz).1
            intro hm
            have hpc : ∀ c ∈ textC l, Pt c := textC_mem k3 rfl rfl rfl rfl
            have h1 := (encL_mem hpc (b := 32) (by decide)).1 hm
            exact textC_mem (P := fun c => c ≠ 32) (fun it hit c hc e => hz32 (e ▸ (hall it hit).2.1 c hc)) (by decide) (by decide) (by decide) (by decide) _ h1 rfl
        have hpre : (32 : UInt8) ∉ (if decide (a = pfx) = true then pfx else sfx) := by split <;> decide
        have hcr : (32 : UInt8) ∉ (if decide (c = [89]) = true then [89] else [78] : List UInt8) := by split <;> decide
        have hfl : (32 : UInt8) ∉ [UInt8.ofNat (flagL f).toNat] := by rw [← hf1]; exact hf2
        have hline : parseR ⟨(lineL ⟨decide (a = pfx), flagL f, decide (c = [89]), u, v, l⟩ (textG l).data.toList).toArray⟩ = some ⟨decide (a = pfx), flagL f, decide (c = [89]), u, v, l⟩ := by
          rw [k2]
          unfold parseR lineL
          dsimp only
          rw [wordsL_app _ _ hpre, wordsL_app _ _ hfl, wordsL_app _ _ hcr, wordsL_app _ _ hx2, wordsL_app _ _ hy2, wordsL_one _ hnb]
          dsimp only
          have ha : (if decide (a = pfx) = true then pfx else sfx) = a := by
            rcases hc.1 with e | e
            · rw [e]; simp
            · rw [e]; decide
          have hcc : (if decide (c = [89]) = true then [89] else [78] : List UInt8) = c := by
            rcases hc.2.2 with e | e
            · rw [e]; simp
            · rw [e]; decide
          rw [ha, hcc, ← hf1]
          unfold parse6
          rw [if_pos hc, hx1, hy1, show (⟨((textS l).data.toList).toArray⟩ : ByteArray) = textS l by simp, k1]
        unfold textR
        rw [if_pos ⟨by dsimp only; omega, hf4, hline⟩]
        exact hline
      · cases h
    · cases h
  · cases h
theorem parseR_nil : parseR ⟨#[]⟩ = none := by decide +kernel
/-- A text that a rule has is read as that rule. -/
theorem textR_some {r q : Ru} (h : parseR (textR r) = some q) : r = q := by
  unfold textR at h
  split at h
  · rename_i hc
    rw [hc.2.2] at h
    exact Option.some.inj h
  · rw [parseR_nil] at h; cases h
/-- Rules that lines say are told by their texts. -/
theorem rules_told : ∀ (xs ys : List Ru), (∀ r ∈ xs, ∃ s, parseR s = some r) → xs.map textR = ys.map textR → xs = ys
  | [], [], _, _ => rfl
  | [], y :: ys, _, h => by simp at h
  | x :: xs, [], _, h => by simp at h
  | x :: xs, y :: ys, h, e => by
    rw [List.map_cons, List.map_cons] at e
    obtain ⟨e1, e2⟩ := List.cons.inj e
    obtain ⟨s, hs⟩ := h x (List.mem_cons_self ..)
    have h1 := (parseR_wide hs).1
    rw [e1] at h1
    rw [textR_some h1, rules_told xs ys (fun r hr => h r (List.mem_cons_of_mem _ hr)) e2]
theorem readA_saidW : ∀ (ls : List (List UInt8)) (d : Rd) (n : Nat) r, r ∈ (readA d n ls).rules → r ∈ d.rules ∨ ∃ l ∈ ls, parseR ⟨l.toArray⟩ = some r
  | [], d, n, r, h => .inl h
  | l :: ls, d, n, r, h => by
    rcases readA_saidW ls (stepA d n l) (n + 1) r h with h | ⟨x, hx, h⟩
    · unfold stepA at h
      split at h
      · exact .inl h
      · split at h
        · exact .inl h
        · split at h
          · rename_i q hq
            rcases List.mem_append.1 h with h | h
            · exact .inl h
            · rw [List.mem_singleton] at h
              subst h
              exact .inr ⟨l, List.mem_cons_self .., hq⟩
          · exact .inl h
    · exact .inr ⟨x, List.mem_cons_of_mem _ hx, h⟩
theorem line_le {s l : List UInt8} (h : l ∈ linesL s) : l.length ≤ s.length := Nat.le_trans (mem_sum _ l h) (linesL_sum s)
/-- The rules of a file that is read: lines say them. -/
theorem parseA_from {s : ByteArray} {r : Ru} (h : r ∈ (parseA s).1.rules) : ∃ l : List UInt8, parseR ⟨l.toArray⟩ = some r ∧ l.length ≤ s.size ∧ s.size ≤ 65536 := by
  have hsl : s.data.toList.length = s.size := (Lib.size_eq s).symm
  unfold parseA at h
  split at h
  · simp [af0] at h
  · rename_i hs
    unfold endA at h
    split at h
    · simp [af0] at h
    · split at h
      · simp [af0] at h
      · split at h
        · simp [af0] at h
        · rcases readA_saidW _ _ _ r h with h | ⟨l, hl, h⟩
          · simp [rd0] at h
          · exact ⟨l, h, by have := line_le hl; omega, by omega⟩
/-- What the landed Text compares by tells the same as the document's. -/
theorem textA_told (a : Af) : textA a = if (parseA ⟨(fileL a).toArray⟩).2.2 = 0 ∧ ((parseA ⟨(fileL a).toArray⟩).1.rules.map textR = a.rules.map textR ∧ (parseA ⟨(fileL a).toArray⟩).1.pairs = a.pairs) then ⟨(fileL a).toArray⟩ else ⟨#[]⟩ := by
  obtain ⟨P, hP⟩ : ∃ P, P = parseA ⟨(fileL a).toArray⟩ := ⟨_, rfl⟩
  have hf : ∀ r ∈ P.1.rules, ∃ s, parseR s = some r := fun r hr => by
    rw [hP] at hr
    obtain ⟨l, h, _⟩ := parseA_from hr
    exact ⟨_, h⟩
  unfold textA
  rw [← hP]
  by_cases hc : P.1 = a ∧ P.2.2 = 0
  · rw [if_pos hc, if_pos ⟨hc.2, by rw [hc.1], by rw [hc.1]⟩]
  · rw [if_neg hc, if_neg]
    rintro ⟨h0, h1, h2⟩
    refine hc ⟨?_, h0⟩
    have := rules_told _ _ hf h1
    obtain ⟨⟨p1, p2⟩, q⟩ := P
    obtain ⟨a1, a2⟩ := a
    dsimp only at this h2
    rw [this, h2]
end
end Go.Proofs.YteenleedonmkmaaGreatDoor
