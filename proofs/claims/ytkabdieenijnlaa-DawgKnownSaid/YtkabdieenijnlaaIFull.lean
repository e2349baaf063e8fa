/- All words over two letters of a length, and up to it: plain, no program. -/
import Derived.Test.YtkabdieenijnlaaIApp
import Derived.Test.YtkabdieenijnlaaICount
namespace Go.Proofs.Ytkabdieenijnlaa
open Go Go.RowKit Go.Lib

def fullV (f : Bool) : Nat → List Bs
  | 0 => [[]]
  | k + 1 => fins f ++ ((fullV f k).map (97 :: ·) ++ ((fullV f k).map (98 :: ·) ++ []))
theorem fullV_ne (f : Bool) : ∀ k, fullV f k ≠ []
  | 0 => by simp [fullV]
  | k + 1 => by
    have := fullV_ne f k
    simp [fullV, this]
theorem above_full (V : List Bs) : Above 97 (V.map (98 :: ·) ++ []) := fun x hx => by
  rw [List.append_nil, List.mem_map] at hx
  obtain ⟨y, _, rfl⟩ := hx
  exact ⟨98, y, rfl, by decide⟩
theorem setS_full (f : Bool) : ∀ (k : Nat) (L : List Bs), SetS (fullV f k) L ↔ ∃ i, i ≤ k ∧ L = fullV f i
  | 0, L => by
    have : SetS (fullV f 0) L ↔ SetS (fins true ++ []) L := Iff.rfl
    rw [this, setS_fins]
    constructor
    · rintro (h | h)
      · exact ⟨0, Nat.le_refl _, h⟩
      · exact absurd h (setR_nil L)
    · rintro ⟨i, hi, rfl⟩
      obtain rfl : i = 0 := by omega
      exact .inl rfl
  | k + 1, L => by
    show SetS (fins f ++ ((fullV f k).map (97 :: ·) ++ ((fullV f k).map (98 :: ·) ++ []))) L ↔ _
    rw [setS_fins, setR_step (fullV_ne f k) (above_full _), setR_step (fullV_ne f k) (above_nil _), setS_full f k L]
    constructor
    · rintro (h | ⟨i, hi, h⟩ | ⟨i, hi, h⟩ | h)
      · exact ⟨k + 1, Nat.le_refl _, h⟩
      · exact ⟨i, by omega, h⟩
      · exact ⟨i, by omega, h⟩
      · exact absurd h (setR_nil L)
    · rintro ⟨i, hi, rfl⟩
      by_cases e : i = k + 1
      · subst e; exact .inl rfl
      · exact .inr (.inl ⟨i, by omega, rfl⟩)
theorem fullV_len (f : Bool) (k : Nat) : (fullV f k).length < (fullV f (k + 1)).length := by
  have h : 0 < (fullV f k).length := List.length_pos_iff.2 (fullV_ne f k)
  simp only [fullV, List.length_append, List.length_map, List.length_nil]
  omega
theorem fullV_mono (f : Bool) : ∀ (d i : Nat), (fullV f i).length < (fullV f (i + d + 1)).length
  | 0, i => fullV_len f i
  | d + 1, i => Nat.lt_trans (fullV_mono f d i) (fullV_len f _)
theorem fullV_inj (f : Bool) {i j : Nat} (h : fullV f i = fullV f j) : i = j := by
  have hl := congrArg List.length h
  rcases Nat.lt_trichotomy i j with hij | hij | hij
  · have := fullV_mono f (j - i - 1) i
    rw [show i + (j - i - 1) + 1 = j by omega] at this
    omega
  · exact hij
  · have := fullV_mono f (i - j - 1) j
    rw [show j + (i - j - 1) + 1 = i by omega] at this
    omega
theorem full_count {g : GA} {f : Bool} {k : Nat} (h : g.Ok) (hs : ∀ L, L ∈ g.N ↔ SetS (fullV f k) L) : g.nodes.length = k + 1 := by
  have hn : ((List.range (k + 1)).map (fullV f)).Nodup := by
    unfold List.Nodup
    rw [List.pairwise_map]
    exact List.nodup_range.imp fun {a b} hab e => hab (fullV_inj f e)
  rw [count_is h hs hn fun L => by
    rw [setS_full, List.mem_map]
    constructor
    · rintro ⟨i, hi, rfl⟩; exact ⟨i, List.mem_range.2 (by omega), rfl⟩
    · rintro ⟨i, hi, rfl⟩; exact ⟨i, by have := List.mem_range.1 hi; omega, rfl⟩]
  simp
/-- Of two letters. -/
def Two (b : Bs) : Prop := ∀ c ∈ b, c = 97 ∨ c = 98
theorem two_nil : Two [] := by intro c hc; cases hc
theorem two_cons (c : UInt8) (b : Bs) : Two (c :: b) ↔ (c = 97 ∨ c = 98) ∧ Two b := by simp [Two]
theorem two_snoc (c : UInt8) (b : Bs) : Two (b ++ [c]) ↔ Two b ∧ (c = 97 ∨ c = 98) := by
  unfold Two
  constructor
  · intro h
    exact ⟨fun x hx => h x (by simp [hx]), h c (by simp)⟩
  · rintro ⟨h1, h2⟩ x hx
    rw [List.mem_append, List.mem_singleton] at hx
    rcases hx with hx | rfl
    · exact h1 x hx
    · exact h2
theorem mem_full (f : Bool) : ∀ (k : Nat) (b : Bs), b ∈ fullV f k ↔ Two b ∧ (if f = true then b.length ≤ k else b.length = k)
  | 0, b => by
    have e : b ∈ fullV f 0 ↔ b = [] := by simp [fullV]
    rw [e]
    constructor
    · rintro rfl; exact ⟨two_nil, by split <;> simp⟩
    · rintro ⟨_, h⟩
      have : b.length = 0 := by split at h <;> omega
      exact List.eq_nil_of_length_eq_zero this
  | k + 1, b => by
    have e : b ∈ fullV f (k + 1) ↔ b ∈ fins f ∨ (∃ x ∈ fullV f k, 97 :: x = b) ∨ ∃ x ∈ fullV f k, 98 :: x = b := by simp [fullV]
    rw [e]
    cases b with
    | nil =>
      cases f with
      | false => simp [fins, Two]
      | true => simp [fins, Two]
    | cons c r =>
      have ih := mem_full f k r
      have hf : ¬ (c :: r) ∈ fins f := by cases f <;> simp [fins]
      have hl : (if f = true then (c :: r).length ≤ k + 1 else (c :: r).length = k + 1) ↔ (if f = true then r.length ≤ k else r.length = k) := by
        rw [List.length_cons]; split <;> omega
      rw [hl, two_cons]
      constructor
      · rintro (h | ⟨x, hx, e⟩ | ⟨x, hx, e⟩)
        · exact absurd h hf
        · injection e with e1 e2
          subst e1 e2
          exact ⟨⟨.inl rfl, (ih.1 hx).1⟩, (ih.1 hx).2⟩
        · injection e with e1 e2
          subst e1 e2
          exact ⟨⟨.inr rfl, (ih.1 hx).1⟩, (ih.1 hx).2⟩
      · rintro ⟨⟨rfl | rfl, h2⟩, h3⟩
        · exact .inr (.inl ⟨r, ih.2 ⟨h2, h3⟩, rfl⟩)
        · exact .inr (.inr ⟨r, ih.2 ⟨h2, h3⟩, rfl⟩)
theorem full_rise (f : Bool) : ∀ k, (fullV f k).Pairwise (· < ·)
  | 0 => by simp [fullV]
  | k + 1 => by
    have ih := full_rise f k
    have hm : ∀ c : UInt8, ((fullV f k).map (c :: ·)).Pairwise (· < ·) := fun c => by
      rw [List.pairwise_map]
      exact ih.imp fun {a b} h => List.cons_lt_cons_iff.2 (.inr ⟨rfl, h⟩)
    show (fins f ++ ((fullV f k).map (97 :: ·) ++ ((fullV f k).map (98 :: ·) ++ []))).Pairwise (· < ·)
    rw [List.append_nil, List.pairwise_append, List.pairwise_append]
    refine ⟨by cases f <;> simp [fins], ⟨hm _, hm _, ?_⟩, ?_⟩
    · intro a ha b hb
      obtain ⟨x, _, rfl⟩ := List.mem_map.1 ha
      obtain ⟨y, _, rfl⟩ := List.mem_map.1 hb
      exact List.cons_lt_cons_iff.2 (.inl (by decide))
    · intro a ha b hb
      obtain rfl : a = [] := by cases f <;> simp [fins] at ha; exact ha
      rw [List.mem_append, List.mem_map, List.mem_map] at hb
      rcases hb with ⟨y, _, rfl⟩ | ⟨y, _, rfl⟩ <;> exact List.nil_lt_cons _ _
def mkB (b : Bs) : ByteArray := ⟨b.toArray⟩
theorem mkB_back (x : ByteArray) : mkB x.data.toList = x := by cases x; simp [mkB]
def fullW (f : Bool) (k : Nat) : List ByteArray := (fullV f k).map mkB
theorem fullW_tail (f : Bool) (k : Nat) : (fullW f k).map (tailD 0) = fullV f k := by
  unfold fullW
  rw [List.map_map]
  conv => rhs; rw [← List.map_id (fullV f k)]
  apply List.map_congr_left
  intro b _
  simp [tailD, mkB]
theorem fullW_rise (f : Bool) (k : Nat) : Rising (fullW f k) := by
  unfold Rising fullW
  rw [List.pairwise_map]
  exact (full_rise f k).imp fun {a b} h => by
    show (mkB a).data.toList < (mkB b).data.toList
    simpa [mkB] using h
theorem mem_fullW (f : Bool) (k : Nat) (x : ByteArray) : x ∈ fullW f k ↔ Two x.data.toList ∧ (if f = true then x.data.toList.length ≤ k else x.data.toList.length = k) := by
  rw [← mem_full]
  unfold fullW
  rw [List.mem_map]
  constructor
  · rintro ⟨b, hb, rfl⟩; simpa [mkB] using hb
  · intro h; exact ⟨_, h, mkB_back x⟩

/-! ### As the law makes them -/
def dbl (x : ByteArray) : List ByteArray := [x ++ ⟨#[97]⟩, x ++ ⟨#[98]⟩]
def levB : Nat → List ByteArray
  | 0 => [⟨#[]⟩]
  | i + 1 => (levB i).flatMap dbl
def allB : Nat → List ByteArray
  | 0 => []
  | i + 1 => allB i ++ levB i
theorem lev_len : ∀ i, (levB i).length = 2 ^ i
  | 0 => rfl
  | i + 1 => by
    show ((levB i).flatMap dbl).length = _
    have : ∀ l : List ByteArray, (l.flatMap dbl).length = 2 * l.length := fun l => by
      induction l with
      | nil => rfl
      | cons a l ih => rw [List.flatMap_cons, List.length_append, ih, List.length_cons]; simp [dbl]; omega
    rw [this, lev_len i, Nat.pow_succ]; omega
theorem all_len : ∀ i, (allB i).length + 1 = 2 ^ i
  | 0 => rfl
  | i + 1 => by
    show (allB i ++ levB i).length + 1 = _
    rw [List.length_append, lev_len, Nat.pow_succ]
    have := all_len i
    omega
theorem pow_le {i : Nat} (h : i ≤ 6) : 2 ^ i ≤ 64 := Nat.pow_le_pow_right (n := 2) (by decide) h
theorem dbl_mem (x y : ByteArray) : x ∈ dbl y ↔ x.data.toList = y.data.toList ++ [97] ∨ x.data.toList = y.data.toList ++ [98] := by
  have key : ∀ c : UInt8, x = y ++ ⟨#[c]⟩ ↔ x.data.toList = y.data.toList ++ [c] := fun c => by
    constructor
    · rintro rfl; simp
    · intro h
      apply ByteArray.ext
      apply Array.toList_inj.1
      rw [h]; simp
  simp only [dbl, List.mem_cons, List.not_mem_nil, or_false, key]
theorem mem_lev : ∀ (i : Nat) (x : ByteArray), x ∈ levB i ↔ Two x.data.toList ∧ x.data.toList.length = i
  | 0, x => by
    have : x ∈ levB 0 ↔ x.data.toList = [] := by
      show x ∈ [⟨#[]⟩] ↔ _
      rw [List.mem_singleton]
      constructor
      · rintro rfl; rfl
      · intro h; apply ByteArray.ext; apply Array.toList_inj.1; rw [h]
    rw [this]
    constructor
    · intro h; rw [h]; exact ⟨two_nil, rfl⟩
    · rintro ⟨_, h⟩; exact List.eq_nil_of_length_eq_zero h
  | i + 1, x => by
    show x ∈ (levB i).flatMap dbl ↔ _
    rw [List.mem_flatMap]
    constructor
    · rintro ⟨y, hy, h⟩
      have ih := (mem_lev i y).1 hy
      rcases (dbl_mem x y).1 h with h | h <;> rw [h, two_snoc, List.length_append, ih.2] <;> exact ⟨⟨ih.1, by simp⟩, rfl⟩
    · rintro ⟨h1, h2⟩
      have hne : x.data.toList ≠ [] := by intro e; rw [e] at h2; cases h2
      have hd := List.dropLast_concat_getLast hne
      rw [← hd, two_snoc] at h1
      refine ⟨mkB x.data.toList.dropLast, (mem_lev i _).2 ⟨by simpa [mkB] using h1.1, by simp [mkB]; simp at h2; omega⟩, (dbl_mem _ _).2 ?_⟩
      have e : (mkB x.data.toList.dropLast).data.toList = x.data.toList.dropLast := by simp [mkB]
      rw [e]
      rcases h1.2 with h | h
      · left; rw [← h]; exact hd.symm
      · right; rw [← h]; exact hd.symm
theorem mem_all : ∀ (i : Nat) (x : ByteArray), x ∈ allB i ↔ Two x.data.toList ∧ x.data.toList.length < i
  | 0, x => by
    constructor
    · intro h; cases h
    · rintro ⟨_, h⟩; omega
  | i + 1, x => by
    show x ∈ allB i ++ levB i ↔ _
    rw [List.mem_append, mem_all i, mem_lev i]
    constructor
    · rintro (⟨h1, h2⟩ | ⟨h1, h2⟩)
      · exact ⟨h1, by omega⟩
      · exact ⟨h1, by omega⟩
    · rintro ⟨h1, h2⟩
      by_cases h : x.data.toList.length = i
      · exact .inr ⟨h1, h⟩
      · exact .inl ⟨h1, by omega⟩
def knownL (f : Bool) (k : Nat) : List ByteArray := if f = true then levB k ++ allB k else levB k
theorem known_mem (f : Bool) (k : Nat) (x : ByteArray) : x ∈ fullW f k ↔ x ∈ knownL f k := by
  rw [mem_fullW]
  unfold knownL
  cases f with
  | false => simp [mem_lev]
  | true =>
    simp only [if_true, List.mem_append, mem_lev, mem_all]
    constructor
    · rintro ⟨h1, h2⟩
      by_cases h : x.data.toList.length = k
      · exact .inl ⟨h1, h⟩
      · exact .inr ⟨h1, by omega⟩
    · rintro (⟨h1, h2⟩ | ⟨h1, h2⟩)
      · exact ⟨h1, by omega⟩
      · exact ⟨h1, by omega⟩
theorem known_len {f : Bool} {k : Nat} (h : k ≤ 6) : (knownL f k).length ≤ 128 := by
  have h1 := lev_len k
  have h2 := all_len k
  have h3 := pow_le h
  unfold knownL
  split
  · rw [List.length_append]; omega
  · omega
theorem known_short {f : Bool} {k : Nat} (h : k ≤ 6) : longL (knownL f k) = false := by
  unfold longL
  rw [List.any_eq_false]
  intro x hx
  have h1 := (mem_fullW f k x).1 ((known_mem f k x).2 hx)
  have h2 : x.data.toList.length ≤ k := by have := h1.2; split at this <;> omega
  rw [size_toList] at h2
  simp
  omega
theorem known_nil (f : Bool) (k : Nat) : decide (([] : Bs) ∈ fullV f k) = (f || decide (k = 0)) := by
  cases f with
  | true => exact decide_eq_true ((mem_full true k []).2 ⟨two_nil, by simp⟩)
  | false =>
    rw [Bool.false_or]
    by_cases h : k = 0
    · rw [decide_eq_true h]; exact decide_eq_true ((mem_full false k []).2 ⟨two_nil, by simp [h]⟩)
    · rw [decide_eq_false h]; exact decide_eq_false fun hm => h (by have := ((mem_full false k []).1 hm).2; simpa using this.symm)
end Go.Proofs.Ytkabdieenijnlaa
