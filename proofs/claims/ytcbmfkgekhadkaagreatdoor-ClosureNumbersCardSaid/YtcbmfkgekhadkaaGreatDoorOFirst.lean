/- cond's bracketed and first by contract. -/
import Derived.Test.YtcbmfkgekhadkaaGreatDoorZGc
import Derived.Test.YtcbmfkgekhadkaaGreatDoorCodes
namespace Go.Proofs.YtcbmfkgekhadkaaGreatDoor
open Go Go.RowKit

theorem takeSet_noneO : ∀ {r : List Int}, (∀ c ∈ r, c ≠ 93) → takeSet r = none
  | [], _ => rfl
  | c :: r, h => by
    unfold takeSet
    rw [if_neg (h c (List.mem_cons_self ..)), takeSet_noneO fun x hx => h x (List.mem_cons_of_mem _ hx)]
    rfl
/-- What a bracket's codes are, by where the closing one stands. -/
theorem setC_none {neg : Bool} {r : List Int} (h : ∀ c ∈ r, c ≠ 93) : setC neg r = none := by
  unfold setC; rw [takeSet_noneO h]
theorem split_at {r : List Int} {k : Nat} (hk : r[k]? = some 93) (hne : ∀ j, j < k → r[j]? ≠ some 93) : r = r.take k ++ 93 :: r.drop (k + 1) ∧ (∀ c ∈ r.take k, c ≠ 93) ∧ (r.take k).length = k := by
  obtain ⟨hlt, he⟩ := List.getElem?_eq_some_iff.1 hk
  refine ⟨?_, fun c hc e => ?_, by rw [List.length_take]; omega⟩
  · have := List.take_append_drop k r
    rw [List.drop_eq_getElem_cons hlt, he] at this
    exact this.symm
  · obtain ⟨j, hj, hjc⟩ := List.getElem_of_mem hc
    rw [List.length_take] at hj
    refine hne j (by omega) ?_
    rw [List.getElem?_eq_getElem (by omega), ← e, ← hjc, List.getElem_take]
/-- What a read item is answered as. -/
def HeadR (w w' : World) (cs : List Int) (e : Ending) : Prop :=
  match headC cs with
  | none => e = .returned (.tuple #[.agg #[.bool false, .bool false, .slice none 0 0], .int .i64 0])
  | some (it, r) => ∃ sv, e = .returned (.tuple #[.agg #[.bool it.any, .bool it.not, sv], .int .i64 ((cs.length - r.length : Nat) : Int)]) ∧ IntsAt w' sv it.set ∧ ∀ b, sv.ownBlock = some b → w.heap.size ≤ b ∧ b < w'.heap.size

theorem HeadR.no {w w' : World} {cs : List Int} {e : Ending} (h : headC cs = none) (he : e = .returned (.tuple #[.agg #[.bool false, .bool false, .slice none 0 0], .int .i64 0])) : HeadR w w' cs e := by
  unfold HeadR; rw [h]; exact he
theorem HeadR.yes {w w' : World} {cs r : List Int} {it : It} {e : Ending} {sv : Value} {n : Nat} (h : headC cs = some (it, r)) (hn : cs.length - r.length = n) (he : e = .returned (.tuple #[.agg #[.bool it.any, .bool it.not, sv], .int .i64 n])) (hi : IntsAt w' sv it.set) (hb : ∀ b, sv.ownBlock = some b → w.heap.size ≤ b ∧ b < w'.heap.size) : HeadR w w' cs e := by
  unfold HeadR; rw [h]; subst hn; exact ⟨sv, he, hi, hb⟩
/-- A part of a slice reads as that part. -/
theorem ints_part {w : World} {b off n cap : Nat} {cs : List Int} (hlt : b < w.heap.size) (hm : cap ≤ maxLen) (hc : ∀ (i : Nat) c, cs[i]? = some c → w.cell? ⟨b, off + i, none⟩ = some (.int .i64 c)) (k m : Nat) (hn : n = ((cs.drop k).take m).length) (hcap : n + k ≤ cap) : IntsAt w (.slice (some ⟨b, off + k, none⟩) n (cap - k)) ((cs.drop k).take m) := by
  subst hn
  refine .inr ⟨b, off + k, cap - k, rfl, hlt, by omega, by omega, fun i c hi => ?_⟩
  have := (List.getElem?_eq_some_iff.1 hi).1
  rw [List.getElem?_take_of_lt (by rw [List.length_take] at this; omega), List.getElem?_drop] at hi
  rw [Nat.add_assoc]
  exact hc _ _ hi

/-- Numbers in another block stand when a box of three cells is written. -/
theorem ints_set3 {w : World} {sv : Value} {cs : List Int} {H : Nat} (h : IntsAt w sv cs) (hb : ∀ b, sv.ownBlock = some b → b ≠ H) (a b c : Value) : IntsAt (((w.setCell ⟨H, 0, none⟩ a).setCell ⟨H, 1, none⟩ b).setCell ⟨H, 2, none⟩ c) sv cs := by
  refine h.still (by simp [World.setCell]) fun g hg _ => ?_
  have hne := hb g hg
  rw [Below.heap_setCell _ _ _ _ hne, Below.heap_setCell _ _ _ _ hne, Below.heap_setCell _ _ _ _ hne]
theorem below_set3 {B : Nat} {w w' : World} {H : Nat} (h : Below B w w') (hB : B ≤ H) (a b c : Value) : Below B w (((w'.setCell ⟨H, 0, none⟩ a).setCell ⟨H, 1, none⟩ b).setCell ⟨H, 2, none⟩ c) :=
  ((h.setCell (p := ⟨H, 0, none⟩) hB _).setCell (p := ⟨H, 1, none⟩) hB _).setCell (p := ⟨H, 2, none⟩) hB _
theorem own_new {w w2 : World} {o : Obj} {sv : Value} {n : Nat} {xs : List Value} (h : w2.ownsRow (w.alloc o).heap.size 3 1 sv n xs) : ∀ b, sv.ownBlock = some b → w.heap.size < b ∧ b < w2.heap.size := by
  intro b hb
  have := h.lt b hb
  rw [World.size_alloc] at this
  omega

theorem bracket_cases {r : List Int} {k : Nat} (hk : (91 :: r)[k]? = some 93) (hne : ∀ j, j < k → (91 :: r)[j]? ≠ some 93) : 1 ≤ k ∧ k < (91 :: r).length ∧
    ((k = 1 ∧ headC (91 :: r) = none) ∨ (k = 2 ∧ (91 :: r)[1]? = some 94 ∧ headC (91 :: r) = none) ∨
    (3 ≤ k ∧ (91 :: r)[1]? = some 94 ∧ ∃ set b, headC (91 :: r) = some (⟨false, true, set⟩, b) ∧ set = ((91 :: r).drop 2).take (k - 2) ∧ set.length = k - 2 ∧ (91 :: r).length - b.length = k + 1) ∨
    (2 ≤ k ∧ ∃ c, (91 :: r)[1]? = some c ∧ c ≠ 94 ∧ ∃ set b, headC (91 :: r) = some (⟨false, false, set⟩, b) ∧ set = ((91 :: r).drop 1).take (k - 1) ∧ set.length = k - 1 ∧ (91 :: r).length - b.length = k + 1)) := by
  obtain ⟨hlt, -⟩ := List.getElem?_eq_some_iff.1 hk
  have h1 : 1 ≤ k := by
    rcases Nat.eq_zero_or_pos k with rfl | h
    · simp at hk
    · exact h
  obtain ⟨m, rfl⟩ : ∃ m, k = m + 1 := ⟨k - 1, by omega⟩
  rw [List.getElem?_cons_succ] at hk
  have hne' : ∀ j, j < m → r[j]? ≠ some 93 := fun j hj => by have := hne (j + 1) (by omega); rwa [List.getElem?_cons_succ] at this
  obtain ⟨s1, s2, s3⟩ := split_at hk hne'
  have hh : headC (91 :: r) = if r.head? = some 94 then setC true r.tail else setC false r := by
    rw [headC_cons, if_neg (by decide), if_neg (by decide), if_pos rfl]
  have hlen : r.length = m + (r.drop (m + 1)).length + 1 := by rw [List.length_drop]; simp at hlt; omega
  refine ⟨by omega, hlt, ?_⟩
  rw [List.getElem?_cons_succ]
  match m, r, s1, s2, s3, hh, hlen with
  | 0, r, s1, s2, s3, hh, hlen =>
    left
    refine ⟨rfl, ?_⟩
    rw [hh, s1]
    rfl
  | m + 1, r, s1, s2, s3, hh, hlen =>
    right
    cases hr : r with
    | nil => rw [hr] at hlen; simp at hlen
    | cons x r' =>
      have ht : r.take (m + 1) = x :: r'.take m := by rw [hr]; rfl
      have hd : r.drop (m + 1 + 1) = r'.drop (m + 1) := by rw [hr]; rfl
      have e1 : r' = r'.take m ++ 93 :: r'.drop (m + 1) := by
        have := s1
        rw [ht, hd, hr, List.cons_append] at this
        exact (List.cons.inj this).2
      have e2 : ∀ c ∈ r'.take m, c ≠ 93 := fun c hc => s2 c (by rw [ht]; exact List.mem_cons_of_mem _ hc)
      have e3 : (r'.take m).length = m := by rw [ht] at s3; simpa using s3
      have e4 : r'.length = m + 1 + (r'.drop (m + 1)).length := by
        conv => lhs; rw [e1]
        rw [List.length_append, e3, List.length_cons]; omega
      rw [hr] at hh
      simp only [List.head?_cons, List.tail_cons, Option.some.injEq] at hh
      simp only [List.length_cons, List.getElem?_cons_zero, Option.some.injEq, List.drop_succ_cons, List.drop_zero]
      by_cases hx : x = 94
      · rw [if_pos hx] at hh
        by_cases hm : m = 0
        · left
          subst hm
          refine ⟨rfl, hx, ?_⟩
          rw [hh, e1]
          rfl
        · right; left
          refine ⟨by omega, hx, r'.take m, r'.drop (m + 1), ?_, by simp, by rw [e3]; omega, by omega⟩
          rw [hh]
          conv => lhs; rw [e1]
          exact setC_app (fun e => hm (by rw [← e3, e]; rfl)) e2
      · rw [if_neg hx] at hh
        right; right
        refine ⟨by omega, x, rfl, hx, x :: r'.take m, r'.drop (m + 1), ?_, by simp, by simp [e3], by omega⟩
        rw [hh]
        conv => lhs; rw [e1]
        exact setC_app (a := x :: r'.take m) (by simp) (by rw [← ht]; exact s2)

theorem HeadR.elim {w w' : World} {cs : List Int} {e : Ending} (h : HeadR w w' cs e) : (headC cs = none ∧ e = .returned (.tuple #[.agg #[.bool false, .bool false, .slice none 0 0], .int .i64 0])) ∨
    ∃ it r ao n cp, headC cs = some (it, r) ∧ e = .returned (.tuple #[.agg #[.bool it.any, .bool it.not, .slice ao n cp], .int .i64 ((cs.length - r.length : Nat) : Int)]) ∧ IntsAt w' (.slice ao n cp) it.set ∧ ∀ b, (Value.slice ao n cp).ownBlock = some b → w.heap.size ≤ b ∧ b < w'.heap.size := by
  unfold HeadR at h
  cases hh : headC cs with
  | none => rw [hh] at h; exact .inl ⟨rfl, h⟩
  | some x =>
    obtain ⟨it, r⟩ := x
    rw [hh] at h
    obtain ⟨sv, h1, h2, h3⟩ := h
    obtain ⟨ao, n, cp, rfl⟩ : ∃ ao n cp, sv = .slice ao n cp := by
      rcases h2 with ⟨_, a, cap, e⟩ | ⟨b, off, cap, e, _⟩
      · exact ⟨_, _, _, e⟩
      · exact ⟨_, _, _, e⟩
    exact .inr ⟨it, r, ao, n, cp, rfl, h1, h2, h3⟩

end Go.Proofs.YtcbmfkgekhadkaaGreatDoor
