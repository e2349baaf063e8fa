/- Words that rise, by what stands behind so many bytes: the group of the greatest byte. No program. -/
import Derived.Test.YtkabdieenijnlaaIPlain
namespace Go.Proofs.Ytkabdieenijnlaa

def tailD (d : Nat) (s : ByteArray) : Bs := s.data.toList.drop d
theorem size_toList (s : ByteArray) : s.data.toList.length = s.size := by rw [Array.length_toList]; rfl
theorem tailD_len (d : Nat) (s : ByteArray) : (tailD d s).length = s.size - d := by unfold tailD; rw [List.length_drop, size_toList]
theorem tailD_cons {s : ByteArray} {d : Nat} (h : d < s.size) : ∃ c, s.data.toList[d]? = some c ∧ tailD d s = c :: tailD (d + 1) s := by
  have hl : d < s.data.toList.length := by rw [size_toList]; exact h
  exact ⟨_, List.getElem?_eq_getElem hl, List.drop_eq_getElem_cons hl⟩
theorem tailD_end {s : ByteArray} {d : Nat} (h : s.size ≤ d) : tailD d s = [] := List.drop_eq_nil_of_le (by rw [size_toList]; exact h)
def hdOf (rs : List ByteArray) (d i : Nat) : UInt8 := (rs.getD i ⟨#[]⟩).data.toList.getD d 0
/-- Words that rise, each of more bytes than these. -/
structure Grp (rs : List ByteArray) (d : Nat) : Prop where
  sorted : (rs.map (tailD d)).Pairwise (· < ·)
  long : ∀ s ∈ rs, d < s.size
theorem Grp.at_ {rs : List ByteArray} {d : Nat} (h : Grp rs d) {i : Nat} (hi : i < rs.length) : ∃ s, rs[i]? = some s ∧ s.data.toList[d]? = some (hdOf rs d i) ∧ (rs.map (tailD d))[i]? = some (hdOf rs d i :: tailD (d + 1) s) := by
  have e : rs[i]? = some rs[i] := List.getElem?_eq_getElem hi
  obtain ⟨c, hc, ht⟩ := tailD_cons (h.long _ (List.getElem_mem hi))
  have eh : hdOf rs d i = c := by
    unfold hdOf
    simp only [List.getD_eq_getElem?_getD, e, Option.getD_some, hc]
  exact ⟨_, e, by rw [eh]; exact hc, by rw [List.getElem?_map, e, eh]; simp [ht]⟩
theorem pw_at {α : Type} {R : α → α → Prop} {l : List α} (h : l.Pairwise R) {i j : Nat} {x y : α} (hij : i < j) (hx : l[i]? = some x) (hy : l[j]? = some y) : R x y := by
  obtain ⟨h1, e1⟩ := List.getElem?_eq_some_iff.1 hx
  obtain ⟨h2, e2⟩ := List.getElem?_eq_some_iff.1 hy
  rw [← e1, ← e2]
  exact List.pairwise_iff_getElem.1 h i j h1 h2 hij
theorem Grp.mono {rs : List ByteArray} {d : Nat} (h : Grp rs d) : ∀ i j, i ≤ j → j < rs.length → hdOf rs d i ≤ hdOf rs d j := by
  intro i j hij hj
  rcases Nat.eq_or_lt_of_le hij with rfl | hlt
  · exact UInt8.le_refl _
  · obtain ⟨s, _, _, h1⟩ := h.at_ (i := i) (by omega)
    obtain ⟨t, _, _, h2⟩ := h.at_ hj
    have h3 := pw_at h.sorted hlt h1 h2
    rcases List.cons_lt_cons_iff.1 h3 with h4 | ⟨h4, _⟩
    · exact UInt8.le_of_lt h4
    · rw [h4]; exact UInt8.le_refl _
/-- Below and from so many on, the bytes part. -/
def Sep (rs : List ByteArray) (d m : Nat) : Prop := ∀ i j, i < m → m ≤ j → j < rs.length → hdOf rs d i < hdOf rs d j
theorem Sep.all (rs : List ByteArray) (d : Nat) : Sep rs d rs.length := fun _ j _ h1 h2 => by omega
/-- The words of the greatest byte. -/
def grpM (rs : List ByteArray) (_d k m : Nat) : List ByteArray := (rs.take m).drop k
theorem Grp.step {rs : List ByteArray} {d m k : Nat} (h : Grp rs d) (hm : 0 < m) (hml : m ≤ rs.length) (hs : Sep rs d m) (hk : k ≤ m) (h1 : ∀ i, i < k → hdOf rs d i < hdOf rs d (m - 1)) (h2 : ∀ i, k ≤ i → i < m → hdOf rs d (m - 1) ≤ hdOf rs d i) :
    k < m ∧ (grpM rs d k m).map (tailD (d + 1)) ≠ [] ∧ (rs.map (tailD d)).drop k = ((grpM rs d k m).map (tailD (d + 1))).map (hdOf rs d (m - 1) :: ·) ++ (rs.map (tailD d)).drop m ∧ Above (hdOf rs d (m - 1)) ((rs.map (tailD d)).drop m) ∧
      ((grpM rs d k m).map (tailD (d + 1))).Pairwise (· < ·) ∧ Sep rs d k := by
  have hkm : k < m := by
    rcases Nat.eq_or_lt_of_le hk with rfl | h'
    · exact absurd (h1 (k - 1) (by omega)) (UInt8.lt_irrefl _)
    · exact h'
  have hlen : (grpM rs d k m).length = m - k := by unfold grpM; rw [List.length_drop, List.length_take]; omega
  have heq : ∀ i, k ≤ i → i < m → hdOf rs d i = hdOf rs d (m - 1) := fun i hi hi' => UInt8.le_antisymm (h.mono i (m - 1) (by omega) (by omega)) (h2 i hi hi')
  have hmap : (grpM rs d k m).map (tailD d) = ((grpM rs d k m).map (tailD (d + 1))).map (hdOf rs d (m - 1) :: ·) := by
    apply List.ext_getElem?
    intro j
    rw [List.map_map, List.getElem?_map, List.getElem?_map]
    by_cases hj : j < m - k
    · obtain ⟨s, e1, e2, e3⟩ := h.at_ (i := k + j) (by omega)
      have e4 : (grpM rs d k m)[j]? = some s := by unfold grpM; rw [List.getElem?_drop, List.getElem?_take_of_lt (by omega), e1]
      rw [List.getElem?_map, e1] at e3
      rw [e4]
      simp only [Option.map_some, Option.some.injEq, Function.comp] at e3 ⊢
      rw [e3, heq (k + j) (by omega) (by omega)]
    · rw [List.getElem?_eq_none (by omega)]
      rfl
  have hsplit : (rs.map (tailD d)).drop k = (grpM rs d k m).map (tailD d) ++ (rs.map (tailD d)).drop m := by
    have e : rs.drop k = grpM rs d k m ++ rs.drop m := by
      unfold grpM
      rw [List.drop_take]
      have : rs.drop m = (rs.drop k).drop (m - k) := by rw [List.drop_drop, Nat.add_sub_cancel' hk]
      rw [this, List.take_append_drop]
    rw [← List.map_drop, e, List.map_append, List.map_drop]
  refine ⟨hkm, ?_, by rw [← hmap]; exact hsplit, ?_, ?_, ?_⟩
  · intro e
    have := congrArg List.length e
    rw [List.length_map, hlen] at this
    simp at this
    omega
  · intro x hx
    obtain ⟨j, hj⟩ := List.getElem?_of_mem hx
    rw [List.getElem?_drop] at hj
    have hjl : m + j < rs.length := by have := (List.getElem?_eq_some_iff.1 hj).1; rw [List.length_map] at this; exact this
    obtain ⟨s, _, _, e3⟩ := h.at_ hjl
    rw [hj] at e3
    exact ⟨_, _, Option.some.inj e3, hs (m - 1) (m + j) (by omega) (by omega) hjl⟩
  · have hp : ((grpM rs d k m).map (tailD d)).Pairwise (· < ·) := by
      have hsub : ((rs.map (tailD d)).drop k).Pairwise (· < ·) := h.sorted.sublist (List.drop_sublist _ _)
      rw [hsplit] at hsub
      exact (List.pairwise_append.1 hsub).1
    rw [hmap, List.pairwise_map] at hp
    exact hp.imp fun {a b} hab => by
      rcases List.cons_lt_cons_iff.1 hab with h4 | ⟨_, h4⟩
      · exact absurd h4 (UInt8.lt_irrefl _)
      · exact h4
  · intro i j hi hj hjl
    rcases Nat.lt_or_ge j m with hjm | hjm
    · rw [heq j hj hjm]; exact h1 i hi
    · exact hs i j (by omega) hjm hjl
/-- The first word may end here; all others are longer. -/
theorem first_split {ws : List ByteArray} {d : Nat} (h : (ws.map (tailD d)).Pairwise (· < ·)) (hl : ∀ s ∈ ws, d ≤ s.size) :
    (ws = [] ∧ Grp ws d) ∨ (∃ s rs, ws = s :: rs ∧ s.size = d ∧ Grp rs d ∧ ws.map (tailD d) = fins true ++ rs.map (tailD d)) ∨ ∃ s rs, ws = s :: rs ∧ d < s.size ∧ Grp ws d := by
  cases ws with
  | nil => exact .inl ⟨rfl, ⟨List.Pairwise.nil, fun _ h => by cases h⟩⟩
  | cons s rs =>
    right
    rw [List.map_cons] at h
    obtain ⟨h1, h2⟩ := List.pairwise_cons.1 h
    have hrest : ∀ t ∈ rs, d < t.size := fun t ht => by
      have h3 := h1 _ (List.mem_map.2 ⟨t, ht, rfl⟩)
      have h4 := tailD_len d t
      rcases Nat.lt_or_ge d t.size with h5 | h5
      · exact h5
      · rw [tailD_end h5] at h3
        exact absurd h3 (List.not_lt_nil _)
    rcases Nat.eq_or_lt_of_le (hl s (List.mem_cons_self ..)) with e | e
    · exact .inl ⟨s, rs, rfl, e.symm, ⟨h2, hrest⟩, by rw [List.map_cons, tailD_end (Nat.le_of_eq e.symm)]; rfl⟩
    · refine .inr ⟨s, rs, rfl, e, ⟨by rw [List.map_cons]; exact h, fun t ht => ?_⟩⟩
      rcases List.mem_cons.1 ht with rfl | ht
      · exact e
      · exact hrest t ht
end Go.Proofs.Ytkabdieenijnlaa
