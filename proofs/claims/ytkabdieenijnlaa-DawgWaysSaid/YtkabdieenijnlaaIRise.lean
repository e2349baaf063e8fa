/- Rising lists of texts, plain: no program. -/
namespace Go.Proofs.Ytkabdieenijnlaa

/-- A text stands before another, byte by byte. -/
def ltS (a b : ByteArray) : Prop := a.data.toList < b.data.toList
instance (a b : ByteArray) : Decidable (ltS a b) := inferInstanceAs (Decidable (a.data.toList < b.data.toList))
theorem ltS_irrefl (a : ByteArray) : ¬ ltS a a := List.lt_irrefl _
theorem ltS_trans {a b c : ByteArray} (h : ltS a b) (k : ltS b c) : ltS a c := List.lt_trans h k
theorem ltS_total {a b : ByteArray} (h : ¬ ltS a b) (hne : a ≠ b) : ltS b a := by
  have h1 : b.data.toList ≤ a.data.toList := List.not_lt.1 h
  rcases Classical.em (b.data.toList < a.data.toList) with h2 | h2
  · exact h2
  · exfalso
    apply hne
    have h3 := List.not_lt.1 h2
    have h4 : a.data.toList = b.data.toList := List.le_antisymm h3 h1
    have h5 : a.data = b.data := Array.toList_inj.1 h4
    cases a; cases b; simp at h5; rw [h5]
theorem ltS_asymm {a b : ByteArray} (h : ltS a b) : ¬ ltS b a := fun k => ltS_irrefl a (ltS_trans h k)

def Rising (l : List ByteArray) : Prop := l.Pairwise ltS
/-- A word into a rising list, once. -/
def putL : List ByteArray → ByteArray → List ByteArray
  | [], s => [s]
  | a :: r, s => if ltS a s then a :: putL r s else if a = s then a :: r else s :: a :: r
theorem putL_mem (s x : ByteArray) : ∀ l, x ∈ putL l s ↔ x = s ∨ x ∈ l
  | [] => by simp [putL]
  | a :: r => by
    unfold putL
    split
    · rw [List.mem_cons, putL_mem s x r, List.mem_cons]
      constructor
      · rintro (h | h | h)
        · exact .inr (.inl h)
        · exact .inl h
        · exact .inr (.inr h)
      · rintro (h | h | h)
        · exact .inr (.inl h)
        · exact .inl h
        · exact .inr (.inr h)
    · split
      · rename_i h; subst h
        rw [List.mem_cons]
        constructor
        · exact .inr
        · rintro (h | h)
          · exact .inl h
          · exact h
      · rw [List.mem_cons]
theorem putL_rising (s : ByteArray) : ∀ l, Rising l → Rising (putL l s)
  | [], _ => by simp [putL, Rising]
  | a :: r, h => by
    obtain ⟨h1, h2⟩ := List.pairwise_cons.1 h
    unfold putL
    split
    · rename_i hlt
      refine List.pairwise_cons.2 ⟨fun x hx => ?_, putL_rising s r h2⟩
      rcases (putL_mem s x r).1 hx with rfl | hx
      · exact hlt
      · exact h1 x hx
    · rename_i hn
      split
      · exact h
      · rename_i hne
        have hsa := ltS_total hn hne
        refine List.pairwise_cons.2 ⟨fun x hx => ?_, h⟩
        rcases List.mem_cons.1 hx with rfl | hx
        · exact hsa
        · exact ltS_trans hsa (h1 x hx)
theorem putL_length (s : ByteArray) : ∀ l, (putL l s).length ≤ l.length + 1
  | [] => by simp [putL]
  | a :: r => by
    unfold putL
    split
    · have := putL_length s r; simp only [List.length_cons]; omega
    · split <;> simp
/-- Rising lists with the same members are one. -/
theorem rising_eq : ∀ {l m : List ByteArray}, Rising l → Rising m → (∀ x, x ∈ l ↔ x ∈ m) → l = m
  | [], [], _, _, _ => rfl
  | [], b :: m, _, _, h => absurd ((h b).2 (List.mem_cons_self ..)) (by simp)
  | a :: l, [], _, _, h => absurd ((h a).1 (List.mem_cons_self ..)) (by simp)
  | a :: l, b :: m, hl, hm, h => by
    obtain ⟨l1, l2⟩ := List.pairwise_cons.1 hl
    obtain ⟨m1, m2⟩ := List.pairwise_cons.1 hm
    have hab : a = b := by
      rcases List.mem_cons.1 ((h a).1 (List.mem_cons_self ..)) with e | e
      · exact e
      · rcases List.mem_cons.1 ((h b).2 (List.mem_cons_self ..)) with e' | e'
        · exact e'.symm
        · exact absurd (l1 b e') (ltS_asymm (m1 a e))
    subst hab
    congr 1
    refine rising_eq l2 m2 fun x => ?_
    have hx := h x
    rw [List.mem_cons, List.mem_cons] at hx
    constructor
    · intro hm'
      rcases hx.1 (.inr hm') with e | e
      · subst e; exact absurd (l1 x hm') (ltS_irrefl x)
      · exact e
    · intro hm'
      rcases hx.2 (.inr hm') with e | e
      · subst e; exact absurd (m1 x hm') (ltS_irrefl x)
      · exact e

end Go.Proofs.Ytkabdieenijnlaa
