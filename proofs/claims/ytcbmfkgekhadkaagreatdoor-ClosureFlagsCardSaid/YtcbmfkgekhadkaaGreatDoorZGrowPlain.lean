/- Stage 13's laws ClosureGrows and ClosureFlags, plain: more rules, never fewer forms; what rules that always apply make. -/
import Derived.Test.YtcbmfkgekhadkaaGreatDoorZGb
namespace Go.Proofs.YtcbmfkgekhadkaaGreatDoor
open Go Go.Lib

theorem rising_len : ∀ {m l : List ByteArray}, Rising l → Rising m → (∀ x ∈ l, x ∈ m) → l.length ≤ m.length
  | [], l, _, _, h => by
    cases l with
    | nil => exact Nat.le_refl _
    | cons a l => exact absurd (h a (List.mem_cons_self ..)) (by simp)
  | b :: m, [], _, _, _ => Nat.zero_le _
  | b :: m, a :: l, hl, hm, h => by
    obtain ⟨l1, l2⟩ := List.pairwise_cons.1 hl
    obtain ⟨m1, m2⟩ := List.pairwise_cons.1 hm
    by_cases hab : a = b
    · subst hab
      have := rising_len l2 m2 fun x hx => by
        rcases List.mem_cons.1 (h x (List.mem_cons_of_mem _ hx)) with e | e
        · subst e; exact absurd (l1 x hx) (ltS_irrefl x)
        · exact e
      simp only [List.length_cons]; omega
    · have ha : a ∈ m := by
        rcases List.mem_cons.1 (h a (List.mem_cons_self ..)) with e | e
        · exact absurd e hab
        · exact e
      have hba := m1 a ha
      have := rising_len (m := m) (l := a :: l) hl m2 fun x hx => by
        rcases List.mem_cons.1 (h x hx) with e | e
        · subst e
          rcases List.mem_cons.1 hx with e | e
          · exact absurd e.symm hab
          · exact absurd (l1 x e) (ltS_asymm hba)
        · exact e
      simp only [List.length_cons] at this ⊢; omega
theorem isform_more {rs rs' : List Ru} (h : ∀ r ∈ rs, r ∈ rs') (e : En) (x : ByteArray) (hx : IsForm rs e x) : IsForm rs' e x := by
  rcases hx with h1 | ⟨r, hr, h1⟩ | ⟨p, hp, s, hs, h1⟩
  · exact .inl h1
  · exact .inr (.inl ⟨r, h r hr, h1⟩)
  · exact .inr (.inr ⟨p, h p hp, s, h s hs, h1⟩)
theorem allF_more {rs rs' : List Ru} (h : ∀ r ∈ rs, r ∈ rs') (es : List En) : (allF rs es).length ≤ (allF rs' es).length :=
  rising_len (allF_rising rs es) (allF_rising rs' es) fun x hx => by
    rw [allF_mem] at hx ⊢
    obtain ⟨e, he, hx⟩ := hx
    exact ⟨e, he, isform_more h e x hx⟩
theorem allF_word (rs : List Ru) {es : List En} {e : En} (h : e ∈ es) : e.word ∈ allF rs es := by
  rw [allF_mem]
  exact ⟨e, h, .inl rfl⟩
theorem allF_pos (rs : List Ru) {es : List En} (h : 0 < es.length) : 0 < (allF rs es).length := by
  cases es with
  | nil => simp at h
  | cons e es => exact List.length_pos_of_mem (allF_word rs (List.mem_cons_self ..))

/-! ### Rules of single digits, each with a flag of its own -/
def anyT : List It := [⟨true, false, []⟩]
def dig10 (i : Nat) : ByteArray := ⟨#[UInt8.ofNat (48 + i)]⟩
def flR (c : Bool) (i : Nat) : Ru := ⟨false, 97 + i, c, ⟨#[]⟩, dig10 i, anyT⟩
def rsT (c : Bool) : List Ru := (List.range 10).map (flR c)
def wordT (k : Nat) : ByteArray := ⟨((List.range (k + 1)).map fun i => UInt8.ofNat (97 + i)).toArray⟩
def formT (k d : Nat) : ByteArray := wordT k ++ dig10 d
def wantT (k : Nat) (fl : List Int) : List ByteArray := wordT k :: ((List.range 10).filter fun (d : Nat) => decide (97 + (d : Int) ∈ fl)).map (formT k)
theorem apply_T : ∀ (k d : Fin 10) (c : Bool), applyR (flR c d.1) (wordT k.1) = formT k.1 d.1 ∧ (formT k.1 d.1).size ≠ 0 := by decide +kernel
theorem rise_T : ∀ k : Fin 10, Rising (wordT k.1 :: (List.range 10).map (formT k.1)) := by unfold Rising; decide +kernel
theorem want_rise (k : Fin 10) (fl : List Int) : Rising (wantT k.1 fl) := by
  have h := rise_T k
  unfold Rising wantT at *
  exact h.sublist (List.Sublist.cons_cons _ (List.Sublist.map _ List.filter_sublist))
theorem forms_T (k : Fin 10) (fl : List Int) (c : Bool) : formsL (rsT c) ⟨wordT k.1, fl⟩ = wantT k.1 fl := by
  refine rising_eq (forms_rising _ _) (want_rise k fl) fun x => ?_
  rw [forms_mem]
  unfold IsForm wantT
  rw [List.mem_cons, List.mem_map]
  dsimp only
  constructor
  · rintro (h | ⟨r, hr, hf, hs, rfl⟩ | ⟨p, hp, s, hs, _, _, h, _⟩)
    · exact .inl h
    · obtain ⟨d, hd, rfl⟩ := List.mem_map.1 hr
      have hd10 := List.mem_range.1 hd
      exact .inr ⟨d, List.mem_filter.2 ⟨hd, decide_eq_true hf⟩, (apply_T k ⟨d, hd10⟩ c).1.symm⟩
    · obtain ⟨d, hd, rfl⟩ := List.mem_map.1 hp
      exact absurd (both_wants h).1 (by simp [flR])
  · rintro (h | ⟨d, hd, rfl⟩)
    · exact .inl h
    · obtain ⟨hd, hf⟩ := List.mem_filter.1 hd
      have hd10 := List.mem_range.1 hd
      have h1 := apply_T k ⟨d, hd10⟩ c
      exact .inr (.inl ⟨flR c d, List.mem_map.2 ⟨d, hd, rfl⟩, of_decide_eq_true hf, by rw [h1.1]; exact h1.2, h1.1.symm⟩)
end Go.Proofs.YtcbmfkgekhadkaaGreatDoor
