/- Distances of words, plain: no program. Lists are read from the last code on (reversed): ways from one to another by changes, the least of them. -/
import Derived.Lib.Hide
namespace Go.Proofs.Ytbghfbhchmoddaa
open Go

/-- a becomes b in n changes. -/
inductive Way : Nat → List Int → List Int → Prop
  | nil : Way 0 [] []
  | del {n a b} (x : Int) : Way n a b → Way (n + 1) (x :: a) b
  | ins {n a b} (y : Int) : Way n a b → Way (n + 1) a (y :: b)
  | same {n a b} (x : Int) : Way n a b → Way n (x :: a) (x :: b)
  | sub {n a b} (x y : Int) : Way n a b → Way (n + 1) (x :: a) (y :: b)
  | swap {n a b} (x y : Int) : Way n a b → Way (n + 1) (x :: y :: a) (y :: x :: b)

/-- The recurrence. -/
def osaF : Nat → List Int → List Int → Nat
  | 0, _, _ => 0
  | f + 1, a, b =>
    match a, b with
    | [], b => b.length
    | a, [] => a.length
    | x :: a, y :: b =>
      let v := min (min (osaF f a (y :: b) + 1) (osaF f (x :: a) b + 1)) (osaF f a b + if x = y then 0 else 1)
      match a, b with
      | x' :: a', y' :: b' => if x = y' ∧ x' = y then min v (osaF f a' b' + 1) else v
      | _, _ => v
def osa (a b : List Int) : Nat := osaF (a.length + b.length + 1) a b

theorem way_self : ∀ a, Way 0 a a
  | [] => .nil
  | x :: a => .same x (way_self a)
theorem way_left : ∀ a, Way a.length a []
  | [] => .nil
  | x :: a => .del x (way_left a)
theorem way_right : ∀ b, Way b.length [] b
  | [] => .nil
  | x :: b => .ins x (way_right b)
theorem Way.symm {n a b} (h : Way n a b) : Way n b a := by
  induction h with
  | nil => exact .nil
  | del x _ ih => exact .ins x ih
  | ins y _ ih => exact .del y ih
  | same x _ ih => exact .same x ih
  | sub x y _ ih => exact .sub y x ih
  | swap x y _ ih => exact .swap y x ih
theorem Way.zero {n a b} (h : Way n a b) (h0 : n = 0) : a = b := by
  induction h with
  | nil => rfl
  | same x _ ih => rw [ih h0]
  | del => omega
  | ins => omega
  | sub => omega
  | swap => omega
theorem Way.len {n a b} (h : Way n a b) : a.length ≤ n + b.length ∧ b.length ≤ n + a.length := by
  induction h <;> simp only [List.length_cons, List.length_nil] at * <;> omega
theorem Way.app {n a b} (c : List Int) (h : Way n a b) : Way n (a ++ c) (b ++ c) := by
  induction h with
  | nil => exact way_self c
  | del x _ ih => exact .del x ih
  | ins y _ ih => exact .ins y ih
  | same x _ ih => exact .same x ih
  | sub x y _ ih => exact .sub x y ih
  | swap x y _ ih => exact .swap x y ih
theorem way_max : ∀ a b : List Int, ∃ n, n ≤ max a.length b.length ∧ Way n a b
  | [], b => ⟨_, by simp, way_right b⟩
  | x :: a, [] => ⟨_, by simp, way_left _⟩
  | x :: a, y :: b => by
    obtain ⟨n, h, hw⟩ := way_max a b
    exact ⟨n + 1, by simp only [List.length_cons]; omega, .sub x y hw⟩

theorem osaF_le : ∀ (f : Nat) (a b : List Int), a.length + b.length < f → ∀ n, Way n a b → osaF f a b ≤ n
  | 0, _, _, hf, _, _ => by omega
  | f + 1, a, b, hf, n, hw => by
    have ih := osaF_le f
    cases hw with
    | nil => simp [osaF]
    | same x hw =>
      rename_i a b
      simp only [List.length_cons] at hf
      have h := ih a b (by omega) _ hw
      unfold osaF
      cases a <;> cases b <;> simp only [if_true] <;> (try split) <;> omega
    | del x hw =>
      rename_i n a
      simp only [List.length_cons] at hf
      cases b with
      | nil =>
        have := hw.len
        simp only [osaF, List.length_cons, List.length_nil] at this ⊢
        omega
      | cons y b =>
        have h := ih a (y :: b) (by simp only [List.length_cons] at hf ⊢; omega) _ hw
        unfold osaF
        cases a <;> cases b <;> dsimp only <;> (try split) <;> (try split) <;> omega
    | ins y hw =>
      rename_i n b
      simp only [List.length_cons] at hf
      cases a with
      | nil =>
        have := hw.len
        simp only [osaF, List.length_cons, List.length_nil] at this ⊢
        omega
      | cons x a =>
        have h := ih (x :: a) b (by simp only [List.length_cons] at hf ⊢; omega) _ hw
        unfold osaF
        cases a <;> cases b <;> dsimp only <;> (try split) <;> (try split) <;> omega
    | sub x y hw =>
      rename_i n a b
      simp only [List.length_cons] at hf
      have h := ih a b (by omega) _ hw
      unfold osaF
      cases a <;> cases b <;> dsimp only <;> (try split) <;> (try split) <;> omega
    | swap x y hw =>
      rename_i n a b
      simp only [List.length_cons] at hf
      have h := ih a b (by omega) _ hw
      unfold osaF
      dsimp only
      rw [if_pos (show x = x ∧ y = y from ⟨rfl, rfl⟩)]
      omega
theorem osaF_way : ∀ (f : Nat) (a b : List Int), a.length + b.length < f → Way (osaF f a b) a b
  | 0, _, _, hf => by omega
  | f + 1, [], b, _ => by simpa [osaF] using way_right b
  | f + 1, x :: a, [], _ => by simpa [osaF] using way_left (x :: a)
  | f + 1, x :: a, y :: b, hf => by
    have ih := osaF_way f
    simp only [List.length_cons] at hf
    have h1 := (ih a (y :: b) (by simp only [List.length_cons]; omega)).del x
    have h2 := (ih (x :: a) b (by simp only [List.length_cons]; omega)).ins y
    have h3 : Way (osaF f a b + if x = y then 0 else 1) (x :: a) (y :: b) := by
      split
      · rename_i e; subst e; exact (ih a b (by omega)).same x
      · exact (ih a b (by omega)).sub x y
    have hv : Way (min (min (osaF f a (y :: b) + 1) (osaF f (x :: a) b + 1)) (osaF f a b + if x = y then 0 else 1)) (x :: a) (y :: b) := by
      generalize hc : (osaF f a b + if x = y then 0 else 1) = c at h3 ⊢
      generalize osaF f a (y :: b) + 1 = p at h1 ⊢
      generalize osaF f (x :: a) b + 1 = q at h2 ⊢
      rcases show min (min p q) c = p ∨ min (min p q) c = q ∨ min (min p q) c = c by omega with e | e | e <;> rw [e] <;> assumption
    unfold osaF
    dsimp only
    split
    · rename_i x' a' y' b'
      split
      · rename_i e
        obtain ⟨rfl, rfl⟩ := e
        simp only [List.length_cons] at hf
        have h4 := (ih a' b' (by omega)).swap x x'
        generalize min (min (osaF f (x' :: a') (x' :: x :: b') + 1) (osaF f (x :: x' :: a') (x :: b') + 1)) (osaF f (x' :: a') (x :: b') + if x = x' then 0 else 1) = v at hv ⊢
        generalize osaF f a' b' + 1 = u at h4 ⊢
        rcases show min v u = v ∨ min v u = u by omega with e | e <;> rw [e] <;> assumption
      · exact hv
    · exact hv

theorem osa_le {n a b} (h : Way n a b) : osa a b ≤ n := osaF_le _ a b (by omega) n h
theorem osa_way (a b : List Int) : Way (osa a b) a b := osaF_way _ a b (by omega)
theorem osaF_eq {f : Nat} {a b : List Int} (h : a.length + b.length < f) : osaF f a b = osa a b :=
  Nat.le_antisymm (osaF_le f a b h _ (osa_way a b)) (osa_le (osaF_way f a b h))
theorem osa_comm (a b : List Int) : osa a b = osa b a := Nat.le_antisymm (osa_le (osa_way b a).symm) (osa_le (osa_way a b).symm)
theorem osa_zero (a b : List Int) : osa a b = 0 ↔ a = b :=
  ⟨fun h => (osa_way a b).zero h, fun h => by subst h; exact Nat.le_zero.1 (osa_le (way_self a))⟩
theorem osa_max (a b : List Int) : osa a b ≤ max a.length b.length := by
  obtain ⟨n, h, hw⟩ := way_max a b
  exact Nat.le_trans (osa_le hw) h
theorem osa_len (a b : List Int) : a.length ≤ osa a b + b.length ∧ b.length ≤ osa a b + a.length := (osa_way a b).len
theorem osa_app (a b c : List Int) : osa (a ++ c) (b ++ c) ≤ osa a b := osa_le ((osa_way a b).app c)
theorem osa_nil (b : List Int) : osa [] b = b.length := Nat.le_antisymm (osa_le (way_right b)) (by have := (osa_len [] b).2; simpa using this)
theorem osa_nil_right (a : List Int) : osa a [] = a.length := by rw [osa_comm, osa_nil]
/-- The recurrence, as chapter 17 says it. -/
theorem osa_cons (x y : Int) (a b : List Int) : osa (x :: a) (y :: b) =
    match a, b with
    | x' :: a', y' :: b' => if x = y' ∧ x' = y then min (min (min (osa a (y :: b) + 1) (osa (x :: a) b + 1)) (osa a b + if x = y then 0 else 1)) (osa a' b' + 1) else min (min (osa a (y :: b) + 1) (osa (x :: a) b + 1)) (osa a b + if x = y then 0 else 1)
    | _, _ => min (min (osa a (y :: b) + 1) (osa (x :: a) b + 1)) (osa a b + if x = y then 0 else 1) := by
  rw [← osaF_eq (f := a.length + b.length + 4) (a := x :: a) (b := y :: b) (by simp only [List.length_cons]; omega)]
  show osaF ((a.length + b.length + 3) + 1) (x :: a) (y :: b) = _
  unfold osaF
  dsimp only
  rw [osaF_eq (a := a) (b := y :: b) (by simp only [List.length_cons]; omega), osaF_eq (a := x :: a) (b := b) (by simp only [List.length_cons]; omega), osaF_eq (a := a) (b := b) (by omega)]
  cases a with
  | nil => rfl
  | cons x' a' =>
    cases b with
    | nil => rfl
    | cons y' b' =>
      dsimp only
      rw [osaF_eq (a := a') (b := b') (by simp only [List.length_cons]; omega)]

/-- How far two words are, in their own order. -/
def farL (a b : List Int) : Nat := osa a.reverse b.reverse
theorem farL_comm (a b : List Int) : farL a b = farL b a := osa_comm _ _
theorem farL_zero (a b : List Int) : farL a b = 0 ↔ a = b := by unfold farL; rw [osa_zero]; exact List.reverse_inj
theorem farL_max (a b : List Int) : farL a b ≤ max a.length b.length := by have := osa_max a.reverse b.reverse; simpa [farL] using this
theorem farL_len (a b : List Int) : a.length ≤ farL a b + b.length ∧ b.length ≤ farL a b + a.length := by have := osa_len a.reverse b.reverse; simpa [farL] using this
theorem farL_app (a b c : List Int) : farL (c ++ a) (c ++ b) ≤ farL a b := by unfold farL; rw [List.reverse_append, List.reverse_append]; exact osa_app _ _ _
/-- What stands in row i, place k. -/
def cellL (a b : List Int) (i k : Nat) : Nat := farL (a.take i) (b.take k)
theorem cellL_left (a b : List Int) (k : Nat) (hk : k ≤ b.length) : cellL a b 0 k = k := by
  unfold cellL farL
  rw [List.take_zero, List.reverse_nil, osa_nil, List.length_reverse, List.length_take]
  omega
theorem cellL_top (a b : List Int) (i : Nat) (hi : i ≤ a.length) : cellL a b i 0 = i := by
  unfold cellL farL
  rw [List.take_zero, List.reverse_nil, osa_nil_right, List.length_reverse, List.length_take]
  omega
theorem take_rev (a : List Int) (i : Nat) (hi : i < a.length) : (a.take (i + 1)).reverse = a[i] :: (a.take i).reverse := by
  rw [List.take_succ_eq_append_getElem hi, List.reverse_append]; rfl
/-- The least of three. -/
def stepL (a b : List Int) (i k : Nat) (c : Nat) : Nat := min (min (cellL a b i (k + 1) + 1) (cellL a b (i + 1) k + 1)) (cellL a b i k + c)
theorem cellL_edge (a b : List Int) (i k : Nat) (hi : i < a.length) (hk : k < b.length) (h0 : i = 0 ∨ k = 0) :
    cellL a b (i + 1) (k + 1) = stepL a b i k (if a[i] = b[k] then 0 else 1) := by
  unfold stepL cellL farL
  rw [take_rev a i hi, take_rev b k hk, osa_cons]
  rcases h0 with rfl | rfl
  · simp only [List.take_zero, List.reverse_nil]
  · simp only [List.take_zero, List.reverse_nil]
    cases (List.take i a).reverse <;> rfl
theorem cellL_step (a b : List Int) (i k : Nat) (hi : i + 1 < a.length) (hk : k + 1 < b.length) :
    cellL a b (i + 2) (k + 2) = if a[i + 1] = b[k] ∧ a[i] = b[k + 1] then min (stepL a b (i + 1) (k + 1) (if a[i + 1] = b[k + 1] then 0 else 1)) (cellL a b i k + 1)
      else stepL a b (i + 1) (k + 1) (if a[i + 1] = b[k + 1] then 0 else 1) := by
  unfold stepL cellL farL
  rw [take_rev a (i + 1) hi, take_rev b (k + 1) hk, take_rev a i (by omega), take_rev b k (by omega), osa_cons]
theorem cellL_all (a b : List Int) : cellL a b a.length b.length = farL a b := by unfold cellL; rw [List.take_length, List.take_length]

/-- One code more, one less, one turned. -/
inductive One1 : List Int → List Int → Prop
  | ins {b} (k : Int) : One1 b (k :: b)
  | del {b} (x : Int) : One1 (x :: b) b
  | sub {b} (x k : Int) : One1 (x :: b) (k :: b)
  | cons {b b'} (x : Int) : One1 b b' → One1 (x :: b) (x :: b')
theorem one_app (u : List Int) {b b' : List Int} (h : One1 b b') : One1 (u ++ b) (u ++ b') := by
  induction u with
  | nil => exact h
  | cons x u ih => exact .cons x ih
/-- Ways without a swap. -/
inductive WayP : Nat → List Int → List Int → Prop
  | nil : WayP 0 [] []
  | del {n a b} (x : Int) : WayP n a b → WayP (n + 1) (x :: a) b
  | ins {n a b} (y : Int) : WayP n a b → WayP (n + 1) a (y :: b)
  | same {n a b} (x : Int) : WayP n a b → WayP n (x :: a) (x :: b)
  | sub {n a b} (x y : Int) : WayP n a b → WayP (n + 1) (x :: a) (y :: b)
theorem WayP.way {n a b} (h : WayP n a b) : Way n a b := by
  induction h with
  | nil => exact .nil
  | del x _ ih => exact .del x ih
  | ins y _ ih => exact .ins y ih
  | same x _ ih => exact .same x ih
  | sub x y _ ih => exact .sub x y ih
theorem wayp_self : ∀ a, WayP 0 a a
  | [] => .nil
  | x :: a => .same x (wayp_self a)
theorem WayP.one {n a b} (h : WayP n a b) : ∀ {b'}, One1 b b' → ∃ m, m ≤ n + 1 ∧ WayP m a b' := by
  induction h with
  | nil => intro b' h; cases h with | ins k => exact ⟨1, by omega, .ins k .nil⟩
  | del x hw ih =>
    intro b' h
    obtain ⟨m, h1, h2⟩ := ih h
    exact ⟨m + 1, by omega, .del x h2⟩
  | ins y hw ih =>
    intro b' h
    cases h with
    | ins k => exact ⟨_, by omega, .ins k (.ins y hw)⟩
    | del => exact ⟨_, by omega, hw⟩
    | sub _ k => exact ⟨_, by omega, .ins k hw⟩
    | cons _ h => obtain ⟨m, h1, h2⟩ := ih h; exact ⟨m + 1, by omega, .ins y h2⟩
  | same x hw ih =>
    intro b' h
    cases h with
    | ins k => exact ⟨_, by omega, .ins k (.same x hw)⟩
    | del => exact ⟨_, by omega, .del x hw⟩
    | sub _ k => exact ⟨_, by omega, .sub x k hw⟩
    | cons _ h => obtain ⟨m, h1, h2⟩ := ih h; exact ⟨m, by omega, .same x h2⟩
  | sub x y hw ih =>
    intro b' h
    cases h with
    | ins k => exact ⟨_, by omega, .ins k (.sub x y hw)⟩
    | del => exact ⟨_, by omega, .del x hw⟩
    | sub _ k => exact ⟨_, by omega, .sub x k hw⟩
    | cons _ h => obtain ⟨m, h1, h2⟩ := ih h; exact ⟨m + 1, by omega, .sub x y h2⟩
theorem way_pre (u : List Int) {n : Nat} {a b : List Int} (h : Way n a b) : Way n (u ++ a) (u ++ b) := by
  induction u with
  | nil => exact h
  | cons x u ih => exact .same x ih
/-- l becomes b in at most n changes, none a swap. -/
def Near1 (n : Nat) (l b : List Int) : Prop := ∃ m, m ≤ n ∧ WayP m l.reverse b.reverse
theorem Near1.zero (l : List Int) : Near1 0 l l := ⟨0, Nat.le_refl 0, wayp_self _⟩
theorem Near1.far {n l b} (h : Near1 n l b) : farL l b ≤ n := by
  obtain ⟨m, h1, h2⟩ := h
  exact Nat.le_trans (osa_le h2.way) h1
theorem Near1.one {n l b b'} (h : Near1 n l b) (h1 : One1 b.reverse b'.reverse) : Near1 (n + 1) l b' := by
  obtain ⟨m, h2, h3⟩ := h
  obtain ⟨k, h4, h5⟩ := h3.one h1
  exact ⟨k, by omega, h5⟩
theorem Near1.ins {n l b} (h : Near1 n l b) (at' : Nat) (k : Int) : Near1 (n + 1) l (b.take at' ++ k :: b.drop at') := by
  refine h.one ?_
  conv => lhs; rw [← List.take_append_drop at' b]
  rw [List.reverse_append, List.reverse_append, List.reverse_cons, List.append_assoc]
  exact one_app _ (.ins k)
theorem Near1.del {n l b} (h : Near1 n l b) (at' : Nat) (ha : at' < b.length) : Near1 (n + 1) l (b.take at' ++ b.drop (at' + 1)) := by
  refine h.one ?_
  have e : b = b.take at' ++ b[at'] :: b.drop (at' + 1) := by rw [← List.drop_eq_getElem_cons ha, List.take_append_drop]
  conv => lhs; rw [e]
  rw [List.reverse_append, List.reverse_append, List.reverse_cons, List.append_assoc]
  exact one_app _ (.del _)
theorem Near1.sub {n l b} (h : Near1 n l b) (at' : Nat) (k : Int) (ha : at' < b.length) : Near1 (n + 1) l (b.set at' k) := by
  refine h.one ?_
  have e : b = b.take at' ++ b[at'] :: b.drop (at' + 1) := by rw [← List.drop_eq_getElem_cons ha, List.take_append_drop]
  have e2 : b.set at' k = b.take at' ++ k :: b.drop (at' + 1) := by rw [List.set_eq_take_append_cons_drop, if_pos ha]
  rw [e2]
  conv => lhs; rw [e]
  rw [List.reverse_append, List.reverse_append, List.reverse_cons, List.reverse_cons, List.append_assoc, List.append_assoc]
  exact one_app _ (.sub _ k)
/-- Two codes side by side, turned. -/
theorem far_swap (l : List Int) (i : Nat) (hi : i + 1 < l.length) : farL l ((l.set i l[i + 1]).set (i + 1) l[i]) ≤ 1 := by
  have e : l = l.take i ++ l[i] :: l[i + 1] :: l.drop (i + 2) := by
    rw [← List.drop_eq_getElem_cons hi, ← List.drop_eq_getElem_cons (show i < l.length by omega), List.take_append_drop]
  have e2 : (l.set i l[i + 1]).set (i + 1) l[i] = l.take i ++ l[i + 1] :: l[i] :: l.drop (i + 2) := by
    apply List.ext_getElem?
    intro j
    have hl : (l.take i).length = i := by rw [List.length_take]; omega
    rw [List.getElem?_set, List.getElem?_set, List.getElem?_append, hl]
    by_cases h1 : j < i
    · rw [if_neg (by omega), if_neg (by omega), if_pos h1, List.getElem?_take_of_lt h1]
    · rw [if_neg h1]
      obtain ⟨d, rfl⟩ : ∃ d, j = i + d := ⟨j - i, by omega⟩
      rw [Nat.add_sub_cancel_left]
      rcases d with _ | _ | d
      · rw [if_neg (by omega), if_pos (by omega), if_pos (by omega)]; rfl
      · rw [if_pos (by omega), if_pos (by rw [List.length_set]; omega)]; rfl
      · rw [if_neg (by omega), if_neg (by omega)]
        simp only [List.getElem?_cons_succ, List.getElem?_drop]
        congr 1
        omega
  unfold farL
  rw [e2]
  conv => lhs; arg 1; rw [e]
  simp only [List.reverse_append, List.reverse_cons, List.append_assoc, List.singleton_append]
  exact osa_le (way_pre _ (.swap _ _ (way_self _)))
end Go.Proofs.Ytbghfbhchmoddaa
