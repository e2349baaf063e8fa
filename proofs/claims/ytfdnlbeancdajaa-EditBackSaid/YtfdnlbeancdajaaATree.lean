/- Plain: balanced trees of items, and their lists. -/
import Derived.Test.YtfdnlbeancdajaaALeast
namespace Go.Proofs.Ytfdnlbeancdajaa.Avl

inductive AT where
  | nil : AT
  | node : AT → It → AT → AT

def AT.ht : AT → Nat
  | .nil => 0
  | .node l _ r => max l.ht r.ht + 1
theorem AT.ht_node (l : AT) (x : It) (r : AT) : (AT.node l x r).ht = max l.ht r.ht + 1 := rfl
def AT.cnt : AT → Nat
  | .nil => 0
  | .node l _ r => l.cnt + r.cnt + 1
def AT.tot : AT → Nat
  | .nil => 0
  | .node l x r => l.tot + x.2 + r.tot
def AT.toL : AT → List It
  | .nil => []
  | .node l x r => l.toL ++ x :: r.toL
def AT.Bal : AT → Prop
  | .nil => True
  | .node l _ r => l.Bal ∧ r.Bal ∧ l.ht ≤ r.ht + 1 ∧ r.ht ≤ l.ht + 1

theorem AT.len : ∀ t : AT, t.toL.length = t.cnt
  | .nil => rfl
  | .node l x r => by simp [AT.toL, AT.cnt, AT.len l, AT.len r]; omega
theorem AT.total : ∀ t : AT, total t.toL = t.tot
  | .nil => rfl
  | .node l x r => by
    rw [AT.toL, total_append, show Go.Proofs.Ytfdnlbeancdajaa.total (x :: r.toL) = x.2 + Go.Proofs.Ytfdnlbeancdajaa.total r.toL by simp [Go.Proofs.Ytfdnlbeancdajaa.total], AT.total l, AT.total r, AT.tot]
    omega
theorem AT.low : ∀ t : AT, t.Bal → least t.ht ≤ t.cnt
  | .nil, _ => Nat.le_refl _
  | .node l x r, ⟨h1, h2, h3, h4⟩ => by
    have ihl := AT.low l h1
    have ihr := AT.low r h2
    rw [AT.ht, AT.cnt]
    rcases Nat.lt_trichotomy l.ht r.ht with h | h | h
    · have e : r.ht = l.ht + 1 := by omega
      rw [Nat.max_eq_right (by omega), e]
      rw [e] at ihr
      show least l.ht + least (l.ht + 1) + 1 ≤ _
      omega
    · rw [Nat.max_eq_left (by omega)]
      have := least_twice l.ht
      rw [← h] at ihr
      omega
    · have e : l.ht = r.ht + 1 := by omega
      rw [Nat.max_eq_left (by omega), e]
      rw [e] at ihl
      show least r.ht + least (r.ht + 1) + 1 ≤ _
      omega
theorem AT.high : ∀ t : AT, t.cnt < 2 ^ t.ht
  | .nil => by simp [AT.cnt, AT.ht]
  | .node l x r => by
    have ihl := AT.high l
    have ihr := AT.high r
    have h1 : 2 ^ l.ht ≤ 2 ^ (max l.ht r.ht) := Nat.pow_le_pow_right (by omega) (by omega)
    have h2 : 2 ^ r.ht ≤ 2 ^ (max l.ht r.ht) := Nat.pow_le_pow_right (by omega) (by omega)
    rw [AT.cnt, AT.ht, Nat.pow_succ]
    omega
theorem AT.ht_zero {t : AT} (h : t.ht = 0) : t = .nil := by
  cases t with
  | nil => rfl
  | node l x r => simp [AT.ht] at h
/-- A balanced tree of at most so many items is low. -/
theorem AT.ht_le {t : AT} (hb : t.Bal) {n k : Nat} (hc : t.cnt ≤ n) (hk : n < least k) : t.ht < k := by
  have := t.low hb
  refine Nat.lt_of_not_le fun h => ?_
  have := least_le h
  omega

/-- A node whose sides are up to two apart, turned. -/
def AT.fix (l : AT) (x : It) (r : AT) : AT :=
  if r.ht + 1 < l.ht then
    match l with
    | .node a y b => if a.ht < b.ht then (match b with | .node b1 z b2 => .node (.node a y b1) z (.node b2 x r) | .nil => .node (.node a y b) x r) else .node a y (.node b x r)
    | .nil => .node l x r
  else if l.ht + 1 < r.ht then
    match r with
    | .node a y b => if b.ht < a.ht then (match a with | .node a1 z a2 => .node (.node l x a1) z (.node a2 y b) | .nil => .node l x (.node a y b)) else .node (.node l x a) y b
    | .nil => .node l x r
  else .node l x r

theorem AT.fix_same {l : AT} {x : It} {r : AT} (h1 : l.ht ≤ r.ht + 1) (h2 : r.ht ≤ l.ht + 1) : AT.fix l x r = .node l x r := by
  unfold AT.fix
  rw [if_neg (by omega), if_neg (by omega)]

theorem AT.fix_toL (l : AT) (x : It) (r : AT) : (AT.fix l x r).toL = l.toL ++ x :: r.toL := by
  unfold AT.fix
  split
  · cases l with
    | nil => rfl
    | node a y b =>
      dsimp only
      split
      · cases b with
        | nil => rfl
        | node b1 z b2 => simp [AT.toL]
      · simp [AT.toL]
  · split
    · cases r with
      | nil => rfl
      | node a y b =>
        dsimp only
        split
        · cases a with
          | nil => rfl
          | node a1 z a2 => simp [AT.toL]
        · simp [AT.toL]
    · rfl
theorem AT.fix_bal (l : AT) (x : It) (r : AT) (hl : l.Bal) (hr : r.Bal) (h1 : l.ht ≤ r.ht + 2) (h2 : r.ht ≤ l.ht + 2) :
    (AT.fix l x r).Bal ∧ max l.ht r.ht ≤ (AT.fix l x r).ht ∧ (AT.fix l x r).ht ≤ max l.ht r.ht + 1 := by
  unfold AT.fix
  split
  · cases l with
    | nil => simp [AT.ht] at *
    | node a y b =>
      obtain ⟨ha, hb, h3, h4⟩ := hl
      dsimp only
      split
      · cases b with
        | nil => simp [AT.ht] at *
        | node b1 z b2 =>
          obtain ⟨hb1, hb2, h5, h6⟩ := hb
          simp only [AT.Bal, AT.ht] at *
          refine ⟨⟨⟨ha, hb1, ?_, ?_⟩, ⟨hb2, hr, ?_, ?_⟩, ?_, ?_⟩, ?_, ?_⟩ <;> omega
      · simp only [AT.Bal, AT.ht] at *
        refine ⟨⟨ha, ⟨hb, hr, ?_, ?_⟩, ?_, ?_⟩, ?_, ?_⟩ <;> omega
  · split
    · cases r with
      | nil => simp [AT.ht] at *
      | node a y b =>
        obtain ⟨ha, hb, h3, h4⟩ := hr
        dsimp only
        split
        · cases a with
          | nil => simp [AT.ht] at *
          | node a1 z a2 =>
            obtain ⟨ha1, ha2, h5, h6⟩ := ha
            simp only [AT.Bal, AT.ht] at *
            refine ⟨⟨⟨hl, ha1, ?_, ?_⟩, ⟨ha2, hb, ?_, ?_⟩, ?_, ?_⟩, ?_, ?_⟩ <;> omega
        · simp only [AT.Bal, AT.ht] at *
          refine ⟨⟨⟨hl, ha, ?_, ?_⟩, hb, ?_, ?_⟩, ?_, ?_⟩ <;> omega
    · simp only [AT.Bal, AT.ht]
      refine ⟨⟨hl, hr, ?_, ?_⟩, ?_, ?_⟩ <;> omega

/-! ### Lists by a node -/
theorem putL_left {A B : List It} {x y : It} {i : Nat} (h : i ≤ A.length) : putL (A ++ x :: B) i y = putL A i y ++ x :: B := by
  simp only [putL]
  rw [List.take_append_of_le_length h, List.drop_append_of_le_length h]
  simp
theorem putL_right {A B : List It} {x y : It} {i : Nat} (h : A.length < i) : putL (A ++ x :: B) i y = A ++ x :: putL B (i - A.length - 1) y := by
  obtain ⟨k, rfl⟩ : ∃ k, i = A.length + (k + 1) := ⟨i - A.length - 1, by omega⟩
  simp only [putL]
  rw [List.take_append, List.drop_append]
  simp [List.take_of_length_le (show A.length ≤ A.length + (k + 1) by omega), List.drop_eq_nil_of_le (show A.length ≤ A.length + (k + 1) by omega)]
theorem dropL_left {A B : List It} {x : It} {i : Nat} (h : i < A.length) : dropL (A ++ x :: B) i = dropL A i ++ x :: B := by
  simp only [dropL]
  rw [List.take_append_of_le_length (by omega), List.drop_append_of_le_length (by omega)]
  simp
theorem dropL_here {A B : List It} {x : It} : dropL (A ++ x :: B) A.length = A ++ B := by
  simp only [dropL]
  rw [List.take_append_of_le_length (Nat.le_refl _), List.drop_append]
  simp [List.drop_eq_nil_of_le (show A.length ≤ A.length + 1 by omega)]
theorem dropL_right {A B : List It} {x : It} {i : Nat} (h : A.length < i) : dropL (A ++ x :: B) i = A ++ x :: dropL B (i - A.length - 1) := by
  obtain ⟨k, rfl⟩ : ∃ k, i = A.length + (k + 1) := ⟨i - A.length - 1, by omega⟩
  simp only [dropL]
  rw [List.take_append, List.drop_append]
  simp [show A.length + (k + 1) + 1 - A.length = k + 1 + 1 by omega, List.take_of_length_le (show A.length ≤ A.length + (k + 1) by omega), List.drop_eq_nil_of_le (show A.length ≤ A.length + (k + 1) + 1 by omega)]
theorem dropL_zero (x : It) (B : List It) : dropL (x :: B) 0 = B := by simp [dropL]
theorem get_left {A B : List It} {x : It} {i : Nat} (h : i < A.length) : (A ++ x :: B)[i]? = A[i]? := List.getElem?_append_left h
theorem get_here {A B : List It} {x : It} : (A ++ x :: B)[A.length]? = some x := by simp
theorem get_right {A B : List It} {x : It} {i : Nat} (h : A.length < i) : (A ++ x :: B)[i]? = B[i - A.length - 1]? := by
  obtain ⟨k, rfl⟩ : ∃ k, i = A.length + (k + 1) := ⟨i - A.length - 1, by omega⟩
  rw [List.getElem?_append_right (by omega), show A.length + (k + 1) - A.length = k + 1 by omega, List.getElem?_cons_succ]
  rfl
theorem before_left {A B : List It} {x : It} {i : Nat} (h : i ≤ A.length) : before (A ++ x :: B) (i : Int) = before A (i : Int) := by
  simp only [before, Int.toNat_natCast]
  rw [List.take_append_of_le_length h]
theorem before_right {A B : List It} {x : It} {i : Nat} (h : A.length < i) : before (A ++ x :: B) (i : Int) = total A + x.2 + before B ((i - A.length - 1 : Nat) : Int) := by
  obtain ⟨k, rfl⟩ : ∃ k, i = A.length + (k + 1) := ⟨i - A.length - 1, by omega⟩
  simp only [before, Int.toNat_natCast, total]
  rw [List.take_append]
  simp [List.take_of_length_le (show A.length ≤ A.length + (k + 1) by omega)]
  omega
theorem find_left : ∀ {A B : List It} {p : Nat}, p < total A → findL (A ++ B) p = findL A p
  | [], B, p, h => by simp [total] at h
  | y :: A, B, p, h => by
    have e : total (y :: A) = y.2 + total A := by simp [total]
    by_cases hy : p < y.2
    · rw [List.cons_append, findL, findL, if_pos hy, if_pos hy]
    · rw [List.cons_append, findL, findL, if_neg hy, if_neg hy, find_left (by omega)]
theorem find_right : ∀ {A B : List It} {p : Nat}, total A ≤ p → findL (A ++ B) p = (A.length + (findL B (p - total A)).1, (findL B (p - total A)).2)
  | [], B, p, _ => by simp [total]
  | y :: A, B, p, h => by
    have e : total (y :: A) = y.2 + total A := by simp [total]
    rw [List.cons_append, findL, if_neg (by omega), find_right (A := A) (by omega), e, show p - y.2 - total A = p - (y.2 + total A) by omega]
    simp only [List.length_cons]
    congr 1
    omega
theorem find_here {B : List It} {x : It} {p : Nat} (h : p < x.2) : findL (x :: B) p = (0, p) := by rw [findL, if_pos h]
theorem find_over {B : List It} {x : It} {p : Nat} (h : x.2 ≤ p) : findL (x :: B) p = ((findL B (p - x.2)).1 + 1, (findL B (p - x.2)).2) := by rw [findL, if_neg (by omega)]

/-! ### Putting an item, taking one away -/
def AT.ins : AT → Nat → It → AT
  | .nil, _, y => .node .nil y .nil
  | .node l x r, i, y => if i ≤ l.cnt then AT.fix (l.ins i y) x r else AT.fix l x (r.ins (i - l.cnt - 1) y)
theorem AT.ins_toL : ∀ (t : AT) (i : Nat) (y : It), i ≤ t.cnt → (t.ins i y).toL = putL t.toL i y
  | .nil, i, y, h => by
    have : i = 0 := by simpa [AT.cnt] using h
    subst this
    rfl
  | .node l x r, i, y, h => by
    rw [AT.ins]
    split
    · rename_i hi
      rw [AT.fix_toL, AT.ins_toL l i y hi, AT.toL, putL_left (by rw [AT.len]; exact hi)]
    · rename_i hi
      rw [AT.fix_toL, AT.ins_toL r _ y (by rw [AT.cnt] at h; omega), AT.toL, putL_right (by rw [AT.len]; omega), AT.len]
theorem AT.ins_bal : ∀ (t : AT) (i : Nat) (y : It), t.Bal → (t.ins i y).Bal ∧ t.ht ≤ (t.ins i y).ht ∧ (t.ins i y).ht ≤ t.ht + 1
  | .nil, i, y, _ => ⟨⟨trivial, trivial, by simp [AT.ht], by simp [AT.ht]⟩, by simp [AT.ht], by simp [AT.ins, AT.ht]⟩
  | .node l x r, i, y, ⟨h1, h2, h3, h4⟩ => by
    rw [AT.ins]
    split
    · obtain ⟨b1, b2, b3⟩ := AT.ins_bal l i y h1
      obtain ⟨c1, c2, c3⟩ := AT.fix_bal (l.ins i y) x r b1 h2 (by omega) (by omega)
      rw [AT.ht]
      refine ⟨c1, ?_, by omega⟩
      by_cases hh : (l.ins i y).ht ≤ r.ht + 1
      · rw [AT.fix_same (by omega) (by omega), AT.ht]; omega
      · omega
    · obtain ⟨b1, b2, b3⟩ := AT.ins_bal r (i - l.cnt - 1) y h2
      obtain ⟨c1, c2, c3⟩ := AT.fix_bal l x (r.ins (i - l.cnt - 1) y) h1 b1 (by omega) (by omega)
      rw [AT.ht]
      refine ⟨c1, ?_, by omega⟩
      by_cases hh : (r.ins (i - l.cnt - 1) y).ht ≤ l.ht + 1
      · rw [AT.fix_same (by omega) (by omega), AT.ht]; omega
      · omega

/-- The first item, and the tree without it. -/
def AT.pop : AT → It → AT → It × AT
  | .nil, x, r => (x, r)
  | .node a y b, x, r => ((AT.pop a y b).1, AT.fix (AT.pop a y b).2 x r)
theorem AT.pop_toL : ∀ (l : AT) (x : It) (r : AT), l.toL ++ x :: r.toL = (AT.pop l x r).1 :: (AT.pop l x r).2.toL
  | .nil, x, r => rfl
  | .node a y b, x, r => by
    rw [AT.pop, AT.fix_toL]
    have := AT.pop_toL a y b
    rw [AT.toL, this]
    rfl
theorem AT.pop_bal : ∀ (l : AT) (x : It) (r : AT), (AT.node l x r).Bal → (AT.pop l x r).2.Bal ∧ (AT.pop l x r).2.ht ≤ (AT.node l x r).ht ∧ (AT.node l x r).ht ≤ (AT.pop l x r).2.ht + 1
  | .nil, x, r, ⟨_, h2, _, _⟩ => ⟨h2, by simp [AT.pop, AT.ht], by simp [AT.pop, AT.ht]⟩
  | .node a y b, x, r, ⟨h1, h2, h3, h4⟩ => by
    obtain ⟨b1, b2, b3⟩ := AT.pop_bal a y b h1
    obtain ⟨c1, c2, c3⟩ := AT.fix_bal (AT.pop a y b).2 x r b1 h2 (by omega) (by omega)
    rw [AT.pop]
    dsimp only
    rw [AT.ht]
    refine ⟨c1, by omega, ?_⟩
    · skip
      by_cases hh : r.ht ≤ (AT.pop a y b).2.ht + 1
      · rw [AT.fix_same (by omega) (by omega), AT.ht_node (AT.pop a y b).2 x r]; omega
      · omega
/-- The last item, and the tree without it. -/
def AT.popR : AT → AT → It → It × AT
  | .nil, l, x => (x, l)
  | .node a y b, l, x => ((AT.popR b a y).1, AT.fix l x (AT.popR b a y).2)
theorem AT.popR_toL : ∀ (r : AT) (l : AT) (x : It), l.toL ++ x :: r.toL = (AT.popR r l x).2.toL ++ [(AT.popR r l x).1]
  | .nil, l, x => rfl
  | .node a y b, l, x => by
    rw [AT.popR, AT.fix_toL]
    have := AT.popR_toL b a y
    rw [AT.toL, this]
    simp
theorem AT.popR_bal : ∀ (r : AT) (l : AT) (x : It), (AT.node l x r).Bal → (AT.popR r l x).2.Bal ∧ (AT.popR r l x).2.ht ≤ (AT.node l x r).ht ∧ (AT.node l x r).ht ≤ (AT.popR r l x).2.ht + 1
  | .nil, l, x, ⟨h1, _, _, _⟩ => ⟨h1, by simp [AT.popR, AT.ht], by simp [AT.popR, AT.ht]⟩
  | .node a y b, l, x, ⟨h1, h2, h3, h4⟩ => by
    obtain ⟨b1, b2, b3⟩ := AT.popR_bal b a y h2
    obtain ⟨c1, c2, c3⟩ := AT.fix_bal l x (AT.popR b a y).2 h1 b1 (by omega) (by omega)
    rw [AT.popR]
    dsimp only
    rw [AT.ht]
    refine ⟨c1, by omega, ?_⟩
    · skip
      by_cases hh : l.ht ≤ (AT.popR b a y).2.ht + 1
      · rw [AT.fix_same (by omega) (by omega), AT.ht_node l x (AT.popR b a y).2]; omega
      · omega

/-- Two sides as one: the first item of the right one comes between. -/
def AT.cut (l r : AT) : AT :=
  match l with
  | .nil => r
  | .node c z d => match r with
    | .nil => .node c z d
    | .node a y b => AT.fix (.node c z d) (AT.pop a y b).1 (AT.pop a y b).2
theorem AT.cut_toL (l r : AT) : (AT.cut l r).toL = l.toL ++ r.toL := by
  cases l with
  | nil => rfl
  | node c z d =>
    cases r with
    | nil => simp [AT.cut, AT.toL]
    | node a y b => rw [AT.cut, AT.fix_toL, ← AT.pop_toL]; rfl
theorem AT.cut_bal (l r : AT) (x : It) (h : (AT.node l x r).Bal) : (AT.cut l r).Bal ∧ (AT.cut l r).ht ≤ max l.ht r.ht + 1 ∧ max l.ht r.ht ≤ (AT.cut l r).ht := by
  obtain ⟨h1, h2, h3, h4⟩ := h
  cases l with
  | nil => exact ⟨h2, by simp [AT.cut, AT.ht], by simp [AT.cut, AT.ht]⟩
  | node c z d =>
    cases r with
    | nil => exact ⟨h1, by simp [AT.cut, AT.ht], by simp [AT.cut, AT.ht]⟩
    | node a y b =>
      obtain ⟨b1, b2, b3⟩ := AT.pop_bal a y b h2
      obtain ⟨c1, c2, c3⟩ := AT.fix_bal (.node c z d) (AT.pop a y b).1 (AT.pop a y b).2 h1 b1 (by omega) (by omega)
      rw [AT.cut]
      refine ⟨c1, by omega, ?_⟩
      by_cases hh : (AT.node c z d).ht ≤ (AT.pop a y b).2.ht + 1
      · rw [AT.fix_same (by omega) (by omega), AT.ht_node (.node c z d) (AT.pop a y b).1 (AT.pop a y b).2]; omega
      · omega
/-- Without the item at a place. -/
def AT.del : AT → Nat → AT
  | .nil, _ => .nil
  | .node l x r, i => if i < l.cnt then AT.fix (l.del i) x r else if l.cnt < i then AT.fix l x (r.del (i - l.cnt - 1)) else AT.cut l r
theorem AT.del_toL : ∀ (t : AT) (i : Nat), i < t.cnt → (t.del i).toL = dropL t.toL i
  | .nil, i, h => by simp [AT.cnt] at h
  | .node l x r, i, h => by
    rw [AT.del]
    split
    · rename_i hi
      rw [AT.fix_toL, AT.del_toL l i hi, AT.toL, dropL_left (by rw [AT.len]; exact hi)]
    · split
      · rename_i hi
        rw [AT.fix_toL, AT.del_toL r _ (by rw [AT.cnt] at h; omega), AT.toL, dropL_right (by rw [AT.len]; exact hi), AT.len]
      · have e : i = l.toL.length := by rw [AT.len]; omega
        rw [AT.toL, e, dropL_here, AT.cut_toL]
theorem AT.del_bal : ∀ (t : AT) (i : Nat), t.Bal → (t.del i).Bal ∧ (t.del i).ht ≤ t.ht ∧ t.ht ≤ (t.del i).ht + 1
  | .nil, i, _ => ⟨trivial, Nat.le_refl _, by simp [AT.ht]⟩
  | .node l x r, i, ⟨h1, h2, h3, h4⟩ => by
    rw [AT.del]
    split
    · obtain ⟨b1, b2, b3⟩ := AT.del_bal l i h1
      obtain ⟨c1, c2, c3⟩ := AT.fix_bal (l.del i) x r b1 h2 (by omega) (by omega)
      rw [AT.ht]
      refine ⟨c1, by omega, ?_⟩
      by_cases hh : r.ht ≤ (l.del i).ht + 1
      · rw [AT.fix_same (by omega) (by omega), AT.ht]; omega
      · omega
    · split
      · obtain ⟨b1, b2, b3⟩ := AT.del_bal r (i - l.cnt - 1) h2
        obtain ⟨c1, c2, c3⟩ := AT.fix_bal l x (r.del (i - l.cnt - 1)) h1 b1 (by omega) (by omega)
        rw [AT.ht]
        refine ⟨c1, by omega, ?_⟩
        by_cases hh : l.ht ≤ (r.del (i - l.cnt - 1)).ht + 1
        · rw [AT.fix_same (by omega) (by omega), AT.ht]; omega
        · omega
      · obtain ⟨c1, c2, c3⟩ := AT.cut_bal l r x ⟨h1, h2, h3, h4⟩
        rw [AT.ht]
        exact ⟨c1, by omega, by omega⟩
end Go.Proofs.Ytfdnlbeancdajaa.Avl
