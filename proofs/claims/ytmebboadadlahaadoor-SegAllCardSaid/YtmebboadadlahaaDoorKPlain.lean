/- Plain mathematics of tables of ranges: no program. -/
import Derived.Lib.Hide
namespace Go.Proofs.YtmebboadadlahaaDoor.Cls

/-- A range: From, To, Class. -/
abbrev R3 := Int × Int × Int
/-- May a range stand behind what is ahead? -/
def okR (a : Int) (r : R3) : Bool := decide (a < r.1 ∧ r.1 ≤ r.2.1 ∧ r.2.1 ≤ 1114111 ∧ 1 ≤ r.2.2 ∧ r.2.2 ≤ 3)
def chain : Int → List R3 → Bool
  | _, [] => true
  | a, r :: t => okR a r && chain r.2.1 t
/-- Check. -/
def okT (rs : List R3) : Bool := decide (rs.length ≤ 100) && chain (-1) rs
def find : List R3 → Int → Int
  | [], _ => 0
  | r :: t, c => if r.1 ≤ c ∧ c ≤ r.2.1 then r.2.2 else find t c
/-- Of. -/
def ofT (rs : List R3) (c : Int) : Int := if okT rs then find rs c else 0

theorem okR_iff (a : Int) (r : R3) : okR a r = true ↔ a < r.1 ∧ r.1 ≤ r.2.1 ∧ r.2.1 ≤ 1114111 ∧ 1 ≤ r.2.2 ∧ r.2.2 ≤ 3 := by simp [okR]
theorem okR_not (a : Int) (r : R3) : okR a r = false ↔ ¬ (a < r.1 ∧ r.1 ≤ r.2.1 ∧ r.2.1 ≤ 1114111 ∧ 1 ≤ r.2.2 ∧ r.2.2 ≤ 3) := by simp only [okR, decide_eq_false_iff_not]

theorem chain_cons (a : Int) (r : R3) (t : List R3) : chain a (r :: t) = (okR a r && chain r.2.1 t) := rfl

theorem drop_get {rs : List R3} {k : Nat} {r : R3} (h : rs[k]? = some r) : rs.drop k = r :: rs.drop (k + 1) := by
  obtain ⟨hk, rfl⟩ := List.getElem?_eq_some_iff.1 h
  exact List.drop_eq_getElem_cons hk

theorem chain_step {rs : List R3} {k : Nat} {r : R3} {a : Int} (h : rs[k]? = some r) (hc : chain (-1) rs = chain a (rs.drop k)) (ho : okR a r = true) : chain (-1) rs = chain r.2.1 (rs.drop (k + 1)) := by
  rw [hc, drop_get h, chain_cons, ho, Bool.true_and]
theorem chain_stop {rs : List R3} {k : Nat} {r : R3} {a : Int} (h : rs[k]? = some r) (hc : chain (-1) rs = chain a (rs.drop k)) (ho : okR a r = false) : okT rs = false := by
  rw [okT, hc, drop_get h, chain_cons, ho, Bool.false_and, Bool.and_false]
theorem chain_end {rs : List R3} {k : Nat} {a : Int} (hk : rs.length ≤ k) (hc : chain (-1) rs = chain a (rs.drop k)) (b : Bool) (hl : decide (rs.length ≤ 100) = b) : okT rs = b := by
  rw [okT, hc, List.drop_eq_nil_of_le hk, hl]
  simp [chain]

theorem chain_get : ∀ {rs : List R3} {a : Int} {i : Nat} {r : R3}, chain a rs = true → rs[i]? = some r → a < r.1 ∧ okR (r.1 - 1) r = true
  | [], _, i, _, _, h => by simp at h
  | x :: t, a, 0, r, hc, h => by
    simp at h; subst h
    rw [chain_cons, Bool.and_eq_true] at hc
    have := (okR_iff _ _).1 hc.1
    exact ⟨this.1, (okR_iff _ _).2 ⟨by omega, this.2⟩⟩
  | x :: t, a, i + 1, r, hc, h => by
    rw [chain_cons, Bool.and_eq_true] at hc
    have hx := (okR_iff _ _).1 hc.1
    obtain ⟨h1, h2⟩ := chain_get hc.2 (by simpa using h)
    exact ⟨by omega, h2⟩

theorem chain_lt : ∀ {rs : List R3} {a : Int} {i j : Nat} {r s : R3}, chain a rs = true → i < j → rs[i]? = some r → rs[j]? = some s → r.2.1 < s.1
  | [], _, i, _, _, _, _, _, h, _ => by simp at h
  | x :: t, a, 0, j + 1, r, s, hc, _, h, h' => by
    simp at h; subst h
    rw [chain_cons, Bool.and_eq_true] at hc
    exact (chain_get hc.2 (by simpa using h')).1
  | x :: t, a, i + 1, j + 1, r, s, hc, hij, h, h' => by
    rw [chain_cons, Bool.and_eq_true] at hc
    rw [List.getElem?_cons_succ] at h h'
    exact chain_lt hc.2 (by omega) h h'

theorem find_none : ∀ {rs : List R3} {c : Int}, (∀ (i : Nat) (r : R3), rs[i]? = some r → c < r.1 ∨ r.2.1 < c) → find rs c = 0
  | [], _, _ => rfl
  | x :: t, c, h => by
    have h0 := h 0 x rfl
    rw [find, if_neg (by omega)]
    exact find_none fun i r hr => h (i + 1) r (by simpa using hr)

theorem find_hit : ∀ {rs : List R3} {a c : Int} {i : Nat} {r : R3}, chain a rs = true → rs[i]? = some r → r.1 ≤ c → c ≤ r.2.1 → find rs c = r.2.2
  | [], _, _, _, _, _, h, _, _ => by simp at h
  | x :: t, a, c, 0, r, hc, h, h1, h2 => by
    simp at h; subst h
    rw [find, if_pos ⟨h1, h2⟩]
  | x :: t, a, c, i + 1, r, hc, h, h1, h2 => by
    have := chain_lt hc (Nat.succ_pos i) rfl h
    rw [chain_cons, Bool.and_eq_true] at hc
    rw [find, if_neg (by omega)]
    exact find_hit hc.2 (by simpa using h) h1 h2

/-- The first range that code is in, by place. -/
theorem find_first : ∀ {rs : List R3} {c : Int} {i : Nat} {r : R3}, (∀ (j : Nat) (s : R3), j < i → rs[j]? = some s → ¬ (s.1 ≤ c ∧ c ≤ s.2.1)) → rs[i]? = some r → r.1 ≤ c → c ≤ r.2.1 → find rs c = r.2.2
  | [], _, _, _, _, h, _, _ => by simp at h
  | x :: t, c, 0, r, _, h, h1, h2 => by
    simp at h; subst h
    rw [find, if_pos ⟨h1, h2⟩]
  | x :: t, c, i + 1, r, hn, h, h1, h2 => by
    rw [find, if_neg (hn 0 x (Nat.succ_pos i) rfl)]
    exact find_first (i := i) (fun j s hj hs => hn (j + 1) s (by omega) (by simpa using hs)) (by simpa using h) h1 h2

theorem okT_chain {rs : List R3} (h : okT rs = true) : chain (-1) rs = true := by
  rw [okT, Bool.and_eq_true] at h; exact h.2

theorem ofT_yes {rs : List R3} {c : Int} (h : okT rs = true) : ofT rs c = find rs c := by rw [ofT, if_pos h]
theorem ofT_no {rs : List R3} {c : Int} (h : okT rs = false) : ofT rs c = 0 := by rw [ofT, h]; rfl

/-- Nothing between two halves that have met. -/
theorem halves_none {rs : List R3} {c : Int} {lo hi : Nat} (hm : hi ≤ lo) (hl : ∀ (i : Nat) (r : R3), i < lo → rs[i]? = some r → r.2.1 < c) (hh : ∀ (i : Nat) (r : R3), hi ≤ i → rs[i]? = some r → c < r.1) : find rs c = 0 :=
  find_none fun i r hr => by
    by_cases h : i < lo
    · exact .inr (hl i r h hr)
    · exact .inl (hh i r (by omega) hr)
theorem halves_high {rs : List R3} {c : Int} {m hi : Nat} {r : R3} (hc : chain (-1) rs = true) (hr : rs[m]? = some r) (hlt : c < r.1) (_hh : ∀ (i : Nat) (r : R3), hi ≤ i → rs[i]? = some r → c < r.1) : ∀ (i : Nat) (s : R3), m ≤ i → rs[i]? = some s → c < s.1 := by
  intro i s hi hs
  rcases Nat.eq_or_lt_of_le hi with h | h
  · subst h; rw [hr] at hs; cases hs; exact hlt
  · have := chain_lt hc h hr hs
    have h2 := (okR_iff _ _).1 (chain_get hc hr).2
    omega
theorem halves_low {rs : List R3} {c : Int} {m : Nat} {r : R3} (hc : chain (-1) rs = true) (hr : rs[m]? = some r) (hlt : r.2.1 < c) : ∀ (i : Nat) (s : R3), i < m + 1 → rs[i]? = some s → s.2.1 < c := by
  intro i s hi hs
  rcases Nat.eq_or_lt_of_le (Nat.le_of_lt_succ hi) with h | h
  · subst h; rw [hr] at hs; cases hs; exact hlt
  · have := chain_lt hc h hs hr
    have h2 := (okR_iff _ _).1 (chain_get hc hr).2
    omega
end Go.Proofs.YtmebboadadlahaaDoor.Cls
