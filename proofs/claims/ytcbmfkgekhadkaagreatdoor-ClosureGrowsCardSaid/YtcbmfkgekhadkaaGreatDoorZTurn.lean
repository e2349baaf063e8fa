/- Slices of rules, of entries as rows of cells: their beginnings, their ends, one behind the other. -/
import Derived.Test.YtcbmfkgekhadkaaGreatDoorZTable
namespace Go.Proofs.YtcbmfkgekhadkaaGreatDoor
open Go Go.RowKit Go.Lib

/-! ### Rules -/
theorem zcells_at (r : Ru) (A : Option Addr) (cap : Nat) : ∀ (m : Nat) u, (zCells r A cap)[m]? = some u → (m = 0 ∧ u = .bool r.pre) ∨ (m = 1 ∧ u = .int .i64 r.flag) ∨ (m = 2 ∧ u = .bool r.cross) ∨ (m = 3 ∧ u = .string r.strip) ∨ (m = 4 ∧ u = .string r.add) ∨ (m = 5 ∧ u = .slice A r.cond.length cap)
  | 0, u, h => by simp [zCells] at h; simp [h]
  | 1, u, h => by simp [zCells] at h; simp [h]
  | 2, u, h => by simp [zCells] at h; simp [h]
  | 3, u, h => by simp [zCells] at h; simp [h]
  | 4, u, h => by simp [zCells] at h; simp [h]
  | 5, u, h => by simp [zCells] at h; simp [h]
  | m + 6, u, h => by simp [zCells] at h
theorem zcells_one (r : Ru) (A : Option Addr) (cap : Nat) : ∀ u ∈ zCells r A cap, u.oneCell' = true := by
  intro u hu
  simp only [zCells, List.mem_cons, List.not_mem_nil, or_false] at hu
  rcases hu with rfl | rfl | rfl | rfl | rfl | rfl <;> rfl
theorem rules_row {w : World} {b off : Nat} {rs : List Ru} (h : ∀ (i : Nat) r, rs[i]? = some r → RuCells w b (off + i * 6) r) :
    ∀ k, k ≤ rs.length → ∃ xs, xs.length = k * 6 ∧ ZRow w xs (rs.take k) ∧ (∀ (j : Nat) u, xs[j]? = some u → w.cell? ⟨b, off + j, none⟩ = some u) ∧ ∀ u ∈ xs, u.oneCell' = true
  | 0, _ => ⟨[], rfl, ZRow.nil w, fun j u hu => by simp at hu, fun u hu => by cases hu⟩
  | k + 1, hk => by
    obtain ⟨xs, h1, h2, h3, h4⟩ := rules_row h k (by omega)
    obtain ⟨r, hr⟩ : ∃ r, rs[k]? = some r := ⟨_, List.getElem?_eq_getElem (by omega)⟩
    obtain ⟨c0, c1, c2, c3, c4, A, cap, c5, hi⟩ := h k r hr
    have ht : rs.take (k + 1) = rs.take k ++ [r] := by rw [List.take_add_one, hr]; rfl
    refine ⟨xs ++ zCells r A cap, by rw [List.length_append, h1, Nat.add_mul]; rfl, ?_, fun j u hu => ?_, fun u hu => ?_⟩
    · rw [ht]
      exact h2.snoc (by rw [h1, List.length_take]; congr 1; omega) hi
    · rcases Nat.lt_or_ge j xs.length with hlt | hge
      · rw [List.getElem?_append_left hlt] at hu
        exact h3 j u hu
      · rw [List.getElem?_append_right hge] at hu
        have e := zcells_at r A cap _ u hu
        rw [h1] at e hge
        rcases e with ⟨e, rfl⟩ | ⟨e, rfl⟩ | ⟨e, rfl⟩ | ⟨e, rfl⟩ | ⟨e, rfl⟩ | ⟨e, rfl⟩
        · rw [show off + j = off + k * 6 by omega]; exact c0
        · rw [show off + j = off + k * 6 + 1 by omega]; exact c1
        · rw [show off + j = off + k * 6 + 2 by omega]; exact c2
        · rw [show off + j = off + k * 6 + 3 by omega]; exact c3
        · rw [show off + j = off + k * 6 + 4 by omega]; exact c4
        · rw [show off + j = off + k * 6 + 5 by omega]; exact c5
    · rcases List.mem_append.1 hu with hu | hu
      · exact h4 u hu
      · exact zcells_one _ _ _ u hu
theorem ZRow.take {Wb : World} {xs : List Value} {rs : List Ru} (h : ZRow Wb xs rs) (k : Nat) : ZRow Wb (xs.take (k * 6)) (rs.take k) := by
  intro i r hi
  rw [List.getElem?_take] at hi
  split at hi
  · rename_i hik
    obtain ⟨A, cap, h0, h1, h2, h3, h4, h5, h6⟩ := h i r hi
    refine ⟨A, cap, ?_, ?_, ?_, ?_, ?_, ?_, h6⟩ <;> rw [List.getElem?_take, if_pos (by omega)] <;> assumption
  · cases hi
theorem ZRow.drop {Wb : World} {xs : List Value} {rs : List Ru} (h : ZRow Wb xs rs) (k : Nat) : ZRow Wb (xs.drop (k * 6)) (rs.drop k) := by
  intro i r hi
  rw [List.getElem?_drop] at hi
  obtain ⟨A, cap, h0, h1, h2, h3, h4, h5, h6⟩ := h (k + i) r hi
  refine ⟨A, cap, ?_, ?_, ?_, ?_, ?_, ?_, h6⟩ <;> rw [List.getElem?_drop] <;> simp only [Nat.add_mul, Nat.add_assoc] at * <;> assumption
theorem ZRow.app {Wb : World} {xs ys : List Value} {rs ts : List Ru} (h : ZRow Wb xs rs) (hl : xs.length = rs.length * 6) (h' : ZRow Wb ys ts) : ZRow Wb (xs ++ ys) (rs ++ ts) := by
  intro i r hi
  rcases Nat.lt_or_ge i rs.length with hlt | hge
  · rw [List.getElem?_append_left hlt] at hi
    obtain ⟨B, c, h0, h1, h2, h3, h4, h5, h6⟩ := h i r hi
    refine ⟨B, c, ?_, ?_, ?_, ?_, ?_, ?_, h6⟩ <;> rw [List.getElem?_append_left (by omega)] <;> assumption
  · rw [List.getElem?_append_right hge] at hi
    obtain ⟨B, c, h0, h1, h2, h3, h4, h5, h6⟩ := h' _ r hi
    refine ⟨B, c, ?_, ?_, ?_, ?_, ?_, ?_, h6⟩ <;> rw [List.getElem?_append_right (by omega)]
    · rw [show i * 6 - xs.length = (i - rs.length) * 6 by omega]; exact h0
    · rw [show i * 6 + 1 - xs.length = (i - rs.length) * 6 + 1 by omega]; exact h1
    · rw [show i * 6 + 2 - xs.length = (i - rs.length) * 6 + 2 by omega]; exact h2
    · rw [show i * 6 + 3 - xs.length = (i - rs.length) * 6 + 3 by omega]; exact h3
    · rw [show i * 6 + 4 - xs.length = (i - rs.length) * 6 + 4 by omega]; exact h4
    · rw [show i * 6 + 5 - xs.length = (i - rs.length) * 6 + 5 by omega]; exact h5
theorem ZRow.rules {Wb w : World} {B : Nat} {v : Value} {xs : List Value} {rs : List Ru} (h : ZRow Wb xs rs) (ho : w.ownsRow B 51 6 v rs.length xs) (hb : Below Wb.heap.size Wb w) : RulesAt w v rs := by
  rcases h.reads ho with h3 | ⟨b, off, cap, e, k1, k2, k3, k4⟩
  · exact .inl h3
  · refine .inr ⟨b, off, cap, e, k1, k2, k3, fun i r hr => ?_⟩
    obtain ⟨z0, z1, z2, z3, z4, A, c, z5, z6⟩ := k4 i r hr
    exact ⟨z0, z1, z2, z3, z4, A, c, z5, z6.keep hb⟩

/-! ### Entries -/
def NRow (Wb : World) (xs : List Value) (es : List En) : Prop :=
  ∀ (i : Nat) e, es[i]? = some e → ∃ A cap, xs[i * 2]? = some (.string e.word) ∧ xs[i * 2 + 1]? = some (.slice A e.flags.length cap) ∧ IntsAt Wb (.slice A e.flags.length cap) e.flags
theorem NRow.nil (Wb : World) : NRow Wb [] [] := fun i e h => by simp at h
theorem NRow.app {Wb : World} {xs ys : List Value} {rs ts : List En} (h : NRow Wb xs rs) (hl : xs.length = rs.length * 2) (h' : NRow Wb ys ts) : NRow Wb (xs ++ ys) (rs ++ ts) := by
  intro i r hi
  rcases Nat.lt_or_ge i rs.length with hlt | hge
  · rw [List.getElem?_append_left hlt] at hi
    obtain ⟨B, c, h0, h1, h6⟩ := h i r hi
    refine ⟨B, c, ?_, ?_, h6⟩ <;> rw [List.getElem?_append_left (by omega)] <;> assumption
  · rw [List.getElem?_append_right hge] at hi
    obtain ⟨B, c, h0, h1, h6⟩ := h' _ r hi
    refine ⟨B, c, ?_, ?_, h6⟩ <;> rw [List.getElem?_append_right (by omega)]
    · rw [show i * 2 - xs.length = (i - rs.length) * 2 by omega]; exact h0
    · rw [show i * 2 + 1 - xs.length = (i - rs.length) * 2 + 1 by omega]; exact h1
theorem NRow.take {Wb : World} {xs : List Value} {rs : List En} (h : NRow Wb xs rs) (k : Nat) : NRow Wb (xs.take (k * 2)) (rs.take k) := by
  intro i r hi
  rw [List.getElem?_take] at hi
  split at hi
  · rename_i hik
    obtain ⟨A, cap, h0, h1, h6⟩ := h i r hi
    refine ⟨A, cap, ?_, ?_, h6⟩ <;> rw [List.getElem?_take, if_pos (by omega)] <;> assumption
  · cases hi
theorem NRow.drop {Wb : World} {xs : List Value} {rs : List En} (h : NRow Wb xs rs) (k : Nat) : NRow Wb (xs.drop (k * 2)) (rs.drop k) := by
  intro i r hi
  rw [List.getElem?_drop] at hi
  obtain ⟨A, cap, h0, h1, h6⟩ := h (k + i) r hi
  refine ⟨A, cap, ?_, ?_, h6⟩ <;> rw [List.getElem?_drop] <;> simp only [Nat.add_mul, Nat.add_assoc] at * <;> assumption
theorem NRow.one (Wb : World) {e : En} {A : Option Addr} {cap : Nat} (hi : IntsAt Wb (.slice A e.flags.length cap) e.flags) : NRow Wb [.string e.word, .slice A e.flags.length cap] [e] := by
  intro i x hx
  cases i with
  | zero =>
    simp at hx; subst hx
    exact ⟨A, cap, rfl, rfl, hi⟩
  | succ i => simp at hx
theorem ents_row {w : World} {b off : Nat} {es : List En} (h : ∀ (i : Nat) e, es[i]? = some e → EnCells w b (off + i * 2) e) :
    ∀ k, k ≤ es.length → ∃ xs, xs.length = k * 2 ∧ NRow w xs (es.take k) ∧ (∀ (j : Nat) u, xs[j]? = some u → w.cell? ⟨b, off + j, none⟩ = some u) ∧ ∀ u ∈ xs, u.oneCell' = true
  | 0, _ => ⟨[], rfl, NRow.nil w, fun j u hu => by simp at hu, fun u hu => by cases hu⟩
  | k + 1, hk => by
    obtain ⟨xs, h1, h2, h3, h4⟩ := ents_row h k (by omega)
    obtain ⟨e, he⟩ : ∃ e, es[k]? = some e := ⟨_, List.getElem?_eq_getElem (by omega)⟩
    obtain ⟨c0, A, cap, c1, hi⟩ := h k e he
    have ht : es.take (k + 1) = es.take k ++ [e] := by rw [List.take_add_one, he]; rfl
    refine ⟨xs ++ [.string e.word, .slice A e.flags.length cap], by rw [List.length_append, h1, Nat.add_mul]; rfl, ?_, fun j u hu => ?_, fun u hu => ?_⟩
    · rw [ht]
      exact h2.app (by rw [h1, List.length_take]; congr 1; omega) (NRow.one w hi)
    · rcases Nat.lt_or_ge j xs.length with hlt | hge
      · rw [List.getElem?_append_left hlt] at hu
        exact h3 j u hu
      · rw [List.getElem?_append_right hge] at hu
        rw [h1] at hu hge
        obtain ⟨m, hm⟩ : ∃ m, m = j - k * 2 := ⟨_, rfl⟩
        rw [← hm] at hu
        match m, hm, hu with
        | 0, hm, hu => simp at hu; subst hu; rw [show off + j = off + k * 2 by omega]; exact c0
        | 1, hm, hu => simp at hu; subst hu; rw [show off + j = off + k * 2 + 1 by omega]; exact c1
        | m + 2, _, hu => simp at hu
    · rcases List.mem_append.1 hu with hu | hu
      · exact h4 u hu
      · exact en_one _ _ _ _ u hu
theorem NRow.ents {Wb w : World} {B : Nat} {v : Value} {xs : List Value} {es : List En} (h : NRow Wb xs es) (ho : w.ownsRow B 25 2 v es.length xs) (hb : Below Wb.heap.size Wb w) : EntsAt w v es := by
  have hc := @World.ownsRow.cells _ _ _ _ _ _ _ ho
  rcases ho.2 with ⟨rfl, h0⟩ | ⟨g, cap, cur, rfl, _, hg, hnc, hcm, _⟩
  · exact .inl ⟨List.eq_nil_of_length_eq_zero h0, _, _, rfl⟩
  · refine .inr ⟨g, 0, cap, rfl, (Array.getElem?_eq_some_iff.1 hg).1, hnc, hcm, fun i e hi => ?_⟩
    obtain ⟨A, c, h1, h3, h4⟩ := h i e hi
    rw [Nat.zero_add]
    exact ⟨by rw [← add9]; exact hc (g := g) rfl _ _ h1, A, c, by rw [← add9]; exact hc (g := g) rfl _ _ h3, h4.keep hb⟩
end Go.Proofs.YtcbmfkgekhadkaaGreatDoor
