/- Slices of rules, of entries as rows of cells: their beginnings, their ends, one behind the other. -/
import Derived.Test.YtcbmfkgekhadkaaGreatDoorZTable
import Derived.Deep.AppendLies
import Derived.Deep.RegionLaw
namespace Go.Proofs.YtcbmfkgekhadkaaGreatDoor
section
open Go Go.RowKit Go.Lib

/-! ### Rules -/
theorem zcells_at (r : Ru) (A : Option Addr) (cap : Nat) : ∀ (m : Nat) u, (zCells r A cap)[m]? = some u → (m = 0 ∧ u = .bool r.pre) ∨ (m = 1 ∧ u = .int .i64 r.flag) ∨ (m = 2 ∧ u = .bool r.cross) ∨ (m = 3 ∧ u = .string r.strip) ∨ (m = 4 ∧ u = .string r.add) ∨ (m = 5 ∧ u = .slice A r.cond.length cap)
  | 0, u, h => by simp [zCells] at h; simp [h]
  | 1, u, h => by simp [zCells] at h; simp [h]
  | 2, u, h => by simp [zCells] at h; simp [h]
  | 3, u, h => by simp [zCells] at h; simp [h]
  | 4, u, h => by simp [zCells] at h; simp [h]
  | 5, u, h => by simp [zCells] at h; simp [h]
  | m + 6, u, h => by simp [zCells] at h
theorem zcells_one (r : Ru) (A : Option Addr) (cap : Nat) : ∀ u ∈ zCells r A cap, u.oneCell' = true := by
  intro u hu
  simp only [zCells, List.mem_cons, List.not_mem_nil, or_false] at hu
  rcases hu with rfl | rfl | rfl | rfl | rfl | rfl <;> rfl
theorem rules_row {w : World} {b off : Nat} {rs : List Ru} (h : ∀ (i : Nat) r, rs[i]? = some r → RuCells w b (off + i * 6) r) :
    ∀ k, k ≤ rs.length → ∃ xs, xs.length = k * 6 ∧ ZRow w xs (rs.take k) ∧ (∀ (j : Nat) u, xs[j]? = some u → w.cell? ⟨b, off + j, none⟩ = some u) ∧ ∀ u ∈ xs, u.oneCell' = true
  | 0, _ => ⟨[], rfl, ZRow.nil w, fun j u hu => by simp at hu, fun u hu => by cases hu⟩
  | k + 1, hk => by
    obtain ⟨xs, h1, h2, h3, h4⟩ := rules_row h k (by omega)
    obtain ⟨r, hr⟩ : ∃ r, rs[k]? = some r := ⟨_, List.getElem?_eq_getElem (by omega)⟩
    obtain ⟨c0, c1, c2, c3, c4, A, cap, c5, hi⟩ := h k r hr
    have ht : rs.take (k + 1) = rs.take k ++ [r] := by rw [List.take_add_one, hr]; rfl
    refine ⟨xs ++ zCells r A cap, by rw [List.length_append, h1, Nat.add_mul]; rfl, ?_, fun j u hu => ?_, fun u hu => ?_⟩
    · rw [ht]
      exact h2.snoc (by rw [h1, List.length_take]; congr 1; omega) hi
    · rcases Nat.lt_or_ge j xs.length with hlt | hge
      · rw [List.getElem?_append_left hlt] at hu
        exact h3 j u hu
      · rw [List.getElem?_append_right hge] at hu
        have e := zcells_at r A cap _ u hu
        rw [h1] at e hge
        rcases e with ⟨e, rfl⟩ | ⟨e, rfl⟩ | ⟨e, rfl⟩ | ⟨e, rfl⟩ | ⟨e, rfl⟩ | ⟨e, rfl⟩
        · rw [show off + j = off + k * 6 by omega]; exact c0
        · rw [show off + j = off + k * 6 + 1 by omega]; exact c1
        · rw [show off + j = off + k * 6 + 2 by omega]; exact c2
        · rw [show off + j = off + k * 6 + 3 by omega]; exact c3
        · rw [show off + j = off + k * 6 + 4 by omega]; exact c4
        · rw [show off + j = off + k * 6 + 5 by omega]; exact c5
    · rcases List.mem_append.1 hu with hu | hu
      · exact h4 u hu
      · exact zcells_one _ _ _ u hu
theorem ZRow.take {Wb : World} {xs : List Value} {rs : List Ru} (h : ZRow Wb xs rs) (k : Nat) : ZRow Wb (xs.take (k * 6)) (rs.take k) := by
  intro i r hi
  rw [List.getElem?_take] at hi
  split at hi
  · rename_i hik
    obtain ⟨A, cap, h0, h1, h2, h3, h4, h5, h6⟩ := h i r hi
    refine ⟨A, cap, ?_, ?_, ?_, ?_, ?_, ?_, h6⟩ <;> rw [List.getElem?_take, if_pos (by omega)] <;> assumption
  · cases hi
theorem ZRow.drop {Wb : World} {xs : List Value} {rs : List Ru} (h : ZRow Wb xs rs) (k : Nat) : ZRow Wb (xs.drop (k * 6)) (rs.drop k) := by
  intro i r hi
  rw [List.getElem?_drop] at hi
  obtain ⟨A, cap, h0, h1, h2, h3, h4, h5, h6⟩ := h (k + i) r hi
  refine ⟨A, cap, ?_, ?_, ?_, ?_, ?_, ?_, h6⟩ <;> rw [List.getElem?_drop] <;> simp only [Nat.add_mul, Nat.add_assoc] at * <;> assumption
theorem ZRow.app {Wb : World} {xs ys : List Value} {rs ts : List Ru} (h : ZRow Wb xs rs) (hl : xs.length = rs.length * 6) (h' : ZRow Wb ys ts) : ZRow Wb (xs ++ ys) (rs ++ ts) := by
  intro i r hi
  rcases Nat.lt_or_ge i rs.length with hlt | hge
  · rw [List.getElem?_append_left hlt] at hi
    obtain ⟨B, c, h0, h1, h2, h3, h4, h5, h6⟩ := h i r hi
    refine ⟨B, c, ?_, ?_, ?_, ?_, ?_, ?_, h6⟩ <;> rw [List.getElem?_append_left (by omega)] <;> assumption
  · rw [List.getElem?_append_right hge] at hi
    obtain ⟨B, c, h0, h1, h2, h3, h4, h5, h6⟩ := h' _ r hi
    refine ⟨B, c, ?_, ?_, ?_, ?_, ?_, ?_, h6⟩ <;> rw [List.getElem?_append_right (by omega)]
    · rw [show i * 6 - xs.length = (i - rs.length) * 6 by omega]; exact h0
    · rw [show i * 6 + 1 - xs.length = (i - rs.length) * 6 + 1 by omega]; exact h1
    · rw [show i * 6 + 2 - xs.length = (i - rs.length) * 6 + 2 by omega]; exact h2
    · rw [show i * 6 + 3 - xs.length = (i - rs.length) * 6 + 3 by omega]; exact h3
    · rw [show i * 6 + 4 - xs.length = (i - rs.length) * 6 + 4 by omega]; exact h4
    · rw [show i * 6 + 5 - xs.length = (i - rs.length) * 6 + 5 by omega]; exact h5
theorem ZRow.rules {Wb w : World} {B : Nat} {v : Value} {xs : List Value} {rs : List Ru} (h : ZRow Wb xs rs) (ho : w.ownsRow B 51 6 v rs.length xs) (hb : Below Wb.heap.size Wb w) : RulesAt w v rs := by
  rcases h.reads ho with h3 | ⟨b, off, cap, e, k1, k2, k3, k4⟩
  · exact .inl h3
  · refine .inr ⟨b, off, cap, e, k1, k2, k3, fun i r hr => ?_⟩
    obtain ⟨z0, z1, z2, z3, z4, A, c, z5, z6⟩ := k4 i r hr
    exact ⟨z0, z1, z2, z3, z4, A, c, z5, z6.keep hb⟩

/-! ### Entries -/
def NRow (Wb : World) (xs : List Value) (es : List En) : Prop :=
  ∀ (i : Nat) e, es[i]? = some e → ∃ A cap, xs[i * 2]? = some (.string e.word) ∧ xs[i * 2 + 1]? = some (.slice A e.flags.length cap) ∧ IntsAt Wb (.slice A e.flags.length cap) e.flags
theorem NRow.nil (Wb : World) : NRow Wb [] [] := fun i e h => by simp at h
theorem NRow.app {Wb : World} {xs ys : List Value} {rs ts : List En} (h : NRow Wb xs rs) (hl : xs.length = rs.length * 2) (h' : NRow Wb ys ts) : NRow Wb (xs ++ ys) (rs ++ ts) := by
  intro i r hi
  rcases Nat.lt_or_ge i rs.length with hlt | hge
  · rw [List.getElem?_append_left hlt] at hi
    obtain ⟨B, c, h0, h1, h6⟩ := h i r hi
    refine ⟨B, c, ?_, ?_, h6⟩ <;> rw [List.getElem?_append_left (by omega)] <;> assumption
  · rw [List.getElem?_append_right hge] at hi
    obtain ⟨B, c, h0, h1, h6⟩ := h' _ r hi
    refine ⟨B, c, ?_, ?_, h6⟩ <;> rw [List.getElem?_append_right (by omega)]
    · rw [show i * 2 - xs.length = (i - rs.length) * 2 by omega]; exact h0
    · rw [show i * 2 + 1 - xs.length = (i - rs.length) * 2 + 1 by omega]; exact h1
theorem NRow.take {Wb : World} {xs : List Value} {rs : List En} (h : NRow Wb xs rs) (k : Nat) : NRow Wb (xs.take (k * 2)) (rs.take k) := by
  intro i r hi
  rw [List.getElem?_take] at hi
  split at hi
  · rename_i hik
    obtain ⟨A, cap, h0, h1, h6⟩ := h i r hi
    refine ⟨A, cap, ?_, ?_, h6⟩ <;> rw [List.getElem?_take, if_pos (by omega)] <;> assumption
  · cases hi
theorem NRow.drop {Wb : World} {xs : List Value} {rs : List En} (h : NRow Wb xs rs) (k : Nat) : NRow Wb (xs.drop (k * 2)) (rs.drop k) := by
  intro i r hi
  rw [List.getElem?_drop] at hi
  obtain ⟨A, cap, h0, h1, h6⟩ := h (k + i) r hi
  refine ⟨A, cap, ?_, ?_, h6⟩ <;> rw [List.getElem?_drop] <;> simp only [Nat.add_mul, Nat.add_assoc] at * <;> assumption
theorem NRow.one (Wb : World) {e : En} {A : Option Addr} {cap : Nat} (hi : IntsAt Wb (.slice A e.flags.length cap) e.flags) : NRow Wb [.string e.word, .slice A e.flags.length cap] [e] := by
  intro i x hx
  cases i with
  | zero =>
    simp at hx; subst hx
    exact ⟨A, cap, rfl, rfl, hi⟩
  | succ i => simp at hx
theorem ents_row {w : World} {b off : Nat} {es : List En} (h : ∀ (i : Nat) e, es[i]? = some e → EnCells w b (off + i * 2) e) :
    ∀ k, k ≤ es.length → ∃ xs, xs.length = k * 2 ∧ NRow w xs (es.take k) ∧ (∀ (j : Nat) u, xs[j]? = some u → w.cell? ⟨b, off + j, none⟩ = some u) ∧ ∀ u ∈ xs, u.oneCell' = true
  | 0, _ => ⟨[], rfl, NRow.nil w, fun j u hu => by simp at hu, fun u hu => by cases hu⟩
  | k + 1, hk => by
    obtain ⟨xs, h1, h2, h3, h4⟩ := ents_row h k (by omega)
    obtain ⟨e, he⟩ : ∃ e, es[k]? = some e := ⟨_, List.getElem?_eq_getElem (by omega)⟩
    obtain ⟨c0, A, cap, c1, hi⟩ := h k e he
    have ht : es.take (k + 1) = es.take k ++ [e] := by rw [List.take_add_one, he]; rfl
    refine ⟨xs ++ [.string e.word, .slice A e.flags.length cap], by rw [List.length_append, h1, Nat.add_mul]; rfl, ?_, fun j u hu => ?_, fun u hu => ?_⟩
    · rw [ht]
      exact h2.app (by rw [h1, List.length_take]; congr 1; omega) (NRow.one w hi)
    · rcases Nat.lt_or_ge j xs.length with hlt | hge
      · rw [List.getElem?_append_left hlt] at hu
        exact h3 j u hu
      · rw [List.getElem?_append_right hge] at hu
        rw [h1] at hu hge
        obtain ⟨m, hm⟩ : ∃ m, m = j - k * 2 := ⟨_, rfl⟩
        rw [← hm] at hu
        match m, hm, hu with
        | 0, hm, hu => simp at hu; subst hu; rw [show off + j = off + k * 2 by omega]; exact c0
        | 1, hm, hu => simp at hu; subst hu; rw [show off + j = off + k * 2 + 1 by omega]; exact c1
        | m + 2, _, hu => simp at hu
    · rcases List.mem_append.1 hu with hu | hu
      · exact h4 u hu
      · exact en_one _ _ _ _ u hu
theorem NRow.ents {Wb w : World} {B : Nat} {v : Value} {xs : List Value} {es : List En} (h : NRow Wb xs es) (ho : w.ownsRow B 25 2 v es.length xs) (hb : Below Wb.heap.size Wb w) : EntsAt w v es := by
  have hc := @World.ownsRow.cells _ _ _ _ _ _ _ ho
  rcases ho.2 with ⟨rfl, h0⟩ | ⟨g, cap, cur, rfl, _, hg, hnc, hcm, _⟩
  · exact .inl ⟨List.eq_nil_of_length_eq_zero h0, _, _, rfl⟩
  · refine .inr ⟨g, 0, cap, rfl, (Array.getElem?_eq_some_iff.1 hg).1, hnc, hcm, fun i e hi => ?_⟩
    obtain ⟨A, c, h1, h3, h4⟩ := h i e hi
    rw [Nat.zero_add]
    exact ⟨by rw [← add9]; exact hc (g := g) rfl _ _ h1, A, c, by rw [← add9]; exact hc (g := g) rfl _ _ h3, h4.keep hb⟩
end
section
open Go Go.RowKit Go.Lib

theorem own_apartZ {w : World} {B e e' size size' n n' : Nat} {v v' : Value} {xs xs' : List Value} (h : w.ownsRow B e size v n xs) (h' : w.ownsRow B e' size' v' n' xs') (hne : e ≠ e') : v.ownBlock = none ∨ v.ownBlock ≠ v'.ownBlock := by
  rcases h.2 with ⟨rfl, _⟩ | ⟨g, cap, cur, rfl, _, hg, _⟩
  · left; rfl
  · right
    rcases h'.2 with ⟨rfl, _⟩ | ⟨g', cap', cur', rfl, _, hg', _⟩
    · simp [Value.ownBlock]
    · simp only [Value.ownBlock]
      intro e1
      obtain rfl : g = g' := Option.some.inj e1
      rw [hg] at hg'
      simp at hg'
      exact hne hg'.2
/-- Two rows of the law's own, of rules and of entries, what they lean on where B has it. -/
structure TQ2 (B w : World) (v : Value) (rs : List Ru) (u : Value) (es : List En) : Prop where
  rrow : ∃ xs, w.ownsRow B.heap.size 51 6 v rs.length xs ∧ ZRow B xs rs
  erow : ∃ ys, w.ownsRow B.heap.size 25 2 u es.length ys ∧ NRow B ys es
  below : Below B.heap.size B w
theorem TQ2.start {B w : World} (h : Below B.heap.size B w) : TQ2 B w (.slice none 0 0) [] (.slice none 0 0) [] := ⟨⟨[], World.ownsRow_nil _ _ _ _, ZRow.nil B⟩, ⟨[], World.ownsRow_nil _ _ _ _, NRow.nil B⟩, h⟩
theorem TQ2.rules {B w : World} {v u : Value} {rs : List Ru} {es : List En} (h : TQ2 B w v rs u es) : RulesAt w v rs := by
  obtain ⟨xs, h1, h2⟩ := h.rrow
  exact h2.rules h1 h.below
theorem TQ2.ents {B w : World} {v u : Value} {rs : List Ru} {es : List En} (h : TQ2 B w v rs u es) : EntsAt w u es := by
  obtain ⟨xs, h1, h2⟩ := h.erow
  exact h2.ents h1 h.below
/-- A slice of rules of the old world, to be appended. -/
def PartR (B : World) (u : Value) (ts : List Ru) : Prop :=
  ∃ b off c news, u = .slice (some ⟨b, off, none⟩) ts.length c ∧ b < B.heap.size ∧ news.length = ts.length * 6 ∧ ZRow B news ts ∧ (∀ (j : Nat) x, news[j]? = some x → B.cell? ⟨b, off + j, none⟩ = some x) ∧ ∀ x ∈ news, x.oneCell' = true
/-- A slice of entries of the old world, to be appended: nil, or one with an address. -/
def PartE (B : World) (u : Value) (ts : List En) : Prop :=
  (u = .slice none 0 0 ∧ ts = []) ∨ ∃ b off c news, u = .slice (some ⟨b, off, none⟩) ts.length c ∧ b < B.heap.size ∧ news.length = ts.length * 2 ∧ NRow B news ts ∧ (∀ (j : Nat) x, news[j]? = some x → B.cell? ⟨b, off + j, none⟩ = some x) ∧ ∀ x ∈ news, x.oneCell' = true
theorem part_rules {B : World} {b off n cap : Nat} {rs : List Ru} (h : RulesAt B (.slice (some ⟨b, off, none⟩) n cap) rs) (h0 : 0 < n) (k c : Nat) (hk : k ≤ n) : PartR B (.slice (some ⟨b, off, none⟩) k c) (rs.take k) ∧ PartR B (.slice (some ⟨b, off + k * 6, none⟩) (n - k) c) (rs.drop k) := by
  rcases h with ⟨rfl, a, c, e⟩ | ⟨b', off', cap', e, h1, h2, h3, h4⟩
  · injection e with _ e2 _
    omega
  · injection e with e1 e2 e3
    simp only [Option.some.injEq, Addr.mk.injEq, and_true] at e1
    obtain ⟨rfl, rfl⟩ := e1
    subst e2
    obtain ⟨xs, x1, x2, x3, x4⟩ := rules_row h4 rs.length (Nat.le_refl _)
    rw [List.take_of_length_le (Nat.le_refl _)] at x2
    refine ⟨⟨b, off, c, xs.take (k * 6), by rw [List.length_take, Nat.min_eq_left hk], h1, by rw [List.length_take, List.length_take, x1, Nat.min_eq_left hk, Nat.min_eq_left (Nat.mul_le_mul_right 6 hk)], x2.take k, fun j x hx => ?_, fun x hx => x4 x (List.mem_of_mem_take hx)⟩, ⟨b, off + k * 6, c, xs.drop (k * 6), by rw [List.length_drop], h1, by rw [List.length_drop, List.length_drop, x1, Nat.sub_mul], x2.drop k, fun j x hx => ?_, fun x hx => x4 x (List.mem_of_mem_drop hx)⟩⟩
    · rw [List.getElem?_take] at hx
      split at hx
      · exact x3 j x hx
      · cases hx
    · rw [List.getElem?_drop] at hx
      rw [Nat.add_assoc]
      exact x3 _ x hx
theorem part_ents {B : World} {b off n cap : Nat} {es : List En} (h : EntsAt B (.slice (some ⟨b, off, none⟩) n cap) es) (h0 : 0 < n) (k c : Nat) (hk : k ≤ n) : PartE B (.slice (some ⟨b, off, none⟩) k c) (es.take k) ∧ PartE B (.slice (some ⟨b, off + k * 2, none⟩) (n - k) c) (es.drop k) := by
  rcases h with ⟨rfl, a, c, e⟩ | ⟨b', off', cap', e, h1, h2, h3, h4⟩
  · injection e with _ e2 _
    omega
  · injection e with e1 e2 e3
    simp only [Option.some.injEq, Addr.mk.injEq, and_true] at e1
    obtain ⟨rfl, rfl⟩ := e1
    subst e2
    obtain ⟨xs, x1, x2, x3, x4⟩ := ents_row h4 es.length (Nat.le_refl _)
    rw [List.take_of_length_le (Nat.le_refl _)] at x2
    refine ⟨.inr ⟨b, off, c, xs.take (k * 2), by rw [List.length_take, Nat.min_eq_left hk], h1, by rw [List.length_take, List.length_take, x1, Nat.min_eq_left hk, Nat.min_eq_left (Nat.mul_le_mul_right 2 hk)], x2.take k, fun j x hx => ?_, fun x hx => x4 x (List.mem_of_mem_take hx)⟩, .inr ⟨b, off + k * 2, c, xs.drop (k * 2), by rw [List.length_drop], h1, by rw [List.length_drop, List.length_drop, x1, Nat.sub_mul], x2.drop k, fun j x hx => ?_, fun x hx => x4 x (List.mem_of_mem_drop hx)⟩⟩
    · rw [List.getElem?_take] at hx
      split at hx
      · exact x3 j x hx
      · cases hx
    · rw [List.getElem?_drop] at hx
      rw [Nat.add_assoc]
      exact x3 _ x hx

section
variable {ops : Array Oper} {o : Oper} {a : Act} {K : Act → World → Prop} {Q : Exit → Act → World → Prop} {E : Prop} {B w : World} {v u p : Value} {rs ts : List Ru} {es fs : List En}
/-- append(rules, part...). -/
theorem step_rules (hgd : o.guard = none) (s x : Operand) (ho : o.op = .call { callee := .builtin .append, args := #[s, x], argTypes := #[22, 22] }) (hq : TQ2 B w v rs u es) (hs : a.eval s = v) (hx : a.eval x = p) (hp : PartR B p ts) (hl : rs.length + ts.length ≤ 1000)
    (h : ∀ v' w', TQ2 B w' v' (rs ++ ts) u es → K (a.put o.dst v') w') : if Region.wanted o (yielded ops a.tmps) = true then Oper.wp Tryz.prog o a w K Q else E := by
  have hw : Region.wanted o (yielded ops a.tmps) = true := by simp [Region.wanted, hgd]
  rw [if_pos hw]
  obtain ⟨i0, hi, hz0, hz1, hz2⟩ := info_parts Tryz.infosZ51
  obtain ⟨⟨xs, h1, h2⟩, ⟨ys, h3, h4⟩, hb⟩ := hq
  obtain ⟨b, off, c, news, rfl, p1, p2, p3, p4, p5⟩ := hp
  refine wp_append_own w s x 22 ho B.heap.size 51 i0 _ 6 80 Tryz.underlying22 hi hz0 hz1 hz2 rfl (by decide) v rs.length xs hs h1 ⟨b, off, none⟩ ts.length c news hx p2 (fun j y hy => by rw [Addr.add_lit]; exact (cell_old (p := ⟨b, off + j, none⟩) hb p1).trans (p4 j y hy)) p5 (by unfold maxLen; omega) (by omega) hb.size ?_
  intro v' w' k1 k2 _
  exact h v' w' ⟨⟨xs ++ news, by rw [List.length_append]; exact k1, h2.app h1.1 p3⟩, ⟨ys, h3.kept k2 (own_apartZ h3 h1 (by decide)), h4⟩, hb.grown k2 hb.size fun z hz => (h1.lt z hz).1⟩
/-- append(entries, part...). -/
theorem step_ents (hgd : o.guard = none) (s x : Operand) (ho : o.op = .call { callee := .builtin .append, args := #[s, x], argTypes := #[39, 39] }) (hq : TQ2 B w v rs u es) (hs : a.eval s = u) (hx : a.eval x = p) (hp : PartE B p fs) (hl : es.length + fs.length ≤ 1000)
    (h : ∀ u' w', TQ2 B w' v rs u' (es ++ fs) → K (a.put o.dst u') w') : if Region.wanted o (yielded ops a.tmps) = true then Oper.wp Tryz.prog o a w K Q else E := by
  have hw : Region.wanted o (yielded ops a.tmps) = true := by simp [Region.wanted, hgd]
  rw [if_pos hw]
  obtain ⟨i0, hi, hz0, hz1, hz2⟩ := info_parts Tryz.infosY25
  obtain ⟨⟨xs, h1, h2⟩, ⟨ys, h3, h4⟩, hb⟩ := hq
  rcases hp with ⟨rfl, rfl⟩ | ⟨b, off, c, news, rfl, p1, p2, p3, p4, p5⟩
  · have hrun := run_append_owned_none (P := Tryz.prog) (w := w) B.heap.size 39 o.type 25 i0 2 Tryz.underlying39 hi u es.length ys h3
    unfold Oper.wp
    simp [execOp, ho, resolve, invoke, builtin, hs, hx, hrun, Result.andThen]
    exact h u w ⟨⟨xs, h1, h2⟩, ⟨ys, by simpa using h3, by simpa using h4⟩, hb⟩
  · refine wp_append_own w s x 39 ho B.heap.size 25 i0 _ 2 40 Tryz.underlying39 hi hz0 hz1 hz2 rfl (by decide) u es.length ys hs h3 ⟨b, off, none⟩ fs.length c news hx p2 (fun j y hy => by rw [Addr.add_lit]; exact (cell_old (p := ⟨b, off + j, none⟩) hb p1).trans (p4 j y hy)) p5 (by unfold maxLen; omega) (by omega) hb.size ?_
    intro v' w' k1 k2 _
    exact h v' w' ⟨⟨xs, h1.kept k2 (own_apartZ h1 h3 (by decide)), h2⟩, ⟨ys ++ news, by rw [List.length_append]; exact k1, h4.app h3.1 p3⟩, hb.grown k2 hb.size fun z hz => (h3.lt z hz).1⟩
end
end
end Go.Proofs.YtcbmfkgekhadkaaGreatDoor
