/- A history in memory: groups in a ring of fifty places; what a turn of a place, of a number makes of it; place, empty by contract. -/
import Derived.Test.YtibccdbmdajijaaHLaws
namespace Go.Proofs.Ytibccdbmdajijaa
open Go Go.RowKit

/-- In the blocks F, hb not among them: a slice of groups. -/
def GrpR (F : Nat → Prop) (hb : Nat) (w : World) (v : Value) (g : List Ed) : Prop := RowAt w v g ∧ (0 < g.length ∧ g.length ≤ 20) ∧ ∀ b, v.ownBlock = some b → F b ∧ b ≠ hb
theorem GrpR.keep {F F' : Nat → Prop} {hb : Nat} {w w' : World} {v : Value} {g : List Ed} (h : GrpR F hb w v g) (hF : ∀ k, F k → F' k) (hs : w.heap.size ≤ w'.heap.size) (hk : ∀ k, F k → k ≠ hb → w'.heap[k]? = w.heap[k]?) : GrpR F' hb w' v g :=
  ⟨h.1.keep hs (fun b _ hv => hk b (h.2.2 b hv).1 (h.2.2 b hv).2), h.2.1, fun b hv => ⟨hF b (h.2.2 b hv).1, (h.2.2 b hv).2⟩⟩
/-- At hb, in the blocks F: a ring, from the place old on the groups L, those below lo aside, and its numbers. -/
structure Ring (F : Nat → Prop) (hb : Nat) (w : World) (lo old u r D : Nat) (L : List (List Ed)) : Prop where
  own : F hb
  lt : ∀ k, F k → k < w.heap.size
  old50 : old < 50
  len : L.length ≤ 50
  cells : ∃ cs : Array Value, w.heap[hb]? = some (.cells cs /-t-/46 (0, 0)) ∧ cs.size = 54 ∧ cs[50]? = some (.int .i64 old) ∧ cs[51]? = some (.int .i64 u) ∧ cs[52]? = some (.int .i64 r) ∧ cs[53]? = some (.int .i64 D) ∧
    ∀ (i : Nat) g, lo ≤ i → L[i]? = some g → ∃ v, cs[(old + i) % 50]? = some v ∧ GrpR F hb w v g
section
variable {F : Nat → Prop} {hb lo old u r D : Nat} {w w' : World} {L : List (List Ed)}
theorem Ring.keep (h : Ring F hb w lo old u r D L) (hk : KeepsAt F w w') : Ring F hb w' lo old u r D L := by
  obtain ⟨h1, h2, h3, h4, cs, h5, h6, h7, h8, h9, h10, h11⟩ := h
  refine ⟨h1, fun k hk' => Nat.lt_of_lt_of_le (h2 k hk') hk.size, h3, h4, cs, (hk.block hb (h2 hb h1) h1).trans h5, h6, h7, h8, h9, h10, fun i g hl hi => ?_⟩
  obtain ⟨v, hv, hG⟩ := h11 i g hl hi
  exact ⟨v, hv, hG.keep (fun _ h => h) hk.size (fun k hF _ => hk.block k (h2 k hF) hF)⟩
/-- The cells that a walk asks for. -/
theorem Ring.facts (h : Ring F hb w lo old u r D L) : (w.cell? ⟨hb, 50, none⟩ = some (.int .i64 old) ∧ w.cell? ⟨hb, 51, none⟩ = some (.int .i64 u) ∧ w.cell? ⟨hb, 52, none⟩ = some (.int .i64 r) ∧ w.cell? ⟨hb, 53, none⟩ = some (.int .i64 D)) ∧ (∀ o, w.frozen? ⟨hb, o, none⟩ = false) ∧ ∀ j, j < 54 → ∃ v, w.cell? ⟨hb, j, none⟩ = some v := by
  obtain ⟨h1, h2, h3, h4, cs, h5, h6, h7, h8, h9, h10, h11⟩ := h
  refine ⟨⟨?_, ?_, ?_, ?_⟩, fun o => ?_, fun j hj => ⟨cs[j]'(by omega), ?_⟩⟩
  · simpa [World.cell?, h5] using h7
  · simpa [World.cell?, h5] using h8
  · simpa [World.cell?, h5] using h9
  · simpa [World.cell?, h5] using h10
  · simp [World.frozen?, h5]
  · simp [World.cell?, h5, hj, h6]
theorem Ring.at (h : Ring F hb w lo old u r D L) {i : Nat} {g : List Ed} (hl : lo ≤ i) (hi : L[i]? = some g) : ∃ v, w.cell? ⟨hb, (old + i) % 50, none⟩ = some v ∧ GrpR F hb w v g := by
  obtain ⟨h1, h2, h3, h4, cs, h5, h6, h7, h8, h9, h10, h11⟩ := h
  obtain ⟨v, hv, hG⟩ := h11 i g hl hi
  exact ⟨v, by simpa [World.cell?, h5] using hv, hG⟩
theorem ring_set (w : World) (g i : Nat) (v : Value) (cs : Array Value) (t : TypeId) (h : w.heap[g]? = some (.cells cs t (0, 0))) : (w.setCell ⟨g, i, none⟩ v).heap[g]? = some (.cells (cs.setIfInBounds i v) t (0, 0)) := by
  simp [World.setCell, Array.getElem?_modify, h]
theorem ring_only (w : World) (g o : Nat) (v : Value) : OnlyAt (fun k => k = g) w (w.setCell ⟨g, o, none⟩ v) := OnlyAt.setCell (T := fun k => k = g) _ ⟨g, o, none⟩ _ rfl
/-- A cell of the ring's own block is written: what the block's other cells say stands. -/
theorem Ring.set (h : Ring F hb w lo old u r D L) {o old' u' r' lo' : Nat} {L' : List (List Ed)} {F' : Nat → Prop} {v : Value} (ho : o < 54) (hold : old' < 50) (hlen : L'.length ≤ 50) (hF : ∀ k, F k → F' k) (hF' : ∀ k, F' k → k < w.heap.size)
    (c0 : if o = 50 then v = .int .i64 old' else old' = old) (c1 : if o = 51 then v = .int .i64 u' else u' = u) (c2 : if o = 52 then v = .int .i64 r' else r' = r) (c3 : o ≠ 53)
    (hL : ∀ (i : Nat) g, lo' ≤ i → L'[i]? = some g → (o = (old' + i) % 50 ∧ GrpR F' hb w v g) ∨ (o ≠ (old' + i) % 50 ∧ ∃ j, lo ≤ j ∧ (old + j) % 50 = (old' + i) % 50 ∧ L[j]? = some g)) : Ring F' hb (w.setCell ⟨hb, o, none⟩ v) lo' old' u' r' D L' := by
  obtain ⟨h1, h2, h3, h4, cs, h5, h6, h7, h8, h9, h10, h11⟩ := h
  have hsz : (w.setCell ⟨hb, o, none⟩ v).heap.size = w.heap.size := by simp [World.setCell]
  have hget : ∀ (j : Nat) x, cs[j]? = some x → o ≠ j → (cs.setIfInBounds o v)[j]? = some x := fun j x hx hne => by
    rw [Array.getElem?_setIfInBounds_ne hne]; exact hx
  have hself : (cs.setIfInBounds o v)[o]? = some v := by
    rw [Array.getElem?_setIfInBounds_self]; simp [h6, ho]
  have hkeep : ∀ k, F' k → k ≠ hb → (w.setCell ⟨hb, o, none⟩ v).heap[k]? = w.heap[k]? := fun k hk hne => (ring_only w hb o v).block k (hF' k hk) hne
  refine ⟨hF _ h1, fun k hk => by rw [hsz]; exact hF' k hk, hold, hlen, cs.setIfInBounds o v, ring_set _ _ _ _ _ _ h5, by simpa using h6, ?_, ?_, ?_, hget _ _ h10 c3, fun i g hl hi => ?_⟩
  · by_cases e : o = 50
    · subst e; rw [if_pos rfl] at c0; rw [hself, c0]
    · rw [if_neg e] at c0; rw [c0]; exact hget _ _ h7 e
  · by_cases e : o = 51
    · subst e; rw [if_pos rfl] at c1; rw [hself, c1]
    · rw [if_neg e] at c1; rw [c1]; exact hget _ _ h8 e
  · by_cases e : o = 52
    · subst e; rw [if_pos rfl] at c2; rw [hself, c2]
    · rw [if_neg e] at c2; rw [c2]; exact hget _ _ h9 e
  · rcases hL i g hl hi with ⟨e, hG⟩ | ⟨e, j, hj, hjj, hLj⟩
    · rw [← e]
      exact ⟨v, hself, hG.keep (fun _ h => h) (by rw [hsz]; exact Nat.le_refl _) hkeep⟩
    · obtain ⟨x, hx, hG⟩ := h11 j g hj hLj
      rw [hjj] at hx
      exact ⟨x, hget _ _ hx e, hG.keep hF (by rw [hsz]; exact Nat.le_refl _) (fun k hk hne => hkeep k (hF k hk) hne)⟩
/-- The number of those that can be undone. -/
theorem Ring.undos (h : Ring F hb w lo old u r D L) (u' : Nat) : Ring F hb (w.setCell ⟨hb, 51, none⟩ (.int .i64 u')) lo old u' r D L :=
  h.set (by decide) h.old50 h.len (fun _ h => h) h.lt (by simp) (by simp) (by simp) (by decide) fun i g hl hi => .inr ⟨by omega, i, hl, rfl, hi⟩
/-- The number of those that can be redone. -/
theorem Ring.redos (h : Ring F hb w lo old u r D L) (r' : Nat) : Ring F hb (w.setCell ⟨hb, 52, none⟩ (.int .i64 r')) lo old u r' D L :=
  h.set (by decide) h.old50 h.len (fun _ h => h) h.lt (by simp) (by simp) (by simp) (by decide) fun i g hl hi => .inr ⟨by omega, i, hl, rfl, hi⟩
/-- The oldest one's place goes on by one. -/
theorem Ring.olds (h : Ring F hb w 1 old u r D L) : Ring F hb (w.setCell ⟨hb, 50, none⟩ (.int .i64 ((old + 1) % 50 : Nat))) 0 ((old + 1) % 50) u r D (L.drop 1) :=
  h.set (by decide) (Nat.mod_lt _ (by decide)) (by rw [List.length_drop]; have := h.len; omega) (fun _ h => h) h.lt (by simp) (by simp) (by simp) (by decide) fun i g _ hi => .inr ⟨by omega, 1 + i, by omega, by omega, by rw [List.getElem?_drop] at hi; exact hi⟩
/-- A place is cleared that is not among those that count. -/
theorem Ring.clear (h : Ring F hb w lo old u r D L) {k lo' : Nat} {L' : List (List Ed)} {v : Value} (hk : k < 50) (hlo : lo ≤ lo') (hL : ∀ (i : Nat) g, lo' ≤ i → L'[i]? = some g → i ≠ k ∧ L[i]? = some g) (hlen : L'.length ≤ 50) :
    Ring F hb (w.setCell ⟨hb, (old + k) % 50, none⟩ v) lo' old u r D L' := by
  have hm : (old + k) % 50 < 50 := Nat.mod_lt _ (by decide)
  refine h.set (by omega) h.old50 hlen (fun _ h => h) h.lt (by rw [if_neg (by omega)]) (by rw [if_neg (by omega)]) (by rw [if_neg (by omega)]) (by omega) fun i g hl hi => .inr ⟨?_, i, by omega, rfl, (hL i g hl hi).2⟩
  have hi50 := (List.getElem?_eq_some_iff.1 hi).1
  have := (hL i g hl hi).1
  omega
/-- A group more comes to the place behind all. -/
theorem Ring.put (h : Ring F hb w 0 old u r D L) {F' : Nat → Prop} {v : Value} {g : List Ed} (hl : L.length < 50) (hF : ∀ k, F k → F' k) (hF' : ∀ k, F' k → k < w.heap.size) (hG : GrpR F' hb w v g) : Ring F' hb (w.setCell ⟨hb, (old + L.length) % 50, none⟩ v) 0 old u r D (L ++ [g]) := by
  have hm : (old + L.length) % 50 < 50 := Nat.mod_lt _ (by decide)
  refine h.set (by omega) h.old50 (by rw [List.length_append]; exact hl) hF hF' (by rw [if_neg (by omega)]) (by rw [if_neg (by omega)]) (by rw [if_neg (by omega)]) (by omega) fun i x _ hi => ?_
  rcases Nat.lt_or_ge i L.length with hlt | hge
  · rw [List.getElem?_append_left hlt] at hi
    exact .inr ⟨by omega, i, Nat.zero_le _, rfl, hi⟩
  · rw [List.getElem?_append_right hge] at hi
    have h0 : i - L.length = 0 := by
      have := (List.getElem?_eq_some_iff.1 hi).1
      simp at this; omega
    rw [h0] at hi
    obtain rfl : g = x := by simpa using hi
    obtain rfl : i = L.length := by omega
    exact .inl ⟨rfl, hG⟩
end

set_option maxRecDepth 100000 in
set_option maxHeartbeats 1000000 in
theorem place_raw (w : World) (hb old k : Nat) (hold : old < 50) (hk : k ≤ 50) (c0 : w.cell? ⟨hb, 50, none⟩ = some (.int .i64 old)) :
    Calls Try.prog 22 #[.pointer (some ⟨hb, 0, none⟩), .int .i64 k] w fun e w' => e = .returned (.pointer (some ⟨hb, (old + k) % 50, none⟩)) ∧ ∃ n, w' = w.drewN n := by
  have hw : IntKind.i64.wrap ((old : Int) + k) = ((old + k : Nat) : Int) := by rw [IntWalk.i64_in _ (by omega)]; omega
  have hw3 : Int.tmod ((old : Int) + k) 50 = (((old + k) % 50 : Nat) : Int) := by rw [Int.tmod_eq_emod_of_nonneg (by omega)]; omega
  have hw2 : IntKind.i64.wrap (Int.tmod ((old : Int) + k) 50) = (((old + k) % 50 : Nat) : Int) := by rw [hw3, IntWalk.i64_in _ (by omega)]
  have hlt : (old + k) % 50 < 50 := Nat.mod_lt _ (by decide)
  go_enter Try.func22, Try.ntmps22
  go_wp2_with fail
  go_quiet (fail)
  go_wp2_with fail
  go_ret
  exact ⟨rfl, _, rfl⟩
end Go.Proofs.Ytibccdbmdajijaa
