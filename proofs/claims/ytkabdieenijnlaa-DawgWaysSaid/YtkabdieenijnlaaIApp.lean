/- Slices of texts that came in; append of them to rows of our own. -/
import Derived.Test.YtkabdieenijnlaaIAll
import Derived.Laws.AppendOwnNone
import Derived.Laws.OwnMore
namespace Go.Proofs.Ytkabdieenijnlaa
open Go Go.RowKit Go.Lib

/-- A slice of texts, nil or not. -/
def StrsQ (w : World) (v : Value) (l : List ByteArray) : Prop :=
  (l = [] ∧ (v = .slice none 0 0 ∨ ∃ a cap, v = .slice (some a) 0 cap)) ∨ ∃ b off cap, v = .slice (some ⟨b, off, none⟩) l.length cap ∧ b < w.heap.size ∧ l.length ≤ cap ∧ cap ≤ maxLen ∧ ∀ (i : Nat) s, l[i]? = some s → w.cell? ⟨b, off + i, none⟩ = some (.string s)
theorem StrsQ.at_ {w : World} {v : Value} {l : List ByteArray} (h : StrsQ w v l) : StrsAt w v l := by
  rcases h with ⟨rfl, rfl | ⟨a, cap, rfl⟩⟩ | h
  · exact .inl ⟨rfl, _, _, rfl⟩
  · exact .inl ⟨rfl, _, _, rfl⟩
  · exact .inr h
theorem StrsQ.keep {w w' : World} {v : Value} {l : List ByteArray} (h : StrsQ w v l) (hb : Below w.heap.size w w') : StrsQ w' v l := by
  rcases h with h | ⟨b, off, cap, rfl, h1, h2, h3, h4⟩
  · exact .inl h
  · exact .inr ⟨b, off, cap, rfl, Nat.lt_of_lt_of_le h1 hb.size, h2, h3, fun i c hc => (cell_old (p := ⟨b, off + i, none⟩) hb h1).trans (h4 i c hc)⟩
theorem append_strs (w : World) (ty : TypeId) (B : Nat) (v : Value) (xs : List ByteArray) (u : Value) (l : List ByteArray) (hown : w.ownsRow B 9 1 v xs.length (xs.map Value.string)) (hu : StrsQ w u l) (hb : xs.length + l.length ≤ 1000000000) (hB : B ≤ w.heap.size) :
    ∃ v' w', (Builtin.append_ #[22, 22] ty #[v, u]).run Try.prog w = .ok v' w' ∧ w'.ownsRow B 9 1 v' (xs ++ l).length ((xs ++ l).map Value.string) ∧ GB w w' v v' := by
  obtain ⟨i0, hi, hz0, hz1, hz2⟩ := info_parts Try.infosZ9
  have main : ∀ (a : Addr) (m c : Nat), m = l.length → u = .slice (some a) m c → (∀ j y, (l.map Value.string)[j]? = some y → w.cell? (a.add j) = some y) → ∃ v' w', (Builtin.append_ #[22, 22] ty #[v, u]).run Try.prog w = .ok v' w' ∧ w'.ownsRow B 9 1 v' (xs ++ l).length ((xs ++ l).map Value.string) ∧ GB w w' v v' := by
    intro a m c hm hue hc
    subst hue hm
    obtain ⟨v', w', r1, r2, r3, _⟩ := run_append_own (P := Try.prog) (w := w) B 22 ty 9 i0 (.string ⟨#[]⟩) 1 16 Try.underlying22 hi hz0 hz1 hz2 rfl (by decide) v xs.length (xs.map Value.string) hown a l.length c (l.map Value.string) (by rw [List.length_map, Nat.mul_one]) hc (str_one l) (by unfold maxLen; omega) (by omega) hB
    have r4 := append_where (P := Try.prog) w B 22 ty 9 i0 (.string ⟨#[]⟩) 1 16 Try.underlying22 hi hz0 hz1 hz2 rfl (by decide) v xs.length (xs.map Value.string) hown a l.length c (l.map Value.string) (by rw [List.length_map, Nat.mul_one]) hc (str_one l) (by unfold maxLen; omega) (by omega) r1
    exact ⟨v', w', r1, by rw [List.length_append, List.map_append]; exact r2, r3, r4⟩
  rcases hu with ⟨rfl, rfl | ⟨a, cap, rfl⟩⟩ | ⟨b, off, cap, rfl, h1, h2, h3, h4⟩
  · exact ⟨v, w, run_append_owned_none (P := Try.prog) (w := w) B 22 ty 9 i0 1 Try.underlying22 hi v _ _ hown, by simpa using hown, GB.refl _ _⟩
  · exact main a 0 cap rfl rfl (fun j y hy => by simp at hy)
  · refine main ⟨b, off, none⟩ l.length cap rfl rfl (fun j y hy => ?_)
    rw [List.getElem?_map] at hy
    obtain ⟨x, hx, rfl⟩ := Option.map_eq_some_iff.1 hy
    rw [Addr.add_lit]
    exact h4 j x hx
theorem wpList_append_strs {w : World} {ops : Array Oper} {rest : List Oper} {o : Oper} {a : Act} {Q : Exit → Act → World → Prop} (hgd : o.guard = none) (s x : Operand)
    (ho : o.op = .call { callee := .builtin .append, args := #[s, x], argTypes := #[22, 22] }) (B : Nat) (v : Value) (xs : List ByteArray) (u : Value) (l : List ByteArray) (hs : a.eval s = v) (hown : w.ownsRow B 9 1 v xs.length (xs.map Value.string)) (hx : a.eval x = u) (hu : StrsQ w u l) (hb : xs.length + l.length ≤ 1000000000) (hB : B ≤ w.heap.size)
    (h : ∀ v' w', w'.ownsRow B 9 1 v' (xs ++ l).length ((xs ++ l).map Value.string) → GB w w' v v' → wpList Try.prog ops Q rest (a.put o.dst v') w') : wpList Try.prog ops Q (o :: rest) a w := by
  refine wpList_plain hgd fun K hK => ?_
  obtain ⟨v', w', hrun, r2, r3⟩ := append_strs w o.type B v xs u l hown hu hb hB
  unfold Oper.wp
  simp [execOp, ho, resolve, invoke, builtin, hs, hx, hrun, Result.andThen]
  exact hK _ _ (h _ _ r2 r3)
theorem step_append_strs {w : World} {ops : Array Oper} {o : Oper} {a : Act} {K : Act → World → Prop} {Q : Exit → Act → World → Prop} {E : Prop} (hgd : o.guard = none) (s x : Operand)
    (ho : o.op = .call { callee := .builtin .append, args := #[s, x], argTypes := #[22, 22] }) (B : Nat) (v : Value) (xs : List ByteArray) (u : Value) (l : List ByteArray) (hs : a.eval s = v) (hown : w.ownsRow B 9 1 v xs.length (xs.map Value.string)) (hx : a.eval x = u) (hu : StrsQ w u l) (hb : xs.length + l.length ≤ 1000000000) (hB : B ≤ w.heap.size)
    (h : ∀ v' w', w'.ownsRow B 9 1 v' (xs ++ l).length ((xs ++ l).map Value.string) → GB w w' v v' → K (a.put o.dst v') w') : if Region.wanted o (yielded ops a.tmps) = true then Oper.wp Try.prog o a w K Q else E := by
  have hw : Region.wanted o (yielded ops a.tmps) = true := by simp [Region.wanted, hgd]
  rw [if_pos hw]
  obtain ⟨v', w', hrun, r2, r3⟩ := append_strs w o.type B v xs u l hown hu hb hB
  unfold Oper.wp
  simp [execOp, ho, resolve, invoke, builtin, hs, hx, hrun, Result.andThen]
  exact h _ _ r2 r3
theorem sorted_rise (l : List ByteArray) : Rising (l.foldl putL []) := by
  have : ∀ (l m : List ByteArray), Rising m → Rising (l.foldl putL m) := fun l => by
    induction l with
    | nil => intro m h; exact h
    | cons a l ih => intro m h; exact ih _ (putL_rising a m h)
  exact this l [] List.Pairwise.nil
end Go.Proofs.Ytkabdieenijnlaa
