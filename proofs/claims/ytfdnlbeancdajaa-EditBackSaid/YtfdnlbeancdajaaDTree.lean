/- A tree's calls, by the blocks that it lies in. -/
import Derived.Test.YtfdnlbeancdajaaTCalls
import Derived.Test.YtfdnlbeancdajaaTSet
namespace Go.Proofs.Ytfdnlbeancdajaa.Avl
open Go Go.RowKit

/-- At a, in the blocks F, lies a tree of the items L, of height h. -/
def RepA (F : Nat → Prop) (w : World) (a : Addr) (L : List It) (h : Nat) : Prop :=
  ∃ ab p t G, a = ⟨ab, 0, none⟩ ∧ F = (fun z => z = ab ∨ z ∈ G) ∧ TreeAt w ab p t G ∧ t.toL = L ∧ t.ht = h ∧ t.Bal ∧ (∀ x ∈ L, x.2 ≤ 1099511627776) ∧ L.length ≤ 65536
variable {F : Nat → Prop} {w : World} {a : Addr} {L : List It} {h : Nat}

theorem RepA.lt (hr : RepA F w a L h) : ∀ k, F k → k < w.heap.size := by
  obtain ⟨ab, p, t, G, rfl, rfl, hT, -⟩ := hr
  exact hT.low
theorem RepA.only {w' : World} {T : Nat → Prop} (hr : RepA F w a L h) (ho : OnlyAt T w w') (hn : ∀ k, F k → ¬ T k) : RepA F w' a L h := by
  obtain ⟨ab, p, t, G, rfl, rfl, hT, rest⟩ := hr
  exact ⟨ab, p, t, G, rfl, rfl, hT.only ho hn, rest⟩
theorem RepA.low (hr : RepA F w a L h) : least h ≤ L.length ∧ h ≤ 1000 := by
  obtain ⟨ab, p, t, G, rfl, rfl, hT, e, eh, hb, h1, h2⟩ := hr
  obtain ⟨b1, -, b3, -⟩ := rep_bounds e h1 h2
  subst eh
  rw [← b1]
  exact ⟨AT.low t hb, Nat.le_of_lt (Nat.lt_trans (AT.ht_le hb b3 least_big) (by omega))⟩
theorem RepA.least (hr : RepA F w a L h) : L.length ≤ 65536 ∧ total L ≤ 72057594037927936 := by
  obtain ⟨ab, p, t, G, rfl, rfl, hT, e, eh, hb, h1, h2⟩ := hr
  obtain ⟨-, b2, -, b4⟩ := rep_bounds e h1 h2
  exact ⟨h2, by omega⟩

theorem new_a (w : World) : Calls Try.prog 23 #[] w fun e w' => ∃ a F, e = .returned (.pointer (some a)) ∧ RepA F w' a [] 0 ∧ OnlyAt (fun _ => False) w w' ∧ ∀ k, F k → w.heap.size ≤ k := by
  refine (new_says w).mono ?_
  rintro e w' ⟨a, he, ⟨ab, p, t, G, rfl, hT, hF, e1, eh, hb, h1, h2⟩, hw⟩
  exact ⟨_, _, he, ⟨ab, p, t, G, rfl, rfl, hT, e1, eh, hb, h1, h2⟩, OnlyAt.of_below hw, hF⟩
theorem len_a (hr : RepA F w a L h) : Calls Try.prog 34 #[.pointer (some a)] w fun e w' => e = .returned (.int .i64 L.length) ∧ Below w.heap.size w w' := by
  obtain ⟨ab, p, t, G, rfl, rfl, hT, e, eh, hb, h1, h2⟩ := hr
  obtain ⟨b1, b2, -⟩ := rep_bounds e h1 h2
  rw [← b1]
  exact len_of hT
theorem sum_a (hr : RepA F w a L h) : Calls Try.prog 49 #[.pointer (some a)] w fun e w' => e = .returned (.int .i64 (total L)) ∧ Below w.heap.size w w' := by
  obtain ⟨ab, p, t, G, rfl, rfl, hT, e, eh, hb, h1, h2⟩ := hr
  obtain ⟨b1, b2, -⟩ := rep_bounds e h1 h2
  rw [← b2]
  exact sum_of hT
theorem get_a (hr : RepA F w a L h) (i : Nat) (x : It) (hx : L[i]? = some x) :
    Calls Try.prog 45 #[.pointer (some a), .int .i64 i] w fun e w' => e = .returned (.tuple #[.int .i64 x.1, .int .i64 x.2, .bool true]) ∧ Below w.heap.size w w' := by
  obtain ⟨ab, p, t, G, rfl, rfl, hT, e, eh, hb, h1, h2⟩ := hr
  obtain ⟨b1, b2, b3, b4⟩ := rep_bounds e h1 h2
  exact get_of hT b3 b4 i x (by rw [e]; exact hx)
theorem find_a (hr : RepA F w a L h) (i : Nat) (hi : i ≤ 9223372036854775807) :
    Calls Try.prog 43 #[.pointer (some a), .int .i64 i] w fun e w' => e = .returned (.tuple #[.int .i64 (findL L i).1, .int .i64 (findL L i).2]) ∧ Below w.heap.size w w' := by
  obtain ⟨ab, p, t, G, rfl, rfl, hT, e, eh, hb, h1, h2⟩ := hr
  obtain ⟨b1, b2, b3, b4⟩ := rep_bounds e h1 h2
  rw [← e]
  exact find_of hT b3 b4 i hi
theorem insert_a (hr : RepA F w a L h) (i : Nat) (key : Int) (size : Nat) (hi : i ≤ L.length) (hz : size ≤ 1099511627776) (hn : L.length < 65536) :
    Calls Try.prog 25 #[.pointer (some a), .int .i64 i, .int .i64 key, .int .i64 size] w fun e w' => e = .returned (.bool true) ∧ ∃ F' h', RepA F' w' a (putL L i (key, size)) h' ∧ OnlyAt F w w' ∧ ∀ k, F' k → F k ∨ w.heap.size ≤ k := by
  obtain ⟨ab, p, t, G, rfl, rfl, hT, e, eh, hb, h1, h2⟩ := hr
  obtain ⟨b1, b2, b3, b4⟩ := rep_bounds e h1 h2
  refine (insert_of hT i key size (by omega) hz hb (by omega) b4).mono ?_
  rintro e' w' ⟨he, p', G', hT', hG', ho⟩
  refine ⟨he, _, _, ⟨ab, p', _, G', rfl, rfl, hT', ?_, rfl, (AT.ins_bal t i (key, size) hb).1, putL_all h1 hz, ?_⟩, ho, fun k hk => ?_⟩
  · rw [AT.ins_toL t i (key, size) (by omega), e]
  · rw [putL_length L i (key, size) hi]; omega
  · rcases hk with e1 | e1
    · exact .inl (.inl e1)
    · exact (hG' k e1).imp .inr id
theorem remove_a (hr : RepA F w a L h) (i : Nat) (hi : i < L.length) :
    Calls Try.prog 72 #[.pointer (some a), .int .i64 i] w fun e w' => e = .returned (.bool true) ∧ ∃ F' h', RepA F' w' a (dropL L i) h' ∧ OnlyAt F w w' ∧ ∀ k, F' k → F k ∨ w.heap.size ≤ k := by
  obtain ⟨ab, p, t, G, rfl, rfl, hT, e, eh, hb, h1, h2⟩ := hr
  obtain ⟨b1, b2, b3, b4⟩ := rep_bounds e h1 h2
  refine (remove_of hT i (by omega) hb b3 b4).mono ?_
  rintro e' w' ⟨he, p', G', s, hs1, hT', hG', ho⟩
  have hi' : i < t.cnt := by omega
  refine ⟨he, _, _, ⟨ab, p', _, G', rfl, rfl, hT', ?_, rfl, (del_bal t i s hs1 hi' hb).1, dropL_all h1, ?_⟩, ho, fun k hk => ?_⟩
  · rw [del_toL t i s hs1 hi', e]
  · rw [dropL_length L i hi]; omega
  · rcases hk with e1 | e1
    · exact .inl (.inl e1)
    · exact (hG' k e1).imp .inr id
theorem set_a (hr : RepA F w a L h) (i : Nat) (key : Int) (size : Nat) (hi : i < L.length) (hz : size ≤ 1099511627776) :
    Calls Try.prog 69 #[.pointer (some a), .int .i64 i, .int .i64 key, .int .i64 size] w fun e w' => e = .returned (.bool true) ∧ ∃ F' h', RepA F' w' a (L.set i (key, size)) h' ∧ OnlyAt F w w' ∧ ∀ k, F' k → F k ∨ w.heap.size ≤ k := by
  obtain ⟨ab, p, t, G, rfl, rfl, hT, e, eh, hb, h1, h2⟩ := hr
  obtain ⟨b1, b2, b3, b4⟩ := rep_bounds e h1 h2
  refine (set_of hT i key size (by omega) hz hb b3 b4).mono ?_
  rintro e' w' ⟨he, p', G', s, hs1, hT', hG', ho⟩
  obtain ⟨c1, -, c3⟩ := set_spec (key, size) t i s hs1 (by omega) hb
  refine ⟨he, _, _, ⟨ab, p', _, G', rfl, rfl, hT', by rw [c3, e], rfl, c1, fun x hx => ?_, by rw [List.length_set]; exact h2⟩, ho, fun k hk => ?_⟩
  · rcases List.mem_or_eq_of_mem_set hx with hx | rfl
    · exact h1 x hx
    · exact hz
  · rcases hk with e1 | e1
    · exact .inl (.inl e1)
    · exact (hG' k e1).imp .inr id
end Go.Proofs.Ytfdnlbeancdajaa.Avl
