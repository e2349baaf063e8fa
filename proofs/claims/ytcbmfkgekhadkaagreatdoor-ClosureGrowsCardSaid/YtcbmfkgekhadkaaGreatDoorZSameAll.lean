/- Stage 13's law ClosureNumbers, plain: turned round, the same forms; how many there can be. -/
import Derived.Test.YtcbmfkgekhadkaaGreatDoorZRefAll
namespace Go.Proofs.YtcbmfkgekhadkaaGreatDoor
open Go Go.Lib

theorem isform_same {rs rs' : List Ru} (h : ∀ r, r ∈ rs ↔ r ∈ rs') (e : En) (x : ByteArray) : IsForm rs e x ↔ IsForm rs' e x := by
  unfold IsForm
  simp only [h]
theorem allF_same {rs rs' : List Ru} {es es' : List En} (h : ∀ r, r ∈ rs ↔ r ∈ rs') (he : ∀ e, e ∈ es ↔ e ∈ es') : allF rs es = allF rs' es' := by
  refine rising_eq (allF_rising rs es) (allF_rising rs' es') fun x => ?_
  rw [allF_mem, allF_mem]
  constructor
  · rintro ⟨e, h1, h2⟩; exact ⟨e, (he e).1 h1, (isform_same h e x).1 h2⟩
  · rintro ⟨e, h1, h2⟩; exact ⟨e, (he e).2 h1, (isform_same h e x).2 h2⟩
theorem allL_same {rs rs' : List Ru} {es es' : List En} (h : ∀ r, r ∈ rs ↔ r ∈ rs') (he : ∀ e, e ∈ es ↔ e ∈ es') : allL rs es = allL rs' es' := by
  unfold allL
  rw [allF_same h he]
theorem turn_mem {α : Type} (l : List α) (k : Nat) (x : α) : x ∈ l.drop k ++ l.take k ↔ x ∈ l := by
  rw [List.mem_append, or_comm, ← List.mem_append, List.take_append_drop]
theorem all_len_from (rs : List Ru) : ∀ (es : List En) (m : List ByteArray), (es.foldl (fun m e => (formsL rs e).foldl putL m) m).length ≤ m.length + es.length * (1 + rs.length * (rs.length + 1))
  | [], m => by simp
  | e :: es, m => by
    have h := all_len_from rs es ((formsL rs e).foldl putL m)
    have h1 := puts_len (formsL rs e) m
    have h2 := forms_len rs e
    rw [List.foldl_cons, List.length_cons, Nat.add_mul]
    omega
theorem allF_len (rs : List Ru) (es : List En) : (allF rs es).length ≤ es.length * (1 + rs.length * (rs.length + 1)) := by
  have := all_len_from rs es []
  simpa [allF] using this
/-- At most thirty entries, at most ten rules: never too many. -/
theorem allL_ok {rs : List Ru} {es : List En} (h1 : rs.length ≤ 10) (h2 : es.length ≤ 30) : allL rs es = (allF rs es, 0) := by
  unfold allL
  rw [if_pos]
  have h := allF_len rs es
  have h3 : rs.length * (rs.length + 1) ≤ 10 * 11 := Nat.mul_le_mul h1 (by omega)
  have h4 : es.length * (1 + rs.length * (rs.length + 1)) ≤ 30 * 111 := Nat.mul_le_mul h2 (by omega)
  omega
end Go.Proofs.YtcbmfkgekhadkaaGreatDoor
