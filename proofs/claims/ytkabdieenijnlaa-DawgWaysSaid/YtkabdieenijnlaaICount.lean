/- How many states there are: the unlike endings behind all beginnings. No program. -/
import Derived.Test.YtkabdieenijnlaaIPlain
namespace Go.Proofs.Ytkabdieenijnlaa

def dd {α : Type} [DecidableEq α] : List α → List α
  | [] => []
  | a :: l => if a ∈ l then dd l else a :: dd l
theorem dd_mem {α : Type} [DecidableEq α] : ∀ (l : List α) (x : α), x ∈ dd l ↔ x ∈ l
  | [], x => Iff.rfl
  | a :: l, x => by
    unfold dd
    split
    · rename_i h
      rw [dd_mem l x, List.mem_cons]
      constructor
      · exact .inr
      · rintro (rfl | h')
        · exact h
        · exact h'
    · rw [List.mem_cons, dd_mem l x, List.mem_cons]
theorem dd_nodup {α : Type} [DecidableEq α] : ∀ (l : List α), (dd l).Nodup
  | [] => List.nodup_nil
  | a :: l => by
    unfold dd
    split
    · exact dd_nodup l
    · rename_i h
      exact List.nodup_cons.2 ⟨fun hm => h ((dd_mem l a).1 hm), dd_nodup l⟩
/-- A text's beginnings. -/
def inis : Bs → List Bs
  | [] => [[]]
  | a :: l => [] :: (inis l).map (a :: ·)
theorem mem_inis : ∀ {w p : Bs}, p ∈ inis w ↔ ∃ q, w = p ++ q
  | [], p => by
    simp only [inis, List.mem_singleton]
    constructor
    · rintro rfl; exact ⟨[], rfl⟩
    · rintro ⟨q, h⟩; exact (List.append_eq_nil_iff.1 h.symm).1
  | a :: l, p => by
    simp only [inis, List.mem_cons, List.mem_map]
    constructor
    · rintro (rfl | ⟨p', hp, rfl⟩)
      · exact ⟨_, rfl⟩
      · obtain ⟨q, rfl⟩ := mem_inis.1 hp
        exact ⟨q, rfl⟩
    · rintro ⟨q, h⟩
      cases p with
      | nil => exact .inl rfl
      | cons b p' =>
        rw [List.cons_append] at h
        obtain ⟨rfl, rfl⟩ := List.cons.inj h
        exact .inr ⟨p', mem_inis.2 ⟨q, rfl⟩, rfl⟩
def heads (V : List Bs) : List Bs := V.flatMap inis
theorem mem_heads {V : List Bs} {p : Bs} : p ∈ heads V ↔ ends V p ≠ [] := by
  unfold heads
  rw [List.mem_flatMap]
  constructor
  · rintro ⟨w, hw, hp⟩ e
    obtain ⟨q, rfl⟩ := mem_inis.1 hp
    have := mem_ends.2 hw
    rw [e] at this
    cases this
  · intro h
    obtain ⟨q, hq⟩ := List.exists_mem_of_ne_nil _ h
    exact ⟨p ++ q, mem_ends.1 hq, mem_inis.2 ⟨q, rfl⟩⟩
def allEnds (V : List Bs) : List (List Bs) := V :: (heads V).map (ends V)
theorem setS_iff {V L : List Bs} : SetS V L ↔ L ∈ allEnds V := by
  unfold allEnds SetS
  rw [List.mem_cons, List.mem_map]
  constructor
  · rintro (h | ⟨p, h1, h2⟩)
    · exact .inl h
    · exact .inr ⟨p, mem_heads.2 h1, h2.symm⟩
  · rintro (h | ⟨p, h1, h2⟩)
    · exact .inl h
    · exact .inr ⟨p, mem_heads.1 h1, h2.symm⟩
theorem count_is {g : GA} {V : List Bs} (h : g.Ok) (hs : ∀ L, L ∈ g.N ↔ SetS V L) {l : List (List Bs)} (hl : l.Nodup) (hm : ∀ L, SetS V L ↔ L ∈ l) : g.nodes.length = l.length := by
  rw [h.nl]
  exact len_eq h.nd hl fun L => (hs L).trans (hm L)
theorem count_dd {g : GA} {V : List Bs} (h : g.Ok) (hs : ∀ L, L ∈ g.N ↔ SetS V L) : g.nodes.length = (dd (allEnds V)).length :=
  count_is h hs (dd_nodup _) fun _L => setS_iff.trans (dd_mem _ _).symm
end Go.Proofs.Ytkabdieenijnlaa
