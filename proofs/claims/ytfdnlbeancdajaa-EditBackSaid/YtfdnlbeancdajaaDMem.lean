/- A buffer in memory: its block, the tree, the two stores, the array of pieces and the list of free places; each part in blocks of a colour of its own. -/
import Derived.Test.YtfdnlbeancdajaaDTree
import Derived.Test.YtfdnlbeancdajaaDPlain
import Derived.Test.YtfdnlbeancdajaaBSlice
import Derived.Test.YtfdnlbeancdajaaWhere
namespace Go.Proofs.Ytfdnlbeancdajaa
open Go Go.RowKit

/-- A store's Slice only reads. -/
theorem yes_b {F : Nat → Prop} {w : World} {a : Addr} {s : ByteArray} (hr : Sto.RepB F w a s) (k m : Nat) (hk : k + m ≤ s.size) (hs : s.size ≤ 1000000) :
    Calls Try.prog 64 #[.pointer (some a), .int .i64 k, .int .i64 m] w fun e w' => e = .returned (.tuple #[.string (s.extract k (k + m)), .bool true]) ∧ Below w.heap.size w w' := by
  obtain ⟨b, v, cs, rfl, rfl, hL, hT⟩ := hr
  exact Sto.slice_yes w b v cs s k m hL hk hs

/-- The cells of the array of pieces, of the list of free places. -/
def cellsA (al : List (Bool × Nat)) : List Value := al.flatMap fun p => [.bool p.1, .int .i64 (p.2 : Int)]
def cellsF (fr : List Nat) : List Value := fr.map fun (k : Nat) => .int .i64 (k : Int)
theorem cellsA_length (al : List (Bool × Nat)) : (cellsA al).length = al.length * 2 := by
  induction al with
  | nil => rfl
  | cons p al ih => rw [cellsA, List.flatMap_cons, List.length_append, ← cellsA, ih, List.length_cons]; simp; omega
theorem cellsA_append (al bl : List (Bool × Nat)) : cellsA (al ++ bl) = cellsA al ++ cellsA bl := by simp [cellsA]
theorem cellsF_append (al bl : List Nat) : cellsF (al ++ bl) = cellsF al ++ cellsF bl := by simp [cellsF]
theorem cellsA_get : ∀ (al : List (Bool × Nat)) (k : Nat) (p : Bool × Nat), al[k]? = some p → (cellsA al)[k * 2]? = some (.bool p.1) ∧ (cellsA al)[k * 2 + 1]? = some (.int .i64 (p.2 : Int))
  | [], k, p, h => by simp at h
  | q :: al, 0, p, h => by simp at h; subst h; exact ⟨rfl, rfl⟩
  | q :: al, k + 1, p, h => by
    have ih := cellsA_get al k p (by simpa using h)
    have e1 : (cellsA (q :: al)) = .bool q.1 :: .int .i64 (q.2 : Int) :: cellsA al := rfl
    rw [e1, show (k + 1) * 2 = k * 2 + 1 + 1 by omega, show k * 2 + 1 + 1 + 1 = k * 2 + 1 + 1 + 1 from rfl]
    simpa using ih
theorem cellsA_set : ∀ (al : List (Bool × Nat)) (k : Nat) (p : Bool × Nat), cellsA (al.set k p) = ((cellsA al).set (k * 2) (.bool p.1)).set (k * 2 + 1) (.int .i64 (p.2 : Int))
  | [], k, p => by simp [cellsA]
  | q :: al, 0, p => rfl
  | q :: al, k + 1, p => by
    have e1 : ∀ q (al : List (Bool × Nat)), (cellsA (q :: al)) = .bool q.1 :: .int .i64 (q.2 : Int) :: cellsA al := fun _ _ => rfl
    rw [List.set_cons_succ, e1, e1, cellsA_set al k p, show (k + 1) * 2 = k * 2 + 1 + 1 by omega]
    rfl
theorem cellsF_get (fr : List Nat) (j k : Nat) (h : fr[j]? = some k) : (cellsF fr)[j]? = some (.int .i64 (k : Int)) := by simp [cellsF, h]

/-- The blocks of a buffer. -/
def Foot (b : Nat) (va vf : Value) (FT FO FD : Nat → Prop) (z : Nat) : Prop := z = b ∨ FT z ∨ FO z ∨ FD z ∨ va.ownBlock = some z ∨ vf.ownBlock = some z
/-- A buffer's parts lie so; c: a colour for each block. -/
structure Lay (w : World) (b m : Nat) (ta oa da : Addr) (c : Nat → Nat) (va vf : Value) (FT FO FD : Nat → Prop) (T : List It) (h : Nat) (O D : ByteArray) (al : List (Bool × Nat)) (fr : List Nat) : Prop where
  box : w.heap[b]? = some (.cells #[.int .i64 (m : Int), .pointer (some ta), .pointer (some oa), .pointer (some da), va, vf] /-t-/61 (0, 0))
  tree : Avl.RepA FT w ta T h
  orig : Sto.RepB FO w oa O
  adds : Sto.RepB FD w da D
  rowA : w.ownsRow 0 /-t-/65 2 va al.length (cellsA al)
  rowF : w.ownsRow 0 /-t-/3 1 vf fr.length (cellsF fr)
  c0 : c b = 0
  c1 : ∀ z, FT z → c z = 1
  c2 : ∀ z, FO z → c z = 2
  c3 : ∀ z, FD z → c z = 3
  c4 : ∀ z, va.ownBlock = some z → c z = 4
  c5 : ∀ z, vf.ownBlock = some z → c z = 5
/-- A buffer's parts lie somehow, in the blocks F. -/
def St (w : World) (b m : Nat) (ta oa da : Addr) (F : Nat → Prop) (T : List It) (h : Nat) (O D : ByteArray) (al : List (Bool × Nat)) (fr : List Nat) : Prop :=
  ∃ c va vf FT FO FD, F = Foot b va vf FT FO FD ∧ Lay w b m ta oa da c va vf FT FO FD T h O D al fr
/-- What a call has written, and which blocks are now the buffer's. -/
def Moved (F : Nat → Prop) (w w' : World) (F' : Nat → Prop) : Prop := OnlyAt F w w' ∧ ∀ k, F' k → F k ∨ w.heap.size ≤ k
theorem Moved.trans {F F' F'' : Nat → Prop} {w w1 w2 : World} (h : Moved F w w1 F') (k : Moved F' w1 w2 F'') : Moved F w w2 F'' :=
  ⟨h.1.then k.1 h.2, fun z hz => (k.2 z hz).elim (fun e => h.2 z e) (fun e => .inr (Nat.le_trans h.1.size e))⟩
theorem Moved.below {F : Nat → Prop} {w w' : World} (h : Below w.heap.size w w') : Moved F w w' F := ⟨OnlyAt.of_below h, fun _ hz => .inl hz⟩
theorem Moved.refl (F : Nat → Prop) (w : World) : Moved F w w F := ⟨OnlyAt.refl _ _, fun _ hz => .inl hz⟩

variable {w : World} {b m : Nat} {ta oa da : Addr} {c : Nat → Nat} {va vf : Value} {FT FO FD F : Nat → Prop} {T : List It} {h : Nat} {O D : ByteArray} {al : List (Bool × Nat)} {fr : List Nat}

theorem row_lt {e size n : Nat} {v : Value} {xs : List Value} (hr : w.ownsRow 0 e size v n xs) : ∀ z, v.ownBlock = some z → z < w.heap.size := fun z hz => (hr.lt z hz).2
theorem Lay.lt (hL : Lay w b m ta oa da c va vf FT FO FD T h O D al fr) : ∀ z, Foot b va vf FT FO FD z → z < w.heap.size := by
  rintro z (rfl | e | e | e | e | e)
  · exact (Array.getElem?_eq_some_iff.1 hL.box).1
  · exact hL.tree.lt z e
  · exact Sto.store_says.lt _ _ _ _ hL.orig z e
  · exact Sto.store_says.lt _ _ _ _ hL.adds z e
  · exact row_lt hL.rowA z e
  · exact row_lt hL.rowF z e
theorem row_only {w' : World} {e size n : Nat} {v : Value} {xs : List Value} {S : Nat → Prop} (hr : w.ownsRow 0 e size v n xs) (ho : OnlyAt S w w') (hS : ∀ z, v.ownBlock = some z → ¬ S z) : w'.ownsRow 0 e size v n xs :=
  Sto.row_frame hr fun g hg => ho.block g (row_lt hr g hg) (hS g hg)
theorem store_only {w' : World} {S G : Nat → Prop} {a : Addr} {s : ByteArray} (hr : Sto.RepB G w a s) (ho : OnlyAt S w w') (hS : ∀ z, G z → ¬ S z) : Sto.RepB G w' a s :=
  Sto.store_says.frame _ _ _ _ _ hr (KeepsAt.of_only ho hS)
/-- All of it lies as it lay. -/
theorem Lay.only {w' : World} {S : Nat → Prop} (hL : Lay w b m ta oa da c va vf FT FO FD T h O D al fr) (ho : OnlyAt S w w') (hS : ∀ z, Foot b va vf FT FO FD z → ¬ S z) : Lay w' b m ta oa da c va vf FT FO FD T h O D al fr where
  box := (ho.block b (hL.lt b (.inl rfl)) (hS b (.inl rfl))).trans hL.box
  tree := hL.tree.only ho fun z hz => hS z (.inr (.inl hz))
  orig := store_only hL.orig ho fun z hz => hS z (.inr (.inr (.inl hz)))
  adds := store_only hL.adds ho fun z hz => hS z (.inr (.inr (.inr (.inl hz))))
  rowA := row_only hL.rowA ho fun z hz => hS z (.inr (.inr (.inr (.inr (.inl hz)))))
  rowF := row_only hL.rowF ho fun z hz => hS z (.inr (.inr (.inr (.inr (.inr hz)))))
  c0 := hL.c0
  c1 := hL.c1
  c2 := hL.c2
  c3 := hL.c3
  c4 := hL.c4
  c5 := hL.c5
theorem St.only {w' : World} {S : Nat → Prop} (hL : St w b m ta oa da F T h O D al fr) (ho : OnlyAt S w w') (hS : ∀ z, F z → ¬ S z) : St w' b m ta oa da F T h O D al fr := by
  obtain ⟨c, va, vf, FT, FO, FD, rfl, hL⟩ := hL
  exact ⟨c, va, vf, FT, FO, FD, rfl, hL.only ho hS⟩
theorem St.below {w' : World} (hL : St w b m ta oa da F T h O D al fr) (hb : Below w.heap.size w w') : St w' b m ta oa da F T h O D al fr :=
  hL.only (OnlyAt.of_below (T := fun _ => False) hb) (fun _ _ => id)
theorem St.lt (hL : St w b m ta oa da F T h O D al fr) : ∀ z, F z → z < w.heap.size := by
  obtain ⟨c, va, vf, FT, FO, FD, rfl, hL⟩ := hL
  exact hL.lt
/-- What a walk reads of the buffer's block. -/
theorem St.cells (hL : St w b m ta oa da F T h O D al fr) : w.cell? ⟨b, 0, none⟩ = some (.int .i64 (m : Int)) ∧ w.cell? ⟨b, 1, none⟩ = some (.pointer (some ta)) ∧ w.cell? ⟨b, 2, none⟩ = some (.pointer (some oa)) ∧ w.cell? ⟨b, 3, none⟩ = some (.pointer (some da)) := by
  obtain ⟨c, va, vf, FT, FO, FD, rfl, hL⟩ := hL
  have := hL.box
  refine ⟨?_, ?_, ?_, ?_⟩ <;> simp [World.cell?, this]

/-- The colours behind a turn of the part i: what is new is that part's. -/
def tint (c : Nat → Nat) (n i : Nat) (z : Nat) : Nat := if z < n then c z else i
theorem tint_old {c : Nat → Nat} {n i z : Nat} (hz : z < n) : tint c n i z = c z := if_pos hz
theorem tint_new {c : Nat → Nat} {n i z : Nat} (hz : n ≤ z) : tint c n i z = i := if_neg (by omega)

/-- The tree turned. -/
theorem Lay.tree_turn (hL : Lay w b m ta oa da c va vf FT FO FD T h O D al fr) {w' : World} {FT' : Nat → Prop} {T' : List It} {h' : Nat} (hr : Avl.RepA FT' w' ta T' h') (ho : OnlyAt FT w w') (hF : ∀ k, FT' k → FT k ∨ w.heap.size ≤ k) :
    Lay w' b m ta oa da (tint c w.heap.size 1) va vf FT' FO FD T' h' O D al fr where
  box := (ho.block b (hL.lt b (.inl rfl)) (fun e => by have := hL.c0; have := hL.c1 b e; omega)).trans hL.box
  tree := hr
  orig := store_only hL.orig ho fun z hz e => by have := hL.c2 z hz; have := hL.c1 z e; omega
  adds := store_only hL.adds ho fun z hz e => by have := hL.c3 z hz; have := hL.c1 z e; omega
  rowA := row_only hL.rowA ho fun z hz e => by have := hL.c4 z hz; have := hL.c1 z e; omega
  rowF := row_only hL.rowF ho fun z hz e => by have := hL.c5 z hz; have := hL.c1 z e; omega
  c0 := (tint_old (hL.lt b (.inl rfl))).trans hL.c0
  c1 := fun z hz => by
    rcases hF z hz with e | e
    · exact (tint_old (hL.lt z (.inr (.inl e)))).trans (hL.c1 z e)
    · exact tint_new e
  c2 := fun z hz => (tint_old (hL.lt z (.inr (.inr (.inl hz))))).trans (hL.c2 z hz)
  c3 := fun z hz => (tint_old (hL.lt z (.inr (.inr (.inr (.inl hz)))))).trans (hL.c3 z hz)
  c4 := fun z hz => (tint_old (hL.lt z (.inr (.inr (.inr (.inr (.inl hz))))))).trans (hL.c4 z hz)
  c5 := fun z hz => (tint_old (hL.lt z (.inr (.inr (.inr (.inr (.inr hz))))))).trans (hL.c5 z hz)
theorem St.tree (hL : St w b m ta oa da F T h O D al fr) : ∃ FT, Avl.RepA FT w ta T h ∧ ∀ w' FT' T' h', Avl.RepA FT' w' ta T' h' → OnlyAt FT w w' → (∀ k, FT' k → FT k ∨ w.heap.size ≤ k) → ∃ F', St w' b m ta oa da F' T' h' O D al fr ∧ Moved F w w' F' := by
  obtain ⟨c, va, vf, FT, FO, FD, rfl, hL⟩ := hL
  refine ⟨FT, hL.tree, fun w' FT' T' h' hr ho hF => ⟨_, ⟨_, va, vf, FT', FO, FD, rfl, hL.tree_turn hr ho hF⟩, ho.mono fun z hz => .inr (.inl hz), ?_⟩⟩
  rintro z (e | e | e | e)
  · exact .inl (.inl e)
  · exact (hF z e).imp (fun e => .inr (.inl e)) id
  · exact .inl (.inr (.inr (.inl e)))
  · exact .inl (.inr (.inr (.inr e)))
/-- The additions turned. -/
theorem Lay.adds_turn (hL : Lay w b m ta oa da c va vf FT FO FD T h O D al fr) {w' : World} {FD' : Nat → Prop} {D' : ByteArray} (hr : Sto.RepB FD' w' da D') (ho : OnlyAt FD w w') (hF : ∀ k, FD' k → FD k ∨ w.heap.size ≤ k) :
    Lay w' b m ta oa da (tint c w.heap.size 3) va vf FT FO FD' T h O D' al fr where
  box := (ho.block b (hL.lt b (.inl rfl)) (fun e => by have := hL.c0; have := hL.c3 b e; omega)).trans hL.box
  tree := hL.tree.only ho fun z hz e => by have := hL.c1 z hz; have := hL.c3 z e; omega
  orig := store_only hL.orig ho fun z hz e => by have := hL.c2 z hz; have := hL.c3 z e; omega
  adds := hr
  rowA := row_only hL.rowA ho fun z hz e => by have := hL.c4 z hz; have := hL.c3 z e; omega
  rowF := row_only hL.rowF ho fun z hz e => by have := hL.c5 z hz; have := hL.c3 z e; omega
  c0 := (tint_old (hL.lt b (.inl rfl))).trans hL.c0
  c1 := fun z hz => (tint_old (hL.lt z (.inr (.inl hz)))).trans (hL.c1 z hz)
  c2 := fun z hz => (tint_old (hL.lt z (.inr (.inr (.inl hz))))).trans (hL.c2 z hz)
  c3 := fun z hz => by
    rcases hF z hz with e | e
    · exact (tint_old (hL.lt z (.inr (.inr (.inr (.inl e)))))).trans (hL.c3 z e)
    · exact tint_new e
  c4 := fun z hz => (tint_old (hL.lt z (.inr (.inr (.inr (.inr (.inl hz))))))).trans (hL.c4 z hz)
  c5 := fun z hz => (tint_old (hL.lt z (.inr (.inr (.inr (.inr (.inr hz))))))).trans (hL.c5 z hz)
theorem St.adds (hL : St w b m ta oa da F T h O D al fr) : ∃ FD, Sto.RepB FD w da D ∧ ∀ w' FD' D', Sto.RepB FD' w' da D' → OnlyAt FD w w' → (∀ k, FD' k → FD k ∨ w.heap.size ≤ k) → ∃ F', St w' b m ta oa da F' T h O D' al fr ∧ Moved F w w' F' := by
  obtain ⟨c, va, vf, FT, FO, FD, rfl, hL⟩ := hL
  refine ⟨FD, hL.adds, fun w' FD' D' hr ho hF => ⟨_, ⟨_, va, vf, FT, FO, FD', rfl, hL.adds_turn hr ho hF⟩, ho.mono fun z hz => .inr (.inr (.inr (.inl hz))), ?_⟩⟩
  rintro z (e | e | e | e | e)
  · exact .inl (.inl e)
  · exact .inl (.inr (.inl e))
  · exact .inl (.inr (.inr (.inl e)))
  · exact (hF z e).imp (fun e => .inr (.inr (.inr (.inl e)))) id
  · exact .inl (.inr (.inr (.inr (.inr e))))
theorem St.orig (hL : St w b m ta oa da F T h O D al fr) : ∃ FO, Sto.RepB FO w oa O := by
  obtain ⟨c, va, vf, FT, FO, FD, rfl, hL⟩ := hL
  exact ⟨FO, hL.orig⟩

/-- The rows of pieces and of free places, and what a turn of them makes. -/
theorem St.rows (hL : St w b m ta oa da F T h O D al fr) : ∃ va vf,
    w.heap[b]? = some (.cells #[.int .i64 (m : Int), .pointer (some ta), .pointer (some oa), .pointer (some da), va, vf] /-t-/61 (0, 0)) ∧
    w.ownsRow 0 /-t-/65 2 va al.length (cellsA al) ∧ w.ownsRow 0 /-t-/3 1 vf fr.length (cellsF fr) ∧
    (va.ownBlock ≠ some b ∧ vf.ownBlock ≠ some b ∧ ∀ g, va.ownBlock = some g → vf.ownBlock ≠ some g) ∧
    ∀ w' va' vf' al' fr', w'.heap[b]? = some (.cells #[.int .i64 (m : Int), .pointer (some ta), .pointer (some oa), .pointer (some da), va', vf'] /-t-/61 (0, 0)) →
      w'.ownsRow 0 /-t-/65 2 va' al'.length (cellsA al') → w'.ownsRow 0 /-t-/3 1 vf' fr'.length (cellsF fr') → OnlyAt (fun z => z = b ∨ va.ownBlock = some z ∨ vf.ownBlock = some z) w w' →
      (∀ g, va'.ownBlock = some g → va.ownBlock = some g ∨ (w.heap.size ≤ g ∧ vf'.ownBlock ≠ some g)) → (∀ g, vf'.ownBlock = some g → vf.ownBlock = some g ∨ (w.heap.size ≤ g ∧ va'.ownBlock ≠ some g)) → ∃ F', St w' b m ta oa da F' T h O D al' fr' ∧ Moved F w w' F' := by
  obtain ⟨c, va, vf, FT, FO, FD, rfl, hL⟩ := hL
  refine ⟨va, vf, hL.box, hL.rowA, hL.rowF, ⟨fun e => by have := hL.c0; have := hL.c4 b e; omega, fun e => by have := hL.c0; have := hL.c5 b e; omega, fun g e e' => by have := hL.c4 g e; have := hL.c5 g e'; omega⟩, ?_⟩
  intro w' va' vf' al' fr' hb hA hF ho h1 h2
  have hn : ∀ z i, c z = i → i = 1 ∨ i = 2 ∨ i = 3 → ¬ (z = b ∨ va.ownBlock = some z ∨ vf.ownBlock = some z) := by
    rintro z i hc hi (e | e | e)
    · subst e; have := hL.c0; omega
    · have := hL.c4 z e; omega
    · have := hL.c5 z e; omega
  refine ⟨_, ⟨fun z => if z < w.heap.size then c z else if va'.ownBlock = some z then 4 else 5, va', vf', FT, FO, FD, rfl, ⟨hb, hL.tree.only ho fun z hz => hn z 1 (hL.c1 z hz) (by omega), store_only hL.orig ho fun z hz => hn z 2 (hL.c2 z hz) (by omega), store_only hL.adds ho fun z hz => hn z 3 (hL.c3 z hz) (by omega), hA, hF, ?_, ?_, ?_, ?_, ?_, ?_⟩⟩, ho.mono ?_, ?_⟩
  · exact (if_pos (hL.lt b (.inl rfl))).trans hL.c0
  · exact fun z hz => (if_pos (hL.lt z (.inr (.inl hz)))).trans (hL.c1 z hz)
  · exact fun z hz => (if_pos (hL.lt z (.inr (.inr (.inl hz))))).trans (hL.c2 z hz)
  · exact fun z hz => (if_pos (hL.lt z (.inr (.inr (.inr (.inl hz)))))).trans (hL.c3 z hz)
  · intro z hz
    rcases h1 z hz with e | e
    · exact (if_pos (hL.lt z (.inr (.inr (.inr (.inr (.inl e))))))).trans (hL.c4 z e)
    · show (if z < w.heap.size then c z else _) = 4
      rw [if_neg (by omega), if_pos hz]
  · intro z hz
    rcases h2 z hz with e | e
    · exact (if_pos (hL.lt z (.inr (.inr (.inr (.inr (.inr e))))))).trans (hL.c5 z e)
    · show (if z < w.heap.size then c z else _) = 5
      rw [if_neg (by omega), if_neg e.2]
  · rintro z (e | e | e)
    · exact .inl e
    · exact .inr (.inr (.inr (.inr (.inl e))))
    · exact .inr (.inr (.inr (.inr (.inr e))))
  · rintro z (e | e | e | e | e | e)
    · exact .inl (.inl e)
    · exact .inl (.inr (.inl e))
    · exact .inl (.inr (.inr (.inl e)))
    · exact .inl (.inr (.inr (.inr (.inl e))))
    · exact (h1 z e).imp (fun e => .inr (.inr (.inr (.inr (.inl e))))) And.left
    · exact (h2 z e).imp (fun e => .inr (.inr (.inr (.inr (.inr e))))) And.left
end Go.Proofs.Ytfdnlbeancdajaa
