/- What the texts of this stage share: slices that read as numbers, rows of numbers of our own. -/
import Derived.Test.YtbghfbhchmoddaaProg
import Derived.Test.YtbghfbhchmoddaaMDPlain
import Derived.Lib.Hide
import Derived.WalkKit
import Derived.WalkSpells
import Derived.WalkLawsBesides
import Derived.IntWalk
import Derived.BigQuiet
import Derived.BigRegion
import Derived.Deep.QuietTactic
import Derived.Deep.LoopGhost
import Derived.Below
import Derived.Outline
import Derived.WalkMore
import Derived.Laws.Rows
namespace Go.Proofs.Ytbghfbhchmoddaa
open Go Go.RowKit Go.Lib

/-- W' is W, but for blocks of T and for what is new. -/
structure OnlyAt (T : Nat → Prop) (W W' : World) : Prop where
  os : W'.os = W.os
  tape : W'.tape = W.tape
  output : W'.output = W.output
  size : W.heap.size ≤ W'.heap.size
  block : ∀ k, k < W.heap.size → ¬ T k → W'.heap[k]? = W.heap[k]?

theorem OnlyAt.refl (T : Nat → Prop) (W : World) : OnlyAt T W W := ⟨rfl, rfl, rfl, Nat.le_refl _, fun _ _ _ => rfl⟩
theorem OnlyAt.trans {T : Nat → Prop} {A B C : World} (h : OnlyAt T A B) (k : OnlyAt T B C) : OnlyAt T A C :=
  ⟨k.os.trans h.os, k.tape.trans h.tape, k.output.trans h.output, Nat.le_trans h.size k.size, fun i hi ht => (k.block i (Nat.lt_of_lt_of_le hi h.size) ht).trans (h.block i hi ht)⟩
theorem OnlyAt.mono {T T' : Nat → Prop} {A B : World} (h : OnlyAt T A B) (ht : ∀ k, T k → T' k) : OnlyAt T' A B :=
  ⟨h.os, h.tape, h.output, h.size, fun i hi hn => h.block i hi (fun hh => hn (ht i hh))⟩
theorem OnlyAt.alloc (T : Nat → Prop) (W : World) (o : Obj) : OnlyAt T W (W.alloc o) := ⟨rfl, rfl, rfl, by simp, fun k hk _ => Below.heap_alloc _ _ _ hk⟩
theorem OnlyAt.drew (T : Nat → Prop) (W : World) : OnlyAt T W W.drew := ⟨rfl, rfl, rfl, Nat.le_refl _, fun _ _ _ => rfl⟩
theorem OnlyAt.setCell {T : Nat → Prop} (W : World) (p : Addr) (v : Value) (h : T p.block) : OnlyAt T W (W.setCell p v) :=
  ⟨rfl, rfl, rfl, by simp [World.setCell], fun k _ hn => Below.heap_setCell _ _ _ _ (fun e => hn (by rw [e]; exact h))⟩
theorem OnlyAt.of_below {T : Nat → Prop} {W W' : World} (h : Below W.heap.size W W') : OnlyAt T W W' :=
  ⟨h.os, h.tape, h.output, h.size, fun k hk _ => h.block k hk⟩
theorem OnlyAt.below {T : Nat → Prop} {B : Nat} {a W W' : World} (hb : Below B a W) (h : OnlyAt T W W') (hB : B ≤ W.heap.size) (ht : ∀ k, T k → B ≤ k) : Below B a W' :=
  hb.trans ⟨h.os, h.tape, h.output, h.size, fun k hk => h.block k (by omega) (fun hh => by have := ht k hh; omega)⟩
/-- Blocks of T lie as they lay. -/
structure KeepsAt (T : Nat → Prop) (W W' : World) : Prop where
  size : W.heap.size ≤ W'.heap.size
  block : ∀ k, k < W.heap.size → T k → W'.heap[k]? = W.heap[k]?
theorem KeepsAt.refl (T : Nat → Prop) (W : World) : KeepsAt T W W := ⟨Nat.le_refl _, fun _ _ _ => rfl⟩
theorem KeepsAt.trans {T : Nat → Prop} {A B C : World} (h : KeepsAt T A B) (k : KeepsAt T B C) : KeepsAt T A C :=
  ⟨Nat.le_trans h.size k.size, fun i hi ht => (k.block i (Nat.lt_of_lt_of_le hi h.size) ht).trans (h.block i hi ht)⟩
theorem KeepsAt.mono {T T' : Nat → Prop} {A B : World} (h : KeepsAt T A B) (ht : ∀ k, T' k → T k) : KeepsAt T' A B := ⟨h.size, fun i hi hn => h.block i hi (ht i hn)⟩
theorem KeepsAt.of_only {S T : Nat → Prop} {A B : World} (h : OnlyAt S A B) (hd : ∀ k, T k → ¬ S k) : KeepsAt T A B := ⟨h.size, fun k hk ht => h.block k hk (hd k ht)⟩

theorem cell_old {w w' : World} {B : Nat} {p : Addr} (hb : Below B w w') (hp : p.block < B) : w'.cell? p = w.cell? p := by
  unfold World.cell?; rw [hb.block p.block hp]
/-- A slice that reads as these numbers. -/
def IntsAt (w : World) (v : Value) (cs : List Int) : Prop :=
  (cs = [] ∧ ∃ a cap, v = .slice a 0 cap) ∨ ∃ b off cap, v = .slice (some ⟨b, off, none⟩) cs.length cap ∧ b < w.heap.size ∧ cs.length ≤ cap ∧ cap ≤ maxLen ∧ ∀ (i : Nat) c, cs[i]? = some c → w.cell? ⟨b, off + i, none⟩ = some (.int .i64 c)
theorem IntsAt.keep {w w' : World} {v : Value} {cs : List Int} (h : IntsAt w v cs) (hb : Below w.heap.size w w') : IntsAt w' v cs := by
  rcases h with h | ⟨b, off, cap, rfl, h1, h2, h3, h4⟩
  · exact .inl h
  · exact .inr ⟨b, off, cap, rfl, Nat.lt_of_lt_of_le h1 hb.size, h2, h3, fun i c hc => (cell_old (p := ⟨b, off + i, none⟩) hb h1).trans (h4 i c hc)⟩
theorem ints_open {w : World} {v : Value} {cs : List Int} (h : IntsAt w v cs) : ∃ A cap, v = .slice A cs.length cap ∧ ∀ (i : Nat) c, cs[i]? = some c → ∃ q o, A = some ⟨q, o, none⟩ ∧ q < w.heap.size ∧ cs.length ≤ cap ∧ w.cell? ⟨q, o + i, none⟩ = some (.int .i64 c) := by
  obtain ⟨rfl, a, cap, rfl⟩ | ⟨b, off, cap, rfl, hlt, hcap, hm, hc⟩ := h
  · exact ⟨a, cap, rfl, fun i c hi => by simp at hi⟩
  · exact ⟨_, cap, rfl, fun i c hi => ⟨b, off, rfl, hlt, hcap, hc i c hi⟩⟩
theorem ints_pos {w : World} {v : Value} {cs : List Int} (h : IntsAt w v cs) (hp : 0 < cs.length) : ∃ b off cap, v = .slice (some ⟨b, off, none⟩) cs.length cap ∧ b < w.heap.size ∧ cs.length ≤ cap ∧ ∀ (i : Nat) c, cs[i]? = some c → w.cell? ⟨b, off + i, none⟩ = some (.int .i64 c) := by
  obtain ⟨rfl, a, cap, rfl⟩ | ⟨b, off, cap, rfl, hlt, hcap, hm, hc⟩ := h
  · simp at hp
  · exact ⟨b, off, cap, rfl, hlt, hcap, hc⟩
theorem ints_form {w : World} {v : Value} {l : List Int} (h : IntsAt w v l) : ∃ A cap, v = .slice A l.length cap := by
  rcases h with ⟨rfl, a, c, e⟩ | ⟨b, off, c, e, _⟩
  · exact ⟨a, c, e⟩
  · exact ⟨_, c, e⟩
theorem ints_lit (w : World) (l : List Int) (xs : Array Value) (t : TypeId) (hx : xs = (l.map (Value.int .i64)).toArray) (hm : l.length ≤ 1000) : IntsAt (w.alloc (.cells xs t)) (.slice (some ⟨w.heap.size, 0, none⟩) l.length l.length) l := by
  subst hx
  refine .inr ⟨w.heap.size, 0, l.length, rfl, by simp, Nat.le_refl _, by unfold maxLen; omega, fun i c hc => ?_⟩
  rw [cell_of_row _ w.heap.size (0 + i) _ t (0, 0) (heap_alloc_new w _)]
  simp [hc]
/-- A block that holds a row of numbers. -/
def NRow (g : Nat) (l : List Int) (w : World) : Prop := w.heap[g]? = some (.cells (l.map (Value.int .i64)).toArray 3 (0, 0))
theorem NRow.lt {g : Nat} {l : List Int} {w : World} (h : NRow g l w) : g < w.heap.size := (Array.getElem?_eq_some_iff.1 h).1
theorem NRow.cell {g : Nat} {l : List Int} {w : World} (h : NRow g l w) {i : Nat} {c : Int} (hc : l[i]? = some c) : w.cell? ⟨g, i, none⟩ = some (.int .i64 c) := by
  rw [cell_of_row _ g i _ _ (0, 0) h]
  simp [hc]
theorem NRow.frozen {g : Nat} {l : List Int} {w : World} (h : NRow g l w) (o : Nat) : w.frozen? ⟨g, o, none⟩ = false := by
  unfold NRow at h
  simp [World.frozen?, h]
theorem NRow.set {g : Nat} {l : List Int} {w : World} (h : NRow g l w) (i : Nat) (c : Int) : NRow g (l.set i c) (w.setCell ⟨g, i, none⟩ (.int .i64 c)) := by
  have := heap_setCell_same w g i _ _ (.int .i64 c) h
  unfold NRow
  rw [this]
  congr 2
  rw [List.setIfInBounds_toArray, List.map_set]
theorem NRow.keep {T : Nat → Prop} {g : Nat} {l : List Int} {w w' : World} (h : NRow g l w) (ho : OnlyAt T w w') (hg : ¬ T g) : NRow g l w' := (ho.block g h.lt hg).trans h
theorem OnlyAt.drewN (T : Nat → Prop) (W : World) (n : Nat) : OnlyAt T W (W.drewN n) := ⟨rfl, rfl, rfl, Nat.le_refl _, fun _ _ _ => rfl⟩
theorem NRow.drewN {g : Nat} {l : List Int} {w : World} (h : NRow g l w) (n : Nat) : NRow g l (w.drewN n) := h
end Go.Proofs.Ytbghfbhchmoddaa
