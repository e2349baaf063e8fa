/- A tree of nodes in memory, a block a node: for whatever way a node's block is laid out. -/
import Derived.Test.YtfdnlbeancdajaaATree
import Derived.Test.YtfdnlbeancdajaaSGives
namespace Go.Proofs.Ytfdnlbeancdajaa.Avl
open Go Go.RowKit

/-- How a node's block reads: by the addresses of its two sides, and by the tree that it is the root of. -/
abbrev Enc := Option Addr → Option Addr → AT → Array Value

/-- At p lies the tree t, in the blocks F, no block twice. -/
def Lies (enc : Enc) (ty : TypeId) (w : World) : Option Addr → AT → List Nat → Prop
  | p, .nil, F => p = none ∧ F = []
  | p, .node l x r, F => ∃ (b : Nat) (lp rp : Option Addr) (Fl Fr : List Nat), p = some ⟨b, 0, none⟩ ∧ F = b :: (Fl ++ Fr) ∧ w.heap[b]? = some (.cells (enc lp rp (.node l x r)) ty (0, 0)) ∧
      Lies enc ty w lp l Fl ∧ Lies enc ty w rp r Fr ∧ (b ∉ Fl ∧ b ∉ Fr) ∧ ∀ k ∈ Fl, k ∉ Fr

variable {enc : Enc} {ty : TypeId}

theorem Lies.frame : ∀ {t : AT} {w w' : World} {p : Option Addr} {F : List Nat}, Lies enc ty w p t F → (∀ k ∈ F, w'.heap[k]? = w.heap[k]?) → Lies enc ty w' p t F
  | .nil, _, _, _, _, h, _ => h
  | .node l x r, w, w', p, F, ⟨b, lp, rp, Fl, Fr, hp, hF, hb, hl, hr, hd, hs⟩, hk => by
    subst hF
    exact ⟨b, lp, rp, Fl, Fr, hp, rfl, (hk b (by simp)).trans hb, hl.frame (fun k h => hk k (by simp [h])), hr.frame (fun k h => hk k (by simp [h])), hd, hs⟩
theorem Lies.lt : ∀ {t : AT} {w : World} {p : Option Addr} {F : List Nat}, Lies enc ty w p t F → ∀ k ∈ F, k < w.heap.size
  | .nil, w, p, F, ⟨_, hF⟩, k, hk => by subst hF; simp at hk
  | .node l x r, w, p, F, ⟨b, lp, rp, Fl, Fr, hp, hF, hb, hl, hr, hd, hs⟩, k, hk => by
    subst hF
    simp only [List.mem_cons, List.mem_append] at hk
    rcases hk with rfl | hk | hk
    · exact (Array.getElem?_eq_some_iff.1 hb).1
    · exact hl.lt k hk
    · exact hr.lt k hk
/-- It lies on where just other blocks, or new ones, are written. -/
theorem Lies.only {t : AT} {w w' : World} {p : Option Addr} {F : List Nat} {T : Nat → Prop} (h : Lies enc ty w p t F) (ho : OnlyAt T w w') (hT : ∀ k ∈ F, ¬ T k) : Lies enc ty w' p t F :=
  h.frame (fun k hk => ho.block k (h.lt k hk) (hT k hk))
theorem Lies.keeps {t : AT} {w w' : World} {p : Option Addr} {F : List Nat} {T : Nat → Prop} (h : Lies enc ty w p t F) (ho : KeepsAt T w w') (hT : ∀ k ∈ F, T k) : Lies enc ty w' p t F :=
  h.frame (fun k hk => ho.block k (h.lt k hk) (hT k hk))
theorem Lies.below {t : AT} {w w' : World} {p : Option Addr} {F : List Nat} (h : Lies enc ty w p t F) (hb : Below w.heap.size w w') : Lies enc ty w' p t F :=
  h.frame (fun k hk => hb.block k (h.lt k hk))
theorem Lies.nil {w : World} : Lies enc ty w none .nil [] := ⟨rfl, rfl⟩
theorem Lies.of_nil {w : World} {p : Option Addr} {F : List Nat} (h : Lies enc ty w p .nil F) : p = none ∧ F = [] := h
/-- Is it none, or a node? -/
theorem Lies.none_iff {t : AT} {w : World} {p : Option Addr} {F : List Nat} (h : Lies enc ty w p t F) : p = none ↔ t = .nil := by
  cases t with
  | nil => exact ⟨fun _ => rfl, fun _ => h.1⟩
  | node l x r =>
    obtain ⟨b, _, _, _, _, hp, _⟩ := h
    exact ⟨fun e => (by rw [hp] at e; cases e), fun e => (by cases e)⟩
theorem Lies.of_some {t : AT} {w : World} {a : Addr} {F : List Nat} (h : Lies enc ty w (some a) t F) : ∃ (l : AT) (x : It) (r : AT) (b : Nat) (lp rp : Option Addr) (Fl Fr : List Nat), t = .node l x r ∧ a = ⟨b, 0, none⟩ ∧ F = b :: (Fl ++ Fr) ∧
    w.heap[b]? = some (.cells (enc lp rp (.node l x r)) ty (0, 0)) ∧ Lies enc ty w lp l Fl ∧ Lies enc ty w rp r Fr ∧ (b ∉ Fl ∧ b ∉ Fr) ∧ ∀ k ∈ Fl, k ∉ Fr := by
  cases t with
  | nil => cases h.1
  | node l x r =>
    obtain ⟨b, lp, rp, Fl, Fr, hp, rest⟩ := h
    cases hp
    exact ⟨l, x, r, b, lp, rp, Fl, Fr, rfl, rfl, rest⟩
/-- A node out of its block and its two sides. -/
theorem Lies.node {w : World} {b : Nat} {lp rp : Option Addr} {l r : AT} {x : It} {Fl Fr : List Nat} (hb : w.heap[b]? = some (.cells (enc lp rp (.node l x r)) ty (0, 0))) (hl : Lies enc ty w lp l Fl) (hr : Lies enc ty w rp r Fr)
    (h1 : b ∉ Fl) (h2 : b ∉ Fr) (h3 : ∀ k ∈ Fl, k ∉ Fr) : Lies enc ty w (some ⟨b, 0, none⟩) (.node l x r) (b :: (Fl ++ Fr)) :=
  ⟨b, lp, rp, Fl, Fr, rfl, rfl, hb, hl, hr, ⟨h1, h2⟩, h3⟩
/-- A block a node. -/
theorem Lies.blocks {t : AT} {w : World} {p : Option Addr} {F : List Nat} (h : Lies enc ty w p t F) : F.length = t.cnt := by
  induction t generalizing p F with
  | nil => obtain ⟨_, rfl⟩ := h; rfl
  | node l x r ihl ihr =>
    obtain ⟨b, lp, rp, Fl, Fr, _, rfl, _, hl, hr, _⟩ := h
    simp [AT.cnt, ihl hl, ihr hr]
end Go.Proofs.Ytfdnlbeancdajaa.Avl
