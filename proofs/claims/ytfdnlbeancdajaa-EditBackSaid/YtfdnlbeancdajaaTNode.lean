/- A node of the tree: what all tells. -/
import Derived.Test.YtfdnlbeancdajaaALies
import Derived.Test.YtfdnlbeancdajaaALeast
import Derived.Deep.RegionHeld3
import Derived.Deep.QuietTactic
import Derived.BigQuiet
import Derived.WalkSpells
import Derived.Laws.Rows
namespace Go.Proofs.Ytfdnlbeancdajaa.Avl
open Go Go.RowKit

/-- A node's block: its sides, its item, and what was last told of it. -/
def raw (lp rp : Option Addr) (x : It) (i s h : Int) : Array Value := #[.pointer lp, .pointer rp, .int .i64 x.1, .int .i64 x.2, .int .i64 i, .int .i64 s, .int .i64 h]
def enc4 : Enc := fun lp rp t => match t with
  | .nil => #[]
  | .node l x r => raw lp rp x (AT.node l x r).cnt (AT.node l x r).tot (AT.node l x r).ht
abbrev LiesT := Lies enc4 85

theorem raw_cells {w : World} {b : Nat} {lp rp : Option Addr} {x : It} {i s h : Int} {ty : TypeId} (hb : w.heap[b]? = some (.cells (raw lp rp x i s h) ty (0, 0))) :
    w.cell? ⟨b, 0, none⟩ = some (.pointer lp) ∧ w.cell? ⟨b, 1, none⟩ = some (.pointer rp) ∧ w.cell? ⟨b, 2, none⟩ = some (.int .i64 x.1) ∧ w.cell? ⟨b, 3, none⟩ = some (.int .i64 x.2) ∧
    w.cell? ⟨b, 4, none⟩ = some (.int .i64 i) ∧ w.cell? ⟨b, 5, none⟩ = some (.int .i64 s) ∧ w.cell? ⟨b, 6, none⟩ = some (.int .i64 h) := by
  simp [World.cell?, hb, raw]

theorem Try.info77 : (Try.prog.info? 77).map (·.size) = some 3 := by kernel_rfl

theorem fld0 (A B C : Int) (w : World) : (Instr.field 77 (.agg #[.int .i64 A, .int .i64 B, .int .i64 C]) 0).run Try.prog w = .ok (.int .i64 A) w := by kernel_rfl
theorem fld1 (A B C : Int) (w : World) : (Instr.field 77 (.agg #[.int .i64 A, .int .i64 B, .int .i64 C]) 1).run Try.prog w = .ok (.int .i64 B) w := by kernel_rfl
theorem fld2 (A B C : Int) (w : World) : (Instr.field 77 (.agg #[.int .i64 A, .int .i64 B, .int .i64 C]) 2).run Try.prog w = .ok (.int .i64 C) w := by kernel_rfl
theorem wrap_one : IntKind.i64.wrap 1 = 1 := by decide
theorem wrap_zero : IntKind.i64.wrap 0 = 0 := by decide

/-- What all lays: a new variable, which holds the totals. -/
abbrev totObj (t : AT) : Obj := .cells #[.int .i64 t.cnt, .int .i64 t.tot, .int .i64 t.ht] 77
set_option maxRecDepth 100000 in
theorem all_exact {t : AT} {w : World} {p : Option Addr} {F : List Nat} (h : LiesT w p t F) :
    Calls Try.prog 53 #[.pointer p] w fun e w' => e = .returned (.agg #[.int .i64 t.cnt, .int .i64 t.tot, .int .i64 t.ht]) ∧ w' = w.alloc (totObj t) := by
  cases p with
  | none =>
    obtain rfl := (h.none_iff).1 rfl
    go_enter Try.func53, Try.ntmps53
    go_wp2
    refine bodyPost_ret (results_cell_row rfl _ _ w.heap.size 77 _ (0, 0) _ rfl (World.alloc_heap_new w _) Try.underlying77 rfl Try.info77) rfl ?_
    exact ⟨rfl, rfl⟩
  | some a =>
    obtain ⟨l, x, r, b, lp, rp, Fl, Fr, rfl, rfl, _, hb, _⟩ := h.of_some
    obtain ⟨c0, c1, c2, c3, c4, c5, c6⟩ := raw_cells hb
    have hlt : b < w.heap.size := (Array.getElem?_eq_some_iff.1 hb).1
    have e : totObj (AT.node l x r) = .cells #[.int .i64 (AT.node l x r).cnt, .int .i64 (AT.node l x r).tot, .int .i64 (AT.node l x r).ht] 77 := rfl
    rw [e]
    clear e
    generalize (AT.node l x r).cnt = A at *
    generalize (AT.node l x r).tot = B at *
    generalize (AT.node l x r).ht = C at *
    clear hb c0 c1 c2 c3 h
    go_enter Try.func53, Try.ntmps53
    go_wp2
    refine bodyPost_ret (results_cell_row rfl _ _ w.heap.size 77 _ (0, 0) _ rfl (World.alloc_heap_new w _) Try.underlying77 rfl Try.info77) rfl ?_
    exact ⟨rfl, rfl⟩
theorem all_of {t : AT} {w : World} {p : Option Addr} {F : List Nat} (h : LiesT w p t F) :
    Calls Try.prog 53 #[.pointer p] w fun e w' => e = .returned (.agg #[.int .i64 t.cnt, .int .i64 t.tot, .int .i64 t.ht]) ∧ Below w.heap.size w w' :=
  (all_exact h).mono fun _ _ ⟨he, hw⟩ => ⟨he, hw ▸ (Below.refl _ _).alloc (Nat.le_refl _) _⟩

/-- A node's block and its two sides. -/
structure AtNode (w : World) (b : Nat) (lp rp : Option Addr) (x : It) (l r : AT) (Fl Fr : List Nat) : Prop where
  here : ∃ (i s h : Int), w.heap[b]? = some (.cells (raw lp rp x i s h) 85 (0, 0))
  left : LiesT w lp l Fl
  right : LiesT w rp r Fr
  nl : b ∉ Fl
  nr : b ∉ Fr
  apart : ∀ k ∈ Fl, k ∉ Fr

theorem AtNode.lt {w : World} {b : Nat} {lp rp : Option Addr} {x : It} {l r : AT} {Fl Fr : List Nat} (h : AtNode w b lp rp x l r Fl Fr) : b < w.heap.size := by
  obtain ⟨i, s, h, hb⟩ := h.here
  exact (Array.getElem?_eq_some_iff.1 hb).1
theorem AtNode.below {w w' : World} {b : Nat} {lp rp : Option Addr} {x : It} {l r : AT} {Fl Fr : List Nat} (h : AtNode w b lp rp x l r Fl Fr) (hb : Below w.heap.size w w') : AtNode w' b lp rp x l r Fl Fr := by
  obtain ⟨i, s, k, hc⟩ := h.here
  exact ⟨⟨i, s, k, (hb.block b h.lt).trans hc⟩, h.left.below hb, h.right.below hb, h.nl, h.nr, h.apart⟩
theorem AtNode.cells {w : World} {b : Nat} {lp rp : Option Addr} {x : It} {l r : AT} {Fl Fr : List Nat} (h : AtNode w b lp rp x l r Fl Fr) :
    w.cell? ⟨b, 0, none⟩ = some (.pointer lp) ∧ w.cell? ⟨b, 1, none⟩ = some (.pointer rp) ∧ w.cell? ⟨b, 2, none⟩ = some (.int .i64 x.1) ∧ w.cell? ⟨b, 3, none⟩ = some (.int .i64 x.2) := by
  obtain ⟨i, s, k, hc⟩ := h.here
  obtain ⟨c0, c1, c2, c3, _⟩ := raw_cells hc
  exact ⟨c0, c1, c2, c3⟩
theorem AtNode.all_left {w : World} {b : Nat} {lp rp : Option Addr} {x : It} {l r : AT} {Fl Fr : List Nat} (h : AtNode w b lp rp x l r Fl Fr) :
    ∀ wx, Below w.heap.size w wx → Calls Try.prog 53 #[.pointer lp] wx fun e w' => e = .returned (.agg #[.int .i64 l.cnt, .int .i64 l.tot, .int .i64 l.ht]) ∧ Below w.heap.size w w' :=
  fun _wx hx => (all_of (h.left.below hx)).mono fun _e _w' ⟨he, hb⟩ => ⟨he, hx.trans (hb.mono hx.size)⟩
theorem AtNode.all_right {w : World} {b : Nat} {lp rp : Option Addr} {x : It} {l r : AT} {Fl Fr : List Nat} (h : AtNode w b lp rp x l r Fl Fr) :
    ∀ wx, Below w.heap.size w wx → Calls Try.prog 53 #[.pointer rp] wx fun e w' => e = .returned (.agg #[.int .i64 r.cnt, .int .i64 r.tot, .int .i64 r.ht]) ∧ Below w.heap.size w w' :=
  fun _wx hx => (all_of (h.right.below hx)).mono fun _e _w' ⟨he, hb⟩ => ⟨he, hx.trans (hb.mono hx.size)⟩
/-- What a statement reads of a node, in a world that keeps what was there. -/
abbrev Held (w : World) (b : Nat) (lp rp : Option Addr) (wx : World) : Prop := wx.cell? ⟨b, 0, none⟩ = some (.pointer lp) ∧ wx.cell? ⟨b, 1, none⟩ = some (.pointer rp) ∧ Hid (Below w.heap.size w wx)
theorem below_drew {B : Nat} {a w : World} (h : Below B a w) : Below B a w.drew := below_drewN h 1
theorem AtNode.held {w : World} {b : Nat} {lp rp : Option Addr} {x : It} {l r : AT} {Fl Fr : List Nat} (h : AtNode w b lp rp x l r Fl Fr) {wx : World} (hx : Below w.heap.size w wx) : Held w b lp rp wx :=
  ⟨(h.below hx).cells.1, (h.below hx).cells.2.1, Lib.hid hx⟩
theorem AtNode.call_left {w : World} {b : Nat} {lp rp : Option Addr} {x : It} {l r : AT} {Fl Fr : List Nat} (h : AtNode w b lp rp x l r Fl Fr) :
    ∀ wx, Held w b lp rp wx → Calls Try.prog 53 #[.pointer lp] wx fun e w' => e = .returned (.agg #[.int .i64 l.cnt, .int .i64 l.tot, .int .i64 l.ht]) ∧ Held w b lp rp w' :=
  fun wx hx => (h.all_left wx hx.2.2.out).mono fun _ _ ⟨he, hb⟩ => ⟨he, h.held hb⟩
theorem AtNode.call_right {w : World} {b : Nat} {lp rp : Option Addr} {x : It} {l r : AT} {Fl Fr : List Nat} (h : AtNode w b lp rp x l r Fl Fr) :
    ∀ wx, Held w b lp rp wx → Calls Try.prog 53 #[.pointer rp] wx fun e w' => e = .returned (.agg #[.int .i64 r.cnt, .int .i64 r.tot, .int .i64 r.ht]) ∧ Held w b lp rp w' :=
  fun wx hx => (h.all_right wx hx.2.2.out).mono fun _ _ ⟨he, hb⟩ => ⟨he, h.held hb⟩

attribute [local go_sem] fld0 fld1 fld2 wrap_one wrap_zero

set_option maxRecDepth 100000 in
set_option maxHeartbeats 4000000 in
theorem lean0 {w : World} {b : Nat} {lp rp : Option Addr} {x : It} {l r : AT} {Fl Fr : List Nat} (h : AtNode w b lp rp x l r Fl Fr) (hl : l.ht ≤ 1000000) (hr : r.ht ≤ 1000000) :
    Calls Try.prog 66 #[.pointer (some ⟨b, 0, none⟩), .int .i64 0] w fun e w' => e = .returned (.int .i64 ((l.ht : Int) - r.ht)) ∧ Below w.heap.size w w' := by
  have CL := Lib.hid h.call_left
  have CR := Lib.hid h.call_right
  have HS := Lib.hid (h.held (below_drew (Below.refl _ _)))
  generalize l.ht = M at *
  generalize r.ht = N at *
  have hM : (M : Int) ≤ 1000000 := by omega
  have hN : (N : Int) ≤ 1000000 := by omega
  have hM0 : (0 : Int) ≤ M := by omega
  have hN0 : (0 : Int) ≤ N := by omega
  have hW : IntKind.i64.wrap ((M : Int) - N) = (M : Int) - N := IntWalk.i64_in _ (by omega)
  clear h hl hr
  go_enter Try.func66, Try.ntmps66
  go_wp2
  go_region_held3 (fun wx => wx.cell? ⟨b, 0, none⟩ = some (.pointer lp) ∧ wx.cell? ⟨b, 1, none⟩ = some (.pointer rp) ∧ Hid (Below w.heap.size w wx))
    (first | exact HS.out | assumption)
    (first
      | (go_at_call_of 53 (Value.pointer lp); refine (CL.out _ (by assumption)).mono ?_; rintro e w2 ⟨rfl, hs2⟩)
      | (go_at_call_of 53 (Value.pointer rp); refine (CR.out _ (by assumption)).mono ?_; rintro e w3 ⟨rfl, hs3⟩))
  go_wp2
  go_ret
  exact ⟨rfl, hs3.2.2.out⟩

set_option maxRecDepth 100000 in
set_option maxHeartbeats 4000000 in
theorem lean1 {w : World} {b : Nat} {lp rp : Option Addr} {x : It} {l r : AT} {Fl Fr : List Nat} (h : AtNode w b lp rp x l r Fl Fr) (hl : l.ht ≤ 1000000) (hr : r.ht ≤ 1000000) :
    Calls Try.prog 66 #[.pointer (some ⟨b, 0, none⟩), .int .i64 1] w fun e w' => e = .returned (.int .i64 ((r.ht : Int) - l.ht)) ∧ Below w.heap.size w w' := by
  have CL := Lib.hid h.call_left
  have CR := Lib.hid h.call_right
  have HS := Lib.hid (h.held (below_drew (Below.refl _ _)))
  generalize l.ht = M at *
  generalize r.ht = N at *
  have hM : (M : Int) ≤ 1000000 := by omega
  have hN : (N : Int) ≤ 1000000 := by omega
  have hM0 : (0 : Int) ≤ M := by omega
  have hN0 : (0 : Int) ≤ N := by omega
  have hW : IntKind.i64.wrap ((N : Int) - M) = (N : Int) - M := IntWalk.i64_in _ (by omega)
  clear h hl hr
  go_enter Try.func66, Try.ntmps66
  go_wp2
  go_region_held3 (fun wx => wx.cell? ⟨b, 0, none⟩ = some (.pointer lp) ∧ wx.cell? ⟨b, 1, none⟩ = some (.pointer rp) ∧ Hid (Below w.heap.size w wx))
    (first | exact HS.out | assumption)
    (first
      | (go_at_call_of 53 (Value.pointer lp); refine (CL.out _ (by assumption)).mono ?_; rintro e w2 ⟨rfl, hs2⟩)
      | (go_at_call_of 53 (Value.pointer rp); refine (CR.out _ (by assumption)).mono ?_; rintro e w3 ⟨rfl, hs3⟩))
  go_wp2
  go_ret
  exact ⟨rfl, hs2.2.2.out⟩


end Go.Proofs.Ytfdnlbeancdajaa.Avl
