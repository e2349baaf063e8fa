/- Maps keyed by states and by arcs: their keys; such a map as a function to places. -/
import Derived.Test.YtkabdieenijnlaaIPlain
import Derived.Test.YtkabdieenijnlaaIBase
import Derived.Maps.RangeWalk
import Derived.Maps.Ext
import Derived.Maps.OwnIn
import Derived.DeepKeys4
namespace Go.Proofs.Ytkabdieenijnlaa
open Go Go.RowKit Go.Lib Go.Maps

/-! ### Keys -/
theorem laid15 : laidOutB Try.prog = true := by kernel_rfl
set_option maxRecDepth 100000 in
theorem node_row : (64 : TypeId) < Try.prog.types.size := by
  have h : Nat.ble (64 + 1) Try.prog.types.size = true := by kernel_rfl
  exact Nat.le_of_ble_eq_true h
set_option maxRecDepth 100000 in
theorem arc_row : (62 : TypeId) < Try.prog.types.size := by
  have h : Nat.ble (62 + 1) Try.prog.types.size = true := by kernel_rfl
  exact Nat.le_of_ble_eq_true h
theorem node_wide : (match Try.prog.underlying 64 with | some (.array _ _) | some (.struct _) => true | _ => false) = true := by kernel_rfl
theorem arc_wide : (match Try.prog.underlying 62 with | some (.array _ _) | some (.struct _) => true | _ => false) = true := by kernel_rfl
theorem node_at : Try.prog.keyTypeAt 2 64 = true := by kernel_rfl
theorem arc_at : Try.prog.keyTypeAt 2 62 = true := by kernel_rfl
theorem three_le : 2 + 1 ≤ 10000 := Nat.le_of_ble_eq_true rfl
set_option maxRecDepth 100000 in
theorem keyed_node : Keyed Try.prog 64 := Keyed.of_law (deep_law_laid laid15 (m := 2) three_le node_row node_at node_wide)
set_option maxRecDepth 100000 in
theorem keyed_arc : Keyed Try.prog 62 := Keyed.of_law (deep_law_laid laid15 (m := 2) three_le arc_row arc_at arc_wide)
theorem node_cells : Try.prog.cellsOf 64 = 2 := by kernel_rfl
theorem arc_cells : Try.prog.cellsOf 62 = 3 := by kernel_rfl
theorem node_key : Try.prog.keyType 64 = true := by kernel_rfl
theorem arc_key : Try.prog.keyType 62 = true := by kernel_rfl
theorem bool_cells : Try.prog.cellsOf 4 = 1 := by kernel_rfl
theorem i32_cells : Try.prog.cellsOf 21 = 1 := by kernel_rfl
theorem u8_cells : Try.prog.cellsOf 5 = 1 := by kernel_rfl
theorem types_pos : ∃ m, Try.prog.types.size = m + 1 := by
  have h : 1 ≤ Try.prog.types.size := Nat.le_trans (Nat.le_add_left 1 _) node_row
  exact ⟨Try.prog.types.size - 1, (Nat.sub_add_cancel h).symm⟩
/-- What a state's, an arc's two or three cells are. -/
def nodeC (x : Bool × Nat) : List Value := [.bool x.1, .int .i32 ((x.2 : Int) - 1)]
def arcC (x : UInt8 × Nat × Nat) : List Value := [.int .u8 x.1.toNat, .int .i32 x.2.1, .int .i32 ((x.2.2 : Int) - 1)]
def nodeFit (x : Bool × Nat) : Prop := x.2 ≤ 2000000000
def arcFit (x : UInt8 × Nat × Nat) : Prop := x.2.1 ≤ 2000000000 ∧ x.2.2 ≤ 2000000000
def nodeK (x : Bool × Nat) : Lit := .string (keyBytes [.bool x.1, .int .i32 ((x.2 : Int) - 1)])
def arcK (x : UInt8 × Nat × Nat) : Lit := .string (keyBytes [.int .u8 x.1.toNat, .int .i32 x.2.1, .int .i32 ((x.2.2 : Int) - 1)])
theorem wf32 {i : Int} (h : -1 ≤ i ∧ i ≤ 2000000000) : (Lit.int .i32 i).wf = true := by
  simp [Lit.wf, IntKind.min, IntKind.max, IntKind.signed, IntKind.bits]; omega
theorem wf8 (c : UInt8) : (Lit.int .u8 c.toNat).wf = true := by
  have := c.toNat_lt
  simp [Lit.wf, IntKind.min, IntKind.max, IntKind.signed, IntKind.bits]; omega
theorem key_node (x : Bool × Nat) (hx : nodeFit x) : keyOf Try.prog 64 (.agg (nodeC x).toArray) = some (nodeK x) := by
  obtain ⟨m, hm⟩ := types_pos
  have h1 := wf32 (i := (x.2 : Int) - 1) (by unfold nodeFit at hx; omega)
  unfold keyOf nodeC nodeK
  rw [Try.underlying64]
  simp only [node_key, Value.formed, Try.underlying64, node_cells, hm, Value.cells]
  simp [Program.keyLits, Try.underlying64, Try.underlying4, Try.underlying21, node_cells, bool_cells, i32_cells, h1]
theorem key_arc (x : UInt8 × Nat × Nat) (hx : arcFit x) : keyOf Try.prog 62 (.agg (arcC x).toArray) = some (arcK x) := by
  obtain ⟨m, hm⟩ := types_pos
  have h1 := wf32 (i := (x.2.2 : Int) - 1) (by unfold arcFit at hx; omega)
  have h2 := wf32 (i := (x.2.1 : Int)) (by unfold arcFit at hx; omega)
  have h3 := wf8 x.1
  unfold keyOf arcC arcK
  rw [Try.underlying62]
  simp only [arc_key, Value.formed, Try.underlying62, arc_cells, hm, Value.cells]
  simp [Program.keyLits, Try.underlying62, Try.underlying5, Try.underlying21, arc_cells, u8_cells, i32_cells, h1, h2, h3]
theorem node_wf {x : Bool × Nat} (hx : x.2 ≤ 2000000000) : ∀ a ∈ [Lit.bool x.1, .int .i32 ((x.2 : Int) - 1)], a.keyWf := by
  simp only [List.mem_cons, List.not_mem_nil, or_false]
  rintro a (rfl | rfl)
  · trivial
  · exact wf32 (by omega)
theorem arc_wf {x : UInt8 × Nat × Nat} (hx : x.2.1 ≤ 2000000000 ∧ x.2.2 ≤ 2000000000) : ∀ a ∈ [Lit.int .u8 x.1.toNat, .int .i32 x.2.1, .int .i32 ((x.2.2 : Int) - 1)], a.keyWf := by
  simp only [List.mem_cons, List.not_mem_nil, or_false]
  rintro a (rfl | rfl | rfl)
  · exact wf8 _
  · exact wf32 (by omega)
  · exact wf32 (by omega)
theorem nodeK_inj {x y : Bool × Nat} (hx : nodeFit x) (hy : nodeFit y) (e : nodeK x = nodeK y) : x = y := by
  unfold nodeFit at hx hy
  have h := keyBytes_inj (l := [.bool x.1, .int .i32 ((x.2 : Int) - 1)]) (l' := [.bool y.1, .int .i32 ((y.2 : Int) - 1)]) ⟨trivial, rfl, trivial⟩
    (node_wf hx) (node_wf hy) (by injection e)
  obtain ⟨a, b⟩ := x
  obtain ⟨c, d⟩ := y
  simp only [List.cons.injEq, Lit.bool.injEq, Lit.int.injEq, true_and, and_true] at h
  obtain ⟨rfl, h⟩ := h
  obtain rfl : b = d := by omega
  rfl
theorem arcK_inj {x y : UInt8 × Nat × Nat} (hx : arcFit x) (hy : arcFit y) (e : arcK x = arcK y) : x = y := by
  unfold arcFit at hx hy
  have h := keyBytes_inj (l := [.int .u8 x.1.toNat, .int .i32 x.2.1, .int .i32 ((x.2.2 : Int) - 1)]) (l' := [.int .u8 y.1.toNat, .int .i32 y.2.1, .int .i32 ((y.2.2 : Int) - 1)]) ⟨rfl, rfl, rfl, trivial⟩
    (arc_wf hx) (arc_wf hy) (by injection e)
  obtain ⟨a, b, b'⟩ := x
  obtain ⟨c, d, d'⟩ := y
  simp only [List.cons.injEq, Lit.int.injEq, true_and, and_true] at h
  obtain ⟨h0, h1, h2⟩ := h
  obtain rfl : a = c := UInt8.toNat_inj.1 (by omega)
  obtain rfl : b = d := by omega
  obtain rfl : b' = d' := by omega
  rfl

/-! ### A map that tells places -/
theorem zero_i32 (w : World) : (zeroValue 21).run Try.prog w = .ok (.int .i32 0) w := by kernel_rfl
structure Kind (α : Type) where
  t : TypeId
  mt : TypeId
  val : α → Value
  key : α → Lit
  fit : α → Prop
  keyed : Keyed Try.prog t
  under : Try.prog.underlying mt = some (.map t 21)
  law : ∀ x, fit x → keyOf Try.prog t (val x) = some (key x)
  inj : ∀ {x y}, fit x → fit y → key x = key y → x = y
  lit : ∀ x, WideAt.IsKeyLit (key x)
/-- A map of the call's own that answers as f does; k stores were made. -/
structure Know {α : Type} (K : Kind α) (w : World) (b k : Nat) (f : α → Option Nat) : Prop where
  own : ∃ D : DataW Unit, w.ownsMap Try.prog K.t (plainElem Try.prog 21) b k D ∧ ∀ x, K.fit x → Maps.has D (K.key x) = (f x).isSome ∧ ∀ d, f x = some d → D.atKey (K.key x) (.lit (.int .i32 0)) = .lit (.int .i32 d)
variable {α : Type} {K : Kind α} {w w' : World} {b k : Nat} {f : α → Option Nat}
theorem Know.lt (h : Know K w b k f) : b < w.heap.size := by
  obtain ⟨D, h1, _⟩ := h.own
  exact h1.lt
theorem Know.same (h : Know K w b k f) (hb : w'.heap[b]? = w.heap[b]?) : Know K w' b k f := by
  obtain ⟨D, ⟨es, clock, h1, h2⟩, h3⟩ := h.own
  exact ⟨D, ⟨es, clock, hb.trans h1, h2⟩, h3⟩
theorem Know.made (hb : w.heap[b]? = some (.map #[] 0)) : Know K w b 0 (fun _ => none) := by
  refine ⟨.map [], ?_, fun c _ => ⟨by simp [Maps.has], fun d h => by cases h⟩⟩
  have := World.ownsMap_made (H := Unit) w Try.prog K.t (plainElem Try.prog 21)
  obtain ⟨es, clock, h1, h2⟩ := this
  have h3 := (World.alloc_heap_new w (.map #[] 0)).symm.trans h1
  exact ⟨es, clock, hb.trans h3, h2⟩
theorem Know.put [DecidableEq α] (h : Know K w b k f) {c : α} {d : Nat} (hc : K.fit c) (hd : d ≤ 2000000000) (hk : k < maxLen) :
    ∃ w', (Instr.mapUpdate K.mt (.map (some b)) (K.val c) (.int .i32 d)).run Try.prog w = .ok () w' ∧ Know K w' b (k + 1) (fun x => if x = c then some d else f x) ∧ w.grownBy w' (some b) := by
  obtain ⟨D, h1, h2⟩ := h.own
  obtain ⟨w', hr, ho, hg⟩ := h1.update K.keyed K.under hk (K.law c hc) (plainElem_int Try.underlying21 (wf32 (i := d) (by omega)))
  refine ⟨w', hr, ⟨_, ho, fun x hx => ?_⟩, hg⟩
  by_cases e : x = c
  · subst e
    simp only [if_true]
    refine ⟨has_put_same h1.isMap (K.lit _) _, fun y hy => ?_⟩
    rw [atKey_put_same h1.isMap (K.lit _)]
    cases hy; rfl
  · have hne : K.key x ≠ K.key c := fun hh => e (K.inj hx hc hh)
    simp only [if_neg e]
    rw [has_put_other hne]
    exact ⟨(h2 x hx).1, fun y hy => by rw [atKey_put_other hne]; exact (h2 x hx).2 y hy⟩
theorem Know.look (h : Know K w b k f) {c : α} (hc : K.fit c) :
    ∃ x, (Instr.lookup K.mt (.map (some b)) (K.val c) true).run Try.prog w = .ok (.tuple #[.int .i32 x, .bool (f c).isSome]) w ∧ ∀ d : Nat, f c = some d → x = d := by
  obtain ⟨D, h1, h2⟩ := h.own
  obtain ⟨v, ps, hr, hv⟩ := h1.look_ok K.keyed K.under (zero_i32 w) (plainElem_int Try.underlying21 (by decide)) (K.law c hc)
  obtain ⟨x, rfl, hx, _⟩ := plainElem_int_inv Try.underlying21 hv
  refine ⟨x, by rw [hr, (h2 c hc).1], fun d hd => ?_⟩
  have := (h2 c hc).2 d hd
  rw [this] at hx
  simp at hx
  exact hx.1.symm
def kNode : Kind (Bool × Nat) := ⟨64, 69, fun x => .agg (nodeC x).toArray, nodeK, nodeFit, keyed_node, Try.underlying69, key_node, nodeK_inj, fun _ => trivial⟩
def kArc : Kind (UInt8 × Nat × Nat) := ⟨62, 70, fun x => .agg (arcC x).toArray, arcK, arcFit, keyed_arc, Try.underlying70, key_arc, arcK_inj, fun _ => trivial⟩
end Go.Proofs.Ytkabdieenijnlaa
