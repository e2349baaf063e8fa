/- slices.Clone, New, Len, Undo, Redo of a history in a ring, by contract. -/
import Derived.Test.YtibccdbmdajijaaJForget
import Derived.Laws.AppendOwn
import Derived.Lib.SliceRun
namespace Go.Proofs.Ytibccdbmdajijaa
open Go Go.RowKit

/-- At ad, in the blocks F, a history of depth D, by a ring. -/
def RingH (F : Nat → Prop) (w : World) (ad : Addr) (D : Nat) (us rs : List (List Ed)) : Prop :=
  ∃ hb old, ad = ⟨hb, 0, none⟩ ∧ Ring F hb w 0 old us.length rs.length D (us ++ rs.reverse) ∧ us.length + rs.length ≤ D ∧ D ≤ 50
theorem RingH.firm : Firm RingH := ⟨fun _F _w _a _D _us _rs ⟨_, _, _, h, _⟩ => h.lt, fun _F _w _w' _a _D _us _rs ⟨hb, old, e, h, h2⟩ hk => ⟨hb, old, e, h.keep hk, h2⟩⟩

theorem eCells_one' (g : List Ed) : ∀ u ∈ eCells g, u.oneCell' = true := by
  intro u hu
  unfold eCells at hu
  rw [List.mem_flatMap] at hu
  obtain ⟨x, _, hx⟩ := hu
  simp at hx
  rcases hx with rfl | rfl | rfl <;> rfl
theorem Try.infosJ31 : (Try.prog.info? 31).map (fun i => (i.zero, i.size, i.bytes)) = some (some (.agg #[.int .i64 0, .string ⟨#[]⟩, .string ⟨#[]⟩]), 3, 40) := by kernel_rfl

set_option maxRecDepth 100000 in
set_option maxHeartbeats 1000000 in
/-- A list of edits, not empty, is copied: a new row of the caller's own. -/
theorem clone_any (w : World) (v : Value) (g : List Ed) (hv : RowAt w v g) (h0 : 0 < g.length) (h20 : g.length ≤ 20) :
    Calls Try.prog 21 #[v] w fun e w' => ∃ v', e = .returned v' ∧ w'.ownsRow w.heap.size 31 3 v' g.length (eCells g) ∧ Below w.heap.size w w' := by
  obtain ⟨i1, hi1, hz10, hz11, hz12⟩ := info_parts Try.infosJ31
  obtain ⟨⟨hl, ⟨_, hn⟩ | ⟨ad, cap, rfl, hc1, hc2, hcells⟩⟩, hlt⟩ := hv
  · omega
  have hnw : Hid (∀ (o : Obj) (j : Nat) u, (eCells g)[j]? = some u → (w.alloc o).cell? (ad.add j) = some u) := Lib.hid fun o j u hu => (cell_same (by rw [add_block]; exact Below.heap_alloc _ _ _ (hlt h0 _ rfl))).trans (hcells j u hu)
  have HL := Lib.hid hl
  have hq : ∀ W, (binOp .eql 32 (.slice (some ad) g.length cap) (.slice none 0 0)).run Try.prog W = .ok (.bool false) W := fun W => Lib.run_eql_slice_nil W _ _ _ _ _ _ _ Try.underlying32
  clear hcells hlt hl
  go_enter Try.func21, Try.ntmps21
  go_wp2_with (at_builtin; refine wpList_append_where _ rfl _ _ 32 rfl w.heap.size 31 i1 (.agg #[.int .i64 0, .string ⟨#[]⟩, .string ⟨#[]⟩]) 3 40 Try.underlying32 hi1 hz10 hz11 hz12 rfl (by decide) (.slice (some ⟨w.heap.size, 0, none⟩) 0 0) 0 [] rfl (World.ownsRow_lit w #[] 0 (Nat.le_refl _) (Nat.zero_le _) rfl) ad g.length cap (eCells g) rfl HL.out (hnw.out _) (eCells_one' g) (by unfold maxLen; omega) (by omega) (by rw [World.size_alloc]; omega) ?_)
  intro v4 w4 hown hgrow _
  have H := Lib.hid (And.intro hown ((((Below.refl w.heap.size w).alloc (Nat.le_refl _) (.cells #[] 31)).grown hgrow (by rw [World.size_alloc]; omega) (fun z hz => by simp [Value.ownBlock] at hz; omega))))
  clear hown hgrow
  go_wp2_with fail
  go_ret
  exact ⟨_, rfl, H.out⟩

theorem below_keeps {F : Nat → Prop} {w w' : World} (h : Below w.heap.size w w') : KeepsAt F w w' := KeepsAt.of_only (OnlyAt.of_below h) (fun _ _ (e : False) => e.elim)

set_option maxRecDepth 100000 in
set_option maxHeartbeats 1000000 in
theorem hist_new (w : World) (d : Int) (d1 : -9223372036854775808 ≤ d) (d2 : d ≤ 9223372036854775807) :
    Calls Try.prog 7 #[.int .i64 d] w fun e w' => ∃ a F, e = .returned (.pointer (some a)) ∧ RingH F w' a (cutD d) [] [] ∧ OnlyAt (fun _ => False) w w' ∧ ∀ k, F k → w.heap.size ≤ k := by
  have key : ∀ (E : Nat) (cs : Array Value), E ≤ 50 → cs.size = 54 → cs[50]? = some (.int .i64 (0 : Nat)) → cs[51]? = some (.int .i64 (0 : Nat)) → cs[52]? = some (.int .i64 (0 : Nat)) → cs[53]? = some (.int .i64 E) →
      ∃ a F, Ending.returned (.pointer (some ⟨w.heap.size, 0, none⟩)) = .returned (.pointer (some a)) ∧ RingH F (w.alloc (.cells cs /-t-/46)) a E [] [] ∧ OnlyAt (fun _ => False) w (w.alloc (.cells cs /-t-/46)) ∧ ∀ k, F k → w.heap.size ≤ k := fun E cs hE h1 h2 h3 h4 h5 =>
    ⟨_, fun k => k = w.heap.size, rfl, ⟨w.heap.size, 0, rfl, ⟨rfl, fun k hk => by subst hk; simp, by decide, by decide, cs, World.alloc_heap_new _ _, h1, h2, h3, h4, h5, fun i g _ hi => by simp at hi⟩, Nat.zero_le _, hE⟩, OnlyAt.alloc _ _ _, fun k hk => by subst hk; exact Nat.le_refl _⟩
  have hc : (d < 0 ∧ cutD d = 0) ∨ (d = ((cutD d : Nat) : Int) ∧ ((cutD d : Nat) : Int) ≤ 50) ∨ (50 < d ∧ cutD d = 50) := by unfold cutD; omega
  have KEY := Lib.hid key
  clear key
  generalize cutD d = E at *
  rcases hc with ⟨h0, rfl⟩ | ⟨rfl, h0⟩ | ⟨h0, rfl⟩
  · have hm : min (max d 0) 50 = 0 := by omega
    go_enter Try.func7, Try.ntmps7
    go_wp2_with fail
    all_goals first | (go_ret; exact KEY.out 0 _ (by omega) rfl rfl rfl rfl rfl) | (exfalso; omega)
  · have e0 : (0 : Int) ≤ E := by omega
    have hm : min (max (E : Int) 0) 50 = E := by omega
    go_enter Try.func7, Try.ntmps7
    go_wp2_with fail
    all_goals first | (go_ret; exact KEY.out E _ (by omega) rfl rfl rfl rfl rfl) | (exfalso; omega)
  · have hm : min (max d 0) 50 = 50 := by omega
    go_enter Try.func7, Try.ntmps7
    go_wp2_with fail
    all_goals first | (go_ret; exact KEY.out 50 _ (by omega) rfl rfl rfl rfl rfl) | (exfalso; omega)

set_option maxRecDepth 100000 in
set_option maxHeartbeats 1000000 in
theorem hist_len (F : Nat → Prop) (w : World) (a : Addr) (D : Nat) (us rs : List (List Ed)) (h : RingH F w a D us rs) :
    Calls Try.prog 18 #[.pointer (some a)] w fun e w' => e = .returned (.tuple #[.int .i64 us.length, .int .i64 rs.length]) ∧ HGoes RingH F w w' a D us rs (fun _ => False) := by
  have HG := Lib.hid (fun n => show HGoes RingH F w (w.drewN n) a D us rs (fun _ => False) from ⟨F, RingH.firm.frame _ _ _ _ _ _ _ h (below_keeps (below_drewN (Below.refl _ _) n)), OnlyAt.of_below (below_drewN (Below.refl _ _) n), fun k hk => ⟨.inl hk, fun h => h⟩⟩)
  obtain ⟨hb, old, rfl, hr, -, -⟩ := h
  obtain ⟨⟨c0, c1, c2, c3⟩, cf, -⟩ := hr.facts
  clear hr
  go_enter Try.func18, Try.ntmps18
  go_wp2_with fail
  go_quiet (fail)
  go_wp2_with fail
  go_ret2
  exact ⟨rfl, HG.out _⟩

set_option maxRecDepth 100000 in
set_option maxHeartbeats 1000000 in
theorem hist_undo_no (F : Nat → Prop) (w : World) (a : Addr) (D : Nat) (rs : List (List Ed)) (h : RingH F w a D [] rs) :
    Calls Try.prog 13 #[.pointer (some a)] w fun e w' => ∃ v, e = .returned (.tuple #[v, .bool false]) ∧ w'.ownsRow w.heap.size 31 3 v 0 [] ∧ HGoes RingH F w w' a D [] rs (fun k => v.ownBlock = some k) := by
  have HG := Lib.hid (show HGoes RingH F w w a D [] rs (fun k => (Value.slice none 0 0).ownBlock = some k) from ⟨F, h, OnlyAt.refl _ _, fun k hk => ⟨.inl hk, fun e => by cases e⟩⟩)
  obtain ⟨hb, old, rfl, hr, -, -⟩ := h
  obtain ⟨⟨c0, c1, c2, c3⟩, cf, -⟩ := hr.facts
  simp only [List.length_nil] at c1
  clear hr
  go_enter Try.func13, Try.ntmps13
  go_wp2_with fail
  go_ret2
  exact ⟨_, rfl, World.ownsRow_nil _ _ _ _, HG.out⟩

set_option maxRecDepth 100000 in
set_option maxHeartbeats 1000000 in
theorem hist_redo_no (F : Nat → Prop) (w : World) (a : Addr) (D : Nat) (us : List (List Ed)) (h : RingH F w a D us []) :
    Calls Try.prog 16 #[.pointer (some a)] w fun e w' => ∃ v, e = .returned (.tuple #[v, .bool false]) ∧ w'.ownsRow w.heap.size 31 3 v 0 [] ∧ HGoes RingH F w w' a D us [] (fun k => v.ownBlock = some k) := by
  have HG := Lib.hid (show HGoes RingH F w w a D us [] (fun k => (Value.slice none 0 0).ownBlock = some k) from ⟨F, h, OnlyAt.refl _ _, fun k hk => ⟨.inl hk, fun e => by cases e⟩⟩)
  obtain ⟨hb, old, rfl, hr, -, -⟩ := h
  obtain ⟨⟨c0, c1, c2, c3⟩, cf, -⟩ := hr.facts
  simp only [List.length_nil] at c2
  clear hr
  go_enter Try.func16, Try.ntmps16
  go_wp2_with fail
  go_ret2
  exact ⟨_, rfl, World.ownsRow_nil _ _ _ _, HG.out⟩
end Go.Proofs.Ytibccdbmdajijaa
