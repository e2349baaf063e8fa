/- Stage 7's laws out of what is asked of edit's calls: Apply and Inverse; EditApplies. -/
import Derived.Test.YtfdnlbeancdajaaERefDo
namespace Go.Proofs.Ytfdnlbeancdajaa
open Go Go.RowKit

/-- What is asked of Apply and of Inverse. -/
structure SaysP : Prop where
  apply : ∀ w (s d i : ByteArray) (k : Int), s.size ≤ 100000 → d.size ≤ 100000 → i.size ≤ 100000 → -9223372036854775808 ≤ k → k ≤ 9223372036854775807 →
    Calls Try.prog 8 #[.string s, EdV k d i] w fun e w' => e = .returned (.tuple #[.string (appS s k d i), .bool (decide (fitsE s k d))]) ∧ Below w.heap.size w w'
  inverse : ∀ w (k : Int) (d i : ByteArray), Calls Try.prog 11 #[EdV k d i] w fun e w' => e = .returned (EdV k i d) ∧ Below w.heap.size w w'

/-- In a world behind W where the edit's variable still holds it. -/
def Boxed (W : World) (g : Nat) (k : Int) (d i : ByteArray) (wx : World) : Prop :=
  (wx.cell? ⟨g, 0, none⟩ = some (.int .i64 k) ∧ wx.cell? ⟨g, 1, none⟩ = some (.string d) ∧ wx.cell? ⟨g, 2, none⟩ = some (.string i)) ∧ Below W.heap.size W wx
theorem Boxed.on {W wx w' : World} {g : Nat} {k : Int} {d i : ByteArray} (h : Boxed W g k d i wx) (hb : Below wx.heap.size wx w') : Boxed W g k d i w' := by
  obtain ⟨⟨h0, h1, h2⟩, h3⟩ := h
  have hl := World.block_lt_of_cell? wx _ h0
  have hc : ∀ o, w'.cell? ⟨g, o, none⟩ = wx.cell? ⟨g, o, none⟩ := fun o => hb.cell (p := ⟨g, o, none⟩) hl
  exact ⟨⟨(hc 0).trans h0, (hc 1).trans h1, (hc 2).trans h2⟩, h3.trans (hb.mono h3.size)⟩
theorem Boxed.drew {W wx : World} {g : Nat} {k : Int} {d i : ByteArray} (h : Boxed W g k d i wx) : Boxed W g k d i wx.drew := h.on (below_drewN (Below.refl _ _) 1)
theorem Boxed.new {W : World} (k : Int) (d i : ByteArray) : Boxed W W.heap.size k d i (W.alloc (.cells #[.int .i64 k, .string d, .string i] /-t-/23)) := by
  refine ⟨⟨?_, ?_, ?_⟩, (Below.refl _ _).alloc (Nat.le_refl _) _⟩ <;> simp

theorem Boxed.cells {W wx : World} {g : Nat} {k : Int} {d i : ByteArray} (h : Hid (Boxed W g k d i wx)) : wx.cell? ⟨g, 0, none⟩ = some (.int .i64 k) ∧ wx.cell? ⟨g, 1, none⟩ = some (.string d) ∧ wx.cell? ⟨g, 2, none⟩ = some (.string i) := h.out.1

theorem exA : appS ⟨#[120, 98, 121]⟩ 1 ⟨#[98]⟩ ⟨#[97]⟩ = ⟨#[120, 97, 121]⟩ ∧ decide (fitsE ⟨#[120, 98, 121]⟩ 1 ⟨#[98]⟩) = true := by decide
set_option maxRecDepth 100000 in
set_option maxHeartbeats 1000000 in
theorem awake_any (S : SaysP) (w : World) : Calls Try.prog 7 #[] w fun e w' => e = .returned (.bool true) ∧ Below w.heap.size w w' := by
  have C1 := Lib.hid (S.inverse w 1 ⟨#[97]⟩ ⟨#[98]⟩)
  have C2 := Lib.hid (fun wx => S.apply wx ⟨#[120, 98, 121]⟩ ⟨#[98]⟩ ⟨#[97]⟩ 1 (by decide) (by decide) (by decide) (by omega) (by omega))
  simp only [exA.1, exA.2] at C2
  simp only [EdV] at C1 C2
  clear S
  go_enter Try.func7, Try.ntmps7
  go_wp2_with fail
  refine C1.out.mono ?_
  rintro e w1 ⟨rfl, hb1⟩
  have HB1 := Lib.hid hb1
  clear hb1
  go_wp2_with fail
  refine (C2.out _).mono ?_
  rintro e w2 ⟨rfl, hb2⟩
  obtain ⟨⟨c0, c1, c2⟩, hB⟩ := (Boxed.new (W := w1) 1 ⟨#[98]⟩ ⟨#[97]⟩).on hb2
  have HB := Lib.hid (HB1.out.trans (hB.mono HB1.out.size))
  clear hB hb2
  go_wp2_with fail
  go_ret
  exact ⟨rfl, HB.out⟩

set_option maxRecDepth 100000 in
set_option maxHeartbeats 1000000 in
theorem applies_out (S : SaysP) (s d i : ByteArray) (k : Int) (w : World) (hs : s.size ≤ 281474976710656) (hd : d.size ≤ 281474976710656) (hi : i.size ≤ 281474976710656) (h : 3000 < s.size + d.size + i.size) :
    Calls Try.prog 3 #[.string s, EdV k d i] w fun e w' => e = .returned (.bool true) ∧ Below w.heap.size w w' := by
  have W7 := Lib.hid (awake_any S)
  have a1 : (3000 : Int) < (s.size : Int) + d.size + i.size := by omega
  have a2 : (s.size : Int) ≤ 281474976710656 := by omega
  have a3 : (d.size : Int) ≤ 281474976710656 := by omega
  have a4 : (i.size : Int) ≤ 281474976710656 := by omega
  have HB := Lib.hid (Boxed.new (W := w) k d i).2
  clear S hs hd hi h
  show Calls _ _ #[.string s, .agg #[.int .i64 k, .string d, .string i]] _ _
  go_enter Try.func3, Try.ntmps3
  go_wp2_with fail
  refine (W7.out _).mono ?_
  rintro e w7 ⟨rfl, hb7⟩
  have HB7 := Lib.hid (HB.out.trans (hb7.mono HB.out.size))
  clear hb7
  go_wp2_with fail
  go_ret
  exact ⟨rfl, HB7.out⟩

set_option maxRecDepth 100000 in
set_option maxHeartbeats 4000000 in
theorem applies_in (S : SaysP) (s d i : ByteArray) (k : Int) (w : World) (h : s.size + d.size + i.size ≤ 3000) (b1 : -9223372036854775808 ≤ k) (b2 : k ≤ 9223372036854775807) :
    Calls Try.prog 3 #[.string s, EdV k d i] w fun e w' => e = .returned (.bool true) ∧ Below w.heap.size w w' := by
  have W7 := Lib.hid (fun wx (hx : Hid (Boxed w w.heap.size k d i wx)) => (awake_any S wx).mono fun e w' (h : e = .returned (.bool true) ∧ Below wx.heap.size wx w') => show e = .returned (.bool true) ∧ Hid (Boxed w w.heap.size k d i w') from ⟨h.1, Lib.hid (hx.out.on h.2)⟩)
  have C1 := Lib.hid (fun wx (hx : Hid (Boxed w w.heap.size k d i wx)) => (S.apply wx s d i k (by omega) (by omega) (by omega) b1 b2).mono fun e w' h => show e = .returned (.tuple #[.string (appS s k d i), .bool (decide (fitsE s k d))]) ∧ Hid (Boxed w w.heap.size k d i w') from ⟨h.1, Lib.hid (hx.out.on h.2)⟩)
  have C2 := Lib.hid (fun wx (hx : Hid (Boxed w w.heap.size k d i wx)) => (ref_apply wx s d i k (by omega) (by omega) (by omega)).mono fun e w' h => show e = .returned (.tuple #[.string (appS s k d i), .bool (decide (fitsE s k d))]) ∧ Hid (Boxed w w.heap.size k d i w') from ⟨h.1, Lib.hid (hx.out.on h.2)⟩)
  have C3 := Lib.hid (fun wx (d' i' : ByteArray) (hx : Hid (Boxed w w.heap.size k d i wx)) => (S.inverse wx k d' i').mono fun e w' h => show e = .returned (EdV k i' d') ∧ Hid (Boxed w w.heap.size k d i w') from ⟨h.1, Lib.hid (hx.out.on h.2)⟩)
  have C4 := Lib.hid (fun wx (d' i' : ByteArray) (hx : Hid (Boxed w w.heap.size k d i wx)) => (ref_inverse wx k d' i').mono fun e w' h => show e = .returned (EdV k i' d') ∧ Hid (Boxed w w.heap.size k d i w') from ⟨h.1, Lib.hid (hx.out.on h.2)⟩)
  have C5 := Lib.hid (fun wx (d' i' : ByteArray) (hx : Hid (Boxed w w.heap.size k d i wx)) => (ref_same wx k k d' d' i' i').mono fun e w' h => show e = .returned (.bool true) ∧ Hid (Boxed w w.heap.size k d i w') from ⟨by rw [h.1, decide_eq_true ⟨rfl, rfl, rfl⟩], Lib.hid (hx.out.on h.2)⟩)
  have a1 : (s.size : Int) + d.size + i.size ≤ 3000 := by omega
  have a2 : (0 : Int) ≤ s.size := by omega
  have a3 : (0 : Int) ≤ d.size := by omega
  have a4 : (0 : Int) ≤ i.size := by omega
  have HB := Lib.hid (Boxed.new (W := w) k d i)
  have hl := list_eq (appS s k d i) (appS s k d i)
  rw [decide_eq_true rfl] at hl
  generalize appS s k d i = T at *
  generalize decide (fitsE s k d) = v at *
  simp only [EdV] at C1 C2 C3 C4 C5
  clear S h b1 b2
  show Calls _ _ #[.string s, .agg #[.int .i64 k, .string d, .string i]] _ _
  go_enter Try.func3, Try.ntmps3
  go_wp2_with fail
  refine (C1.out _ HB).mono ?_
  rintro e w1 ⟨rfl, hx1⟩
  obtain ⟨c0, c1, c2⟩ := hx1.out.1
  go_wp2_with fail
  refine (C2.out _ hx1).mono ?_
  rintro e w2 ⟨rfl, hx2⟩
  obtain ⟨d0, d1, d2⟩ := hx2.out.1
  have H2 := Lib.hid hx2.out.drew
  clear c0 c1 c2
  go_wp2_with fail
  clear d0 d1 d2
  go_region_held3 (fun wx => wx.cell? ⟨w.heap.size, 0, none⟩ = some (.int .i64 k) ∧ wx.cell? ⟨w.heap.size, 1, none⟩ = some (.string d) ∧ wx.cell? ⟨w.heap.size, 2, none⟩ = some (.string i))
    (first | exact Boxed.cells (by assumption) | (refine Boxed.cells ?_; assumption) | assumption)
    (first
      | (go_at_call 11; refine Calls.mono (C3.out _ _ _ (by assumption)) ?_; rintro e wn ⟨rfl, hn⟩)
      | (go_at_call 12; refine Calls.mono (C4.out _ _ _ (by assumption)) ?_; rintro e wn ⟨rfl, hn⟩)
      | (go_at_call 10; refine Calls.mono (C5.out _ _ _ (by assumption)) ?_; rintro e wn ⟨rfl, hn⟩)
      | (go_at_call 7; refine Calls.mono (W7.out _ (by assumption)) ?_; rintro e wn ⟨rfl, hn⟩))
  go_wp2_with fail
  go_ret
  exact ⟨rfl, hn.out.2⟩
end Go.Proofs.Ytfdnlbeancdajaa
