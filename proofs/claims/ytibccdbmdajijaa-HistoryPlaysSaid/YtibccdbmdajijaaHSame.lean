/- abecedaryref07.Same and SameGroup by contract (of one list twice). -/
import Derived.Test.YtibccdbmdajijaaHLaws
import Derived.Deep.RegionHeld3
import Derived.Laws.DeepStrings4
namespace Go.Proofs.Ytibccdbmdajijaa
open Go Go.RowKit

def EdV (k : Int) (d i : ByteArray) : Value := .agg #[.int .i64 k, .string d, .string i]
theorem ret_bool {a b : Bool} (h : a = b) : Ending.returned (.bool a) = .returned (.bool b) := by rw [h]
theorem list_eq (a b : ByteArray) : (a.toList == b.toList) = decide (a = b) := by
  rw [ByteArray.toList_eq, ByteArray.toList_eq]
  by_cases h : a = b
  · subst h; simp
  · have h2 : ¬ a.data.toList = b.data.toList := fun e => h (ByteArray.ext (Array.ext' e))
    rw [decide_eq_false h]
    exact beq_eq_false_iff_ne.2 h2

set_option maxRecDepth 100000 in
set_option maxHeartbeats 1000000 in
theorem ref_same (w : World) (k k' : Int) (d d' i i' : ByteArray) : Calls Try.prog 23 #[EdV k d i, EdV k' d' i'] w fun e w' => e = .returned (.bool (decide (k = k' ∧ d = d' ∧ i = i'))) ∧ Below w.heap.size w w' := by
  have hb : Below w.heap.size w ((w.alloc (.cells #[.int .i64 k, .string d, .string i] /-t-/31)).alloc (.cells #[.int .i64 k', .string d', .string i'] /-t-/31)) := (((Below.refl _ _).alloc (Nat.le_refl _) _).alloc (by rw [World.size_alloc]; omega) _)
  have H2 := Lib.hid hb
  have e1 := list_eq d d'
  have e2 := list_eq i i'
  obtain ⟨v, hv⟩ : ∃ v, v = decide (k = k' ∧ d = d' ∧ i = i') := ⟨_, rfl⟩
  rw [← hv]
  show Calls _ _ #[.agg #[.int .i64 k, .string d, .string i], .agg #[.int .i64 k', .string d', .string i']] _ _
  clear hb
  obtain h1 | h1 := Classical.em (k = k')
  · subst h1
    by_cases h2 : d = d'
    · by_cases h3 : i = i'
      · have HV := Lib.hid (show v = true by rw [hv]; exact decide_eq_true ⟨rfl, h2, h3⟩)
        rw [decide_eq_true h2] at e1
        rw [decide_eq_true h3] at e2
        clear hv h2 h3
        go_enter Try.func23, Try.ntmps23
        go_wp2_with fail
        go_ret
        exact ⟨ret_bool HV.out.symm, H2.out⟩
      · have HV := Lib.hid (show v = false by rw [hv]; exact decide_eq_false (fun h => h3 h.2.2))
        rw [decide_eq_true h2] at e1
        rw [decide_eq_false h3] at e2
        clear hv h2 h3
        go_enter Try.func23, Try.ntmps23
        go_wp2_with fail
        go_ret
        exact ⟨ret_bool HV.out.symm, H2.out⟩
    · have HV := Lib.hid (show v = false by rw [hv]; exact decide_eq_false (fun h => h2 h.2.1))
      rw [decide_eq_false h2] at e1
      clear hv h2 e2
      go_enter Try.func23, Try.ntmps23
      go_wp2_with fail
      go_ret
      exact ⟨ret_bool HV.out.symm, H2.out⟩
  · have HV := Lib.hid (show v = false by rw [hv]; exact decide_eq_false (fun h => h1 h.1))
    clear hv e1 e2
    go_enter Try.func23, Try.ntmps23
    go_wp2_with fail
    go_ret
    exact ⟨ret_bool HV.out.symm, H2.out⟩

/-- Three cells that hold an edit. -/
def EdAt (w : World) (b off : Nat) (e : Ed) : Prop := w.cell? ⟨b, off, none⟩ = some (.int .i64 e.k) ∧ w.cell? ⟨b, off + 1, none⟩ = some (.string e.d) ∧ w.cell? ⟨b, off + 2, none⟩ = some (.string e.i)
theorem RowAt.open {w : World} {v : Value} {xs : List Ed} (h : RowAt w v xs) (h0 : 0 < xs.length) :
    ∃ b off cap, v = .slice (some ⟨b, off, none⟩) xs.length cap ∧ xs.length ≤ cap ∧ b < w.heap.size ∧ ∀ (i : Nat) e, xs[i]? = some e → EdAt w b (off + i * 3) e := by
  obtain ⟨⟨hl, ⟨_, hz⟩ | ⟨a, cap, rfl, h1, _, h3⟩⟩, hb⟩ := h
  · omega
  obtain ⟨x0, hx0⟩ : ∃ x0, (eCells xs)[0]? = some x0 := ⟨_, List.getElem?_eq_getElem (by omega)⟩
  have hsp : a.spot = none := World.cell?_spot (h3 0 x0 hx0)
  obtain ⟨q, off, spot⟩ := a
  have hsp' : spot = none := hsp
  subst hsp'
  have hadd : ∀ j, (⟨q, off, none⟩ : Addr).add j = ⟨q, off + j, none⟩ := fun j => by unfold Addr.add; split <;> simp_all
  refine ⟨q, off, cap, rfl, h1, hb h0 q rfl, fun i e he => ?_⟩
  obtain ⟨y0, y1, y2⟩ := eCells_at he
  have z0 := h3 _ _ y0
  have z1 := h3 _ _ y1
  have z2 := h3 _ _ y2
  rw [hadd] at z0 z1 z2
  exact ⟨z0, by rw [← z1, Nat.add_assoc], by rw [← z2, Nat.add_assoc]⟩
theorem RowAt.empty {w : World} {v : Value} (h : RowAt w v []) : ∃ a cap, v = .slice a 0 cap := by
  obtain ⟨⟨_, ⟨rfl, _⟩ | ⟨a, cap, rfl, _⟩⟩, _⟩ := h
  · exact ⟨_, _, rfl⟩
  · exact ⟨_, _, rfl⟩
theorem EdAt.on {w w' : World} {b off : Nat} {e : Ed} {B : Nat} (h : EdAt w b off e) (hb : Below B w w') (hB : b < B) : EdAt w' b off e :=
  ⟨(hb.cell (p := ⟨b, off, none⟩) hB).trans h.1, (hb.cell (p := ⟨b, off + 1, none⟩) hB).trans h.2.1, (hb.cell (p := ⟨b, off + 2, none⟩) hB).trans h.2.2⟩

set_option maxRecDepth 100000 in
set_option maxHeartbeats 1000000 in
theorem group_none (w : World) (a1 a2 : Option Addr) (c1 c2 : Nat) : Calls Try.prog 15 #[.slice a1 0 c1, .slice a2 0 c2] w fun e w' => e = .returned (.bool true) ∧ Below w.heap.size w w' := by
  go_enter Try.func15, Try.ntmps15
  go_wp2_with fail
  go_loopw [5] (fun i wr => i = .int .i64 0 ∧ wr = w) (fun _ _ => 0)
  case atStart => exact ⟨rfl, rfl⟩
  case round =>
    obtain ⟨rfl, rfl⟩ := hrel
    go_wp2_with fail
    go_ret
    exact ⟨rfl, Below.refl _ _⟩

set_option maxRecDepth 100000 in
set_option maxHeartbeats 4000000 in
theorem group_some (w : World) (q1 o1 c1 q2 o2 c2 : Nat) (xs : List Ed) (h1 : q1 < w.heap.size) (h2 : q2 < w.heap.size) (hx1 : ∀ (i : Nat) e, xs[i]? = some e → EdAt w q1 (o1 + i * 3) e) (hx2 : ∀ (i : Nat) e, xs[i]? = some e → EdAt w q2 (o2 + i * 3) e) (hl : xs.length ≤ 20) (hc1 : xs.length ≤ c1) (hc2 : xs.length ≤ c2) :
    Calls Try.prog 15 #[.slice (some ⟨q1, o1, none⟩) xs.length c1, .slice (some ⟨q2, o2, none⟩) xs.length c2] w fun e w' => e = .returned (.bool true) ∧ Below w.heap.size w w' := by
  have CS := Lib.hid (fun wx (x : Ed) => (ref_same wx x.k x.k x.d x.d x.i x.i).mono fun e w' h => show e = .returned (.bool true) ∧ Below wx.heap.size wx w' from ⟨by rw [h.1, decide_eq_true ⟨rfl, rfl, rfl⟩], h.2⟩)
  simp only [EdV] at CS
  obtain ⟨N, hN⟩ : ∃ N, N = xs.length := ⟨_, rfl⟩
  rw [← hN] at hl hc1 hc2 ⊢
  have HX := Lib.hid (And.intro hx1 (And.intro hx2 (And.intro h1 (And.intro h2 hN))))
  have n20 : (N : Int) ≤ 20 := by omega
  have nc1 : (N : Int) ≤ c1 := by omega
  have nc2 : (N : Int) ≤ c2 := by omega
  clear hx1 hx2 h1 h2 hN
  go_enter Try.func15, Try.ntmps15
  go_wp2_with fail
  go_loopw [5] (fun i wr => ∃ j : Nat, j ≤ N ∧ i = .int .i64 j ∧ Hid (Below w.heap.size w wr)) (fun i _ => N - (RowKit.intOf i).toNat)
  case atStart => exact ⟨0, Nat.zero_le _, rfl, Lib.hid (Below.refl _ _)⟩
  case round =>
    obtain ⟨j, hj, rfl, HB⟩ := hrel
    have j0 : (0 : Int) ≤ j := by omega
    by_cases hjn : j < N
    · have jn : (j : Int) < N := by omega
      obtain ⟨x, hx⟩ : ∃ x, xs[j]? = some x := ⟨_, List.getElem?_eq_getElem (by rw [← HX.out.2.2.2.2]; exact hjn)⟩
      obtain ⟨a0, a1, a2⟩ := (HX.out.1 j x hx).on HB.out HX.out.2.2.1
      obtain ⟨b0, b1, b2⟩ := (HX.out.2.1 j x hx).on HB.out HX.out.2.2.2.1
      have C2 := Lib.hid (CS.out wr.drew x)
      have HB2 := Lib.hid (below_drewN HB.out 1)
      clear hx HB
      go_wp2_with fail
      go_region_held3 (fun wx => (wx.cell? ⟨q1, o1 + j * 3, none⟩ = some (.int .i64 x.k) ∧ wx.cell? ⟨q1, o1 + j * 3 + 1, none⟩ = some (.string x.d) ∧ wx.cell? ⟨q1, o1 + j * 3 + 2, none⟩ = some (.string x.i)) ∧ (wx.cell? ⟨q2, o2 + j * 3, none⟩ = some (.int .i64 x.k) ∧ wx.cell? ⟨q2, o2 + j * 3 + 1, none⟩ = some (.string x.d) ∧ wx.cell? ⟨q2, o2 + j * 3 + 2, none⟩ = some (.string x.i)))
        (exact ⟨⟨a0, a1, a2⟩, b0, b1, b2⟩)
        (first
          | (go_at_call 23; refine Calls.mono C2.out ?_; rintro e wn ⟨rfl, hbn⟩; have HB3 := Lib.hid (HB2.out.trans (hbn.mono HB2.out.size)); have a0 := (hbn.cell (p := ⟨q1, o1 + j * 3, none⟩) (World.block_lt_of_cell? _ _ a0)).trans a0; have a1 := (hbn.cell (p := ⟨q1, o1 + j * 3 + 1, none⟩) (World.block_lt_of_cell? _ _ a1)).trans a1; have a2 := (hbn.cell (p := ⟨q1, o1 + j * 3 + 2, none⟩) (World.block_lt_of_cell? _ _ a2)).trans a2; have b0 := (hbn.cell (p := ⟨q2, o2 + j * 3, none⟩) (World.block_lt_of_cell? _ _ b0)).trans b0; have b1 := (hbn.cell (p := ⟨q2, o2 + j * 3 + 1, none⟩) (World.block_lt_of_cell? _ _ b1)).trans b1; have b2 := (hbn.cell (p := ⟨q2, o2 + j * 3 + 2, none⟩) (World.block_lt_of_cell? _ _ b2)).trans b2; clear hbn))
      go_wp2_with fail
      go_roundw
      case rel => exact ⟨j + 1, by omega, by go_num, HB3⟩
      case measure => simp [RowKit.intOf]; omega
    · obtain rfl : j = N := by omega
      go_wp2_with fail
      go_ret
      exact ⟨rfl, HB.out⟩
theorem group_any (w : World) (v1 v2 : Value) (xs : List Ed) (h1 : RowAt w v1 xs) (h2 : RowAt w v2 xs) (hl : xs.length ≤ 20) :
    Calls Try.prog 15 #[v1, v2] w fun e w' => e = .returned (.bool true) ∧ Below w.heap.size w w' := by
  by_cases h0 : 0 < xs.length
  · obtain ⟨q1, o1, c1, rfl, e1, l1, x1⟩ := h1.open h0
    obtain ⟨q2, o2, c2, rfl, e2, l2, x2⟩ := h2.open h0
    exact group_some w q1 o1 c1 q2 o2 c2 xs l1 l2 x1 x2 hl e1 e2
  · have hx : xs = [] := List.eq_nil_of_length_eq_zero (by omega)
    subst hx
    obtain ⟨a1, c1, rfl⟩ := h1.empty
    obtain ⟨a2, c2, rfl⟩ := h2.empty
    exact group_none w a1 a2 c1 c2
end Go.Proofs.Ytibccdbmdajijaa
