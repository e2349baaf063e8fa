/- awake by contract. -/
import Derived.Test.YtbghfbhchmoddaaMDNear
namespace Go.Proofs.Ytbghfbhchmoddaa
open Go Go.RowKit Go.Lib

theorem ex12 : farL [1, 2] [2, 1] = 1 := by unfold farL osa; decide +kernel
theorem ex31 : farL [3, 1] [1, 2, 3] = 3 := by unfold farL osa; decide +kernel
/-- Two literals, one behind the other. -/
theorem two_lits (w : World) (l m : List Int) (xs ys : Array Value) (t : TypeId) (hx : xs = (l.map (Value.int .i64)).toArray) (hy : ys = (m.map (Value.int .i64)).toArray) (hl : l.length ≤ 1000) (hm : m.length ≤ 1000) :
    IntsAt ((w.alloc (.cells xs t)).alloc (.cells ys t)) (.slice (some ⟨w.heap.size, 0, none⟩) l.length l.length) l ∧ IntsAt ((w.alloc (.cells xs t)).alloc (.cells ys t)) (.slice (some ⟨w.heap.size + 1, 0, none⟩) m.length m.length) m ∧ Below w.heap.size w ((w.alloc (.cells xs t)).alloc (.cells ys t)) :=
  ⟨(ints_lit w l xs t hx hl).keep ((Below.refl _ _).alloc (Nat.le_refl _) _), by have h := ints_lit (w.alloc (.cells xs t)) m ys t hy hm; rwa [World.size_alloc] at h, ((Below.refl _ _).alloc (Nat.le_refl _) _).alloc (by simp) _⟩
theorem aw1 (wx : World) : Calls Try.prog 9 #[.slice (some ⟨wx.heap.size, 0, none⟩) 2 2, .slice (some ⟨wx.heap.size + 1, 0, none⟩) 2 2, .int .i64 1] ((wx.alloc (.cells #[.int .i64 1, .int .i64 2] 3)).alloc (.cells #[.int .i64 2, .int .i64 1] 3)) fun e w' => e = .returned (.tuple #[.int .i64 1, .bool true]) ∧ Below wx.heap.size wx w' := by
  have h := two_lits wx [1, 2] [2, 1] #[.int .i64 1, .int .i64 2] #[.int .i64 2, .int .i64 1] 3 rfl rfl (by decide) (by decide)
  refine (near_any _ _ _ _ _ 1 h.1 h.2.1 (by decide) (by decide)).mono ?_
  rintro e w' ⟨rfl, hb⟩
  rw [ex12]
  exact ⟨rfl, h.2.2.trans (hb.mono h.2.2.size)⟩
theorem aw2 (wx : World) : Calls Try.prog 10 #[.slice (some ⟨wx.heap.size, 0, none⟩) 2 2, .slice (some ⟨wx.heap.size + 1, 0, none⟩) 2 2] ((wx.alloc (.cells #[.int .i64 1, .int .i64 2] 3)).alloc (.cells #[.int .i64 2, .int .i64 1] 3)) fun e w' => e = .returned (.int .i64 1) ∧ Below wx.heap.size wx w' := by
  have h := two_lits wx [1, 2] [2, 1] #[.int .i64 1, .int .i64 2] #[.int .i64 2, .int .i64 1] 3 rfl rfl (by decide) (by decide)
  refine (far_any _ _ _ _ _ h.1 h.2.1 (by decide) (by decide)).mono ?_
  rintro e w' ⟨rfl, hb⟩
  rw [ex12]
  exact ⟨rfl, h.2.2.trans (hb.mono h.2.2.size)⟩
theorem aw3 (wx : World) : Calls Try.prog 10 #[.slice (some ⟨wx.heap.size, 0, none⟩) 2 2, .slice (some ⟨wx.heap.size + 1, 0, none⟩) 3 3] ((wx.alloc (.cells #[.int .i64 3, .int .i64 1] 3)).alloc (.cells #[.int .i64 1, .int .i64 2, .int .i64 3] 3)) fun e w' => e = .returned (.int .i64 3) ∧ Below wx.heap.size wx w' := by
  have h := two_lits wx [3, 1] [1, 2, 3] #[.int .i64 3, .int .i64 1] #[.int .i64 1, .int .i64 2, .int .i64 3] 3 rfl rfl (by decide) (by decide)
  refine (far_any _ _ _ _ _ h.1 h.2.1 (by decide) (by decide)).mono ?_
  rintro e w' ⟨rfl, hb⟩
  rw [ex31]
  exact ⟨rfl, h.2.2.trans (hb.mono h.2.2.size)⟩
set_option maxRecDepth 100000 in
set_option maxHeartbeats 4000000 in
theorem awake_any (w : World) : Calls Try.prog 7 #[] w fun e w' => e = .returned (.bool true) ∧ Below w.heap.size w w' := by
  have C1 := Lib.hid aw1
  have C2 := Lib.hid aw2
  have C3 := Lib.hid aw3
  go_enter Try.func7, Try.ntmps7
  go_wp2_with fail
  refine (C1.out w).mono ?_
  rintro e w1 ⟨rfl, h1⟩
  have H1 := Lib.hid h1
  clear h1
  go_wp2_with fail
  refine (C2.out w1).mono ?_
  rintro e w2 ⟨rfl, h2⟩
  have H2 := Lib.hid h2
  clear h2
  go_wp2_with fail
  refine (C3.out w2).mono ?_
  rintro e w3 ⟨rfl, h3⟩
  have H3 := Lib.hid h3
  clear h3
  go_wp2_with fail
  go_ret
  exact ⟨rfl, H1.out.trans ((H2.out.trans (H3.out.mono H2.out.size)).mono H1.out.size)⟩
end Go.Proofs.Ytbghfbhchmoddaa
