/- EditDoes out of what is asked of edit's and of a buffer's calls. -/
import Derived.Test.YtfdnlbeancdajaaEKnown
namespace Go.Proofs.Ytfdnlbeancdajaa
open Go Go.RowKit

/-- What an Undo answers, and makes of the text. -/
def undoE (s : ByteArray) (m : Nat) (k : Int) (d i : ByteArray) : Int := if fitsE s k i then (if m < s.size - i.size + d.size then 3 else 0) else 2
def undoS (s : ByteArray) (m : Nat) (k : Int) (d i : ByteArray) : ByteArray := if undoE s m k d i = 0 then putT s k.toNat i.size d else s
/-- What is asked of New and Text of a buffer, of Do and Undo. u: how many bytes were put into it, or may have been put there and back. -/
structure SaysB (R : Nat → (Nat → Prop) → World → Addr → ByteArray → Nat → Nat → Nat → Prop) : Prop where
  new : ∀ w (s : ByteArray) (most : Int), s.size ≤ clamp most → -9223372036854775808 ≤ most → most ≤ 9223372036854775807 →
    Calls Try.prog 13 #[.string s, .int .i64 most] w fun e w' => ∃ a F p h, e = .returned (.tuple #[.pointer (some a), .int .i64 0]) ∧ R 0 F w' a s (clamp most) p h ∧ OnlyAt (fun _ => False) w w' ∧ ∀ k, F k → w.heap.size ≤ k
  big : ∀ w (s : ByteArray) (most : Int), clamp most < s.size → s.size ≤ 1000000 → -9223372036854775808 ≤ most → most ≤ 9223372036854775807 →
    Calls Try.prog 13 #[.string s, .int .i64 most] w fun e w' => e = .returned (.tuple #[.pointer none, .int .i64 3]) ∧ OnlyAt (fun _ => False) w w'
  text : ∀ {u : Nat} F w a s m p h, R u F w a s m p h →
    Calls Try.prog 16 #[.pointer (some a)] w fun e w' => e = .returned (.string s) ∧ Goes (R u) F w w' a s m (fun _ _ => True)
  do_ : ∀ {u : Nat} F w a s m p h (k n : Int) (t : ByteArray), R u F w a s m p h → u + t.size + s.size ≤ 1000000 → -9223372036854775808 ≤ k → k ≤ 9223372036854775807 → -9223372036854775808 ≤ n → n ≤ 9223372036854775807 →
    Calls Try.prog 14 #[.pointer (some a), .int .i64 k, .int .i64 n, .string t] w fun e w' => e = .returned (.tuple #[doV s m k n t, .int .i64 (doE s m k n t)]) ∧ Goes (R (u + t.size + s.size)) F w w' a (doS s m k n t) m (fun _ _ => True)
  inv : ∀ {u : Nat} F w a s m p h, R u F w a s m p h → s.size ≤ m ∧ m ≤ 65536
  lt : ∀ {u : Nat} F w a s m p h, R u F w a s m p h → ∀ k, F k → k < w.heap.size
  frame : ∀ {u : Nat} F w w' a s m p h, R u F w a s m p h → KeepsAt F w w' → R u F w' a s m p h

/-- What is asked of edit.Undo. -/
structure SaysUndo (R : Nat → (Nat → Prop) → World → Addr → ByteArray → Nat → Nat → Nat → Prop) : Prop where
  undo : ∀ {u : Nat} F w a s m p h (k : Int) (d i : ByteArray), R u F w a s m p h → u + d.size + s.size ≤ 1000000 → i.size ≤ 100000 → -9223372036854775808 ≤ k → k ≤ 9223372036854775807 →
    Calls Try.prog 21 #[.pointer (some a), EdV k d i] w fun e w' => e = .returned (.int .i64 (undoE s m k d i)) ∧ Goes (R (u + d.size + s.size)) F w w' a (undoS s m k d i) m (fun _ _ => True)

variable {R : Nat → (Nat → Prop) → World → Addr → ByteArray → Nat → Nat → Nat → Prop} {u : Nat}
theorem HoldsN.keep (B : SaysB R) {w wr w' : World} {a : Addr} {s : ByteArray} {m : Nat} (h : HoldsN (R u) w a s m wr) (hb : Below wr.heap.size wr w') : HoldsN (R u) w a s m w' := by
  obtain ⟨⟨F, p, hh, hr, hp, hF⟩, hb0⟩ := h
  exact ⟨⟨F, p, hh, B.frame F wr w' a _ _ p hh hr ⟨hb.size, fun k hk _ => hb.block k hk⟩, hp, hF⟩, hb0.trans (hb.mono hb0.size)⟩
theorem clamp_three (most : Int) : (most < 0 ∧ clamp most = 0) ∨ (most = ((clamp most : Nat) : Int) ∧ ((clamp most : Nat) : Int) ≤ 65536) ∨ (65536 < most ∧ clamp most = 65536) := by unfold clamp; omega
theorem doV_is (s : ByteArray) (m : Nat) (k n : Int) (t : ByteArray) : ∃ k' d' t', doV s m k n t = EdV k' d' t' := by
  unfold doV
  split
  · exact ⟨_, _, _, rfl⟩
  · exact ⟨_, _, _, rfl⟩

/-- Three cells that hold an edit. -/
def HasE (g : Nat) (k : Int) (d i : ByteArray) (wx : World) : Prop := wx.cell? ⟨g, 0, none⟩ = some (.int .i64 k) ∧ wx.cell? ⟨g, 1, none⟩ = some (.string d) ∧ wx.cell? ⟨g, 2, none⟩ = some (.string i)
theorem HasE.lt {wx : World} {g : Nat} {k : Int} {d i : ByteArray} (h : HasE g k d i wx) : g < wx.heap.size := World.block_lt_of_cell? wx _ h.1
theorem HasE.keep {wx w' : World} {g : Nat} {k : Int} {d i : ByteArray} (h : HasE g k d i wx) (hb : w'.heap[g]? = wx.heap[g]?) : HasE g k d i w' := by
  have hc : ∀ o, w'.cell? ⟨g, o, none⟩ = wx.cell? ⟨g, o, none⟩ := fun o => by unfold World.cell?; simp only [hb]
  exact ⟨(hc 0).trans h.1, (hc 1).trans h.2.1, (hc 2).trans h.2.2⟩
theorem HasE.on {wx w' : World} {g : Nat} {k : Int} {d i : ByteArray} (h : HasE g k d i wx) (hb : Below wx.heap.size wx w') : HasE g k d i w' := h.keep (hb.block g h.lt)
theorem Holds.keepX (B : SaysB R) {X : Nat → Prop} {w wr w' : World} {a : Addr} {s : ByteArray} {m : Nat} (h : Holds (R u) X w a s m AnyP wr) (hb : Below wr.heap.size wr w') : Holds (R u) X w a s m AnyP w' := by
  obtain ⟨⟨F, p, hh, hr, hp, hF⟩, hb0⟩ := h
  exact ⟨⟨F, p, hh, B.frame F wr w' a _ _ p hh hr ⟨hb.size, fun k hk _ => hb.block k hk⟩, hp, hF⟩, hb0.trans (hb.mono hb0.size)⟩
theorem Holds.putX (B : SaysB R) {X : Nat → Prop} {w wr : World} {a : Addr} {s : ByteArray} {m : Nat} (h : Holds (R u) X w a s m AnyP wr) (k : Int) (d i : ByteArray) :
    Holds (R u) (fun j => X j ∨ j = wr.heap.size) w a s m AnyP (wr.alloc (.cells #[.int .i64 k, .string d, .string i] /-t-/23)) := by
  have h2 := Holds.keepX B h ((Below.refl wr.heap.size wr).alloc (Nat.le_refl _) (.cells #[.int .i64 k, .string d, .string i] /-t-/23))
  obtain ⟨⟨F, p, hh, hr, hp, hF⟩, hb0⟩ := h
  refine ⟨⟨F, p, hh, B.frame F wr _ a _ _ p hh hr ⟨by simp, fun k hk _ => ((Below.refl wr.heap.size wr).alloc (Nat.le_refl _) _).block k hk⟩, hp, fun j hj => ⟨(hF j hj).1, ?_⟩⟩, h2.2⟩
  rintro (e | e)
  · exact (hF j hj).2 e
  · have := B.lt F wr a _ _ p hh hr j hj; omega
theorem HasE.new (wr : World) (k : Int) (d i : ByteArray) : HasE wr.heap.size k d i (wr.alloc (.cells #[.int .i64 k, .string d, .string i] /-t-/23)) := (Boxed.new k d i).1
/-- A buffer, and two edits beside it. -/
structure DD (R : (Nat → Prop) → World → Addr → ByteArray → Nat → Nat → Nat → Prop) (w : World) (a : Addr) (T : ByteArray) (M g1 g2 : Nat) (k : Int) (d i : ByteArray) (wx : World) : Prop where
  buf : Holds R (fun j => (False ∨ j = g1) ∨ j = g2) w a T M AnyP wx
  one : HasE g1 k d i wx
  two : HasE g2 k d i wx
theorem DD.on (B : SaysB R) {w wx w' : World} {a : Addr} {T : ByteArray} {M g1 g2 : Nat} {k : Int} {d i : ByteArray} (h : DD (R u) w a T M g1 g2 k d i wx) (hb : Below wx.heap.size wx w') : DD (R u) w a T M g1 g2 k d i w' :=
  ⟨Holds.keepX B h.buf hb, h.one.on hb, h.two.on hb⟩
theorem DD.text (B : SaysB R) {w wx : World} {a : Addr} {T : ByteArray} {M g1 g2 : Nat} {k : Int} {d i : ByteArray} (h : DD (R u) w a T M g1 g2 k d i wx) :
    Calls Try.prog 16 #[.pointer (some a)] wx fun e w' => e = .returned (.string T) ∧ Hid (DD (R u) w a T M g1 g2 k d i w') :=
  (Holds.call (r := fun _ _ => .string T) (Q := fun _ _ _ _ => True) h.buf (by rintro j ((e | e) | e); exact e.elim; exact e ▸ h.one.lt; exact e ▸ h.two.lt) (fun F p hh hr _ => B.text F wx a T M p hh hr)).mono fun _ w' ⟨_, _, _, he, h1, h2⟩ =>
    ⟨he, Lib.hid ⟨h1.out, h.one.keep (h2.out.block g1 h.one.lt (.inl (.inr rfl))), h.two.keep (h2.out.block g2 h.two.lt (.inr rfl))⟩⟩
theorem DD.cells {w wx : World} {a : Addr} {T : ByteArray} {M g1 g2 : Nat} {k : Int} {d i : ByteArray} (h : Hid (DD (R u) w a T M g1 g2 k d i wx)) : (wx.cell? ⟨g1, 0, none⟩ = some (.int .i64 k) ∧ wx.cell? ⟨g1, 1, none⟩ = some (.string d) ∧ wx.cell? ⟨g1, 2, none⟩ = some (.string i)) ∧ (wx.cell? ⟨g2, 0, none⟩ = some (.int .i64 k) ∧ wx.cell? ⟨g2, 1, none⟩ = some (.string d) ∧ wx.cell? ⟨g2, 2, none⟩ = some (.string i)) := ⟨h.out.one, h.out.two⟩

set_option maxRecDepth 100000 in
set_option maxHeartbeats 1000000 in
theorem does_out (S : SaysP) (s t : ByteArray) (most k n : Int) (w : World) (hs : s.size ≤ 281474976710656) (ht : t.size ≤ 281474976710656) (h : 2000 < s.size + t.size) :
    Calls Try.prog 4 #[.string s, .int .i64 most, .int .i64 k, .int .i64 n, .string t] w fun e w' => e = .returned (.bool true) ∧ Below w.heap.size w w' := by
  have W7 := Lib.hid (awake_any S)
  have a1 : (2000 : Int) < (s.size : Int) + t.size := by omega
  have a2 : (s.size : Int) ≤ 281474976710656 := by omega
  have a3 : (t.size : Int) ≤ 281474976710656 := by omega
  clear S hs ht h
  go_enter Try.func4, Try.ntmps4
  go_wp2_with fail
  refine (W7.out _).mono ?_
  rintro e w7 ⟨rfl, hb7⟩
  have HB7 := Lib.hid hb7
  clear hb7
  go_wp2_with fail
  go_ret
  exact ⟨rfl, HB7.out⟩

set_option maxRecDepth 100000 in
set_option maxHeartbeats 2000000 in
theorem does_big (S : SaysP) (B : SaysB R) (s t : ByteArray) (most k n : Int) (w : World) (h : s.size + t.size ≤ 2000) (hc : clamp most < s.size) (b1 : -9223372036854775808 ≤ most) (b2 : most ≤ 9223372036854775807) :
    Calls Try.prog 4 #[.string s, .int .i64 most, .int .i64 k, .int .i64 n, .string t] w fun e w' => e = .returned (.bool true) ∧ Below w.heap.size w w' := by
  have W7 := Lib.hid (awake_any S)
  have C1 := Lib.hid (B.big w s most hc (by omega) b1 b2)
  have hm := clamp_three most
  have a1 : (s.size : Int) + t.size ≤ 2000 := by omega
  have a2 : ((clamp most : Nat) : Int) < s.size := by omega
  have a3 : (0 : Int) ≤ t.size := by omega
  clear S B h hc b1 b2
  generalize (clamp most) = M at *
  rcases hm with ⟨h0, rfl⟩ | ⟨rfl, h0⟩ | ⟨h0, rfl⟩
  case inr.inr => omega
  all_goals
    go_enter Try.func4, Try.ntmps4
    go_wp2_with fail
    refine C1.out.mono ?_
    rintro e w1 ⟨rfl, ho1⟩
    have HB1 := Lib.hid (OnlyAt.below (Below.refl w.heap.size w) ho1 (Nat.le_refl _) (fun _ h => h.elim))
    clear ho1
    go_wp2_with fail
    refine (W7.out _).mono ?_
    rintro e w7 ⟨rfl, hb7⟩
    have HB7 := Lib.hid (HB1.out.trans (hb7.mono HB1.out.size))
    clear hb7
    go_wp2_with fail
    go_ret
    exact ⟨rfl, HB7.out⟩

set_option maxRecDepth 100000 in
set_option maxHeartbeats 4000000 in
theorem does_in (S : SaysP) (B : SaysB R) (s t : ByteArray) (most k n : Int) (w : World) (h : s.size + t.size ≤ 2000) (hc : s.size ≤ clamp most) (b1 : -9223372036854775808 ≤ most) (b2 : most ≤ 9223372036854775807) (k1 : -9223372036854775808 ≤ k) (k2 : k ≤ 9223372036854775807) (n1 : -9223372036854775808 ≤ n) (n2 : n ≤ 9223372036854775807) :
    Calls Try.prog 4 #[.string s, .int .i64 most, .int .i64 k, .int .i64 n, .string t] w fun e w' => e = .returned (.bool true) ∧ Below w.heap.size w w' := by
  have hcm : clamp most ≤ 65536 := by unfold clamp; omega
  have C1 := Lib.hid (B.new w s most hc b1 b2)
  have hm := clamp_three most
  have a1 : (s.size : Int) + t.size ≤ 2000 := by omega
  have a2 : (s.size : Int) ≤ ((clamp most : Nat) : Int) := by omega
  have a3 : (0 : Int) ≤ t.size := by omega
  obtain ⟨M, hM⟩ : ∃ M, M = clamp most := ⟨_, rfl⟩
  rw [← hM] at C1 hm a2 hcm
  obtain ⟨k', d', t', hv⟩ := doV_is s M k n t
  have C2 := Lib.hid (show ∀ wx a, HoldsN (R 0) w a s M wx → Calls Try.prog 14 #[.pointer (some a), .int .i64 k, .int .i64 n, .string t] wx fun e w' => e = .returned (.tuple #[EdV k' d' t', .int .i64 (doE s M k n t)]) ∧ Hid (HoldsN (R (0 + t.size + s.size)) w a (doS s M k n t) M w') from fun wx a hx => by
    have := hx.call (Q := fun _ _ _ _ => True) (fun F p hh hr => B.do_ F wx a s M p hh k n t hr (by omega) k1 k2 n1 n2)
    rwa [hv] at this)
  have C3 := Lib.hid (fun wx => ref_do wx s t M k n (by omega) (by omega) hcm)
  rw [hv] at C3
  have C4 := Lib.hid (fun wx a g1 g2 (hx : Hid (DD (R (0 + t.size + s.size)) w a (doS s M k n t) M g1 g2 k' d' t' wx)) => (ref_same wx k' k' d' d' t' t').mono fun e w' h => show e = .returned (.bool true) ∧ Hid (DD (R (0 + t.size + s.size)) w a (doS s M k n t) M g1 g2 k' d' t' w') from ⟨by rw [h.1, decide_eq_true ⟨rfl, rfl, rfl⟩], Lib.hid (hx.out.on B h.2)⟩)
  have W7 := Lib.hid (fun wx a g1 g2 (hx : Hid (DD (R (0 + t.size + s.size)) w a (doS s M k n t) M g1 g2 k' d' t' wx)) => (awake_any S wx).mono fun e w' h => show e = .returned (.bool true) ∧ Hid (DD (R (0 + t.size + s.size)) w a (doS s M k n t) M g1 g2 k' d' t' w') from ⟨h.1, Lib.hid (hx.out.on B h.2)⟩)
  have C5 := Lib.hid (fun wx a g1 g2 (hx : Hid (DD (R (0 + t.size + s.size)) w a (doS s M k n t) M g1 g2 k' d' t' wx)) => hx.out.text B)
  have hl := list_eq (doS s M k n t) (doS s M k n t)
  rw [decide_eq_true rfl] at hl
  have HK := Lib.hid B
  simp only [EdV] at C2 C3 C4
  generalize doS s M k n t = T at *
  generalize doE s M k n t = E at *
  clear S B h hc b1 b2 k1 k2 n1 n2 hM hv hcm
  rcases hm with ⟨h0, rfl⟩ | ⟨rfl, h0⟩ | ⟨h0, rfl⟩
  all_goals
    go_enter Try.func4, Try.ntmps4
    go_wp2_with fail
    refine C1.out.mono ?_
    rintro e w1 ⟨a, F, p, h, rfl, hr1, ho1, hf1⟩
    have H1 := Lib.hid (Holds.new (X := fun _ => False) (Below.refl w.heap.size w) hr1 ho1 hf1 (fun _ h => h.elim))
    clear hr1 ho1 hf1
    go_wp2_with fail
    refine (C2.out _ _ H1.out).mono ?_
    rintro e w2 ⟨rfl, H2⟩
    go_wp2_with fail
    refine (C3.out _).mono ?_
    rintro e w3 ⟨rfl, hb3⟩
    have H3 := Lib.hid (And.intro (Holds.keepX HK.out (H2.out.putX HK.out k' d' t') hb3) ((HasE.new w2 k' d' t').on hb3))
    clear hb3
    have H4 := Lib.hid (show DD (R (0 + t.size + s.size)) w a T _ w2.heap.size w3.heap.size k' d' t' (w3.alloc (.cells #[.int .i64 k', .string d', .string t'] /-t-/23)) from ⟨H3.out.1.putX HK.out k' d' t', H3.out.2.on ((Below.refl w3.heap.size w3).alloc (Nat.le_refl _) _), HasE.new w3 k' d' t'⟩)
    obtain ⟨⟨c0, c1, c2⟩, c3, c4, c5⟩ := DD.cells H4
    clear H1 H2 H3
    go_wp2_with fail
    clear c0 c1 c2 c3 c4 c5
    refine (C4.out _ _ _ _ H4).mono ?_
    rintro e w4 ⟨rfl, H5⟩
    clear H4
    go_wp2_with fail
    refine (C5.out _ _ _ _ H5).mono ?_
    rintro e w5 ⟨rfl, H6⟩
    clear H5
    go_wp2_with fail
    refine (W7.out _ _ _ _ H6).mono ?_
    rintro e w6 ⟨rfl, H7⟩
    clear H6
    go_wp2_with fail
    go_ret
    exact ⟨rfl, H7.out.buf.2⟩

theorem does_law (S : SaysP) (B : SaysB R) (s t : ByteArray) (most k n : Int) (w : World) (hs : s.size ≤ 281474976710656) (ht : t.size ≤ 281474976710656) (b1 : -9223372036854775808 ≤ most) (b2 : most ≤ 9223372036854775807) (k1 : -9223372036854775808 ≤ k) (k2 : k ≤ 9223372036854775807) (n1 : -9223372036854775808 ≤ n) (n2 : n ≤ 9223372036854775807) :
    Calls Try.prog 4 #[.string s, .int .i64 most, .int .i64 k, .int .i64 n, .string t] w fun e w' => e = .returned (.bool true) ∧ Below w.heap.size w w' := by
  rcases Nat.lt_or_ge 2000 (s.size + t.size) with h | h
  · exact does_out S s t most k n w hs ht h
  rcases Nat.lt_or_ge (clamp most) s.size with hc | hc
  · exact does_big S B s t most k n w h hc b1 b2
  · exact does_in S B s t most k n w h hc b1 b2 k1 k2 n1 n2
end Go.Proofs.Ytfdnlbeancdajaa
