/- Stage 6's laws out of what is asked of a buffer's calls. -/
import Derived.Test.YtjpomfjcofjanaaProg
import Derived.Test.YtjpomfjcofjanaaSGives
import Derived.Test.YtjpomfjcofjanaaAPlain
import Derived.Lib.Hide
import Derived.Lib.MapLaws
import Derived.WalkKit
import Derived.WalkSpells
import Derived.WalkLawsBesides
import Derived.IntWalk
import Derived.BigQuiet
import Derived.Deep.QuietTactic
import Derived.Below
import Derived.Outline
import Derived.WalkMore
namespace Go.Proofs.Ytjpomfjcofjanaa
open Go Go.RowKit

/-! ### A flat text, plain -/
def clamp (most : Int) : Nat := (min (max most 0) 65536).toNat
def insE (s : ByteArray) (m : Nat) (at_ : Int) (t : ByteArray) : Int := if at_ < 0 ∨ (s.size : Int) < at_ then 2 else if m < s.size + t.size then 3 else 0
def insT (s : ByteArray) (k : Nat) (t : ByteArray) : ByteArray := s.extract 0 k ++ t ++ s.extract k s.size
def insS (s : ByteArray) (m : Nat) (at_ : Int) (t : ByteArray) : ByteArray := if insE s m at_ t = 0 then insT s at_.toNat t else s
def isIn (s : ByteArray) (at_ n : Int) : Prop := 0 ≤ at_ ∧ 0 ≤ n ∧ at_ ≤ s.size ∧ n ≤ s.size - at_
instance (s : ByteArray) (at_ n : Int) : Decidable (isIn s at_ n) := inferInstanceAs (Decidable (_ ∧ _))
def delE (s : ByteArray) (at_ n : Int) : Int := if isIn s at_ n then 0 else 2
def delT (s : ByteArray) (k n : Nat) : ByteArray := s.extract 0 k ++ s.extract (k + n) s.size
def delS (s : ByteArray) (at_ n : Int) : ByteArray := if isIn s at_ n then delT s at_.toNat n.toNat else s
def cutS (s : ByteArray) (at_ n : Int) : ByteArray := if isIn s at_ n then s.extract at_.toNat (at_.toNat + n.toNat) else ⟨#[]⟩
def byteE (s : ByteArray) (at_ : Int) : Int := if 0 ≤ at_ ∧ at_ < s.size then 0 else 2
def byteV (s : ByteArray) (at_ : Int) : Int := if 0 ≤ at_ ∧ at_ < s.size then (s.get! at_.toNat).toNat else 0
theorem insT_size (s t : ByteArray) (k : Nat) (h : k ≤ s.size) : (insT s k t).size = s.size + t.size := by
  simp only [insT, ByteArray.size_append, ByteArray.size_extract]; omega
theorem delT_size (s : ByteArray) (k n : Nat) (h : k + n ≤ s.size) : (delT s k n).size = s.size - n := by
  simp only [delT, ByteArray.size_append, ByteArray.size_extract]; omega
theorem insS_size (s t : ByteArray) (m : Nat) (a : Int) (hm : s.size ≤ m) : (insS s m a t).size ≤ m := by
  unfold insS
  split
  · rename_i h
    unfold insE at h
    split at h
    · omega
    · split at h
      · omega
      · rw [insT_size _ _ _ (by omega)]; omega
  · exact hm
theorem delS_size (s : ByteArray) (a n : Int) : (delS s a n).size ≤ s.size := by
  unfold delS
  split
  · rename_i h
    obtain ⟨h1, h2, h3, h4⟩ := h
    rw [delT_size _ _ _ (by omega)]; omega
  · exact Nat.le_refl _

/-- What is behind a call: a buffer of the text s still (or now), in blocks that were its own, or are new. -/
def Goes (Rep : (Nat → Prop) → World → Addr → ByteArray → Nat → Nat → Nat → Prop) (F : Nat → Prop) (w w' : World) (a : Addr) (s : ByteArray) (m : Nat) (P : Nat → Nat → Prop) : Prop :=
  ∃ F' p h, Rep F' w' a s m p h ∧ P p h ∧ OnlyAt F w w' ∧ ∀ k, F' k → F k ∨ w.heap.size ≤ k
/-- How many bytes were put, behind an Insert. -/
def bump (u : Nat) (s : ByteArray) (m : Nat) (k : Int) (t : ByteArray) : Nat := if insE s m k t = 0 then u + t.size else u
theorem bump_le (u : Nat) (s : ByteArray) (m : Nat) (k : Int) (t : ByteArray) : bump u s m k t ≤ u + t.size := by
  unfold bump; split <;> omega
/-- What is asked of a buffer's calls. R u F w a s m p h: at a, in the blocks F, lies a buffer of the text s, of at most m bytes, in p pieces, of height h; u: how many bytes were put into it, no more than a million (an array that is never cut has no more room than the machine). -/
structure Says (R : Nat → (Nat → Prop) → World → Addr → ByteArray → Nat → Nat → Nat → Prop) : Prop where
  new : ∀ w (s : ByteArray) (most : Int), s.size ≤ clamp most → -9223372036854775808 ≤ most → most ≤ 9223372036854775807 →
    Calls Try.prog 8 #[.string s, .int .i64 most] w fun e w' => ∃ a F p h, e = .returned (.tuple #[.pointer (some a), .int .i64 0]) ∧ R 0 F w' a s (clamp most) p h ∧ OnlyAt (fun _ => False) w w' ∧ ∀ k, F k → w.heap.size ≤ k
  big : ∀ w (s : ByteArray) (most : Int), clamp most < s.size → s.size ≤ 1000000 → -9223372036854775808 ≤ most → most ≤ 9223372036854775807 →
    Calls Try.prog 8 #[.string s, .int .i64 most] w fun e w' => e = .returned (.tuple #[.pointer none, .int .i64 3]) ∧ OnlyAt (fun _ => False) w w'
  insert : ∀ {u : Nat} F w a s m p h (k : Int) (t : ByteArray), R u F w a s m p h → u + t.size ≤ 1000000 → -9223372036854775808 ≤ k → k ≤ 9223372036854775807 →
    Calls Try.prog 13 #[.pointer (some a), .int .i64 k, .string t] w fun e w' => e = .returned (.int .i64 (insE s m k t)) ∧ Goes (R (bump u s m k t)) F w w' a (insS s m k t) m (fun p' _ => p' ≤ p + 2)
  delete : ∀ {u : Nat} F w a s m p h (k n : Int), R u F w a s m p h → -9223372036854775808 ≤ k → k ≤ 9223372036854775807 → -9223372036854775808 ≤ n → n ≤ 9223372036854775807 →
    Calls Try.prog 15 #[.pointer (some a), .int .i64 k, .int .i64 n] w fun e w' => e = .returned (.int .i64 (delE s k n)) ∧ Goes (R u) F w w' a (delS s k n) m (fun p' _ => p' ≤ p + 1)
  slice : ∀ {u : Nat} F w a s m p h (k n : Int), R u F w a s m p h → -9223372036854775808 ≤ k → k ≤ 9223372036854775807 → -9223372036854775808 ≤ n → n ≤ 9223372036854775807 →
    Calls Try.prog 17 #[.pointer (some a), .int .i64 k, .int .i64 n] w fun e w' => e = .returned (.tuple #[.string (cutS s k n), .int .i64 (delE s k n)]) ∧ Goes (R u) F w w' a s m (fun p' h' => p' = p ∧ h' = h)
  byte : ∀ {u : Nat} F w a s m p h (k : Int), R u F w a s m p h → -9223372036854775808 ≤ k → k ≤ 9223372036854775807 →
    Calls Try.prog 26 #[.pointer (some a), .int .i64 k] w fun e w' => e = .returned (.tuple #[.int .u8 (byteV s k), .int .i64 (byteE s k)]) ∧ Goes (R u) F w w' a s m (fun p' h' => p' = p ∧ h' = h)
  text : ∀ {u : Nat} F w a s m p h, R u F w a s m p h →
    Calls Try.prog 14 #[.pointer (some a)] w fun e w' => e = .returned (.string s) ∧ Goes (R u) F w w' a s m (fun p' h' => p' = p ∧ h' = h)
  len : ∀ {u : Nat} F w a s m p h, R u F w a s m p h →
    Calls Try.prog 16 #[.pointer (some a)] w fun e w' => e = .returned (.int .i64 s.size) ∧ Goes (R u) F w w' a s m (fun p' h' => p' = p ∧ h' = h)
  pieces : ∀ {u : Nat} F w a s m p h, R u F w a s m p h →
    Calls Try.prog 22 #[.pointer (some a)] w fun e w' => e = .returned (.int .i64 p) ∧ Goes (R u) F w w' a s m (fun p' h' => p' = p ∧ h' = h)
  height : ∀ {u : Nat} F w a s m p h, R u F w a s m p h →
    Calls Try.prog 28 #[.pointer (some a)] w fun e w' => e = .returned (.int .i64 h) ∧ Goes (R u) F w w' a s m (fun p' h' => p' = p ∧ h' = h)
  inv : ∀ {u : Nat} F w a s m p h, R u F w a s m p h → s.size ≤ m ∧ m ≤ 65536 ∧ least h ≤ p ∧ p ≤ s.size ∧ (p = 0 ↔ s.size = 0) ∧ h ≤ 1000
  lt : ∀ {u : Nat} F w a s m p h, R u F w a s m p h → ∀ k, F k → k < w.heap.size
  frame : ∀ {u : Nat} F w w' a s m p h, R u F w a s m p h → KeepsAt F w w' → R u F w' a s m p h

variable {Rep Rep' : (Nat → Prop) → World → Addr → ByteArray → Nat → Nat → Nat → Prop} {R : Nat → (Nat → Prop) → World → Addr → ByteArray → Nat → Nat → Nat → Prop} {u : Nat}

/-- Between two calls: a buffer of just this text, in blocks of the law's own; X: blocks beside it. -/
def Holds (Rep : (Nat → Prop) → World → Addr → ByteArray → Nat → Nat → Nat → Prop) (X : Nat → Prop) (w : World) (a : Addr) (s : ByteArray) (m : Nat) (P : Nat → Nat → Prop) (wr : World) : Prop :=
  (∃ F p h, Rep F wr a s m p h ∧ P p h ∧ ∀ k, F k → w.heap.size ≤ k ∧ ¬ X k) ∧ Below w.heap.size w wr
abbrev AnyP : Nat → Nat → Prop := fun _ _ => True
theorem Holds.new {X : Nat → Prop} {w w0 w1 : World} {a : Addr} {s : ByteArray} {m p h : Nat} {F : Nat → Prop} (hb : Below w.heap.size w w0) (h1 : Rep F w1 a s m p h) (h2 : OnlyAt (fun _ => False) w0 w1) (h3 : ∀ k, F k → w0.heap.size ≤ k) (hX : ∀ k, X k → k < w0.heap.size) : Holds Rep X w a s m AnyP w1 :=
  ⟨⟨F, p, h, h1, trivial, fun k hk => ⟨Nat.le_trans hb.size (h3 k hk), fun hx => by have := h3 k hk; have := hX k hx; omega⟩⟩, OnlyAt.below hb h2 hb.size (fun _ h => h.elim)⟩
/-- Blocks of X lie as they lay: T says what is known of them. -/
theorem Holds.on {X : Nat → Prop} {w wr w' : World} {a : Addr} {s : ByteArray} {m : Nat} {P : Nat → Nat → Prop} {F : Nat → Prop} (hb : Below w.heap.size w wr) (hF : ∀ k, F k → w.heap.size ≤ k ∧ ¬ X k) (hX : ∀ k, X k → k < wr.heap.size) (hg : Goes Rep' F wr w' a s m P) :
    Holds Rep' X w a s m P w' ∧ KeepsAt X wr w' := by
  obtain ⟨F', p, h, h1, hp, h2, h3⟩ := hg
  refine ⟨⟨⟨F', p, h, h1, hp, fun k hk => ?_⟩, OnlyAt.below hb h2 hb.size (fun k hk => (hF k hk).1)⟩, KeepsAt.of_only h2 (fun k hx hk => (hF k hk).2 hx)⟩
  rcases h3 k hk with e | e
  · exact hF k e
  · exact ⟨Nat.le_trans hb.size e, fun hx => by have := hX k hx; omega⟩
/-- A call, lifted to what holds between two. -/
theorem Holds.call {X : Nat → Prop} {w wr : World} {a : Addr} {s s' : ByteArray} {m f : Nat} {args : Array Value} {r : Nat → Nat → Value} {P : Nat → Nat → Prop} {Q : Nat → Nat → Nat → Nat → Prop} (h : Holds Rep X w a s m P wr) (hX : ∀ k, X k → k < wr.heap.size)
    (hc : ∀ F p h, Rep F wr a s m p h → P p h → Calls Try.prog f args wr fun e w' => e = .returned (r p h) ∧ Goes Rep' F wr w' a s' m (Q p h)) :
    Calls Try.prog f args wr fun e w' => ∃ p h, P p h ∧ e = .returned (r p h) ∧ Hid (Holds Rep' X w a s' m (Q p h) w') ∧ Hid (KeepsAt X wr w') := by
  obtain ⟨⟨F, p, hh, hr, hp, hF⟩, hb⟩ := h
  exact (hc F p hh hr hp).mono fun _ _ ⟨he, hg⟩ => ⟨p, hh, hp, he, Lib.hid (Holds.on hb hF hX hg).1, Lib.hid (Holds.on hb hF hX hg).2⟩
/-- With nothing beside it. -/
abbrev HoldsN (Rep : (Nat → Prop) → World → Addr → ByteArray → Nat → Nat → Nat → Prop) (w : World) (a : Addr) (s : ByteArray) (m : Nat) (wr : World) : Prop := Holds Rep (fun _ => False) w a s m AnyP wr
theorem HoldsN.call {w wr : World} {a : Addr} {s s' : ByteArray} {m f : Nat} {args : Array Value} {r : Value} {Q : Nat → Nat → Nat → Nat → Prop} (h : HoldsN Rep w a s m wr)
    (hc : ∀ F p h, Rep F wr a s m p h → Calls Try.prog f args wr fun e w' => e = .returned r ∧ Goes Rep' F wr w' a s' m (Q p h)) :
    Calls Try.prog f args wr fun e w' => e = .returned r ∧ Hid (HoldsN Rep' w a s' m w') :=
  (Holds.call (r := fun _ _ => r) h (fun _ h => h.elim) (fun F p h hr _ => hc F p h hr)).mono fun _ _ ⟨_, _, _, he, h1, _⟩ => ⟨he, Lib.hid ⟨by obtain ⟨⟨F, p, h, a, b, c⟩, _⟩ := h1.out; exact ⟨F, p, h, a, trivial, c⟩, h1.out.2⟩⟩
theorem HoldsN.insert (S : Says R) {w wr : World} {a : Addr} {s : ByteArray} {m : Nat} (h : HoldsN (R u) w a s m wr) (k : Int) (t : ByteArray) (ht : u + t.size ≤ 1000000) (h1 : -9223372036854775808 ≤ k) (h2 : k ≤ 9223372036854775807) :
    Calls Try.prog 13 #[.pointer (some a), .int .i64 k, .string t] wr fun e w' => e = .returned (.int .i64 (insE s m k t)) ∧ Hid (HoldsN (R (bump u s m k t)) w a (insS s m k t) m w') :=
  h.call (Q := fun p _ p' _ => p' ≤ p + 2) fun F p h hr => S.insert F wr a s m p h k t hr ht h1 h2
theorem HoldsN.delete (S : Says R) {w wr : World} {a : Addr} {s : ByteArray} {m : Nat} (h : HoldsN (R u) w a s m wr) (k n : Int) (h1 : -9223372036854775808 ≤ k) (h2 : k ≤ 9223372036854775807) (h3 : -9223372036854775808 ≤ n) (h4 : n ≤ 9223372036854775807) :
    Calls Try.prog 15 #[.pointer (some a), .int .i64 k, .int .i64 n] wr fun e w' => e = .returned (.int .i64 (delE s k n)) ∧ Hid (HoldsN (R u) w a (delS s k n) m w') :=
  h.call (Q := fun p _ p' _ => p' ≤ p + 1) fun F p h hr => S.delete F wr a s m p h k n hr h1 h2 h3 h4
theorem HoldsN.slice (S : Says R) {w wr : World} {a : Addr} {s : ByteArray} {m : Nat} (h : HoldsN (R u) w a s m wr) (k n : Int) (h1 : -9223372036854775808 ≤ k) (h2 : k ≤ 9223372036854775807) (h3 : -9223372036854775808 ≤ n) (h4 : n ≤ 9223372036854775807) :
    Calls Try.prog 17 #[.pointer (some a), .int .i64 k, .int .i64 n] wr fun e w' => e = .returned (.tuple #[.string (cutS s k n), .int .i64 (delE s k n)]) ∧ Hid (HoldsN (R u) w a s m w') :=
  h.call (Q := fun p h p' h' => p' = p ∧ h' = h) fun F p h hr => S.slice F wr a s m p h k n hr h1 h2 h3 h4
theorem HoldsN.text (S : Says R) {w wr : World} {a : Addr} {s : ByteArray} {m : Nat} (h : HoldsN (R u) w a s m wr) :
    Calls Try.prog 14 #[.pointer (some a)] wr fun e w' => e = .returned (.string s) ∧ Hid (HoldsN (R u) w a s m w') :=
  h.call (Q := fun p h p' h' => p' = p ∧ h' = h) fun F p h hr => S.text F wr a s m p h hr
theorem HoldsN.len (S : Says R) {w wr : World} {a : Addr} {s : ByteArray} {m : Nat} (h : HoldsN (R u) w a s m wr) :
    Calls Try.prog 16 #[.pointer (some a)] wr fun e w' => e = .returned (.int .i64 s.size) ∧ Hid (HoldsN (R u) w a s m w') :=
  h.call (Q := fun p h p' h' => p' = p ∧ h' = h) fun F p h hr => S.len F wr a s m p h hr

theorem ex1 : insE ⟨#[97, 98]⟩ 9 1 ⟨#[120]⟩ = 0 := by decide
theorem ex3 : bump 0 ⟨#[97, 98]⟩ 9 1 ⟨#[120]⟩ = 1 := by decide
theorem ex2 : insS ⟨#[97, 98]⟩ 9 1 ⟨#[120]⟩ = ⟨#[97, 120, 98]⟩ := by decide

set_option maxHeartbeats 1000000 in
theorem awake_any (S : Says R) (w : World) : Calls Try.prog 7 #[] w fun e w' => e = .returned (.bool true) ∧ Below w.heap.size w w' := by
  have C1 := Lib.hid (S.new w ⟨#[97, 98]⟩ 9 (by decide) (by omega) (by omega))
  have C2 := Lib.hid (show ∀ wx a, HoldsN (R 0) w a ⟨#[97, 98]⟩ 9 wx → Calls Try.prog 13 #[.pointer (some a), .int .i64 1, .string ⟨#[120]⟩] wx fun e w' => e = .returned (.int .i64 0) ∧ Hid (HoldsN (R 1) w a ⟨#[97, 120, 98]⟩ 9 w') from fun wx a h => by
    have := HoldsN.insert S h 1 ⟨#[120]⟩ (by decide) (by omega) (by omega)
    rwa [ex1, ex2, ex3] at this)
  have C3 := Lib.hid (show ∀ wx a, HoldsN (R 1) w a ⟨#[97, 120, 98]⟩ 9 wx → Calls Try.prog 8 #[.string ⟨#[97, 98]⟩, .int .i64 1] wx fun e w' => e = .returned (.tuple #[.pointer none, .int .i64 3]) ∧ Hid (HoldsN (R 1) w a ⟨#[97, 120, 98]⟩ 9 w') from fun wx a h =>
    (S.big wx ⟨#[97, 98]⟩ 1 (by decide) (by decide) (by omega) (by omega)).mono fun e w' ⟨he, ho⟩ => by
      obtain ⟨⟨F, p, hh, hr, hp, hF⟩, hb⟩ := h
      exact ⟨he, Lib.hid ⟨⟨F, p, hh, S.frame F wx w' a _ _ p hh hr (KeepsAt.of_only ho (fun _ _ h => h)), hp, hF⟩, OnlyAt.below hb ho hb.size (fun _ h => h.elim)⟩⟩)
  have C4 := Lib.hid (show ∀ wx a, HoldsN (R 1) w a ⟨#[97, 120, 98]⟩ 9 wx → Calls Try.prog 14 #[.pointer (some a)] wx fun e w' => e = .returned (.string ⟨#[97, 120, 98]⟩) ∧ Hid (HoldsN (R 1) w a ⟨#[97, 120, 98]⟩ 9 w') from fun wx a h => HoldsN.text S h)
  have C5 := Lib.hid (show ∀ wx a, HoldsN (R 1) w a ⟨#[97, 120, 98]⟩ 9 wx → Calls Try.prog 16 #[.pointer (some a)] wx fun e w' => e = .returned (.int .i64 3) ∧ Hid (HoldsN (R 1) w a ⟨#[97, 120, 98]⟩ 9 w') from fun wx a h => HoldsN.len S h)
  clear S
  go_enter Try.func7, Try.ntmps7
  go_wp2_with fail
  refine C1.out.mono ?_
  rintro e w1 ⟨a, F, p, h, rfl, hr1, ho1, hf1⟩
  have H1 := Lib.hid (Holds.new (X := fun _ => False) (Below.refl w.heap.size w) hr1 ho1 hf1 (fun _ h => h.elim))
  clear hr1 ho1 hf1
  go_wp2_with fail
  refine (C2.out _ _ H1.out).mono ?_
  rintro e w2 ⟨rfl, H2⟩
  go_wp2_with fail
  refine (C3.out _ _ H2.out).mono ?_
  rintro e w3 ⟨rfl, H3⟩
  go_wp2_with fail
  refine (C4.out _ _ H3.out).mono ?_
  rintro e w4 ⟨rfl, H4⟩
  go_wp2_with fail
  refine (C5.out _ _ H4.out).mono ?_
  rintro e w5 ⟨rfl, H5⟩
  go_wp2_with fail
  go_ret
  exact ⟨rfl, H5.out.2⟩
end Go.Proofs.Ytjpomfjcofjanaa
