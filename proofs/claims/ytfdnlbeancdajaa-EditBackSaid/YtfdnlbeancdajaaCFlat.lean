/- A flat text, plain; what stands between two calls of an object that lies in blocks of its own. (Out of CLaws: for stages whose cut lacks law 6.) -/
import Derived.Test.YtfdnlbeancdajaaProg
import Derived.Test.YtfdnlbeancdajaaSGives
import Derived.Test.YtfdnlbeancdajaaAPlain
import Derived.Lib.Hide
import Derived.Lib.MapLaws
import Derived.WalkKit
import Derived.WalkSpells
import Derived.WalkLawsBesides
import Derived.IntWalk
import Derived.BigQuiet
import Derived.Deep.QuietTactic
import Derived.Below
import Derived.Outline
import Derived.WalkMore
namespace Go.Proofs.Ytfdnlbeancdajaa
open Go Go.RowKit

/-! ### A flat text, plain -/
def clamp (most : Int) : Nat := (min (max most 0) 65536).toNat
def insE (s : ByteArray) (m : Nat) (at_ : Int) (t : ByteArray) : Int := if at_ < 0 ∨ (s.size : Int) < at_ then 2 else if m < s.size + t.size then 3 else 0
def insT (s : ByteArray) (k : Nat) (t : ByteArray) : ByteArray := s.extract 0 k ++ t ++ s.extract k s.size
def insS (s : ByteArray) (m : Nat) (at_ : Int) (t : ByteArray) : ByteArray := if insE s m at_ t = 0 then insT s at_.toNat t else s
def isIn (s : ByteArray) (at_ n : Int) : Prop := 0 ≤ at_ ∧ 0 ≤ n ∧ at_ ≤ s.size ∧ n ≤ s.size - at_
instance (s : ByteArray) (at_ n : Int) : Decidable (isIn s at_ n) := inferInstanceAs (Decidable (_ ∧ _))
def delE (s : ByteArray) (at_ n : Int) : Int := if isIn s at_ n then 0 else 2
def delT (s : ByteArray) (k n : Nat) : ByteArray := s.extract 0 k ++ s.extract (k + n) s.size
def delS (s : ByteArray) (at_ n : Int) : ByteArray := if isIn s at_ n then delT s at_.toNat n.toNat else s
def cutS (s : ByteArray) (at_ n : Int) : ByteArray := if isIn s at_ n then s.extract at_.toNat (at_.toNat + n.toNat) else ⟨#[]⟩
def byteE (s : ByteArray) (at_ : Int) : Int := if 0 ≤ at_ ∧ at_ < s.size then 0 else 2
def byteV (s : ByteArray) (at_ : Int) : Int := if 0 ≤ at_ ∧ at_ < s.size then (s.get! at_.toNat).toNat else 0
theorem insT_size (s t : ByteArray) (k : Nat) (h : k ≤ s.size) : (insT s k t).size = s.size + t.size := by
  simp only [insT, ByteArray.size_append, ByteArray.size_extract]; omega
theorem delT_size (s : ByteArray) (k n : Nat) (h : k + n ≤ s.size) : (delT s k n).size = s.size - n := by
  simp only [delT, ByteArray.size_append, ByteArray.size_extract]; omega
theorem insS_size (s t : ByteArray) (m : Nat) (a : Int) (hm : s.size ≤ m) : (insS s m a t).size ≤ m := by
  unfold insS
  split
  · rename_i h
    unfold insE at h
    split at h
    · omega
    · split at h
      · omega
      · rw [insT_size _ _ _ (by omega)]; omega
  · exact hm
theorem delS_size (s : ByteArray) (a n : Int) : (delS s a n).size ≤ s.size := by
  unfold delS
  split
  · rename_i h
    obtain ⟨h1, h2, h3, h4⟩ := h
    rw [delT_size _ _ _ (by omega)]; omega
  · exact Nat.le_refl _

/-- What is behind a call: a buffer of the text s still (or now), in blocks that were its own, or are new. -/
def Goes (Rep : (Nat → Prop) → World → Addr → ByteArray → Nat → Nat → Nat → Prop) (F : Nat → Prop) (w w' : World) (a : Addr) (s : ByteArray) (m : Nat) (P : Nat → Nat → Prop) : Prop :=
  ∃ F' p h, Rep F' w' a s m p h ∧ P p h ∧ OnlyAt F w w' ∧ ∀ k, F' k → F k ∨ w.heap.size ≤ k
/-- How many bytes were put, behind an Insert. -/
def bump (u : Nat) (s : ByteArray) (m : Nat) (k : Int) (t : ByteArray) : Nat := if insE s m k t = 0 then u + t.size else u
theorem bump_le (u : Nat) (s : ByteArray) (m : Nat) (k : Int) (t : ByteArray) : bump u s m k t ≤ u + t.size := by
  unfold bump; split <;> omega
variable {Rep Rep' : (Nat → Prop) → World → Addr → ByteArray → Nat → Nat → Nat → Prop}

/-- Between two calls: a buffer of just this text, in blocks of the law's own; X: blocks beside it. -/
def Holds (Rep : (Nat → Prop) → World → Addr → ByteArray → Nat → Nat → Nat → Prop) (X : Nat → Prop) (w : World) (a : Addr) (s : ByteArray) (m : Nat) (P : Nat → Nat → Prop) (wr : World) : Prop :=
  (∃ F p h, Rep F wr a s m p h ∧ P p h ∧ ∀ k, F k → w.heap.size ≤ k ∧ ¬ X k) ∧ Below w.heap.size w wr
abbrev AnyP : Nat → Nat → Prop := fun _ _ => True
theorem Holds.new {X : Nat → Prop} {w w0 w1 : World} {a : Addr} {s : ByteArray} {m p h : Nat} {F : Nat → Prop} (hb : Below w.heap.size w w0) (h1 : Rep F w1 a s m p h) (h2 : OnlyAt (fun _ => False) w0 w1) (h3 : ∀ k, F k → w0.heap.size ≤ k) (hX : ∀ k, X k → k < w0.heap.size) : Holds Rep X w a s m AnyP w1 :=
  ⟨⟨F, p, h, h1, trivial, fun k hk => ⟨Nat.le_trans hb.size (h3 k hk), fun hx => by have := h3 k hk; have := hX k hx; omega⟩⟩, OnlyAt.below hb h2 hb.size (fun _ h => h.elim)⟩
/-- Blocks of X lie as they lay: T says what is known of them. -/
theorem Holds.on {X : Nat → Prop} {w wr w' : World} {a : Addr} {s : ByteArray} {m : Nat} {P : Nat → Nat → Prop} {F : Nat → Prop} (hb : Below w.heap.size w wr) (hF : ∀ k, F k → w.heap.size ≤ k ∧ ¬ X k) (hX : ∀ k, X k → k < wr.heap.size) (hg : Goes Rep' F wr w' a s m P) :
    Holds Rep' X w a s m P w' ∧ KeepsAt X wr w' := by
  obtain ⟨F', p, h, h1, hp, h2, h3⟩ := hg
  refine ⟨⟨⟨F', p, h, h1, hp, fun k hk => ?_⟩, OnlyAt.below hb h2 hb.size (fun k hk => (hF k hk).1)⟩, KeepsAt.of_only h2 (fun k hx hk => (hF k hk).2 hx)⟩
  rcases h3 k hk with e | e
  · exact hF k e
  · exact ⟨Nat.le_trans hb.size e, fun hx => by have := hX k hx; omega⟩
/-- A call, lifted to what holds between two. -/
theorem Holds.call {X : Nat → Prop} {w wr : World} {a : Addr} {s s' : ByteArray} {m f : Nat} {args : Array Value} {r : Nat → Nat → Value} {P : Nat → Nat → Prop} {Q : Nat → Nat → Nat → Nat → Prop} (h : Holds Rep X w a s m P wr) (hX : ∀ k, X k → k < wr.heap.size)
    (hc : ∀ F p h, Rep F wr a s m p h → P p h → Calls Try.prog f args wr fun e w' => e = .returned (r p h) ∧ Goes Rep' F wr w' a s' m (Q p h)) :
    Calls Try.prog f args wr fun e w' => ∃ p h, P p h ∧ e = .returned (r p h) ∧ Hid (Holds Rep' X w a s' m (Q p h) w') ∧ Hid (KeepsAt X wr w') := by
  obtain ⟨⟨F, p, hh, hr, hp, hF⟩, hb⟩ := h
  exact (hc F p hh hr hp).mono fun _ _ ⟨he, hg⟩ => ⟨p, hh, hp, he, Lib.hid (Holds.on hb hF hX hg).1, Lib.hid (Holds.on hb hF hX hg).2⟩
/-- With nothing beside it. -/
abbrev HoldsN (Rep : (Nat → Prop) → World → Addr → ByteArray → Nat → Nat → Nat → Prop) (w : World) (a : Addr) (s : ByteArray) (m : Nat) (wr : World) : Prop := Holds Rep (fun _ => False) w a s m AnyP wr
theorem HoldsN.call {w wr : World} {a : Addr} {s s' : ByteArray} {m f : Nat} {args : Array Value} {r : Value} {Q : Nat → Nat → Nat → Nat → Prop} (h : HoldsN Rep w a s m wr)
    (hc : ∀ F p h, Rep F wr a s m p h → Calls Try.prog f args wr fun e w' => e = .returned r ∧ Goes Rep' F wr w' a s' m (Q p h)) :
    Calls Try.prog f args wr fun e w' => e = .returned r ∧ Hid (HoldsN Rep' w a s' m w') :=
  (Holds.call (r := fun _ _ => r) h (fun _ h => h.elim) (fun F p h hr _ => hc F p h hr)).mono fun _ _ ⟨_, _, _, he, h1, _⟩ => ⟨he, Lib.hid ⟨by obtain ⟨⟨F, p, h, a, b, c⟩, _⟩ := h1.out; exact ⟨F, p, h, a, trivial, c⟩, h1.out.2⟩⟩
end Go.Proofs.Ytfdnlbeancdajaa
