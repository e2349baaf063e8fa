/- Rules in memory; what is asked of rule's calls; stage 10's laws' awake. -/
import Derived.Test.YtjeehdbnliifnaaGreatDoorMPlain
import Derived.Test.YtjeehdbnliifnaaGreatDoorNSame
namespace Go.Proofs.YtjeehdbnliifnaaGreatDoor
open Go Go.RowKit

/-- A value that reads as a rule. -/
def RuAt (w : World) (v : Value) (r : Ru) : Prop :=
  ∃ A cap, v = .agg #[.bool r.pre, .int .i64 r.flag, .bool r.cross, .string r.strip, .string r.add, .slice A r.cond.length cap] ∧ ItemsAt w (.slice A r.cond.length cap) r.cond
theorem RuAt.keep {w w' : World} {v : Value} {r : Ru} (h : RuAt w v r) (hb : Below w.heap.size w w') : RuAt w' v r := by
  obtain ⟨A, cap, rfl, h1⟩ := h
  exact ⟨A, cap, rfl, h1.keep hb⟩
/-- Not too much. -/
structure FewR (r : Ru) : Prop where
  items : r.cond.length ≤ 12
  sets : ∀ it ∈ r.cond, it.set.length ≤ 1200
  strip : r.strip.size ≤ 200
  add : r.add.size ≤ 200
def okB (s : ByteArray) : Bool := decide (s.size ≠ 0)

/-! ### What is asked of rule's calls -/
structure SaysR (T : World → Prop) : Prop where
  kept : ∀ w w', T w → Below w.heap.size w w' → T w'
  parse : ∀ w (s : ByteArray), T w → s.size ≤ 4800 →
    Calls Tryz.prog 6 #[.string s] w fun e w' => ∃ v, e = .returned (.tuple #[v, .bool (parseR s).isSome]) ∧ RuAt w' v ((parseR s).getD ru0) ∧ Below w.heap.size w w'
  text : ∀ w v r, T w → RuAt w v r → FewR r →
    Calls Tryz.prog 13 #[v] w fun e w' => e = .returned (.string (textR r)) ∧ Below w.heap.size w w'
  check : ∀ w v r, T w → RuAt w v r → FewR r →
    Calls Tryz.prog 11 #[v] w fun e w' => e = .returned (.bool (okB (textR r))) ∧ Below w.heap.size w w'
  apply : ∀ w v r (wd : ByteArray), T w → RuAt w v r → FewR r → wd.size ≤ 200 →
    Calls Tryz.prog 9 #[v, .string wd] w fun e w' => e = .returned (.tuple #[.string (applyR r wd), .bool (okB (applyR r wd))]) ∧ Below w.heap.size w w'
  both : ∀ w v v' p s (wd : ByteArray), T w → RuAt w v p → FewR p → RuAt w v' s → FewR s → wd.size ≤ 200 →
    Calls Tryz.prog 15 #[v, v', .string wd] w fun e w' => e = .returned (.tuple #[.string (bothR p s wd), .bool (okB (bothR p s wd))]) ∧ Below w.heap.size w w'

def exR : Ru := ⟨false, 83, true, ⟨#[121]⟩, ⟨#[105, 101, 115]⟩, [⟨false, false, [121]⟩]⟩
def exL : ByteArray := ⟨#[83, 70, 88, 32, 83, 32, 89, 32, 121, 32, 105, 101, 115, 32, 121]⟩
theorem exR_parse : parseR exL = some exR := by decide +kernel
theorem exR_text : textR exR = exL := by decide +kernel
theorem exR_city : applyR exR ⟨#[99, 105, 116, 121]⟩ = ⟨#[99, 105, 116, 105, 101, 115]⟩ := by decide +kernel
theorem exR_cat : applyR exR ⟨#[99, 97, 116]⟩ = ⟨#[]⟩ := by decide +kernel
theorem exR_few : FewR exR := ⟨by decide, by decide, by decide, by decide⟩

theorem exR_at {w : World} {v : Value} (h : RuAt w v exR) : ∃ A cap, v = .agg #[.bool false, .int .i64 83, .bool true, .string ⟨#[121]⟩, .string ⟨#[105, 101, 115]⟩, .slice A 1 cap] ∧ ItemsAt w (.slice A 1 cap) exR.cond := h

theorem box6 {w w' : World} {a b c d e f : Value} {t : TypeId} (hb : Below (w.alloc (.cells #[a, b, c, d, e, f] t)).heap.size (w.alloc (.cells #[a, b, c, d, e, f] t)) w') :
    w'.cell? ⟨w.heap.size, 0, none⟩ = some a ∧ w'.cell? ⟨w.heap.size, 1, none⟩ = some b ∧ w'.cell? ⟨w.heap.size, 2, none⟩ = some c ∧ w'.cell? ⟨w.heap.size, 3, none⟩ = some d ∧ w'.cell? ⟨w.heap.size, 4, none⟩ = some e ∧ w'.cell? ⟨w.heap.size, 5, none⟩ = some f := by
  have h : w'.heap[w.heap.size]? = some (.cells #[a, b, c, d, e, f] t (0, 0)) := (hb.block w.heap.size (by rw [World.size_alloc]; omega)).trans (World.alloc_heap_new w _)
  refine ⟨?_, ?_, ?_, ?_, ?_, ?_⟩ <;> simp [World.cell?, h]
variable {T : World → Prop}

set_option maxRecDepth 100000 in
set_option maxHeartbeats 1000000 in
theorem awake_any (S : SaysR T) (w : World) (hT : T w) : Calls Tryz.prog 5 #[] w fun e w' => e = .returned (.bool true) ∧ Below w.heap.size w w' := by
  have C1 := Lib.hid (S.parse w exL hT (by decide))
  rw [exR_parse] at C1
  have HS := Lib.hid S
  have HT := Lib.hid hT
  clear S hT
  go_enter Tryz.func5, Tryz.ntmps5
  go_wp2_with fail
  refine C1.out.mono ?_
  rintro e w1 ⟨v, rfl, h1, hb1⟩
  have h0 : RuAt w1 v exR := h1
  obtain ⟨A, cap, rfl, -⟩ := exR_at h1
  have e1 : (some exR).isSome = true := rfl
  have hba := (Below.refl w1.heap.size w1).alloc (Nat.le_refl _) (.cells #[.bool false, .int .i64 83, .bool true, .string ⟨#[121]⟩, .string ⟨#[105, 101, 115]⟩, .slice A 1 cap] /-t-/24)
  have H1 := Lib.hid (And.intro (h0.keep hba) (And.intro (hb1.trans (hba.mono hb1.size)) (HS.out.kept w1 _ (HS.out.kept w w1 HT.out hb1) hba)))
  have C2 := Lib.hid (HS.out.apply _ _ exR ⟨#[99, 105, 116, 121]⟩ H1.out.2.2 H1.out.1 exR_few (by decide))
  rw [exR_city] at C2
  clear h0 h1 hb1 C1 hba
  go_wp2_with fail
  refine C2.out.mono ?_
  rintro e w2 ⟨rfl, hb2⟩
  obtain ⟨x0, x1, x2, x3, x4, x5⟩ := box6 hb2
  have B2 := Lib.hid hb2
  have C3 := Lib.hid (HS.out.apply w2 _ exR ⟨#[99, 97, 116]⟩ (HS.out.kept _ _ H1.out.2.2 hb2) (H1.out.1.keep hb2) exR_few (by decide))
  rw [exR_cat] at C3
  clear hb2 C2
  go_wp2_with fail
  refine C3.out.mono ?_
  rintro e w3 ⟨rfl, hb3⟩
  have hb3' := B2.out.trans (hb3.mono B2.out.size)
  clear x0 x1 x2 x3 x4 x5 hb3 C3 B2
  obtain ⟨x0, x1, x2, x3, x4, x5⟩ := box6 hb3'
  have B3 := Lib.hid hb3'
  have C4 := Lib.hid (HS.out.check w3 _ exR (HS.out.kept _ _ H1.out.2.2 hb3') (H1.out.1.keep hb3') exR_few)
  rw [exR_text] at C4
  clear hb3'
  go_wp2_with fail
  refine C4.out.mono ?_
  rintro e w4 ⟨rfl, hb4⟩
  have hb4' := B3.out.trans (hb4.mono B3.out.size)
  clear x0 x1 x2 x3 x4 x5 hb4 C4 B3
  obtain ⟨x0, x1, x2, x3, x4, x5⟩ := box6 hb4'
  have B4 := Lib.hid hb4'
  have C5 := Lib.hid (HS.out.text w4 _ exR (HS.out.kept _ _ H1.out.2.2 hb4') (H1.out.1.keep hb4') exR_few)
  rw [exR_text] at C5
  have eL : exL = ⟨#[83, 70, 88, 32, 83, 32, 89, 32, 121, 32, 105, 101, 115, 32, 121]⟩ := rfl
  have eO : okB exL = true := rfl
  clear hb4'
  go_wp2_with fail
  refine C5.out.mono ?_
  rintro e w5 ⟨rfl, hb5⟩
  have B5 := Lib.hid (H1.out.2.1.trans ((B4.out.trans (hb5.mono B4.out.size)).mono H1.out.2.1.size))
  rw [eL]
  clear hb5 C5 B4 x0 x1 x2 x3 x4 x5
  go_wp2_with fail
  go_ret
  exact ⟨rfl, B5.out⟩
end Go.Proofs.YtjeehdbnliifnaaGreatDoor
