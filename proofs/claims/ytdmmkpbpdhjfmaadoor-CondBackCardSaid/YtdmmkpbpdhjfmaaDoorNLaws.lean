/- What is asked of cond's calls; stage 9's laws' awake. -/
import Derived.Test.YtdmmkpbpdhjfmaaDoorNSame
namespace Go.Proofs.YtdmmkpbpdhjfmaaDoor
open Go Go.RowKit

/-! ### What is asked of cond's calls -/
structure SaysC (T : World → Prop) : Prop where
  kept : ∀ w w', T w → Below w.heap.size w w' → T w'
  parse : ∀ w (s : ByteArray), T w → s.size ≤ 4800 →
    Calls Tryd.prog 6 #[.string s] w fun e w' => ∃ v, e = .returned (.tuple #[v, .bool (parseS s).isSome]) ∧ ItemsAt w' v ((parseS s).getD []) ∧ Below w.heap.size w w'
  text : ∀ w v l, T w → ItemsAt w v l → Fit l →
    Calls Tryd.prog 7 #[v] w fun e w' => e = .returned (.string (textS l)) ∧ Below w.heap.size w w'
  starts : ∀ w v l vc cs, T w → ItemsAt w v l → IntsAt w vc cs → l.length ≤ 8 → cs.length ≤ 20 → (∀ it ∈ l, it.set.length ≤ 20) →
    Calls Tryd.prog 10 #[v, vc] w fun e w' => e = .returned (.bool (startsP l cs)) ∧ Below w.heap.size w w'
  ends : ∀ w v l vc cs, T w → ItemsAt w v l → IntsAt w vc cs → l.length ≤ 8 → cs.length ≤ 20 → (∀ it ∈ l, it.set.length ≤ 20) →
    Calls Tryd.prog 11 #[v, vc] w fun e w' => e = .returned (.bool (endsP l cs)) ∧ Below w.heap.size w w'

def exI : List It := [⟨false, true, [97, 98]⟩, ⟨false, false, [99]⟩]
theorem exI_parse : parseS ⟨#[91, 94, 97, 98, 93, 99]⟩ = some exI := by decide +kernel
theorem exI_text : textS exI = ⟨#[91, 94, 97, 98, 93, 99]⟩ := by decide +kernel
theorem exI_fit : Fit exI := (parseS_fit exI_parse (by decide)).1

variable {T : World → Prop}

set_option maxRecDepth 100000 in
set_option maxHeartbeats 1000000 in
theorem awake_any (S : SaysC T) (w : World) (hT : T w) : Calls Tryd.prog 5 #[] w fun e w' => e = .returned (.bool true) ∧ Below w.heap.size w w' := by
  have C1 := Lib.hid (S.parse w ⟨#[91, 94, 97, 98, 93, 99]⟩ hT (by decide))
  rw [exI_parse] at C1
  have HS := Lib.hid S
  have HT := Lib.hid hT
  clear S hT
  go_enter Tryd.func5, Tryd.ntmps5
  go_wp2_with fail
  refine C1.out.mono ?_
  rintro e w1 ⟨v, rfl, h1, hb1⟩
  simp only [Option.getD_some] at h1
  obtain ⟨h, _⟩ | ⟨b, off, cap, rfl, hlt, hcap, hm, hc⟩ := id h1
  · cases h
  obtain ⟨-, k2, -⟩ := hc 0 _ rfl
  simp only [Nat.zero_mul, Nat.add_zero] at k2
  have e2 : exI.length = 2 := rfl
  rw [e2] at h1 hcap ⊢
  have hT1 := HS.out.kept w w1 HT.out hb1
  have C2 := Lib.hid (HS.out.text w1 _ exI hT1 h1 exI_fit)
  rw [exI_text] at C2
  have H1 := Lib.hid (And.intro h1 (And.intro hb1 hT1))
  clear C1 h1 hb1 hT1 hc e2
  have step : ∀ (wx : World), Below w1.heap.size w1 wx → ItemsAt wx (.slice (some ⟨b, off, none⟩) 2 cap) exI ∧ T wx ∧ Below w.heap.size w wx := fun wx hb => ⟨H1.out.1.keep hb, HS.out.kept w1 wx H1.out.2.2 hb, H1.out.2.1.trans (hb.mono H1.out.2.1.size)⟩
  have STEP := Lib.hid step
  clear step
  go_wp2_with fail
  refine C2.out.mono ?_
  rintro e w2 ⟨rfl, hb2⟩
  have B2 := Lib.hid (hb2.alloc hb2.size (.cells #[.int .i64 120, .int .i64 99, .int .i64 100] /-t-/3))
  obtain ⟨i2, t2, -⟩ := STEP.out _ B2.out
  have C3 := Lib.hid (HS.out.starts _ _ exI _ [120, 99, 100] t2 i2 (IntsAt.lit w2 [120, 99, 100] #[.int .i64 120, .int .i64 99, .int .i64 100] /-t-/3 rfl (by decide)) (by decide) (by decide) (by decide))
  rw [show startsP exI [120, 99, 100] = true from by decide +kernel] at C3
  clear C2 hb2 i2 t2
  go_wp2_with fail
  refine C3.out.mono ?_
  rintro e w3 ⟨rfl, hb3⟩
  have hb3' := B2.out.trans (hb3.mono B2.out.size)
  have B3 := Lib.hid (hb3'.alloc hb3'.size (.cells #[.int .i64 97, .int .i64 99] /-t-/3))
  obtain ⟨i2, t2, -⟩ := STEP.out _ B3.out
  have C4 := Lib.hid (HS.out.starts _ _ exI _ [97, 99] t2 i2 (IntsAt.lit w3 [97, 99] #[.int .i64 97, .int .i64 99] /-t-/3 rfl (by decide)) (by decide) (by decide) (by decide))
  rw [show startsP exI [97, 99] = false from by decide +kernel] at C4
  clear C3 hb3 i2 t2 hb3'
  go_wp2_with fail
  refine C4.out.mono ?_
  rintro e w4 ⟨rfl, hb4⟩
  have hb4' := B3.out.trans (hb4.mono B3.out.size)
  have B4 := Lib.hid (hb4'.alloc hb4'.size (.cells #[.int .i64 97, .int .i64 120, .int .i64 99] /-t-/3))
  obtain ⟨i2, t2, -⟩ := STEP.out _ B4.out
  have C5 := Lib.hid (HS.out.ends _ _ exI _ [97, 120, 99] t2 i2 (IntsAt.lit w4 [97, 120, 99] #[.int .i64 97, .int .i64 120, .int .i64 99] /-t-/3 rfl (by decide)) (by decide) (by decide) (by decide))
  rw [show endsP exI [97, 120, 99] = true from by decide +kernel] at C5
  clear C4 hb4 i2 t2 hb4'
  go_wp2_with fail
  refine C5.out.mono ?_
  rintro e w5 ⟨rfl, hb5⟩
  have B5 := Lib.hid (STEP.out _ (B4.out.trans (hb5.mono B4.out.size))).2.2
  clear hb5
  go_wp2_with fail
  go_ret
  exact ⟨rfl, B5.out⟩

end Go.Proofs.YtdmmkpbpdhjfmaaDoor
