/- Stage 15's laws: awake by contract. -/
import Derived.Test.YtkabdieenijnlaaIHas
import Derived.Test.YtkabdieenijnlaaIBuild
import Derived.Test.YtkabdieenijnlaaICount
namespace Go.Proofs.Ytkabdieenijnlaa
open Go Go.RowKit Go.Lib

theorem strs_lit (w : World) (l : List ByteArray) (xs : Array Value) (t : TypeId) (hx : xs = (l.map Value.string).toArray) (hm : l.length ≤ 1000) : StrsAt (w.alloc (.cells xs t)) (.slice (some ⟨w.heap.size, 0, none⟩) l.length l.length) l := by
  subst hx
  refine .inr ⟨w.heap.size, 0, l.length, rfl, by simp, Nat.le_refl _, by unfold maxLen; omega, fun i c hc => ?_⟩
  rw [cell_of_row _ w.heap.size (0 + i) _ t (0, 0) (World.alloc_heap_new w _)]
  simp [hc]
/-- A call of Build, of few words: the automaton, told. -/
theorem build_few (w : World) (v : Value) (l m : List ByteArray) (h : StrsAt w v l) (hl : l.length ≤ 20000) (hz : longL l = false) (hm : Rising m) (hml : ∀ x, x ∈ m ↔ x ∈ l) :
    Calls Try.prog 10 #[v] w fun e w' => ∃ (p : Nat) (g : GA) (st : Nat), e = .returned (.tuple #[.pointer (some ⟨p, 0, none⟩), .int .i64 0]) ∧ AutoAt w' p g st ∧ AutoOf g st (m.map (tailD 0)) ∧ Below w.heap.size w w' := by
  refine (build_any w v l h hl).mono ?_
  rintro e w' ⟨⟨h1, -⟩ | ⟨-, m', p, g, st, he, h2, h3, h4, h5⟩, hb⟩
  · rw [hz] at h1; cases h1
  · obtain rfl : m' = m := rising_eq h2 hm fun x => (h3 x).trans (hml x).symm
    exact ⟨p, g, st, he, h4, h5, hb⟩
def wTap : ByteArray := ⟨#[116, 97, 112]⟩
def wTaps : ByteArray := ⟨#[116, 97, 112, 115]⟩
def wTop : ByteArray := ⟨#[116, 111, 112]⟩
def wTops : ByteArray := ⟨#[116, 111, 112, 115]⟩
def wTo : ByteArray := ⟨#[116, 111]⟩
def exWords : List ByteArray := [wTap, wTaps, wTop, wTops]
theorem ex_rise : Rising exWords := by unfold Rising; decide +kernel
theorem ex_count : (dd (allEnds (exWords.map (tailD 0)))).length = 5 := by decide +kernel
theorem ex_has : decide (wTops.data.toList ∈ exWords.map (tailD 0)) = true := by decide +kernel
theorem ex_not : decide (wTo.data.toList ∈ exWords.map (tailD 0)) = false := by decide +kernel
set_option maxRecDepth 100000 in
set_option maxHeartbeats 2000000 in
theorem awake15_any (w : World) : Calls Try.prog 9 #[] w fun e w' => e = .returned (.bool true) ∧ Below w.heap.size w w' := by
  obtain ⟨w1, hw1⟩ : ∃ w1, w1 = w.alloc (.cells #[.string ⟨#[116, 97, 112]⟩, .string ⟨#[116, 97, 112, 115]⟩, .string ⟨#[116, 111, 112]⟩, .string ⟨#[116, 111, 112, 115]⟩] 9) := ⟨_, rfl⟩
  have hb1 : Below w.heap.size w w1 := by rw [hw1]; exact (Below.refl _ _).alloc (Nat.le_refl _) _
  have CB := Lib.hid (build_few w1 (.slice (some ⟨w.heap.size, 0, none⟩) 4 4) exWords exWords (by rw [hw1]; exact strs_lit w exWords _ _ rfl (by decide)) (by decide) (by decide +kernel) ex_rise (fun _ => Iff.rfl))
  have HW := Lib.hid hw1
  have HB1 := Lib.hid hb1
  clear hw1 hb1
  go_enter Try.func9, Try.ntmps9
  go_upto_region 2 with (go_at_call 10; rw [← HW.out]; refine CB.out.mono ?_; rintro e w2 ⟨p, g, st, rfl, hr⟩; have HR := Lib.hid hr; clear hr)
  have CSt := Lib.hid (show Calls Try.prog 14 #[.pointer (some ⟨p, 0, none⟩)] w2 fun e w' => e = .returned (.int .i64 5) ∧ w' = w2 from by
    have h1 := states_any w2 p g st HR.out.1
    rw [count_dd HR.out.1.ok HR.out.2.1.set, ex_count] at h1
    exact h1)
  have CH := Lib.hid (show ∀ wx, Below w2.heap.size w2 wx → Calls Try.prog 12 #[.pointer (some ⟨p, 0, none⟩), .string ⟨#[116, 111, 112, 115]⟩] wx fun e w' => e = .returned (.bool true) ∧ Below wx.heap.size wx w' from fun wx hb => by
    have h1 := has_auto wx p g st _ (HR.out.1.keep hb) HR.out.2.1.start wTops (by decide)
    rw [ex_has] at h1
    exact h1)
  have CN := Lib.hid (show ∀ wx, Below w2.heap.size w2 wx → Calls Try.prog 12 #[.pointer (some ⟨p, 0, none⟩), .string ⟨#[116, 111]⟩] wx fun e w' => e = .returned (.bool false) ∧ Below wx.heap.size wx w' from fun wx hb => by
    have h1 := has_auto wx p g st _ (HR.out.1.keep hb) HR.out.2.1.start wTo (by decide)
    rw [ex_not] at h1
    exact h1)
  have HB2 := Lib.hid (HB1.out.trans (HR.out.2.2.mono HB1.out.size))
  clear CB HW HB1 HR
  go_wp2_with fail
  refine CSt.out.mono ?_
  rintro e w3 ⟨rfl, rfl⟩
  go_wp2_with fail
  refine (CH.out _ (Below.refl _ _)).mono ?_
  rintro e w4 ⟨rfl, hb4⟩
  have HB4 := Lib.hid hb4
  clear hb4
  go_wp2_with fail
  refine (CN.out _ HB4.out).mono ?_
  rintro e w5 ⟨rfl, hb5⟩
  have HB5 := Lib.hid hb5
  clear hb5
  go_wp2_with fail
  go_ret
  exact ⟨rfl, HB2.out.trans ((HB4.out.trans (HB5.out.mono HB4.out.size)).mono HB2.out.size)⟩
end Go.Proofs.Ytkabdieenijnlaa
