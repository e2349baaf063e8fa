/- What EditDoes and EditBack ask of a buffer and of edit's own calls is met. -/
import Derived.Test.YtfdnlbeancdajaaEUndo
import Derived.Test.YtfdnlbeancdajaaDCalls
namespace Go.Proofs.Ytfdnlbeancdajaa
open Go Go.RowKit
section
variable {R : Nat → (Nat → Prop) → World → Addr → ByteArray → Nat → Nat → Nat → Prop} {u u' : Nat}
theorem goes_up (U : SaysU R) {F : Nat → Prop} {w w' : World} {a : Addr} {s : ByteArray} {m : Nat} {P : Nat → Nat → Prop} (hu : u ≤ u') (h : Goes (R u) F w w' a s m P) : Goes (R u') F w w' a s m P := by
  obtain ⟨F', p, hh, h1, h2⟩ := h
  exact ⟨F', p, hh, U.up _ _ _ _ _ _ _ h1 hu, h2⟩
theorem edit_undo (U : SaysU R) : SaysUndo R := by
  refine ⟨?_⟩
  intro u F w a s m p h k d i hr hu hi k1 k2
  by_cases h1 : isIn s k i.size
  · have h1' := h1
    obtain ⟨i1, i2, i3, i4⟩ := h1'
    obtain ⟨q, rfl⟩ : ∃ q : Nat, k = q := ⟨k.toNat, by omega⟩
    by_cases h2 : s.extract q (q + i.size) = i
    · have hf : fitsE s q i := ⟨by omega, by omega, by omega, by rw [Int.toNat_natCast]; exact h2⟩
      by_cases h3 : m < s.size - i.size + d.size
      · have e : undoE s m q d i = 3 := by rw [undoE, if_pos hf, if_pos h3]
        rw [undoS, e, if_neg (by omega)]
        exact (undo_big U F w a s m p h q d i hr (by omega) h2 h3 (by omega)).mono fun e w' ⟨he, hg⟩ => ⟨he, goes_up U (by omega) hg⟩
      · have e : undoE s m q d i = 0 := by rw [undoE, if_pos hf, if_neg h3]
        rw [undoS, e, if_pos rfl, Int.toNat_natCast]
        exact (undo_yes U F w a s m p h q d i hr (by omega) h2 (by omega) (by omega)).mono fun e w' ⟨he, hg⟩ => ⟨he, goes_up U (by omega) hg⟩
    · have hf : ¬ fitsE s q i := fun hf => h2 (by have := hf.2.2.2; rwa [Int.toNat_natCast] at this)
      have e : undoE s m q d i = 2 := by rw [undoE, if_neg hf]
      rw [undoS, e, if_neg (by omega)]
      exact (undo_other U F w a s m p h q d i hr (by omega) h2).mono fun e w' ⟨he, hg⟩ => ⟨he, goes_up U (by omega) hg⟩
  · have hf : ¬ fitsE s k i := fun hf => h1 ⟨hf.1, by omega, hf.2.1, hf.2.2.1⟩
    have e : undoE s m k d i = 2 := by rw [undoE, if_neg hf]
    rw [undoS, e, if_neg (by omega)]
    exact (undo_place U F w a s m p h k d i hr h1 k1 k2 hi).mono fun e w' ⟨he, hg⟩ => ⟨he, goes_up U (by omega) hg⟩
theorem edit_do (U : SaysU R) : ∀ {u : Nat} F w a s m p h (k n : Int) (t : ByteArray), R u F w a s m p h → u + t.size + s.size ≤ 1000000 → -9223372036854775808 ≤ k → k ≤ 9223372036854775807 → -9223372036854775808 ≤ n → n ≤ 9223372036854775807 →
    Calls Try.prog 14 #[.pointer (some a), .int .i64 k, .int .i64 n, .string t] w fun e w' => e = .returned (.tuple #[doV s m k n t, .int .i64 (doE s m k n t)]) ∧ Goes (R (u + t.size + s.size)) F w w' a (doS s m k n t) m (fun _ _ => True) := by
  intro u F w a s m p h k n t hr hu k1 k2 n1 n2
  by_cases h1 : isIn s k n
  · have h1' := h1
    obtain ⟨i1, i2, i3, i4⟩ := h1'
    obtain ⟨q, rfl⟩ : ∃ q : Nat, k = q := ⟨k.toNat, by omega⟩
    obtain ⟨z, rfl⟩ : ∃ z : Nat, n = z := ⟨n.toNat, by omega⟩
    by_cases h3 : m < s.size - z + t.size
    · have e : doE s m q z t = 3 := by rw [doE, if_pos h1, Int.toNat_natCast, if_pos h3]
      rw [doV, doS, e, if_neg (by omega), if_neg (by omega)]
      exact (do_big U F w a s m p h q z t hr (by omega) h3 (by omega)).mono fun e w' ⟨he, hg⟩ => ⟨he, goes_up U (by omega) hg⟩
    · have e : doE s m q z t = 0 := by rw [doE, if_pos h1, Int.toNat_natCast, if_neg h3]
      rw [doV, doS, e, if_pos rfl, if_pos rfl, Int.toNat_natCast, Int.toNat_natCast]
      exact (do_yes U F w a s m p h q z t hr (by omega) (by omega) (by omega)).mono fun e w' ⟨he, hg⟩ => ⟨he, goes_up U (by omega) hg⟩
  · have e : doE s m k n t = 2 := by rw [doE, if_neg h1]
    rw [doV, doS, e, if_neg (by omega), if_neg (by omega)]
    exact (do_place U F w a s m p h k n t hr h1 k1 k2 n1 n2).mono fun e w' ⟨he, hg⟩ => ⟨he, goes_up U (by omega) hg⟩
end
theorem goes_any {Rep : (Nat → Prop) → World → Addr → ByteArray → Nat → Nat → Nat → Prop} {F : Nat → Prop} {w w' : World} {a : Addr} {s : ByteArray} {m : Nat} {P : Nat → Nat → Prop} (h : Goes Rep F w w' a s m P) : Goes Rep F w w' a s m (fun _ _ => True) := by
  obtain ⟨F', p, hh, h1, _, h2⟩ := h
  exact ⟨F', p, hh, h1, trivial, h2⟩
theorem buffer_u : SaysU RepU where
  insert F w a s m p h k t hr hu k1 k2 := (buffer_insert F w a s m p h k t hr hu k1 k2).mono fun _ _ ⟨he, hg⟩ => ⟨he, goes_any hg⟩
  delete F w a s m p h k n hr k1 k2 n1 n2 := (buffer_delete F w a s m p h k n hr k1 k2 n1 n2).mono fun _ _ ⟨he, hg⟩ => ⟨he, goes_any hg⟩
  slice F w a s m p h k n hr k1 k2 n1 n2 := (buffer_slice F w a s m p h k n hr k1 k2 n1 n2).mono fun _ _ ⟨he, hg⟩ => ⟨he, goes_any hg⟩
  inv F w a s m p h hr := ⟨(buffer_inv F w a s m p h hr).1, (buffer_inv F w a s m p h hr).2.1⟩
  lt := buffer_lt
  frame := buffer_frame
  up _ _ _ _ _ _ _ hr hu := hr.up hu
theorem buffer_b : SaysB RepU where
  new := buffer_new
  big := buffer_big
  text F w a s m p h hr := (buffer_text F w a s m p h hr).mono fun _ _ ⟨he, hg⟩ => ⟨he, goes_any hg⟩
  do_ := edit_do buffer_u
  inv F w a s m p h hr := ⟨(buffer_inv F w a s m p h hr).1, (buffer_inv F w a s m p h hr).2.1⟩
  lt := buffer_lt
  frame := buffer_frame
end Go.Proofs.Ytfdnlbeancdajaa
