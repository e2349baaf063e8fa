/- A step, whatever the call. -/
import Derived.Test.YtjpomfjcofjanaaCStepIns
import Derived.Test.YtjpomfjcofjanaaCStepDel
import Derived.Test.YtjpomfjcofjanaaCStepByte
namespace Go.Proofs.Ytjpomfjcofjanaa
open Go Go.RowKit
variable {R : Nat → (Nat → Prop) → World → Addr → ByteArray → Nat → Nat → Nat → Prop} {u : Nat}

def stepS (s : ByteArray) (m : Nat) (K A B : Int) (S : ByteArray) : ByteArray := if K % 7 < 3 then insS s m A S else if K % 7 < 5 then delS s A B else s
theorem step_any (S0 : Says R) {w : World} {a : Addr} {mb : Nat} {s : ByteArray} {m : Nat} {wr : World} (h : JJ (R u) w a mb s m wr) (K A B : Int) (S : ByteArray) (hS : u + S.size ≤ 1000000) (b1 : -9223372036854775808 ≤ A) (b2 : A ≤ 9223372036854775807) (b3 : -9223372036854775808 ≤ B) (b4 : B ≤ 9223372036854775807) :
    Calls Try.prog 9 #[.pointer (some a), .pointer (some ⟨mb, 0, none⟩), .agg #[.int .i64 K, .int .i64 A, .int .i64 B, .string S]] wr fun e w' => e = .returned (.bool true) ∧ ∃ u', u' ≤ u + S.size ∧ JJ (R u') w a mb (stepS s m K A B S) m w' := by
  have k1 := Int.emod_nonneg K (show (7 : Int) ≠ 0 by omega)
  have k2 := Int.emod_lt_of_pos K (show (0 : Int) < 7 by omega)
  unfold stepS
  split
  · rename_i hk; exact (step_ins S0 h K A B S hS b1 b2 hk).mono fun _ _ h => ⟨h.1, _, bump_le _ _ _ _ _, h.2⟩
  · split
    · rename_i hk hk2; exact (step_del S0 h K A B S b1 b2 b3 b4 (by omega) hk2).mono fun _ _ h => ⟨h.1, u, Nat.le_add_right _ _, h.2⟩
    · rename_i hk hk2
      by_cases h5 : K % 7 = 5
      · by_cases hin : isIn s A B
        · obtain ⟨i1, i2, i3, i4⟩ := hin
          obtain ⟨q, rfl⟩ : ∃ q : Nat, A = q := ⟨A.toNat, by omega⟩
          obtain ⟨z, rfl⟩ : ∃ z : Nat, B = z := ⟨B.toNat, by omega⟩
          exact (step_cut_yes S0 h K S q z (by omega) h5).mono fun _ _ h => ⟨h.1, u, Nat.le_add_right _ _, h.2⟩
        · exact (step_cut_no S0 h K A B S hin b1 b2 b3 b4 h5).mono fun _ _ h => ⟨h.1, u, Nat.le_add_right _ _, h.2⟩
      · have h6 : K % 7 = 6 := by omega
        by_cases hA : 0 ≤ A
        · by_cases hA2 : A < s.size
          · obtain ⟨q, rfl⟩ : ∃ q : Nat, A = q := ⟨A.toNat, by omega⟩
            exact (step_byte_yes S0 h K B S q (by omega) h6).mono fun _ _ h => ⟨h.1, u, Nat.le_add_right _ _, h.2⟩
          · exact (step_byte_above S0 h K A B S hA (by omega) b2 h6).mono fun _ _ h => ⟨h.1, u, Nat.le_add_right _ _, h.2⟩
        · exact (step_byte_below S0 h K A B S (by omega) b1 h6).mono fun _ _ h => ⟨h.1, u, Nat.le_add_right _ _, h.2⟩
end Go.Proofs.Ytjpomfjcofjanaa
