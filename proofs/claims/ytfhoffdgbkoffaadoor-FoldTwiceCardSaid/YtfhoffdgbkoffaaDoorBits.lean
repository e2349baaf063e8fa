/- Plain: the bit operations of a reading of UTF-8, as arithmetic. -/
import Derived.Test.YtfhoffdgbkoffaaDoorCodes
import Derived.IntWalk
import Derived.Laws.BitsAllLaws
import Derived.Lib.EndianBits
namespace Go.Proofs.YtfhoffdgbkoffaaDoor
open Go Go.Lib

theorem wrap62 : ∀ n : Int, 0 ≤ n → n < 2 ^ 62 → IntKind.i64.wrap n = n := fun n h1 h2 => IntWalk.i64_in n (by omega)

theorem and_i64 (a b : Nat) (ha : a < 2 ^ 62) (hb : b < 2 ^ 62) : bits .and .i64 (a : Int) (b : Int) = ((a &&& b : Nat) : Int) := (bits_nat .i64 62 (by decide) wrap62 a b ha hb).1
theorem or_i64 (x y : Nat) (hx : x < 2 ^ 62) (h64 : x % 64 = 0) (hy : y < 64) : bits .or .i64 (x : Int) (y : Int) = ((x + y : Nat) : Int) := by
  rw [bits_join .i64 62 (by decide) wrap62 6 x y (by omega) (by omega) (by omega) (by omega) (by omega) (by omega), Int.natCast_add]

theorem mask3 (a : Nat) : a &&& 7 = a % 8 := Nat.and_two_pow_sub_one_eq_mod a 3
theorem mask4 (a : Nat) : a &&& 15 = a % 16 := Nat.and_two_pow_sub_one_eq_mod a 4
theorem mask5 (a : Nat) : a &&& 31 = a % 32 := Nat.and_two_pow_sub_one_eq_mod a 5
theorem mask6 (a : Nat) : a &&& 63 = a % 64 := Nat.and_two_pow_sub_one_eq_mod a 6
theorem and7 (a : Nat) (ha : a < 2 ^ 62) : bits .and .i64 (a : Int) 7 = ((a % 8 : Nat) : Int) := (and_i64 a 7 ha (by decide)).trans (by rw [mask3])
theorem and15 (a : Nat) (ha : a < 2 ^ 62) : bits .and .i64 (a : Int) 15 = ((a % 16 : Nat) : Int) := (and_i64 a 15 ha (by decide)).trans (by rw [mask4])
theorem and31 (a : Nat) (ha : a < 2 ^ 62) : bits .and .i64 (a : Int) 31 = ((a % 32 : Nat) : Int) := (and_i64 a 31 ha (by decide)).trans (by rw [mask5])
theorem and63 (a : Nat) (ha : a < 2 ^ 62) : bits .and .i64 (a : Int) 63 = ((a % 64 : Nat) : Int) := (and_i64 a 63 ha (by decide)).trans (by rw [mask6])
set_option maxRecDepth 100000 in
theorem u8_192 : ∀ x : Fin 256, bits .and .u8 ((x.val : Nat) : Int) 192 = ((x.val / 64 * 64 : Nat) : Int) := by decide
set_option maxRecDepth 100000 in
theorem u8_63 : ∀ x : Fin 256, bits .and .u8 ((x.val : Nat) : Int) 63 = ((x.val % 64 : Nat) : Int) := by decide
theorem u8_top (b : UInt8) : bits .and .u8 (b.toNat : Int) 192 = ((b.toNat / 64 * 64 : Nat) : Int) := u8_192 ⟨b.toNat, b.toNat_lt⟩
theorem u8_low (b : UInt8) : bits .and .u8 (b.toNat : Int) 63 = ((b.toNat % 64 : Nat) : Int) := u8_63 ⟨b.toNat, b.toNat_lt⟩
end Go.Proofs.YtfhoffdgbkoffaaDoor
