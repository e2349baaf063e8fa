/- runes.unit by its contract. -/
import Derived.Test.YtcbmfkgekhadkaaGreatDoorSmall
import Derived.Test.YtcbmfkgekhadkaaGreatDoorZGa
import Derived.Test.YtcbmfkgekhadkaaGreatDoorShelf
namespace Go.Proofs.YtcbmfkgekhadkaaGreatDoor
open Go Go.RowKit Go.Lib

theorem decode_mark (d : List UInt8) (hne : d ≠ []) (h : (decodeL d).1 = 65533) :
    ((decodeL d).2 = 3 ∧ d.take 3 = [239, 191, 189]) ∨ ((decodeL d).2 = 1 ∧ d.take 3 ≠ [239, 191, 189]) := by
  have hl : 0 < d.length := List.length_pos_iff.2 hne
  have k0 := (d.getD 0 0).toNat_lt
  have k1 := (d.getD 1 0).toNat_lt
  have k2 := (d.getD 2 0).toNat_lt
  have k3 := (d.getD 3 0).toNat_lt
  rw [decodeL_N] at h ⊢
  have hN : d.take 3 = [239, 191, 189] → decodeN d.length (d.getD 0 0).toNat (d.getD 1 0).toNat (d.getD 2 0).toNat (d.getD 3 0).toNat = (65533, 3) := by
    intro ht
    have hlen : 3 ≤ d.length := by
      have := congrArg List.length ht
      simp at this; omega
    rw [takeC d (by omega)] at ht
    simp only [List.cons.injEq, and_true] at ht
    rw [ht.1, ht.2.1, ht.2.2]
    have h1 : 1 < d.length := by omega
    have h2 : 2 < d.length := by omega
    simp [decodeN, h1, h2]
  rcases decodeN_shape d.length (d.getD 0 0).toNat (d.getD 1 0).toNat (d.getD 2 0).toNat (d.getD 3 0).toNat with ⟨c, e⟩ | ⟨c1, c2, c3, cv, e⟩ | ⟨c1, c2, c3, c4, cv, cs, e⟩ | ⟨c1, c2, c3, c4, c5, cv, cw, e⟩ | e
  · rw [e] at h; dsimp only at h; omega
  · rw [e] at h; dsimp only at h; omega
  · left
    rw [e] at h ⊢
    dsimp only at h ⊢
    refine ⟨rfl, ?_⟩
    have e0 : d.getD 0 0 = 239 := UInt8.toNat_inj.1 (by show _ = 239; omega)
    have e1 : d.getD 1 0 = 191 := UInt8.toNat_inj.1 (by show _ = 191; omega)
    have e2 : d.getD 2 0 = 189 := UInt8.toNat_inj.1 (by show _ = 189; omega)
    rw [takeC d c2, e0, e1, e2]
  · rw [e] at h; dsimp only at h; omega
  · right
    rw [e]
    refine ⟨rfl, fun ht => ?_⟩
    rw [hN ht] at e
    simp at e

def uVal (at_ : Nat) (d : List UInt8) : Value := .agg #[.int .i64 at_, .int .i64 (decodeL d).2, .int .i64 (uCode d)]

theorem getD_drop_at (s : ByteArray) (p : Nat) (hp : p < s.size) : (s.data.toList.drop p).getD 0 0 = s[p] := by
  have h : p < s.data.toList.length := by rw [← Lib.size_eq]; exact hp
  rw [List.getD, List.getElem?_drop, Nat.add_zero, List.getElem?_eq_getElem h]
  rfl

end Go.Proofs.YtcbmfkgekhadkaaGreatDoor
