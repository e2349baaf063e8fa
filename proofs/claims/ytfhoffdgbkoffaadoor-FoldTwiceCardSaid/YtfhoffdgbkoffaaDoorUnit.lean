/- runes.unit by its contract. -/
import Derived.Test.YtfhoffdgbkoffaaDoorSmall
import Derived.Test.YtfhoffdgbkoffaaDoorPlain
import Derived.Test.YtfhoffdgbkoffaaDoorShelf
namespace Go.Proofs.YtfhoffdgbkoffaaDoor
open Go Go.RowKit Go.Lib

theorem decode_mark (d : List UInt8) (hne : d ≠ []) (h : (decodeL d).1 = 65533) :
    ((decodeL d).2 = 3 ∧ d.take 3 = [239, 191, 189]) ∨ ((decodeL d).2 = 1 ∧ d.take 3 ≠ [239, 191, 189]) := by
  have hl : 0 < d.length := List.length_pos_iff.2 hne
  have k0 := (d.getD 0 0).toNat_lt
  have k1 := (d.getD 1 0).toNat_lt
  have k2 := (d.getD 2 0).toNat_lt
  have k3 := (d.getD 3 0).toNat_lt
  rw [decodeL_N] at h ⊢
  have hN : d.take 3 = [239, 191, 189] → decodeN d.length (d.getD 0 0).toNat (d.getD 1 0).toNat (d.getD 2 0).toNat (d.getD 3 0).toNat = (65533, 3) := by
    intro ht
    have hlen : 3 ≤ d.length := by
      have := congrArg List.length ht
      simp at this; omega
    rw [takeC d (by omega)] at ht
    simp only [List.cons.injEq, and_true] at ht
    rw [ht.1, ht.2.1, ht.2.2]
    have h1 : 1 < d.length := by omega
    have h2 : 2 < d.length := by omega
    simp [decodeN, h1, h2]
  rcases decodeN_shape d.length (d.getD 0 0).toNat (d.getD 1 0).toNat (d.getD 2 0).toNat (d.getD 3 0).toNat with ⟨c, e⟩ | ⟨c1, c2, c3, cv, e⟩ | ⟨c1, c2, c3, c4, cv, cs, e⟩ | ⟨c1, c2, c3, c4, c5, cv, cw, e⟩ | e
  · rw [e] at h; dsimp only at h; omega
  · rw [e] at h; dsimp only at h; omega
  · left
    rw [e] at h ⊢
    dsimp only at h ⊢
    refine ⟨rfl, ?_⟩
    have e0 : d.getD 0 0 = 239 := UInt8.toNat_inj.1 (by show _ = 239; omega)
    have e1 : d.getD 1 0 = 191 := UInt8.toNat_inj.1 (by show _ = 191; omega)
    have e2 : d.getD 2 0 = 189 := UInt8.toNat_inj.1 (by show _ = 189; omega)
    rw [takeC d c2, e0, e1, e2]
  · rw [e] at h; dsimp only at h; omega
  · right
    rw [e]
    refine ⟨rfl, fun ht => ?_⟩
    rw [hN ht] at e
    simp at e

def uVal (at_ : Nat) (d : List UInt8) : Value := .agg #[.int .i64 at_, .int .i64 (decodeL d).2, .int .i64 (uCode d)]

set_option maxHeartbeats 400000 in
theorem unit_plain (s : ByteArray) (p c : Nat) (w : World) (hc : c ≤ 1114111) (hr : c ≠ 65533) :
    Calls Tryd.prog 32 #[.string s, .int .i64 p, .int .i32 c] w fun e w' => e = .returned (.agg #[.int .i64 p, .int .i64 (Lib.runeLen c), .int .i64 c]) ∧ Below w.heap.size w w' := by
  have h0 : ((c : Int) == 65533) = false := by simp; omega
  clear hr
  go_enter Tryd.func32, Tryd.ntmps32
  go_wp2_with (go_at_call 40; refine (Tryd.utf8_RuneLen _ _).mono ?_; rintro e w' ⟨rfl, rfl⟩)
  exact bodyPost_ret (v := .agg #[.int .i64 p, .int .i64 (Lib.runeLen c), .int .i64 c]) (by simp [results, Tryd.results32, go_sem]) rfl ⟨rfl, (Below.refl _ _).alloc (Nat.le_refl _) _⟩

set_option maxHeartbeats 400000 in
theorem unit_mark (s : ByteArray) (p : Nat) (w : World) (hp : p < s.size) (_hm : s.size ≤ 9223372036854775807) (hh : Lib.hasPrefix (s.extract p s.size).data.toList [239, 191, 189] = true) :
    Calls Tryd.prog 32 #[.string s, .int .i64 p, .int .i32 65533] w fun e w' => e = .returned (.agg #[.int .i64 p, .int .i64 3, .int .i64 65533]) ∧ Below w.heap.size w w' := by
  have H := Lib.hid hh
  clear hh
  go_enter Tryd.func32, Tryd.ntmps32
  go_wp2_with (first | (go_at_call 39; refine (Tryd.strings_HasPrefix _ _ _).mono ?_; rintro e w' ⟨rfl, rfl⟩; rw [H.out]) | (go_at_call 40; refine (Tryd.utf8_RuneLen _ _).mono ?_; rintro e w' ⟨rfl, rfl⟩))
  exact bodyPost_ret (v := .agg #[.int .i64 p, .int .i64 3, .int .i64 65533]) (by simp [results, Tryd.results32, go_sem, show Lib.runeLen 65533 = 3 from rfl]) rfl ⟨rfl, (Below.refl _ _).alloc (Nat.le_refl _) _⟩

set_option maxHeartbeats 400000 in
theorem unit_bad (s : ByteArray) (p : Nat) (w : World) (hp : p < s.size) (_hm : s.size ≤ 9223372036854775807) (hh : Lib.hasPrefix (s.extract p s.size).data.toList [239, 191, 189] = false) :
    Calls Tryd.prog 32 #[.string s, .int .i64 p, .int .i32 65533] w fun e w' => e = .returned (.agg #[.int .i64 p, .int .i64 1, .int .i64 (-1 - (s[p].toNat : Int))]) ∧ Below w.heap.size w w' := by
  have H := Lib.hid hh
  clear hh
  have hb := s[p].toNat_lt
  go_enter Tryd.func32, Tryd.ntmps32
  go_wp2_with (first | (go_at_call 39; refine (Tryd.strings_HasPrefix _ _ _).mono ?_; rintro e w' ⟨rfl, rfl⟩; rw [H.out]) | (go_at_call 40; refine (Tryd.utf8_RuneLen _ _).mono ?_; rintro e w' ⟨rfl, rfl⟩))
  exact bodyPost_ret (v := .agg #[.int .i64 p, .int .i64 1, .int .i64 (-1 - (s[p].toNat : Int))]) (by simp [results, Tryd.results32, go_sem]) rfl ⟨rfl, (Below.refl _ _).alloc (Nat.le_refl _) _⟩

theorem getD_drop_at (s : ByteArray) (p : Nat) (hp : p < s.size) : (s.data.toList.drop p).getD 0 0 = s[p] := by
  have h : p < s.data.toList.length := by rw [← Lib.size_eq]; exact hp
  rw [List.getD, List.getElem?_drop, Nat.add_zero, List.getElem?_eq_getElem h]
  rfl

/-- runes.unit at a place, with the rune that is decoded there. -/
theorem unit_any (s : ByteArray) (p : Nat) (w : World) (hp : p < s.size) (hm : s.size ≤ 9223372036854775807) (c : Nat) (hc : c = (decodeL (s.data.toList.drop p)).1) :
    Calls Tryd.prog 32 #[.string s, .int .i64 p, .int .i32 c] w fun e w' => e = .returned (uVal p (s.data.toList.drop p)) ∧ Below w.heap.size w w' := by
  have hne : s.data.toList.drop p ≠ [] := by
    intro h0
    have := congrArg List.length h0
    rw [List.length_drop, ← Lib.size_eq] at this
    simp at this; omega
  have hle := decodeL_rune (s.data.toList.drop p)
  by_cases hr : c = 65533
  · subst hr
    have e1 := Lib.extract_to_end s p
    rcases decode_mark _ hne hc.symm with ⟨h2, h3⟩ | ⟨h2, h3⟩
    · have hh : Lib.hasPrefix (s.extract p s.size).data.toList [239, 191, 189] = true := by
        rw [e1, Lib.hasPrefix, List.isPrefixOf_iff_prefix]
        exact ⟨(s.data.toList.drop p).drop 3, by rw [← h3, List.take_append_drop]⟩
      have hu : uVal p (s.data.toList.drop p) = .agg #[.int .i64 p, .int .i64 3, .int .i64 65533] := by
        have hb : uBad (s.data.toList.drop p) = false := by simp [uBad, h2]
        simp [uVal, uCode, hb, h2, ← hc]
      rw [hu]
      exact unit_mark s p w hp hm hh
    · have hh : Lib.hasPrefix (s.extract p s.size).data.toList [239, 191, 189] = false := by
        rw [e1, Lib.hasPrefix, Bool.eq_false_iff]
        intro h
        rw [List.isPrefixOf_iff_prefix] at h
        obtain ⟨t, ht⟩ := h
        exact h3 (by rw [← ht]; rfl)
      have hu : uVal p (s.data.toList.drop p) = .agg #[.int .i64 p, .int .i64 1, .int .i64 (-1 - (s[p].toNat : Int))] := by
        have hb : uBad (s.data.toList.drop p) = true := by simp [uBad, h2, ← hc]
        simp only [uVal, uCode, hb, h2, if_true, getD_drop_at s p hp]
        rfl
      rw [hu]
      exact unit_bad s p w hp hm hh
  · have hr' : (decodeL (s.data.toList.drop p)).1 ≠ 65533 := by omega
    have hu : uVal p (s.data.toList.drop p) = .agg #[.int .i64 p, .int .i64 (Lib.runeLen c), .int .i64 c] := by
      have hb : uBad (s.data.toList.drop p) = false := by simp [uBad, hr']
      rw [hc, runeLen_decode _ hr']
      simp [uVal, uCode, hb]
    rw [hu]
    exact unit_plain s p c w (by omega) hr

end Go.Proofs.YtfhoffdgbkoffaaDoor
