/- Plain: a unit's bytes are the text there; cells of a list of units. -/
import Derived.Test.YtfenpcddmdopdaaDoorAwake
import Derived.Test.YtfenpcddmdopdaaDoorEnc
namespace Go.Proofs.YtfenpcddmdopdaaDoor
open Go Go.RowKit Go.Lib

theorem decode_valid (l : List UInt8) : Utf8.valid ((decodeL l).1 : Int) = true := by
  have k0 := (l.getD 0 0).toNat_lt
  have k1 := (l.getD 1 0).toNat_lt
  have h : (decodeL l).1 < 55296 ∨ (57344 ≤ (decodeL l).1 ∧ (decodeL l).1 ≤ 1114111) := by
    rw [decodeL_N]
    rcases decodeN_shape l.length (l.getD 0 0).toNat (l.getD 1 0).toNat (l.getD 2 0).toNat (l.getD 3 0).toNat with ⟨c, e⟩ | ⟨c1, c2, c3, cv, e⟩ | ⟨c1, c2, c3, c4, cv, cs, e⟩ | ⟨c1, c2, c3, c4, c5, cv, cw, e⟩ | e
    all_goals (rw [e]; dsimp only; omega)
  simp [Utf8.valid]; omega

theorem ofNat_toUInt8 (n : Nat) : UInt8.ofNat n = n.toUInt8 := rfl
theorem encode_rune (k : Nat) (hv : Utf8.valid (k : Int) = true) : (Utf8.encode k).data.toList = encodeRune k := by
  unfold encodeRune
  rcases enc_cases k hv with ⟨h, e⟩ | ⟨h1, h2, e⟩ | ⟨h1, h2, h3, e⟩ | ⟨h1, h2, e⟩
  · rw [e, encodeRuneZ_one (by omega) (by omega)]
    rfl
  · rw [e, encodeRuneZ_two (by omega) (by omega)]
    simp only [List.map_cons, List.map_nil]
    rw [show ((192 : Int) + k / 64).toNat = 192 + k / 64 from by omega, show ((128 : Int) + k % 64).toNat = 128 + k % 64 from by omega]
  · rw [e, encodeRuneZ_three (by omega)]
    simp only [List.map_cons, List.map_nil]
    rw [show ((224 : Int) + k / 4096).toNat = 224 + k / 4096 from by omega, show ((128 : Int) + k / 64 % 64).toNat = 128 + k / 64 % 64 from by omega, show ((128 : Int) + k % 64).toNat = 128 + k % 64 from by omega]
  · rw [e, encodeRuneZ_four (by omega) (by omega)]
    simp only [List.map_cons, List.map_nil]
    rw [show ((240 : Int) + k / 262144).toNat = 240 + k / 262144 from by omega, show ((128 : Int) + k / 4096 % 64).toNat = 128 + k / 4096 % 64 from by omega, show ((128 : Int) + k / 64 % 64).toNat = 128 + k / 64 % 64 from by omega, show ((128 : Int) + k % 64).toNat = 128 + k % 64 from by omega]

theorem bytes_ext {a b : ByteArray} (h : a.data.toList = b.data.toList) : a = b := by
  obtain ⟨⟨a⟩⟩ := a
  obtain ⟨⟨b⟩⟩ := b
  simp at h
  rw [h]

/-- A unit's code's bytes are the text there. -/
theorem bytes_unit (s : ByteArray) (p : Nat) (hne : s.data.toList.drop p ≠ []) (hb : uBad (s.data.toList.drop p) = false) :
    bytesOf (uCode (s.data.toList.drop p)) = s.extract p (p + (decodeL (s.data.toList.drop p)).2) := by
  have hv := decode_valid (s.data.toList.drop p)
  have hnb : ¬ ((decodeL (s.data.toList.drop p)).1 = 65533 ∧ (decodeL (s.data.toList.drop p)).2 = 1) := by simpa [uBad] using hb
  have hc : uCode (s.data.toList.drop p) = ((decodeL (s.data.toList.drop p)).1 : Int) := by simp [uCode, hb]
  rw [hc, bytesOf, if_pos hv]
  apply bytes_ext
  rw [encode_rune _ hv, encode_decode _ hne hnb, Lib.extract_data, Nat.add_sub_cancel_left]

theorem cells3 : ∀ (us : List (Nat × Nat × Int)) (k : Nat) (u : Nat × Nat × Int), us[k]? = some u →
    (us.flatMap uCells)[k * 3]? = some (.int .i64 u.1) ∧ (us.flatMap uCells)[k * 3 + 1]? = some (.int .i64 u.2.1) ∧ (us.flatMap uCells)[k * 3 + 2]? = some (.int .i64 u.2.2)
  | [], k, u, h => by simp at h
  | x :: us, 0, u, h => by
    simp at h; subst h
    simp [uCells]
  | x :: us, k + 1, u, h => by
    have ih := cells3 us k u (by simpa using h)
    have e : (x :: us).flatMap uCells = uCells x ++ us.flatMap uCells := rfl
    have hl : (uCells x).length = 3 := rfl
    rw [e]
    refine ⟨?_, ?_, ?_⟩
    · rw [List.getElem?_append_right (by omega), hl, show (k + 1) * 3 - 3 = k * 3 by omega]; exact ih.1
    · rw [List.getElem?_append_right (by omega), hl, show (k + 1) * 3 + 1 - 3 = k * 3 + 1 by omega]; exact ih.2.1
    · rw [List.getElem?_append_right (by omega), hl, show (k + 1) * 3 + 2 - 3 = k * 3 + 2 by omega]; exact ih.2.2

theorem width_le4 (l : List UInt8) : (decodeL l).2 ≤ 4 := by
  rw [decodeL_N]
  rcases decodeN_shape l.length (l.getD 0 0).toNat (l.getD 1 0).toNat (l.getD 2 0).toNat (l.getD 3 0).toNat with ⟨c, e⟩ | ⟨c1, c2, c3, cv, e⟩ | ⟨c1, c2, c3, c4, cv, cs, e⟩ | ⟨c1, c2, c3, c4, c5, cv, cw, e⟩ | e
  all_goals (rw [e]; dsimp only; omega)

/-- What stands at the k-th place of a list of units, where the rest is the units from p on. -/
theorem unit_at (us : List (Nat × Nat × Int)) (k p : Nat) (d : List UInt8) (h : us.drop k = units p d) (hne : d ≠ []) :
    us[k]? = some (p, (decodeL d).2, uCode d) ∧ us.drop (k + 1) = units (p + (decodeL d).2) (d.drop (decodeL d).2) ∧ k < us.length := by
  rw [units_step p d hne] at h
  have h0 : us[k]? = some (p, (decodeL d).2, uCode d) := by
    have := congrArg (·[0]?) h
    simpa [List.getElem?_drop] using this
  refine ⟨h0, ?_, (List.getElem?_eq_some_iff.1 h0).1⟩
  have := congrArg (List.drop 1) h
  rw [List.drop_drop] at this
  simpa using this

/-- All, by its length alone. -/
theorem all_len (s : ByteArray) (w : World) (hs : s.size ≤ 1000000000000) (n : Nat) (hn : n = (units 0 s.data.toList).length) :
    Calls Tryd.prog 13 #[.string s] w fun e w' => ∃ A cap, e = .returned (.slice A n cap) ∧ Below w.heap.size w w' := by
  subst hn
  refine (all_any s w hs).mono ?_
  rintro e w' ⟨v, he, ho, hb⟩
  rcases ho.2 with ⟨rfl, h0⟩ | ⟨g, cap, cur, rfl, _⟩
  · exact ⟨_, _, by rw [he, h0], hb⟩
  · exact ⟨_, _, he, hb⟩
end Go.Proofs.YtfenpcddmdopdaaDoor
