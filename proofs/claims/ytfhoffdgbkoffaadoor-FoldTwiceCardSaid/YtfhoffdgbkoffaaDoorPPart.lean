/- The document's Flag, part, or0, starts, ends of chapter 10 by contract. -/
import Derived.Test.YtfhoffdgbkoffaaDoorPWords
import Derived.Test.YtfhoffdgbkoffaaDoorRefCodes
namespace Go.Proofs.YtfhoffdgbkoffaaDoor
open Go Go.RowKit Go.Lib

theorem rvalid_any (s : ByteArray) (w : World) (hs : s.size ≤ 1000000000000) :
    Calls Tryd.prog 37 #[.string s] w fun e w' => e = .returned (.bool (validD s.data.toList)) ∧ Below w.heap.size w w' := by
  have C := Lib.hid (rcodes_any s w hs)
  go_enter Tryd.func37, Tryd.ntmps37
  go_wp2_with (go_at_call 24; refine C.out.mono ?_)
  rintro e w1 ⟨v, rfl, -, hb⟩
  have HB := Lib.hid hb
  clear hb
  go_wp2_with fail
  go_ret
  exact ⟨rfl, HB.out⟩

theorem ret_bool10 {a b : Bool} (h : a = b) : Ending.returned (.bool a) = .returned (.bool b) := by rw [h]
theorem toL_data (s : ByteArray) : s.toList = s.data.toList := by rw [ByteArray.toList_eq]
theorem flagL_one (b : UInt8) : flagL [b] = if (97 ≤ b.toNat ∧ b.toNat ≤ 122) ∨ (65 ≤ b.toNat ∧ b.toNat ≤ 90) then (b.toNat : Int) else 0 := rfl
theorem flagL_not {x : List UInt8} (h : x.length ≠ 1) : flagL x = 0 := by
  match x, h with
  | [], _ => rfl
  | _ :: _ :: _, _ => rfl
theorem ba_size (x : List UInt8) : (⟨x.toArray⟩ : ByteArray).size = x.length := by show x.toArray.size = _; rw [List.size_toArray]

set_option maxRecDepth 100000 in
set_option maxHeartbeats 1000000 in
theorem rflag_any (s : ByteArray) (w : World) (_hs : s.size ≤ 1000000000000) :
    Calls Tryd.prog 27 #[.string s] w fun e w' => e = .returned (.int .i64 (flagL s.data.toList)) ∧ w' = w := by
  by_cases h1 : s.size = 1
  · obtain ⟨b, hb⟩ : ∃ b, s.data.toList = [b] := by
      have : s.data.toList.length = 1 := by rw [← Lib.size_eq]; exact h1
      exact List.length_eq_one_iff.1 this
    have hk : 0 < s.size := by omega
    have hget : s[0]'hk = b := by
      have h2 : s.data.toList[0]? = s.data[0]? := Array.getElem?_toList
      rw [hb] at h2
      have h3 : s.data[0]? = some (s.data[0]'hk) := Array.getElem?_eq_getElem hk
      rw [h3] at h2
      exact (Option.some.inj h2).symm
    rw [hb, flagL_one]
    have hi : ((s.size : Int) == 1) = true := by rw [h1]; rfl
    have hi2 : (0 : Int) < s.size := by omega
    obtain ⟨x, hx⟩ : ∃ x, x = b.toNat := ⟨_, rfl⟩
    have hgx : (s[0]'hk).toNat = x := by rw [hget, hx]
    have hlt : x < 256 := by rw [hx]; exact b.toNat_lt
    rw [← hx]
    clear hb hget hx
    by_cases c1 : 97 ≤ x
    · by_cases c2 : x ≤ 122
      · rw [if_pos (.inl ⟨c1, c2⟩)]
        have d1 : (97 : Int) ≤ x := by omega
        have d2 : (x : Int) ≤ 122 := by omega
        go_enter Tryd.func27, Tryd.ntmps27
        go_wp2_with fail
        go_ret
        exact ⟨rfl, rfl⟩
      · rw [if_neg (by omega)]
        have d1 : (97 : Int) ≤ x := by omega
        have d2 : ¬ (x : Int) ≤ 122 := by omega
        have d3 : (65 : Int) ≤ x := by omega
        have d4 : ¬ (x : Int) ≤ 90 := by omega
        go_enter Tryd.func27, Tryd.ntmps27
        go_wp2_with fail
        go_ret
        exact ⟨rfl, rfl⟩
    · have d1 : ¬ (97 : Int) ≤ x := by omega
      by_cases c2 : 65 ≤ x
      · have d3 : (65 : Int) ≤ x := by omega
        by_cases c3 : x ≤ 90
        · rw [if_pos (.inr ⟨c2, c3⟩)]
          have d4 : (x : Int) ≤ 90 := by omega
          go_enter Tryd.func27, Tryd.ntmps27
          go_wp2_with fail
          go_ret
          exact ⟨rfl, rfl⟩
        · rw [if_neg (by omega)]
          have d4 : ¬ (x : Int) ≤ 90 := by omega
          go_enter Tryd.func27, Tryd.ntmps27
          go_wp2_with fail
          go_ret
          exact ⟨rfl, rfl⟩
      · rw [if_neg (by omega)]
        have d3 : ¬ (65 : Int) ≤ x := by omega
        go_enter Tryd.func27, Tryd.ntmps27
        go_wp2_with fail
        go_ret
        exact ⟨rfl, rfl⟩
  · rw [flagL_not (by rw [← Lib.size_eq]; exact h1)]
    have hi : ((s.size : Int) == 1) = false := by simp; omega
    clear h1
    go_enter Tryd.func27, Tryd.ntmps27
    go_wp2_with fail
    go_ret
    exact ⟨rfl, rfl⟩

set_option maxRecDepth 100000 in
set_option maxHeartbeats 1000000 in
theorem rpart_any (s : ByteArray) (w : World) (hs : s.size ≤ 1000000000000) :
    Calls Tryd.prog 28 #[.string s] w fun e w' => (∃ t, e = .returned (.tuple #[.string t, .bool (partL s.data.toList).isSome]) ∧ ∀ u, partL s.data.toList = some u → t = u) ∧ Below w.heap.size w w' := by
  have V := Lib.hid (rvalid_any s w hs)
  go_enter Tryd.func28, Tryd.ntmps28
  go_wp2_with (go_at_call 37; refine V.out.mono ?_; rintro e w1 ⟨rfl, hb⟩)
  · rename_i h
    go_ret2
    have h2 : s.data.toList = [48] := by rw [← toL_data]; simpa using h
    have hp : partL s.data.toList = some ⟨#[]⟩ := by unfold partL; rw [if_pos h2]
    rw [hp]
    exact ⟨⟨_, rfl, fun u hu => Option.some.inj hu⟩, Below.refl _ _⟩
  · rename_i h1 h
    go_ret2
    have h2 : s.data.toList = [] := by rw [← toL_data]; exact h
    have hp : partL s.data.toList = none := by unfold partL; rw [if_neg (by rw [h2]; simp), if_neg (by rw [h2]; simp)]
    rw [hp]
    exact ⟨⟨_, rfl, fun u hu => by cases hu⟩, Below.refl _ _⟩
  · rename_i h1 h2 h3
    go_ret2
    have h4 : ¬ s.data.toList = [48] := by rw [← toL_data]; simpa using h1
    have h5 : ¬ s.data.toList = [] := by rw [← toL_data]; exact h2
    have h6 : s.toList.isEmpty = false := by simpa using h2
    have h7 : s.data.toList.length ≤ 20 := by rw [← Lib.size_eq]; omega
    cases hv : validD s.data.toList with
    | true =>
      have hp : partL s.data.toList = some s := by unfold partL; rw [if_neg h4, if_pos ⟨h5, h7, hv⟩, ba_list]
      rw [hp]
      refine ⟨⟨s, ?_, fun u hu => Option.some.inj hu⟩, hb⟩
      show Ending.returned (.tuple #[.string s, .bool (!s.toList.isEmpty && true)]) = _
      rw [h6]
      rfl
    | false =>
      have hp : partL s.data.toList = none := by unfold partL; rw [if_neg h4, if_neg (by rw [hv]; simp)]
      rw [hp]
      refine ⟨⟨s, ?_, fun u hu => by cases hu⟩, hb⟩
      show Ending.returned (.tuple #[.string s, .bool (!s.toList.isEmpty && false)]) = _
      rw [h6]
      rfl
  · rename_i h1 h2 h3
    go_ret2
    have h4 : ¬ s.data.toList = [48] := by rw [← toL_data]; simpa using h1
    have h7 : ¬ s.data.toList.length ≤ 20 := by rw [← Lib.size_eq]; omega
    have hp : partL s.data.toList = none := by unfold partL; rw [if_neg h4, if_neg (fun h => h7 h.2.1)]
    rw [hp]
    exact ⟨⟨_, rfl, fun u hu => by cases hu⟩, Below.refl _ _⟩

/-- A text begins, ends with another one. -/
def begins (s t : ByteArray) : Bool := decide (t.size ≤ s.size ∧ s.extract 0 t.size = t)
def endsW (s t : ByteArray) : Bool := decide (t.size ≤ s.size ∧ s.extract (s.size - t.size) s.size = t)
theorem ba_beq (a b : ByteArray) : (a.toList == b.toList) = decide (a = b) := by
  rw [Bool.eq_iff_iff, beq_iff_eq, decide_eq_true_eq, toL_data, toL_data]
  constructor
  · intro h
    rw [← ba_list a, h, ba_list]
  · intro h; rw [h]

end Go.Proofs.YtfhoffdgbkoffaaDoor
