/- rule's form, letter, isLetter, wordOf, with, goTogether by contract. -/
import Derived.Test.YteenleedonmkmaaDoorRPlain
import Derived.OwnWalk
namespace Go.Proofs.YteenleedonmkmaaDoor
open Go Go.RowKit Go.Lib

theorem r_toL (s : ByteArray) : s.toList = s.data.toList := by rw [ByteArray.toList_eq]

set_option maxRecDepth 100000 in
set_option maxHeartbeats 1000000 in
theorem rl_any (k : Int) (w : World) :
    Calls Tryd.prog 51 #[.int .i64 k] w fun e w' => e = .returned (.bool (letterB k)) ∧ w' = w := by
  unfold letterB
  by_cases c1 : 97 ≤ k
  · by_cases c2 : k ≤ 122
    · rw [decide_eq_true (.inl ⟨c1, c2⟩)]
      go_enter Tryd.func51, Tryd.ntmps51
      go_wp2_with fail
      go_ret
      exact ⟨rfl, rfl⟩
    · rw [decide_eq_false (by omega)]
      have d3 : 65 ≤ k := by omega
      have d4 : ¬ k ≤ 90 := by omega
      go_enter Tryd.func51, Tryd.ntmps51
      go_wp2_with fail
      go_ret
      exact ⟨rfl, rfl⟩
  · by_cases c2 : 65 ≤ k
    · by_cases c3 : k ≤ 90
      · rw [decide_eq_true (.inr ⟨c2, c3⟩)]
        go_enter Tryd.func51, Tryd.ntmps51
        go_wp2_with fail
        go_ret
        exact ⟨rfl, rfl⟩
      · rw [decide_eq_false (by omega)]
        go_enter Tryd.func51, Tryd.ntmps51
        go_wp2_with fail
        go_ret
        exact ⟨rfl, rfl⟩
    · rw [decide_eq_false (by omega)]
      go_enter Tryd.func51, Tryd.ntmps51
      go_wp2_with fail
      go_ret
      exact ⟨rfl, rfl⟩

theorem letter_flag (b : UInt8) : decide (flagL [b] ≠ 0) = letterB b.toNat ∧ (flagL [b] ≠ 0 → (b.toNat : Int) = flagL [b]) := by
  have hd : flagL [b] = if (97 ≤ b.toNat ∧ b.toNat ≤ 122) ∨ (65 ≤ b.toNat ∧ b.toNat ≤ 90) then (b.toNat : Int) else 0 := rfl
  unfold letterB
  rw [hd]
  by_cases h : (97 ≤ b.toNat ∧ b.toNat ≤ 122) ∨ (65 ≤ b.toNat ∧ b.toNat ≤ 90)
  · rw [if_pos h]
    exact ⟨by rw [decide_eq_true (by omega), decide_eq_true (by omega)], fun _ => rfl⟩
  · rw [if_neg h]
    exact ⟨by rw [decide_eq_false (by simp), decide_eq_false (by omega)], fun h2 => absurd rfl h2⟩
theorem flag_none {x : List UInt8} (h : x.length ≠ 1) : flagL x = 0 := by
  match x, h with
  | [], _ => rfl
  | _ :: _ :: _, _ => rfl

/-- What letter answers. -/
def LetterE (e : Ending) (L : List UInt8) : Prop := ∃ k, e = .returned (.tuple #[.int .i64 k, .bool (decide (flagL L ≠ 0))]) ∧ (flagL L ≠ 0 → k = flagL L)

set_option maxRecDepth 100000 in
set_option maxHeartbeats 1000000 in
theorem rletter_any (s : ByteArray) (w : World) (_hs : s.size ≤ 1000000000000) :
    Calls Tryd.prog 40 #[.string s] w fun e w' => LetterE e s.data.toList ∧ Below w.heap.size w w' := by
  by_cases h1 : s.size = 1
  · obtain ⟨b, hb⟩ : ∃ b, s.data.toList = [b] := by
      have : s.data.toList.length = 1 := by rw [← Lib.size_eq]; exact h1
      exact List.length_eq_one_iff.1 this
    have hk : 0 < s.size := by omega
    have hget : s[0]'hk = b := by
      have h2 : s.data.toList[0]? = s.data[0]? := Array.getElem?_toList
      rw [hb] at h2
      have h3 : s.data[0]? = some (s.data[0]'hk) := Array.getElem?_eq_getElem hk
      rw [h3] at h2
      exact (Option.some.inj h2).symm
    rw [hb]
    have hi : ((s.size : Int) == 1) = true := by rw [h1]; rfl
    have hi2 : (0 : Int) < s.size := by omega
    have hgx : (s[0]'hk).toNat = b.toNat := by rw [hget]
    have hlt : b.toNat < 256 := b.toNat_lt
    have wr : IntKind.i64.wrap (b.toNat : Int) = (b.toNat : Int) := IntWalk.i64_in _ (by omega)
    have C := Lib.hid (fun wx => rl_any (b.toNat : Int) wx)
    have HL := Lib.hid (letter_flag b)
    clear hb hget
    go_enter Tryd.func40, Tryd.ntmps40
    go_wp2_with fail
    go_quiet ((go_at_call 51; refine (C.out _).mono ?_; rintro e w2 ⟨rfl, rfl⟩; exact ⟨rfl, _, rfl⟩))
    go_wp2_with fail
    go_ret2
    exact ⟨⟨(b.toNat : Int), by rw [HL.out.1]; rfl, HL.out.2⟩, below_drewN (Below.refl _ _) _⟩
  · have hz : flagL s.data.toList = 0 := flag_none (by rw [← Lib.size_eq]; exact h1)
    have hi : ((s.size : Int) == 1) = false := by simp; omega
    have HZ := Lib.hid hz
    clear h1 hz
    go_enter Tryd.func40, Tryd.ntmps40
    go_wp2_with fail
    go_ret2
    exact ⟨⟨0, by rw [HZ.out]; rfl, fun h => absurd HZ.out h⟩, Below.refl _ _⟩

set_option maxRecDepth 100000 in
set_option maxHeartbeats 1000000 in
theorem rwordOf_any (s : ByteArray) (w : World) :
    Calls Tryd.prog 30 #[.string s] w fun e w' => e = .returned (.string ⟨(or0L s).toArray⟩) ∧ w' = w := by
  go_enter Tryd.func30, Tryd.ntmps30
  go_wp2_with fail
  · rename_i h
    go_ret
    refine ⟨?_, rfl⟩
    have h2 : s.data.toList = [] := by rw [← r_toL]; simpa using h
    show Ending.returned (.string ⟨#[48]⟩) = _
    unfold or0L
    rw [if_pos h2]
  · rename_i h
    go_ret
    refine ⟨?_, rfl⟩
    have h2 : s.data.toList ≠ [] := by rw [← r_toL]; simpa using h
    show Ending.returned (.string s) = _
    unfold or0L
    rw [if_neg h2, r_mk]

/-! ### form: the first and the third word -/
def formL (a c : List UInt8) : List UInt8 := a ++ 32 :: c
theorem form_cut {a c p q : List UInt8} (hp : (32 : UInt8) ∉ p) (hq : (32 : UInt8) ∉ q) : (a ++ 32 :: c = p ++ 32 :: q) ↔ (a = p ∧ c = q) := by
  refine ⟨fun h => ?_, fun ⟨h1, h2⟩ => by rw [h1, h2]⟩
  have hw : wordsL (a ++ 32 :: c) = [p, q] := by rw [h, wordsL_app _ _ hp, wordsL_one _ hq]
  have hn : (wordsL (a ++ 32 :: c)).length = 2 := by rw [hw]; rfl
  rw [wordsL_count] at hn
  simp only [List.count_append, List.count_cons_self] at hn
  have ha : (32 : UInt8) ∉ a := List.count_eq_zero.1 (by omega)
  have hc : (32 : UInt8) ∉ c := List.count_eq_zero.1 (by omega)
  rw [wordsL_app _ _ ha, wordsL_one _ hc] at hw
  exact ⟨(List.cons.inj hw).1, (List.cons.inj (List.cons.inj hw).2).1⟩
/-- What form answers. -/
def fP (a c : List UInt8) : Bool := decide (a = pfx ∧ (c = [89] ∨ c = [78]))
def fX (a c : List UInt8) : Bool := decide ((a = pfx ∨ a = sfx) ∧ c = [89])
def fO (a c : List UInt8) : Bool := decide ((a = pfx ∨ a = sfx) ∧ (c = [89] ∨ c = [78]))
def FormE (e : Ending) (a c : List UInt8) : Prop := e = .returned (.tuple #[.bool (fP a c), .bool (fX a c), .bool (fO a c)])
theorem FormE.mk {a c : List UInt8} {p x o : Bool} (h1 : fP a c = p) (h2 : fX a c = x) (h3 : fO a c = o) : FormE (.returned (.tuple #[.bool p, .bool x, .bool o])) a c := by subst h1 h2 h3; rfl

theorem r_app (a b : ByteArray) : (a ++ b).data.toList = a.data.toList ++ b.data.toList := by
  rw [ByteArray.data_append, Array.toList_append]

set_option maxRecDepth 100000 in
set_option maxHeartbeats 2000000 in
theorem rform_any (a c : ByteArray) (w : World) (ha : a.size ≤ 1000000000000) (hc : c.size ≤ 1000000000000) :
    Calls Tryd.prog 39 #[.string a, .string c] w fun e w' => FormE e a.data.toList c.data.toList ∧ w' = w := by
  have hT : ((a ++ ⟨#[32]⟩) ++ c).toList = a.data.toList ++ 32 :: c.data.toList := by
    rw [r_toL, r_app, r_app, List.append_assoc]; rfl
  have q1 : ¬ 9223372036854775807 < a.size + 1 := by omega
  have q2 : (a ++ (⟨#[32]⟩ : ByteArray)).size = a.size + 1 := by rw [ByteArray.size_append]; rfl
  have q3 : ¬ 9223372036854775807 < a.size + 1 + c.size := by omega
  have k1 := form_cut (a := a.data.toList) (c := c.data.toList) (p := pfx) (q := [89]) (by decide) (by decide)
  have k2 := form_cut (a := a.data.toList) (c := c.data.toList) (p := pfx) (q := [78]) (by decide) (by decide)
  have k3 := form_cut (a := a.data.toList) (c := c.data.toList) (p := sfx) (q := [89]) (by decide) (by decide)
  have k4 := form_cut (a := a.data.toList) (c := c.data.toList) (p := sfx) (q := [78]) (by decide) (by decide)
  have K := Lib.hid (And.intro (And.intro k1 k2) (And.intro k3 k4))
  have e1 : (((a ++ (⟨#[32]⟩ : ByteArray)) ++ c).toList == [80, 70, 88, 32, 89]) = decide (a.data.toList = pfx ∧ c.data.toList = [89]) := by
    rw [Bool.eq_iff_iff, beq_iff_eq, decide_eq_true_eq, hT]; exact k1
  have e2 : (((a ++ (⟨#[32]⟩ : ByteArray)) ++ c).toList == [80, 70, 88, 32, 78]) = decide (a.data.toList = pfx ∧ c.data.toList = [78]) := by
    rw [Bool.eq_iff_iff, beq_iff_eq, decide_eq_true_eq, hT]; exact k2
  have e3 : (((a ++ (⟨#[32]⟩ : ByteArray)) ++ c).toList == [83, 70, 88, 32, 89]) = decide (a.data.toList = sfx ∧ c.data.toList = [89]) := by
    rw [Bool.eq_iff_iff, beq_iff_eq, decide_eq_true_eq, hT]; exact k3
  have e4 : (((a ++ (⟨#[32]⟩ : ByteArray)) ++ c).toList == [83, 70, 88, 32, 78]) = decide (a.data.toList = sfx ∧ c.data.toList = [78]) := by
    rw [Bool.eq_iff_iff, beq_iff_eq, decide_eq_true_eq, hT]; exact k4
  clear k1 k2 k3 k4 hT K
  obtain ⟨A, hA⟩ : ∃ A, A = a.data.toList := ⟨_, rfl⟩
  obtain ⟨C, hC⟩ : ∃ C, C = c.data.toList := ⟨_, rfl⟩
  rw [← hA, ← hC] at e1 e2 e3 e4 ⊢
  clear hA hC
  by_cases c1 : A = pfx ∧ C = [89]
  · rw [decide_eq_true c1] at e1
    go_enter Tryd.func39, Tryd.ntmps39
    go_wp2_with fail
    go_ret3
    exact ⟨FormE.mk (by obtain ⟨rfl, rfl⟩ := c1; decide) (by obtain ⟨rfl, rfl⟩ := c1; decide) (by obtain ⟨rfl, rfl⟩ := c1; decide), rfl⟩
  rw [decide_eq_false c1] at e1
  by_cases c2 : A = pfx ∧ C = [78]
  · rw [decide_eq_true c2] at e2
    go_enter Tryd.func39, Tryd.ntmps39
    go_wp2_with fail
    go_ret3
    exact ⟨FormE.mk (by obtain ⟨rfl, rfl⟩ := c2; decide) (by obtain ⟨rfl, rfl⟩ := c2; decide) (by obtain ⟨rfl, rfl⟩ := c2; decide), rfl⟩
  rw [decide_eq_false c2] at e2
  by_cases c3 : A = sfx ∧ C = [89]
  · rw [decide_eq_true c3] at e3
    go_enter Tryd.func39, Tryd.ntmps39
    go_wp2_with fail
    go_ret3
    exact ⟨FormE.mk (by obtain ⟨rfl, rfl⟩ := c3; decide) (by obtain ⟨rfl, rfl⟩ := c3; decide) (by obtain ⟨rfl, rfl⟩ := c3; decide), rfl⟩
  rw [decide_eq_false c3] at e3
  by_cases c4 : A = sfx ∧ C = [78]
  · rw [decide_eq_true c4] at e4
    go_enter Tryd.func39, Tryd.ntmps39
    go_wp2_with fail
    go_ret3
    exact ⟨FormE.mk (by obtain ⟨rfl, rfl⟩ := c4; decide) (by obtain ⟨rfl, rfl⟩ := c4; decide) (by obtain ⟨rfl, rfl⟩ := c4; decide), rfl⟩
  rw [decide_eq_false c4] at e4
  go_enter Tryd.func39, Tryd.ntmps39
  go_wp2_with fail
  go_ret3
  have c0 : fO A C = false := by
    unfold fO
    refine decide_eq_false ?_
    rintro ⟨h1 | h1, h2 | h2⟩
    · exact c1 ⟨h1, h2⟩
    · exact c2 ⟨h1, h2⟩
    · exact c3 ⟨h1, h2⟩
    · exact c4 ⟨h1, h2⟩
  have h0 : ¬ ((A = pfx ∨ A = sfx) ∧ (C = [89] ∨ C = [78])) := of_decide_eq_false c0
  exact ⟨FormE.mk (decide_eq_false fun h => h0 ⟨.inl h.1, h.2⟩) (decide_eq_false fun h => h0 ⟨h.1, .inl h.2⟩) c0, rfl⟩

end Go.Proofs.YteenleedonmkmaaDoor
