/- rule's isWord, sayable, textOf, isCondition, Check by contract. -/
import Derived.Test.YteenleedonmkmaaGreatDoorMRule
import Derived.Test.YteenleedonmkmaaGreatDoorOText
namespace Go.Proofs.YteenleedonmkmaaGreatDoor
open Go Go.RowKit Go.Lib

theorem r_index : IndexSays := fun s w => Tryz.strings_Index_one s 32 w
theorem blank_in (l : List UInt8) : decide (0 ≤ Lib.indexByte l 32) = decide ((32 : UInt8) ∈ l) := by
  by_cases h : (32 : UInt8) ∈ l
  · rw [decide_eq_true h, idx_some h]; exact decide_eq_true (by omega)
  · rw [decide_eq_false h, idx_none h]; rfl
theorem rcontains_any (s : ByteArray) (w : World) :
    Calls Tryz.prog 97 #[.string s, .string ⟨#[32]⟩] w fun e w' => e = .returned (.bool (decide ((32 : UInt8) ∈ s.data.toList))) ∧ w' = w := by
  have := Tryz.strings_Contains_one s 32 w
  rwa [blank_in] at this

set_option maxRecDepth 100000 in
set_option maxHeartbeats 1000000 in
theorem rword_any (s : ByteArray) (w : World) (hs : s.size ≤ 1000000000000) (hT : Lib.Utf8Tabs 1 2 w) :
    Calls Tryz.prog 83 #[.string s] w fun e w' => e = .returned (.bool (wordB s)) ∧ Below w.heap.size w w' := by
  have C := Lib.hid (codes_any s w hs hT)
  have CX := Lib.hid (fun wx => rcontains_any s wx)
  clear hT
  cases hv : validD s.data.toList with
  | false =>
    have hw : wordB s = false := by unfold wordB; rw [hv]; simp
    rw [hv] at C
    rw [hw]
    clear hv hw
    go_enter Tryz.func83, Tryz.ntmps83
    go_wp2_with (go_at_call 56; refine C.out.mono ?_)
    rintro e w1 ⟨v, rfl, -, hb⟩
    have HB := Lib.hid hb
    clear hb
    go_wp2_with fail
    go_ret
    exact ⟨rfl, HB.out⟩
  | true =>
    have hw : wordB s = !decide ((32 : UInt8) ∈ s.data.toList) := by
      unfold wordB; rw [hv]; by_cases h : (32 : UInt8) ∈ s.data.toList <;> simp [h]
    rw [hv] at C
    rw [hw]
    obtain ⟨b, hb⟩ : ∃ b, b = decide ((32 : UInt8) ∈ s.data.toList) := ⟨_, rfl⟩
    rw [← hb] at CX ⊢
    clear hv hw hb
    go_enter Tryz.func83, Tryz.ntmps83
    go_wp2_with (go_at_call 56; refine C.out.mono ?_)
    rintro e w1 ⟨v, rfl, -, hb⟩
    have HB := Lib.hid hb
    clear hb
    go_wp2_with (go_at_call 97; refine (CX.out _).mono ?_; rintro e w2 ⟨rfl, rfl⟩)
    go_ret
    exact ⟨rfl, HB.out⟩

theorem say_cases (s : ByteArray) : sayB s = (!(s.toList == [48]) && decide (s.size ≤ 20) && wordB s) := by
  unfold sayB
  rw [r_toL]
  by_cases h1 : s.data.toList = [48] <;> by_cases h2 : s.size ≤ 20 <;> cases h3 : wordB s <;> simp [h1, h2]

set_option maxRecDepth 100000 in
set_option maxHeartbeats 1000000 in
theorem rsay_any (s : ByteArray) (w : World) (hs : s.size ≤ 1000000000000) (hT : Lib.Utf8Tabs 1 2 w) :
    Calls Tryz.prog 66 #[.string s] w fun e w' => e = .returned (.bool (sayB s)) ∧ Below w.heap.size w w' := by
  have C := Lib.hid (rword_any s w hs hT)
  rw [say_cases]
  obtain ⟨b, hb⟩ : ∃ b, b = wordB s := ⟨_, rfl⟩
  rw [← hb] at C ⊢
  clear hT hb
  cases h1 : (s.toList == [48]) with
  | true =>
    go_enter Tryz.func66, Tryz.ntmps66
    go_wp2_with fail
    go_ret
    exact ⟨rfl, Below.refl _ _⟩
  | false =>
    by_cases h2 : (s.size : Int) ≤ 20
    · rw [decide_eq_true (show s.size ≤ 20 by omega)]
      go_enter Tryz.func66, Tryz.ntmps66
      go_wp2_with (go_at_call 83; refine C.out.mono ?_)
      rintro e w1 ⟨rfl, hb⟩
      have HB := Lib.hid hb
      clear hb
      go_wp2_with fail
      go_ret
      exact ⟨rfl, HB.out⟩
    · rw [decide_eq_false (show ¬ s.size ≤ 20 by omega)]
      go_enter Tryz.func66, Tryz.ntmps66
      go_wp2_with fail
      go_ret
      exact ⟨rfl, Below.refl _ _⟩

/-- What textOf answers of a word. -/
def TextE (e : Ending) (L : List UInt8) : Prop := ∃ t, e = .returned (.tuple #[.string t, .bool (partL L).isSome]) ∧ ∀ u, partL L = some u → t = u

set_option maxRecDepth 100000 in
set_option maxHeartbeats 1000000 in
theorem rtextOf_any (s : ByteArray) (w : World) (hs : s.size ≤ 1000000000000) (h32 : (32 : UInt8) ∉ s.data.toList) (hT : Lib.Utf8Tabs 1 2 w) :
    Calls Tryz.prog 53 #[.string s] w fun e w' => TextE e s.data.toList ∧ Below w.heap.size w w' := by
  have C := Lib.hid (rsay_any s w hs hT)
  have H32 := Lib.hid h32
  clear hT h32
  cases h1 : (s.toList == [48]) with
  | true =>
    have HP := Lib.hid (show partL s.data.toList = some ⟨#[]⟩ by
      have : s.data.toList = [48] := by rw [← r_toL]; simpa using h1
      unfold partL; rw [if_pos this])
    go_enter Tryz.func53, Tryz.ntmps53
    go_wp2_with fail
    go_ret2
    exact ⟨⟨⟨#[]⟩, by rw [HP.out]; rfl, fun u hu => Option.some.inj (HP.out.symm.trans hu)⟩, Below.refl _ _⟩
  | false =>
    have hn48 : ¬ s.data.toList = [48] := by rw [← r_toL]; simpa using h1
    cases h2 : s.toList.isEmpty with
    | true =>
      have HP := Lib.hid (show partL s.data.toList = none by
        have : s.data.toList = [] := by rw [← r_toL]; simpa using h2
        unfold partL; rw [if_neg hn48, if_neg (by rw [this]; simp)])
      clear hn48
      go_enter Tryz.func53, Tryz.ntmps53
      go_wp2_with fail
      go_ret2
      exact ⟨⟨s, by rw [HP.out]; rfl, fun u hu => by rw [HP.out] at hu; cases hu⟩, Below.refl _ _⟩
    | false =>
      have h0 : s.data.toList ≠ [] := by rw [← r_toL]; simpa using h2
      have HP := Lib.hid (show partL s.data.toList = if sayB s = true then some s else none by
        unfold partL sayB wordB
        rw [if_neg hn48]
        have hl := Lib.size_eq s
        by_cases hc : s.data.toList ≠ [] ∧ s.data.toList.length ≤ 20 ∧ validD s.data.toList = true
        · rw [if_pos hc, if_pos (by simp only [decide_eq_true_eq]; exact ⟨hn48, by omega, hc.2.2, H32.out⟩), r_mk]
        · rw [if_neg hc, if_neg (by simp only [decide_eq_true_eq]; exact fun h => hc ⟨h0, by omega, h.2.2.1⟩)])
      obtain ⟨b, hb⟩ : ∃ b, b = sayB s := ⟨_, rfl⟩
      rw [← hb] at C HP
      clear hn48 h0 hb
      go_enter Tryz.func53, Tryz.ntmps53
      go_wp2_with (go_at_call 66; refine C.out.mono ?_)
      rintro e w1 ⟨rfl, hb⟩
      have HB := Lib.hid hb
      clear hb
      go_wp2_with fail
      go_ret2
      refine ⟨⟨s, ?_, fun u hu => ?_⟩, HB.out⟩
      · rw [HP.out]; cases b <;> rfl
      · rw [HP.out] at hu
        cases b with
        | true => exact Option.some.inj hu
        | false => cases hu

/-- Items that are not too great for whoever checks them. -/
def SetsOk (l : List It) : Prop := ∀ it ∈ l, it.set.length ≤ 1000000000
theorem textG_size (l : List It) (h : SetsOk l) : (textG l).size ≤ 1000000000000 := by
  unfold textG
  split
  · rename_i hp
    have h8 := parseS_few hp
    have h1 := textC_len l h
    have h2 := ptL_len (textC l)
    rw [str_size]
    have h3 : l.length * (1000000000 + 3) ≤ 8 * (1000000000 + 3) := Nat.mul_le_mul_right _ h8
    omega
  · show (0 : Nat) ≤ _; omega

set_option maxRecDepth 100000 in
set_option maxHeartbeats 1000000 in
theorem rcond_any (w : World) (v : Value) (l : List It) (h : ItemsAt w v l) (hN : SetsOk l) (hT : Lib.Utf8Tabs 1 2 w) :
    Calls Tryz.prog 67 #[v] w fun e w' => e = .returned (.bool (condB l)) ∧ Below w.heap.size w w' := by
  have C := Lib.hid (text_any w v l h hN hT)
  obtain ⟨A, cap, rfl, -⟩ := items_openO h
  have CW := Lib.hid (fun wx (hb : Below w.heap.size w wx) => rword_any (textG l) wx (textG_size l hN) (tabs_below hT hb))
  have hc : condB l = (!(textG l).toList.isEmpty && wordB (textG l)) := by
    unfold condB
    rw [r_toL]
    cases (textG l).data.toList <;> cases wordB (textG l) <;> simp
  rw [hc]
  obtain ⟨n, hn⟩ : ∃ n, n = l.length := ⟨_, rfl⟩
  rw [← hn] at C ⊢
  obtain ⟨t, ht⟩ : ∃ t, t = textG l := ⟨_, rfl⟩
  rw [← ht] at C CW ⊢
  obtain ⟨b, hb⟩ : ∃ b, b = wordB t := ⟨_, rfl⟩
  rw [← hb] at CW ⊢
  clear h hN hT hc hn ht hb
  cases h2 : t.toList.isEmpty with
  | true =>
    go_enter Tryz.func67, Tryz.ntmps67
    go_wp2_with (go_at_call 42; refine C.out.mono ?_)
    rintro e w1 ⟨rfl, hb⟩
    have HB := Lib.hid hb
    clear hb
    go_wp2_with fail
    go_ret
    exact ⟨rfl, HB.out⟩
  | false =>
    go_enter Tryz.func67, Tryz.ntmps67
    go_wp2_with (go_at_call 42; refine C.out.mono ?_)
    rintro e w1 ⟨rfl, hb⟩
    have HB := Lib.hid hb
    clear hb
    go_wp2_with (go_at_call 83; refine (CW.out _ HB.out).mono ?_)
    rintro e w2 ⟨rfl, hb⟩
    have HB2 := Lib.hid (HB.out.trans (hb.mono HB.out.size))
    clear hb
    go_wp2_with fail
    go_ret
    exact ⟨rfl, HB2.out⟩

/-- A rule that is not too great. -/
structure FitR (r : Ru) : Prop where
  items : r.cond.length ≤ 100000
  sets : SetsOk r.cond
  strip : r.strip.size ≤ 1000000000
  add : r.add.size ≤ 1000000000

set_option maxRecDepth 100000 in
set_option maxHeartbeats 4000000 in
theorem rcheck_any (w : World) (v : Value) (r : Ru) (h : RuAt w v r) (hf : FitR r) (hT : Lib.Utf8Tabs 1 2 w) :
    Calls Tryz.prog 39 #[v] w fun e w' => e = .returned (.bool (checkB r)) ∧ Below w.heap.size w w' := by
  obtain ⟨A, cap, rfl, hi⟩ := h
  have hB0 := (Below.refl w.heap.size w).alloc (Nat.le_refl _) (.cells #[.bool r.pre, .int .i64 r.flag, .bool r.cross, .string r.strip, .string r.add, .slice A r.cond.length cap] 36)
  have CL := Lib.hid (fun wx => rl_any r.flag wx)
  have CS := Lib.hid (fun wx (hb : Below w.heap.size w wx) => rsay_any r.strip wx (by have := hf.strip; omega) (tabs_below hT hb))
  have CA := Lib.hid (fun wx (hb : Below w.heap.size w wx) => rsay_any r.add wx (by have := hf.add; omega) (tabs_below hT hb))
  have CC := Lib.hid (fun wx (hb : Below w.heap.size w wx) => rcond_any wx _ r.cond (hi.keep hb) hf.sets (tabs_below hT hb))
  obtain ⟨n, hn⟩ : ∃ n, n = r.cond.length := ⟨_, rfl⟩
  rw [← hn] at hB0 CC ⊢
  have HB := Lib.hid hB0
  unfold checkB
  obtain ⟨pre, flag, cross, strip, add, cond⟩ := r
  dsimp only at HB CL CS CA CC ⊢
  obtain ⟨b1, h1⟩ : ∃ b, b = letterB flag := ⟨_, rfl⟩
  obtain ⟨b2, h2⟩ : ∃ b, b = sayB strip := ⟨_, rfl⟩
  obtain ⟨b3, h3⟩ : ∃ b, b = sayB add := ⟨_, rfl⟩
  obtain ⟨b4, h4⟩ : ∃ b, b = condB cond := ⟨_, rfl⟩
  rw [← h1] at CL ⊢
  rw [← h2] at CS ⊢
  rw [← h3] at CA ⊢
  rw [← h4] at CC ⊢
  clear hi hf hT hn hB0 h1 h2 h3 h4
  cases b1 with
  | false =>
    go_enter Tryz.func39, Tryz.ntmps39
    go_wp2_with (go_at_call 65; refine (CL.out _).mono ?_; rintro e w1 ⟨rfl, rfl⟩)
    go_ret
    exact ⟨rfl, HB.out⟩
  | true =>
    go_enter Tryz.func39, Tryz.ntmps39
    go_wp2_with (first
      | (go_at_call 65; refine (CL.out _).mono ?_; rintro e w1 ⟨rfl, rfl⟩)
      | (go_at_call 66; refine (CS.out _ HB.out).mono ?_))
    rintro e w2 ⟨rfl, hb⟩
    obtain ⟨x0, x1, x2, x3, x4, x5⟩ := box6 hb
    have HB2 := Lib.hid (HB.out.trans (hb.mono HB.out.size))
    have HX := Lib.hid hb
    clear hb
    cases b2 with
    | false =>
      go_wp2_with fail
      go_ret
      exact ⟨rfl, HB2.out⟩
    | true =>
      go_wp2_with (go_at_call 66; refine (CA.out _ HB2.out).mono ?_)
      rintro e w3 ⟨rfl, hb⟩
      clear x0 x1 x2 x3 x4 x5
      obtain ⟨x0, x1, x2, x3, x4, x5⟩ := box6 (HX.out.trans (hb.mono HX.out.size))
      have HB3 := Lib.hid (HB2.out.trans (hb.mono HB2.out.size))
      clear hb
      cases b3 with
      | false =>
        go_wp2_with fail
        go_ret
        exact ⟨rfl, HB3.out⟩
      | true =>
        go_wp2_with (go_at_call 67; refine (CC.out _ HB3.out).mono ?_)
        rintro e w4 ⟨rfl, hb⟩
        have HB4 := Lib.hid (HB3.out.trans (hb.mono HB3.out.size))
        clear hb
        go_wp2_with fail
        go_ret
        exact ⟨by cases b4 <;> rfl, HB4.out⟩
end Go.Proofs.YteenleedonmkmaaGreatDoor
