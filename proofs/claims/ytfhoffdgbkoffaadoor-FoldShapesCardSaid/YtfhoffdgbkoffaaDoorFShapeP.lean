/- FoldShapes, plain. -/
import Derived.Test.YtfhoffdgbkoffaaDoorFPairP
namespace Go.Proofs.YtfhoffdgbkoffaaDoor
open Go Go.Lib

theorem fgreats_snoc (ps : List (Int × Int)) (cs : List Int) (c : Int) : greatsC ps (cs ++ [c]) = greatsC ps cs + if (smC ps c).isSome = true then 1 else 0 := by
  unfold greatsC
  rw [List.countP_append]
  simp [List.countP_cons]
theorem fsmalls_snoc (ps : List (Int × Int)) (cs : List Int) (c : Int) : smallsC ps (cs ++ [c]) = smallsC ps cs + if (grC ps c).isSome = true then 1 else 0 := by
  unfold smallsC
  rw [List.countP_append]
  simp [List.countP_cons]
theorem ffirst_snoc (ps : List (Int × Int)) (cs : List Int) (c : Int) : firstC ps (cs ++ [c]) = if cs = [] then (smC ps c).isSome else firstC ps cs := by
  cases cs with
  | nil => simp [firstC]
  | cons x t => simp [firstC]
def loS : ByteArray := ⟨#[97, 98, 99, 100, 101, 102, 103, 104, 105, 106, 107, 108, 109, 110, 111, 112, 113, 114, 115, 116, 117, 118, 119, 120, 121, 122, 97, 98, 99, 100]⟩
def upS : ByteArray := ⟨#[65, 66, 67, 68, 69, 70, 71, 72, 73, 74, 75, 76, 77, 78, 79, 80, 81, 82, 83, 84, 85, 86, 87, 88, 89, 90, 65, 66, 67, 68]⟩
def loN (i : Nat) : Nat := 97 + i % 26
def upN (i : Nat) : Nat := 65 + i % 26
theorem lo_at (i : Nat) (h : i < 30) : (loS.extract i (i + 1)).data.toList = [UInt8.ofNat (loN i)] := by
  have key : ∀ k : Fin 30, (loS.extract k.1 (k.1 + 1)).data.toList = [UInt8.ofNat (loN k.1)] := by decide +kernel
  exact key ⟨i, h⟩
theorem up_at (i : Nat) (h : i < 30) : (upS.extract i (i + 1)).data.toList = [UInt8.ofNat (upN i)] := by
  have key : ∀ k : Fin 30, (upS.extract k.1 (k.1 + 1)).data.toList = [UInt8.ofNat (upN k.1)] := by decide +kernel
  exact key ⟨i, h⟩
/-- The first j letters, small; great where B says so; how many are great. -/
def lowB : Nat → ByteArray
  | 0 => ⟨#[]⟩
  | j + 1 => lowB j ++ loS.extract j (j + 1)
def letB (B : Nat → Bool) (j : Nat) : ByteArray := if B j = true then upS.extract j (j + 1) else loS.extract j (j + 1)
def mixB (B : Nat → Bool) : Nat → ByteArray
  | 0 => ⟨#[]⟩
  | j + 1 => mixB B j ++ letB B j
def cntB (B : Nat → Bool) : Nat → Nat
  | 0 => 0
  | j + 1 => cntB B j + if B j = true then 1 else 0
theorem cnt_le (B : Nat → Bool) : ∀ j, cntB B j ≤ j
  | 0 => Nat.le_refl _
  | j + 1 => by
    have := cnt_le B j
    show cntB B j + (if B j = true then 1 else 0) ≤ _
    split <;> omega
theorem lowB_size : ∀ j, j ≤ 30 → (lowB j).size = j
  | 0, _ => rfl
  | j + 1, h => by
    have h1 := congrArg List.length (lo_at j (by omega))
    rw [← Lib.size_eq] at h1
    show (lowB j ++ loS.extract j (j + 1)).size = _
    rw [ByteArray.size_append, lowB_size j (by omega), h1]
    rfl
theorem letB_size (B : Nat → Bool) (j : Nat) (h : j < 30) : (letB B j).size = 1 := by
  unfold letB
  split
  · rw [Lib.size_eq, up_at j h]; rfl
  · rw [Lib.size_eq, lo_at j h]; rfl
theorem mixB_size (B : Nat → Bool) : ∀ j, j ≤ 30 → (mixB B j).size = j
  | 0, _ => rfl
  | j + 1, h => by
    show (mixB B j ++ letB B j).size = _
    rw [ByteArray.size_append, mixB_size B j (by omega), letB_size B j (by omega)]
/-- One byte more, below 128. -/
theorem one_more (l : List UInt8) (n : Nat) (h : n < 128) : cuts (l ++ [UInt8.ofNat n]) = cuts l ++ [([UInt8.ofNat n], (n : Int))] := by
  have hn : (UInt8.ofNat n).toNat = n := ofNat_toNat n (by omega)
  rw [cuts_app _ (Head.cons (by omega) []), cuts_ascii _ (by omega), hn]
  rfl
theorem codes_more (l : List UInt8) (n : Nat) (h : n < 128) : codesT (l ++ [UInt8.ofNat n]) = codesT l ++ [(n : Int)] := by
  unfold codesT
  rw [one_more l n h, List.map_append]
  rfl
theorem small_more (l : List UInt8) (n : Nat) (h : n < 128) : smallT [] (l ++ [UInt8.ofNat n]) = smallT [] l ++ pcS [] ([UInt8.ofNat n], (n : Int)) := by
  unfold smallT
  rw [one_more l n h, List.flatMap_append]
  simp
theorem sm_lo (i : Nat) : smC [] (loN i : Int) = none := by
  unfold smC loN
  simp only [List.find?_nil]
  rw [if_neg (by omega)]
theorem sm_up (i : Nat) : smC [] (upN i : Int) = some (loN i : Int) := by
  unfold smC upN loN
  simp only [List.find?_nil]
  rw [if_pos (by omega)]
  congr 1
  omega
theorem gr_lo (i : Nat) : (grC [] (loN i : Int)).isSome = true := by
  unfold grC loN
  simp only [List.find?_nil]
  rw [if_pos (by omega)]
  rfl
theorem gr_up (i : Nat) : grC [] (upN i : Int) = none := by
  unfold grC upN
  simp only [List.find?_nil]
  rw [if_neg (by omega)]
theorem sm_no : smC [] 33 = none ∧ grC [] 33 = none := by decide
theorem shapes_small (B : Nat → Bool) : ∀ j, j ≤ 30 → smallT [] (mixB B j).data.toList = (lowB j).data.toList
  | 0, _ => rfl
  | j + 1, h => by
    have ih := shapes_small B j (by omega)
    show smallT [] (mixB B j ++ letB B j).data.toList = (lowB j ++ loS.extract j (j + 1)).data.toList
    rw [ByteArray.data_append, Array.toList_append, ByteArray.data_append, Array.toList_append, lo_at j (by omega), ← ih]
    unfold letB
    split
    · rw [up_at j (by omega), small_more _ _ (by unfold upN; omega)]
      congr 1
      unfold pcS
      dsimp only
      rw [sm_up]
      exact (byC_ascii (loN j) (by unfold loN; omega)).1
    · rw [lo_at j (by omega), small_more _ _ (by unfold loN; omega)]
      congr 1
      unfold pcS
      dsimp only
      rw [sm_lo]
/-- What the codes of the first j letters are. -/
theorem shapes_codes (B : Nat → Bool) : ∀ j, j ≤ 30 → greatsC [] (codesT (mixB B j).data.toList) = cntB B j ∧ smallsC [] (codesT (mixB B j).data.toList) + cntB B j = j ∧ firstC [] (codesT (mixB B j).data.toList) = (decide (0 < j) && B 0) ∧ (codesT (mixB B j).data.toList).length = j
  | 0, _ => ⟨rfl, rfl, rfl, rfl⟩
  | j + 1, h => by
    obtain ⟨h1, h2, h3, h4⟩ := shapes_codes B j (by omega)
    have hl : ∃ n : Nat, n < 128 ∧ (mixB B (j + 1)).data.toList = (mixB B j).data.toList ++ [UInt8.ofNat n] ∧ (smC [] (n : Int)).isSome = B j ∧ (grC [] (n : Int)).isSome = !(B j) := by
      show ∃ n : Nat, n < 128 ∧ (mixB B j ++ letB B j).data.toList = _ ∧ _
      rw [ByteArray.data_append, Array.toList_append]
      unfold letB
      cases hb : B j
      · exact ⟨loN j, by unfold loN; omega, by simp only [Bool.false_eq_true, if_false]; rw [lo_at j (by omega)], by rw [sm_lo]; rfl, gr_lo j⟩
      · exact ⟨upN j, by unfold upN; omega, by simp only [if_true]; rw [up_at j (by omega)], by rw [sm_up]; rfl, by rw [gr_up]; rfl⟩
    obtain ⟨n, hn, hl, hs, hg⟩ := hl
    rw [hl, codes_more _ n hn]
    have hc : cntB B (j + 1) = cntB B j + if B j = true then 1 else 0 := rfl
    refine ⟨?_, ?_, ?_, ?_⟩
    · rw [fgreats_snoc, h1, hs, hc]
    · rw [fsmalls_snoc, hg, hc]
      cases B j <;> simp <;> omega
    · rw [ffirst_snoc, hs, h3]
      cases j with
      | zero =>
        have : codesT (mixB B 0).data.toList = [] := rfl
        rw [this]
        simp
      | succ i =>
        rw [if_neg (by intro e; rw [e] at h4; simp at h4)]
        simp
    · rw [List.length_append, h4]; rfl
def wantB (B : Nat → Bool) (j : Nat) : Int := if cntB B j = 0 then 0 else if cntB B j = 1 ∧ B 0 = true then 1 else if 2 ≤ cntB B j ∧ cntB B j = j then 2 else 3
theorem shapes_shape (B : Nat → Bool) (j : Nat) (h : j ≤ 30) : shapeT [] (mixB B j).data.toList = wantB B j ∧ shapeT [] ((mixB B j).data.toList ++ [33]) = wantB B j := by
  obtain ⟨h1, h2, h3, h4⟩ := shapes_codes B j h
  have hle := cnt_le B j
  have key : ∀ f : Bool, (0 < j → f = B 0) → shapeN (cntB B j) (smallsC [] (codesT (mixB B j).data.toList)) f = wantB B j := by
    intro f hf
    unfold shapeN wantB
    by_cases c0 : cntB B j = 0
    · rw [if_pos c0, if_pos c0]
    · rw [if_neg c0, if_neg c0, hf (by omega)]
      by_cases c1 : cntB B j = 1 ∧ B 0 = true
      · rw [if_pos c1, if_pos c1]
      · rw [if_neg c1, if_neg c1]
        by_cases c2 : 2 ≤ cntB B j ∧ cntB B j = j
        · rw [if_pos c2, if_pos (by omega)]
        · rw [if_neg c2, if_neg (by omega)]
  constructor
  · unfold shapeT shapeC
    rw [h1]
    refine key _ fun h0 => ?_
    rw [h3]
    simp [h0]
  · have hc : codesT ((mixB B j).data.toList ++ [33]) = codesT (mixB B j).data.toList ++ [33] := codes_more _ 33 (by omega)
    unfold shapeT shapeC
    rw [hc, fgreats_snoc, fsmalls_snoc, ffirst_snoc, sm_no.1, sm_no.2, h1]
    refine key _ fun h0 => ?_
    rw [if_neg (by intro e; rw [e] at h4; simp at h4; omega), h3]
    simp [h0]
theorem low_head : ∀ j, j ≤ 30 → 0 < j → ∃ t, (lowB j).data.toList = 97 :: t
  | j + 1, h, _ => by
    show ∃ t, (lowB j ++ loS.extract j (j + 1)).data.toList = _
    rw [ByteArray.data_append, Array.toList_append, lo_at j (by omega)]
    cases j with
    | zero => exact ⟨[], rfl⟩
    | succ i =>
      obtain ⟨t, ht⟩ := low_head (i + 1) (by omega) (by omega)
      rw [ht]
      exact ⟨t ++ [UInt8.ofNat (loN (i + 1))], rfl⟩
theorem shapes_title (j : Nat) (h : j ≤ 30) (h0 : 0 < j) : titleT [] (lowB j).data.toList = ((⟨#[65]⟩ : ByteArray) ++ (lowB j).extract 1 (lowB j).size).data.toList := by
  obtain ⟨t, ht⟩ := low_head j h h0
  have h97 := byC_ascii 97 (by omega)
  have e := code_head h97.2 t
  rw [h97.1] at e
  obtain ⟨e1, e2⟩ := e
  have e1' : uCode (97 :: t) = 97 := e1
  have e2' : (decodeL (97 :: t)).2 = 1 := e2
  rw [ByteArray.data_append, Array.toList_append, ext_end, ht]
  unfold titleT
  rw [if_neg (by simp), e1', e2']
  have hg : grC [] 97 = some 65 := by decide
  rw [hg]
  have h65 : byC 65 = [65] := (byC_ascii 65 (by omega)).1
  dsimp only
  rw [h65]
end Go.Proofs.YtfhoffdgbkoffaaDoor
