/- The document's Words of chapter 10 by contract: a line cut at each blank. -/
import Derived.Test.YtmadlappalhmlaaDoorQPlain
import Derived.Test.YtmadlappalhmlaaDoorNGrow
namespace Go.Proofs.YtmadlappalhmlaaDoor
open Go Go.RowKit Go.Lib

/-- Texts as cells. -/
def wCells (l : List (List UInt8)) : List Value := l.map fun x => .string ⟨x.toArray⟩
theorem Tryd.infosW9 : (Tryd.prog.info? 9).map (fun i => (i.zero, i.size, i.bytes)) = some (some (.string ⟨#[]⟩), 1, 16) := by kernel_rfl
theorem ext_list (s : ByteArray) (a b : Nat) : (s.extract a b).data.toList = (s.data.toList.drop a).take (b - a) := by
  rw [ByteArray.data_extract, Array.toList_extract]
theorem ba_list (s : ByteArray) : (⟨s.data.toList.toArray⟩ : ByteArray) = s := by
  cases s; simp
/-- A part of a text. -/
theorem ext_ba (s : ByteArray) (a b : Nat) : s.extract a b = ⟨((s.data.toList.drop a).take (b - a)).toArray⟩ := by
  rw [← ext_list, ba_list]
/-- What is cut off so far: words done, the next one begins at a. -/
def CutAt (L : List UInt8) (done : List (List UInt8)) (a i : Nat) : Prop := a ≤ i ∧ i ≤ L.length ∧ wordsL L = done ++ wordsL (L.drop a) ∧ ∀ j, a ≤ j → j < i → L[j]? ≠ some 32
theorem CutAt.start (L : List UInt8) : CutAt L [] 0 0 := ⟨Nat.le_refl _, Nat.zero_le _, by simp, fun j _ h => absurd h (Nat.not_lt_zero _)⟩
theorem part_noblank {L : List UInt8} {a i : Nat} (h : ∀ j, a ≤ j → j < i → L[j]? ≠ some 32) : (32 : UInt8) ∉ (L.drop a).take (i - a) := by
  intro hm
  obtain ⟨j, hj, he⟩ := List.getElem_of_mem hm
  rw [List.length_take, List.length_drop] at hj
  refine h (a + j) (by omega) (by omega) ?_
  rw [List.getElem_take, List.getElem_drop] at he
  rw [List.getElem?_eq_getElem (by omega), he]
theorem CutAt.on {L : List UInt8} {done : List (List UInt8)} {a i : Nat} (h : CutAt L done a i) (hi : i < L.length) (hne : L[i]? ≠ some 32) : CutAt L done a (i + 1) :=
  ⟨by have := h.1; omega, hi, h.2.2.1, fun j h1 h2 => by
    rcases Nat.lt_or_ge j i with hj | hj
    · exact h.2.2.2 j h1 hj
    · obtain rfl : j = i := by omega
      exact hne⟩
theorem CutAt.cut {L : List UInt8} {done : List (List UInt8)} {a i : Nat} (h : CutAt L done a i) (hi : i < L.length) (he : L[i]? = some 32) : CutAt L (done ++ [(L.drop a).take (i - a)]) (i + 1) (i + 1) := by
  obtain ⟨h1, h2, h3, h4⟩ := h
  refine ⟨Nat.le_refl _, hi, ?_, fun j h5 h6 => by omega⟩
  have hs : L.drop a = (L.drop a).take (i - a) ++ 32 :: L.drop (i + 1) := by
    obtain ⟨_, hc⟩ := List.getElem?_eq_some_iff.1 he
    have hd : L.drop i = 32 :: L.drop (i + 1) := by rw [List.drop_eq_getElem_cons hi, hc]
    have := (List.take_append_drop (i - a) (L.drop a)).symm
    rwa [List.drop_drop, show a + (i - a) = i by omega, hd] at this
  rw [h3]
  conv => lhs; rw [hs]
  rw [wordsL_app _ _ (part_noblank h4), List.append_assoc]
  rfl
theorem CutAt.fin {L : List UInt8} {done : List (List UInt8)} {a : Nat} (h : CutAt L done a L.length) : wordsL L = done ++ [(L.drop a).take (L.length - a)] := by
  obtain ⟨h1, h2, h3, h4⟩ := h
  have hn := part_noblank h4
  rw [List.take_of_length_le (by rw [List.length_drop]; omega)] at hn ⊢
  rw [h3, wordsL_one _ hn]

/-- What holds ahead of a round of Words. -/
def MidW (w wr : World) (v : Value) (L : List UInt8) (a i : Nat) : Prop :=
  ∃ done, (CutAt L done a i ∨ (i = L.length + 1 ∧ wordsL L = done)) ∧ done.length ≤ i ∧ wr.ownsRow w.heap.size 9 1 v done.length (wCells done) ∧ Below w.heap.size w wr

end Go.Proofs.YtmadlappalhmlaaDoor
