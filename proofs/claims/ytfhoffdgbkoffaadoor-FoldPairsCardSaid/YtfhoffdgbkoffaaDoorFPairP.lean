/- FoldPairs, plain. -/
import Derived.Test.YtfhoffdgbkoffaaDoorFPlain
namespace Go.Proofs.YtfhoffdgbkoffaaDoor
open Go Go.Lib

theorem code_head {c : Int} (h : Pt c) (t : List UInt8) : uCode (byC c ++ t) = c ∧ (decodeL (byC c ++ t)).2 = (byC c).length := by
  have hne := (enc_len_pos h).1
  have hl : byC c ++ t ≠ [] := by simp [hne]
  have h1 := cuts_code h t
  have hle := decodeL_le _ hl
  rw [cuts_step _ hl] at h1
  have h2 := (List.cons.inj h1).1
  have e1 := congrArg Prod.snd h2
  have e2 := congrArg (fun x => x.1.length) h2
  dsimp only at e1 e2
  rw [List.length_take, Nat.min_eq_left hle] at e2
  exact ⟨e1, e2⟩
theorem cuts_255 (t : List UInt8) : cuts (255 :: t) = ([255], -256) :: cuts t := by
  have hd : decodeL (255 :: t) = (65533, 1) := by
    rw [decodeL_N]
    unfold decodeN
    simp only [List.getD_cons_zero]
    rw [if_neg (by decide), if_neg (by rintro ⟨h, _⟩; revert h; decide), if_neg (by rintro ⟨h, _⟩; revert h; decide), if_neg (by rintro ⟨h, _⟩; revert h; decide)]
  rw [cuts_step _ (by simp), hd]
  have hu : uCode (255 :: t) = -256 := by
    unfold uCode uBad
    rw [hd]
    simp
  rw [hu]
  rfl
def tailB : ByteArray := ⟨#[255, 32, 230, 188, 162]⟩
/-- A letter, the tail, so many letters more. -/
def rowB (a : ByteArray) : Nat → ByteArray
  | 0 => a ++ tailB
  | j + 1 => rowB a j ++ a
theorem rowB_list (a : ByteArray) : ∀ j, (rowB a j).data.toList = a.data.toList ++ ([255, 32, 230, 188, 162] ++ (List.replicate j a.data.toList).flatten)
  | 0 => by
    show (a ++ tailB).data.toList = _
    rw [ByteArray.data_append, Array.toList_append]
    rfl
  | j + 1 => by
    show (rowB a j ++ a).data.toList = _
    rw [ByteArray.data_append, Array.toList_append, rowB_list a j, List.replicate_succ']
    simp
theorem rowB_size (a : ByteArray) : ∀ j, (rowB a j).size = a.size + 5 + j * a.size
  | 0 => by
    show (a ++ tailB).size = _
    rw [ByteArray.size_append]
    show a.size + 5 = _
    omega
  | j + 1 => by
    show (rowB a j ++ a).size = _
    rw [ByteArray.size_append, rowB_size a j, Nat.add_one_mul]
    omega
theorem cuts_rep {c : Int} (h : Pt c) : ∀ j, cuts (List.replicate j (byC c)).flatten = List.replicate j (byC c, c)
  | 0 => rfl
  | j + 1 => by
    rw [List.replicate_succ, List.flatten_cons, cuts_code h, cuts_rep h j, List.replicate_succ]
theorem cuts_row {c : Int} (h : Pt c) (j : Nat) : cuts (byC c ++ ([255, 32, 230, 188, 162] ++ (List.replicate j (byC c)).flatten)) = (byC c, c) :: ([255], -256) :: ([32], 32) :: ([230, 188, 162], 28450) :: List.replicate j (byC c, c) := by
  have h3 : byC 28450 = [230, 188, 162] := by decide +kernel
  rw [cuts_code h]
  congr 1
  show cuts (255 :: 32 :: ([230, 188, 162] ++ (List.replicate j (byC c)).flatten)) = _
  rw [cuts_255]
  congr 1
  rw [cuts_ascii 32 (by decide)]
  congr 1
  rw [← h3, cuts_code (show Pt 28450 from (by decide : Utf8.valid 28450 = true)), cuts_rep h]

variable {g s : Int}
/-- Two letters of a pair of their own. -/
structure OwnP (g s : Int) : Prop where
  g : 12288 ≤ g ∧ g < 13288
  s : 20480 ≤ s ∧ s < 21480
theorem OwnP.pts (h : OwnP g s) : Pt g ∧ Pt s := by
  obtain ⟨h1, h2⟩ := h
  constructor <;> (unfold Pt Utf8.valid; simp; omega)
theorem OwnP.sm (h : OwnP g s) : smC [(g, s)] g = some s ∧ smC [(g, s)] s = none ∧ smC [(g, s)] (-256) = none ∧ smC [(g, s)] 32 = none ∧ smC [(g, s)] 28450 = none := by
  obtain ⟨h1, h2⟩ := h
  have no : ∀ c : Int, g ≠ c → ¬ (65 ≤ c ∧ c ≤ 90) → smC [(g, s)] c = none := fun c hc hn => by
    unfold smC
    rw [List.find?_cons_of_neg (by simpa using hc)]
    simp only [List.find?_nil]
    rw [if_neg hn]
  refine ⟨by simp [smC], no _ ?_ ?_, no _ ?_ ?_, no _ ?_ ?_, no _ ?_ ?_⟩ <;> omega
theorem OwnP.gr (h : OwnP g s) : grC [(g, s)] s = some g ∧ grC [(g, s)] g = none ∧ grC [(g, s)] (-256) = none ∧ grC [(g, s)] 32 = none ∧ grC [(g, s)] 28450 = none := by
  obtain ⟨h1, h2⟩ := h
  have no : ∀ c : Int, s ≠ c → ¬ (97 ≤ c ∧ c ≤ 122) → grC [(g, s)] c = none := fun c hc hn => by
    unfold grC
    rw [List.find?_cons_of_neg (by simpa using hc)]
    simp only [List.find?_nil]
    rw [if_neg hn]
  refine ⟨by simp [grC], no _ ?_ ?_, no _ ?_ ?_, no _ ?_ ?_, no _ ?_ ?_⟩ <;> omega
theorem OwnP.sm0 (h : OwnP g s) : smC [] g = none ∧ smC [] (-256) = none ∧ smC [] 32 = none ∧ smC [] 28450 = none := by
  obtain ⟨h1, h2⟩ := h
  have no : ∀ c : Int, ¬ (65 ≤ c ∧ c ≤ 90) → smC [] c = none := fun c hn => by
    unfold smC
    simp only [List.find?_nil]
    rw [if_neg hn]
  refine ⟨no _ ?_, no _ ?_, no _ ?_, no _ ?_⟩ <;> omega
variable {a b : ByteArray}
theorem flat_rep {α β : Type} (f : α → List β) (x : α) : ∀ j, (List.replicate j x).flatMap f = (List.replicate j (f x)).flatten
  | 0 => rfl
  | j + 1 => by rw [List.replicate_succ, List.flatMap_cons, flat_rep f x j, List.replicate_succ, List.flatten_cons]
theorem pairs_small (h : OwnP g s) (ha : a.data.toList = byC g) (hb : b.data.toList = byC s) (j : Nat) : smallT [(g, s)] (rowB a j).data.toList = (rowB b j).data.toList := by
  obtain ⟨s1, s2, s3, s4, s5⟩ := h.sm
  rw [rowB_list, rowB_list, ha, hb]
  unfold smallT
  rw [cuts_row h.pts.1]
  have e0 : pcS [(g, s)] (byC g, g) = byC s := by unfold pcS; dsimp only; rw [s1]
  simp only [List.flatMap_cons]
  rw [flat_rep, e0]
  unfold pcS
  dsimp only
  rw [s3, s4, s5]
  rfl
theorem pairs_same (h : OwnP g s) (ha : a.data.toList = byC g) (j : Nat) : smallT [] (rowB a j).data.toList = (rowB a j).data.toList := by
  obtain ⟨s1, s3, s4, s5⟩ := h.sm0
  rw [rowB_list, ha]
  unfold smallT
  rw [cuts_row h.pts.1]
  have e0 : pcS [] (byC g, g) = byC g := by unfold pcS; dsimp only; rw [s1]
  simp only [List.flatMap_cons]
  rw [flat_rep, e0]
  unfold pcS
  dsimp only
  rw [s3, s4, s5]
  rfl
theorem ext_end (s : ByteArray) (n : Nat) : (s.extract n s.size).data.toList = s.data.toList.drop n := by
  rw [ByteArray.data_extract, Array.toList_extract, List.extract_eq_take_drop]
  rw [List.take_of_length_le]
  rw [List.length_drop, ← Lib.size_eq]
  omega
theorem pairs_title (h : OwnP g s) (ha : a.data.toList = byC g) (hb : b.data.toList = byC s) (j : Nat) : titleT [(g, s)] (rowB b j).data.toList = (a ++ (rowB b j).extract b.size (rowB b j).size).data.toList := by
  obtain ⟨e1, e2⟩ := code_head h.pts.2 ([255, 32, 230, 188, 162] ++ (List.replicate j (byC s)).flatten)
  have hne := (enc_len_pos h.pts.2).1
  rw [ByteArray.data_append, Array.toList_append, ext_end, Lib.size_eq, ha]
  rw [rowB_list, hb]
  unfold titleT
  rw [if_neg (by simp [hne]), e1, h.gr.1, e2]
theorem pairs_shape (h : OwnP g s) (ha : a.data.toList = byC g) (j : Nat) : shapeT [(g, s)] (rowB a j).data.toList = if j = 0 then 1 else 2 := by
  obtain ⟨s1, s2, s3, s4, s5⟩ := h.sm
  obtain ⟨g1, g2, g3, g4, g5⟩ := h.gr
  have hc : codesT (rowB a j).data.toList = g :: (-256) :: 32 :: 28450 :: List.replicate j g := by
    unfold codesT
    rw [rowB_list, ha, cuts_row h.pts.1]
    simp
  unfold shapeT shapeC
  rw [hc]
  have hg : greatsC [(g, s)] (g :: (-256) :: 32 :: 28450 :: List.replicate j g) = 1 + j := by
    unfold greatsC
    simp only [List.countP_cons, s1, s3, s4, s5, List.countP_replicate]
    simp
    omega
  have hm : smallsC [(g, s)] (g :: (-256) :: 32 :: 28450 :: List.replicate j g) = 0 := by
    unfold smallsC
    simp only [List.countP_cons, g2, g3, g4, g5, List.countP_replicate]
    simp
  have hf : firstC [(g, s)] (g :: (-256) :: 32 :: 28450 :: List.replicate j g) = true := by
    unfold firstC
    dsimp only
    rw [s1]
    rfl
  rw [hg, hm, hf]
  unfold shapeN
  by_cases h0 : j = 0
  · subst h0; simp
  · rw [if_neg (by omega), if_neg (by omega), if_pos (by omega), if_neg h0]
theorem pairs_flat (h : OwnP g s) (hb : b.data.toList = byC s) (j : Nat) : shapeT [(g, s)] (rowB b j).data.toList = 0 := by
  obtain ⟨s1, s2, s3, s4, s5⟩ := h.sm
  have hc : codesT (rowB b j).data.toList = s :: (-256) :: 32 :: 28450 :: List.replicate j s := by
    unfold codesT
    rw [rowB_list, hb, cuts_row h.pts.2]
    simp
  unfold shapeT shapeC shapeN
  rw [hc]
  have hg : greatsC [(g, s)] (s :: (-256) :: 32 :: 28450 :: List.replicate j s) = 0 := by
    unfold greatsC
    simp only [List.countP_cons, s2, s3, s4, s5, List.countP_replicate]
    simp
  rw [hg, if_pos rfl]
end Go.Proofs.YtfhoffdgbkoffaaDoor
