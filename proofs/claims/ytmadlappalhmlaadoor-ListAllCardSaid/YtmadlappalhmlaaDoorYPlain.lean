/- Word lists, plain: no program. What a list reads as; a list's text; one is read as the other. -/
import Derived.Test.YtmadlappalhmlaaDoorVPlain
namespace Go.Proofs.YtmadlappalhmlaaDoor
open Go Go.Lib

structure En where
  word : ByteArray
  flags : List Int
deriving DecidableEq
def isLet (b : UInt8) : Bool := decide ((97 ≤ b.toNat ∧ b.toNat ≤ 122) ∨ (65 ≤ b.toNat ∧ b.toNat ≤ 90))
/-- Letters, none twice. -/
def flagsL : List Int → List UInt8 → Option (List Int)
  | acc, [] => some acc
  | acc, b :: r => if isLet b = true ∧ (b.toNat : Int) ∉ acc then flagsL (acc ++ [(b.toNat : Int)]) r else none
def wordOk (w : List UInt8) : Bool := decide (w ≠ []) && w.all (fun b => decide (33 ≤ b.toNat ∧ b ≠ 47 ∧ b ≠ 35)) && validD w
def flagsO (l : List UInt8) : Option (List Int) := match l with
  | [] => some []
  | _ :: fs => if fs = [] then none else flagsL [] fs
/-- What a line says. -/
def entryL (l : List UInt8) : Option En :=
  if wordOk (l.takeWhile (· ≠ 47)) = true then (flagsO (l.dropWhile (· ≠ 47))).map fun f => ⟨⟨(l.takeWhile (· ≠ 47)).toArray⟩, f⟩ else none
/-- It may not be there. -/
def noneL (l : List UInt8) : Bool := decide (l ≠ []) && !decide (l.head? = some 35) && (entryL l).isNone
def badE : Nat → List (List UInt8) → Nat
  | _, [] => 0
  | n, l :: r => if noneL l = true then n else badE (n + 1) r
def esOf (ls : List (List UInt8)) : List En := ls.filterMap entryL
def endE (ls : List (List UInt8)) : List En × Nat × Int :=
  if 2000 < (esOf ls).length then ([], 0, 3) else if 0 < badE 1 ls then ([], badE 1 ls, 5) else (esOf ls, 0, 0)
def parseE (s : ByteArray) : List En × Nat × Int :=
  if 65536 < s.size then ([], 0, 3) else endE (linesL s.data.toList)
/-- An entry's line. -/
def lineE (e : En) : List UInt8 := e.word.data.toList ++ (if e.flags = [] then [] else 47 :: ptL e.flags)
def fileE (l : List En) : List UInt8 := l.flatMap fun e => lineE e ++ [10]
def textE (l : List En) : ByteArray :=
  if (parseE ⟨(fileE l).toArray⟩).1 = l ∧ (parseE ⟨(fileE l).toArray⟩).2.2 = 0 then ⟨(fileE l).toArray⟩ else ⟨#[]⟩

/-! ### Lines -/
theorem badE_app : ∀ (a b : List (List UInt8)) (n : Nat), 0 < n → badE n (a ++ b) = if badE n a = 0 then badE (n + a.length) b else badE n a
  | [], b, n, _ => by simp [badE]
  | l :: a, b, n, h => by
    have ih := badE_app a b (n + 1) (Nat.succ_pos _)
    show (if noneL l = true then n else badE (n + 1) (a ++ b)) = if (if noneL l = true then n else badE (n + 1) a) = 0 then badE (n + (a.length + 1)) b else (if noneL l = true then n else badE (n + 1) a)
    by_cases hl : noneL l = true
    · rw [if_pos hl, if_neg (by rw [if_pos hl]; omega), if_pos hl]
    · rw [if_neg hl, if_neg hl, ih, show n + 1 + a.length = n + (a.length + 1) by omega]
theorem badE_zero : ∀ (a : List (List UInt8)) (n : Nat), 0 < n → (badE n a = 0 ↔ ∀ l ∈ a, noneL l = false)
  | [], n, _ => by simp [badE]
  | l :: a, n, h => by
    have ih := badE_zero a (n + 1) (Nat.succ_pos _)
    show (if noneL l = true then n else badE (n + 1) a) = 0 ↔ _
    by_cases hl : noneL l = true
    · rw [if_pos hl]
      constructor
      · intro e; omega
      · intro e
        have := e l (List.mem_cons_self ..)
        rw [hl] at this; cases this
    · rw [if_neg hl, ih]
      constructor
      · intro e x hx
        rcases List.mem_cons.1 hx with rfl | hx
        · simpa using hl
        · exact e x hx
      · exact fun e x hx => e x (List.mem_cons_of_mem _ hx)
theorem badE_le : ∀ (a : List (List UInt8)) (n : Nat), badE n a = 0 ∨ (n ≤ badE n a ∧ badE n a < n + a.length)
  | [], n => by simp [badE]
  | l :: a, n => by
    have ih := badE_le a (n + 1)
    show (if noneL l = true then n else badE (n + 1) a) = 0 ∨ (n ≤ (if noneL l = true then n else badE (n + 1) a) ∧ (if noneL l = true then n else badE (n + 1) a) < n + (a.length + 1))
    by_cases hl : noneL l = true
    · rw [if_pos hl]; right; omega
    · rw [if_neg hl]; omega
theorem esOf_app (a b : List (List UInt8)) : esOf (a ++ b) = esOf a ++ esOf b := by simp [esOf]
theorem esOf_take {ls : List (List UInt8)} {k : Nat} {l : List UInt8} (h : ls[k]? = some l) : esOf (ls.take (k + 1)) = esOf (ls.take k) ++ (match entryL l with | some e => [e] | none => []) := by
  obtain ⟨hlt, he⟩ := List.getElem?_eq_some_iff.1 h
  rw [List.take_succ_eq_append_getElem hlt, he, esOf_app]
  congr 1
  unfold esOf
  rw [List.filterMap_cons]
  cases entryL l <;> rfl
theorem badE_take {ls : List (List UInt8)} {k : Nat} {l : List UInt8} (h : ls[k]? = some l) : badE 1 (ls.take (k + 1)) = if badE 1 (ls.take k) = 0 then (if noneL l = true then k + 1 else 0) else badE 1 (ls.take k) := by
  obtain ⟨hk, he⟩ := List.getElem?_eq_some_iff.1 h
  rw [List.take_succ_eq_append_getElem hk, he, badE_app _ _ 1 (by decide), List.length_take, Nat.min_eq_left (by omega), show 1 + k = k + 1 by omega]
  rfl
theorem esOf_le (ls : List (List UInt8)) : (esOf ls).length ≤ ls.length := List.length_filterMap_le _ _
theorem esOf_pre (ls : List (List UInt8)) (k : Nat) : (esOf (ls.take k)).length ≤ (esOf ls).length := by
  conv => rhs; rw [← List.take_append_drop k ls, esOf_app, List.length_append]
  omega
theorem skip_entry {l : List UInt8} (h : l = [] ∨ l.head? = some 35) : entryL l = none := by
  unfold entryL
  rw [if_neg]
  rcases h with rfl | h
  · simp [wordOk]
  · match l, h with
    | b :: t, h =>
      obtain rfl : b = 35 := by simpa using h
      intro e
      rw [List.takeWhile_cons, if_pos (by decide)] at e
      unfold wordOk at e
      simp at e
theorem noneL_eq (l : List UInt8) : noneL l = true ↔ ¬ (l = [] ∨ l.head? = some 35) ∧ entryL l = none := by
  unfold noneL
  simp [and_assoc, not_or]

/-! ### What is read -/
theorem flagsL_says : ∀ (fs : List UInt8) (acc f : List Int), flagsL acc fs = some f → (∀ b ∈ fs, isLet b = true) ∧ f = acc ++ fs.map fun b => (b.toNat : Int)
  | [], acc, f, h => by simp [flagsL] at h; simp [h]
  | b :: r, acc, f, h => by
    unfold flagsL at h
    split at h
    · rename_i hc
      obtain ⟨h1, h2⟩ := flagsL_says r _ _ h
      refine ⟨fun x hx => ?_, by rw [h2]; simp⟩
      rcases List.mem_cons.1 hx with rfl | hx
      · exact hc.1
      · exact h1 x hx
    · cases h
theorem isLet_nat {b : UInt8} (h : isLet b = true) : 65 ≤ b.toNat ∧ b.toNat ≤ 122 := by
  unfold isLet at h
  have := of_decide_eq_true h
  omega
theorem ptB_asc {b : UInt8} (h : b.toNat < 128) : ptB (b.toNat : Int) = [b] := by
  have key : ∀ n : Fin 128, ptB ((UInt8.ofNat n.1).toNat : Int) = [UInt8.ofNat n.1] := by decide +kernel
  have := key ⟨b.toNat, h⟩
  simpa using this
theorem ptL_asc8 : ∀ (fs : List UInt8), (∀ b ∈ fs, b.toNat < 128) → ptL (fs.map fun b => (b.toNat : Int)) = fs
  | [], _ => rfl
  | b :: fs, h => by
    have ih := ptL_asc8 fs fun x hx => h x (List.mem_cons_of_mem _ hx)
    unfold ptL at ih ⊢
    rw [List.map_cons, List.flatMap_cons, ih, ptB_asc (h b (List.mem_cons_self ..))]
    rfl
/-- A line is its entry's line. -/
theorem entry_line {l : List UInt8} {e : En} (h : entryL l = some e) : lineE e = l ∧ l ≠ [] ∧ e.word.size ≤ l.length ∧ e.flags.length ≤ l.length ∧ (∀ f ∈ e.flags, 65 ≤ f ∧ f ≤ 122) ∧ wordOk e.word.data.toList = true := by
  unfold entryL at h
  split at h
  · rename_i hw
    cases hf : flagsO (l.dropWhile (· ≠ 47)) with
    | none => rw [hf] at h; cases h
    | some f =>
      rw [hf] at h
      obtain rfl := Option.some.inj h
      have hl : l.takeWhile (· ≠ 47) ++ l.dropWhile (· ≠ 47) = l := List.takeWhile_append_dropWhile
      have hne : l ≠ [] := by
        rintro rfl
        simp [wordOk] at hw
      have hlen : (l.takeWhile (· ≠ 47)).length + (l.dropWhile (· ≠ 47)).length = l.length := by rw [← List.length_append, hl]
      obtain ⟨w, hwd⟩ : ∃ w, w = l.takeWhile (· ≠ 47) := ⟨_, rfl⟩
      obtain ⟨d, hd⟩ : ∃ w, w = l.dropWhile (· ≠ 47) := ⟨_, rfl⟩
      have hhd : ∀ b t, d = b :: t → b = 47 := fun b t e => by
        have h1 := List.head?_dropWhile_not (p := fun x : UInt8 => decide (x ≠ 47)) l
        rw [← hd, e] at h1
        simpa using h1
      rw [← hwd] at hw hl hlen ⊢
      rw [← hd] at hf hl hlen
      have hsz : (⟨w.toArray⟩ : ByteArray).size = w.length := by show w.toArray.size = _; rw [List.size_toArray]
      match d, hf with
      | [], hf =>
        obtain rfl : [] = f := Option.some.inj hf
        refine ⟨by unfold lineE; simpa using hl, hne, by rw [hsz]; omega, Nat.zero_le _, by simp, by simpa using hw⟩
      | b :: fs, hf =>
        obtain rfl := hhd b fs rfl
        rw [show flagsO (47 :: fs) = if fs = [] then none else flagsL [] fs from rfl] at hf
        by_cases hn : fs = []
        · rw [if_pos hn] at hf; cases hf
        · rw [if_neg hn] at hf
          · obtain ⟨k1, k2⟩ := flagsL_says _ _ _ hf
            rw [List.nil_append] at k2
            have hfl : f.length = fs.length := by rw [k2, List.length_map]
            refine ⟨?_, hne, by rw [hsz]; omega, by dsimp only; rw [hfl]; simp at hlen; omega, ?_, by simpa using hw⟩
            · unfold lineE
              dsimp only
              rw [if_neg (by intro e; apply hn; rw [e] at hfl; exact List.eq_nil_of_length_eq_zero hfl.symm), k2, ptL_asc8 _ fun b hb => by have := isLet_nat (k1 b hb); omega]
              simpa using hl
            · intro x hx
              dsimp only at hx
              rw [k2] at hx
              obtain ⟨b, hb, rfl⟩ := List.mem_map.1 hx
              have := isLet_nat (k1 b hb)
              omega
  · cases h
theorem es_from {ls : List (List UInt8)} {e : En} (h : e ∈ esOf ls) : ∃ l ∈ ls, entryL l = some e := by
  obtain ⟨l, h1, h2⟩ := List.mem_filterMap.1 h
  exact ⟨l, h1, h2⟩
theorem flat_sum : ∀ (ls : List (List UInt8)), ((esOf ls).flatMap fun e => lineE e ++ [10]).length ≤ (ls.map List.length).sum + ls.length
  | [] => Nat.le_refl _
  | l :: ls => by
    have ih := flat_sum ls
    rw [List.map_cons, List.sum_cons, List.length_cons]
    unfold esOf at ih ⊢
    rw [List.filterMap_cons]
    split
    · omega
    · rename_i e he
      rw [List.flatMap_cons, List.length_append, List.length_append, (entry_line he).1]
      show l.length + 1 + _ ≤ _
      omega
/-- Lines and their ends are no more than the text and one. -/
theorem lines_tot : ∀ (s : List UInt8), ((linesL s).map List.length).sum + (linesL s).length ≤ s.length + 1
  | [] => Nat.zero_le _
  | b :: r => by
    have ih := lines_tot r
    rw [linesL_cons]
    by_cases hb : b = 10
    · rw [if_pos hb, List.map_cons, List.sum_cons, List.length_cons, List.length_cons]; simp; omega
    · rw [if_neg hb]
      cases he : linesL r with
      | nil => simp
      | cons x t =>
        rw [he, List.map_cons, List.sum_cons, List.length_cons] at ih
        rw [List.map_cons, List.sum_cons, List.length_cons, List.length_cons, List.length_cons]
        omega
theorem es_lines (ls : List (List UInt8)) : (esOf ls).map lineE = ls.filter (fun l => (entryL l).isSome) := by
  induction ls with
  | nil => rfl
  | cons l ls ih =>
    unfold esOf at ih ⊢
    rw [List.filterMap_cons, List.filter_cons]
    cases he : entryL l with
    | none => simpa using ih
    | some e => simp [ih, (entry_line he).1]
theorem esOf_lines {es : List En} (h : ∀ e ∈ es, entryL (lineE e) = some e) : esOf (es.map lineE) = es ∧ badE 1 (es.map lineE) = 0 := by
  constructor
  · induction es with
    | nil => rfl
    | cons e es ih =>
      have := ih fun x hx => h x (List.mem_cons_of_mem _ hx)
      unfold esOf at this ⊢
      rw [List.map_cons, List.filterMap_cons, h e (List.mem_cons_self ..), this]
  · rw [badE_zero _ 1 (by decide)]
    intro l hl
    obtain ⟨e, he, rfl⟩ := List.mem_map.1 hl
    unfold noneL
    rw [h e he]
    simp
/-- A list that is read. -/
theorem parseE_ok {s : ByteArray} {es : List En} {n : Nat} (h : parseE s = (es, n, 0)) : n = 0 ∧ s.size ≤ 65536 ∧ es = esOf (linesL s.data.toList) ∧ es.length ≤ 2000 := by
  unfold parseE endE at h
  split at h
  · simp at h
  · rename_i h1
    split at h
    · simp at h
    · rename_i h2
      split at h
      · simp at h
      · simp only [Prod.mk.injEq, and_true] at h
        obtain ⟨rfl, rfl⟩ := h
        exact ⟨rfl, by omega, rfl, by omega⟩
theorem parseE_of {s : ByteArray} (hs : s.size ≤ 65536) (he : (esOf (linesL s.data.toList)).length ≤ 2000) (hb : ∀ l ∈ linesL s.data.toList, noneL l = false) : parseE s = (esOf (linesL s.data.toList), 0, 0) := by
  unfold parseE endE
  rw [if_neg (by omega), if_neg (by omega), if_neg (by rw [(badE_zero _ 1 (by decide)).2 hb]; omega)]
theorem parseE_err {s : ByteArray} (h : (parseE s).2.2 ≠ 0) : (parseE s).1 = [] := by
  unfold parseE endE at h ⊢
  split
  · rfl
  · rename_i h1
    rw [if_neg h1] at h
    split
    · rfl
    · rename_i h2
      rw [if_neg h2] at h
      split
      · rfl
      · rename_i h3
        rw [if_neg h3] at h
        exact absurd rfl h
theorem parseE_in {s : ByteArray} {e : En} (h : e ∈ (parseE s).1) : ∃ l ∈ linesL s.data.toList, entryL l = some e := by
  unfold parseE endE at h
  split at h
  · cases h
  · split at h
    · cases h
    · split at h
      · cases h
      · exact es_from h
theorem parseE_len (s : ByteArray) : (parseE s).1.length ≤ 2000 := by
  unfold parseE endE
  split
  · exact Nat.zero_le _
  · split
    · exact Nat.zero_le _
    · split
      · exact Nat.zero_le _
      · dsimp only; omega
theorem fileE_lines (es : List En) (h : ∀ e ∈ es, (10 : UInt8) ∉ lineE e) : linesL (fileE es) = es.map lineE := by
  have : fileE es = ((es.map lineE).map fun l => l ++ [10]).flatten := by
    unfold fileE
    rw [List.flatMap_def, List.map_map]
    rfl
  rw [this]
  exact linesL_flat _ fun l hl => by
    obtain ⟨e, he, rfl⟩ := List.mem_map.1 hl
    exact h e he
/-- What is read has a text that is read as that. -/
theorem textE_back {s : ByteArray} {es : List En} {n : Nat} (h : parseE s = (es, n, 0)) (hs : s.size ≤ 65535) : textE es = ⟨(fileE es).toArray⟩ ∧ parseE (textE es) = (es, 0, 0) := by
  obtain ⟨h1, h2, h3, h4⟩ := parseE_ok h
  have hin : ∀ e ∈ es, (10 : UInt8) ∉ lineE e ∧ entryL (lineE e) = some e := fun e he => by
    rw [h3] at he
    obtain ⟨l, hl, hle⟩ := es_from he
    rw [(entry_line hle).1]
    exact ⟨linesL_mem _ l hl, hle⟩
  have hlines := fileE_lines es fun e he => (hin e he).1
  obtain ⟨k1, k2⟩ := esOf_lines fun e he => (hin e he).2
  have hsz : (fileE es).length ≤ 65536 := by
    have q1 := flat_sum (linesL s.data.toList)
    have q2 := lines_tot s.data.toList
    rw [← h3] at q1
    have hsl : s.data.toList.length = s.size := (Lib.size_eq s).symm
    unfold fileE
    omega
  have hp : parseE ⟨(fileE es).toArray⟩ = (es, 0, 0) := by
    unfold parseE endE
    have hl2 : (⟨(fileE es).toArray⟩ : ByteArray).data.toList = fileE es := by simp
    rw [if_neg (by show ¬ 65536 < (fileE es).toArray.size; rw [List.size_toArray]; omega), hl2, hlines, k1, k2, if_neg (by omega), if_neg (by omega)]
  have ht : textE es = ⟨(fileE es).toArray⟩ := by
    unfold textE
    rw [hp]
    exact if_pos ⟨rfl, rfl⟩
  exact ⟨ht, by rw [ht]; exact hp⟩
theorem textE_size (l : List En) : (textE l).size ≤ 65536 := by
  unfold textE
  split
  · rename_i h
    unfold parseE at h
    by_cases hc : 65536 < (⟨(fileE l).toArray⟩ : ByteArray).size
    · rw [if_pos hc] at h
      exact absurd h.2 (by decide)
    · omega
  · show (0 : Nat) ≤ _; omega
/-- No text: a flag is no letter. -/
theorem textE_no {l : List En} {e : En} {f : Int} (he : e ∈ l) (hf : f ∈ e.flags) (hb : f < 0 ∨ 127 < f) : textE l = ⟨#[]⟩ := by
  unfold textE
  rw [if_neg]
  rintro ⟨h1, -⟩
  rw [← h1] at he
  obtain ⟨x, _, hx⟩ := parseE_in he
  have := (entry_line hx).2.2.2.2.1 f hf
  omega
/-- Not too much. -/
structure FewE (l : List En) : Prop where
  len : l.length ≤ 2000
  word : ∀ e ∈ l, e.word.size ≤ 2000
  flags : ∀ e ∈ l, e.flags.length ≤ 2000
theorem parseE_few {s : ByteArray} (hs : s.size ≤ 2000) : FewE (parseE s).1 := by
  have hsl : s.data.toList.length = s.size := (Lib.size_eq s).symm
  have key : ∀ e ∈ (parseE s).1, e.word.size ≤ 2000 ∧ e.flags.length ≤ 2000 := fun e he => by
    obtain ⟨l, hl, hle⟩ := parseE_in he
    have h1 := mem_sum _ l hl
    have h2 := linesL_sum s.data.toList
    obtain ⟨_, _, h3, h4, _⟩ := entry_line hle
    omega
  exact ⟨parseE_len s, fun e he => (key e he).1, fun e he => (key e he).2⟩
end Go.Proofs.YtmadlappalhmlaaDoor
