/- Lists by numbers with lines between them that say nothing, plain: no program. -/
import Derived.Test.YtmadlappalhmlaaDoorYBack
namespace Go.Proofs.YtmadlappalhmlaaDoor
open Go Go.RowKit Go.Lib

def gapsB : List ByteArray := [⟨#[]⟩, ⟨#[10]⟩, ⟨#[35, 32, 97, 32, 98, 47, 99, 10]⟩, ⟨#[10, 10, 35, 10]⟩]
def gapB (g : Nat) : ByteArray := gapsB.getD g ⟨#[]⟩
def gapLs : Nat → List (List UInt8)
  | 1 => [[]]
  | 2 => [[35, 32, 97, 32, 98, 47, 99]]
  | 3 => [[], [], [35]]
  | _ => []
def flatL (ls : List (List UInt8)) : List UInt8 := (ls.map fun l => l ++ [10]).flatten
theorem flatL_app (a b : List (List UInt8)) : flatL (a ++ b) = flatL a ++ flatL b := by simp [flatL]
theorem gap_flat : ∀ g : Fin 4, (gapB g.1).data.toList = flatL (gapLs g.1) := by decide
theorem gap_ok : ∀ g : Fin 4, ∀ l ∈ gapLs g.1, (10 : UInt8) ∉ l ∧ entryL l = none ∧ noneL l = false := by decide +kernel
theorem gap_size : ∀ g : Fin 4, (gapB g.1).size ≤ 8 := by decide
/-- What stands ahead of a line. -/
def headG : List Nat → List UInt8
  | g :: _ => (gapB g).data.toList
  | [] => []
def headLs : List Nat → List (List UInt8)
  | g :: _ => gapLs g
  | [] => []
def weave : List Nat → Bool → List UInt8 → List UInt8
  | _, _, [] => []
  | gs, st, b :: r => (if st = true then headG gs else []) ++ b :: weave (if st = true then gs.tail else gs) (b == 10) r
def weaveLs : List Nat → List (List UInt8) → List (List UInt8)
  | _, [] => []
  | gs, l :: ls => headLs gs ++ l :: weaveLs gs.tail ls
theorem headG_flat {gs : List Nat} (h : ∀ g ∈ gs, g < 4) : headG gs = flatL (headLs gs) := by
  cases gs with
  | nil => rfl
  | cons g gs => exact gap_flat ⟨g, h g (List.mem_cons_self ..)⟩
theorem headG_len {gs : List Nat} (h : ∀ g ∈ gs, g < 4) : (headG gs).length ≤ 8 := by
  cases gs with
  | nil => exact Nat.zero_le _
  | cons g gs =>
    have := gap_size ⟨g, h g (List.mem_cons_self ..)⟩
    rw [Lib.size_eq] at this
    exact this
theorem tail_lt {gs : List Nat} (h : ∀ g ∈ gs, g < 4) : ∀ g ∈ gs.tail, g < 4 := fun g hg => h g (List.mem_of_mem_tail hg)
theorem weave_len : ∀ (L : List UInt8) (gs : List Nat) (st : Bool), (∀ g ∈ gs, g < 4) → (weave gs st L).length ≤ 9 * L.length
  | [], _, _, _ => Nat.zero_le _
  | b :: r, gs, st, h => by
    have h1 := headG_len h
    show ((if st = true then headG gs else []) ++ b :: weave (if st = true then gs.tail else gs) (b == 10) r).length ≤ 9 * (r.length + 1)
    rw [List.length_append, List.length_cons]
    cases st
    · have ih := weave_len r gs (b == 10) h
      simp only [Bool.false_eq_true, if_false, List.length_nil]
      omega
    · have ih := weave_len r gs.tail (b == 10) (tail_lt h)
      simp only [if_true]
      omega
theorem weave_in : ∀ (l : List UInt8) (gs : List Nat) (r : List UInt8), (10 : UInt8) ∉ l → weave gs false (l ++ 10 :: r) = l ++ 10 :: weave gs true r
  | [], gs, r, _ => rfl
  | b :: l, gs, r, h => by
    have hb : (b == 10) = false := by
      rw [beq_eq_false_iff_ne]
      exact fun e => h (by rw [e]; exact List.mem_cons_self ..)
    have ih := weave_in l gs r fun e => h (List.mem_cons_of_mem _ e)
    show [] ++ b :: weave gs (b == 10) (l ++ 10 :: r) = _
    rw [hb, ih]
    rfl
theorem weave_line : ∀ (l : List UInt8) (gs : List Nat) (r : List UInt8), (10 : UInt8) ∉ l → weave gs true (l ++ 10 :: r) = headG gs ++ (l ++ 10 :: weave gs.tail true r)
  | [], gs, r, _ => rfl
  | b :: l, gs, r, h => by
    have hb : (b == 10) = false := by
      rw [beq_eq_false_iff_ne]
      exact fun e => h (by rw [e]; exact List.mem_cons_self ..)
    show headG gs ++ b :: weave gs.tail (b == 10) (l ++ 10 :: r) = _
    rw [hb, weave_in l gs.tail r fun e => h (List.mem_cons_of_mem _ e)]
    rfl
theorem weave_flat : ∀ (ls : List (List UInt8)) (gs : List Nat), (∀ g ∈ gs, g < 4) → (∀ l ∈ ls, (10 : UInt8) ∉ l) → weave gs true (flatL ls) = flatL (weaveLs gs ls)
  | [], _, _, _ => rfl
  | l :: ls, gs, hg, h => by
    have ih := weave_flat ls gs.tail (tail_lt hg) fun x hx => h x (List.mem_cons_of_mem _ hx)
    have e1 : flatL (l :: ls) = l ++ 10 :: flatL ls := by simp [flatL]
    have e2 : flatL (weaveLs gs (l :: ls)) = flatL (headLs gs) ++ (l ++ 10 :: flatL (weaveLs gs.tail ls)) := by
      show flatL (headLs gs ++ l :: weaveLs gs.tail ls) = _
      rw [flatL_app]
      simp [flatL]
    rw [e1, weave_line l gs _ (h l (List.mem_cons_self ..)), ih, e2, headG_flat hg]
theorem headLs_ok {gs : List Nat} (h : ∀ g ∈ gs, g < 4) : ∀ l ∈ headLs gs, (10 : UInt8) ∉ l ∧ entryL l = none ∧ noneL l = false := by
  cases gs with
  | nil => intro l hl; cases hl
  | cons g gs => exact gap_ok ⟨g, h g (List.mem_cons_self ..)⟩
theorem es_none : ∀ (ls : List (List UInt8)), (∀ l ∈ ls, entryL l = none) → esOf ls = []
  | [], _ => rfl
  | l :: ls, h => by
    have ih := es_none ls fun x hx => h x (List.mem_cons_of_mem _ hx)
    unfold esOf at ih ⊢
    rw [List.filterMap_cons, h l (List.mem_cons_self ..), ih]
theorem weaveLs_es : ∀ (ls : List (List UInt8)) (gs : List Nat), (∀ g ∈ gs, g < 4) → esOf (weaveLs gs ls) = esOf ls
  | [], _, _ => rfl
  | l :: ls, gs, hg => by
    have ih := weaveLs_es ls gs.tail (tail_lt hg)
    show esOf (headLs gs ++ l :: weaveLs gs.tail ls) = esOf (l :: ls)
    rw [esOf_app, es_none _ fun x hx => (headLs_ok hg x hx).2.1, List.nil_append]
    have e : ∀ x : List (List UInt8), esOf (l :: x) = esOf [l] ++ esOf x := fun x => esOf_app [l] x
    rw [e, e ls, ih]
theorem weaveLs_all {Q : List UInt8 → Prop} (h0 : ∀ g : Nat, g < 4 → ∀ l ∈ gapLs g, Q l) : ∀ (ls : List (List UInt8)) (gs : List Nat), (∀ g ∈ gs, g < 4) → (∀ l ∈ ls, Q l) → ∀ l ∈ weaveLs gs ls, Q l
  | [], _, _, _ => fun l hl => by cases hl
  | x :: ls, gs, hg, h => fun l hl => by
    have ih := weaveLs_all h0 ls gs.tail (tail_lt hg) fun y hy => h y (List.mem_cons_of_mem _ hy)
    have hl2 : l ∈ headLs gs ++ x :: weaveLs gs.tail ls := hl
    rcases List.mem_append.1 hl2 with hl | hl
    · cases gs with
      | nil => cases hl
      | cons g gs => exact h0 g (hg g (List.mem_cons_self ..)) l hl
    · rcases List.mem_cons.1 hl with rfl | hl
      · exact h l (List.mem_cons_self ..)
      · exact ih l hl
/-- What is read with lines between, with a remark behind, without the last end. -/
theorem gaps_parse {ks : List Nat} (hk : ks.length ≤ 30) {gs : List Nat} (hg : ∀ g ∈ gs, g < 4) :
    parseE ⟨(weave gs true (listL ks)).toArray⟩ = (esOf (ks.map itemL), 0, 0) ∧ parseE (⟨(weave gs true (listL ks)).toArray⟩ ++ ⟨#[35]⟩) = (esOf (ks.map itemL), 0, 0) := by
  have h1 := listL_len ks
  have h2 := items_es ks
  have hw := weave_len (listL ks) gs true hg
  have hin : ∀ l ∈ ks.map itemL, (10 : UInt8) ∉ l := fun l hl => by
    obtain ⟨k, _, rfl⟩ := List.mem_map.1 hl
    exact (itemL_ok k).2.1
  have hall := weaveLs_all (Q := fun l => (10 : UInt8) ∉ l ∧ noneL l = false) (fun g hg l hl => ⟨(gap_ok ⟨g, hg⟩ l hl).1, (gap_ok ⟨g, hg⟩ l hl).2.2⟩) (ks.map itemL) gs hg fun l hl => ⟨hin l hl, items_good ks l hl⟩
  have hfl : weave gs true (listL ks) = flatL (weaveLs gs (ks.map itemL)) := weave_flat (ks.map itemL) gs hg hin
  have hlines : linesL (weave gs true (listL ks)) = weaveLs gs (ks.map itemL) := by rw [hfl]; exact linesL_flat _ fun l hl => (hall l hl).1
  have hlines2 : linesL (weave gs true (listL ks) ++ [35]) = weaveLs gs (ks.map itemL) ++ [[35]] := by
    rw [hfl]
    exact lines_front _ [35] fun l hl => (hall l hl).1
  have hes := weaveLs_es (ks.map itemL) gs hg
  have h35 : entryL [35] = none ∧ noneL [35] = false := by decide +kernel
  have hes2 : esOf (weaveLs gs (ks.map itemL) ++ [[35]]) = esOf (ks.map itemL) := by
    rw [esOf_app, hes, es_none [[35]] fun l hl => by rw [List.mem_singleton.1 hl]; exact h35.1, List.append_nil]
  constructor
  · have h := parseE_of (s := ⟨(weave gs true (listL ks)).toArray⟩) (by rw [ba_len]; omega) (by rw [ba_toL, hlines, hes]; omega) (by rw [ba_toL, hlines]; exact fun l hl => (hall l hl).2)
    rw [ba_toL, hlines, hes] at h
    exact h
  · have e1 : (((⟨(weave gs true (listL ks)).toArray⟩ : ByteArray) ++ ⟨#[35]⟩).data.toList) = weave gs true (listL ks) ++ [35] := by rw [l_app, ba_toL]
    have e2 : ((⟨(weave gs true (listL ks)).toArray⟩ : ByteArray) ++ ⟨#[35]⟩).size ≤ 65536 := by
      rw [ByteArray.size_append, ba_len]
      show _ + 1 ≤ _
      omega
    have h := parseE_of (s := (⟨(weave gs true (listL ks)).toArray⟩ : ByteArray) ++ ⟨#[35]⟩) e2 (by rw [e1, hlines2, hes2]; omega) (by
      rw [e1, hlines2]
      intro l hl
      rcases List.mem_append.1 hl with h | h
      · exact (hall l h).2
      · rw [List.mem_singleton.1 h]; exact h35.2)
    rw [e1, hlines2, hes2] at h
    exact h
theorem last_parse {ks : List Nat} (hk : ks.length ≤ 30) (hne : ks ≠ []) : parseE ⟨((listL ks).take ((listL ks).length - 1)).toArray⟩ = (esOf (ks.map itemL), 0, 0) := by
  have h1 := listL_len ks
  have h2 := items_es ks
  obtain ⟨k0, k, rfl⟩ : ∃ a b, ks = a ++ [b] := ⟨ks.dropLast, ks.getLast hne, (List.dropLast_concat_getLast hne).symm⟩
  have e0 : listL (k0 ++ [k]) = (flatL (k0.map itemL) ++ itemL k) ++ [10] := by
    unfold listL flatL
    simp
  have e1 : (listL (k0 ++ [k])).take ((listL (k0 ++ [k])).length - 1) = flatL (k0.map itemL) ++ itemL k := by
    rw [e0, List.length_append]
    show List.take (_ + 1 - 1) _ = _
    rw [Nat.add_sub_cancel, List.take_left]
  obtain ⟨e, he⟩ := Option.isSome_iff_exists.1 (itemL_ok k).1
  have hlines : linesL (flatL (k0.map itemL) ++ itemL k) = (k0 ++ [k]).map itemL := by
    have := lines_front (k0.map itemL) (itemL k) fun l hl => by
      obtain ⟨k, _, rfl⟩ := List.mem_map.1 hl
      exact (itemL_ok k).2.1
    rw [linesL_one _ (entry_line he).2.1 (itemL_ok k).2.1] at this
    rw [List.map_append]
    exact this
  rw [e1]
  have hlen : (flatL (k0.map itemL) ++ itemL k).length ≤ 300 := by
    have := congrArg List.length e0
    rw [List.length_append] at this
    simp only [List.length_cons, List.length_nil] at this
    omega
  have h := parseE_of (s := ⟨(flatL (k0.map itemL) ++ itemL k).toArray⟩) (by rw [ba_len]; omega) (by rw [ba_toL, hlines]; omega) (by rw [ba_toL, hlines]; exact items_good _)
  rw [ba_toL, hlines] at h
  exact h
end Go.Proofs.YtmadlappalhmlaaDoor
