/- Plain: the tokens of words with so much between them. -/
import Derived.Test.YtmebboadadlahaaDoorSLaws
import Derived.Test.YtmebboadadlahaaDoorSMath
namespace Go.Proofs.YtmebboadadlahaaDoor
open Go Go.Lib

def shTok (k : Nat) (t : Tok) : Tok := (t.1 + k, t.2.1 + k, t.2.2)
theorem segs_shift (kd : Int → Int) (k : Nat) : ∀ (us : List U3) (p : Int) (c : Option Tok), segs kd p (c.map (shTok k)) (us.map fun u => (u.1 + k, u.2)) = (segs kd p c us).map (shTok k)
  | [], _, c => by cases c <;> simp [segs]
  | u :: us, p, c => by
    have hh : headK kd (us.map fun u => (u.1 + k, u.2)) = headK kd us := by cases us <;> rfl
    rw [List.map_cons, segs, segs, hh]
    split
    · rw [← segs_shift kd k us]
      congr 1
      cases c <;> simp [ext, shTok] <;> omega
    · rw [List.map_append, ← segs_shift kd k us]
      cases c <;> rfl

theorem piece_segs (kd : Int → Int) (x : UInt8) (c : Int) (hx : x.toNat / 64 ≠ 2) (hd : ∀ t, (decodeL (x :: t)).2 = 1) (hc : ∀ t, uCode (x :: t) = c) (hk : kd c = 0)
    (P rest : List UInt8) (k : Nat) (hP : segs kd 0 none (units 0 P) = [(0, k, true)]) (p : Nat) :
    segs kd 0 none (units p (P ++ x :: rest)) = (p, p + k, true) :: segs kd 0 none (units (p + P.length + 1) rest) := by
  have h1 := units_stop x rest hx P p
  have h2 : units (p + P.length) (x :: rest) = (p + P.length, 1, c) :: units (p + P.length + 1) rest := by
    rw [units_step _ _ (by simp), hd, hc]
    simp
  have h3 := units_shift p P 0
  rw [Nat.zero_add] at h3
  have h4 := segs_shift kd p (units 0 P) 0 none
  rw [h1, h2, segs_stop kd _ _ hk, h3]
  rw [Option.map_none] at h4
  rw [h4, hP]
  simp [shTok, Nat.add_comm]

/-- A word by its length; what lies between, by its number. -/
def cWord (k : Nat) : ByteArray := (ByteArray.mk #[97, 98, 99, 100, 101, 102, 103, 104, 105]).extract 0 k
def cGap : Nat → ByteArray
  | 0 => ⟨#[32]⟩
  | 1 => ⟨#[44, 32]⟩
  | 2 => ⟨#[45]⟩
  | 3 => ⟨#[255]⟩
  | _ => ⟨#[32, 39, 32]⟩
theorem cWord_toks : ((List.range 10).all fun k => (k == 0) || (([[], [44], [32, 39]] : List (List UInt8)).all fun m => decide (segs (Cls.ofT Cls.tab) 0 none (units 0 ((cWord k).data.toList ++ m)) = [(0, k, true)]))) = true := by
  decide +kernel
theorem word_toks {k : Nat} (h0 : 0 < k) (h9 : k < 10) {m : List UInt8} (hm : m ∈ ([[], [44], [32, 39]] : List (List UInt8))) :
    segs (Cls.ofT Cls.tab) 0 none (units 0 ((cWord k).data.toList ++ m)) = [(0, k, true)] := by
  have h := List.all_eq_true.mp cWord_toks k (List.mem_range.mpr h9)
  rw [show (k == 0) = false by simp; omega, Bool.false_or] at h
  exact of_decide_eq_true (List.all_eq_true.mp h m hm)
theorem lone_ascii (x : UInt8) (hx : x.toNat < 128) (t : List UInt8) : (decodeL (x :: t)).2 = 1 ∧ uCode (x :: t) = x.toNat := by
  have hd : decodeL (x :: t) = (x.toNat, 1) := by
    rw [decodeL_N]
    simp [decodeN, hx]
  exact ⟨by rw [hd], by simp [uCode, uBad, hd]; intro h; omega⟩
theorem lone_bad (t : List UInt8) : (decodeL (255 :: t)).2 = 1 ∧ uCode (255 :: t) = uCode [255] := by
  have hd : ∀ t, decodeL (255 :: t) = (65533, 1) := by
    intro t
    rw [decodeL_N]
    simp [decodeN]
  exact ⟨by rw [hd], by simp [uCode, uBad, hd]⟩

theorem gap_parts (g : Nat) : ∃ m x c, m ∈ ([[], [44], [32, 39]] : List (List UInt8)) ∧ (cGap g).data.toList = m ++ [x] ∧ x.toNat / 64 ≠ 2 ∧ (∀ t, (decodeL (x :: t)).2 = 1) ∧ (∀ t, uCode (x :: t) = c) ∧ Cls.ofT Cls.tab c = 0 := by
  have asc : ∀ x : UInt8, x.toNat < 128 → Cls.ofT Cls.tab x.toNat = 0 → x.toNat / 64 ≠ 2 ∧ (∀ t, (decodeL (x :: t)).2 = 1) ∧ (∀ t, uCode (x :: t) = x.toNat) ∧ Cls.ofT Cls.tab x.toNat = 0 := fun x h hk =>
    ⟨by omega, fun t => (lone_ascii x h t).1, fun t => (lone_ascii x h t).2, hk⟩
  match g with
  | 0 => exact ⟨[], 32, _, by simp, rfl, asc 32 (by decide) (by decide)⟩
  | 1 => exact ⟨[44], 32, _, by simp, rfl, asc 32 (by decide) (by decide)⟩
  | 2 => exact ⟨[], 45, _, by simp, rfl, asc 45 (by decide) (by decide)⟩
  | 3 => exact ⟨[], 255, uCode [255], by simp, rfl, by decide, fun t => (lone_bad t).1, fun t => (lone_bad t).2, by decide +kernel⟩
  | _ + 4 => exact ⟨[32, 39], 32, _, by simp, rfl, asc 32 (by decide) (by decide)⟩

/-- So many words, with so much behind each; their tokens. -/
def cText (g : Nat) (ks : List Nat) : ByteArray := ks.foldl (fun s k => (s ++ cWord k) ++ cGap g) ⟨#[]⟩
def cToks (gl : Nat) : Nat → List Nat → List Tok
  | _, [] => []
  | p, k :: ks => (p, p + k, true) :: cToks gl (p + k + gl) ks
def cList (g : Nat) : List Nat → List UInt8
  | [] => []
  | k :: ks => ((cWord k).data.toList ++ (cGap g).data.toList) ++ cList g ks
theorem cText_snoc (g : Nat) (ks : List Nat) (k : Nat) : cText g (ks ++ [k]) = (cText g ks ++ cWord k) ++ cGap g := by simp [cText]
theorem foldl_list (g : Nat) : ∀ (ks : List Nat) (s : ByteArray), (ks.foldl (fun s k => (s ++ cWord k) ++ cGap g) s).data.toList = s.data.toList ++ cList g ks
  | [], s => by simp [cList]
  | k :: ks, s => by
    rw [List.foldl_cons, foldl_list g ks, ByteArray.data_append, ByteArray.data_append, Array.toList_append, Array.toList_append, cList]
    simp only [List.append_assoc]
theorem cText_list (g : Nat) (ks : List Nat) : (cText g ks).data.toList = cList g ks := by
  rw [cText, foldl_list]
  rfl
theorem cWord_size {k : Nat} (h : k < 10) : (cWord k).size = k := by
  rw [cWord, ByteArray.size_extract]
  have : (ByteArray.mk #[97, 98, 99, 100, 101, 102, 103, 104, 105]).size = 9 := rfl
  omega
theorem cList_toks (g : Nat) : ∀ (ks : List Nat) (p : Nat), (∀ k ∈ ks, 0 < k ∧ k < 10) → segs (Cls.ofT Cls.tab) 0 none (units p (cList g ks)) = cToks (cGap g).size p ks
  | [], p, _ => by simp [cList, cToks, units_nil, segs]
  | k :: ks, p, h => by
    obtain ⟨m, x, c, hm, hg, hx, hd, hc, hk⟩ := gap_parts g
    obtain ⟨h0, h9⟩ := h k (List.mem_cons_self ..)
    have hw := word_toks h0 h9 hm
    have hp := piece_segs (Cls.ofT Cls.tab) x c hx hd hc hk _ (cList g ks) k hw p
    have hl : ((cWord k).data.toList ++ m).length + 1 = k + (cGap g).size := by
      have h1 : (cWord k).data.toList.length = k := by rw [← Lib.size_eq, cWord_size h9]
      have h2 : (cGap g).size = m.length + 1 := by rw [Lib.size_eq, hg]; simp
      rw [List.length_append]
      omega
    rw [cList, hg, show ((cWord k).data.toList ++ (m ++ [x])) ++ cList g ks = ((cWord k).data.toList ++ m) ++ x :: cList g ks by simp, hp, cToks, Nat.add_assoc p _ 1, hl, ← Nat.add_assoc,
      cList_toks g ks _ (fun k hk => h k (List.mem_cons_of_mem _ hk))]
theorem cText_toks (g : Nat) (ks : List Nat) (h : ∀ k ∈ ks, 0 < k ∧ k < 10) : toksOf Cls.tab (cText g ks) = cToks (cGap g).size 0 ks := by
  rw [toksOf, cText_list, cList_toks g ks 0 h]
theorem cToks_length (gl : Nat) : ∀ (ks : List Nat) p, (cToks gl p ks).length = ks.length
  | [], _ => rfl
  | k :: ks, p => by rw [cToks, List.length_cons, List.length_cons, cToks_length gl ks]
theorem cToks_snoc (g : Nat) (ks : List Nat) (k : Nat) (h : ∀ k ∈ ks, 0 < k ∧ k < 10) : ∀ p, cToks (cGap g).size p (ks ++ [k]) = cToks (cGap g).size p ks ++ [(p + (cText g ks).size, p + (cText g ks).size + k, true)] := by
  have e : (cText g ks).size = (cList g ks).length := by rw [Lib.size_eq, cText_list]
  rw [e]
  clear e
  induction ks with
  | nil => intro p; simp [cToks, cList]
  | cons a ks ih =>
    intro p
    have h1 : (cWord a).data.toList.length = a := by rw [← Lib.size_eq, cWord_size (h a (List.mem_cons_self ..)).2]
    rw [List.cons_append, cToks, cToks, ih (fun k hk => h k (List.mem_cons_of_mem _ hk)), cList, List.length_append, List.length_append, h1, ← Lib.size_eq]
    simp [Nat.add_assoc]
theorem cText_size (g : Nat) (ks : List Nat) (h : ∀ k ∈ ks, 0 < k ∧ k < 10) : (cText g ks).size ≤ 12 * ks.length := by
  rw [Lib.size_eq, cText_list]
  have hg : (cGap g).data.toList.length ≤ 3 := by
    match g with
    | 0 | 1 | 2 | 3 => decide
    | _ + 4 => exact Nat.le_refl 3
  induction ks with
  | nil => simp [cList]
  | cons a ks ih =>
    have h1 : (cWord a).data.toList.length = a := by rw [← Lib.size_eq, cWord_size (h a (List.mem_cons_self ..)).2]
    have h2 := (h a (List.mem_cons_self ..)).2
    have h3 := ih (fun k hk => h k (List.mem_cons_of_mem _ hk))
    rw [cList, List.length_append, List.length_append, h1, List.length_cons]
    omega
end Go.Proofs.YtmebboadadlahaaDoor
