/- Plain: tokens of a list of units, by their classes. -/
import Derived.Lib.Hide
namespace Go.Proofs.YtmebboadadlahaaDoor

/-- A unit: where, how long, which code. -/
abbrev U3 := Nat × Nat × Int
/-- A token: from, to, is it a word? -/
abbrev Tok := Nat × Nat × Bool

def firmB (k : Int) : Bool := k == 1 || k == 2
def solidB (p k n : Int) : Bool := firmB k || (k == 3 && firmB p && firmB n)
/-- The class at the head; 0 where there is none. -/
def headK (kd : Int → Int) : List U3 → Int
  | [] => 0
  | u :: _ => kd u.2.2
/-- A token grown by a unit of class k; a new one where there is none. -/
def ext (c : Option Tok) (u : U3) (k : Int) : Tok :=
  match c with
  | none => (u.1, u.1 + u.2.1, k != 2)
  | some x => (x.1, u.1 + u.2.1, x.2.2 && k != 2)
/-- The tokens, behind a unit of class p, with one that is open. -/
def segs (kd : Int → Int) : Int → Option Tok → List U3 → List Tok
  | _, c, [] => c.toList
  | p, c, u :: t => if solidB p (kd u.2.2) (headK kd t) then segs kd (kd u.2.2) (some (ext c u (kd u.2.2))) t else c.toList ++ segs kd (kd u.2.2) none t

/-- The class ahead of place i; the class at place i. -/
def ahead (kd : Int → Int) (us : List U3) (i : Nat) : Int := if i = 0 then 0 else ((us[i - 1]?).map fun u => kd u.2.2).getD 0
def classAt (kd : Int → Int) (us : List U3) (i : Nat) : Int := ((us[i]?).map fun u => kd u.2.2).getD 0

theorem ahead_zero (kd : Int → Int) (us : List U3) : ahead kd us 0 = 0 := rfl
theorem ahead_succ (kd : Int → Int) (us : List U3) (i : Nat) : ahead kd us (i + 1) = classAt kd us i := rfl
theorem classAt_some {kd : Int → Int} {us : List U3} {i : Nat} {u : U3} (h : us[i]? = some u) : classAt kd us i = kd u.2.2 := by rw [classAt, h]; rfl
theorem classAt_none {kd : Int → Int} {us : List U3} {i : Nat} (h : us.length ≤ i) : classAt kd us i = 0 := by rw [classAt, List.getElem?_eq_none h]; rfl
theorem headK_drop (kd : Int → Int) (us : List U3) (i : Nat) : headK kd (us.drop i) = classAt kd us i := by
  by_cases h : i < us.length
  · rw [List.drop_eq_getElem_cons h, classAt_some (List.getElem?_eq_getElem h)]; rfl
  · rw [List.drop_eq_nil_of_le (by omega), classAt_none (by omega)]; rfl

/-- What holds at place i: what is done, and one that is open. -/
def SegInv (kd : Int → Int) (us : List U3) (i : Nat) (done : List Tok) (c : Option Tok) : Prop := segs kd 0 none us = done ++ segs kd (ahead kd us i) c (us.drop i)

theorem SegInv.zero (kd : Int → Int) (us : List U3) : SegInv kd us 0 [] none := rfl
theorem SegInv.yes {kd : Int → Int} {us : List U3} {i : Nat} {done : List Tok} {c : Option Tok} {u : U3} (h : SegInv kd us i done c) (hu : us[i]? = some u)
    (hs : solidB (ahead kd us i) (kd u.2.2) (classAt kd us (i + 1)) = true) : SegInv kd us (i + 1) done (some (ext c u (kd u.2.2))) := by
  obtain ⟨hi, rfl⟩ := List.getElem?_eq_some_iff.1 hu
  unfold SegInv at h ⊢
  rw [h, List.drop_eq_getElem_cons hi, segs, headK_drop, if_pos hs, ahead_succ, classAt_some hu]
theorem SegInv.no {kd : Int → Int} {us : List U3} {i : Nat} {done : List Tok} {c : Option Tok} {u : U3} (h : SegInv kd us i done c) (hu : us[i]? = some u)
    (hs : solidB (ahead kd us i) (kd u.2.2) (classAt kd us (i + 1)) = false) : SegInv kd us (i + 1) (done ++ c.toList) none := by
  obtain ⟨hi, rfl⟩ := List.getElem?_eq_some_iff.1 hu
  unfold SegInv at h ⊢
  rw [h, List.drop_eq_getElem_cons hi, segs, headK_drop, hs, ahead_succ, classAt_some hu]
  simp
theorem SegInv.end_ {kd : Int → Int} {us : List U3} {i : Nat} {done : List Tok} {c : Option Tok} (h : SegInv kd us i done c) (hi : us.length ≤ i) : segs kd 0 none us = done ++ c.toList := by
  unfold SegInv at h
  rw [h, List.drop_eq_nil_of_le hi, segs]

/-- Is the unit at a place solid, as the text asks it, one test behind the other. -/
theorem solid_firm {p k n : Int} (h : firmB k = true) : solidB p k n = true := by simp [solidB, h]
theorem solid_other {p k n : Int} (h : firmB k = false) (h3 : k ≠ 3) : solidB p k n = false := by simp [solidB, h, h3]
theorem solid_left {p k n : Int} (h : firmB k = false) (hp : firmB p = false) : solidB p k n = false := by simp [solidB, h, hp]
theorem solid_right {p k n : Int} (h : firmB k = false) (hn : firmB n = false) : solidB p k n = false := by simp [solidB, h, hn]
theorem solid_join {p n : Int} (hp : firmB p = true) (hn : firmB n = true) : solidB p 3 n = true := by simp [solidB, hp, hn]
theorem firm_zero : firmB 0 = false := rfl

theorem segs_len (kd : Int → Int) : ∀ (us : List U3) (p : Int) (c : Option Tok), (segs kd p c us).length ≤ us.length + c.toList.length
  | [], _, c => by simp [segs]
  | u :: t, p, c => by
    rw [segs]
    split
    · have := segs_len kd t (kd u.2.2) (some (ext c u (kd u.2.2)))
      simp at this ⊢
      omega
    · have := segs_len kd t (kd u.2.2) none
      simp at this ⊢
      omega
end Go.Proofs.YtmebboadadlahaaDoor
