/- fold's calls as its laws ask them; awake. -/
import Derived.Test.YtfhoffdgbkoffaaDoorFTitle
import Derived.Test.YtfhoffdgbkoffaaDoorFShape
namespace Go.Proofs.YtfhoffdgbkoffaaDoor
open Go Go.RowKit Go.Lib

abbrev TU (w : World) : Prop := Lib.Utf8Tabs 0 1 w
/-- Pairs that may be handed over. -/
structure Prs (w : World) (v : Value) (ps : List (Int × Int)) : Prop where
  at_ : PairsAt w v ps
  few : ps.length ≤ 1000000
  fit : ∀ p ∈ ps, I64 p.1 ∧ I64 p.2
theorem Prs.keep {w w' : World} {v : Value} {ps : List (Int × Int)} (h : Prs w v ps) (hb : Below w.heap.size w w') : Prs w' v ps := ⟨h.at_.keep hb, h.few, h.fit⟩
theorem Prs.nil (w : World) : Prs w (.slice none 0 0) [] := ⟨.inl ⟨rfl, _, _, rfl⟩, by simp, fun p h => by cases h⟩
theorem fsmall {w : World} {v : Value} {ps : List (Int × Int)} (h : Prs w v ps) {s t : ByteArray} (hs : s.size ≤ 1000000000) (e : smallT ps s.data.toList = t.data.toList) :
    Calls Tryd.prog 9 #[v, .string s] w fun e w' => e = .returned (.string t) ∧ Below w.heap.size w w' := by
  have := small_any w v ps s h.at_ h.few h.fit hs
  rwa [e, str_back] at this
theorem ftitle {w : World} {v : Value} {ps : List (Int × Int)} (h : Prs w v ps) (hT : TU w) {s t : ByteArray} (hs : s.size ≤ 1000000000) (e : titleT ps s.data.toList = t.data.toList) :
    Calls Tryd.prog 11 #[v, .string s] w fun e w' => e = .returned (.string t) ∧ Below w.heap.size w w' := by
  have := title_any w v ps s h.at_ h.few h.fit hs hT
  rwa [e, str_back] at this
theorem fshape {w : World} {v : Value} {ps : List (Int × Int)} (h : Prs w v ps) {s : ByteArray} {k : Int} (hs : s.size ≤ 1000000000) (e : shapeT ps s.data.toList = k) :
    Calls Tryd.prog 10 #[v, .string s] w fun e w' => e = .returned (.int .i64 k) ∧ Below w.heap.size w w' := by
  have := shape_any w v ps s h.at_ h.few h.fit hs
  rwa [e] at this

set_option maxRecDepth 100000 in
set_option maxHeartbeats 1000000 in
theorem fawake_any (w : World) (hT : TU w) : Calls Tryd.prog 7 #[] w fun e w' => e = .returned (.bool true) ∧ Below w.heap.size w w' := by
  have C1 := Lib.hid (fun wx => fshape (Prs.nil wx) (s := ⟨#[78, 65, 84, 79]⟩) (k := 2) (by decide) (by decide +kernel))
  have C2 := Lib.hid (fun wx => fshape (Prs.nil wx) (s := ⟨#[65]⟩) (k := 1) (by decide) (by decide +kernel))
  have C3 := Lib.hid (fun wx => fsmall (Prs.nil wx) (s := ⟨#[78, 97, 84, 79]⟩) (t := ⟨#[110, 97, 116, 111]⟩) (by decide) (by decide +kernel))
  have C4 := Lib.hid (fun wx (ht : TU wx) => ftitle (Prs.nil wx) ht (s := ⟨#[110, 97, 116, 111]⟩) (t := ⟨#[78, 97, 116, 111]⟩) (by decide) (by decide +kernel))
  have HT := Lib.hid hT
  clear hT
  go_enter Tryd.func7, Tryd.ntmps7
  go_wp2_with fail
  refine (C1.out _).mono ?_
  rintro e w1 ⟨rfl, hb1⟩
  have HB1 := Lib.hid hb1
  clear hb1
  go_wp2_with fail
  refine (C2.out _).mono ?_
  rintro e w2 ⟨rfl, hb2⟩
  have HB2 := Lib.hid (HB1.out.trans (hb2.mono HB1.out.size))
  clear hb2
  go_wp2_with fail
  refine (C3.out _).mono ?_
  rintro e w3 ⟨rfl, hb3⟩
  have HB3 := Lib.hid (HB2.out.trans (hb3.mono HB2.out.size))
  clear hb3
  go_wp2_with fail
  refine (C4.out _ (tabs_below HT.out HB3.out)).mono ?_
  rintro e w4 ⟨rfl, hb4⟩
  have HB4 := Lib.hid (HB3.out.trans (hb4.mono HB3.out.size))
  clear hb4
  go_wp2_with fail
  go_ret
  exact ⟨rfl, HB4.out⟩
end Go.Proofs.YtfhoffdgbkoffaaDoor
