/- Maps from numbers to numbers, as functions; fold.pairs' letters by contract. -/
import Derived.Test.YtfhoffdgbkoffaaDoorFBack
import Derived.Test.YtfhoffdgbkoffaaDoorWhere
import Derived.Maps.RangeWalk
import Derived.Maps.Ext
import Derived.Maps.OwnIn
import Derived.DeepKeys4
import Derived.Sort.CutIn
namespace Go.Proofs.YtfhoffdgbkoffaaDoor
open Go Go.RowKit Go.Lib Go.Shelf Go.Maps
attribute [local go_sem] Oper.semAt_some alloc_set

def I64 (f : Int) : Prop := -9223372036854775808 ≤ f ∧ f ≤ 9223372036854775807
theorem keyed_int : Keyed Tryd.prog 3 := int_keyed Tryd.underlying3
theorem wf_i {f : Int} (h : I64 f) : (Lit.int .i64 f).wf = true := WalkArith.wf_i64 h
theorem key_int {f : Int} (h : I64 f) : keyOf Tryd.prog 3 (.int .i64 f) = some (.int .i64 f) := keyOf_int_mk Tryd.underlying3 (wf_i h)
theorem zero_int (w : World) : (zeroValue 3).run Tryd.prog w = .ok (.int .i64 0) w := by kernel_rfl

/-- A map of the call's own that answers as f does; k stores were made. -/
structure LetM (w : World) (b k : Nat) (f : Int → Option Int) : Prop where
  own : ∃ D : DataW Unit, w.ownsMap Tryd.prog 3 (plainElem Tryd.prog 3) b k D ∧ ∀ c, Maps.has D (.int .i64 c) = (f c).isSome ∧ ∀ d, f c = some d → D.atKey (.int .i64 c) (.lit (.int .i64 0)) = .lit (.int .i64 d)
theorem LetM.lt {w : World} {b k : Nat} {f : Int → Option Int} (h : LetM w b k f) : b < w.heap.size := by
  obtain ⟨D, h1, _⟩ := h.own
  exact h1.lt
theorem LetM.same {w w' : World} {b k : Nat} {f : Int → Option Int} (h : LetM w b k f) (hb : w'.heap[b]? = w.heap[b]?) : LetM w' b k f := by
  obtain ⟨D, ⟨es, clock, h1, h2⟩, h3⟩ := h.own
  exact ⟨D, ⟨es, clock, hb.trans h1, h2⟩, h3⟩
theorem LetM.keep {w w' : World} {b k : Nat} {f : Int → Option Int} (h : LetM w b k f) (hb : Below w.heap.size w w') : LetM w' b k f := h.same (hb.block b h.lt)
theorem LetM.eq {w : World} {b k : Nat} {f g : Int → Option Int} (h : LetM w b k f) (e : ∀ c, f c = g c) : LetM w b k g := by
  obtain rfl : f = g := funext e
  exact h
theorem LetM.made {w : World} {b : Nat} (hb : w.heap[b]? = some (.map #[] 0)) : LetM w b 0 (fun _ => none) := by
  refine ⟨.map [], ?_, fun c => ⟨by simp [Maps.has], fun d h => by cases h⟩⟩
  have := World.ownsMap_made (H := Unit) w Tryd.prog 3 (plainElem Tryd.prog 3)
  obtain ⟨es, clock, h1, h2⟩ := this
  have h3 := (World.alloc_heap_new w (.map #[] 0)).symm.trans h1
  exact ⟨es, clock, hb.trans h3, h2⟩
theorem LetM.put {w : World} {b k : Nat} {f : Int → Option Int} (h : LetM w b k f) {c d : Int} (hc : I64 c) (hd : I64 d) (hk : k < maxLen) :
    ∃ w', (Instr.mapUpdate 50 (.map (some b)) (.int .i64 c) (.int .i64 d)).run Tryd.prog w = .ok () w' ∧ LetM w' b (k + 1) (fun x => if x = c then some d else f x) ∧ w.grownBy w' (some b) := by
  obtain ⟨D, h1, h2⟩ := h.own
  obtain ⟨w', hr, ho, hg⟩ := h1.update keyed_int Tryd.underlying50 hk (key_int hc) (plainElem_int Tryd.underlying3 (wf_i hd))
  refine ⟨w', hr, ⟨_, ho, fun x => ?_⟩, hg⟩
  by_cases e : x = c
  · subst e
    simp only [if_true]
    refine ⟨has_put_same h1.isMap (by unfold WideAt.IsKeyLit; trivial) _, fun y hy => ?_⟩
    rw [atKey_put_same h1.isMap (by unfold WideAt.IsKeyLit; trivial)]
    cases hy; rfl
  · have hne : Lit.int .i64 x ≠ .int .i64 c := fun hh => e (by injection hh)
    simp only [if_neg e]
    rw [has_put_other hne]
    exact ⟨(h2 x).1, fun y hy => by rw [atKey_put_other hne]; exact (h2 x).2 y hy⟩
theorem LetM.look {w : World} {b k : Nat} {f : Int → Option Int} (h : LetM w b k f) {c : Int} (hc : I64 c) :
    ∃ x, (Instr.lookup 50 (.map (some b)) (.int .i64 c) true).run Tryd.prog w = .ok (.tuple #[.int .i64 x, .bool (f c).isSome]) w ∧ ∀ d, f c = some d → x = d := by
  obtain ⟨D, h1, h2⟩ := h.own
  obtain ⟨v, ps, hr, hv⟩ := h1.look_ok keyed_int Tryd.underlying50 (zero_int w) (plainElem_int Tryd.underlying3 (by decide)) (key_int hc)
  obtain ⟨x, rfl, hx, _⟩ := plainElem_int_inv Tryd.underlying3 hv
  refine ⟨x, by rw [hr, (h2 c).1], fun d hd => ?_⟩
  have := (h2 c).2 d hd
  rw [this] at hx
  simp at hx
  exact hx.1.symm

/-! ### What the two maps answer -/
def sml (ps : List (Int × Int)) (c : Int) : Option Int := (ps.find? fun p => decide (p.1 = c)).map fun p => p.2
def grt (ps : List (Int × Int)) (c : Int) : Option Int := (ps.find? fun p => decide (p.2 = c)).map fun p => p.1
theorem sml_cons (p : Int × Int) (ps : List (Int × Int)) (c : Int) : sml (p :: ps) c = if c = p.1 then some p.2 else sml ps c := by
  unfold sml
  by_cases h : p.1 = c
  · subst h; simp
  · rw [List.find?_cons_of_neg (by simpa using h), if_neg (fun e => h e.symm)]
theorem grt_cons (p : Int × Int) (ps : List (Int × Int)) (c : Int) : grt (p :: ps) c = if c = p.2 then some p.1 else grt ps c := by
  unfold grt
  by_cases h : p.2 = c
  · subst h; simp
  · rw [List.find?_cons_of_neg (by simpa using h), if_neg (fun e => h e.symm)]
theorem smC_sml (ps : List (Int × Int)) (c : Int) : smC ps c = match sml ps c with
  | some d => some d
  | none => if 65 ≤ c ∧ c ≤ 90 then some (c - 65 + 97) else none := by
  unfold smC sml
  cases ps.find? fun p => decide (p.1 = c) <;> rfl
theorem grC_grt (ps : List (Int × Int)) (c : Int) : grC ps c = match grt ps c with
  | some d => some d
  | none => if 97 ≤ c ∧ c ≤ 122 then some (c - 97 + 65) else none := by
  unfold grC grt
  cases ps.find? fun p => decide (p.2 = c) <;> rfl
/-- The pairs of what has come, as they stand in the list. -/
def cameP (pre : List (Nat × (Int × Int))) : List (Int × Int) := pre.reverse.map (·.2)
theorem cameP_snoc (pre : List (Nat × (Int × Int))) (x : Nat × (Int × Int)) : cameP (pre ++ [x]) = x.2 :: cameP pre := by simp [cameP]
theorem cameP_all (ps : List (Int × Int)) : ∀ k, k ≤ ps.length → cameP (downE ps k) = ps.take k
  | 0, _ => by simp [cameP, downE]
  | k + 1, h => by
    have ih := cameP_all ps k (by omega)
    have hk : ps[k]? = some (ps[k]'(by omega)) := List.getElem?_eq_getElem _
    rw [List.take_add_one, hk, ← ih]
    unfold cameP
    simp [downE, List.getD, hk]
theorem downE_mem (ps : List (Int × Int)) : ∀ k, k ≤ ps.length → ∀ x ∈ downE ps k, x.2 ∈ ps
  | 0, _, x, h => by cases h
  | k + 1, hk, x, h => by
    rcases List.mem_cons.1 h with rfl | h
    · have : ps[k]? = some (ps[k]'(by omega)) := List.getElem?_eq_getElem _
      simp [List.getD, this]
    · exact downE_mem ps k (by omega) x h
theorem downE_len (ps : List (Int × Int)) : ∀ k, (downE ps k).length = k
  | 0 => rfl
  | k + 1 => by simp [downE, downE_len ps k]

/-! ### One letter -/
/-- Two maps, by a list's pairs. -/
structure TwoM (w : World) (a b k : Nat) (ps : List (Int × Int)) : Prop where
  small : LetM w a k (sml ps)
  great : LetM w b k (grt ps)
theorem TwoM.keep {w w' : World} {a b k : Nat} {ps : List (Int × Int)} (h : TwoM w a b k ps) (hb : Below w.heap.size w w') : TwoM w' a b k ps := ⟨h.small.keep hb, h.great.keep hb⟩
def smV (ps : List (Int × Int)) (c : Int) : Int := match smC ps c with
  | some d => d
  | none => c - 65 + 97
def grV (ps : List (Int × Int)) (c : Int) : Int := match grC ps c with
  | some d => d
  | none => c - 97 + 65
theorem box2v {w : World} {a b : Value} {t : TypeId} : (w.alloc (.cells #[a, b] t)).cell? ⟨w.heap.size, 0, none⟩ = some a ∧ (w.alloc (.cells #[a, b] t)).cell? ⟨w.heap.size, 1, none⟩ = some b := box2 (Below.refl _ _)

set_option maxRecDepth 100000 in
set_option maxHeartbeats 1000000 in
theorem psmall_any (w : World) (a b k : Nat) (ps : List (Int × Int)) (c : Int) (h : TwoM w a b k ps) (hc : -1000000000000 ≤ c ∧ c ≤ 1000000000000) :
    Calls Tryd.prog 18 #[.agg #[.map (some a), .map (some b)], .int .i64 c] w fun e w' => e = .returned (.tuple #[.int .i64 (smV ps c), .bool (smC ps c).isSome]) ∧ Below w.heap.size w w' := by
  have hm := h.small.keep ((Below.refl w.heap.size w).alloc (Nat.le_refl _) (.cells #[.map (some a), .map (some b)] 52))
  obtain ⟨x, hl, hx⟩ := hm.look (c := c) ⟨by omega, by omega⟩
  have hbx := (box2v (w := w) (a := .map (some a)) (b := .map (some b)) (t := 52)).1
  clear h hm
  unfold smV
  rw [smC_sml]
  cases hs : sml ps c with
  | some d =>
    obtain rfl := hx d hs
    rw [hs] at hl
    dsimp only [Option.isSome] at hl ⊢
    clear hx hs
    go_enter Tryd.func18, Tryd.ntmps18
    go_wp2
    go_ret2
    exact ⟨rfl, (Below.refl _ _).alloc (Nat.le_refl _) _⟩
  | none =>
    rw [hs] at hl
    dsimp only [Option.isSome] at hl
    clear hx hs
    by_cases h1 : 65 ≤ c
    · by_cases h2 : c ≤ 90
      · simp only [h1, h2, and_self, if_true, Option.isSome]
        go_enter Tryd.func18, Tryd.ntmps18
        go_wp2
        go_ret2
        exact ⟨rfl, (Below.refl _ _).alloc (Nat.le_refl _) _⟩
      · simp only [h1, h2, and_false, if_false, Option.isSome]
        go_enter Tryd.func18, Tryd.ntmps18
        go_wp2
        go_ret2
        exact ⟨rfl, (Below.refl _ _).alloc (Nat.le_refl _) _⟩
    · simp only [h1, false_and, if_false, Option.isSome]
      go_enter Tryd.func18, Tryd.ntmps18
      go_wp2
      go_ret2
      exact ⟨rfl, (Below.refl _ _).alloc (Nat.le_refl _) _⟩
set_option maxRecDepth 100000 in
set_option maxHeartbeats 1000000 in
theorem pgreat_any (w : World) (a b k : Nat) (ps : List (Int × Int)) (c : Int) (h : TwoM w a b k ps) (hc : -1000000000000 ≤ c ∧ c ≤ 1000000000000) :
    Calls Tryd.prog 22 #[.agg #[.map (some a), .map (some b)], .int .i64 c] w fun e w' => e = .returned (.tuple #[.int .i64 (grV ps c), .bool (grC ps c).isSome]) ∧ Below w.heap.size w w' := by
  have hm := h.great.keep ((Below.refl w.heap.size w).alloc (Nat.le_refl _) (.cells #[.map (some a), .map (some b)] 52))
  obtain ⟨x, hl, hx⟩ := hm.look (c := c) ⟨by omega, by omega⟩
  have hbx := (box2v (w := w) (a := .map (some a)) (b := .map (some b)) (t := 52)).2
  clear h hm
  unfold grV
  rw [grC_grt]
  cases hs : grt ps c with
  | some d =>
    obtain rfl := hx d hs
    rw [hs] at hl
    dsimp only [Option.isSome] at hl ⊢
    clear hx hs
    go_enter Tryd.func22, Tryd.ntmps22
    go_wp2
    go_ret2
    exact ⟨rfl, (Below.refl _ _).alloc (Nat.le_refl _) _⟩
  | none =>
    rw [hs] at hl
    dsimp only [Option.isSome] at hl
    clear hx hs
    by_cases h1 : 97 ≤ c
    · by_cases h2 : c ≤ 122
      · simp only [h1, h2, and_self, if_true, Option.isSome]
        go_enter Tryd.func22, Tryd.ntmps22
        go_wp2
        go_ret2
        exact ⟨rfl, (Below.refl _ _).alloc (Nat.le_refl _) _⟩
      · simp only [h1, h2, and_false, if_false, Option.isSome]
        go_enter Tryd.func22, Tryd.ntmps22
        go_wp2
        go_ret2
        exact ⟨rfl, (Below.refl _ _).alloc (Nat.le_refl _) _⟩
    · simp only [h1, false_and, if_false, Option.isSome]
      go_enter Tryd.func22, Tryd.ntmps22
      go_wp2
      go_ret2
      exact ⟨rfl, (Below.refl _ _).alloc (Nat.le_refl _) _⟩
end Go.Proofs.YtfhoffdgbkoffaaDoor
