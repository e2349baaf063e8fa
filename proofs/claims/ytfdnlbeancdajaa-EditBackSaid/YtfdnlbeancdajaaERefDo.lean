/- The document's own Do of chapter 7 by contract. -/
import Derived.Test.YtfdnlbeancdajaaERef
namespace Go.Proofs.Ytfdnlbeancdajaa
open Go Go.RowKit

/-- What a Do answers, and makes of the text. -/
def doE (s : ByteArray) (m : Nat) (k n : Int) (t : ByteArray) : Int := if isIn s k n then (if m < s.size - n.toNat + t.size then 3 else 0) else 2
def doV (s : ByteArray) (m : Nat) (k n : Int) (t : ByteArray) : Value := if doE s m k n t = 0 then EdV k (s.extract k.toNat (k.toNat + n.toNat)) t else EdV 0 ⟨#[]⟩ ⟨#[]⟩
def doS (s : ByteArray) (m : Nat) (k n : Int) (t : ByteArray) : ByteArray := if doE s m k n t = 0 then putT s k.toNat n.toNat t else s

theorem results_cell_two {P : Program} {fn : Func} {p x y : Tmp} {ty : TypeId} (h : fn.results = #[.cell p ty, .tmp x, .tmp y]) (tmps : Array Value) (w : World) (g : Nat) (t : TypeId) (cs : Array Value) (fr : Nat × Nat) (d : TypeDesc)
    (hp : tmps.getD p undef = .pointer (some ⟨g, 0, none⟩)) (hg : w.heap[g]? = some (.cells cs t fr))
    (hu : P.underlying ty = some d) (hd : (match d with | .struct _ | .array _ _ => true | _ => false) = true) (hi : (P.info? ty).map (·.size) = some cs.size) :
    (results fn tmps).run P w = .ok (.tuple #[.agg cs, tmps.getD x undef, tmps.getD y undef]) w := by
  have hp' : tmps[p]?.getD undef = .pointer (some ⟨g, 0, none⟩) := by simpa using hp
  simp [results, h, hp', asAddr, run_loadVar_row w g t ty cs fr d hg hu hd hi]

theorem cells_set (w : World) (g i : Nat) (v : Value) (cs : Array Value) (t : TypeId) (h : w.heap[g]? = some (.cells cs t (0, 0))) : (w.setCell ⟨g, i, none⟩ v).heap[g]? = some (.cells (cs.setIfInBounds i v) t (0, 0)) := by
  simp [World.setCell, Array.getElem?_modify, h]

set_option maxRecDepth 100000 in
set_option maxHeartbeats 2000000 in
theorem refdo_place (w : World) (s t : ByteArray) (m : Nat) (k n : Int) (hs : s.size ≤ 100000) (hn : ¬ isIn s k n) : Calls Try.prog 15 #[.string s, .int .i64 m, .int .i64 k, .int .i64 n, .string t] w fun e w' => e = .returned (.tuple #[EdV 0 ⟨#[]⟩ ⟨#[]⟩, .string s, .int .i64 2]) ∧ Below w.heap.size w w' := by
  have hcs : k < 0 ∨ (0 ≤ k ∧ n < 0) ∨ (0 ≤ k ∧ 0 ≤ n ∧ (s.size : Int) < k) ∨ (0 ≤ k ∧ 0 ≤ n ∧ k ≤ s.size ∧ (s.size : Int) - k < n) := by unfold isIn at hn; omega
  have s3 : (s.size : Int) ≤ 100000 := by omega
  clear hn hs
  have h2 : (w.alloc (.cells #[.int .i64 0, .string ⟨#[]⟩, .string ⟨#[]⟩] /-t-/23)).heap[w.heap.size]? = some (.cells #[.int .i64 0, .string ⟨#[]⟩, .string ⟨#[]⟩] /-t-/23 (0, 0)) := World.alloc_heap_new _ _
  have hb : Below w.heap.size w (w.alloc (.cells #[.int .i64 0, .string ⟨#[]⟩, .string ⟨#[]⟩] /-t-/23)) := (Below.refl _ _).alloc (Nat.le_refl _) _
  have H2 := Lib.hid (And.intro h2 hb)
  clear h2 hb
  rcases hcs with h | ⟨h, h'⟩ | ⟨h, h', h''⟩ | ⟨h, h', h'', h'''⟩
  all_goals
    go_enter Try.func15, Try.ntmps15
    go_wp2_with fail
    refine bodyPost_ret (results_cell_two rfl _ _ w.heap.size 23 _ (0, 0) _ rfl H2.out.1 Try.underlying23 rfl Try.info23) rfl ?_
    exact ⟨rfl, H2.out.2⟩

set_option maxRecDepth 100000 in
set_option maxHeartbeats 2000000 in
theorem refdo_big (w : World) (s t : ByteArray) (m q z : Nat) (hs : s.size ≤ 100000) (ht : t.size ≤ 100000) (hm : m ≤ 65536) (hq : q + z ≤ s.size) (hb : m < s.size - z + t.size) : Calls Try.prog 15 #[.string s, .int .i64 m, .int .i64 q, .int .i64 z, .string t] w fun e w' => e = .returned (.tuple #[EdV 0 ⟨#[]⟩ ⟨#[]⟩, .string s, .int .i64 3]) ∧ Below w.heap.size w w' := by
  have a1 : (0 : Int) ≤ q := by omega
  have a2 : (0 : Int) ≤ z := by omega
  have a3 : (q : Int) ≤ s.size := by omega
  have a4 : (z : Int) ≤ (s.size : Int) - q := by omega
  have a5 : (s.size : Int) ≤ 100000 := by omega
  have a6 : (t.size : Int) ≤ 100000 := by omega
  have a7 : (m : Int) < (s.size : Int) - z + t.size := by omega
  have a8 : (0 : Int) ≤ t.size := by omega
  have a9 : (z : Int) ≤ s.size := by omega
  have h2 : (w.alloc (.cells #[.int .i64 0, .string ⟨#[]⟩, .string ⟨#[]⟩] /-t-/23)).heap[w.heap.size]? = some (.cells #[.int .i64 0, .string ⟨#[]⟩, .string ⟨#[]⟩] /-t-/23 (0, 0)) := World.alloc_heap_new _ _
  have hb2 : Below w.heap.size w (w.alloc (.cells #[.int .i64 0, .string ⟨#[]⟩, .string ⟨#[]⟩] /-t-/23)) := (Below.refl _ _).alloc (Nat.le_refl _) _
  have H2 := Lib.hid (And.intro h2 hb2)
  clear h2 hb2 hs ht hm hq hb
  go_enter Try.func15, Try.ntmps15
  go_wp2_with fail
  refine bodyPost_ret (results_cell_two rfl _ _ w.heap.size 23 _ (0, 0) _ rfl H2.out.1 Try.underlying23 rfl Try.info23) rfl ?_
  exact ⟨rfl, H2.out.2⟩

set_option maxRecDepth 100000 in
set_option maxHeartbeats 2000000 in
theorem refdo_yes (w : World) (s t : ByteArray) (m q z : Nat) (hs : s.size ≤ 100000) (ht : t.size ≤ 100000) (hm : m ≤ 65536) (hq : q + z ≤ s.size) (hb : s.size - z + t.size ≤ m) : Calls Try.prog 15 #[.string s, .int .i64 m, .int .i64 q, .int .i64 z, .string t] w fun e w' => e = .returned (.tuple #[EdV q (s.extract q (q + z)) t, .string (putT s q z t), .int .i64 0]) ∧ Below w.heap.size w w' := by
  have a1 : (0 : Int) ≤ q := by omega
  have a2 : (0 : Int) ≤ z := by omega
  have a3 : (q : Int) ≤ s.size := by omega
  have a4 : (z : Int) ≤ (s.size : Int) - q := by omega
  have a5 : (s.size : Int) ≤ 100000 := by omega
  have a6 : (t.size : Int) ≤ 100000 := by omega
  have a7 : (s.size : Int) - z + t.size ≤ m := by omega
  have a8 : (0 : Int) ≤ t.size := by omega
  have a9 : (z : Int) ≤ s.size := by omega
  have g1 : (q : Int) ≤ (q : Int) + z := by omega
  have g2 : (q : Int) + z ≤ s.size := by omega
  have g4 : (0 : Int) ≤ (q : Int) + z := by omega
  have hw : IntKind.i64.wrap ((q : Int) + z) = (q : Int) + z := IntWalk.i64_in _ (by omega)
  have hN1 : ¬ 9223372036854775807 < min q s.size + t.size := by omega
  have hN2 : ¬ 9223372036854775807 < min q s.size + t.size + (s.size - (q + z)) := by omega
  clear hs ht hm hq hb
  go_enter Try.func15, Try.ntmps15
  go_wp2_with fail
  obtain ⟨w2, hw2⟩ : ∃ w2, w2 = (w.alloc (.cells #[.int .i64 0, .string ⟨#[]⟩, .string ⟨#[]⟩] /-t-/23)).alloc (.cells #[.int .i64 q, .string (s.extract q (q + z)), .string t] /-t-/23) := ⟨_, rfl⟩
  rw [← hw2]
  have b1 : w2.heap[w.heap.size + 1]? = some (.cells #[.int .i64 q, .string (s.extract q (q + z)), .string t] /-t-/23 (0, 0)) := by
    have := World.alloc_heap_new (w.alloc (.cells #[.int .i64 0, .string ⟨#[]⟩, .string ⟨#[]⟩] /-t-/23)) (.cells #[.int .i64 q, .string (s.extract q (q + z)), .string t] /-t-/23)
    rw [World.size_alloc] at this
    rw [hw2]; exact this
  have b0 : w2.heap[w.heap.size]? = some (.cells #[.int .i64 0, .string ⟨#[]⟩, .string ⟨#[]⟩] /-t-/23 (0, 0)) := by
    rw [hw2]; exact (Below.heap_alloc _ _ _ (by rw [World.size_alloc]; omega)).trans (World.alloc_heap_new w _)
  have hb2 : Below w.heap.size w w2 := by rw [hw2]; exact ((Below.refl _ _).alloc (Nat.le_refl _) _).alloc (by rw [World.size_alloc]; omega) _
  have x0 : w2.cell? ⟨w.heap.size + 1, 0, none⟩ = some (.int .i64 q) := by simp [World.cell?, b1]
  have x1 : w2.cell? ⟨w.heap.size + 1, 1, none⟩ = some (.string (s.extract q (q + z))) := by simp [World.cell?, b1]
  have x2 : w2.cell? ⟨w.heap.size + 1, 2, none⟩ = some (.string t) := by simp [World.cell?, b1]
  have y0 : w2.cell? ⟨w.heap.size, 0, none⟩ = some (.int .i64 0) := by simp [World.cell?, b0]
  have y1 : w2.cell? ⟨w.heap.size, 1, none⟩ = some (.string ⟨#[]⟩) := by simp [World.cell?, b0]
  have y2 : w2.cell? ⟨w.heap.size, 2, none⟩ = some (.string ⟨#[]⟩) := by simp [World.cell?, b0]
  have yf : ∀ o, w2.frozen? ⟨w.heap.size, o, none⟩ = false := fun o => by simp [World.frozen?, b0]
  have HW := Lib.hid (And.intro b0 hb2)
  clear hw2 b0 b1 hb2
  go_region
  go_wp2_with fail
  obtain ⟨b0, hb2⟩ := HW.out
  have h3 : ((((w2.setCell ⟨w.heap.size, 0, none⟩ (.int .i64 q)).setCell ⟨w.heap.size, 1, none⟩ (.string (s.extract q (q + z)))).setCell ⟨w.heap.size, 2, none⟩ (.string t)).drew).heap[w.heap.size]? = some (.cells #[.int .i64 q, .string (s.extract q (q + z)), .string t] /-t-/23 (0, 0)) :=
    cells_set _ _ _ _ _ _ (cells_set _ _ _ _ _ _ (cells_set _ _ _ _ _ _ b0))
  have hb3 : Below w.heap.size w ((((w2.setCell ⟨w.heap.size, 0, none⟩ (.int .i64 q)).setCell ⟨w.heap.size, 1, none⟩ (.string (s.extract q (q + z)))).setCell ⟨w.heap.size, 2, none⟩ (.string t)).drew) :=
    below_drewN (((hb2.setCell (p := ⟨w.heap.size, 0, none⟩) (Nat.le_refl _) _).setCell (p := ⟨w.heap.size, 1, none⟩) (Nat.le_refl _) _).setCell (p := ⟨w.heap.size, 2, none⟩) (Nat.le_refl _) _) 1
  refine bodyPost_ret (results_cell_two rfl _ _ w.heap.size 23 _ (0, 0) _ rfl h3 Try.underlying23 rfl Try.info23) rfl ?_
  exact ⟨rfl, hb3⟩

/-- The document's own Do. -/
theorem ref_do (w : World) (s t : ByteArray) (m : Nat) (k n : Int) (hs : s.size ≤ 100000) (ht : t.size ≤ 100000) (hm : m ≤ 65536) : Calls Try.prog 15 #[.string s, .int .i64 m, .int .i64 k, .int .i64 n, .string t] w fun e w' => e = .returned (.tuple #[doV s m k n t, .string (doS s m k n t), .int .i64 (doE s m k n t)]) ∧ Below w.heap.size w w' := by
  by_cases h : isIn s k n
  · have h' := h
    obtain ⟨h1, h2, h3, h4⟩ := h'
    obtain ⟨q, rfl⟩ : ∃ q : Nat, k = q := ⟨k.toNat, by omega⟩
    obtain ⟨z, rfl⟩ : ∃ z : Nat, n = z := ⟨n.toNat, by omega⟩
    by_cases hb : m < s.size - z + t.size
    · have e : doE s m q z t = 3 := by rw [doE, if_pos h, Int.toNat_natCast, if_pos hb]
      rw [doV, doS, e, if_neg (by omega), if_neg (by omega)]
      exact refdo_big w s t m q z hs ht hm (by omega) hb
    · have e : doE s m q z t = 0 := by rw [doE, if_pos h, Int.toNat_natCast, if_neg hb]
      rw [doV, doS, e, if_pos rfl, if_pos rfl, Int.toNat_natCast, Int.toNat_natCast]
      exact refdo_yes w s t m q z hs ht hm (by omega) (by omega)
  · have e : doE s m k n t = 2 := by rw [doE, if_neg h]
    rw [doV, doS, e, if_neg (by omega), if_neg (by omega)]
    exact refdo_place w s t m k n hs h
end Go.Proofs.Ytfdnlbeancdajaa
