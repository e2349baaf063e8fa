/- Items as functions in a list: function, checks, hold; Starts, Ends. -/
import Derived.Test.YtjeehdbnliifnaaGreatDoorOAlike
import Derived.Test.YtjeehdbnliifnaaGreatDoorMMem
import Derived.Shelf.Abstract
import Derived.Laws.EntriesVeiled
import Derived.Deep.RegionHeld3
namespace Go.Proofs.YtjeehdbnliifnaaGreatDoor
open Go Go.RowKit

/-- A box of an item. -/
def BoxAt (w0 w : World) (q : Nat) (it : It) : Prop := ∃ a n c, w.heap[q]? = some (.cells #[.bool it.any, .bool it.not, .slice a n c] 38 (0, 0)) ∧ IntsAt w0 (.slice a n c) it.set
/-- A function value that says what an item has. -/
def FunIs (w0 w : World) (f : Value) (it : It) : Prop :=
  (it.any = true ∧ f = .func (.func 99) #[] #[]) ∨
  (it.any = false ∧ it.not = true ∧ ∃ p q, f = .func (.func 100) #[] #[.pointer (some ⟨p, 0, none⟩)] ∧ w.heap[p]? = some (.cells #[.func (.func 97) #[] #[.pointer (some ⟨q, 0, none⟩)]] 57 (0, 0)) ∧ BoxAt w0 w q it) ∨
  (it.any = false ∧ it.not = false ∧ ∃ q, f = .func (.func 97) #[] #[.pointer (some ⟨q, 0, none⟩)] ∧ BoxAt w0 w q it)
theorem cell_box {w : World} {q : Nat} {cs : Array Value} {t : TypeId} (h : w.heap[q]? = some (.cells cs t (0, 0))) (j : Nat) : w.cell? ⟨q, j, none⟩ = cs[j]? := by
  simp [World.cell?, h]
/-- Only blocks that are no item's and no function's are written. -/
theorem FunIs.still {w0 w w' : World} {f : Value} {it : It} (h : FunIs w0 w f it) (hb : ∀ (b : Nat) (cs : Array Value) (t : TypeId), w.heap[b]? = some (Obj.cells cs t (0, 0)) → t = 38 ∨ t = 57 → w'.heap[b]? = w.heap[b]?) : FunIs w0 w' f it := by
  rcases h with h | ⟨h1, h2, p, q, h3, h4, a, n, c, h5, h6⟩ | ⟨h1, h2, q, h3, a, n, c, h5, h6⟩
  · exact .inl h
  · exact .inr (.inl ⟨h1, h2, p, q, h3, (hb p _ _ h4 (.inr rfl)).trans h4, a, n, c, (hb q _ _ h5 (.inl rfl)).trans h5, h6⟩)
  · exact .inr (.inr ⟨h1, h2, q, h3, a, n, c, (hb q _ _ h5 (.inl rfl)).trans h5, h6⟩)
theorem FunIs.keep {w0 w w' : World} {f : Value} {it : It} (h : FunIs w0 w f it) (hb : Below w.heap.size w w') : FunIs w0 w' f it :=
  h.still fun b _ _ hg _ => hb.block b (Array.getElem?_eq_some_iff.1 hg).1

set_option maxRecDepth 100000 in
set_option maxHeartbeats 1000000 in
theorem fun1_any (w0 w : World) (q : Nat) (it : It) (c : Int) (h : BoxAt w0 w q it) (hb : Below w0.heap.size w0 w) :
    Calls Tryz.prog 97 #[.int .i64 c, .pointer (some ⟨q, 0, none⟩)] w fun e w' => e = .returned (.bool (it.set.contains c)) ∧ w' = w := by
  obtain ⟨a, n, cp, hq, hi⟩ := h
  have C := Lib.hid (contains_any w _ it.set c (hi.keep hb))
  have z2 := cell_box hq 2
  simp at z2
  clear hq hi hb
  go_enter Tryz.func97, Tryz.ntmps97
  go_wp2_with (go_at_call 98; refine C.out.mono ?_; rintro e w1 ⟨rfl, rfl⟩)
  go_ret
  exact ⟨ret_bool (by simp), rfl⟩
set_option maxRecDepth 100000 in
set_option maxHeartbeats 1000000 in
theorem fun2_any (w : World) (c : Int) : Calls Tryz.prog 99 #[.int .i64 c] w fun e w' => e = .returned (.bool true) ∧ w' = w := by
  go_enter Tryz.func99, Tryz.ntmps99
  go_wp2
  go_ret
  exact ⟨rfl, rfl⟩
set_option maxRecDepth 100000 in
set_option maxHeartbeats 1000000 in
theorem fun3_any (w0 w : World) (p q : Nat) (it : It) (c : Int) (hp : w.heap[p]? = some (.cells #[.func (.func 97) #[] #[.pointer (some ⟨q, 0, none⟩)]] 57 (0, 0))) (h : BoxAt w0 w q it) (hb : Below w0.heap.size w0 w) :
    Calls Tryz.prog 100 #[.int .i64 c, .pointer (some ⟨p, 0, none⟩)] w fun e w' => e = .returned (.bool (!it.set.contains c)) ∧ w' = w := by
  have C := Lib.hid (fun1_any w0 w q it c h hb)
  have z0 := cell_box hp 0
  simp at z0
  clear hp h hb
  go_enter Tryz.func100, Tryz.ntmps100
  go_wp2_with (go_at_call 97; refine C.out.mono ?_; rintro e w1 ⟨rfl, rfl⟩)
  go_ret
  exact ⟨ret_bool (by simp), rfl⟩
theorem BoxAt.keep {w0 w w' : World} {q : Nat} {it : It} (h : BoxAt w0 w q it) (hb : Below w.heap.size w w') : BoxAt w0 w' q it := by
  obtain ⟨a, n, c, h1, h2⟩ := h
  exact ⟨a, n, c, (hb.block q (Array.getElem?_eq_some_iff.1 h1).1).trans h1, h2⟩
/-- A function value that is called. -/
theorem fun_call {w0 w : World} {f : Value} {it : It} (h : FunIs w0 w f it) (hb : Below w0.heap.size w0 w) : ∃ (k : Nat) (cap : Array Value), f = .func (.func k) #[] cap ∧ (∀ args w, (callFunc k args).run Tryz.prog w = .ok (.enter k args) w) ∧
    ∀ wx, Below w.heap.size w wx → ∀ c, Calls Tryz.prog k (#[.int .i64 c] ++ cap) wx fun e w' => e = .returned (.bool (hasP it c)) ∧ w' = wx := by
  have hB : ∀ wx, Below w.heap.size w wx → Below w0.heap.size w0 wx := fun wx hx => hb.trans (hx.mono hb.size)
  rcases h with ⟨h1, rfl⟩ | ⟨h1, h2, p, q, rfl, h4, h5⟩ | ⟨h1, h2, q, rfl, h5⟩
  · exact ⟨_, _, rfl, enters_of Tryz.func99 rfl rfl, fun wx _ c => by
      have := fun2_any wx c
      rwa [show hasP it c = true by unfold hasP; rw [h1]; rfl]⟩
  · exact ⟨_, _, rfl, enters_of Tryz.func100 rfl rfl, fun wx hx c => by
      have := fun3_any w0 wx p q it c ((hx.block p (Array.getElem?_eq_some_iff.1 h4).1).trans h4) (h5.keep hx) (hB wx hx)
      rwa [show hasP it c = !it.set.contains c by unfold hasP; rw [h1, h2]; simp]⟩
  · exact ⟨_, _, rfl, enters_of Tryz.func97 rfl rfl, fun wx hx c => by
      have := fun1_any w0 wx q it c (h5.keep hx) (hB wx hx)
      rwa [show hasP it c = it.set.contains c by unfold hasP; rw [h1, h2]; simp]⟩

set_option maxRecDepth 100000 in
set_option maxHeartbeats 1000000 in
theorem function_any (w0 w : World) (it : It) (sv : Value) (h : IntsAt w0 sv it.set) :
    Calls Tryz.prog 89 #[.agg #[.bool it.any, .bool it.not, sv]] w fun e w' => ∃ f, e = .returned f ∧ FunIs w0 w' f it ∧ Below w.heap.size w w' := by
  obtain ⟨A, cap, rfl, -⟩ := ints_open h
  have HI := Lib.hid h
  clear h
  have hb0 := (Below.refl w.heap.size w).alloc (Nat.le_refl _) (.cells #[.bool it.any, .bool it.not, .slice A it.set.length cap] 38)
  have HB := Lib.hid (hb0.alloc hb0.size (.cells #[.func (.func 97) #[] #[.pointer (some ⟨w.heap.size, 0, none⟩)]] 57))
  clear hb0
  obtain ⟨any, neg, set⟩ := it
  dsimp only at HI HB ⊢
  have HQ := Lib.hid (show BoxAt w0 ((w.alloc (.cells #[.bool any, .bool neg, .slice A set.length cap] 38)).alloc (.cells #[.func (.func 97) #[] #[.pointer (some ⟨w.heap.size, 0, none⟩)]] 57)) w.heap.size ⟨any, neg, set⟩ from
    ⟨_, _, _, by rw [Below.heap_alloc _ _ _ (by simp)]; exact World.alloc_heap_new w _, HI.out⟩)
  have HP := Lib.hid (show ((w.alloc (.cells #[.bool any, .bool neg, .slice A set.length cap] 38)).alloc (.cells #[.func (.func 97) #[] #[.pointer (some ⟨w.heap.size, 0, none⟩)]] 57)).heap[w.heap.size + 1]? = some (.cells #[.func (.func 97) #[] #[.pointer (some ⟨w.heap.size, 0, none⟩)]] 57 (0, 0)) by
    have := World.alloc_heap_new (w.alloc (.cells #[.bool any, .bool neg, .slice A set.length cap] 38)) (.cells #[.func (.func 97) #[] #[.pointer (some ⟨w.heap.size, 0, none⟩)]] 57)
    rwa [World.size_alloc] at this)
  cases any with
  | true =>
    go_enter Tryz.func89, Tryz.ntmps89
    go_wp2_with fail

    go_ret
    exact ⟨_, rfl, .inl ⟨rfl, rfl⟩, HB.out⟩
  | false =>
    cases neg with
    | true =>
      go_enter Tryz.func89, Tryz.ntmps89
      go_wp2_with fail
      go_ret
      exact ⟨_, rfl, .inr (.inl ⟨rfl, rfl, _, _, rfl, HP.out, HQ.out⟩), HB.out⟩
    | false =>
      go_enter Tryz.func89, Tryz.ntmps89
      go_wp2_with fail
      go_ret
      exact ⟨_, rfl, .inr (.inr ⟨rfl, rfl, _, rfl, HQ.out⟩), HB.out⟩
end Go.Proofs.YtjeehdbnliifnaaGreatDoor
