/- What stands between two calls of a buffer that is handed in; edit.found and edit.change by contract. -/
import Derived.Test.YtfdnlbeancdajaaEPre
import Derived.Test.YtfdnlbeancdajaaEDoes
import Derived.Deep.RegionHeld3
namespace Go.Proofs.Ytfdnlbeancdajaa
open Go Go.RowKit

/-- What is asked of a buffer's calls by edit. -/
structure SaysU (R : Nat → (Nat → Prop) → World → Addr → ByteArray → Nat → Nat → Nat → Prop) : Prop where
  insert : ∀ {u : Nat} F w a s m p h (k : Int) (t : ByteArray), R u F w a s m p h → u + t.size ≤ 1000000 → -9223372036854775808 ≤ k → k ≤ 9223372036854775807 →
    Calls Try.prog 39 #[.pointer (some a), .int .i64 k, .string t] w fun e w' => e = .returned (.int .i64 (insE s m k t)) ∧ Goes (R (bump u s m k t)) F w w' a (insS s m k t) m (fun _ _ => True)
  delete : ∀ {u : Nat} F w a s m p h (k n : Int), R u F w a s m p h → -9223372036854775808 ≤ k → k ≤ 9223372036854775807 → -9223372036854775808 ≤ n → n ≤ 9223372036854775807 →
    Calls Try.prog 40 #[.pointer (some a), .int .i64 k, .int .i64 n] w fun e w' => e = .returned (.int .i64 (delE s k n)) ∧ Goes (R u) F w w' a (delS s k n) m (fun _ _ => True)
  slice : ∀ {u : Nat} F w a s m p h (k n : Int), R u F w a s m p h → -9223372036854775808 ≤ k → k ≤ 9223372036854775807 → -9223372036854775808 ≤ n → n ≤ 9223372036854775807 →
    Calls Try.prog 29 #[.pointer (some a), .int .i64 k, .int .i64 n] w fun e w' => e = .returned (.tuple #[.string (cutS s k n), .int .i64 (delE s k n)]) ∧ Goes (R u) F w w' a s m (fun _ _ => True)
  inv : ∀ {u : Nat} F w a s m p h, R u F w a s m p h → s.size ≤ m ∧ m ≤ 65536
  lt : ∀ {u : Nat} F w a s m p h, R u F w a s m p h → ∀ k, F k → k < w.heap.size
  frame : ∀ {u : Nat} F w w' a s m p h, R u F w a s m p h → KeepsAt F w w' → R u F w' a s m p h
  up : ∀ {u u' : Nat} F w a s m p h, R u F w a s m p h → u ≤ u' → R u' F w a s m p h

theorem OnlyAt.comp {F G : Nat → Prop} {w wx w' : World} (h1 : OnlyAt F w wx) (h2 : OnlyAt G wx w') (hG : ∀ k, G k → F k ∨ w.heap.size ≤ k) : OnlyAt F w w' :=
  ⟨h2.os.trans h1.os, h2.tape.trans h1.tape, h2.output.trans h1.output, Nat.le_trans h1.size h2.size, fun k hk hn => (h2.block k (Nat.lt_of_lt_of_le hk h1.size) (fun hg => by
    rcases hG k hg with e | e
    · exact hn e
    · omega)).trans (h1.block k hk hn)⟩

/-- Behind some calls: a buffer of the text s, in blocks that were its own, or are new; G: blocks of the function's own beside it. -/
structure Mid (Rep : (Nat → Prop) → World → Addr → ByteArray → Nat → Nat → Nat → Prop) (F : Nat → Prop) (w : World) (a : Addr) (s : ByteArray) (m : Nat) (G : Nat → Prop) (wx : World) : Prop where
  rep : ∃ F' p h, Rep F' wx a s m p h ∧ (∀ k, F' k → F k ∨ w.heap.size ≤ k) ∧ ∀ k, F' k → ¬ G k
  only : OnlyAt F w wx
  mine : ∀ k, G k → w.heap.size ≤ k ∧ k < wx.heap.size
section
variable {Rep Rep' : (Nat → Prop) → World → Addr → ByteArray → Nat → Nat → Nat → Prop} {F G : Nat → Prop} {w wx w' : World} {a : Addr} {s s' : ByteArray} {m p h : Nat}
theorem Mid.begin (hr : Rep F w a s m p h) : Mid Rep F w a s m (fun _ => False) w := ⟨⟨F, p, h, hr, fun _ hk => .inl hk, fun _ _ e => e⟩, OnlyAt.refl _ _, fun _ e => e.elim⟩
theorem Mid.goes (h : Mid Rep F w a s m G wx) : Goes Rep F w wx a s m (fun _ _ => True) := by
  obtain ⟨⟨F', p, hh, hr, h1, _⟩, h2, _⟩ := h
  exact ⟨F', p, hh, hr, trivial, h2, h1⟩
theorem Mid.goes_to {Rep' : (Nat → Prop) → World → Addr → ByteArray → Nat → Nat → Nat → Prop} (h : Mid Rep F w a s m G wx) (hup : ∀ F p h, Rep F wx a s m p h → Rep' F wx a s m p h) : Goes Rep' F w wx a s m (fun _ _ => True) := by
  obtain ⟨⟨F', p, hh, hr, h1, _⟩, h2, _⟩ := h
  exact ⟨F', p, hh, hup _ _ _ hr, trivial, h2, h1⟩
theorem Mid.call {f : Nat} {args : Array Value} {r : Value} {P : Nat → Nat → Prop} (h : Mid Rep F w a s m G wx)
    (hc : ∀ F' p hh, Rep F' wx a s m p hh → Calls Try.prog f args wx fun e w' => e = .returned r ∧ Goes Rep' F' wx w' a s' m P) :
    Calls Try.prog f args wx fun e w' => e = .returned r ∧ Hid (Mid Rep' F w a s' m G w') ∧ Hid (KeepsAt G wx w') := by
  obtain ⟨⟨F', p, hh, hr, h1, hG⟩, h2, h3⟩ := h
  refine (hc F' p hh hr).mono ?_
  rintro e w' ⟨he, F2, p2, hh2, hr2, _, ho, hF2⟩
  refine ⟨he, Lib.hid ⟨⟨F2, p2, hh2, hr2, fun k hk => ?_, fun k hk hg => ?_⟩, h2.comp ho (fun k hk => h1 k hk), fun k hk => ⟨(h3 k hk).1, Nat.lt_of_lt_of_le (h3 k hk).2 ho.size⟩⟩, Lib.hid (KeepsAt.of_only ho (fun k hk e => hG k e hk))⟩
  · rcases hF2 k hk with e | e
    · exact h1 k e
    · exact .inr (Nat.le_trans h2.size e)
  · rcases hF2 k hk with e | e
    · exact hG k e hg
    · have := (h3 k hg).2; omega
end
section
variable {R : Nat → (Nat → Prop) → World → Addr → ByteArray → Nat → Nat → Nat → Prop} {u u' : Nat} {F G : Nat → Prop} {w wx w' : World} {a : Addr} {s : ByteArray} {m : Nat}
theorem Mid.keep (U : SaysU R) (h : Mid (R u) F w a s m G wx) (ho : OnlyAt G wx w') : Mid (R u) F w a s m G w' := by
  obtain ⟨⟨F', p, hh, hr, h1, hG⟩, h2, h3⟩ := h
  exact ⟨⟨F', p, hh, U.frame F' wx w' a s m p hh hr (KeepsAt.of_only ho (fun k hk e => hG k hk e)), h1, hG⟩, h2.comp ho (fun k hk => .inr (h3 k hk).1), fun k hk => ⟨(h3 k hk).1, Nat.lt_of_lt_of_le (h3 k hk).2 ho.size⟩⟩
theorem Mid.below (U : SaysU R) (h : Mid (R u) F w a s m G wx) (hb : Below wx.heap.size wx w') : Mid (R u) F w a s m G w' := h.keep U (OnlyAt.of_below hb)
theorem Mid.add (U : SaysU R) (h : Mid (R u) F w a s m G wx) (o : Obj) : Mid (R u) F w a s m (fun j => G j ∨ j = wx.heap.size) (wx.alloc o) := by
  have h' := h.below U ((Below.refl wx.heap.size wx).alloc (Nat.le_refl _) o)
  obtain ⟨⟨F', p, hh, hr, h1, hG⟩, h2, h3⟩ := h
  refine ⟨⟨F', p, hh, U.frame F' wx _ a s m p hh hr ⟨by simp, fun k hk _ => Below.heap_alloc _ _ _ hk⟩, h1, fun k hk => ?_⟩, h'.only, fun k hk => ?_⟩
  · rintro (e | e)
    · exact hG k hk e
    · have := U.lt F' wx a s m p hh hr k hk; omega
  · rw [World.size_alloc]
    rcases hk with e | e
    · have := h3 k e; omega
    · have := h2.size; omega
theorem Mid.inv (U : SaysU R) (h : Mid (R u) F w a s m G wx) : s.size ≤ m ∧ m ≤ 65536 := by
  obtain ⟨⟨F', p, hh, hr, _⟩, _⟩ := h
  exact U.inv F' wx a s m p hh hr
end

/-- A block that holds an edit. -/
def Box (g : Nat) (k : Int) (d i : ByteArray) (W : World) : Prop := W.heap[g]? = some (.cells #[.int .i64 k, .string d, .string i] /-t-/23 (0, 0))
theorem Box.lt {g : Nat} {k : Int} {d i : ByteArray} {W : World} (h : Box g k d i W) : g < W.heap.size := (Array.getElem?_eq_some_iff.1 h).1
theorem Box.keep {g : Nat} {k : Int} {d i : ByteArray} {W W' : World} (h : Box g k d i W) (hb : W'.heap[g]? = W.heap[g]?) : Box g k d i W' := hb.trans h
theorem Box.under {G : Nat → Prop} {g : Nat} {k : Int} {d i : ByteArray} {W W' : World} (h : Box g k d i W) (hk : KeepsAt G W W') (hg : G g) : Box g k d i W' := h.keep (hk.block g h.lt hg)
theorem Box.on {g : Nat} {k : Int} {d i : ByteArray} {W W' : World} (h : Box g k d i W) (hb : Below W.heap.size W W') : Box g k d i W' := h.keep (hb.block g h.lt)
theorem Box.new (W : World) (k : Int) (d i : ByteArray) : Box W.heap.size k d i (W.alloc (.cells #[.int .i64 k, .string d, .string i] /-t-/23)) := World.alloc_heap_new _ _
theorem Box.cells {g : Nat} {k : Int} {d i : ByteArray} {W : World} (h : Box g k d i W) : HasE g k d i W := by
  unfold Box at h
  refine ⟨?_, ?_, ?_⟩ <;> simp [World.cell?, h]
theorem Box.frozen {g : Nat} {k : Int} {d i : ByteArray} {W : World} (h : Box g k d i W) (o : Nat) : W.frozen? ⟨g, o, none⟩ = false := by
  unfold Box at h
  simp [World.frozen?, h]
theorem Box.set {g : Nat} {k : Int} {d i : ByteArray} {W : World} (h : Box g k d i W) (k' : Int) (d' i' : ByteArray) :
    Box g k' d' i' (((W.setCell ⟨g, 0, none⟩ (.int .i64 k')).setCell ⟨g, 1, none⟩ (.string d')).setCell ⟨g, 2, none⟩ (.string i')) ∧
    OnlyAt (fun j => j = g) W (((W.setCell ⟨g, 0, none⟩ (.int .i64 k')).setCell ⟨g, 1, none⟩ (.string d')).setCell ⟨g, 2, none⟩ (.string i')) :=
  ⟨cells_set _ _ _ _ _ _ (cells_set _ _ _ _ _ _ (cells_set _ _ _ _ _ _ h)), ((OnlyAt.setCell (T := fun j => j = g) _ ⟨g, 0, none⟩ _ rfl).trans (OnlyAt.setCell (T := fun j => j = g) _ ⟨g, 1, none⟩ _ rfl)).trans (OnlyAt.setCell (T := fun j => j = g) _ ⟨g, 2, none⟩ _ rfl)⟩

theorem results_cell_one {P : Program} {fn : Func} {p x : Tmp} {ty : TypeId} (h : fn.results = #[.cell p ty, .tmp x]) (tmps : Array Value) (w : World) (g : Nat) (t : TypeId) (cs : Array Value) (fr : Nat × Nat) (d : TypeDesc)
    (hp : tmps.getD p undef = .pointer (some ⟨g, 0, none⟩)) (hg : w.heap[g]? = some (.cells cs t fr))
    (hu : P.underlying ty = some d) (hd : (match d with | .struct _ | .array _ _ => true | _ => false) = true) (hi : (P.info? ty).map (·.size) = some cs.size) :
    (results fn tmps).run P w = .ok (.tuple #[.agg cs, tmps.getD x undef]) w := by
  have hp' : tmps[p]?.getD undef = .pointer (some ⟨g, 0, none⟩) := by simpa using hp
  simp [results, h, hp', asAddr, run_loadVar_row w g t ty cs fr d hg hu hd hi]

section
variable {R : Nat → (Nat → Prop) → World → Addr → ByteArray → Nat → Nat → Nat → Prop} {u : Nat}
set_option maxRecDepth 100000 in
set_option maxHeartbeats 1000000 in
theorem found_no (U : SaysU R) (F : Nat → Prop) (w : World) (a : Addr) (s : ByteArray) (m p h : Nat) (k n : Int) (t : ByteArray) (hr : R u F w a s m p h) (hi : ¬ isIn s k n) (k1 : -9223372036854775808 ≤ k) (k2 : k ≤ 9223372036854775807) (n1 : -9223372036854775808 ≤ n) (n2 : n ≤ 9223372036854775807) :
    Calls Try.prog 27 #[.pointer (some a), .int .i64 k, .int .i64 n, .string t] w fun e w' => e = .returned (.tuple #[EdV 0 ⟨#[]⟩ ⟨#[]⟩, .int .i64 2]) ∧ Goes (R u) F w w' a s m (fun _ _ => True) := by
  have H1 := Lib.hid ((Mid.begin hr).add U (.cells #[.int .i64 0, .string ⟨#[]⟩, .string ⟨#[]⟩] /-t-/23))
  have HX := Lib.hid (Box.new w 0 ⟨#[]⟩ ⟨#[]⟩)
  have CS := Lib.hid (H1.out.call (fun F' p hh hr => U.slice F' _ a s m p hh k n hr k1 k2 n1 n2))
  rw [delE, if_neg hi] at CS
  have HU := Lib.hid U
  clear hr hi k1 k2 n1 n2 U
  go_enter Try.func27, Try.ntmps27
  go_wp2_with fail
  refine CS.out.mono ?_
  rintro e w2 ⟨rfl, H2, hk⟩
  have hx := HX.out.under hk.out (.inr rfl)
  obtain ⟨c0, c1, c2⟩ := hx.cells
  have cf := hx.frozen
  obtain ⟨hx3, ho3⟩ := hx.set 0 ⟨#[]⟩ ⟨#[]⟩
  have HX3 := Lib.hid hx3
  have HO3 := Lib.hid (H2.out.keep HU.out (ho3.mono fun _ h => .inr h))
  clear hk hx hx3 ho3
  go_wp2_with fail
  refine bodyPost_ret (results_cell_one rfl _ _ w.heap.size /-t-/23 _ (0, 0) _ rfl HX3.out Try.underlying23 rfl Try.info23) rfl ?_
  exact ⟨rfl, HO3.out.goes⟩

set_option maxRecDepth 100000 in
set_option maxHeartbeats 1000000 in
theorem found_yes (U : SaysU R) (F : Nat → Prop) (w : World) (a : Addr) (s : ByteArray) (m p h : Nat) (k n : Int) (t : ByteArray) (hr : R u F w a s m p h) (hi : isIn s k n) (k1 : -9223372036854775808 ≤ k) (k2 : k ≤ 9223372036854775807) (n1 : -9223372036854775808 ≤ n) (n2 : n ≤ 9223372036854775807) :
    Calls Try.prog 27 #[.pointer (some a), .int .i64 k, .int .i64 n, .string t] w fun e w' => e = .returned (.tuple #[EdV k (s.extract k.toNat (k.toNat + n.toNat)) t, .int .i64 0]) ∧ Goes (R u) F w w' a s m (fun _ _ => True) := by
  have H1 := Lib.hid ((Mid.begin hr).add U (.cells #[.int .i64 0, .string ⟨#[]⟩, .string ⟨#[]⟩] /-t-/23))
  have HX := Lib.hid (Box.new w 0 ⟨#[]⟩ ⟨#[]⟩)
  have CS := Lib.hid (H1.out.call (fun F' p hh hr => U.slice F' _ a s m p hh k n hr k1 k2 n1 n2))
  rw [delE, if_pos hi, cutS, if_pos hi] at CS
  have HU := Lib.hid U
  generalize s.extract k.toNat (k.toNat + n.toNat) = D at *
  clear hr hi k1 k2 n1 n2 U
  go_enter Try.func27, Try.ntmps27
  go_wp2_with fail
  refine CS.out.mono ?_
  rintro e w2 ⟨rfl, H2, hk⟩
  have hx := HX.out.under hk.out (.inr rfl)
  obtain ⟨c0, c1, c2⟩ := hx.cells
  have cf := hx.frozen
  obtain ⟨hx3, ho3⟩ := hx.set k D t
  have HX3 := Lib.hid hx3
  have HO3 := Lib.hid (H2.out.keep HU.out (ho3.mono fun _ h => .inr h))
  clear hk hx hx3 ho3
  go_wp2_with fail
  refine bodyPost_ret (results_cell_one rfl _ _ w.heap.size /-t-/23 _ (0, 0) _ rfl HX3.out Try.underlying23 rfl Try.info23) rfl ?_
  exact ⟨rfl, HO3.out.goes⟩
end
end Go.Proofs.Ytfdnlbeancdajaa
