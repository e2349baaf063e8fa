/- Auto.Next, Auto.Out by contract: ranges over a state's arcs. -/
import Derived.Test.YtkabdieenijnlaaIAuto
import Derived.Test.YtkabdieenijnlaaIState
namespace Go.Proofs.Ytkabdieenijnlaa
open Go Go.RowKit Go.Lib Go.Shelf
attribute [local go_sem] Oper.semAt_some alloc_set

theorem goes_miss {l : List (UInt8 × Nat × Nat)} {c : UInt8} (h : ∀ x ∈ l, x.1 ≠ c) : goes l c = none := by
  unfold goes
  rw [List.find?_eq_none.2 (fun x hx => by simpa using h x hx)]
  rfl
theorem goes_hit {pre : List (UInt8 × Nat × Nat)} {x : UInt8 × Nat × Nat} {l : List (UInt8 × Nat × Nat)} {c : UInt8} (h : ∀ y ∈ pre, y.1 ≠ c) (hx : x.1 = c) (hp : (pre ++ [x]) <+: l) : goes l c = some x.2.1 := by
  obtain ⟨r, rfl⟩ := hp
  unfold goes
  rw [List.append_assoc, List.find?_append, List.find?_eq_none.2 (fun y hy => by simpa using h y hy)]
  simp [hx]
theorem heap_up {w : World} {k : Nat} {o : Obj} (h : w.heap[k]? = some o) (o' : Obj) : (w.alloc o').heap[k]? = some o := (Below.heap_alloc _ _ _ (Array.getElem?_eq_some_iff.1 h).1).trans h
theorem heap_top (w : World) (o : Obj) {k : Nat} (hk : w.heap.size = k) : (w.alloc o).heap[k]? = some o := hk ▸ World.alloc_heap_new w o
theorem keeps_below {R : Nat → Prop} {w w' : World} (h : Below w.heap.size w w') : KeepsAt R w w' := ⟨h.size, fun k hk _ => h.block k hk⟩
/-- Next, while the arcs come. -/
structure NI (w w5 : World) (R : Nat → Prop) (N : Nat) (c : UInt8) (v1 v2 : Value) (T : Nat → Prop) (W' : World) : Prop where
  box : W'.heap[N]? = some (.cells #[.int .u8 c.toNat] 5 (0, 0))
  r1 : W'.heap[N + 1]? = some (.cells #[v1] 3 (0, 0))
  r2 : W'.heap[N + 1 + 1]? = some (.cells #[v2] 4 (0, 0))
  low : ∀ k, T k → w5.heap.size ≤ k
  keep : KeepsAt R w5 W'
  below : Below N w W'
theorem NI.turn {w w5 : World} {R : Nat → Prop} {N : Nat} {c : UInt8} {v1 v2 : Value} {T T' : Nat → Prop} {U V : World} (h : NI w w5 R N c v1 v2 T U) (hR : ∀ k, R k → k < w5.heap.size) (hN : N + 1 + 1 < w5.heap.size) (ho : OnlyAt T U V) (ht : ∀ k, T' k → T k ∨ (U.heap.size ≤ k ∧ k < V.heap.size)) : NI w w5 R N c v1 v2 T' V := by
  have hs := h.keep.size
  have key : ∀ k, k < w5.heap.size → V.heap[k]? = U.heap[k]? := fun k hk => ho.block k (by omega) (fun hh => by have := h.low k hh; omega)
  refine ⟨(key N (by omega)).trans h.box, (key _ (by omega)).trans h.r1, (key _ hN).trans h.r2, fun k hk => ?_, h.keep.trans ⟨ho.size, fun k _ hr => key k (hR k hr)⟩, OnlyAt.below h.below ho (by omega) (fun k hk => by have := h.low k hk; omega)⟩
  rcases ht k hk with h1 | h1
  · exact h.low k h1
  · omega

theorem NI.set {w w5 : World} {R : Nat → Prop} {N : Nat} {c : UInt8} {v1 v2 : Value} {T : Nat → Prop} {W' : World} (h : NI w w5 R N c v1 v2 T W') (hw : N = w.heap.size) (hN : N + 1 + 1 < w5.heap.size) (hR : ∀ k, R k → k ≠ N + 1 ∧ k ≠ N + 1 + 1) (u1 u2 : Value) :
    NI w w5 R N c u1 u2 T ((W'.setCell ⟨N + 1, 0, none⟩ u1).setCell ⟨N + 1 + 1, 0, none⟩ u2) ∧ KeepsAt (fun k => R k ∨ T k) W' ((W'.setCell ⟨N + 1, 0, none⟩ u1).setCell ⟨N + 1 + 1, 0, none⟩ u2) := by
  have h5 := h.keep.size
  have l1 := (Array.getElem?_eq_some_iff.1 h.r1).1
  have l2 := (Array.getElem?_eq_some_iff.1 h.r2).1
  have ho : OnlyAt (fun k => k = N + 1 ∨ k = N + 1 + 1) W' ((W'.setCell ⟨N + 1, 0, none⟩ u1).setCell ⟨N + 1 + 1, 0, none⟩ u2) := ((only1 W' ⟨N + 1, 0, none⟩ u1).mono fun _ e => .inl e).trans ((only1 _ ⟨N + 1 + 1, 0, none⟩ u2).mono fun _ e => .inr e)
  have hk : KeepsAt (fun k => R k ∨ T k) W' ((W'.setCell ⟨N + 1, 0, none⟩ u1).setCell ⟨N + 1 + 1, 0, none⟩ u2) := KeepsAt.of_only ho fun k hk => by
    rcases hk with hk | hk
    · have := hR k hk; omega
    · have := h.low k hk; omega
  refine ⟨⟨(ho.block N (by omega) (by omega)).trans h.box, ?_, ?_, h.low, h.keep.trans (hk.mono fun _ hr => .inl hr), OnlyAt.below h.below ho (by omega) (fun k hk => by omega)⟩, hk⟩
  · refine (heap_other _ _ (by rw [show (W'.setCell ⟨N + 1, 0, none⟩ u1).heap.size = W'.heap.size by simp [World.setCell]]; exact l1) (by simp)).trans ?_
    have := heap_set (o := 0) h.r1 u1
    simpa using this
  · have e : (W'.setCell ⟨N + 1, 0, none⟩ u1).heap[N + 1 + 1]? = some (.cells #[v2] 4 (0, 0)) := (heap_other _ _ l2 (by simp)).trans h.r2
    have := heap_set (o := 0) e u2
    simpa using this
theorem next_res {w w5 : World} {R : Nat → Prop} {N : Nat} {c : UInt8} {v1 v2 : Value} {T : Nat → Prop} {W' : World} {Dd : Nat} {o : Obj} (h : NI w w5 R N c v1 v2 T W') (hD : N + 1 + 1 < Dd) : (W'.putObj Dd o).cell? ⟨N + 1, 0, none⟩ = some v1 ∧ (W'.putObj Dd o).cell? ⟨N + 1 + 1, 0, none⟩ = some v2 ∧ Below N w (W'.putObj Dd o) := by
  have e1 : (W'.putObj Dd o).heap[N + 1]? = _ := (World.putObj_heap_other (by omega)).trans h.r1
  have e2 : (W'.putObj Dd o).heap[N + 1 + 1]? = _ := (World.putObj_heap_other (by omega)).trans h.r2
  refine ⟨by simp [World.cell?, e1], by simp [World.cell?, e2], OnlyAt.below h.below (OnlyAt.putObj (T := fun k => k = Dd) _ _ _ rfl) (by have := (Array.getElem?_eq_some_iff.1 h.box).1; omega) (fun k hk => by omega)⟩
set_option maxRecDepth 100000 in
set_option maxHeartbeats 4000000 in
theorem next_any (w : World) (p : Nat) (g : GA) (st : Nat) (h : AutoAt w p g st) (s : Int) (c : UInt8) :
    Calls Try.prog 22 #[.pointer (some ⟨p, 0, none⟩), .int .i64 s, .int .u8 c.toNat] w fun e w' => e = .returned (match goes (g.out s) c with | some t => .tuple #[.int .i64 t, .bool true] | none => .tuple #[.int .i64 0, .bool false]) ∧ Below w.heap.size w w' := by
  obtain ⟨ANS, hANS⟩ : ∃ v, v = (match goes (g.out s) c with | some t => Value.tuple #[.int .i64 t, .bool true] | none => .tuple #[.int .i64 0, .bool false]) := ⟨_, rfl⟩
  rw [← hANS]
  have HANS := Lib.hid hANS
  clear hANS
  obtain ⟨N, hN⟩ : ∃ N, N = w.heap.size := ⟨_, rfl⟩
  obtain ⟨w3, hw3⟩ : ∃ w3, w3 = ((w.alloc (.cells #[.int .u8 c.toNat] 5)).alloc (.cells #[.int .i64 0] 3)).alloc (.cells #[.bool false] 4) := ⟨_, rfl⟩
  obtain ⟨w5, hw5⟩ : ∃ w5, w5 = (w3.alloc (.cells #[.pointer (some ⟨p, 0, none⟩)] 25)).alloc (.cells #[.int .i64 s] 3) := ⟨_, rfl⟩
  have hs3 : w3.heap.size = N + 1 + 1 + 1 := by rw [hw3, hN]; simp
  have hs5 : w5.heap.size = N + 5 := by rw [hw5]; simp [hs3]
  have hb3 : Below w.heap.size w w3 := by rw [hw3]; exact (((Below.refl _ w).alloc (Nat.le_refl _) _).alloc (by simp) _).alloc (by simp; omega) _
  have hb35 : Below w3.heap.size w3 w5 := by rw [hw5]; exact ((Below.refl _ w3).alloc (Nat.le_refl _) _).alloc (by simp) _
  have hb5 : Below w.heap.size w w5 := hb3.trans (hb35.mono hb3.size)
  have q0 : w5.heap[N]? = some (.cells #[.int .u8 c.toNat] 5 (0, 0)) := by
    refine (hb35.block N (by omega)).trans ?_
    rw [hw3]; exact heap_up (heap_up (heap_top _ _ hN.symm) _) _
  have q1 : w5.heap[N + 1]? = some (.cells #[.int .i64 0] 3 (0, 0)) := by
    refine (hb35.block (N + 1) (by omega)).trans ?_
    rw [hw3]; exact heap_up (heap_top _ _ (by rw [World.size_alloc, hN])) _
  have q2 : w5.heap[N + 1 + 1]? = some (.cells #[.bool false] 4 (0, 0)) := by
    refine (hb35.block (N + 1 + 1) (by omega)).trans ?_
    rw [hw3]; exact heap_top _ _ (by simp only [World.size_alloc]; omega)
  have p0 : w5.cell? ⟨N + 1 + 1 + 1, 0, none⟩ = some (.pointer (some ⟨p, 0, none⟩)) := by
    have : w5.heap[N + 1 + 1 + 1]? = some (.cells #[.pointer (some ⟨p, 0, none⟩)] 25 (0, 0)) := by rw [hw5]; exact heap_up (heap_top _ _ hs3) _
    simp [World.cell?, this]
  have p1 : w5.cell? ⟨N + 1 + 1 + 1 + 1, 0, none⟩ = some (.int .i64 s) := by
    have : w5.heap[N + 1 + 1 + 1 + 1]? = some (.cells #[.int .i64 s] 3 (0, 0)) := by rw [hw5]; exact heap_top _ _ (by rw [World.size_alloc, hs3])
    simp [World.cell?, this]
  obtain ⟨R, hR⟩ : ∃ R : Nat → Prop, R = fun k => k < N ∨ k = N + 1 + 1 + 1 ∨ k = N + 1 + 1 + 1 + 1 := ⟨_, rfl⟩
  have hRlt : ∀ k, R k → k < w5.heap.size := fun k hk => by rw [hR] at hk; omega
  have hdat : ∀ W', KeepsAt R w5 W' → AutoAt W' p g st ∧ W'.cell? ⟨N + 1 + 1 + 1, 0, none⟩ = some (.pointer (some ⟨p, 0, none⟩)) ∧ W'.cell? ⟨N + 1 + 1 + 1 + 1, 0, none⟩ = some (.int .i64 s) := fun W' hk =>
    ⟨h.cells fun a v ha => cell_kept hk ((cell_old hb5 (World.block_lt_of_cell? _ _ ha)).trans ha) (by rw [hR]; left; rw [hN]; exact World.block_lt_of_cell? _ _ ha), cell_kept hk p0 (by rw [hR]; right; left; rfl), cell_kept hk p1 (by rw [hR]; right; right; rfl)⟩
  have HI0 := Lib.hid (show NI w w5 R N c (.int .i64 0) (.bool false) (fun _ => False) w5 from ⟨q0, q1, q2, fun _ h => h.elim, KeepsAt.refl _ _, hN ▸ hb5⟩)
  have HD := Lib.hid (And.intro hdat (And.intro hRlt (And.intro hs5 hN)))
  have HW := Lib.hid (And.intro hw3 hw5)
  have HRN := Lib.hid (show ∀ k, R k → k ≠ N + 1 ∧ k ≠ N + 1 + 1 from fun k hk => by rw [hR] at hk; omega)
  have HTL := Lib.hid (show ∀ x ∈ g.out s, x.2.1 ≤ 1000000000 from fun x hx => by
    unfold GA.out at hx
    split at hx
    · cases hg : g.nodes[s.toNat]? with
      | none => rw [hg] at hx; cases hx
      | some y =>
        rw [hg] at hx
        obtain ⟨L, h1, -⟩ := h.ok.node _ y.1 y.2 hg
        obtain ⟨M, h2, -⟩ := (chain_ok h.ok y.2 L h1).2.there x hx
        have := (List.getElem?_eq_some_iff.1 h2).1
        have := h.ok.nl
        have := h.bd.1
        omega
    · cases hx)
  have CL := Lib.hid (fun wx => leaving_call (some ⟨p, 0, none⟩) s wx)
  clear hs3 hs5 hb3 hb35 hb5 q0 q1 q2 p0 p1 hdat hRlt h hw3 hw5 hR
  refine (callsIn_wide (n := 6)).1 ?_
  refine callsIn_of_wp_marks Try.func22 rfl trivial ?_ rfl
  simp only [Try.ntmps22, List.size_toArray, List.length_cons, List.length_nil, Nat.reduceAdd, Nat.reduceSub, Array.replicate_succ, Array.replicate_zero, List.push_toArray, List.append_toArray, List.nil_append, List.cons_append]
  gi_wp2_with (refine ⟨trivial, ?_⟩; gi_at_call 34; refine (callsIn_wide.2 (CL.out _)).mono ?_; rintro e w1 ⟨rfl, rfl⟩)
  rw [← HW.out.1, ← HW.out.2, ← hN]
  have hN0 : Hid (N = w.heap.size) := Lib.hid hN
  clear HW CL hN
  refine wpIn_stops (R := R) (gf := 40) (lb := #[.pointer (some ⟨N + 1 + 1 + 1, 0, none⟩), .pointer (some ⟨N + 1 + 1 + 1 + 1, 0, none⟩)]) rfl (enters_of Try.func40 (by kernel_rfl) rfl) (by omega) (encs := aEnc) (Adm := fun pre x => (pre ++ [x]) <+: g.out s) (S := fun xs => xs = g.out s)
    (fun W1 ho => leaving_stops p g st s _ _ R W1 (fun W' hk => HD.out.1 W' ((KeepsAt.of_only ho (fun _ _ h => h)).trans hk)) (fun k hk => Nat.lt_of_lt_of_le (HD.out.2.1 k hk) ho.size))
    (fun _ => rfl) HD.out.2.1
    (fun T pre W' => NI w w5 R N c (.int .i64 0) (.bool false) T W' ∧ ∀ x ∈ pre, x.1 ≠ c) ?stab
    (fun cd T xs W' => cd = .ret ∧ ∃ t, goes (g.out s) c = some t ∧ NI w w5 R N c (.int .i64 t) (.bool true) T W') ?stabx ⟨HI0.out, fun x hx => by cases hx⟩
    (fun T pre x a' W' => (NI w w5 R N c (.int .i64 0) (.bool false) T W' ∧ ∀ x ∈ pre, x.1 ≠ c) ∧ ∃ B8, (W'.heap[B8]? = some (.cells #[.int .u8 x.1.toNat, .int .i32 x.2.1, .int .i32 ((x.2.2 : Int) - 1)] 62 (0, 0)) ∧ ¬ T B8 ∧ w5.heap.size ≤ B8) ∧ a' = { tmps := #[.pointer (some ⟨p, 0, none⟩), .int .i64 s, .int .u8 c.toNat, undef, undef, .pointer (some ⟨N, 0, none⟩), .pointer (some ⟨N + 1, 0, none⟩), .pointer (some ⟨N + 1 + 1, 0, none⟩), .pointer (some ⟨B8, 0, none⟩), .pointer (some ⟨p, 0, none⟩), .int .i64 s, .func (.func 40) #[] #[.pointer (some ⟨N + 1 + 1 + 1, 0, none⟩), .pointer (some ⟨N + 1 + 1 + 1 + 1, 0, none⟩)], .agg #[.int .u8 x.1.toNat, .int .i32 x.2.1, .int .i32 ((x.2.2 : Int) - 1)], undef, undef, undef, undef, undef, undef, undef], defers := [] })
    ?staba ?assign ?body ?done ?stop
  case stab =>
    rintro T T' pre U V ⟨h1, h2⟩ ho ht
    exact ⟨h1.turn HD.out.2.1 (by have := HD.out.2.2.1; omega) ho ht, h2⟩
  case stabx =>
    rintro cd T T' xs U V ⟨rfl, t, h1, h2⟩ ho ht
    exact ⟨rfl, t, h1, h2.turn HD.out.2.1 (by have := HD.out.2.2.1; omega) ho ht⟩
  case staba =>
    rintro pre x a' T T' _ U V ⟨⟨h1, h2⟩, B8, ⟨h3, h4, h5⟩, ha⟩ ho ht
    have hlt := (Array.getElem?_eq_some_iff.1 h3).1
    refine ⟨⟨h1.turn HD.out.2.1 (by have := HD.out.2.2.1; omega) ho ht, h2⟩, B8, ⟨(ho.block B8 hlt h4).trans h3, fun hh => ?_, h5⟩, ha⟩
    rcases ht B8 hh with h' | h'
    · exact h4 h'
    · omega
  case assign =>
    rintro l2 T pre x W' K hadm ⟨h1, h2⟩ hlt hK
    have HK := Lib.hid hK
    have hba : Below W'.heap.size W' (W'.alloc (.cells #[.int .u8 x.1.toNat, .int .i32 x.2.1, .int .i32 ((x.2.2 : Int) - 1)] 62)) := (Below.refl _ _).alloc (Nat.le_refl _) _
    have H1 := Lib.hid (show (NI w w5 R N c (.int .i64 0) (.bool false) T (W'.alloc (.cells #[.int .u8 x.1.toNat, .int .i32 x.2.1, .int .i32 ((x.2.2 : Int) - 1)] 62)) ∧ ∀ x ∈ pre, x.1 ≠ c) ∧ OnlyAt (fun _ => False) W' (W'.alloc (.cells #[.int .u8 x.1.toNat, .int .i32 x.2.1, .int .i32 ((x.2.2 : Int) - 1)] 62)) ∧ ¬ T W'.heap.size ∧ w5.heap.size ≤ W'.heap.size from ⟨⟨h1.turn HD.out.2.1 (by have := HD.out.2.2.1; omega) (OnlyAt.of_below hba) (fun k hk => .inl hk), h2⟩, OnlyAt.of_below hba, fun hh => by have := hlt _ hh; omega, h1.keep.size⟩)
    simp only [aEnc]
    clear h1 h2 hba hK hlt hadm
    gi_wp2
    exact HK.out _ _ H1.out.2.1 ⟨H1.out.1, _, ⟨World.alloc_heap_new _ _, H1.out.2.2.1, H1.out.2.2.2⟩, rfl⟩
  case body =>
    rintro l2 T pre x a' W' hadm ⟨⟨h1, h2⟩, B8, ⟨h3, h4, h5⟩, rfl⟩ hlt
    have c0 : W'.cell? ⟨B8, 0, none⟩ = some (.int .u8 x.1.toNat) := by simp [World.cell?, h3]
    have c1 : W'.cell? ⟨B8, 1, none⟩ = some (.int .i32 x.2.1) := by simp [World.cell?, h3]
    have hb := h1.box
    have e0 : W'.cell? ⟨N, 0, none⟩ = some (.int .u8 c.toNat) := by simp [World.cell?, hb]
    have hr1 := h1.r1
    have hr2 := h1.r2
    have y1 : W'.cell? ⟨N + 1, 0, none⟩ = some (.int .i64 0) := by simp [World.cell?, hr1]
    have y2 : W'.cell? ⟨N + 1 + 1, 0, none⟩ = some (.bool false) := by simp [World.cell?, hr2]
    have f1 : W'.frozen? ⟨N + 1, 0, none⟩ = false := by simp [World.frozen?, hr1]
    have f2 : W'.frozen? ⟨N + 1 + 1, 0, none⟩ = false := by simp [World.frozen?, hr2]
    have hx9 := HTL.out x (List.IsPrefix.mem (l₁ := pre ++ [x]) (by simp) hadm)
    obtain ⟨cx, tx, nx⟩ := x
    dsimp only at c0 c1 hx9 h3
    have nw : IntKind.i64.wrap (tx : Int) = tx := IntWalk.i64_in _ (by omega)
    have HB := Lib.hid (And.intro h1 (And.intro h2 (And.intro hadm (And.intro hlt (And.intro hr1 hr2)))))
    clear h1 h2 h3 h4 h5 hb hr1 hr2 hadm hlt
    by_cases hc : cx = c
    · subst hc
      have hc1 : ((cx.toNat : Int) == (cx.toNat : Int)) = true := by simp
      obtain ⟨h1, h2, h3, h4, h5, h6⟩ := HB.out
      have hq := h1.set hN0.out (by have := HD.out.2.2.1; omega) HRN.out (.int .i64 tx) (.bool true)
      have y3 : (W'.setCell ⟨N + 1, 0, none⟩ (.int .i64 tx)).cell? ⟨N + 1 + 1, 0, none⟩ = some (.bool false) := by
        refine Eq.trans ?_ y2
        unfold World.cell?
        dsimp only
        rw [heap_other _ _ (World.block_lt_of_cell? _ _ y2) (by simp)]
      have f3 : (W'.setCell ⟨N + 1, 0, none⟩ (.int .i64 tx)).frozen? ⟨N + 1 + 1, 0, none⟩ = false := by
        refine Eq.trans ?_ f2
        unfold World.frozen?
        dsimp only
        rw [heap_other _ _ (World.block_lt_of_cell? _ _ y2) (by simp)]
      have HQ := Lib.hid (And.intro (goes_hit h2 (rfl : (cx, tx, nx).1 = cx) h3) hq)
      clear h1 h2 h3 h4 h5 h6 hq HB
      gi_wp2
      exact ⟨⟨rfl, tx, HQ.out.1, HQ.out.2.1⟩, HQ.out.2.2⟩
    · have hc1 : ((cx.toNat : Int) == (c.toNat : Int)) = false := by
        rw [beq_eq_false_iff_ne]
        intro e
        exact hc (UInt8.toNat_inj.1 (by omega))
      have HC := Lib.hid hc
      clear hc
      gi_wp2
      refine ⟨⟨HB.out.1, fun y hy => ?_⟩, KeepsAt.refl _ _⟩
      rcases List.mem_append.1 hy with hy | hy
      · exact HB.out.2.1 y hy
      · simp at hy; subst hy; exact HC.out
  case done =>
    rintro Dd T xs W' hD hTD rfl ⟨h1, h2⟩ hK
    have hr1 := h1.r1
    have hr2 := h1.r2
    have y1 : W'.cell? ⟨N + 1, 0, none⟩ = some (.int .i64 0) := by simp [World.cell?, hr1]
    have y2 : W'.cell? ⟨N + 1 + 1, 0, none⟩ = some (.bool false) := by simp [World.cell?, hr2]
    have f1 : W'.frozen? ⟨N + 1, 0, none⟩ = false := by simp [World.frozen?, hr1]
    have f2 : W'.frozen? ⟨N + 1 + 1, 0, none⟩ = false := by simp [World.frozen?, hr2]
    have y3 : (W'.setCell ⟨N + 1, 0, none⟩ (.int .i64 0)).cell? ⟨N + 1 + 1, 0, none⟩ = some (.bool false) := by
      refine Eq.trans ?_ y2
      unfold World.cell?
      dsimp only
      rw [heap_other _ _ (World.block_lt_of_cell? _ _ y2) (by simp)]
    have f3 : (W'.setCell ⟨N + 1, 0, none⟩ (.int .i64 0)).frozen? ⟨N + 1 + 1, 0, none⟩ = false := by
      refine Eq.trans ?_ f2
      unfold World.frozen?
      dsimp only
      rw [heap_other _ _ (World.block_lt_of_cell? _ _ y2) (by simp)]
    have ha : ANS = .tuple #[.int .i64 0, .bool false] := by rw [HANS.out, goes_miss h2]
    subst ha
    have hq := h1.set hN0.out (by have := HD.out.2.2.1; omega) HRN.out (.int .i64 0) (.bool false)
    have hKd : ((W'.setCell ⟨N + 1, 0, none⟩ (.int .i64 0)).setCell ⟨N + 1 + 1, 0, none⟩ (.bool false)).heap[Dd]? = some (.deferred (some [])) := by
      have hl := (Array.getElem?_eq_some_iff.1 hK).1
      have h5 := HD.out.2.2.1
      exact (heap_other _ _ (by rw [show (W'.setCell ⟨N + 1, 0, none⟩ (.int .i64 0)).heap.size = W'.heap.size by simp [World.setCell]]; exact hl) (by simp only; omega)).trans ((heap_other _ _ hl (by simp only; omega)).trans hK)
    have HQ := Lib.hid (And.intro hq.1 (And.intro hKd (by have := HD.out.2.2.1; omega : N + 1 + 1 < Dd)))
    clear h1 h2 hr1 hr2 hq hKd hK
    gi_wp2
    refine ⟨by simp, .inl ⟨_, _, rfl, run_takeDeferred HQ.out.2.1, ?_⟩⟩
    have z1 := next_res HQ.out.1 HQ.out.2.2 (Dd := Dd) (o := .deferred none)
    refine ⟨.tuple #[.int .i64 0, .bool false], by simp [results, Try.results22, go_sem, z1.1, z1.2.1], rfl, ?_⟩
    rw [← hN0.out]
    exact z1.2.2
  case stop =>
    rintro Dd T cd xs W' hD hTD ⟨rfl, t, h1, h2⟩ hK
    have ha : ANS = .tuple #[.int .i64 t, .bool true] := by rw [HANS.out, h1]
    subst ha
    have HQ := Lib.hid (And.intro h2 (And.intro hK (by have := HD.out.2.2.1; omega : N + 1 + 1 < Dd)))
    clear h1 h2 hK
    gi_wp2
    refine ⟨by simp, .inl ⟨_, _, rfl, run_takeDeferred HQ.out.2.1, ?_⟩⟩
    have z1 := next_res HQ.out.1 HQ.out.2.2 (Dd := Dd) (o := .deferred none)
    refine ⟨.tuple #[.int .i64 t, .bool true], by simp [results, Try.results22, go_sem, z1.1, z1.2.1], rfl, ?_⟩
    rw [← hN0.out]
    exact z1.2.2
end Go.Proofs.Ytkabdieenijnlaa
