/- dawg.built by contract: the automaton of words that rise. -/
import Derived.Test.YtkabdieenijnlaaIMake
import Derived.Test.YtkabdieenijnlaaIAuto
import Derived.Deep.RegionHeld3
namespace Go.Proofs.Ytkabdieenijnlaa
open Go Go.RowKit Go.Lib Go.Shelf
attribute [local go_sem] alloc_set

/-- The automaton of these words: which endings there are, which state is the first. -/
structure AutoOf (g : GA) (st : Nat) (V : List Bs) : Prop where
  start : g.N[st]? = some V
  set : ∀ L, L ∈ g.N ↔ SetS V L
theorem BM.auto {w : World} {T : Nat → Prop} {pb pa ms mp : Nat} {g : GA} (h : BM w T pb pa ms mp g) {st : Nat} (hst : st < g.nodes.length) (hb : g.nodes.length ≤ 1000000000 ∧ g.arcs.length ≤ 1000000000) : AutoAt (w.setCell ⟨pa, 2, none⟩ (.int .i64 st)) pa g st := by
  obtain ⟨A, c, A', c', h1, h2, h3, h4, h5⟩ := h.rows
  have e := heap_set (o := 2) h1 (.int .i64 st)
  have e' : (w.setCell ⟨pa, 2, none⟩ (.int .i64 st)).heap[pa]? = some (.cells #[.slice A g.nodes.length c, .slice A' g.arcs.length c', .int .i64 st] 54 (0, 0)) := by simpa using e
  have len2 : ∀ (l : List (Bool × Nat)), (l.flatMap nodeC).length = l.length * 2 := fun l => by
    induction l with
    | nil => rfl
    | cons x l ih => rw [List.flatMap_cons, List.length_append, ih, List.length_cons]; simp [nodeC]; omega
  have at2 : ∀ (l : List (Bool × Nat)) (k : Nat) x, l[k]? = some x → (l.flatMap nodeC)[k * 2]? = some (.bool x.1) ∧ (l.flatMap nodeC)[k * 2 + 1]? = some (.int .i32 ((x.2 : Int) - 1)) := fun l => by
    induction l with
    | nil => intro k x hx; simp at hx
    | cons y l ih =>
      intro k x hx
      cases k with
      | zero => simp at hx; subst hx; exact ⟨rfl, rfl⟩
      | succ k =>
        have := ih k x (by simpa using hx)
        rw [show (k + 1) * 2 = k * 2 + 1 + 1 by omega]
        simpa [nodeC] using this
  have at3 : ∀ (l : List (UInt8 × Nat × Nat)) (k : Nat) x, l[k]? = some x → (l.flatMap arcC)[k * 3]? = some (.int .u8 x.1.toNat) ∧ (l.flatMap arcC)[k * 3 + 1]? = some (.int .i32 x.2.1) ∧ (l.flatMap arcC)[k * 3 + 2]? = some (.int .i32 ((x.2.2 : Int) - 1)) := fun l => by
    induction l with
    | nil => intro k x hx; simp at hx
    | cons y l ih =>
      intro k x hx
      cases k with
      | zero => simp at hx; subst hx; exact ⟨rfl, rfl, rfl⟩
      | succ k =>
        have := ih k x (by simpa using hx)
        rw [show (k + 1) * 3 = k * 3 + 1 + 1 + 1 by omega]
        simpa [arcC] using this
  have hr2 := row_frame (w' := w.setCell ⟨pa, 2, none⟩ (.int .i64 st)) h2 fun z hz => heap_other _ _ (h2.lt z hz).2 (fun e => row_ne h2 h1 (by decide) (by rw [hz, e]))
  have hr3 := row_frame (w' := w.setCell ⟨pa, 2, none⟩ (.int .i64 st)) h3 fun z hz => heap_other _ _ (h3.lt z hz).2 (fun e => row_ne h3 h1 (by decide) (by rw [hz, e]))
  refine ⟨h.ok, ⟨A, c, A', c', by simp [World.cell?, e'], by simp [World.cell?, e'], by simp [World.cell?, e'], fun k x hx => ?_, fun k x hx => ?_⟩, hst, hb⟩
  · have hk := (List.getElem?_eq_some_iff.1 hx).1
    obtain ⟨q, cap, ev, _, k1, _, k3⟩ := own_open9 hr2 (by omega)
    injection ev with ev1 ev2 ev3
    subst ev1 ev3
    exact ⟨q, rfl, k1, k3 _ _ (at2 _ k x hx).1, k3 _ _ (at2 _ k x hx).2⟩
  · have hk := (List.getElem?_eq_some_iff.1 hx).1
    obtain ⟨q, cap, ev, _, k1, _, k3⟩ := own_open9 hr3 (by omega)
    injection ev with ev1 ev2 ev3
    subst ev1 ev3
    exact ⟨q, rfl, k1, k3 _ _ (at3 _ k x hx).1, k3 _ _ (at3 _ k x hx).2.1, k3 _ _ (at3 _ k x hx).2.2⟩

set_option maxRecDepth 100000 in
set_option maxHeartbeats 2000000 in
theorem built_any (w : World) (v : Value) (ws : List ByteArray) (h : StrsAt w v ws) (hs : Rising ws) (hl : ws.length ≤ 20000) (hz : ∀ s ∈ ws, s.size ≤ 200) :
    Calls Try.prog 29 #[v] w fun e w' => ∃ (p : Nat) (g : GA) (st : Nat), e = .returned (.pointer (some ⟨p, 0, none⟩)) ∧ AutoAt w' p g st ∧ AutoOf g st (ws.map (tailD 0)) ∧ Below w.heap.size w w' := by
  obtain ⟨A, cap, rfl⟩ := strs_form h
  obtain ⟨n, hn⟩ : ∃ n, n = ws.length := ⟨_, rfl⟩
  rw [← hn] at h ⊢
  have hmm := @run_makeMap Try.prog
  obtain ⟨w4, hw4⟩ : ∃ w4, w4 = ((((w.alloc (.cells #[.slice none 0 0, .slice none 0 0, .int .i64 0] 54)).alloc (.map #[] 0)).alloc (.map #[] 0)).alloc (.cells #[.pointer (some ⟨w.heap.size, 0, none⟩), .map (some (w.heap.size + 1)), .map (some (w.heap.size + 1 + 1))] 72)) := ⟨_, rfl⟩
  have H := Lib.hid (And.intro h (And.intro hs (And.intro hl (And.intro hz hn))))
  clear h hs hl hz hn
  go_enter Try.func29, Try.ntmps29
  go_upto_region 2 with fail
  rw [← hw4]
  obtain ⟨pa, hpa⟩ : ∃ b, b = w.heap.size := ⟨_, rfl⟩
  obtain ⟨ms, hms⟩ : ∃ b, b = w.heap.size + 1 := ⟨_, rfl⟩
  obtain ⟨mp, hmp⟩ : ∃ b, b = w.heap.size + 1 + 1 := ⟨_, rfl⟩
  obtain ⟨pb, hpb⟩ : ∃ b, b = w.heap.size + 1 + 1 + 1 := ⟨_, rfl⟩
  rw [← hpb, ← hmp, ← hms, ← hpa]
  rw [← hmp, ← hms, ← hpa] at hw4
  have hb4 : Below w.heap.size w w4 := by rw [hw4]; exact ((((Below.refl _ w).alloc (Nat.le_refl _) _).alloc (by simp) _).alloc (by simp; omega) _).alloc (by simp; omega) _
  have q0 : w4.heap[pa]? = some (.cells #[.slice none 0 0, .slice none 0 0, .int .i64 0] 54 (0, 0)) := by
    rw [hw4, hpa]
    exact (Below.heap_alloc _ _ _ (by simp; omega)).trans ((Below.heap_alloc _ _ _ (by simp; omega)).trans ((Below.heap_alloc _ _ _ (by simp)).trans (World.alloc_heap_new w _)))
  have q1 : w4.heap[ms]? = some (.map #[] 0) := by
    rw [hw4, hms]
    refine (Below.heap_alloc _ _ _ (by simp)).trans ((Below.heap_alloc _ _ _ (by simp)).trans ?_)
    have := World.alloc_heap_new (w.alloc (.cells #[.slice none 0 0, .slice none 0 0, .int .i64 0] 54)) (.map #[] 0)
    rwa [World.size_alloc] at this
  have q2 : w4.heap[mp]? = some (.map #[] 0) := by
    rw [hw4, hmp]
    refine (Below.heap_alloc _ _ _ (by simp)).trans ?_
    have := World.alloc_heap_new ((w.alloc (.cells #[.slice none 0 0, .slice none 0 0, .int .i64 0] 54)).alloc (.map #[] 0)) (.map #[] 0)
    rwa [World.size_alloc, World.size_alloc] at this
  have q3 : w4.heap[pb]? = some (.cells #[.pointer (some ⟨pa, 0, none⟩), .map (some ms), .map (some mp)] 72 (0, 0)) := by
    rw [hw4, hpb]
    have := World.alloc_heap_new (((w.alloc (.cells #[.slice none 0 0, .slice none 0 0, .int .i64 0] 54)).alloc (.map #[] 0)).alloc (.map #[] 0)) (.cells #[.pointer (some ⟨pa, 0, none⟩), .map (some ms), .map (some mp)] 72)
    rwa [World.size_alloc, World.size_alloc, World.size_alloc] at this
  have hs4 : w4.heap.size = w.heap.size + 4 := by rw [hw4]; simp
  have hbm : BM w4 (fun k => k = pa ∨ k = ms ∨ k = mp) pb pa ms mp GA.none := by
    refine ⟨GA.ok_none, q3, ⟨none, 0, none, 0, q0, World.ownsRow_nil _ _ _ _, World.ownsRow_nil _ _ _ _, fun z hz => by simp [Value.ownBlock] at hz, fun z hz => by simp [Value.ownBlock] at hz⟩, ?_, ?_, ⟨.inl rfl, .inr (.inl rfl), .inr (.inr rfl)⟩, ?_, by omega⟩
    · have := Know.made (K := kNode) q1
      rw [plc_nil] at this
      exact this
    · have := Know.made (K := kArc) q2
      rw [plc_nil] at this
      exact this
    · rintro k (rfl | rfl | rfl) <;> omega
  have CS := Lib.hid (show Calls Try.prog 39 #[.pointer (some ⟨pb, 0, none⟩), .slice A n cap, .int .i64 0] w4.drew fun e w' => ∃ st : Nat, e = .returned (.int .i32 st) ∧ (w'.cell? ⟨pb, 0, none⟩ = some (.pointer (some ⟨pa, 0, none⟩)) ∧ (∃ v, w'.cell? ⟨pa, 2, none⟩ = some v) ∧ w'.frozen? ⟨pa, 2, none⟩ = false) ∧ st ≤ 1000000000 ∧
      Hid (∃ (T : Nat → Prop) (g : GA), BM w' T pb pa ms mp g ∧ Below w.heap.size w w' ∧ st < g.nodes.length ∧ (g.nodes.length ≤ 1000000000 ∧ g.arcs.length ≤ 1000000000) ∧ AutoOf g st (ws.map (tailD 0))) from by
    obtain ⟨h, hs, hl, hz, hn⟩ := H.out
    have hdr : Below w4.heap.size w4 w4.drew := (Below.refl _ _).drew
    have ht0 : ∀ s, tailD 0 s = s.data.toList := fun s => by unfold tailD; rfl
    have hwt : wt (ws.map (tailD 0)) ≤ ws.length * 200 := by
      have : ∀ l : List ByteArray, (∀ s ∈ l, s.size ≤ 200) → wt (l.map (tailD 0)) ≤ l.length * 200 := fun l => by
        induction l with
        | nil => intro _; exact Nat.le_refl _
        | cons x l ih =>
          intro hx
          have h1 := ih fun s hs => hx s (List.mem_cons_of_mem _ hs)
          have h2 := hx x (List.mem_cons_self ..)
          have h3 := tailD_len 0 x
          simp only [wt, List.map_cons, List.sum_cons, List.length_cons] at h1 ⊢
          omega
      exact this ws hz
    have hc := state_all 200 w4.drew _ pb pa ms mp GA.none A n cap ws 0 (hbm.keep hdr) ⟨hn, by
        rcases h with ⟨h0, _⟩ | ⟨b, off, c, e, k1, k2, k3, k4⟩
        · exact .inl (by rw [hn, h0]; rfl)
        · injection e with e1 e2 e3
          subst e3
          refine .inr ⟨b, off, e1, ?_, by show b < w4.heap.size; omega, by omega, k3, fun i s hs => (cell_old (p := ⟨b, off + i, none⟩) (hb4.trans (hdr.mono (by omega))) k1).trans (k4 i s hs)⟩
          rintro (e | e | e) <;> omega⟩ (by
        rw [List.pairwise_map]
        exact hs.imp fun {a b} hab => by rw [ht0, ht0]; exact hab) (fun s hs => ⟨Nat.zero_le _, by have := hz s hs; omega⟩) (by omega) (by omega) (by show 0 + _ + 1 ≤ _; omega) (by show 0 + _ ≤ _; omega)
    rw [show ((0 : Nat) : Int) = 0 from rfl] at hc
    refine hc.mono ?_
    rintro e w' ⟨T', g', st, he, hb, hf, hle, hN, hmd, hn1, hn2⟩
    obtain ⟨A9, c9, A8, c8, hbx, -⟩ := hb.rows
    have hst : st < g'.nodes.length := by rw [hb.ok.nl]; exact (List.getElem?_eq_some_iff.1 hN).1
    have hn1' : g'.nodes.length ≤ 1000000000 := by have : GA.none.nodes.length = 0 := rfl; omega
    have hn2' : g'.arcs.length ≤ 1000000000 := by have : GA.none.arcs.length = 0 := rfl; omega
    refine ⟨st, he, ⟨?_, ⟨_, show w'.cell? ⟨pa, 2, none⟩ = some (.int .i64 0) by simp [World.cell?, hbx]⟩, by simp [World.frozen?, hbx]⟩, by omega, Lib.hid ⟨T', g', hb, ?_, hst, ⟨hn1', hn2'⟩, ⟨hN, fun L => ⟨fun hL => ?_, fun hL => hmd.all L hL⟩⟩⟩⟩
    · have := hb.box
      simp [World.cell?, this]
    · exact OnlyAt.below (hb4.trans (hdr.mono (by omega))) hf.only (by show _ ≤ w4.heap.size; omega) (fun k hk => by rcases hk with rfl | rfl | rfl <;> omega)
    · rcases hmd.only L hL with h9 | h9
      · cases h9
      · exact h9)
  have x5 : w4.drew.cell? ⟨pb, 0, none⟩ = some (.pointer (some ⟨pa, 0, none⟩)) := by
    show w4.cell? _ = _
    simp [World.cell?, q3]
  have hne : pb ≠ pa := by omega
  have HPA := Lib.hid (show w.heap.size ≤ pa by omega)
  clear hw4 q0 q1 q2 q3 hbm hb4 hs4 hpa hms hmp hpb hmm H
  go_region_with (go_at_call 39; refine CS.out.mono ?_; rintro e w5 ⟨st, rfl, ⟨v1, ⟨v0, v2⟩, v3⟩, hst9, HP5⟩; have nw : IntKind.i64.wrap (st : Int) = st := IntWalk.i64_in _ (by omega))
  all_goals
    obtain ⟨w6, hw6⟩ : ∃ w6, w6 = w5.setCell ⟨pa, 2, none⟩ (.int .i64 st) := ⟨_, rfl⟩
    rw [← hw6]
    have v6 : w6.cell? ⟨pb, 0, none⟩ = some (.pointer (some ⟨pa, 0, none⟩)) := by
      rw [hw6]
      refine Eq.trans ?_ v1
      unfold World.cell?
      dsimp only
      rw [heap_other _ _ (World.block_lt_of_cell? _ _ v1) hne]
    have HE := Lib.hid (show ∃ g : GA, AutoAt w6 pa g st ∧ AutoOf g st (ws.map (tailD 0)) ∧ Below w.heap.size w w6 from by
      obtain ⟨T', g', hb, hbl, k1, k2, k3⟩ := HP5.out
      rw [hw6]
      exact ⟨g', hb.auto k1 k2, k3, hbl.setCell (p := ⟨pa, 2, none⟩) (by show w.heap.size ≤ pa; exact HPA.out) _⟩)
    clear hw6 v1 v2 v3 x5
    go_wp2_with fail
    go_ret
    obtain ⟨g', r1, r2, r3⟩ := HE.out
    exact ⟨pa, g', st, rfl, r1, r2, r3⟩
end Go.Proofs.Ytkabdieenijnlaa
