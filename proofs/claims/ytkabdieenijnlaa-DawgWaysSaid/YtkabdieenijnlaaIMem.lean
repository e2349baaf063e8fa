/- The builder in memory: its box, the automaton's block, two rows that grow, two maps that tell places; number in these words. -/
import Derived.Test.YtkabdieenijnlaaINumA
namespace Go.Proofs.Ytkabdieenijnlaa
open Go Go.RowKit Go.Lib Go.Maps

/-! ### Places in a list -/
def plc {α : Type} [DecidableEq α] (l : List α) (x : α) : Option Nat := if x ∈ l then some (l.idxOf x) else none
theorem plc_some {α : Type} [DecidableEq α] {l : List α} {x : α} {d : Nat} (h : plc l x = some d) : l[d]? = some x := by
  unfold plc at h
  split at h
  · rename_i hx
    cases h
    have := List.idxOf_lt_length_of_mem hx
    rw [List.getElem?_eq_getElem this, List.getElem_idxOf this]
  · cases h
theorem plc_none {α : Type} [DecidableEq α] {l : List α} {x : α} (h : plc l x = none) : x ∉ l := by
  unfold plc at h
  split at h
  · cases h
  · assumption
theorem plc_snoc {α : Type} [DecidableEq α] {l : List α} {x : α} (h : x ∉ l) : (fun y => if y = x then some l.length else plc l y) = plc (l ++ [x]) := by
  funext y
  unfold plc
  by_cases e : y = x
  · subst e
    simp [List.idxOf_append, h]
  · by_cases hy : y ∈ l
    · simp [e, hy, List.idxOf_append]
    · simp [e, hy]
theorem plc_nil {α : Type} [DecidableEq α] : (fun _ => none : α → Option Nat) = plc [] := by funext y; simp [plc]

/-! ### The builder -/
structure BM (w : World) (T : Nat → Prop) (pb pa ms mp : Nat) (g : GA) : Prop where
  ok : g.Ok
  box : w.heap[pb]? = some (.cells #[.pointer (some ⟨pa, 0, none⟩), .map (some ms), .map (some mp)] 72 (0, 0))
  rows : ∃ A c A' c', w.heap[pa]? = some (.cells #[.slice A g.nodes.length c, .slice A' g.arcs.length c', .int .i64 0] 54 (0, 0)) ∧
    w.ownsRow 0 64 2 (.slice A g.nodes.length c) g.nodes.length (g.nodes.flatMap nodeC) ∧ w.ownsRow 0 62 3 (.slice A' g.arcs.length c') g.arcs.length (g.arcs.flatMap arcC) ∧
    (∀ z, (Value.slice A g.nodes.length c).ownBlock = some z → T z) ∧ ∀ z, (Value.slice A' g.arcs.length c').ownBlock = some z → T z
  sm : Know kNode w ms g.nodes.length (plc g.nodes)
  pm : Know kArc w mp g.arcs.length (plc g.arcs)
  inT : T pa ∧ T ms ∧ T mp
  lt : ∀ k, T k → k < w.heap.size
  ne : ms ≠ mp
/-- What a call of the builder's may write, and where it lies behind it. -/
structure Fr (T T' : Nat → Prop) (w w' : World) : Prop where
  only : OnlyAt T w w'
  new : ∀ k, T' k → T k ∨ w.heap.size ≤ k
theorem Fr.refl (T : Nat → Prop) (w : World) : Fr T T w w := ⟨OnlyAt.refl _ _, fun _ h => .inl h⟩
theorem Fr.trans {T T' T'' : Nat → Prop} {w w' w'' : World} (h : Fr T T' w w') (k : Fr T' T'' w' w'') : Fr T T'' w w'' := by
  have hs := h.only.size
  refine ⟨⟨k.only.os.trans h.only.os, k.only.tape.trans h.only.tape, k.only.output.trans h.only.output, Nat.le_trans hs k.only.size, fun i hi hn => ?_⟩, fun i hi => ?_⟩
  · refine (k.only.block i (Nat.lt_of_lt_of_le hi hs) (fun ht => ?_)).trans (h.only.block i hi hn)
    rcases h.new i ht with h' | h'
    · exact hn h'
    · omega
  · rcases k.new i hi with h' | h'
    · exact h.new i h'
    · exact .inr (Nat.le_trans hs h')
theorem Fr.of_below {T : Nat → Prop} {w w' : World} (h : Below w.heap.size w w') : Fr T T w w' := ⟨OnlyAt.of_below h, fun _ h => .inl h⟩
theorem Fr.cell {T T' : Nat → Prop} {w w' : World} (h : Fr T T' w w') {p : Addr} {v : Value} (hv : w.cell? p = some v) (hn : ¬ T p.block) : w'.cell? p = some v := by
  have hlt := World.block_lt_of_cell? _ _ hv
  refine Eq.trans ?_ hv
  unfold World.cell?
  rw [h.only.block _ hlt hn]
theorem Fr.block {T T' : Nat → Prop} {w w' : World} (h : Fr T T' w w') {b : Nat} {o : Obj} (hv : w.heap[b]? = some o) (hn : ¬ T b) : w'.heap[b]? = some o :=
  (h.only.block _ (Array.getElem?_eq_some_iff.1 hv).1 hn).trans hv
theorem Fr.out {T T' : Nat → Prop} {w w' : World} (h : Fr T T' w w') {b : Nat} (hb : b < w.heap.size) (hn : ¬ T b) : ¬ T' b := fun ht => by
  rcases h.new b ht with h' | h'
  · exact hn h'
  · omega
theorem BM.keep {w w' : World} {T : Nat → Prop} {pb pa ms mp : Nat} {g : GA} (h : BM w T pb pa ms mp g) (hb : Below w.heap.size w w') : BM w' T pb pa ms mp g := by
  obtain ⟨A, c, A', c', h1, h2, h3, h4, h5⟩ := h.rows
  exact ⟨h.ok, (hb.block _ (Array.getElem?_eq_some_iff.1 h.box).1).trans h.box, ⟨A, c, A', c', (hb.block _ (Array.getElem?_eq_some_iff.1 h1).1).trans h1, own_keep9 h2 hb, own_keep9 h3 hb, h4, h5⟩,
    h.sm.same (hb.block _ h.sm.lt), h.pm.same (hb.block _ h.pm.lt), h.inT, fun k hk => Nat.lt_of_lt_of_le (h.lt k hk) hb.size, h.ne⟩
theorem BM.pb_lt {w : World} {T : Nat → Prop} {pb pa ms mp : Nat} {g : GA} (h : BM w T pb pa ms mp g) : pb < w.heap.size := (Array.getElem?_eq_some_iff.1 h.box).1
theorem BM.pbs {w : World} {T : Nat → Prop} {pb pa ms mp : Nat} {g : GA} (h : BM w T pb pa ms mp g) : pb ≠ pa ∧ pb ≠ ms ∧ pb ≠ mp := by
  obtain ⟨A, c, A', c', h1, -⟩ := h.rows
  obtain ⟨D, hD, _⟩ := h.sm.own
  obtain ⟨D', hD', _⟩ := h.pm.own
  refine ⟨?_, box_neM h.box hD, box_neM h.box hD'⟩
  rintro rfl
  rw [h.box] at h1
  simp at h1

theorem numN_any {w : World} {T : Nat → Prop} {pb pa ms mp : Nat} {g : GA} (h : BM w T pb pa ms mp g) (f : Bool) (i : Nat) (L : List Bs) (hL : ([] :: g.A)[i]? = some L) (hn : g.nodes.length ≤ 1900000000) (ha : g.arcs.length ≤ 1900000000) :
    Calls Try.prog 55 #[.map (some ms), .pointer (some ⟨pa, 0, none⟩), .agg #[.bool f, .int .i32 ((i : Int) - 1)]] w fun e w' => ∃ (T' : Nat → Prop) (g' : GA) (n : Nat), e = .returned (.int .i32 n) ∧
      BM w' T' pb pa ms mp g' ∧ Fr T T' w w' ∧ g.Le g' ∧ g'.N[n]? = some (fins f ++ L) ∧ (∀ L' ∈ g'.N, L' ∈ g.N ∨ L' = fins f ++ L) ∧ g'.arcs = g.arcs ∧ g'.nodes.length ≤ g.nodes.length + 1 := by
  have hfit : nodeFit (f, i) := by
    have h1 := (List.getElem?_eq_some_iff.1 hL).1
    have h2 := h.ok.al
    rw [List.length_cons] at h1
    show i ≤ 2000000000
    omega
  cases hp : plc g.nodes (f, i) with
  | some d =>
    refine (numn_old (pa := pa) h.sm (f, i) hfit hp).mono ?_
    rintro e w' ⟨rfl, hb⟩
    obtain ⟨L', k1, k2⟩ := h.ok.node d f i (plc_some hp)
    rw [hL] at k1
    cases k1
    exact ⟨T, g, d, rfl, h.keep hb, Fr.of_below hb, GA.Le.refl _, k2, fun _ hx => .inl hx, rfl, by omega⟩
  | none =>
    have hnm := plc_none hp
    obtain ⟨A, c, A', c', h1, h2, h3, h4, h5⟩ := h.rows
    refine (numn_new h1 h2 hn h.sm hn (f, i) hfit hp).mono ?_
    rintro e w' ⟨rfl, gg, cap', ho, hg, hb, hr, hk⟩
    rw [plc_snoc hnm] at hk
    have hTo : OnlyAt T w w' := ho.mono fun z hz => by
      rcases hz with rfl | rfl | hz
      · exact h.inT.1
      · exact h.inT.2.1
      · exact h4 z hz
    have hs := hTo.size
    refine ⟨fun k => T k ∨ (w.heap.size ≤ k ∧ k < w'.heap.size), g.addNode f i L, g.nodes.length, rfl, ⟨h.ok.addNode hL hnm, ?_, ?_, ?_, ?_, ⟨.inl h.inT.1, .inl h.inT.2.1, .inl h.inT.2.2⟩, ?_, h.ne⟩, ⟨hTo, fun k hk => hk.imp id fun x => x.1⟩, g.le_node f i L, ?_, ?_, rfl, by simp [GA.addNode]⟩
    · obtain ⟨p1, p2, p3⟩ := h.pbs
      exact (ho.block pb h.pb_lt (by
        rintro (e | e | e)
        · exact p1 e
        · exact p2 e
        · exact row_ne h2 h.box (by decide) e)).trans h.box
    · refine ⟨_, _, A', c', by simpa [GA.addNode] using hb, ?_, ?_, ?_, ?_⟩
      · show w'.ownsRow 0 64 2 _ (g.nodes ++ [(f, i)]).length ((g.nodes ++ [(f, i)]).flatMap nodeC)
        have el : (g.addNode f i L).nodes.length = g.nodes.length + 1 := by simp [GA.addNode]
        rw [el, List.flatMap_append, List.length_append]
        simpa using hr
      · refine row_frame h3 fun z hz => ho.block z (h3.lt z hz).2 ?_
        rintro (rfl | rfl | e)
        · exact row_ne h3 h1 (by decide) hz
        · obtain ⟨D, hD, _⟩ := h.sm.own
          exact row_neM h3 hD hz
        · rcases h2.2 with ⟨e', _⟩ | ⟨q, cq, cur, e', _, hq, _⟩
          · rw [e'] at e; cases e
          · rw [e'] at e
            simp only [Value.ownBlock, Option.some.injEq] at e
            subst e
            exact row_ne h3 hq (by decide) hz
      · intro z hz
        simp only [Value.ownBlock, Option.some.injEq] at hz
        subst hz
        rcases hg with hg | hg
        · exact .inl (h4 _ hg)
        · refine .inr ⟨hg, ?_⟩
          exact (hr.lt gg rfl).2
      · intro z hz
        exact .inl (h5 z hz)
    · show Know kNode w' ms (g.nodes ++ [(f, i)]).length (plc (g.nodes ++ [(f, i)]))
      rw [List.length_append]
      exact hk
    · refine h.pm.same (ho.block mp h.pm.lt ?_)
      rintro (e | e | e)
      · obtain ⟨D, hD, _⟩ := h.pm.own
        exact box_neM h1 hD e.symm
      · exact h.ne e.symm
      · obtain ⟨D, hD, _⟩ := h.pm.own
        exact row_neM h2 hD e
    · rintro k (hk | hk)
      · exact Nat.lt_of_lt_of_le (h.lt k hk) hs
      · exact hk.2
    · show (g.N ++ [fins f ++ L])[g.nodes.length]? = _
      rw [h.ok.nl]; simp
    · intro L' hL'
      rcases List.mem_append.1 hL' with hx | hx
      · exact .inl hx
      · simp at hx; exact .inr hx

theorem numA_any {w : World} {T : Nat → Prop} {pb pa ms mp : Nat} {g : GA} (h : BM w T pb pa ms mp g) (c : UInt8) (t i : Nat) (M L : List Bs) (ht : g.N[t]? = some M) (hL : ([] :: g.A)[i]? = some L) (hM : M ≠ []) (hab : Above c L) (hn : g.nodes.length ≤ 1900000000) (ha : g.arcs.length ≤ 1900000000) :
    Calls Try.prog 54 #[.map (some mp), .pointer (some ⟨pa, 1, none⟩), .agg #[.int .u8 c.toNat, .int .i32 t, .int .i32 ((i : Int) - 1)]] w fun e w' => ∃ (T' : Nat → Prop) (g' : GA) (n : Nat), e = .returned (.int .i32 n) ∧
      BM w' T' pb pa ms mp g' ∧ Fr T T' w w' ∧ g.Le g' ∧ g'.A[n]? = some (M.map (c :: ·) ++ L) ∧ g'.N = g.N ∧ g'.nodes = g.nodes ∧ g'.arcs.length ≤ g.arcs.length + 1 := by
  have hfit : arcFit (c, t, i) := by
    have h1 := (List.getElem?_eq_some_iff.1 hL).1
    have h3 := (List.getElem?_eq_some_iff.1 ht).1
    have h2 := h.ok.al
    have h4 := h.ok.nl
    rw [List.length_cons] at h1
    show t ≤ 2000000000 ∧ i ≤ 2000000000
    omega
  cases hp : plc g.arcs (c, t, i) with
  | some d =>
    refine (numa_old (pa := pa) h.pm (c, t, i) hfit hp).mono ?_
    rintro e w' ⟨rfl, hb⟩
    obtain ⟨M', L', k0, k1, k2, _⟩ := h.ok.arc d c t i (plc_some hp)
    rw [hL] at k1
    rw [ht] at k0
    cases k1
    cases k0
    exact ⟨T, g, d, rfl, h.keep hb, Fr.of_below hb, GA.Le.refl _, k2, rfl, rfl, by omega⟩
  | none =>
    have hnm := plc_none hp
    obtain ⟨A, c0, A', c', h1, h2, h3, h4, h5⟩ := h.rows
    refine (numa_new h1 h3 ha h.pm ha (c, t, i) hfit hp).mono ?_
    rintro e w' ⟨rfl, gg, cap', ho, hg, hb, hr, hk⟩
    rw [plc_snoc hnm] at hk
    have hTo : OnlyAt T w w' := ho.mono fun z hz => by
      rcases hz with rfl | rfl | hz
      · exact h.inT.1
      · exact h.inT.2.2
      · exact h5 z hz
    have hs := hTo.size
    refine ⟨fun k => T k ∨ (w.heap.size ≤ k ∧ k < w'.heap.size), g.addArc c t i M L, g.arcs.length, rfl, ⟨h.ok.addArc ht hL hM hab hnm, ?_, ?_, ?_, ?_, ⟨.inl h.inT.1, .inl h.inT.2.1, .inl h.inT.2.2⟩, ?_, h.ne⟩, ⟨hTo, fun k hk => hk.imp id fun x => x.1⟩, g.le_arc c t i M L, ?_, rfl, rfl, by simp [GA.addArc]⟩
    · obtain ⟨p1, p2, p3⟩ := h.pbs
      exact (ho.block pb h.pb_lt (by
        rintro (e | e | e)
        · exact p1 e
        · exact p3 e
        · exact row_ne h3 h.box (by decide) e)).trans h.box
    · refine ⟨A, c0, _, _, by simpa [GA.addArc] using hb, ?_, ?_, ?_, ?_⟩
      · refine row_frame h2 fun z hz => ho.block z (h2.lt z hz).2 ?_
        rintro (rfl | rfl | e)
        · exact row_ne h2 h1 (by decide) hz
        · obtain ⟨D, hD, _⟩ := h.pm.own
          exact row_neM h2 hD hz
        · rcases h3.2 with ⟨e', _⟩ | ⟨q, cq, cur, e', _, hq, _⟩
          · rw [e'] at e; cases e
          · rw [e'] at e
            simp only [Value.ownBlock, Option.some.injEq] at e
            subst e
            exact row_ne h2 hq (by decide) hz
      · show w'.ownsRow 0 62 3 _ (g.arcs ++ [(c, t, i)]).length ((g.arcs ++ [(c, t, i)]).flatMap arcC)
        have el : (g.addArc c t i M L).arcs.length = g.arcs.length + 1 := by simp [GA.addArc]
        rw [el, List.flatMap_append, List.length_append]
        simpa using hr
      · intro z hz
        exact .inl (h4 z hz)
      · intro z hz
        simp only [Value.ownBlock, Option.some.injEq] at hz
        subst hz
        rcases hg with hg | hg
        · exact .inl (h5 _ hg)
        · refine .inr ⟨hg, ?_⟩
          exact (hr.lt gg rfl).2
    · refine h.sm.same (ho.block ms h.sm.lt ?_)
      rintro (e | e | e)
      · obtain ⟨D, hD, _⟩ := h.sm.own
        exact box_neM h1 hD e.symm
      · exact h.ne e
      · obtain ⟨D, hD, _⟩ := h.sm.own
        exact row_neM h3 hD e
    · show Know kArc w' mp (g.arcs ++ [(c, t, i)]).length (plc (g.arcs ++ [(c, t, i)]))
      rw [List.length_append]
      exact hk
    · rintro k (hk | hk)
      · exact Nat.lt_of_lt_of_le (h.lt k hk) hs
      · exact hk.2
    · show (g.A ++ [M.map (c :: ·) ++ L])[g.arcs.length]? = _
      rw [h.ok.al]; simp
end Go.Proofs.Ytkabdieenijnlaa
