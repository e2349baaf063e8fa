/- An automaton of words, plain: no program. What its states and arcs mean, by lists of endings; no two are alike; which endings there are. -/
import Derived.Test.YtkabdieenijnlaaIRise
namespace Go.Proofs.Ytkabdieenijnlaa

abbrev Bs := List UInt8
/-! ### Endings -/
def tl1 (c : UInt8) : Bs → Option Bs
  | b :: r => if b = c then some r else none
  | [] => none
def tails (c : UInt8) (l : List Bs) : List Bs := l.filterMap (tl1 c)
/-- What stands behind a beginning. -/
def ends : List Bs → Bs → List Bs
  | l, [] => l
  | l, c :: p => ends (tails c l) p
/-- All of these begin with a greater byte. -/
def Above (c : UInt8) (L : List Bs) : Prop := ∀ x ∈ L, ∃ b r, x = b :: r ∧ c < b
def fins (f : Bool) : List Bs := if f then [[]] else []

theorem mem_tails {c : UInt8} {l : List Bs} {x : Bs} : x ∈ tails c l ↔ c :: x ∈ l := by
  unfold tails
  rw [List.mem_filterMap]
  constructor
  · rintro ⟨w, hw, e⟩
    cases w with
    | nil => cases e
    | cons b r =>
      simp only [tl1] at e
      split at e
      · rename_i h; subst h; cases e; exact hw
      · cases e
  · intro h; exact ⟨_, h, by simp [tl1]⟩
theorem mem_ends {x : Bs} : ∀ {p : Bs} {l : List Bs}, x ∈ ends l p ↔ p ++ x ∈ l
  | [], l => Iff.rfl
  | c :: p, l => by
    show x ∈ ends (tails c l) p ↔ _
    rw [mem_ends, mem_tails, List.cons_append]
theorem ends_nil : ∀ p : Bs, ends [] p = []
  | [] => rfl
  | _ :: p => ends_nil p
theorem ends_app : ∀ (l : List Bs) (p q : Bs), ends l (p ++ q) = ends (ends l p) q
  | _, [], _ => rfl
  | l, _ :: p, q => ends_app (tails _ l) p q
theorem tails_map (c : UInt8) (M : List Bs) : tails c (M.map (c :: ·)) = M := by
  unfold tails
  rw [List.filterMap_map]
  have : (tl1 c ∘ fun x => c :: x) = some := by funext x; simp [tl1]
  rw [this, List.filterMap_some]
theorem tails_map_ne {b c : UInt8} (h : c ≠ b) (M : List Bs) : tails b (M.map (c :: ·)) = [] := by
  unfold tails
  rw [List.filterMap_map, List.filterMap_eq_nil_iff]
  intro x _
  simp [tl1, h]
theorem tails_above {c : UInt8} {L : List Bs} (h : Above c L) : tails c L = [] := by
  unfold tails
  rw [List.filterMap_eq_nil_iff]
  intro x hx
  obtain ⟨b, r, rfl, hb⟩ := h x hx
  simp only [tl1]
  rw [if_neg]
  intro e; subst e; exact absurd hb (UInt8.lt_irrefl _)
theorem tails_app (c : UInt8) (l m : List Bs) : tails c (l ++ m) = tails c l ++ tails c m := by
  unfold tails; rw [List.filterMap_append]
theorem tails_fins (c : UInt8) (f : Bool) : tails c (fins f) = [] := by cases f <;> rfl
theorem tails_one {c : UInt8} {M L : List Bs} (h : Above c L) : tails c (M.map (c :: ·) ++ L) = M := by
  rw [tails_app, tails_map, tails_above h, List.append_nil]
theorem tails_other {b c : UInt8} {M L : List Bs} (h : c ≠ b) : tails b (M.map (c :: ·) ++ L) = tails b L := by
  rw [tails_app, tails_map_ne h, List.nil_append]
theorem split_inj {c c' : UInt8} {M M' L L' : List Bs} (e : M.map (c :: ·) ++ L = M'.map (c' :: ·) ++ L') (h : M ≠ []) (h' : M' ≠ []) (ha : Above c L) (ha' : Above c' L') : c = c' ∧ M = M' ∧ L = L' := by
  have hc : c = c' := by
    cases M with
    | nil => exact absurd rfl h
    | cons x M =>
      cases M' with
      | nil => exact absurd rfl h'
      | cons y M' =>
        simp only [List.map_cons, List.cons_append, List.cons.injEq] at e
        exact e.1.1
  subst hc
  have hM : M = M' := by rw [← tails_one (M := M) ha, e, tails_one ha']
  subst hM
  exact ⟨rfl, rfl, List.append_cancel_left e⟩
theorem above_ne {c : UInt8} {L : List Bs} (h : Above c L) : ∀ x ∈ L, x ≠ [] := by
  intro x hx
  obtain ⟨b, r, rfl, _⟩ := h x hx
  simp
theorem above_nil (c : UInt8) : Above c [] := fun _ h => by cases h

/-! ### The automaton -/
/-- States: is it a word, its first arc and one more (0: none). Arcs: a byte, a state, the next arc and one more. What each means stands beside it. -/
structure GA where
  nodes : List (Bool × Nat)
  arcs : List (UInt8 × Nat × Nat)
  N : List (List Bs)
  A : List (List Bs)
def GA.none : GA := ⟨[], [], [], []⟩
structure GA.Ok (g : GA) : Prop where
  nl : g.nodes.length = g.N.length
  al : g.arcs.length = g.A.length
  nd : g.N.Nodup
  ad : ([] :: g.A).Nodup
  node : ∀ (s : Nat) f i, g.nodes[s]? = some (f, i) → ∃ L, ([] :: g.A)[i]? = some L ∧ g.N[s]? = some (fins f ++ L)
  arc : ∀ (k : Nat) c t i, g.arcs[k]? = some (c, t, i) → ∃ M L, g.N[t]? = some M ∧ ([] :: g.A)[i]? = some L ∧ g.A[k]? = some (M.map (c :: ·) ++ L) ∧ M ≠ [] ∧ Above c L ∧ i ≤ k
theorem GA.ok_none : GA.none.Ok := by
  refine ⟨rfl, rfl, List.nodup_nil, by simp [GA.none], ?_, ?_⟩
  · intro s f i h; simp [GA.none] at h
  · intro k c t i h; simp [GA.none] at h
theorem inj_at {α : Type} {l : List α} (h : l.Nodup) {i j : Nat} {x : α} (hi : l[i]? = some x) (hj : l[j]? = some x) : i = j :=
  (List.getElem?_inj (List.getElem?_eq_some_iff.1 hi).1 h).1 (hi.trans hj.symm)
theorem GA.Ok.ne {g : GA} (h : g.Ok) {i : Nat} {L : List Bs} (hL : ([] :: g.A)[i]? = some L) : ∀ x ∈ L, x ≠ [] := by
  cases i with
  | zero => simp at hL; subst hL; intro x hx; cases hx
  | succ k =>
    rw [List.getElem?_cons_succ] at hL
    have hk : k < g.arcs.length := by rw [h.al]; exact (List.getElem?_eq_some_iff.1 hL).1
    obtain ⟨M, L', _, _, e, _, ha, _⟩ := h.arc k _ _ _ (show g.arcs[k]? = some ((g.arcs[k]).1, (g.arcs[k]).2.1, (g.arcs[k]).2.2) from List.getElem?_eq_getElem hk)
    rw [hL] at e
    rw [Option.some.inj e]
    intro x hx
    rcases List.mem_append.1 hx with hx | hx
    · obtain ⟨y, _, rfl⟩ := List.mem_map.1 hx; simp
    · exact above_ne ha x hx
theorem fins_inj {f f' : Bool} {L L' : List Bs} (e : fins f ++ L = fins f' ++ L') (h : ∀ x ∈ L, x ≠ []) (h' : ∀ x ∈ L', x ≠ []) : f = f' ∧ L = L' := by
  cases f <;> cases f' <;> simp only [fins, if_true, List.nil_append, List.cons_append, Bool.false_eq_true, if_false] at e
  · exact ⟨rfl, e⟩
  · exfalso; subst e; exact h [] (List.mem_cons_self ..) rfl
  · exfalso; subst e; exact h' [] (List.mem_cons_self ..) rfl
  · exact ⟨rfl, (List.cons.inj e).2⟩
theorem GA.Ok.node_new {g : GA} (h : g.Ok) {f : Bool} {i : Nat} {L : List Bs} (hi : ([] :: g.A)[i]? = some L) (hn : (f, i) ∉ g.nodes) : fins f ++ L ∉ g.N := by
  intro hm
  obtain ⟨s, hs⟩ := List.getElem?_of_mem hm
  have hlt : s < g.nodes.length := by rw [h.nl]; exact (List.getElem?_eq_some_iff.1 hs).1
  have hg : g.nodes[s]? = some ((g.nodes[s]).1, (g.nodes[s]).2) := List.getElem?_eq_getElem hlt
  obtain ⟨L', h1, h2⟩ := h.node s _ _ hg
  rw [hs] at h2
  obtain ⟨e1, e2⟩ := fins_inj (Option.some.inj h2) (h.ne hi) (h.ne h1)
  subst e2
  have e3 := inj_at h.ad hi h1
  apply hn
  rw [e1, e3]
  exact List.mem_of_getElem? hg
theorem GA.Ok.arc_new {g : GA} (h : g.Ok) {c : UInt8} {t i : Nat} {M L : List Bs} (ht : g.N[t]? = some M) (hi : ([] :: g.A)[i]? = some L) (hM : M ≠ []) (ha : Above c L) (hn : (c, t, i) ∉ g.arcs) : M.map (c :: ·) ++ L ∉ g.A := by
  intro hm
  obtain ⟨s, hs⟩ := List.getElem?_of_mem hm
  have hlt : s < g.arcs.length := by rw [h.al]; exact (List.getElem?_eq_some_iff.1 hs).1
  have hg : g.arcs[s]? = some ((g.arcs[s]).1, (g.arcs[s]).2.1, (g.arcs[s]).2.2) := List.getElem?_eq_getElem hlt
  obtain ⟨M', L', h1, h2, h3, h4, h5, _⟩ := h.arc s _ _ _ hg
  rw [hs] at h3
  obtain ⟨e1, e2, e3⟩ := split_inj (Option.some.inj h3) hM h4 ha h5
  subst e2 e3
  have e4 := inj_at h.ad hi h2
  have e5 := inj_at h.nd ht h1
  apply hn
  rw [e4, e5, e1]
  exact List.mem_of_getElem? hg
theorem map_ne {c : UInt8} {M L : List Bs} (h : M ≠ []) : M.map (c :: ·) ++ L ≠ [] := by
  cases M with
  | nil => exact absurd rfl h
  | cons x M => simp

/-- What was there, is there still. -/
structure GA.Le (g g' : GA) : Prop where
  N : ∀ (s : Nat) L, g.N[s]? = some L → g'.N[s]? = some L
  A : ∀ (k : Nat) L, ([] :: g.A)[k]? = some L → ([] :: g'.A)[k]? = some L
theorem GA.Le.refl (g : GA) : g.Le g := ⟨fun _ _ h => h, fun _ _ h => h⟩
theorem GA.Le.trans {g g' g'' : GA} (h : g.Le g') (k : g'.Le g'') : g.Le g'' := ⟨fun s L e => k.N s L (h.N s L e), fun s L e => k.A s L (h.A s L e)⟩
theorem GA.Le.mem {g g' : GA} (h : g.Le g') {L : List Bs} (hL : L ∈ g.N) : L ∈ g'.N := by
  obtain ⟨s, hs⟩ := List.getElem?_of_mem hL
  exact List.mem_of_getElem? (h.N s L hs)
theorem snoc_at {α : Type} {l : List α} {x y : α} {k : Nat} (h : l[k]? = some x) : (l ++ [y])[k]? = some x := by
  rw [List.getElem?_append_left (List.getElem?_eq_some_iff.1 h).1]; exact h
theorem snoc_inv {α : Type} {l : List α} {x y : α} {k : Nat} (h : (l ++ [y])[k]? = some x) : l[k]? = some x ∨ k = l.length ∧ x = y := by
  rcases Nat.lt_trichotomy k l.length with hk | hk | hk
  · rw [List.getElem?_append_left hk] at h; exact .inl h
  · subst hk; simp at h; exact .inr ⟨rfl, h.symm⟩
  · rw [List.getElem?_eq_none (by simp; omega)] at h; cases h
def GA.addNode (g : GA) (f : Bool) (i : Nat) (L : List Bs) : GA := ⟨g.nodes ++ [(f, i)], g.arcs, g.N ++ [fins f ++ L], g.A⟩
def GA.addArc (g : GA) (c : UInt8) (t i : Nat) (M L : List Bs) : GA := ⟨g.nodes, g.arcs ++ [(c, t, i)], g.N, g.A ++ [M.map (c :: ·) ++ L]⟩
theorem nodup_snoc {α : Type} {l : List α} {x : α} (h : l.Nodup) (hx : x ∉ l) : (l ++ [x]).Nodup := by
  rw [List.nodup_append]
  refine ⟨h, by simp, ?_⟩
  intro a ha b hb e
  simp at hb
  subst hb e
  exact hx ha
theorem GA.le_node (g : GA) (f : Bool) (i : Nat) (L : List Bs) : g.Le (g.addNode f i L) := ⟨fun _ _ h => snoc_at h, fun _ _ h => h⟩
theorem GA.le_arc (g : GA) (c : UInt8) (t i : Nat) (M L : List Bs) : g.Le (g.addArc c t i M L) :=
  ⟨fun _ _ h => h, fun k L' h => by show ([] :: (g.A ++ [_]))[k]? = _; rw [← List.cons_append]; exact snoc_at h⟩
theorem GA.Ok.addNode {g : GA} (h : g.Ok) {f : Bool} {i : Nat} {L : List Bs} (hi : ([] :: g.A)[i]? = some L) (hn : (f, i) ∉ g.nodes) : (g.addNode f i L).Ok := by
  refine ⟨by simp [GA.addNode, h.nl], h.al, nodup_snoc h.nd (h.node_new hi hn), h.ad, ?_, ?_⟩
  · intro s f' i' hs
    rcases snoc_inv hs with hs | ⟨rfl, e⟩
    · obtain ⟨L', h1, h2⟩ := h.node s f' i' hs
      exact ⟨L', h1, snoc_at h2⟩
    · cases e
      exact ⟨L, hi, by show (g.N ++ [_])[g.nodes.length]? = _; rw [h.nl]; simp⟩
  · intro k c t j hk
    obtain ⟨M, L', h1, h2, h3, h4⟩ := h.arc k c t j hk
    exact ⟨M, L', snoc_at h1, h2, h3, h4⟩
theorem GA.Ok.addArc {g : GA} (h : g.Ok) {c : UInt8} {t i : Nat} {M L : List Bs} (ht : g.N[t]? = some M) (hi : ([] :: g.A)[i]? = some L) (hM : M ≠ []) (ha : Above c L) (hn : (c, t, i) ∉ g.arcs) : (g.addArc c t i M L).Ok := by
  have hle := g.le_arc c t i M L
  refine ⟨h.nl, by simp [GA.addArc, h.al], h.nd, ?_, ?_, ?_⟩
  · show ([] :: (g.A ++ [_])).Nodup
    rw [← List.cons_append]
    refine nodup_snoc h.ad ?_
    rw [List.mem_cons]
    rintro (e | e)
    · exact map_ne hM e
    · exact h.arc_new ht hi hM ha hn e
  · intro s f' i' hs
    obtain ⟨L', h1, h2⟩ := h.node s f' i' hs
    exact ⟨L', hle.A _ _ h1, h2⟩
  · intro k c' t' j hk
    rcases snoc_inv hk with hk | ⟨rfl, e⟩
    · obtain ⟨M', L', h1, h2, h3, h4⟩ := h.arc k c' t' j hk
      exact ⟨M', L', h1, hle.A _ _ h2, snoc_at h3, h4⟩
    · cases e
      refine ⟨M, L, ht, hle.A _ _ hi, by show (g.A ++ [_])[g.arcs.length]? = _; rw [h.al]; simp, hM, ha, ?_⟩
      have := (List.getElem?_eq_some_iff.1 hi).1
      rw [h.al]
      simp at this
      omega

/-! ### Which endings there are -/
/-- The endings behind a beginning, of whatever length. -/
def SetS (W : List Bs) (L : List Bs) : Prop := L = W ∨ ∃ p, ends W p ≠ [] ∧ L = ends W p
/-- The same, of one byte at least. -/
def SetR (R : List Bs) (L : List Bs) : Prop := ∃ c p, ends R (c :: p) ≠ [] ∧ L = ends R (c :: p)
theorem setR_nil (L : List Bs) : ¬ SetR [] L := by
  rintro ⟨c, p, h, _⟩
  exact h (ends_nil _)
theorem setR_step {c : UInt8} {M R L : List Bs} (hM : M ≠ []) (ha : Above c R) : SetR (M.map (c :: ·) ++ R) L ↔ SetS M L ∨ SetR R L := by
  constructor
  · rintro ⟨b, p, h1, h2⟩
    by_cases hb : c = b
    · subst hb
      change ends (tails c _) p ≠ [] at h1
      change L = ends (tails c _) p at h2
      rw [tails_one ha] at h1 h2
      exact .inl (.inr ⟨p, h1, h2⟩)
    · change ends (tails b _) p ≠ [] at h1
      change L = ends (tails b _) p at h2
      rw [tails_other hb] at h1 h2
      exact .inr ⟨b, p, h1, h2⟩
  · have key : ∀ p, ends (M.map (c :: ·) ++ R) (c :: p) = ends M p := fun p => by
      show ends (tails c _) p = _
      rw [tails_one ha]
    rintro ((rfl | ⟨p, h1, h2⟩) | ⟨b, p, h1, h2⟩)
    · exact ⟨c, [], by rw [key]; exact hM, (key []).symm⟩
    · exact ⟨c, p, by rw [key]; exact h1, by rw [key]; exact h2⟩
    · have hb : c ≠ b := by
        rintro rfl
        apply h1
        show ends (tails c R) p = []
        rw [tails_above ha, ends_nil]
      have e : ends (M.map (c :: ·) ++ R) (b :: p) = ends R (b :: p) := by
        show ends (tails b _) p = ends (tails b R) p
        rw [tails_other hb]
      exact ⟨b, p, by rw [e]; exact h1, by rw [e]; exact h2⟩
theorem setS_fins {f : Bool} {R L : List Bs} : SetS (fins f ++ R) L ↔ L = fins f ++ R ∨ SetR R L := by
  have key : ∀ c p, ends (fins f ++ R) (c :: p) = ends R (c :: p) := fun c p => by
    show ends (tails c _) p = ends (tails c R) p
    rw [tails_app, tails_fins, List.nil_append]
  constructor
  · rintro (h | ⟨p, h1, h2⟩)
    · exact .inl h
    · cases p with
      | nil => exact .inl h2
      | cons c p => rw [key] at h1 h2; exact .inr ⟨c, p, h1, h2⟩
  · rintro (h | ⟨c, p, h1, h2⟩)
    · exact .inl h
    · exact .inr ⟨c :: p, by rw [key]; exact h1, by rw [key]; exact h2⟩
/-- What was made: these endings, and no others. -/
structure Made (g g' : GA) (S : List Bs → Prop) : Prop where
  only : ∀ L ∈ g'.N, L ∈ g.N ∨ S L
  all : ∀ L, S L → L ∈ g'.N
theorem Made.start (g : GA) : Made g g (SetR []) := ⟨fun _ h => .inl h, fun L h => absurd h (setR_nil L)⟩
theorem Made.step {g g1 g2 : GA} {c : UInt8} {M R : List Bs} (h1 : Made g g1 (SetR R)) (h2 : Made g1 g2 (SetS M)) (hle : g1.Le g2) (hM : M ≠ []) (ha : Above c R) : Made g g2 (SetR (M.map (c :: ·) ++ R)) := by
  refine ⟨fun L hL => ?_, fun L hL => ?_⟩
  · rw [setR_step hM ha]
    rcases h2.only L hL with h | h
    · rcases h1.only L h with h | h
      · exact .inl h
      · exact .inr (.inr h)
    · exact .inr (.inl h)
  · rcases (setR_step hM ha).1 hL with h | h
    · exact h2.all L h
    · exact hle.mem (h1.all L h)
theorem Made.end_ {g g1 g2 : GA} {f : Bool} {R : List Bs} (h1 : Made g g1 (SetR R)) (hle : g1.Le g2) (h2 : ∀ L ∈ g2.N, L ∈ g1.N ∨ L = fins f ++ R) (h3 : fins f ++ R ∈ g2.N) : Made g g2 (SetS (fins f ++ R)) := by
  refine ⟨fun L hL => ?_, fun L hL => ?_⟩
  · rw [setS_fins]
    rcases h2 L hL with h | h
    · rcases h1.only L h with h | h
      · exact .inl h
      · exact .inr (.inr h)
    · exact .inr (.inl h)
  · rcases setS_fins.1 hL with h | h
    · rw [h]; exact h3
    · exact hle.mem (h1.all L h)
theorem Made.arcs {g g1 g2 : GA} {S : List Bs → Prop} (h : Made g g1 S) (e : g2.N = g1.N) : Made g g2 S := ⟨by rw [e]; exact h.only, by rw [e]; exact h.all⟩

/-! ### The arcs that leave a state -/
def chainF (arcs : List (UInt8 × Nat × Nat)) : Nat → Nat → List (UInt8 × Nat × Nat)
  | 0, _ => []
  | _ + 1, 0 => []
  | fuel + 1, i + 1 => match arcs[i]? with
    | some (c, t, n) => (c, t, n) :: chainF arcs fuel n
    | none => []
def GA.chain (g : GA) (i : Nat) : List (UInt8 × Nat × Nat) := chainF g.arcs (i + 1) i
theorem chainF_more (g : GA) (h : g.Ok) : ∀ (f i : Nat), i < f → chainF g.arcs f i = chainF g.arcs (i + 1) i
  | 0, _, hf => by omega
  | f + 1, 0, _ => rfl
  | f + 1, i + 1, hf => by
    show (match g.arcs[i]? with | some (c, t, n) => (c, t, n) :: chainF g.arcs f n | none => []) = (match g.arcs[i]? with | some (c, t, n) => (c, t, n) :: chainF g.arcs (i + 1) n | none => [])
    cases e : g.arcs[i]? with
    | none => rfl
    | some x =>
      obtain ⟨c, t, n⟩ := x
      obtain ⟨_, _, _, _, _, _, _, hn⟩ := h.arc i c t n e
      dsimp only
      rw [chainF_more g h f n (by omega), chainF_more g h (i + 1) n (by omega)]
theorem chain_zero (g : GA) : g.chain 0 = [] := rfl
theorem chain_succ {g : GA} (h : g.Ok) {i : Nat} {c : UInt8} {t n : Nat} (e : g.arcs[i]? = some (c, t, n)) : g.chain (i + 1) = (c, t, n) :: g.chain n := by
  obtain ⟨_, _, _, _, _, _, _, hn⟩ := h.arc i c t n e
  show (match g.arcs[i]? with | some (c, t, n) => (c, t, n) :: chainF g.arcs (i + 1) n | none => []) = _
  rw [e]
  dsimp only
  rw [chainF_more g h (i + 1) n (by omega)]
  rfl
/-- What such a list of arcs leads to. -/
def leads (N : List (List Bs)) (l : List (UInt8 × Nat × Nat)) : List Bs := l.flatMap fun x => (N.getD x.2.1 []).map (x.1 :: ·)
structure ChainOk (N : List (List Bs)) (l : List (UInt8 × Nat × Nat)) : Prop where
  rise : l.Pairwise (fun x y => x.1 < y.1)
  there : ∀ x ∈ l, ∃ M, N[x.2.1]? = some M ∧ M ≠ []
theorem chain_ok {g : GA} (h : g.Ok) : ∀ (i : Nat) (L : List Bs), ([] :: g.A)[i]? = some L → L = leads g.N (g.chain i) ∧ ChainOk g.N (g.chain i) := by
  intro i
  induction i using Nat.strongRecOn with
  | ind i ih =>
    intro L hL
    cases i with
    | zero =>
      simp at hL
      subst hL
      exact ⟨rfl, List.Pairwise.nil, fun x hx => by cases hx⟩
    | succ k =>
      rw [List.getElem?_cons_succ] at hL
      have hk : k < g.arcs.length := by rw [h.al]; exact (List.getElem?_eq_some_iff.1 hL).1
      obtain ⟨⟨c, t, n⟩, hg⟩ : ∃ x, g.arcs[k]? = some x := ⟨_, List.getElem?_eq_getElem hk⟩
      obtain ⟨M, L', h1, h2, h3, h4, h5, h6⟩ := h.arc k c t n hg
      rw [hL] at h3
      obtain ⟨e1, e2, e3⟩ := ih n (by omega) L' h2
      rw [chain_succ h hg]
      refine ⟨?_, List.pairwise_cons.2 ⟨?_, e2⟩, ?_⟩
      · rw [Option.some.inj h3]
        show _ = (g.N.getD t []).map (c :: ·) ++ leads g.N (g.chain n)
        rw [← e1, List.getD_eq_getElem?_getD, h1]
        rfl
      · intro y hy
        obtain ⟨M', k1, k2⟩ := e3 y hy
        obtain ⟨z, hz⟩ := List.exists_mem_of_ne_nil M' k2
        have hmem : y.1 :: z ∈ L' := by
          rw [e1]
          refine List.mem_flatMap.2 ⟨y, hy, ?_⟩
          rw [List.getD_eq_getElem?_getD, k1]
          exact List.mem_map.2 ⟨z, hz, rfl⟩
        obtain ⟨b, r, e, hb⟩ := h5 _ hmem
        cases e
        exact hb
      · intro y hy
        rcases List.mem_cons.1 hy with rfl | hy
        · exact ⟨M, h1, h4⟩
        · exact e3 y hy
theorem leads_above {N : List (List Bs)} {c : UInt8} {l : List (UInt8 × Nat × Nat)} (h : ∀ x ∈ l, c < x.1) : Above c (leads N l) := by
  intro y hy
  obtain ⟨x, hx, hy⟩ := List.mem_flatMap.1 hy
  obtain ⟨z, _, rfl⟩ := List.mem_map.1 hy
  exact ⟨_, _, rfl, h x hx⟩
/-- Where a byte leads. -/
def goes (l : List (UInt8 × Nat × Nat)) (c : UInt8) : Option Nat := (l.find? fun x => decide (x.1 = c)).map fun x => x.2.1
theorem goes_ok {N : List (List Bs)} : ∀ {l : List (UInt8 × Nat × Nat)}, ChainOk N l → ∀ c, match goes l c with
    | some t => N[t]? = some (tails c (leads N l)) ∧ tails c (leads N l) ≠ []
    | none => tails c (leads N l) = []
  | [], _, c => rfl
  | x :: l, h, c => by
    obtain ⟨h1, h2⟩ := List.pairwise_cons.1 h.rise
    have hl : ChainOk N l := ⟨h2, fun y hy => h.there y (List.mem_cons_of_mem _ hy)⟩
    obtain ⟨M, k1, k2⟩ := h.there x (List.mem_cons_self ..)
    have e : leads N (x :: l) = M.map (x.1 :: ·) ++ leads N l := by
      show (N.getD x.2.1 []).map _ ++ _ = _
      rw [List.getD_eq_getElem?_getD, k1]
      rfl
    rw [e]
    by_cases hc : x.1 = c
    · subst hc
      have : goes (x :: l) x.1 = some x.2.1 := by simp [goes]
      rw [this]
      dsimp only
      rw [tails_one (leads_above h1)]
      exact ⟨k1, k2⟩
    · have : goes (x :: l) c = goes l c := by simp [goes, hc]
      rw [this, tails_other hc]
      exact goes_ok hl c

/-! ### How many there are -/
theorem len_le {α : Type} [DecidableEq α] : ∀ {l m : List α}, l.Nodup → (∀ x ∈ l, x ∈ m) → l.length ≤ m.length
  | [], _, _, _ => Nat.zero_le _
  | a :: l, m, h, hs => by
    obtain ⟨h1, h2⟩ := List.nodup_cons.1 h
    have ha := hs a (List.mem_cons_self ..)
    have := len_le h2 (m := m.erase a) fun x hx => (List.mem_erase_of_ne (by rintro rfl; exact h1 hx)).2 (hs x (List.mem_cons_of_mem _ hx))
    rw [List.length_erase_of_mem ha] at this
    have := List.length_pos_of_mem ha
    simp only [List.length_cons]
    omega
theorem len_eq {α : Type} [DecidableEq α] {l m : List α} (hl : l.Nodup) (hm : m.Nodup) (h : ∀ x, x ∈ l ↔ x ∈ m) : l.length = m.length :=
  Nat.le_antisymm (len_le hl fun x hx => (h x).1 hx) (len_le hm fun x hx => (h x).2 hx)
/-- How many bytes these are. -/
def wt (W : List Bs) : Nat := (W.map List.length).sum
theorem wt_app (V W : List Bs) : wt (V ++ W) = wt V + wt W := by simp [wt]
theorem wt_map (c : UInt8) : ∀ M : List Bs, wt (M.map (c :: ·)) = wt M + M.length
  | [] => rfl
  | x :: M => by
    have := wt_map c M
    simp only [wt, List.map_cons, List.sum_cons, List.length_cons] at this ⊢
    omega
theorem wt_fins (f : Bool) : wt (fins f) = 0 := by cases f <;> rfl
end Go.Proofs.Ytkabdieenijnlaa
