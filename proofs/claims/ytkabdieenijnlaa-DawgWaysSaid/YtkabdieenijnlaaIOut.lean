/- Auto.Out by contract: the bytes that lead on. -/
import Derived.Test.YtkabdieenijnlaaINext
namespace Go.Proofs.Ytkabdieenijnlaa
open Go Go.RowKit Go.Lib Go.Shelf
attribute [local go_sem] Oper.semAt_some alloc_set

theorem wpListIn_append_where {F : Fence} {n : Nat} {P : Program} (w : World) {ops : Array Oper} {rest : List Oper} {o : Oper} {a : Act} {Q : Exit → Act → World → Prop}
    (hg : o.guard = none) (s x : Operand) (t : TypeId) (hop : o.op = Op.call { callee := Callee.builtin Builtin.append, args := #[s, x], argTypes := #[t, t] })
    (base : Nat) (e : TypeId) (i : TypeInfo) (z : Value) (size bytes : Nat) (h1 : P.underlying t = some (.slice e)) (h2 : P.info? e = some i) (h3 : i.zero = some z) (h4 : i.size = size) (h5 : i.bytes = bytes) (h6 : z.cells.size = size) (h7 : 0 < size)
    (v : Value) (k : Nat) (xs : List Value) (hs : a.eval s = v) (hown : w.ownsRow base e size v k xs) (ad : Addr) (m c : Nat) (news : List Value) (hx : a.eval x = .slice (some ad) m c) (hn : news.length = m * size)
    (hc : ∀ j u, news[j]? = some u → w.cell? (ad.add j) = some u) (h1c : ∀ u ∈ news, u.oneCell' = true) (b1 : k + m ≤ maxLen) (b2 : (k + m) * bytes ≤ 140737488355328) (b3 : base ≤ w.heap.size)
    (hK : ∀ v' w', w'.ownsRow base e size v' (k + m) (xs ++ news) → w.grownBy w' v.ownBlock → (v'.ownBlock = v.ownBlock ∨ ∀ g, v'.ownBlock = some g → w.heap.size ≤ g) → wpListIn F n P ops Q rest (a.put o.dst v') w') :
    wpListIn F n P ops Q (o :: rest) a w := by
  refine wpListIn_plain hg fun K hK' => ?_
  obtain ⟨v', w', hrun, r1, r2, r3⟩ := run_append_own (P := P) w base t o.type e i z size bytes h1 h2 h3 h4 h5 h6 h7 v k xs hown ad m c news hn hc h1c b1 b2 b3
  have r4 := append_where (P := P) w base t o.type e i z size bytes h1 h2 h3 h4 h5 h6 h7 v k xs hown ad m c news hn hc h1c b1 b2 hrun
  unfold Oper.wpIn
  refine ⟨?_, ?_⟩
  · simp [Oper.about, hop, resolve, Target.leads, Sem.run_pure]
  · rw [Oper.semAt_plain F _ _ (by rw [hop]; intro c hc'; cases hc')]
    simp [execOp, hop, resolve, invoke, builtin, hs, hx, hrun, Result.andThen]
    exact hK' _ _ (hK v' w' r1 r2 r4)

/-- A slice that reads as these bytes. -/
def BsAt (w : World) (v : Value) (cs : List UInt8) : Prop :=
  (cs = [] ∧ ∃ a cap, v = .slice a 0 cap) ∨ ∃ b off cap, v = .slice (some ⟨b, off, none⟩) cs.length cap ∧ b < w.heap.size ∧ cs.length ≤ cap ∧ cap ≤ maxLen ∧ ∀ (i : Nat) c, cs[i]? = some c → w.cell? ⟨b, off + i, none⟩ = some (.int .u8 c.toNat)
theorem BsAt.keep {w w' : World} {v : Value} {cs : List UInt8} (h : BsAt w v cs) (hb : Below w.heap.size w w') : BsAt w' v cs := by
  rcases h with h | ⟨b, off, cap, rfl, h1, h2, h3, h4⟩
  · exact .inl h
  · exact .inr ⟨b, off, cap, rfl, Nat.lt_of_lt_of_le h1 hb.size, h2, h3, fun i c hc => (cell_old (p := ⟨b, off + i, none⟩) hb h1).trans (h4 i c hc)⟩
theorem bs_form {w : World} {v : Value} {cs : List UInt8} (h : BsAt w v cs) : ∃ A cap, v = .slice A cs.length cap := by
  rcases h with ⟨rfl, a, c, e⟩ | ⟨b, off, c, e, _⟩
  · exact ⟨a, c, e⟩
  · exact ⟨_, c, e⟩
theorem bs_open {w : World} {A : Option Addr} {n cap : Nat} {cs : List UInt8} (h : BsAt w (.slice A n cap) cs) : ∀ (k : Nat) c, cs[k]? = some c → ∃ b off, A = some ⟨b, off, none⟩ ∧ b < w.heap.size ∧ n ≤ cap ∧ w.cell? ⟨b, off + k, none⟩ = some (.int .u8 c.toNat) := by
  intro k e hk
  rcases h with ⟨rfl, _⟩ | ⟨b, off, c, e', h1, h2, h3, h4⟩
  · simp at hk
  · injection e' with e1 e2 e3
    subst e1 e2 e3
    exact ⟨b, off, rfl, h1, h2, h4 k e hk⟩
def u8V (c : UInt8) : Value := .int .u8 c.toNat
theorem bs_own {w : World} {B n : Nat} {v : Value} {cs : List UInt8} (h : w.ownsRow B 5 1 v n (cs.map u8V)) (hn : n = cs.length) : BsAt w v cs := by
  subst hn
  have hc := @World.ownsRow.cells _ _ _ _ _ _ _ h
  rcases h.2 with ⟨rfl, h0⟩ | ⟨g, cap, cur, rfl, hb, hg, hnc, hcm, _⟩
  · exact .inl ⟨List.eq_nil_of_length_eq_zero h0, _, _, rfl⟩
  · refine .inr ⟨g, 0, cap, rfl, (Array.getElem?_eq_some_iff.1 hg).1, hnc, hcm, fun i c hi => ?_⟩
    rw [Nat.zero_add, ← add9]
    exact hc (g := g) rfl i _ (by rw [List.getElem?_map, hi]; rfl)

/-- Out, while the arcs come. -/
def RowO (w0 : World) (R : Nat → Prop) (N : Nat) (T : Nat → Prop) (cs : List UInt8) (v : Value) (W : World) : Prop :=
  (Boxed W N 40 v ∧ ¬ T N) ∧ (W.ownsRow w0.heap.size 5 1 v cs.length (cs.map u8V) ∧ ∀ g, v.ownBlock = some g → ¬ T g ∧ ¬ R g) ∧ Below w0.heap.size w0 W ∧ (∀ k, T k → w0.heap.size ≤ k) ∧ ∀ k, T k → k < W.heap.size
theorem RowO.stab {w0 : World} {R : Nat → Prop} {N : Nat} {T T' : Nat → Prop} {cs : List UInt8} {v : Value} {U V : World} (h : RowO w0 R N T cs v U) (ho : OnlyAt T U V) (ht : ∀ k, T' k → T k ∨ (U.heap.size ≤ k ∧ k < V.heap.size)) : RowO w0 R N T' cs v V := by
  obtain ⟨⟨hb, hT⟩, ⟨hr, hg⟩, hB, hTB, hTU⟩ := h
  have hlt := hb.lt
  have hz := ho.size
  refine ⟨⟨(ho.block N hlt hT).trans hb, fun hh => ?_⟩, ⟨⟨hr.1, ?_⟩, fun g hgv => ⟨fun hh => ?_, (hg g hgv).2⟩⟩, OnlyAt.below hB ho hB.size hTB, fun k hk => ?_, fun k hk => ?_⟩
  · rcases ht N hh with h | h
    · exact hT h
    · omega
  · rcases hr.2 with hn | ⟨g, cap, cur, rfl, hgb, hgg, rest⟩
    · exact .inl hn
    · exact .inr ⟨g, cap, cur, rfl, hgb, (ho.block g (Array.getElem?_eq_some_iff.1 hgg).1 (hg g rfl).1).trans hgg, rest⟩
  · have := (hr.lt g hgv).2
    rcases ht g hh with h | h
    · exact (hg g hgv).1 h
    · omega
  · rcases ht k hk with h | h
    · exact hTB k h
    · have := hB.size; omega
  · rcases ht k hk with h | h
    · have := hTU k h; omega
    · exact h.2
theorem Try.infosO5 : (Try.prog.info? 5).map (fun i => (i.zero, i.size, i.bytes)) = some (some (.int .u8 0), 1, 1) := by kernel_rfl
theorem rise_len : ∀ {l : List (UInt8 × Nat × Nat)} (k : Nat), l.Pairwise (fun x y => x.1 < y.1) → (∀ x ∈ l, k ≤ x.1.toNat) → l ≠ [] → l.length + k ≤ 256
  | [], _, _, _, h => absurd rfl h
  | x :: l, k, h, hk, _ => by
    obtain ⟨h1, h2⟩ := List.pairwise_cons.1 h
    have hx := hk x (List.mem_cons_self ..)
    have h256 := x.1.toNat_lt
    by_cases e : l = []
    · subst e
      simp only [List.length_cons, List.length_nil]
      omega
    · have := rise_len (x.1.toNat + 1) h2 (fun y hy => by have := UInt8.lt_iff_toNat_lt.1 (h1 y hy); omega) e
      simp only [List.length_cons]
      omega
theorem rise_256 {l : List (UInt8 × Nat × Nat)} (h : l.Pairwise (fun x y => x.1 < y.1)) : l.length ≤ 256 := by
  by_cases e : l = []
  · subst e; simp
  · have := rise_len 0 h (fun _ _ => Nat.zero_le _) e; omega

set_option maxRecDepth 100000 in
set_option maxHeartbeats 4000000 in
theorem out_any (w : World) (p : Nat) (g : GA) (st : Nat) (h : AutoAt w p g st) (s : Int) :
    Calls Try.prog 21 #[.pointer (some ⟨p, 0, none⟩), .int .i64 s] w fun e w' => ∃ v, e = .returned v ∧ w'.ownsRow w.heap.size 5 1 v ((g.out s).map fun x => x.1).length (((g.out s).map fun x => x.1).map u8V) ∧ Below w.heap.size w w' := by
  obtain ⟨i0, hi, hz0, hz1, hz2⟩ := info_parts Try.infosO5
  obtain ⟨N, hN⟩ : ∃ N, N = w.heap.size := ⟨_, rfl⟩
  obtain ⟨w3, hw3⟩ : ∃ w3, w3 = w.alloc (.cells #[.slice none 0 0] 40) := ⟨_, rfl⟩
  obtain ⟨w5, hw5⟩ : ∃ w5, w5 = (w3.alloc (.cells #[.pointer (some ⟨p, 0, none⟩)] 25)).alloc (.cells #[.int .i64 s] 3) := ⟨_, rfl⟩
  have hs3 : w3.heap.size = N + 1 := by rw [hw3, hN]; simp
  have hs5 : w5.heap.size = N + 3 := by rw [hw5]; simp [hs3]
  have hb3 : Below w.heap.size w w3 := by rw [hw3]; exact (Below.refl _ w).alloc (Nat.le_refl _) _
  have hb35 : Below w3.heap.size w3 w5 := by rw [hw5]; exact ((Below.refl _ w3).alloc (Nat.le_refl _) _).alloc (by simp) _
  have hb5 : Below w.heap.size w w5 := hb3.trans (hb35.mono hb3.size)
  have q0 : w5.heap[N]? = some (.cells #[.slice none 0 0] 40 (0, 0)) := by
    refine (hb35.block N (by omega)).trans ?_
    rw [hw3]; exact heap_top _ _ hN.symm
  have p0 : w5.cell? ⟨N + 1, 0, none⟩ = some (.pointer (some ⟨p, 0, none⟩)) := by
    have : w5.heap[N + 1]? = some (.cells #[.pointer (some ⟨p, 0, none⟩)] 25 (0, 0)) := by rw [hw5]; exact heap_up (heap_top _ _ hs3) _
    simp [World.cell?, this]
  have p1 : w5.cell? ⟨N + 1 + 1, 0, none⟩ = some (.int .i64 s) := by
    have : w5.heap[N + 1 + 1]? = some (.cells #[.int .i64 s] 3 (0, 0)) := by rw [hw5]; exact heap_top _ _ (by rw [World.size_alloc, hs3])
    simp [World.cell?, this]
  obtain ⟨R, hR⟩ : ∃ R : Nat → Prop, R = fun k => k < N ∨ k = N + 1 ∨ k = N + 1 + 1 := ⟨_, rfl⟩
  have hRlt : ∀ k, R k → k < w5.heap.size := fun k hk => by rw [hR] at hk; omega
  have hRN : ∀ k, R k → k ≠ N := fun k hk => by rw [hR] at hk; omega
  have hdat : ∀ W', KeepsAt R w5 W' → AutoAt W' p g st ∧ W'.cell? ⟨N + 1, 0, none⟩ = some (.pointer (some ⟨p, 0, none⟩)) ∧ W'.cell? ⟨N + 1 + 1, 0, none⟩ = some (.int .i64 s) := fun W' hk =>
    ⟨h.cells fun a v ha => cell_kept hk ((cell_old hb5 (World.block_lt_of_cell? _ _ ha)).trans ha) (by rw [hR]; left; rw [hN]; exact World.block_lt_of_cell? _ _ ha), cell_kept hk p0 (by rw [hR]; right; left; rfl), cell_kept hk p1 (by rw [hR]; right; right; rfl)⟩
  have HI0 := Lib.hid (show RowO w R N (fun _ => False) [] (.slice none 0 0) w5 from ⟨⟨q0, id⟩, ⟨World.ownsRow_nil _ _ _ _, fun g hg => by simp [Value.ownBlock] at hg⟩, hb5, fun _ h => h.elim, fun _ h => h.elim⟩)
  have hlen : (g.out s).length ≤ 256 := by
    unfold GA.out
    split
    · cases hg : g.nodes[s.toNat]? with
      | none => exact Nat.zero_le _
      | some y =>
        obtain ⟨L, h1, -⟩ := h.ok.node _ y.1 y.2 hg
        exact rise_256 (chain_ok h.ok y.2 L h1).2.rise
    · exact Nat.zero_le _
  have HD := Lib.hid (And.intro hdat (And.intro hRlt (And.intro hs5 (And.intro hN hRN))))
  have HW := Lib.hid (And.intro hw3 hw5)
  have HLN := Lib.hid hlen
  have HRlow := Lib.hid (show ∀ k, R k → k < N + 3 from fun k hk => by rw [hR] at hk; omega)
  have CL := Lib.hid (fun wx => leaving_call (some ⟨p, 0, none⟩) s wx)
  clear hs3 hs5 hb3 hb35 hb5 q0 p0 p1 hdat hRlt hRN h hw3 hw5 hR hlen
  refine (callsIn_wide (n := 6)).1 ?_
  refine callsIn_of_wp_marks Try.func21 rfl trivial ?_ rfl
  simp only [Try.ntmps21, List.size_toArray, List.length_cons, List.length_nil, Nat.reduceAdd, Nat.reduceSub, Array.replicate_succ, Array.replicate_zero, List.push_toArray, List.append_toArray, List.nil_append, List.cons_append]
  gi_wp2_with (refine ⟨trivial, ?_⟩; gi_at_call 34; refine (callsIn_wide.2 (CL.out _)).mono ?_; rintro e w1 ⟨rfl, rfl⟩)
  rw [← HW.out.1, ← HW.out.2, ← hN]
  have hN0 := Lib.hid hN
  clear HW CL hN
  refine wpIn_stops (R := R) (gf := 40) (lb := #[.pointer (some ⟨N + 1, 0, none⟩), .pointer (some ⟨N + 1 + 1, 0, none⟩)]) rfl (enters_of Try.func40 (by kernel_rfl) rfl) (by omega) (encs := aEnc) (Adm := fun pre x => (pre ++ [x]) <+: g.out s) (S := fun xs => xs = g.out s)
    (fun W1 ho => leaving_stops p g st s _ _ R W1 (fun W' hk => HD.out.1 W' ((KeepsAt.of_only ho (fun _ _ h => h)).trans hk)) (fun k hk => Nat.lt_of_lt_of_le (HD.out.2.1 k hk) ho.size))
    (fun _ => rfl) HD.out.2.1
    (fun T pre W' => ∃ v, RowO w R N T (pre.map fun x => x.1) v W' ∧ w5.heap.size ≤ W'.heap.size) ?stab
    (fun _ _ _ _ => False) (fun _ _ _ _ _ _ h _ _ => h) ⟨_, HI0.out, Nat.le_refl _⟩
    (fun T pre x a' W' => ∃ v B8, (w5.heap.size ≤ W'.heap.size ∧ RowO w R N T (pre.map fun x => x.1) v W') ∧ (W'.heap[B8]? = some (.cells #[.int .u8 x.1.toNat, .int .i32 x.2.1, .int .i32 ((x.2.2 : Int) - 1)] 62 (0, 0)) ∧ ¬ T B8) ∧ a' = { tmps := #[.pointer (some ⟨p, 0, none⟩), .int .i64 s, undef, undef, .slice none 0 0, .pointer (some ⟨N, 0, none⟩), .pointer (some ⟨B8, 0, none⟩), .pointer (some ⟨p, 0, none⟩), .int .i64 s, .func (.func 40) #[] #[.pointer (some ⟨N + 1, 0, none⟩), .pointer (some ⟨N + 1 + 1, 0, none⟩)], .agg #[.int .u8 x.1.toNat, .int .i32 x.2.1, .int .i32 ((x.2.2 : Int) - 1)], undef, undef, undef, undef, undef, undef], defers := [] })
    ?staba ?assign ?body ?done ?stop
  case stab =>
    rintro T T' pre U V ⟨v, h1, h2⟩ ho ht
    exact ⟨v, h1.stab ho ht, Nat.le_trans h2 ho.size⟩
  case staba =>
    rintro pre x a' T T' _ U V ⟨v, B8, ⟨h5, h1⟩, ⟨h3, h4⟩, ha⟩ ho ht
    have hlt := (Array.getElem?_eq_some_iff.1 h3).1
    refine ⟨v, B8, ⟨Nat.le_trans h5 ho.size, h1.stab ho ht⟩, ⟨(ho.block B8 hlt h4).trans h3, fun hh => ?_⟩, ha⟩
    rcases ht B8 hh with h' | h'
    · exact h4 h'
    · omega
  case assign =>
    rintro l2 T pre x W' K hadm ⟨v, h1, h2⟩ hlt hK
    have HI := Lib.hid h1
    have H2 := Lib.hid h2
    clear h1 h2
    simp only [aEnc]
    gi_wp2
    have ho : ∀ T, OnlyAt T W' (W'.alloc (.cells #[.int .u8 x.1.toNat, .int .i32 x.2.1, .int .i32 ((x.2.2 : Int) - 1)] 62)) := fun T => OnlyAt.alloc _ _ _
    exact hK _ _ (ho _) ⟨v, W'.heap.size, ⟨Nat.le_trans H2.out (ho T).size, HI.out.stab (ho T) (fun _ h => .inl h)⟩, ⟨World.alloc_heap_new _ _, fun hh => by have := hlt _ hh; omega⟩, rfl⟩
  case body =>
    rintro l2 T pre x a' W' hadm ⟨v, B8, ⟨h5, h1⟩, ⟨h3, h4⟩, rfl⟩ hlt
    have hpl : pre.length < 256 := by
      have := hadm.length_le
      rw [List.length_append] at this
      have h9 := HLN.out
      simp at this
      omega
    have hc := h1.1.1.cell
    have x0 : W'.cell? ⟨B8, 0, none⟩ = some (.int .u8 x.1.toNat) := by simp [World.cell?, h3]
    have hw0N : w.heap.size ≤ N := by have := hN0.out; omega
    have HI := Lib.hid h1
    have HSZ := Lib.hid h5
    clear h1 h3 h4 h5 hadm
    gi_wp2_with (gi_at_builtin; refine wpListIn_append_where _ rfl _ _ 40 rfl w.heap.size 5 i0 (.int .u8 0) 1 1 Try.underlying40 hi hz0 hz1 hz2 rfl (by decide) _ _ _ rfl (HI.out.2.1.1.alloc _) ⟨W'.heap.size, 0, none⟩ 1 1 [.int .u8 x.1.toNat] rfl rfl (news_row _ _ _) (fun u hu => by simp at hu; subst hu; rfl) (by rw [List.length_map]; unfold maxLen; omega) (by rw [List.length_map]; omega) (by have := HI.out.2.2.1.size; simp; omega) ?_; intro v' w1 hown' hgrow hwh; obtain ⟨g', cap', rfl⟩ := ownsRow_succ hown'; obtain ⟨hv1, hv2, hr2, hk2, hb2⟩ := HI.out.1.1.appended (by decide) HI.out.2.1.1 HI.out.2.2.1.size hw0N hown' hgrow; have hc1 := hv1.cell; have hf1 := hv1.frozen)
    simp only [List.length_map] at hv2 hr2 hk2 hb2
    have hNW := HI.out.1.1.lt
    have hz2 := hk2.size
    have hgn : ¬ T g' ∧ ¬ R g' := by
      rcases hwh with hw | hw
      · exact HI.out.2.1.2 g' (hw ▸ rfl)
      · have h7 := hw g' rfl
        have h8 := HD.out.2.2.1
        simp at h7
        have h10 : w5.heap.size ≤ W'.heap.size := HSZ.out
        exact ⟨fun hh => by have := HI.out.2.2.2.2 g' hh; omega, fun hh => by have := HRlow.out g' hh; omega⟩
    refine ⟨⟨_, ⟨⟨hv2, HI.out.1.2⟩, ⟨by rw [List.map_append, List.map_append, List.length_append, List.length_map]; exact hr2, fun g hg => ?_⟩, HI.out.2.2.1.trans hb2, HI.out.2.2.2.1, fun k hk => Nat.lt_of_lt_of_le (HI.out.2.2.2.2 k hk) hz2⟩, Nat.le_trans HSZ.out hz2⟩, ⟨hz2, fun k hk hh => ?_⟩⟩
    · obtain rfl : g' = g := by simpa [Value.ownBlock] using hg
      exact hgn
    · have hkN : k ≠ N := by
        rintro rfl
        rcases hh with hh | hh
        · exact HD.out.2.2.2.2 _ hh rfl
        · exact HI.out.1.2 hh
      have hkv : some k ≠ v.ownBlock := by
        intro e
        rcases hh with hh | hh
        · exact (HI.out.2.1.2 k e.symm).2 hh
        · exact (HI.out.2.1.2 k e.symm).1 hh
      exact (Below.heap_setCell _ _ _ _ hkN).trans ((hgrow.block k (by simp; omega) hkv).trans (Below.heap_alloc _ _ _ hk))
  case done =>
    rintro Dd T xs W' hD hTD rfl ⟨v, h, h5⟩ hK
    have hc := h.1.1.cell
    have HI := Lib.hid h
    have HKD := Lib.hid hK
    clear h hK
    gi_wp2
    refine ⟨by simp, .inl ⟨_, _, rfl, run_takeDeferred HKD.out, ?_⟩⟩
    refine ⟨_, results_tmp rfl _ _ (W'.putObj Dd (.deferred none)), _, rfl, ownsRow_putObj HI.out.2.1.1 _ HKD.out rfl, OnlyAt.below HI.out.2.2.1 (OnlyAt.putObj (T := fun k => k = Dd) _ _ _ rfl) HI.out.2.2.1.size ?_⟩
    rintro k rfl
    have := HD.out.2.2.1
    have := hN0.out
    omega
  case stop =>
    rintro _ _ _ _ _ _ _ h
    exact h.elim
end Go.Proofs.Ytkabdieenijnlaa
