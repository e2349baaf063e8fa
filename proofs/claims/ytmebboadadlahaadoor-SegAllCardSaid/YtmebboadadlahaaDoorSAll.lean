/- seg.Count and seg.All by their contracts. -/
import Derived.Test.YtmebboadadlahaaDoorSTokens
import Derived.Maps.AppendAt
namespace Go.Proofs.YtmebboadadlahaaDoor
open Go Go.RowKit Go.Lib Go.Shelf
attribute [local go_sem] Oper.semAt_some alloc_set

theorem toks_len (rs : List Cls.R3) (s : ByteArray) : (segs (Cls.ofT rs) 0 none (units 0 s.data.toList)).length ≤ s.size := by
  have h1 := segs_len (Cls.ofT rs) (units 0 s.data.toList) 0 none
  have h2 := units_length_le s.data.toList 0
  rw [← Lib.size_eq] at h2
  simp at h1
  omega

set_option maxRecDepth 100000 in
set_option maxHeartbeats 2000000 in
theorem count_any (v : Value) (rs : List Cls.R3) (s : ByteArray) (w : World) (ht : Cls.Tbl w v rs) (hT : Lib.Utf8Tabs 0 1 w) (hs : s.size ≤ 1000000000000) :
    Calls Tryd.prog 12 #[v, .string s] w fun e w' => e = .returned (.int .i64 (segs (Cls.ofT rs) 0 none (units 0 s.data.toList)).length) ∧ Below w.heap.size w w' := by
  have hlen := toks_len rs s
  obtain ⟨A, n, cap, rfl⟩ : ∃ A n cap, v = .slice A n cap := by
    rcases ht with ⟨⟨A, cap, h⟩, _⟩ | ⟨b, off, cap, h, _⟩
    · exact ⟨_, _, _, h⟩
    · exact ⟨_, _, _, h⟩
  have HT := Lib.hid ht
  have HTB := Lib.hid hT
  clear ht hT
  refine (callsIn_wide (n := 6)).1 ?_
  refine callsIn_of_wp_marks Tryd.func12 rfl trivial ?_ rfl
  simp only [Tryd.ntmps12, List.size_toArray, List.length_cons, List.length_nil, Nat.reduceAdd, Nat.reduceSub, Array.replicate_succ, Array.replicate_zero, List.push_toArray, List.append_toArray, List.nil_append, List.cons_append]
  gi_wp2_with (refine ⟨trivial, ?_⟩; gi_at_call 19; refine (callsIn_wide.2 (tokens_call A n cap s _)).mono ?_; rintro e w1 ⟨rfl, rfl⟩)
  obtain ⟨N, hN⟩ : ∃ N, N = w.heap.size := ⟨_, rfl⟩
  have ho3 : OnlyAt (fun _ => False) w (((w.alloc (.cells #[.int .i64 0] 3)).alloc (.cells #[.slice A n cap] 22)).alloc (.cells #[.string s] 9)) := ((OnlyAt.alloc _ _ _).trans (OnlyAt.alloc _ _ _)).trans (OnlyAt.alloc _ _ _)
  have hn3 : Boxed (((w.alloc (.cells #[.int .i64 0] 3)).alloc (.cells #[.slice A n cap] 22)).alloc (.cells #[.string s] 9)) w.heap.size 3 (.int .i64 0) := ((Boxed.new w _ _).alloc _).alloc _
  have hlb3 : Boxed (((w.alloc (.cells #[.int .i64 0] 3)).alloc (.cells #[.slice A n cap] 22)).alloc (.cells #[.string s] 9)) (w.heap.size + 1) 22 (.slice A n cap) := by
    have h1 := Boxed.new (w.alloc (.cells #[.int .i64 0] 3)) 22 (.slice A n cap)
    simp only [World.size_alloc] at h1
    exact h1.alloc _
  have hsb3 : Boxed (((w.alloc (.cells #[.int .i64 0] 3)).alloc (.cells #[.slice A n cap] 22)).alloc (.cells #[.string s] 9)) (w.heap.size + 2) 9 (.string s) := by
    have h1 := Boxed.new ((w.alloc (.cells #[.int .i64 0] 3)).alloc (.cells #[.slice A n cap] 22)) 9 (.string s)
    simpa only [World.size_alloc] using h1
  have hsz3 : (((w.alloc (.cells #[.int .i64 0] 3)).alloc (.cells #[.slice A n cap] 22)).alloc (.cells #[.string s] 9)).heap.size = w.heap.size + 3 := by simp
  revert ho3 hn3 hlb3 hsb3 hsz3
  generalize (((w.alloc (.cells #[.int .i64 0] 3)).alloc (.cells #[.slice A n cap] 22)).alloc (.cells #[.string s] 9)) = W3
  intro ho3 hn3 hlb3 hsb3 hsz3
  simp only [Nat.add_assoc, Nat.reduceAdd, ← hN]
  rw [← hN] at hn3 hlb3 hsb3 hsz3
  have hO3 : Old w W3 := ⟨by omega, fun k hk => ho3.block k hk id⟩
  have hB3 : Below w.heap.size w W3 := OnlyAt.below (Below.refl _ _) ho3 (Nat.le_refl _) (fun _ h => h.elim)
  have HN3 := Lib.hid hn3
  have HL3 := Lib.hid hlb3
  have HS3 := Lib.hid hsb3
  have HO3 := Lib.hid hO3
  have HB3 := Lib.hid hB3
  have HNe := Lib.hid hN
  clear ho3 hn3 hlb3 hsb3 hO3 hB3 hN
  refine wpIn_gives (R := fun k => k < N ∨ k = N + 1 ∨ k = N + 2) (gf := 25) (lb := #[.pointer (some ⟨N + 1, 0, none⟩), .pointer (some ⟨N + 2, 0, none⟩)]) rfl (enters_of Tryd.func25 (by kernel_rfl) rfl) (by omega) (encs := tEnc) (xs := segs (Cls.ofT rs) 0 none (units 0 s.data.toList))
    (fun W1 ho => tokens_gives (.slice A n cap) rs s hs w HT.out HTB.out (N + 2) (N + 1) _ W1 ⟨by have := HO3.out.1; have := ho.size; omega, fun k hk => (ho.block k (by have := HO3.out.1; omega) id).trans (HO3.out.2 k hk)⟩ (fun k hk => .inl (by have := HNe.out; omega))
        ((ho.block (N + 2) (by omega) id).trans HS3.out) ((ho.block (N + 1) (by omega) id).trans HL3.out) (by have := ho.size; rintro k (hk | rfl | rfl) <;> omega))
    (fun _ => rfl) (by rintro k (hk | rfl | rfl) <;> omega)
    (fun T pre W => (Boxed W N 3 (.int .i64 pre.length) ∧ ¬ T N) ∧ Below w.heap.size w W ∧ ∀ k, T k → N ≤ k)
    ?stab ⟨⟨HN3.out, id⟩, HB3.out, fun _ h => h.elim⟩
    (fun T pre x a' W => ((Boxed W N 3 (.int .i64 pre.length) ∧ ¬ T N) ∧ Below w.heap.size w W ∧ ∀ k, T k → N ≤ k) ∧
      a' = { tmps := #[.slice A n cap, .string s, undef, undef, .int .i64 0, .pointer (some ⟨N, 0, none⟩), .slice A n cap, .string s, .func (.func 25) #[] #[.pointer (some ⟨N + 1, 0, none⟩), .pointer (some ⟨N + 2, 0, none⟩)],
        .agg #[.int .i64 x.1, .int .i64 x.2.1, .bool x.2.2], undef, undef, undef], defers := [] })
    ?stabx ?assign ?body ?done
  case stab =>
    rintro T T' pre U V ⟨⟨hb, hT⟩, hB, hTN⟩ ho ht
    have hlt := hb.lt
    refine ⟨⟨(ho.block N hlt hT).trans hb, fun hh => ?_⟩, OnlyAt.below hB ho hB.size (fun k hk => by have := hTN k hk; have := HNe.out; omega), fun k hk => ?_⟩
    · rcases ht N hh with h | h
      · exact hT h
      · omega
    · rcases ht k hk with h | h
      · exact hTN k h
      · omega
  case stabx =>
    rintro pre x a' T T' _ U V ⟨⟨⟨hb, hT⟩, hB, hTN⟩, ha⟩ ho ht
    have hlt := hb.lt
    refine ⟨⟨⟨(ho.block N hlt hT).trans hb, fun hh => ?_⟩, OnlyAt.below hB ho hB.size (fun k hk => by have := hTN k hk; have := HNe.out; omega), fun k hk => ?_⟩, ha⟩
    · rcases ht N hh with h | h
      · exact hT h
      · omega
    · rcases ht k hk with h | h
      · exact hTN k h
      · omega
  case assign =>
    rintro l2 T pre x W' K hpre hi hlt hK
    have HI := Lib.hid hi
    clear hi
    simp only [tEnc]
    gi_wp2
    exact hK _ _ (OnlyAt.refl _ _) ⟨HI.out, by simp⟩
  case body =>
    rintro l2 T pre x a' W' hpre ⟨⟨⟨hb, hT⟩, hB, hTN⟩, rfl⟩ hlt
    have hpl : pre.length < s.size := by
      obtain ⟨r, hr⟩ := hpre
      have := congrArg List.length hr
      simp at this
      omega
    have hc := hb.cell
    have hf := hb.frozen
    have HBx := Lib.hid hb
    have HB := Lib.hid hB
    have HTN := Lib.hid hTN
    have HTT := Lib.hid hT
    clear hb hB hTN hT hpre
    gi_wp2
    refine ⟨⟨⟨HBx.out.set _, HTT.out⟩, HB.out.setCell (p := ⟨N, 0, none⟩) (by show w.heap.size ≤ N; have := HNe.out; omega) _, HTN.out⟩, KeepsAt.of_only (only1 W' N 0 _) ?_⟩
    rintro k hk rfl
    rcases hk with (hk | hk | hk) | hk
    · omega
    · omega
    · omega
    · exact HTT.out hk
  case done =>
    rintro D T W' hD hTD ⟨⟨hb, hT⟩, hB, hTN⟩ hK
    have hc := hb.cell
    have HB := Lib.hid hB
    have HKD := Lib.hid hK
    have hDw : w.heap.size ≤ D := by have := HNe.out; omega
    clear hb hB hTN hT hK
    gi_wp2
    refine ⟨by simp, .inl ⟨_, _, rfl, run_takeDeferred HKD.out, ?_⟩⟩
    refine ⟨_, results_tmp rfl _ _ (W'.putObj D (.deferred none)), rfl, OnlyAt.below HB.out (OnlyAt.putObj (T := fun k => k = D) _ _ _ rfl) HB.out.size ?_⟩
    rintro k rfl
    exact hDw

/-- Where a row that has grown lies. -/
theorem append_where {P : Program} (w : World) (base : Nat) (t ty e : TypeId) (i : TypeInfo) (z : Value) (size bytes : Nat) (ht : P.underlying t = some (.slice e)) (hi : P.info? e = some i) (hz : i.zero = some z)
    (hsize : i.size = size) (hby : i.bytes = bytes) (hzs : z.cells.size = size) (hsz : 0 < size)
    (v : Value) (n : Nat) (xs : List Value) (hown : w.ownsRow base e size v n xs)
    (a : Addr) (m c : Nat) (news : List Value) (hl : news.length = m * size) (hnews : ∀ j u, news[j]? = some u → w.cell? (a.add j) = some u) (h1 : ∀ u ∈ news, u.oneCell' = true)
    (h63 : n + m ≤ maxLen) (hbytes : (n + m) * bytes ≤ 140737488355328) {v' : Value} {w' : World} (hr : (Builtin.append_ #[t, t] ty #[v, .slice (some a) m c]).run P w = .ok v' w') :
    v'.ownBlock = v.ownBlock ∨ ∀ g, v'.ownBlock = some g → w.heap.size ≤ g := by
  rcases hown.2 with ⟨rfl, rfl⟩ | ⟨g, cap, cur, rfl, hbg, hg, hnc, hcm, hcs, htake⟩
  · right
    have hx : xs = [] := List.eq_nil_of_length_eq_zero (by simpa using hown.1)
    subst hx
    obtain ⟨v2, w2, hr2, ho2, _⟩ := run_append_own (P := P) w w.heap.size t ty e i z size bytes ht hi hz hsize hby hzs hsz (.slice none 0 0) 0 [] (World.ownsRow_nil _ _ _ _) a m c news hl hnews h1 h63 hbytes (Nat.le_refl _)
    rw [hr] at hr2
    cases hr2
    intro g hgb
    exact (ho2.lt g hgb).1
  · subst hsize
    subst hby
    by_cases hroom : n + m ≤ cap
    · left
      have hfit : n * i.size + news.length ≤ cur.size := by rw [hl, hcs, ← Nat.add_mul]; exact Nat.mul_le_mul_right _ hroom
      have hr2 := run_append_room (P := P) w t ty e i ht hi g n cap cur hg a m c news hl hnews h1 hroom hfit
      rw [hr] at hr2
      cases hr2
      rfl
    · right
      have holds : ∀ j u, xs[j]? = some u → w.cell? ((⟨g, 0, none⟩ : Addr).add j) = some u := hown.cells (g := g) rfl
      have hsmall : n + m ≤ 9223372036854775807 := by simp only [maxLen] at h63; omega
      have hr2 := run_append_grow (P := P) w t ty e i z ht hi hz ⟨g, 0, none⟩ n cap xs hown.1 holds a m c news hl hnews (by omega) (by omega) (growslice_fits (by omega) hbytes)
      rw [hr] at hr2
      cases hr2
      intro k hk
      simp [Value.ownBlock] at hk
      omega

theorem wpListIn_append_where {F : Fence} {n : Nat} {P : Program} (w : World) {ops : Array Oper} {rest : List Oper} {o : Oper} {a : Act} {Q : Exit → Act → World → Prop}
    (hg : o.guard = none) (s x : Operand) (t : TypeId) (hop : o.op = Op.call { callee := Callee.builtin Builtin.append, args := #[s, x], argTypes := #[t, t] })
    (base : Nat) (e : TypeId) (i : TypeInfo) (z : Value) (size bytes : Nat) (h1 : P.underlying t = some (.slice e)) (h2 : P.info? e = some i) (h3 : i.zero = some z) (h4 : i.size = size) (h5 : i.bytes = bytes) (h6 : z.cells.size = size) (h7 : 0 < size)
    (v : Value) (k : Nat) (xs : List Value) (hs : a.eval s = v) (hown : w.ownsRow base e size v k xs) (ad : Addr) (m c : Nat) (news : List Value) (hx : a.eval x = .slice (some ad) m c) (hn : news.length = m * size)
    (hc : ∀ j u, news[j]? = some u → w.cell? (ad.add j) = some u) (h1c : ∀ u ∈ news, u.oneCell' = true) (b1 : k + m ≤ maxLen) (b2 : (k + m) * bytes ≤ 140737488355328) (b3 : base ≤ w.heap.size)
    (hK : ∀ v' w', w'.ownsRow base e size v' (k + m) (xs ++ news) → w.grownBy w' v.ownBlock → (v'.ownBlock = v.ownBlock ∨ ∀ g, v'.ownBlock = some g → w.heap.size ≤ g) → wpListIn F n P ops Q rest (a.put o.dst v') w') :
    wpListIn F n P ops Q (o :: rest) a w := by
  refine wpListIn_plain hg fun K hK' => ?_
  obtain ⟨v', w', hrun, r1, r2, r3⟩ := run_append_own (P := P) w base t o.type e i z size bytes h1 h2 h3 h4 h5 h6 h7 v k xs hown ad m c news hn hc h1c b1 b2 b3
  have r4 := append_where (P := P) w base t o.type e i z size bytes h1 h2 h3 h4 h5 h6 h7 v k xs hown ad m c news hn hc h1c b1 b2 hrun
  unfold Oper.wpIn
  refine ⟨?_, ?_⟩
  · simp [Oper.about, hop, resolve, Target.leads, Sem.run_pure]
  · rw [Oper.semAt_plain F _ _ (by rw [hop]; intro c hc'; cases hc')]
    simp [execOp, hop, resolve, invoke, builtin, hs, hx, hrun, Result.andThen]
    exact hK' _ _ (hK v' w' r1 r2 r4)

/-- What AppendSeq holds between two rounds: its variable's box; the row that grows. E: what the round itself has laid. -/
def RowS (w0 : World) (R : Nat → Prop) (N : Nat) (T : Nat → Prop) (pre : List Tok) (v : Value) (W : World) : Prop :=
  (Boxed W N 24 v ∧ ¬ T N) ∧ (W.ownsRow w0.heap.size 34 3 v pre.length (pre.flatMap kCells) ∧ ∀ g, v.ownBlock = some g → ¬ T g ∧ ¬ R g) ∧ Below w0.heap.size w0 W ∧ (∀ k, T k → w0.heap.size ≤ k) ∧ ∀ k, T k → k < W.heap.size

theorem RowS.stab {w0 : World} {R : Nat → Prop} {N : Nat} {T T' : Nat → Prop} {pre : List Tok} {v : Value} {U V : World} (h : RowS w0 R N T pre v U) (ho : OnlyAt T U V) (ht : ∀ k, T' k → T k ∨ (U.heap.size ≤ k ∧ k < V.heap.size)) : RowS w0 R N T' pre v V := by
  obtain ⟨⟨hb, hT⟩, ⟨hr, hg⟩, hB, hTB, hTU⟩ := h
  have hlt := hb.lt
  have hz := ho.size
  refine ⟨⟨(ho.block N hlt hT).trans hb, fun hh => ?_⟩, ⟨⟨hr.1, ?_⟩, fun g hgv => ⟨fun hh => ?_, (hg g hgv).2⟩⟩, OnlyAt.below hB ho hB.size hTB, fun k hk => ?_, fun k hk => ?_⟩
  · rcases ht N hh with h | h
    · exact hT h
    · omega
  · rcases hr.2 with hn | ⟨g, cap, cur, rfl, hgb, hgg, rest⟩
    · exact .inl hn
    · exact .inr ⟨g, cap, cur, rfl, hgb, (ho.block g (Array.getElem?_eq_some_iff.1 hgg).1 (hg g rfl).1).trans hgg, rest⟩
  · have := (hr.lt g hgv).2
    rcases ht g hh with h | h
    · exact (hg g hgv).1 h
    · omega
  · rcases ht k hk with h | h
    · exact hTB k h
    · have := hB.size; omega
  · rcases ht k hk with h | h
    · have := hTU k h; omega
    · exact h.2

theorem Tryd.info34' : (Tryd.prog.info? 34).map (fun i => (i.zero, i.size, i.bytes)) = some (some (.agg #[.int .i64 0, .int .i64 0, .bool false]), 3, 24) := by kernel_rfl

set_option maxRecDepth 100000 in
set_option maxHeartbeats 2000000 in
theorem append_seq (w0 : World) (gf : Nat) (lb : Array Value) (xs : List Tok) (R : Nat → Prop) (w : World) (hB : Below w0.heap.size w0 w) (hR : ∀ k, R k → k < w.heap.size) (hxs : xs.length ≤ 1000000000000)
    (eg : ∀ args w, (callFunc gf args).run Tryd.prog w = .ok (.enter gf args) w)
    (hseq : ∀ W1, OnlyAt (fun _ => False) w W1 → Gives Tryd.prog gf lb tEnc xs R W1) :
    Calls Tryd.prog 24 #[.slice none 0 0, .func (.func gf) #[] lb] w fun e w' => ∃ v, e = .returned v ∧ w'.ownsRow w0.heap.size 34 3 v xs.length (xs.flatMap kCells) ∧ Below w0.heap.size w0 w' := by
  obtain ⟨i0, hi, hz0, hz1, hz2⟩ := info_parts Tryd.info34'
  have HB := Lib.hid hB
  have HR := Lib.hid hR
  have HS := Lib.hid hseq
  have HE := Lib.hid eg
  clear hB hR hseq eg
  refine (callsIn_wide (n := 6)).1 ?_
  refine callsIn_of_wp_marks Tryd.func24 rfl trivial ?_ rfl
  simp only [Tryd.ntmps24, List.size_toArray, List.length_cons, List.length_nil, Nat.reduceAdd, Nat.reduceSub, Array.replicate_succ, Array.replicate_zero, List.push_toArray, List.append_toArray, List.nil_append, List.cons_append]
  gi_wp2
  obtain ⟨N, hN⟩ : ∃ N, N = w.heap.size := ⟨_, rfl⟩
  have hrow0 : RowS w0 R N (fun _ => False) [] (.slice none 0 0) (w.alloc (.cells #[.slice none 0 0] 24)) :=
    ⟨⟨hN ▸ Boxed.new w _ _, id⟩, ⟨World.ownsRow_nil _ _ _ _, fun g hg => by simp [Value.ownBlock] at hg⟩, HB.out.alloc HB.out.size _, fun _ h => h.elim, fun _ h => h.elim⟩
  have hsz : (w.alloc (.cells #[.slice none 0 0] 24)).heap.size = N + 1 := by rw [hN]; simp
  have ho0 : OnlyAt (fun _ => False) w (w.alloc (.cells #[.slice none 0 0] 24)) := OnlyAt.alloc _ _ _
  revert hrow0 hsz ho0
  generalize (w.alloc (.cells #[.slice none 0 0] 24)) = W1
  intro hrow0 hsz ho0
  simp only [← hN]
  have hRN : ∀ k, R k → k < N := fun k hk => hN ▸ HR.out k hk
  have hw0N : w0.heap.size ≤ N := by rw [hN]; exact HB.out.size
  have HROW0 := Lib.hid hrow0
  have HO0 := Lib.hid ho0
  clear hrow0 ho0 hN
  refine wpIn_gives (R := R) (gf := gf) (lb := lb) rfl HE.out (by omega) (encs := tEnc) (xs := xs)
    (fun W2 ho => HS.out W2 (HO0.out.trans ho))
    (fun _ => rfl) (fun k hk => by have := hRN k hk; omega)
    (fun T pre W => ∃ v, RowS w0 R N T pre v W)
    ?stab ⟨_, HROW0.out⟩
    (fun T pre x a' W => ∃ v X, RowS w0 R N T pre v W ∧ W.heap[X]? = some (.cells #[.int .i64 x.1, .int .i64 x.2.1, .bool x.2.2] 34 (0, 0)) ∧ ¬ T X ∧ N < X ∧
      a' = { tmps := #[.slice none 0 0, .func (.func gf) #[] lb, .pointer (some ⟨N, 0, none⟩), undef, .slice none 0 0, .pointer (some ⟨X, 0, none⟩), .func (.func gf) #[] lb, .agg #[.int .i64 x.1, .int .i64 x.2.1, .bool x.2.2], undef, undef, undef, undef, undef], defers := [] })
    ?stabx ?assign ?body ?done
  case stab =>
    rintro T T' pre U V ⟨v, h⟩ ho ht
    exact ⟨v, h.stab ho ht⟩
  case stabx =>
    rintro pre x a' T T' _ U V ⟨v, X, h, hX, hTX, hNX, ha⟩ ho ht
    have hXU := (Array.getElem?_eq_some_iff.1 hX).1
    refine ⟨v, X, h.stab ho ht, (ho.block X hXU hTX).trans hX, fun hh => ?_, hNX, ha⟩
    rcases ht X hh with h | h
    · exact hTX h
    · omega
  case assign =>
    rintro l2 T pre x W' K hpre ⟨v, h⟩ hlt hK
    have HI := Lib.hid h
    clear h
    simp only [tEnc]
    gi_wp2
    have ho : ∀ T, OnlyAt T W' (W'.alloc (.cells #[.int .i64 x.1, .int .i64 x.2.1, .bool x.2.2] 34)) := fun T => OnlyAt.alloc _ _ _
    refine hK _ _ (ho _) ⟨v, W'.heap.size, HI.out.stab (ho T) (fun _ h => .inl h), World.alloc_heap_new _ _, fun hh => ?_, ?_, rfl⟩
    · have := hlt _ hh; omega
    · exact HI.out.1.1.lt
  case body =>
    rintro l2 T pre x a' W' hpre ⟨v, X, h, hX, hTX, hNX, rfl⟩ hlt
    have hpl : pre.length < xs.length := by
      obtain ⟨r, hr⟩ := hpre
      have := congrArg List.length hr
      simp at this
      omega
    have hc := h.1.1.cell
    obtain ⟨x0, x1, x2⟩ := cells3_at hX
    have HI := Lib.hid h
    clear h hX hpre
    gi_wp2_with (gi_at_builtin; refine wpListIn_append_where _ rfl _ _ 24 rfl w0.heap.size 34 i0 (.agg #[.int .i64 0, .int .i64 0, .bool false]) 3 24 Tryd.underlying24 hi hz0 hz1 hz2 rfl (by decide) _ _ _ rfl (HI.out.2.1.1.alloc _) ⟨W'.heap.size, 0, none⟩ 1 1 [.int .i64 x.1, .int .i64 x.2.1, .bool x.2.2] rfl rfl (cells_new _ _ _) (kCells_one x) (by unfold maxLen; omega) (by omega) (by have := HI.out.2.2.1.size; simp; omega) ?_; intro v' w1 hown' hgrow hwh; obtain ⟨g', cap', rfl⟩ := ownsRow_succ hown'; obtain ⟨hv1, hv2, hr2, hk2, hb2⟩ := HI.out.1.1.appended (by decide) HI.out.2.1.1 HI.out.2.2.1.size hw0N hown' hgrow; have hc1 := hv1.cell; have hf1 := hv1.frozen)
    have hNW := HI.out.1.1.lt
    have hz2 := hk2.size
    have hgn : ¬ T g' ∧ ¬ R g' := by
      rcases hwh with hw | hw
      · exact HI.out.2.1.2 g' (hw ▸ rfl)
      · have := hw g' rfl
        simp at this
        exact ⟨fun hh => by have := HI.out.2.2.2.2 g' hh; omega, fun hh => by have := hRN g' hh; omega⟩
    refine ⟨⟨_, ⟨hv2, HI.out.1.2⟩, ⟨by rw [List.length_append, List.flatMap_append, show [x].flatMap kCells = kCells x from by simp]; exact hr2, fun g hg => ?_⟩, HI.out.2.2.1.trans hb2, HI.out.2.2.2.1, fun k hk => Nat.lt_of_lt_of_le (HI.out.2.2.2.2 k hk) hz2⟩, ⟨hz2, fun k hk hh => ?_⟩⟩
    · obtain rfl : g' = g := by simpa [Value.ownBlock] using hg
      exact hgn
    · have hkN : k ≠ N := by
        rintro rfl
        rcases hh with hh | hh
        · have := hRN _ hh; omega
        · exact HI.out.1.2 hh
      have hkv : some k ≠ v.ownBlock := by
        intro e
        rcases hh with hh | hh
        · exact (HI.out.2.1.2 k e.symm).2 hh
        · exact (HI.out.2.1.2 k e.symm).1 hh
      exact (Below.heap_setCell _ _ _ _ hkN).trans ((hgrow.block k (by simp; omega) hkv).trans (Below.heap_alloc _ _ _ hk))
  case done =>
    rintro D T W' hD hTD ⟨v, h⟩ hK
    have hc := h.1.1.cell
    have HI := Lib.hid h
    have HKD := Lib.hid hK
    clear h hK
    gi_wp2
    refine ⟨by simp, .inl ⟨_, _, rfl, run_takeDeferred HKD.out, ?_⟩⟩
    refine ⟨_, results_tmp rfl _ _ (W'.putObj D (.deferred none)), _, rfl, ownsRow_putObj HI.out.2.1.1 _ HKD.out rfl, OnlyAt.below HI.out.2.2.1 (OnlyAt.putObj (T := fun k => k = D) _ _ _ rfl) HI.out.2.2.1.size ?_⟩
    rintro k rfl
    omega

theorem collect_any (w0 : World) (gf : Nat) (lb : Array Value) (xs : List Tok) (R : Nat → Prop) (w : World) (hB : Below w0.heap.size w0 w) (hR : ∀ k, R k → k < w.heap.size) (hxs : xs.length ≤ 1000000000000)
    (eg : ∀ args w, (callFunc gf args).run Tryd.prog w = .ok (.enter gf args) w)
    (hseq : ∀ W1, OnlyAt (fun _ => False) w W1 → Gives Tryd.prog gf lb tEnc xs R W1) :
    Calls Tryd.prog 18 #[.func (.func gf) #[] lb] w fun e w' => ∃ v, e = .returned v ∧ w'.ownsRow w0.heap.size 34 3 v xs.length (xs.flatMap kCells) ∧ Below w0.heap.size w0 w' := by
  have HC := Lib.hid (append_seq w0 gf lb xs R w hB hR hxs eg hseq)
  clear hB hR hxs eg hseq
  go_enter Tryd.func18, Tryd.ntmps18
  go_wp2_with (go_at_call 24; refine (HC.out).mono ?_; rintro e w1 ⟨v1, rfl, ho1, hb1⟩)
  go_ret
  exact ⟨_, rfl, ho1, hb1⟩

set_option maxHeartbeats 1000000 in
theorem seg_all (v : Value) (rs : List Cls.R3) (s : ByteArray) (w : World) (ht : Cls.Tbl w v rs) (hT : Lib.Utf8Tabs 0 1 w) (hs : s.size ≤ 1000000000000) :
    Calls Tryd.prog 9 #[v, .string s] w fun e w' => ∃ v', e = .returned v' ∧ w'.ownsRow w.heap.size 34 3 v' (segs (Cls.ofT rs) 0 none (units 0 s.data.toList)).length ((segs (Cls.ofT rs) 0 none (units 0 s.data.toList)).flatMap kCells) ∧ Below w.heap.size w w' := by
  have hlen := toks_len rs s
  obtain ⟨A, n, cap, rfl⟩ : ∃ A n cap, v = .slice A n cap := by
    rcases ht with ⟨⟨A, cap, h⟩, _⟩ | ⟨b, off, cap, h, _⟩
    · exact ⟨_, _, _, h⟩
    · exact ⟨_, _, _, h⟩
  have cC : Calls Tryd.prog 18 #[.func (.func 25) #[] #[.pointer (some ⟨w.heap.size, 0, none⟩), .pointer (some ⟨w.heap.size + 1, 0, none⟩)]] ((w.alloc (.cells #[.slice A n cap] 22)).alloc (.cells #[.string s] 9)) fun e w' =>
      ∃ v', e = .returned v' ∧ w'.ownsRow w.heap.size 34 3 v' (segs (Cls.ofT rs) 0 none (units 0 s.data.toList)).length ((segs (Cls.ofT rs) 0 none (units 0 s.data.toList)).flatMap kCells) ∧ Below w.heap.size w w' := by
    have hlb : Boxed ((w.alloc (.cells #[.slice A n cap] 22)).alloc (.cells #[.string s] 9)) w.heap.size 22 (.slice A n cap) := (Boxed.new w _ _).alloc _
    have hsb : Boxed ((w.alloc (.cells #[.slice A n cap] 22)).alloc (.cells #[.string s] 9)) (w.heap.size + 1) 9 (.string s) := by
      have h1 := Boxed.new (w.alloc (.cells #[.slice A n cap] 22)) 9 (.string s)
      simpa only [World.size_alloc] using h1
    have hb : Below w.heap.size w ((w.alloc (.cells #[.slice A n cap] 22)).alloc (.cells #[.string s] 9)) := ((Below.refl _ w).alloc (Nat.le_refl _) _).alloc (by simp) _
    have hsz : ((w.alloc (.cells #[.slice A n cap] 22)).alloc (.cells #[.string s] 9)).heap.size = w.heap.size + 2 := by simp
    revert hlb hsb hb hsz
    generalize ((w.alloc (.cells #[.slice A n cap] 22)).alloc (.cells #[.string s] 9)) = w2
    intro hlb hsb hb hsz
    refine collect_any w _ _ _ (fun k => k < w.heap.size + 2) w2 hb (fun k hk => by omega) (by omega) (enters_of Tryd.func25 (by kernel_rfl) rfl) ?_
    intro W1 ho
    have hz := ho.size
    exact tokens_gives (.slice A n cap) rs s hs w ht hT (w.heap.size + 1) w.heap.size _ W1 ⟨by omega, fun k hk => (ho.block k (by omega) id).trans (hb.block k hk)⟩ (fun k hk => by omega)
      ((ho.block _ (by omega) id).trans hsb) ((ho.block _ (by omega) id).trans hlb) (fun k hk => by omega)
  have HC := Lib.hid cC
  clear cC ht hT hlen
  go_enter Tryd.func9, Tryd.ntmps9
  go_wp2_with (first
    | (go_at_call 19; refine (tokens_call A n cap s _).mono ?_; rintro e w1 ⟨rfl, rfl⟩)
    | (go_at_call 18; refine (HC.out).mono ?_; rintro e w1 ⟨v1, rfl, ho1, hb1⟩))
  go_ret
  exact ⟨_, rfl, ho1, hb1⟩
end Go.Proofs.YtmebboadadlahaaDoor
