/- fold.byLetter by contract: two maps, the first pair that has a letter in each. -/
import Derived.Test.YtfhoffdgbkoffaaDoorFMem
import Derived.Deep.DeepCutAuto
import Derived.Deep.CutRange
import Derived.Shelf.RegionOpen
import Derived.Deep.RegionHeld3
namespace Go.Proofs.YtfhoffdgbkoffaaDoor
open Go Go.RowKit Go.Lib Go.Shelf Go.Maps
attribute [local go_sem] Oper.semAt_some alloc_set

set_option maxHeartbeats 400000 in
theorem back_call (A : Option Addr) (n cap : Nat) (w : World) :
    Calls Tryd.prog 30 #[.slice A n cap] w fun e w' => e = .returned (.func (.func 38) #[] #[.pointer (some ⟨w.heap.size, 0, none⟩)]) ∧ w' = w.alloc (.cells #[.slice A n cap] 24) := by
  go_enter Tryd.func30, Tryd.ntmps30
  go_wp2
  go_ret
  exact ⟨rfl, rfl⟩
theorem make_hint (t : TypeId) {k e : TypeId} (ht : Tryd.prog.underlying t = some (.map k e)) (n : Int) (w : World) : (Instr.makeMap t (some (.int .i64 n))).run Tryd.prog w = .ok (.map (some w.heap.size)) (w.alloc (.map #[] 0)) := by
  simp [Instr.makeMap, run_underlying ht, asInt, asIntOf, Result.andThen]

/-- What lies ready ahead of the range: two maps, the box that holds them, the answer's box. -/
structure Ready (w wx : World) (q a b : Nat) : Prop where
  below : Below w.heap.size w wx
  hq : wx.heap[q]? = some (.cells #[.map (some a), .map (some b)] 52 (0, 0))
  ha : wx.heap[a]? = some (.map #[] 0)
  hb : wx.heap[b]? = some (.map #[] 0)
  res : wx.heap[w.heap.size]? = some (.cells #[.map none, .map none] 52 (0, 0))
  low : w.heap.size < q ∧ w.heap.size < a ∧ w.heap.size < b
  ne : q ≠ a ∧ q ≠ b ∧ a ≠ b
theorem heap_up {w : World} {k : Nat} {o : Obj} (h : w.heap[k]? = some o) (o' : Obj) : (w.alloc o').heap[k]? = some o := (Below.heap_alloc _ _ _ (Array.getElem?_eq_some_iff.1 h).1).trans h
theorem heap_top (w : World) (o : Obj) {k : Nat} (hk : w.heap.size = k) : (w.alloc o).heap[k]? = some o := hk ▸ World.alloc_heap_new w o
theorem four (w : World) (o1 o2 o3 o4 : Obj) : ((((w.alloc o1).alloc o2).alloc o3).alloc o4).drew.heap[w.heap.size]? = some o1 ∧ ((((w.alloc o1).alloc o2).alloc o3).alloc o4).drew.heap[w.heap.size + 1]? = some o2 ∧
    ((((w.alloc o1).alloc o2).alloc o3).alloc o4).drew.heap[w.heap.size + 1 + 1]? = some o3 ∧ ((((w.alloc o1).alloc o2).alloc o3).alloc o4).drew.heap[w.heap.size + 1 + 1 + 1]? = some o4 ∧ Below w.heap.size w ((((w.alloc o1).alloc o2).alloc o3).alloc o4).drew := by
  refine ⟨?_, ?_, ?_, ?_, ((((Below.refl w.heap.size w).alloc (Nat.le_refl _) o1).alloc (by simp) o2).alloc (by simp; omega) o3).alloc (by simp; omega) o4 |>.drew⟩
  · exact heap_up (heap_up (heap_up (heap_top w o1 rfl) o2) o3) o4
  · exact heap_up (heap_up (heap_top (w.alloc o1) o2 (by simp)) o3) o4
  · exact heap_up (heap_top ((w.alloc o1).alloc o2) o3 (by simp)) o4
  · exact heap_top (((w.alloc o1).alloc o2).alloc o3) o4 (by simp)

/-- The maps while the pairs come. -/
structure RQ (w wc : World) (q a b ks kg : Nat) (fs fg : Int → Option Int) (T : Nat → Prop) (W' : World) : Prop where
  small : LetM W' a ks fs
  great : LetM W' b kg fg
  box : W'.heap[q]? = some (.cells #[.map (some a), .map (some b)] 52 (0, 0))
  res : W'.heap[w.heap.size]? = some (.cells #[.map none, .map none] 52 (0, 0))
  below : Below w.heap.size w W'
  new : ∀ k, T k → wc.heap.size ≤ k
variable {w wc : World} {q a b ks kg : Nat} {fs fg : Int → Option Int} {T : Nat → Prop} {W' : World}
theorem Ready.lt (h : Ready w wc q a b) : q < wc.heap.size ∧ a < wc.heap.size ∧ b < wc.heap.size ∧ w.heap.size < wc.heap.size :=
  ⟨(Array.getElem?_eq_some_iff.1 h.hq).1, (Array.getElem?_eq_some_iff.1 h.ha).1, (Array.getElem?_eq_some_iff.1 h.hb).1, (Array.getElem?_eq_some_iff.1 h.res).1⟩
theorem RQ.turn (R : Ready w wc q a b) (h : RQ w wc q a b ks kg fs fg T W') {T2 : Nat → Prop} {V : World} (ho : OnlyAt T W' V) (ht : ∀ k, T2 k → T k ∨ (W'.heap.size ≤ k ∧ k < V.heap.size)) (hs : wc.heap.size ≤ W'.heap.size) : RQ w wc q a b ks kg fs fg T2 V := by
  obtain ⟨l1, l2, l3, l4⟩ := R.lt
  have key : ∀ z, z < wc.heap.size → V.heap[z]? = W'.heap[z]? := fun z hz => ho.block z (by omega) (fun hh => by have := h.new z hh; omega)
  refine ⟨h.small.same (key a l2), h.great.same (key b l3), (key q l1).trans h.box, (key _ l4).trans h.res, OnlyAt.below h.below ho h.below.size (fun k hk => by have := h.new k hk; omega), fun k hk => ?_⟩
  rcases ht k hk with h1 | h1
  · exact h.new k h1
  · omega
theorem RQ.left (R : Ready w wc q a b) (h : RQ w wc q a b ks kg fs fg T W') {V : World} {k2 : Nat} {f2 : Int → Option Int} (hm : LetM V a k2 f2) (hg : W'.grownBy V (some a)) : RQ w wc q a b k2 kg f2 fg T V := by
  have hne := R.ne
  have hl := R.low
  have key : ∀ z, z < W'.heap.size → z ≠ a → V.heap[z]? = W'.heap[z]? := fun z hz hn => hg.block z hz (fun e => hn (by injection e))
  refine ⟨hm, h.great.same (key b h.great.lt (fun e => hne.2.2 e.symm)), (key q (Array.getElem?_eq_some_iff.1 h.box).1 hne.1).trans h.box, (key _ (Array.getElem?_eq_some_iff.1 h.res).1 (by omega)).trans h.res, ?_, h.new⟩
  exact OnlyAt.below h.below (OnlyAt.of_grown (T := fun z => z = a) hg (fun z e => by injection e with e; exact e.symm)) h.below.size (fun z e => by subst e; omega)
theorem RQ.right (R : Ready w wc q a b) (h : RQ w wc q a b ks kg fs fg T W') {V : World} {k2 : Nat} {f2 : Int → Option Int} (hm : LetM V b k2 f2) (hg : W'.grownBy V (some b)) : RQ w wc q a b ks k2 fs f2 T V := by
  have hne := R.ne
  have hl := R.low
  have key : ∀ z, z < W'.heap.size → z ≠ b → V.heap[z]? = W'.heap[z]? := fun z hz hn => hg.block z hz (fun e => hn (by injection e))
  refine ⟨h.small.same (key a h.small.lt hne.2.2), hm, (key q (Array.getElem?_eq_some_iff.1 h.box).1 hne.2.1).trans h.box, (key _ (Array.getElem?_eq_some_iff.1 h.res).1 (by omega)).trans h.res, ?_, h.new⟩
  exact OnlyAt.below h.below (OnlyAt.of_grown (T := fun z => z = b) hg (fun z e => by injection e with e; exact e.symm)) h.below.size (fun z e => by subst e; omega)
theorem RQ.start (R : Ready w wc q a b) : RQ w wc q a b 0 0 (fun _ => none) (fun _ => none) (fun _ => False) wc :=
  ⟨LetM.made R.ha, LetM.made R.hb, R.hq, R.res, R.below, fun _ h => h.elim⟩
theorem RQ.boxc (h : RQ w wc q a b ks kg fs fg T W') : W'.cell? ⟨q, 0, none⟩ = some (.map (some a)) ∧ W'.cell? ⟨q, 1, none⟩ = some (.map (some b)) := by
  have h1 := h.box
  refine ⟨?_, ?_⟩ <;> simp [World.cell?, h1]
theorem set_at {w : World} {k : Nat} {cs : Array Value} {t : TypeId} {fr : Nat × Nat} (h : w.heap[k]? = some (.cells cs t fr)) (i : Nat) (v : Value) : (w.setCell ⟨k, i, none⟩ v).heap[k]? = some (.cells (cs.setIfInBounds i v) t fr) := by
  have hlt := (Array.getElem?_eq_some_iff.1 h).1
  have hv := (Array.getElem?_eq_some_iff.1 h).2
  simp [World.setCell, Array.getElem?_modify, h]
theorem Tryd.infoP52 : (Tryd.prog.info? 52).map (·.size) = some 2 := by kernel_rfl

set_option maxRecDepth 100000 in
set_option maxHeartbeats 4000000 in
theorem letters_any (w : World) (v : Value) (ps : List (Int × Int)) (h : PairsAt w v ps) (hn : ps.length ≤ 1000000) (hin : ∀ p ∈ ps, I64 p.1 ∧ I64 p.2) :
    Calls Tryd.prog 16 #[v] w fun e w' => ∃ a b, e = .returned (.agg #[.map (some a), .map (some b)]) ∧ TwoM w' a b ps.length ps ∧ Below w.heap.size w w' := by
  obtain ⟨A, cap, rfl⟩ := pairs_form h
  have HP := Lib.hid h
  have HI := Lib.hid hin
  have hmm := make_hint 50 Tryd.underlying50
  clear h hin
  refine (callsIn_wide (n := 6)).1 ?_
  refine callsIn_of_wp_marks Tryd.func16 rfl trivial ?_ rfl
  obtain ⟨n, hnn⟩ : ∃ n, n = ps.length := ⟨_, rfl⟩
  rw [← hnn] at HP hn ⊢
  have HN := Lib.hid hnn
  clear hnn
  simp only [Tryd.ntmps16, List.size_toArray, List.length_cons, List.length_nil, Nat.reduceAdd, Nat.reduceSub, Array.replicate_succ, Array.replicate_zero, List.push_toArray, List.append_toArray, List.nil_append, List.cons_append]
  gi_upto_region 1 with fail
  gi_cut [3] from 6 (fun p wx => ∃ q a b, p = .pointer (some ⟨q, 0, none⟩) ∧ Hid (Ready w wx q a b))
  case first =>
    refine wpIn_wide.2 (wp_region_noPanic ?_)
    go_region
    all_goals
      refine NoPanic.normal ?_
      rename_i J K hJ hK
      obtain ⟨h0, h1, h2, h3, hb⟩ := four w _ _ _ _
      refine hK _ _ (Met.intro (hJ _ _ ?_))
      repeat apply Exists.intro
      refine ⟨?_, rfl⟩
      first
        | refine ⟨_, _, _, rfl, Lib.hid ⟨hb, h3, h1, h2, h0, ?_, ?_⟩⟩
        | refine ⟨_, _, _, rfl, Lib.hid ⟨hb, h3, h2, h1, h0, ?_, ?_⟩⟩
        | refine ⟨_, _, _, rfl, Lib.hid ⟨hb, h2, h1, h3, h0, ?_, ?_⟩⟩
        | refine ⟨_, _, _, rfl, Lib.hid ⟨hb, h2, h3, h1, h0, ?_, ?_⟩⟩
        | refine ⟨_, _, _, rfl, Lib.hid ⟨hb, h1, h2, h3, h0, ?_, ?_⟩⟩
        | refine ⟨_, _, _, rfl, Lib.hid ⟨hb, h1, h3, h2, h0, ?_, ?_⟩⟩
      all_goals omega
  case rest =>
    obtain ⟨q, a, b, rfl, HR⟩ := hcut
    clear hmm
    gi_wp2_with (refine ⟨trivial, ?_⟩; gi_at_call 30; refine (callsIn_wide.2 (back_call A n cap _)).mono ?_; rintro e w1 ⟨rfl, rfl⟩)
    obtain ⟨N, hN⟩ : ∃ N, N = wc.heap.size := ⟨_, rfl⟩
    have ho3 : OnlyAt (fun _ => False) wc (wc.alloc (.cells #[.slice A n cap] 24)) := OnlyAt.alloc _ _ _
    have hbx : Boxed (wc.alloc (.cells #[.slice A n cap] 24)) wc.heap.size 24 (.slice A n cap) := Boxed.new wc _ _
    have hsz : (wc.alloc (.cells #[.slice A n cap] 24)).heap.size = wc.heap.size + 1 := by simp
    rw [← hN] at hbx hsz ⊢
    generalize wc.alloc (.cells #[.slice A n cap] 24) = W3 at ho3 hbx hsz ⊢
    have hbw : Below w.heap.size w W3 := OnlyAt.below HR.out.below ho3 HR.out.below.size (fun _ h => h.elim)
    have hst := (RQ.start HR.out).turn HR.out ho3 (fun _ h => h.elim) (Nat.le_refl _) (T2 := fun _ => False)
    have HS := Lib.hid (And.intro hN (And.intro hsz (And.intro hbx (And.intro hbw (And.intro ho3 hst)))))
    clear hN ho3 hbx hsz hbw hst
    have HLT := Lib.hid HR.out.lt
    refine wpIn_gives (R := fun k => k < w.heap.size ∨ k = N) (gf := 38) (lb := #[.pointer (some ⟨N, 0, none⟩)]) rfl (enters_of Tryd.func38 (by kernel_rfl) rfl) (by omega) (encs := pEnc) (xs := downE ps n)
      (fun W1 ho => ?gives) (fun _ => rfl) (by have := HS.out.1; have := HS.out.2.1; have := HLT.out.2.2.2; rintro k (hk | rfl) <;> omega)
      (fun T pre W => RQ w wc q a b pre.length pre.length (sml (cameP pre)) (grt (cameP pre)) T W ∧ N + 1 ≤ W.heap.size)
      ?stab ⟨HS.out.2.2.2.2.2, by have := HS.out.2.1; omega⟩
      (fun T pre x a' W => ∃ g, (RQ w wc q a b pre.length pre.length (sml (cameP pre)) (grt (cameP pre)) T W ∧ N + 1 ≤ W.heap.size) ∧ (W.heap[g]? = some (.cells #[.int .i64 x.2.1, .int .i64 x.2.2] 37 (0, 0)) ∧ N + 1 ≤ g ∧ ¬ T g) ∧
        a' = { tmps := #[.slice A n cap, undef, .pointer (some ⟨w.heap.size, 0, none⟩), .pointer (some ⟨q, 0, none⟩), undef, .pointer (some ⟨g, 0, none⟩), u6, u7, u8, u9, u10, u11, u12, .slice A n cap, .func (.func 38) #[] #[.pointer (some ⟨N, 0, none⟩)],
          .int .i64 x.1, .agg #[.int .i64 x.2.1, .int .i64 x.2.2], u17, u18, u19, u20, u21, u22, u23, u24, u25, u26, u27, u28, u29], defers := [] })
      ?staba ?assign ?body ?done
    case gives =>
      have hpw : PairsAt W1 (.slice A n cap) ps := HP.out.keep (OnlyAt.below HS.out.2.2.2.1 ho HS.out.2.2.2.1.size (fun _ h => h.elim))
      have hbB : Boxed W1 N 24 (.slice A n cap) := (ho.block N (by have := HS.out.2.1; omega) id).trans HS.out.2.2.1
      have hA : ∀ z off, ps ≠ [] → A = some ⟨z, off, none⟩ → z < w.heap.size ∨ z = N := by
        rintro z off hne rfl
        rcases ps with _ | ⟨p, t⟩
        · exact absurd rfl hne
        · obtain ⟨b2, off2, e, hlt, _⟩ := fpairs_open HP.out 0 p rfl
          simp only [Option.some.injEq, Addr.mk.injEq, and_true] at e
          left; omega
      have hnn := HN.out
      subst hnn
      exact back_gives A cap ps hn N (fun k => k < w.heap.size ∨ k = N) W1 hbB hpw (.inr rfl) hA
    case stab =>
      rintro T T' pre U V ⟨h, hz⟩ ho ht
      exact ⟨h.turn HR.out ho ht (by have := HS.out.1; omega), by have := ho.size; omega⟩
    case staba =>
      rintro pre x a' T T' _ U V ⟨g, ⟨h, hz⟩, ⟨hg, hg1, hg2⟩, ha⟩ ho ht
      have hlt := (Array.getElem?_eq_some_iff.1 hg).1
      refine ⟨g, ⟨h.turn HR.out ho ht (by have := HS.out.1; omega), by have := ho.size; omega⟩, ⟨(ho.block g hlt hg2).trans hg, hg1, fun hh => ?_⟩, ha⟩
      rcases ht g hh with h1 | h1
      · exact hg2 h1
      · omega
    case assign =>
      rintro l2 T pre x W' K hpre ⟨hi, hz⟩ hlt hK
      have HI2 := Lib.hid hi
      have HLT2 := Lib.hid hlt
      clear hi hlt
      simp only [pEnc]
      gi_wp2
      refine hK _ _ (OnlyAt.alloc _ _ _) ⟨W'.heap.size, ⟨HI2.out.turn HR.out (OnlyAt.alloc _ _ _) (fun k hk => .inl hk) (by have := HS.out.1; omega), by simp; omega⟩, ⟨World.alloc_heap_new _ _, by omega, fun hh => ?_⟩, rfl⟩
      have := HLT2.out _ hh
      omega
    case body =>
      rintro l2 T pre x a' W' hpre ⟨g, ⟨h, hz⟩, ⟨hg, hg1, hg2⟩, rfl⟩ hlt
      obtain ⟨l1, l2', l3, l4⟩ := HLT.out
      have hN := HS.out.1
      have hlen : pre.length < n := by
        obtain ⟨r, hr⟩ := hpre
        have := congrArg List.length hr
        rw [downE_len] at this
        simp at this
        omega
      have hxm : x ∈ downE ps n := hpre.subset (by simp)
      have hxi := HI.out x.2 (downE_mem ps n (by have := HN.out; omega) x hxm)
      have hglt := (Array.getElem?_eq_some_iff.1 hg).1
      obtain ⟨W4, hr4, hm4, hg4⟩ := h.small.put (c := x.2.1) (d := x.2.2) hxi.1 hxi.2 (by unfold maxLen; omega)
      have h4 := h.left HR.out hm4 hg4
      have hgb : W4.heap[g]? = some (.cells #[.int .i64 x.2.1, .int .i64 x.2.2] 37 (0, 0)) := (hg4.block g hglt (fun e => by injection e; omega)).trans hg
      obtain ⟨W5, hr5, hm5, hg5⟩ := h4.great.put (c := x.2.2) (d := x.2.1) hxi.2 hxi.1 (by unfold maxLen; omega)
      have h5 := h4.right HR.out hm5 hg5
      obtain ⟨q0, q1⟩ := h.boxc
      obtain ⟨p0, p1⟩ := h4.boxc
      have e0 : W'.cell? ⟨g, 0, none⟩ = some (.int .i64 x.2.1) := by simp [World.cell?, hg]
      have e1 : W'.cell? ⟨g, 1, none⟩ = some (.int .i64 x.2.2) := by simp [World.cell?, hg]
      have f0 : W4.cell? ⟨g, 0, none⟩ = some (.int .i64 x.2.1) := by simp [World.cell?, hgb]
      have f1 : W4.cell? ⟨g, 1, none⟩ = some (.int .i64 x.2.2) := by simp [World.cell?, hgb]
      have hend : (RQ w wc q a b (pre.length + 1) (pre.length + 1) (sml (cameP (pre ++ [x]))) (grt (cameP (pre ++ [x]))) T W5 ∧ N + 1 ≤ W5.heap.size) ∧ KeepsAt (fun k => (k < w.heap.size ∨ k = N) ∨ T k) W' W5 := by
        have hs4 := hg4.size
        have hs5 := hg5.size
        refine ⟨⟨?_, by omega⟩, ⟨by omega, fun k hk hr => ?_⟩⟩
        · rw [cameP_snoc, show sml (x.2 :: cameP pre) = fun y => if y = x.2.1 then some x.2.2 else sml (cameP pre) y from funext (sml_cons _ _), show grt (x.2 :: cameP pre) = fun y => if y = x.2.2 then some x.2.1 else grt (cameP pre) y from funext (grt_cons _ _)]
          exact h5
        · have hlow := HR.out.low
          have hka : k ≠ a ∧ k ≠ b := by
            rcases hr with (hr | hr) | hr
            · omega
            · omega
            · have := h.new k hr; omega
          exact (hg5.block k (by omega) (fun e => hka.2 (by injection e))).trans (hg4.block k hk (fun e => hka.1 (by injection e)))
      have HE := Lib.hid hend
      clear h h4 h5 hm4 hm5 hg4 hg5 hend hxi hxm hpre hgb hlt hg hg2 hz hN l1 l2' l3 l4
      gi_wp2
      exact HE.out
    case done =>
      rintro D T W' hD hTD ⟨h, hz⟩ hK
      obtain ⟨q0, q1⟩ := h.boxc
      have hpre : cameP (downE ps n) = ps := by
        rw [cameP_all ps n (by have := HN.out; omega), List.take_of_length_le (by have := HN.out; omega)]
      rw [downE_len, hpre] at h
      have r0 : W'.heap[w.heap.size]? = some (.cells #[.map none, .map none] 52 (0, 0)) := h.res
      have c0 : W'.cell? ⟨w.heap.size, 0, none⟩ = some (.map none) := by simp [World.cell?, r0]
      have c1 : W'.cell? ⟨w.heap.size, 1, none⟩ = some (.map none) := by simp [World.cell?, r0]
      have z0 : W'.frozen? ⟨w.heap.size, 0, none⟩ = false := Lib.frozen_of_heap r0 0
      have z1 : W'.frozen? ⟨w.heap.size, 1, none⟩ = false := Lib.frozen_of_heap r0 1
      have HH := Lib.hid h
      have HKD := Lib.hid hK
      clear h hK r0 hpre
      gi_wp2
      obtain ⟨l1, l2, l3, l4⟩ := HLT.out
      have hN := HS.out.1
      have hs3 := HS.out.2.1
      have hlow := HR.out.low
      obtain ⟨W2, hW2⟩ : ∃ W2, W2 = (W'.setCell ⟨w.heap.size, 0, none⟩ (.map (some a))).setCell ⟨w.heap.size, 1, none⟩ (.map (some b)) := ⟨_, rfl⟩
      have hother : ∀ k, k ≠ w.heap.size → W2.heap[k]? = W'.heap[k]? := fun k hk => by
        rw [hW2]
        exact (Below.heap_setCell _ _ _ _ hk).trans (Below.heap_setCell _ _ _ _ hk)
      have hres : W2.heap[w.heap.size]? = some (.cells #[.map (some a), .map (some b)] 52 (0, 0)) := by
        have h1 := set_at HH.out.res 0 (.map (some a))
        have h2 := set_at h1 1 (.map (some b))
        rw [hW2]
        exact h2
      have hb2 : Below w.heap.size w W2 := by
        rw [hW2]
        exact (HH.out.below.setCell (p := ⟨w.heap.size, 0, none⟩) (Nat.le_refl _) _).setCell (p := ⟨w.heap.size, 1, none⟩) (Nat.le_refl _) _
      have hD2 : W2.heap[D]? = some (.deferred (some [])) := (hother D (by omega)).trans HKD.out
      have hsm : LetM W2 a n (sml ps) := HH.out.small.same (hother a (by omega))
      have hgr : LetM W2 b n (grt ps) := HH.out.great.same (hother b (by omega))
      rw [← hW2]
      have hput : ∀ k, k ≠ D → (W2.putObj D (.deferred none)).heap[k]? = W2.heap[k]? := fun k hk => World.putObj_heap_other hk
      refine ⟨by simp, .inl ⟨_, _, rfl, run_takeDeferred hD2, ?_⟩⟩
      refine ⟨_, results_cell_row rfl _ _ w.heap.size 52 _ (0, 0) _ rfl ((hput _ (by omega)).trans hres) Tryd.underlying52 rfl Tryd.infoP52, a, b, rfl, ⟨hsm.same (hput a (by omega)), hgr.same (hput b (by omega))⟩, ?_⟩
      exact OnlyAt.below hb2 (OnlyAt.putObj (T := fun k => k = D) _ _ _ rfl) hb2.size (fun k hk => by subst hk; omega)
end Go.Proofs.YtfhoffdgbkoffaaDoor
