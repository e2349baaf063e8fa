/- An automaton that is done, in memory; States, Start, is, Final by contract; leaving: an iterator over the arcs of a state. -/
import Derived.Test.YtkabdieenijnlaaIMem
import Derived.Test.YtkabdieenijnlaaZStops
import Derived.RangeFuncBox
import Derived.Shelf.Abstract
import Derived.Shelf.RegionOpen
import Derived.OwnWalkIn
import Derived.TacticsInMore
import Derived.LoopNIn
import Derived.LoopIn
import Derived.Deep.RegionHeld3
namespace Go.Proofs.Ytkabdieenijnlaa
open Go Go.RowKit Go.Lib Go.Shelf
attribute [local go_sem] Oper.semAt_some alloc_set

structure AutoAt (w : World) (p : Nat) (g : GA) (st : Nat) : Prop where
  ok : g.Ok
  mem : ∃ A c A' c', w.cell? ⟨p, 0, none⟩ = some (.slice A g.nodes.length c) ∧ w.cell? ⟨p, 1, none⟩ = some (.slice A' g.arcs.length c') ∧ w.cell? ⟨p, 2, none⟩ = some (.int .i64 st) ∧
    (∀ (k : Nat) x, g.nodes[k]? = some x → ∃ q, A = some ⟨q, 0, none⟩ ∧ g.nodes.length ≤ c ∧ w.cell? ⟨q, k * 2, none⟩ = some (.bool x.1) ∧ w.cell? ⟨q, k * 2 + 1, none⟩ = some (.int .i32 ((x.2 : Int) - 1))) ∧
    ∀ (k : Nat) x, g.arcs[k]? = some x → ∃ q, A' = some ⟨q, 0, none⟩ ∧ g.arcs.length ≤ c' ∧ w.cell? ⟨q, k * 3, none⟩ = some (.int .u8 x.1.toNat) ∧ w.cell? ⟨q, k * 3 + 1, none⟩ = some (.int .i32 x.2.1) ∧ w.cell? ⟨q, k * 3 + 2, none⟩ = some (.int .i32 ((x.2.2 : Int) - 1))
  st : st < g.nodes.length
  bd : g.nodes.length ≤ 1000000000 ∧ g.arcs.length ≤ 1000000000
theorem AutoAt.cells {w w' : World} {p : Nat} {g : GA} {st : Nat} (h : AutoAt w p g st) (hc : ∀ a v, w.cell? a = some v → w'.cell? a = some v) : AutoAt w' p g st := by
  obtain ⟨A, c, A', c', h1, h2, h3, h4, h5⟩ := h.mem
  refine ⟨h.ok, ⟨A, c, A', c', hc _ _ h1, hc _ _ h2, hc _ _ h3, fun k x hx => ?_, fun k x hx => ?_⟩, h.st, h.bd⟩
  · obtain ⟨q, e1, e2, e3, e4⟩ := h4 k x hx
    exact ⟨q, e1, e2, hc _ _ e3, hc _ _ e4⟩
  · obtain ⟨q, e1, e2, e3, e4, e5⟩ := h5 k x hx
    exact ⟨q, e1, e2, hc _ _ e3, hc _ _ e4, hc _ _ e5⟩
theorem AutoAt.keep {w w' : World} {p : Nat} {g : GA} {st : Nat} (h : AutoAt w p g st) (hb : Below w.heap.size w w') : AutoAt w' p g st :=
  h.cells fun _a _v ha => (cell_old hb (World.block_lt_of_cell? _ _ ha)).trans ha
/-- A state's arcs. -/
def GA.out (g : GA) (s : Int) : List (UInt8 × Nat × Nat) := if 0 ≤ s then (match g.nodes[s.toNat]? with | some x => g.chain x.2 | .none => []) else []
/-- Is there such a state? -/
def GA.has (g : GA) (s : Int) : Bool := decide (0 ≤ s ∧ s < g.nodes.length)
def GA.fin (g : GA) (s : Int) : Bool := if 0 ≤ s then (match g.nodes[s.toNat]? with | some x => x.1 | .none => false) else false

theorem states_any (w : World) (p : Nat) (g : GA) (st : Nat) (h : AutoAt w p g st) : Calls Try.prog 14 #[.pointer (some ⟨p, 0, none⟩)] w fun e w' => e = .returned (.int .i64 g.nodes.length) ∧ w' = w := by
  obtain ⟨A, c, A', c', h1, -⟩ := h.mem
  clear h
  go_enter Try.func14, Try.ntmps14
  go_wp2
  go_ret
  exact ⟨rfl, rfl⟩
theorem start_any (w : World) (p : Nat) (g : GA) (st : Nat) (h : AutoAt w p g st) : Calls Try.prog 18 #[.pointer (some ⟨p, 0, none⟩)] w fun e w' => e = .returned (.int .i64 st) ∧ w' = w := by
  obtain ⟨A, c, A', c', -, -, h1, -⟩ := h.mem
  clear h
  go_enter Try.func18, Try.ntmps18
  go_wp2
  go_ret
  exact ⟨rfl, rfl⟩
theorem is_any (w : World) (p : Nat) (g : GA) (st : Nat) (h : AutoAt w p g st) (s : Int) : Calls Try.prog 35 #[.pointer (some ⟨p, 0, none⟩), .int .i64 s] w fun e w' => e = .returned (.bool (g.has s)) ∧ w' = w := by
  obtain ⟨A, c, A', c', h1, -⟩ := h.mem
  obtain ⟨n, hn⟩ : ∃ n, n = g.nodes.length := ⟨_, rfl⟩
  rw [← hn] at h1
  obtain ⟨R, hR⟩ : ∃ R, R = g.has s := ⟨_, rfl⟩
  rw [← hR]
  have hR' : R = decide (0 ≤ s ∧ s < n) := by rw [hR, hn]; rfl
  have HR := Lib.hid hR'
  clear h hn hR hR'
  by_cases h0 : 0 ≤ s
  · by_cases h2 : s < n
    · have e : R = true := by rw [HR.out]; exact decide_eq_true ⟨h0, h2⟩
      subst e
      go_enter Try.func35, Try.ntmps35
      go_wp2
      go_ret
      exact ⟨rfl, rfl⟩
    · have e : R = false := by rw [HR.out]; exact decide_eq_false (fun hh => h2 hh.2)
      subst e
      go_enter Try.func35, Try.ntmps35
      go_wp2
      go_ret
      exact ⟨rfl, rfl⟩
  · have e : R = false := by rw [HR.out]; exact decide_eq_false (fun hh => h0 hh.1)
    subst e
    go_enter Try.func35, Try.ntmps35
    go_wp2
    go_ret
    exact ⟨rfl, rfl⟩
set_option maxHeartbeats 1000000 in
theorem final_any (w : World) (p : Nat) (g : GA) (st : Nat) (h : AutoAt w p g st) (s : Int) : Calls Try.prog 23 #[.pointer (some ⟨p, 0, none⟩), .int .i64 s] w fun e w' => e = .returned (.bool (g.fin s)) ∧ w' = w := by
  have CI := Lib.hid (is_any w p g st h s)
  obtain ⟨A, c, A', c', h1, -, -, h4, -⟩ := h.mem
  by_cases hs : 0 ≤ s ∧ s < g.nodes.length
  · obtain ⟨x, hx⟩ : ∃ x, g.nodes[s.toNat]? = some x := ⟨_, List.getElem?_eq_getElem (by omega)⟩
    obtain ⟨q, rfl, hc, c0, -⟩ := h4 _ x hx
    have ef : g.fin s = x.1 := by unfold GA.fin; rw [if_pos hs.1, hx]
    rw [ef]
    have eh : g.has s = true := decide_eq_true hs
    rw [eh] at CI
    obtain ⟨n, hn⟩ : ∃ n, n = g.nodes.length := ⟨_, rfl⟩
    rw [← hn] at h1 hc hs
    obtain ⟨s0, s1⟩ := hs
    obtain ⟨k, rfl⟩ : ∃ k : Nat, s = k := ⟨s.toNat, by omega⟩
    rw [Int.toNat_natCast] at c0
    clear h h4 hx ef eh hn
    go_enter Try.func23, Try.ntmps23
    go_wp2_with (go_at_call 35; refine CI.out.mono ?_; rintro e w2 ⟨rfl, rfl⟩)
    go_ret
    exact ⟨rfl, rfl⟩
  · have ef : g.fin s = false := by
      unfold GA.fin
      split
      · rw [List.getElem?_eq_none (by omega)]
      · rfl
    rw [ef]
    have eh : g.has s = false := decide_eq_false hs
    rw [eh] at CI
    clear h h4 ef eh hs h1
    go_enter Try.func23, Try.ntmps23
    go_wp2_with (go_at_call 35; refine CI.out.mono ?_; rintro e w2 ⟨rfl, rfl⟩)
    go_ret
    exact ⟨rfl, rfl⟩
theorem leaving_call (a : Option Addr) (s : Int) (w : World) : Calls Try.prog 34 #[.pointer a, .int .i64 s] w fun e w' => e = .returned (.func (.func 40) #[] #[.pointer (some ⟨w.heap.size, 0, none⟩), .pointer (some ⟨w.heap.size + 1, 0, none⟩)]) ∧ w' = (w.alloc (.cells #[.pointer a] 25)).alloc (.cells #[.int .i64 s] 3) := by
  go_enter Try.func34, Try.ntmps34
  go_wp2
  go_ret
  exact ⟨rfl, rfl⟩
/-- What an iterator over arcs hands over. -/
def aEnc (x : UInt8 × Nat × Nat) : Array Value := #[.agg #[.int .u8 x.1.toNat, .int .i32 x.2.1, .int .i32 ((x.2.2 : Int) - 1)]]
theorem cell_kept {R : Nat → Prop} {W W' : World} (h : KeepsAt R W W') {a : Addr} {v : Value} (hv : W.cell? a = some v) (hr : R a.block) : W'.cell? a = some v := by
  refine Eq.trans ?_ hv
  unfold World.cell?
  rw [h.block _ (World.block_lt_of_cell? _ _ hv) hr]

set_option maxRecDepth 100000 in
set_option maxHeartbeats 2000000 in
theorem leaving_stops (p : Nat) (g : GA) (st : Nat) (s : Int) (b1 b2 : Nat) (R : Nat → Prop) (W : World) (hdat : ∀ W', KeepsAt R W W' → AutoAt W' p g st ∧ W'.cell? ⟨b1, 0, none⟩ = some (.pointer (some ⟨p, 0, none⟩)) ∧ W'.cell? ⟨b2, 0, none⟩ = some (.int .i64 s)) (hRlt : ∀ k, R k → k < W.heap.size) :
    Stops Try.prog 40 #[.pointer (some ⟨b1, 0, none⟩), .pointer (some ⟨b2, 0, none⟩)] aEnc (fun pre x => (pre ++ [x]) <+: g.out s) (fun xs => xs = g.out s) R W := by
  intro l J Jx hJ hJx hY hJ0
  have hok := (hdat W (KeepsAt.refl _ _)).1.ok
  have HY := Lib.hid hY
  have HJ := Lib.hid hJ
  have HJX := Lib.hid hJx
  have HJ0 := Lib.hid hJ0
  have HD := Lib.hid hdat
  have HRlt := Lib.hid hRlt
  obtain ⟨ha0, c1, c2⟩ := hdat W (KeepsAt.refl _ _)
  have CI := Lib.hid (is_any W p g st ha0 s)
  have HA0 := Lib.hid ha0
  clear hY hJ hJx hJ0 hdat hRlt ha0
  refine (callsIn_wide (n := 6)).1 ?_
  refine callsIn_of_wp Try.func40 rfl trivial ?_ rfl
  simp only [Try.ntmps40, List.size_toArray, List.length_cons, List.length_nil, Nat.reduceAdd, Nat.reduceSub, Array.replicate_succ, Array.replicate_zero, List.push_toArray, List.append_toArray, List.nil_append, List.cons_append]
  by_cases hs : 0 ≤ s ∧ s < g.nodes.length
  · obtain ⟨x, hx⟩ : ∃ x, g.nodes[s.toNat]? = some x := ⟨_, List.getElem?_eq_getElem (by omega)⟩
    have eo : g.out s = g.chain x.2 := by unfold GA.out; rw [if_pos hs.1, hx]
    have eh : g.has s = true := decide_eq_true hs
    rw [eh] at CI
    obtain ⟨A, c, A', c', h1, h2, h3, h4, h5⟩ := HA0.out.mem
    obtain ⟨q, rfl, hc, -, cf⟩ := h4 _ x hx
    obtain ⟨s0, s1⟩ := hs
    obtain ⟨k, rfl⟩ : ∃ k : Nat, s = k := ⟨s.toNat, by omega⟩
    rw [Int.toNat_natCast] at cf hx
    obtain ⟨n, hn⟩ : ∃ n, n = g.nodes.length := ⟨_, rfl⟩
    rw [← hn] at h1 hc s1
    obtain ⟨i0, hi0⟩ : ∃ i0, i0 = (x.2 : Int) - 1 := ⟨_, rfl⟩
    rw [← hi0] at cf
    have HX := Lib.hid (And.intro hx (And.intro eo (And.intro hi0 hok)))
    clear h2 h3 h4 h5 hx eo eh hn hi0 hok HA0
    gi_wp2_with (refine ⟨trivial, ?_⟩; gi_at_call 35; refine (callsIn_wide.2 CI.out).mono ?_; rintro e w2 ⟨rfl, rfl⟩)
    refine wpIn_wide.2 (wp_region_noPanic ?_)
    go_region
    refine NoPanic.normal ?_
    have HJ1 := Lib.hid (HJ.out.same HJ0.out (OnlyAt.drew (fun _ => False) w2))
    have HK1 := Lib.hid (show KeepsAt R w2 w2.drew from ⟨Nat.le_refl _, fun _ _ _ => rfl⟩)
    clear h1 cf c1 c2 CI HJ0
    generalize w2.drew = w3 at *
    gi_wp2
    gi_loopw [4] (fun v wr => ∃ (i : Nat) (z : Int) (pre : List (UInt8 × Nat × Nat)) (T : Nat → Prop), v = .int .i32 z ∧ Hid (z = (i : Int) - 1 ∧ (∃ L, ([] :: g.A)[i]? = some L) ∧ g.out k = pre ++ g.chain i ∧ J T pre wr ∧ (∀ k, T k → k < wr.heap.size) ∧ KeepsAt R w2 wr))
      (fun v _ => (RowKit.intOf v + 1).toNat)
    case atStart =>
      obtain ⟨hx, eo, hi0, hok⟩ := HX.out
      obtain ⟨L, hL, -⟩ := hok.node k x.1 x.2 hx
      exact ⟨x.2, i0, [], _, rfl, Lib.hid ⟨hi0, ⟨L, hL⟩, eo, HJ1.out, fun _ h => h.elim, HK1.out⟩⟩
    case round =>
      obtain ⟨i, z, pre, T, rfl, HQ⟩ := hrel
      clear HJ1 HK1
      obtain ⟨hz, ⟨L, hL⟩, hout, hj, hTlt, hkeep⟩ := HQ.out
      obtain ⟨ha, c1, c2⟩ := HD.out wr hkeep
      cases i with
      | zero =>
        obtain rfl : z = -1 := by omega
        rw [chain_zero, List.append_nil] at hout
        have HE := Lib.hid (And.intro hout hj)
        clear hz hL hout hj hTlt hkeep ha c1 c2
        gi_wp2
        go_end0
        exact ⟨⟨_, rfl⟩, T, pre, .inl ⟨HE.out.1.symm, HE.out.2⟩⟩
      | succ m =>
        obtain rfl : z = (m : Int) := by omega
        have hok := HX.out.2.2.2
        rw [List.getElem?_cons_succ] at hL
        have hm : m < g.arcs.length := by rw [hok.al]; exact (List.getElem?_eq_some_iff.1 hL).1
        obtain ⟨⟨c9, t9, n9⟩, hg⟩ : ∃ y, g.arcs[m]? = some y := ⟨_, List.getElem?_eq_getElem hm⟩
        obtain ⟨M9, L9, e1, e2, e3, e4, e5, e6⟩ := hok.arc m c9 t9 n9 hg
        rw [chain_succ hok hg] at hout
        obtain ⟨A, ca, A', ca', -, h2, -, -, h5⟩ := ha.mem
        obtain ⟨q', rfl, hc', r0, r1, r2⟩ := h5 _ _ hg
        obtain ⟨na, hna⟩ : ∃ na, na = g.arcs.length := ⟨_, rfl⟩
        rw [← hna] at h2 hc' hm
        dsimp only at r0 r1 r2
        have m0 : (0 : Int) ≤ m := by omega
        have m1 : (m : Int) < na := by omega
        have hba : Below wr.heap.size wr (wr.alloc (.cells #[.int .u8 c9.toNat, .int .i32 t9, .int .i32 ((n9 : Int) - 1)] 62)) := (Below.refl _ _).alloc (Nat.le_refl _) _
        have hbx := World.alloc_heap_new wr (.cells #[.int .u8 c9.toNat, .int .i32 t9, .int .i32 ((n9 : Int) - 1)] 62)
        have hj9 : J (fun k => T k ∨ k = wr.heap.size) pre (wr.alloc (.cells #[.int .u8 c9.toNat, .int .i32 t9, .int .i32 ((n9 : Int) - 1)] 62)) := HJ.out _ _ _ _ _ hj (OnlyAt.of_below hba) (fun k hk => hk.imp id fun e => ⟨by omega, by rw [World.size_alloc]; omega⟩)
        have hpre : (pre ++ [(c9, t9, n9)]) <+: g.out k := ⟨g.chain n9, by rw [hout]; simp⟩
        obtain ⟨fn, tmps, assign, body, hy, hR⟩ := HY.out _ pre (c9, t9, n9) _ hpre hj9
        simp only [aEnc] at hy
        have HRR := Lib.hid hR
        have HM := Lib.hid (show (∃ L, ([] :: g.A)[n9]? = some L) ∧ n9 ≤ m ∧ g.out k = (pre ++ [(c9, t9, n9)]) ++ g.chain n9 ∧ (∀ k, T k → k < wr.heap.size) ∧ KeepsAt R w2 wr ∧ Below wr.heap.size wr (wr.alloc (.cells #[.int .u8 c9.toNat, .int .i32 t9, .int .i32 ((n9 : Int) - 1)] 62)) ∧ (wr.alloc (.cells #[.int .u8 c9.toNat, .int .i32 t9, .int .i32 ((n9 : Int) - 1)] 62)).heap[wr.heap.size]? = some (.cells #[.int .u8 c9.toNat, .int .i32 t9, .int .i32 ((n9 : Int) - 1)] 62 (0, 0)) from ⟨⟨L9, e2⟩, e6, by rw [hout]; simp, hTlt, hkeep, hba, hbx⟩)
        have b0 := new_cell wr #[.int .u8 c9.toNat, .int .i32 t9, .int .i32 ((n9 : Int) - 1)] 62 0
        have b1' := new_cell wr #[.int .u8 c9.toNat, .int .i32 t9, .int .i32 ((n9 : Int) - 1)] 62 1
        have b2' := new_cell wr #[.int .u8 c9.toNat, .int .i32 t9, .int .i32 ((n9 : Int) - 1)] 62 2
        clear hz hL hout hj hTlt hkeep ha hg e1 e2 e3 e4 e5 e6 h5 hna hm hbx hba hj9 hpre hR HQ hok
        gi_wp2
        refine (RoundIn.wideOut (m := 5) HRR.out).mono ?_
        rintro e w4 ⟨⟨rfl, hj4⟩ | ⟨rfl, hj4⟩, hk4⟩
        · obtain ⟨f1, f2, f3, f4, f5, f6, f7⟩ := HM.out
          have h9 := (hk4.block _ (Array.getElem?_eq_some_iff.1 f7).1 (.inr (.inr rfl))).trans f7
          have z2 : w4.cell? ⟨wr.heap.size, 2, none⟩ = some (.int .i32 ((n9 : Int) - 1)) := by simp [World.cell?, h9]
          have hk5 : KeepsAt R w2 w4 := f5.trans (⟨Nat.le_trans f6.size hk4.size, fun k hk hr => (hk4.block k (Nat.lt_of_lt_of_le hk f6.size) (.inl hr)).trans (f6.block k hk)⟩)
          have HE := Lib.hid (show (∃ L, ([] :: g.A)[n9]? = some L) ∧ n9 ≤ m ∧ g.out k = (pre ++ [(c9, t9, n9)]) ++ g.chain n9 ∧ J (fun k => T k ∨ k = wr.heap.size) (pre ++ [(c9, t9, n9)]) w4 ∧ (∀ k, (T k ∨ k = wr.heap.size) → k < w4.heap.size) ∧ KeepsAt R w2 w4 from ⟨f1, f2, f3, hj4, fun k hk => by
            have := f6.size
            have h8 := hk4.size
            rw [World.size_alloc] at h8
            rcases hk with hk | hk
            · have := f4 k hk; omega
            · omega, hk5⟩)
          clear f1 f2 f3 f4 f5 f6 f7 h9 hj4 hk4 hk5 hy b0 b1' b2' r0 r1 r2 c1 c2 h2 HRR HM
          gi_wp2
          go_roundw
          case rel => exact ⟨n9, _, _, _, rfl, Lib.hid ⟨rfl, HE.out.1, HE.out.2.2⟩⟩
          case measure => dsimp only [RowKit.intOf]; have := HE.out.2.1; omega
        · have HE := Lib.hid hj4
          clear hj4 hk4 hy b0 b1' b2' r0 r1 r2 c1 c2 h2 HRR HM
          gi_wp2
          refine bodyPost_ret (results_none rfl _ _ _) rfl ?_
          exact ⟨⟨_, rfl⟩, _, _, .inr HE.out⟩
  · have eo : g.out s = [] := by
      unfold GA.out
      split
      · rw [List.getElem?_eq_none (by omega)]
      · rfl
    have eh : g.has s = false := decide_eq_false hs
    rw [eh] at CI
    clear hs eh
    gi_wp2_with (refine ⟨trivial, ?_⟩; gi_at_call 35; refine (callsIn_wide.2 CI.out).mono ?_; rintro e w2 ⟨rfl, rfl⟩)
    refine bodyPost_ret (results_none rfl _ _ _) rfl ?_
    exact ⟨⟨_, rfl⟩, _, [], .inl ⟨eo.symm, HJ0.out⟩⟩
end Go.Proofs.Ytkabdieenijnlaa
