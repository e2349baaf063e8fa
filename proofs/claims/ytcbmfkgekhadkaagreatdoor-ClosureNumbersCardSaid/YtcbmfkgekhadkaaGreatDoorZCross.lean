/- closure.crossing: rules by their acts: put, with, by contract. -/
import Derived.Test.YtcbmfkgekhadkaaGreatDoorZApplied
import Derived.Sort.MapsRangeIn
namespace Go.Proofs.YtcbmfkgekhadkaaGreatDoor
open Go Go.RowKit Go.Lib Go.Shelf Go.Maps
attribute [local go_sem] Oper.semAt_some alloc_set

/-! ### Keys -/
set_option maxRecDepth 100000 in
theorem act_row : (113 : TypeId) < Tryz.prog.types.size := by
  have h : Nat.ble (113 + 1) Tryz.prog.types.size = true := by kernel_rfl
  exact Nat.le_of_ble_eq_true h
theorem act_wide : (match Tryz.prog.underlying 113 with | some (.array _ _) | some (.struct _) => true | _ => false) = true := by kernel_rfl
theorem act_at : Tryz.prog.keyTypeAt 2 113 = true := by kernel_rfl
theorem three_le : 2 + 1 ≤ 10000 := Nat.le_of_ble_eq_true rfl
set_option maxRecDepth 100000 in
theorem keyed_act : Keyed Tryz.prog 113 := Keyed.of_law (deep_law_laid Tryz.laidOut (m := 2) three_le act_row act_at act_wide)
theorem act_cells : Tryz.prog.cellsOf 113 = 2 := by kernel_rfl
theorem act_key : Tryz.prog.keyType 113 = true := by kernel_rfl
theorem str_cells : Tryz.prog.cellsOf 9 = 1 := by kernel_rfl
theorem types_pos : ∃ m, Tryz.prog.types.size = m + 1 := by
  have h : 1 ≤ Tryz.prog.types.size := Nat.le_trans (Nat.le_add_left 1 _) act_row
  exact ⟨Tryz.prog.types.size - 1, (Nat.sub_add_cancel h).symm⟩
def ActKey (a b : ByteArray) (kl : Lit) : Prop := keyOf Tryz.prog 113 (.agg #[.string a, .string b]) = some kl
theorem key_act (a b : ByteArray) (ha : a.size ≤ maxLen) (hb : b.size ≤ maxLen) : ∃ kl, ActKey a b kl := by
  obtain ⟨m, hm⟩ := types_pos
  unfold ActKey keyOf
  rw [Tryz.underlying113]
  simp only [act_key, Value.formed, Tryz.underlying113, act_cells, hm, Value.cells]
  simp [Program.keyLits, Tryz.underlying113, Tryz.underlying9, act_cells, str_cells, ha, hb]

/-! ### Rules as a map's elements -/
structure RV where
  p : Bool
  f : Int
  c : Bool
  s : ByteArray
  a : ByteArray
  A : Option Addr
  n : Nat
  cp : Nat
def RV.val (x : RV) : Value := .agg #[.bool x.p, .int .i64 x.f, .bool x.c, .string x.s, .string x.a, .slice x.A x.n x.cp]
open Classical in
noncomputable def crossR (v : Value) : Option (DataW Value × List MemPlace) := if ∃ x : RV, v = x.val then some (.held v, []) else none
theorem crossR_mk (x : RV) : crossR x.val = some (.held x.val, []) := by
  unfold crossR
  rw [if_pos ⟨x, rfl⟩]
theorem crossR_inv {v : Value} {y : DataW Value × List MemPlace} (h : crossR v = some y) : (∃ x : RV, v = x.val) ∧ y = (.held v, []) := by
  unfold crossR at h
  split at h
  · rename_i hx; exact ⟨hx, (Option.some.inj h).symm⟩
  · cases h
theorem ru_val {w : World} {v : Value} {r : Ru} (h : RuAt w v r) : ∃ x : RV, v = x.val ∧ x.p = r.pre ∧ x.f = r.flag ∧ x.c = r.cross ∧ x.s = r.strip ∧ x.a = r.add := by
  obtain ⟨A, cap, rfl, _⟩ := h
  exact ⟨⟨r.pre, r.flag, r.cross, r.strip, r.add, A, r.cond.length, cap⟩, rfl, rfl, rfl, rfl, rfl, rfl⟩

set_option maxRecDepth 100000 in
set_option maxHeartbeats 2000000 in
theorem put_any (W : World) (b n : Nat) (D : DataW Value) (v : Value) (r : Ru) (h : RuAt W v r) (hown : W.ownsMap Tryz.prog 113 crossR b n D) (hn : n < 1000000000) (kl : Lit) (hkl : ActKey r.strip r.add kl) :
    Calls Tryz.prog 40 #[.map (some b), v] W fun e W' => e = .returned (.tuple #[]) ∧ W'.ownsMap Tryz.prog 113 crossR b (n + 1) (if r.cross then D.put kl (.held v) else D) ∧ W.grownBy W' (some b) := by
  obtain ⟨A, cap, rfl, -⟩ := h
  obtain ⟨k, hk⟩ : ∃ k, k = r.cond.length := ⟨_, rfl⟩
  rw [← hk]
  obtain ⟨pre, flag, cross, strip, add, cond⟩ := r
  dsimp only at hkl ⊢
  have HO := Lib.hid hown
  have HK := Lib.hid hkl
  clear hown hkl hk
  cases cross with
  | false =>
    go_enter Tryz.func40, Tryz.ntmps40
    go_wp2_with fail
    go_end0
    exact ⟨rfl, (HO.out.alloc _).mono (by omega), World.grownBy_alloc _ _ _⟩
  | true =>
    have HR := Lib.hid (crossR_mk ⟨pre, flag, true, strip, add, A, k, cap⟩)
    go_enter Tryz.func40, Tryz.ntmps40
    go_wp2_with (at_mapUpdate; refine wpList_mapUpdate_own _ rfl _ _ _ 90 rfl 113 51 keyed_act Tryz.underlying90 _ b n D rfl (HO.out.alloc _) (by unfold maxLen; omega) _ _ kl rfl rfl HK.out _ [] HR.out ?_; intro w1 hown1 hgrow1)
    go_end0
    exact ⟨rfl, hown1, (World.grownBy_alloc _ _ _).trans hgrow1⟩

theorem ranges_same {H : Type} {P : Program} {k : TypeId} {R : Value → Option (DataW H × List MemPlace)} {w w' : World} {b r n : Nat} {D : DataW H} {left : Lit → Bool} {cnt : Nat} (h : w.ranges P k R b r n D left cnt) (hb : w'.heap[b]? = w.heap[b]?) (hr : w'.heap[r]? = w.heap[r]?) :
    w'.ranges P k R b r n D left cnt := by
  obtain ⟨es, clock, since, seen, c0, h1, F, hs, hD, h2, rest⟩ := h
  exact ⟨es, clock, since, seen, c0, hb.trans h1, F, hs, hD, hr.trans h2, rest⟩

theorem owns_ne_iter {H : Type} {P : Program} {k : TypeId} {R : Value → Option (DataW H × List MemPlace)} {w : World} {b n b' r' n' : Nat} {D D' : DataW H} {left : Lit → Bool} {cnt : Nat} (h : w.ownsMap P k R b n D) (h' : w.ranges P k R b' r' n' D' left cnt) : b ≠ r' := by
  obtain ⟨es, clock, h1, _⟩ := h
  obtain ⟨es', clock', since, seen, c0, _, _, _, _, h2, _⟩ := h'
  intro e
  rw [e, h2] at h1
  cases h1
theorem cells6_at {W : World} {B : Nat} {a b c d e f : Value} {t : TypeId} (h : W.heap[B]? = some (.cells #[a, b, c, d, e, f] t (0, 0))) :
    W.cell? ⟨B, 0, none⟩ = some a ∧ W.cell? ⟨B, 1, none⟩ = some b ∧ W.cell? ⟨B, 2, none⟩ = some c ∧ W.cell? ⟨B, 3, none⟩ = some d ∧ W.cell? ⟨B, 4, none⟩ = some e ∧ W.cell? ⟨B, 5, none⟩ = some f := by
  refine ⟨?_, ?_, ?_, ?_, ?_, ?_⟩ <;> simp [World.cell?, h]

/-- An entry of such a map is a rule of G's, under its act. -/
def EntsOk (Wb : World) (G : Ru → Prop) (D : DataW Value) : Prop := ∀ kl y, (∀ z, D.atKey kl z = y) → ∃ v r, y = .held v ∧ RuAt Wb v r ∧ G r ∧ ActKey r.strip r.add kl
/-- What comes of one entry with all of the others' has come. -/
def RowDone (G1 G2 : Ru → Prop) (D2 : DataW Value) (wd : ByteArray) (kl1 : Lit) (pre : List ByteArray) : Prop :=
  ∃ p, G1 p ∧ ActKey p.strip p.add kl1 ∧ ∀ kl2, Maps.has D2 kl2 = true → ∃ s, G2 s ∧ ActKey s.strip s.add kl2 ∧ ((bothR p s wd).size ≠ 0 → bothR p s wd ∈ pre)
theorem RowDone.more {G1 G2 : Ru → Prop} {D2 : DataW Value} {wd : ByteArray} {kl1 : Lit} {pre pre' : List ByteArray} (h : RowDone G1 G2 D2 wd kl1 pre) (hs : ∀ x ∈ pre, x ∈ pre') : RowDone G1 G2 D2 wd kl1 pre' := by
  obtain ⟨p, h1, h2, h3⟩ := h
  refine ⟨p, h1, h2, fun kl2 hk => ?_⟩
  obtain ⟨s, k1, k2, k3⟩ := h3 kl2 hk
  exact ⟨s, k1, k2, fun hz => hs _ (k3 hz)⟩

/-- What stands while 'with' goes on. -/
structure WFix (Wb : World) (G1 G2 : Ru → Prop) (D1 D2 : DataW Value) (wd : ByteArray) (Fm : ByteArray → Prop) : Prop where
  ent1 : EntsOk Wb G1 D1
  ent2 : EntsOk Wb G2 D2
  fit1 : ∀ r, G1 r → FitR r
  fit2 : ∀ r, G2 r → FitR r
  good : ∀ p s, G1 p → G2 s → (bothR p s wd).size ≠ 0 → Fm (bothR p s wd)
  tabs : Tabs9 Wb
  word : wd.size ≤ 1000000000
structure WO (J : (Nat → Prop) → List ByteArray → World → Prop) (G1 G2 : Ru → Prop) (D1 D2 : DataW Value) (wd : ByteArray) (R T0 : Nat → Prop) (W : World) (b1 b2 n1 n2 r1 : Nat) (pre0 : List ByteArray) (left : Lit → Bool) (cnt : Nat) (T : Nat → Prop) (pre : List ByteArray) (wr : World) : Prop where
  rg1 : wr.ranges Tryz.prog 113 crossR b1 r1 n1 D1 left cnt
  own2 : wr.ownsMap Tryz.prog 113 crossR b2 n2 D2
  inv : J T pre wr
  sup : ∀ k, T0 k → T k
  it1 : T r1
  old : KeepsAt R W wr
  more : ∀ x ∈ pre0, x ∈ pre
  num : pre.length + cnt * Maps.size D2 ≤ pre0.length + Maps.size D1 * Maps.size D2
  rows : ∀ kl1, Maps.has D1 kl1 = true → left kl1 = false → RowDone G1 G2 D2 wd kl1 pre
structure WI (J : (Nat → Prop) → List ByteArray → World → Prop) (G1 G2 : Ru → Prop) (D1 D2 : DataW Value) (wd : ByteArray) (R T0 : Nat → Prop) (W : World) (b1 b2 n1 n2 r1 : Nat) (pre0 : List ByteArray) (left1 : Lit → Bool) (cnt1 : Nat)
    (r2 B9 : Nat) (p : Ru) (pv : RV) (kl1 : Lit) (pre1 : List ByteArray) (left : Lit → Bool) (cnt : Nat) (T : Nat → Prop) (pre : List ByteArray) (wr : World) : Prop where
  rg1 : wr.ranges Tryz.prog 113 crossR b1 r1 n1 D1 left1 cnt1
  rg2 : wr.ranges Tryz.prog 113 crossR b2 r2 n2 D2 left cnt
  inv : J T pre wr
  sup : ∀ k, T0 k → T k
  it1 : T r1
  it2 : T r2
  itB : T B9
  lo : W.heap.size < r2
  box : wr.heap[B9]? = some (.cells #[.bool pv.p, .int .i64 pv.f, .bool pv.c, .string pv.s, .string pv.a, .slice pv.A pv.n pv.cp] 51 (0, 0))
  old : KeepsAt R W wr
  more : ∀ x ∈ pre1, x ∈ pre
  num : pre.length + cnt ≤ pre1.length + Maps.size D2
  rows : ∀ kl2, Maps.has D2 kl2 = true → left kl2 = false → ∃ s, G2 s ∧ ActKey s.strip s.add kl2 ∧ ((bothR p s wd).size ≠ 0 → bothR p s wd ∈ pre)

set_option maxRecDepth 100000 in
set_option maxHeartbeats 4000000 in
theorem with_any (Wb : World) (l : Nat) (J Jx : (Nat → Prop) → List ByteArray → World → Prop) (hJ : Stab J) (hJx : Stab Jx) (R T0 : Nat → Prop) (Fm : ByteArray → Prop) (N : Nat)
    (hY : ∀ T pre x W1, (Fm x ∧ pre.length < N) → J T pre W1 → YieldAt Fence.wide 0 Tryz.prog l #[.string x] W1 fun e W2 =>
      ((e = .returned (.bool true) ∧ J T (pre ++ [x]) W2) ∨ (e = .returned (.bool false) ∧ Jx T (pre ++ [x]) W2)) ∧ KeepsAt (fun k => R k ∨ T k) W1 W2)
    (G1 G2 : Ru → Prop) (D1 D2 : DataW Value) (wd : ByteArray) (hF : WFix Wb G1 G2 D1 D2 wd Fm) (W : World) (hstab : ∀ W', KeepsAt R W W' → Sub Wb W') (b1 b2 n1 n2 : Nat) (hown1 : W.ownsMap Tryz.prog 113 crossR b1 n1 D1) (hown2 : W.ownsMap Tryz.prog 113 crossR b2 n2 D2)
    (hT1 : T0 b1) (hT2 : T0 b2) (pre0 : List ByteArray) (hj0 : J T0 pre0 W) (hRlt : ∀ k, (R k ∨ T0 k) → k < W.heap.size) (hN : pre0.length + Maps.size D1 * Maps.size D2 ≤ N) :
    Calls Tryz.prog 41 #[.map (some b1), .map (some b2), .string wd, .func (.yield l) #[] #[]] W fun e W' => e = .returned (.tuple #[]) ∧
      ((∃ T pre, (∀ k, T0 k → T k) ∧ (∀ x ∈ pre0, x ∈ pre) ∧ (∀ kl1, Maps.has D1 kl1 = true → RowDone G1 G2 D2 wd kl1 pre) ∧ J T pre W') ∨ ∃ T pre, (∀ k, T0 k → T k) ∧ Jx T pre W') ∧ KeepsAt T0 W W' := by
  have HY := Lib.hid hY
  have HJ := Lib.hid hJ
  have HJX := Lib.hid hJx
  have HF := Lib.hid hF
  have HS := Lib.hid hstab
  have HO := Lib.hid (And.intro hown1 hown2)
  have HT := Lib.hid (And.intro hT1 hT2)
  have HJ0 := Lib.hid hj0
  have HRlt := Lib.hid hRlt
  have HN := Lib.hid hN
  clear hY hJ hJx hF hstab hown1 hown2 hT1 hT2 hj0 hRlt hN
  refine (callsIn_wide (n := 1)).1 ?_
  refine callsIn_of_wp Tryz.func41 rfl trivial ?_ rfl
  simp only [Tryz.ntmps41, List.size_toArray, List.length_cons, List.length_nil, Nat.reduceAdd, Nat.reduceSub, Array.replicate_succ, Array.replicate_zero, List.push_toArray, List.append_toArray, List.nil_append, List.cons_append]
  gi_wp2_with (first
    | (gi_at_range; refine wpListIn_range_own _ rfl _ 90 rfl 113 51 keyed_act Tryz.underlying90 _ b1 n1 _ rfl HO.out.1 ?_; intro w0 hrg0 hg0 hs0)
    | gi_in)
  go_frame
  have HO0 : Hid (WO J G1 G2 D1 D2 wd (fun k => R k ∨ T0 k) T0 W b1 b2 n1 n2 W.heap.size pre0 (Maps.has D1) (Maps.size D1) (fun k => T0 k ∨ k = W.heap.size) pre0 w0) := by
    have ho : ∀ T, OnlyAt T W w0 := fun T => OnlyAt.of_grown hg0 (fun k e => by cases e)
    refine Lib.hid ⟨hrg0, omap_same HO.out.2 (hg0.block b2 HO.out.2.lt (by simp)), HJ.out _ _ _ _ _ HJ0.out (ho _) ?_, fun k h => .inl h, .inr rfl, ⟨hg0.size, fun k hk _ => hg0.block k hk (by simp)⟩, fun x hx => hx, Nat.le_refl _, fun kl1 h1 h2 => by rw [h1] at h2; cases h2⟩
    rintro k (h | rfl)
    · exact .inl h
    · exact .inr ⟨Nat.le_refl _, by omega⟩
  clear hrg0 hg0 hs0 HO HJ0
  gi_loopw [16] (fun _ wr => ∃ (left : Lit → Bool) (cnt : Nat) (T : Nat → Prop) (pre : List ByteArray), WO J G1 G2 D1 D2 wd (fun k => R k ∨ T0 k) T0 W b1 b2 n1 n2 W.heap.size pre0 left cnt T pre wr)
    (fun _ wr => wr.rangeLeft b1 W.heap.size)
  case atStart => exact ⟨_, _, _, _, HO0.out⟩
  case round =>
    obtain ⟨left, cnt, T, pre, ho⟩ := hrel
    have HQ := Lib.hid ho
    clear ho
    gi_wp2_with (first
      | (gi_at_next; refine wpListIn_next_ranges _ rfl _ rfl 113 keyed_act crossR id RV.val (fun key kl hk => ⟨key, rfl⟩) (fun v y hv => (crossR_inv hv).1) b1 W.heap.size n1 _ _ _ rfl HQ.out.rg1 ?_ ?_)
      | gi_in)
    · intro _ hl0
      have HE := Lib.hid (show (∀ k, T0 k → T k) ∧ (∀ x ∈ pre0, x ∈ pre) ∧ (∀ kl1, Maps.has D1 kl1 = true → RowDone G1 G2 D2 wd kl1 pre) ∧ J T pre wr from ⟨HQ.out.sup, HQ.out.more, fun kl1 h => HQ.out.rows kl1 h (hl0 kl1), HQ.out.inv⟩)
      have HK := Lib.hid (show KeepsAt T0 W wr from HQ.out.old.mono fun _ h => .inr h)
      clear hl0 HQ
      gi_wp2
      go_end0
      exact ⟨rfl, .inl ⟨_, _, HE.out⟩, HK.out⟩
    · intro x c kl yd yp w2 cnt2 hkey hlk hv hat hrg2 hlt hg2 hs2 hen
      obtain ⟨-, hyd⟩ := crossR_inv hv
      obtain ⟨pv, p, hyd2, hpv, hg1, hact⟩ := HF.out.ent1 kl yd hat
      obtain rfl : pv = c.val := by
        rw [hyd2] at hyd
        simp only [Prod.mk.injEq, DataW.held.injEq] at hyd
        exact hyd.1
      have hoT : OnlyAt T wr w2 := OnlyAt.of_grown hg2 (fun k e => by cases e; exact HQ.out.it1)
      have hne1 := hrg2.ne
      have HQ2 := Lib.hid (show wr.heap.size ≤ w2.heap.size ∧ w2.ownsMap Tryz.prog 113 crossR b2 n2 D2 ∧ J T pre w2 ∧ KeepsAt (fun k => R k ∨ T0 k) W w2 from ⟨hg2.size, omap_same HQ.out.own2 (hg2.block b2 HQ.out.own2.lt (fun e => by
          have h1 := HQ.out.own2
          obtain ⟨es, clock, h2, _⟩ := h1
          obtain ⟨es', clock', since, seen, c0, _, _, _, _, h3, _⟩ := HQ.out.rg1
          cases e
          rw [h2] at h3
          cases h3)), HJ.out.same HQ.out.inv hoT, HQ.out.old.trans ⟨hg2.size, fun k hk hRk => hg2.block k hk (fun e => by cases e; have := HRlt.out _ hRk; omega)⟩⟩)
      have HP := Lib.hid (And.intro hpv (And.intro hg1 (And.intro hact (And.intro hlk hlt))))
      have HRG := Lib.hid hrg2
      have HW2 := Lib.hid hs2
      clear hkey hlk hv hat hrg2 hlt hg2 hs2 hyd hyd2 hpv hg1 hact hoT hne1
      obtain ⟨cp, cf, cc, cs, ca, cA, cn, ccp⟩ := c
      simp only [RV.val] at hen ⊢
      gi_wp2_with (first
        | (gi_at_range; refine wpListIn_range_own _ rfl _ 90 rfl 113 51 keyed_act Tryz.underlying90 _ b2 n2 _ rfl (HQ2.out.2.1.alloc _) ?_; intro w3 hrg3 hg3 hs3)
        | gi_in)
      go_frame
      have hba : Below w2.heap.size w2 (w2.alloc (.cells #[.bool cp, .int .i64 cf, .bool cc, .string cs, .string ca, .slice cA cn ccp] 51)) := (Below.refl _ _).alloc (Nat.le_refl _) _
      have hbx := World.alloc_heap_new w2 (.cells #[.bool cp, .int .i64 cf, .bool cc, .string cs, .string ca, .slice cA cn ccp] 51)
      have hsa : (w2.alloc (.cells #[.bool cp, .int .i64 cf, .bool cc, .string cs, .string ca, .slice cA cn ccp] 51)).heap.size = w2.heap.size + 1 := World.size_alloc _ _
      revert hrg3 hg3 hs3 hba hbx hsa
      generalize w2.alloc (.cells #[.bool cp, .int .i64 cf, .bool cc, .string cs, .string ca, .slice cA cn ccp] 51) = wa
      intro hrg3 hg3 hs3 hba hbx hsa
      obtain ⟨r2, hr2⟩ : ∃ r2, r2 = wa.heap.size := ⟨_, rfl⟩
      rw [← hr2] at hrg3 ⊢
      obtain ⟨B9, hB9⟩ : ∃ B9, B9 = w2.heap.size := ⟨_, rfl⟩
      rw [← hB9] at hbx ⊢
      have ho3 : ∀ T, OnlyAt T w2 w3 := fun T => (OnlyAt.of_below hba).trans (OnlyAt.of_grown hg3 (fun k e => by cases e))
      have HI0 : Hid (WI J G1 G2 D1 D2 wd (fun k => R k ∨ T0 k) T0 W b1 b2 n1 n2 W.heap.size pre0 (fun z => left z && !z.sameKey kl) cnt2 r2 B9 p ⟨cp, cf, cc, cs, ca, cA, cn, ccp⟩ kl pre (Maps.has D2) (Maps.size D2) (fun k => T k ∨ k = B9 ∨ k = r2) pre w3) := by
        refine Lib.hid ⟨ranges_same HRG.out ?_ ?_, hrg3, HJ.out _ _ _ _ _ HQ2.out.2.2.1 (ho3 _) ?_, fun k h => .inl (HQ.out.sup k h), .inl HQ.out.it1, .inr (.inr rfl), .inr (.inl rfl), by have := HRG.out.lt; omega, ?_, HQ2.out.2.2.2.trans ?_, fun x hx => hx, Nat.le_refl _, fun kl1 h1 h2 => by rw [h1] at h2; cases h2⟩
        · exact (ho3 (fun _ => False)).block _ HRG.out.owns.lt id
        · exact (ho3 (fun _ => False)).block _ HRG.out.lt id
        · rintro k (h | rfl | rfl)
          · exact .inl h
          · exact .inr ⟨by omega, by omega⟩
          · exact .inr ⟨by omega, by omega⟩
        · exact (hg3.block B9 (by omega) (by simp)).trans hbx
        · exact ⟨(ho3 (fun _ => False)).size, fun k hk _ => (ho3 (fun _ => False)).block k hk id⟩
      clear hrg3 hg3 hs3 hba hbx hsa ho3 hen hB9 hr2 HRG HW2
      gi_loopw [22] (fun _ wy => ∃ (left2 : Lit → Bool) (cnt3 : Nat) (T : Nat → Prop) (pre2 : List ByteArray), WI J G1 G2 D1 D2 wd (fun k => R k ∨ T0 k) T0 W b1 b2 n1 n2 W.heap.size pre0 (fun z => left z && !z.sameKey kl) cnt2 r2 B9 p ⟨cp, cf, cc, cs, ca, cA, cn, ccp⟩ kl pre left2 cnt3 T pre2 wy)
        (fun _ wy => wy.rangeLeft b2 r2)
      case atStart => exact ⟨_, _, _, _, HI0.out⟩
      case round =>
        clear HI0
        obtain ⟨left2, cnt3, T2, pre2, hi2⟩ := hrel
        have HI := Lib.hid hi2
        clear hi2
        gi_wp2_with (first
          | (gi_at_next; refine wpListIn_next_ranges _ rfl _ rfl 113 keyed_act crossR id RV.val (fun key kl hk => ⟨key, rfl⟩) (fun v y hv => (crossR_inv hv).1) b2 r2 n2 _ _ _ rfl HI.out.rg2 ?_ ?_)
          | gi_in)
        · intro _ hl0
          have HE : Hid (WO J G1 G2 D1 D2 wd (fun k => R k ∨ T0 k) T0 W b1 b2 n1 n2 W.heap.size pre0 (fun z => left z && !z.sameKey kl) cnt2 T2 pre2 wr) := by
            refine Lib.hid ⟨HI.out.rg1, HI.out.rg2.owns, HI.out.inv, HI.out.sup, HI.out.it1, HI.out.old, fun x hx => HI.out.more x (HQ.out.more x hx), ?_, fun kl1 h1 h2 => ?_⟩
            · have h1 := HI.out.num
              have h2 := HQ.out.num
              have h3 : (cnt2 + 1) * Maps.size D2 ≤ cnt * Maps.size D2 := Nat.mul_le_mul_right _ (by have := HP.out.2.2.2.2; omega)
              rw [Nat.add_mul, Nat.one_mul] at h3
              omega
            · rcases Bool.eq_false_or_eq_true (left kl1) with hl | hl
              · rw [hl] at h2
                have hk : kl1.sameKey kl = true := by simpa using h2
                obtain rfl := WideAt.sameKey_eq hk
                exact ⟨p, HP.out.2.1, HP.out.2.2.1, fun kl2 hk2 => HI.out.rows kl2 hk2 (hl0 kl2)⟩
              · exact (HQ.out.rows kl1 h1 hl).more HI.out.more
          clear hl0
          gi_wp2
          go_roundw
          case rel => exact ⟨_, _, _, _, HE.out⟩
          case measure => rw [HE.out.rg1.left_eq, HQ.out.rg1.left_eq]; exact HP.out.2.2.2.2
        · intro x2 c2 kl2 yd2 yp2 w4 cnt4 hkey hlk hv hat hrg4 hlt hg4 hs4 hen4
          obtain ⟨-, hyd⟩ := crossR_inv hv
          obtain ⟨sv, s, hyd2, hsv, hg2, hact⟩ := HF.out.ent2 kl2 yd2 hat
          obtain rfl : sv = c2.val := by
            rw [hyd2] at hyd
            simp only [Prod.mk.injEq, DataW.held.injEq] at hyd
            exact hyd.1
          have hoT : OnlyAt T2 wr w4 := OnlyAt.of_grown hg4 (fun k e => by cases e; exact HI.out.it2)
          have hr12 : W.heap.size ≠ r2 := by have := HI.out.lo; omega
          have hbr : b1 ≠ r2 := owns_ne_iter HI.out.rg1.owns HI.out.rg2
          have hB9 : B9 ≠ r2 := fun e => by
            have h1 := HI.out.box
            obtain ⟨es', clock', since, seen, c0, _, _, _, _, h2, _⟩ := HI.out.rg2
            rw [e, h2] at h1
            cases h1
          have hlt9 := (Array.getElem?_eq_some_iff.1 HI.out.box).1
          have hold4 : KeepsAt (fun k => R k ∨ T0 k) W w4 := HI.out.old.trans ⟨hg4.size, fun k hk hRk => hg4.block k hk (fun e => by cases e; have := HRlt.out _ hRk; have := HI.out.lo; omega)⟩
          have hrg14 := ranges_same HI.out.rg1 (hg4.block b1 HI.out.rg1.owns.lt (fun e => by cases e; exact hbr rfl)) (hg4.block W.heap.size HI.out.rg1.lt (fun e => by cases e; exact hr12 rfl))
          have hbox4 := (hg4.block B9 hlt9 (fun e => by cases e; exact hB9 rfl)).trans HI.out.box
          have HX := Lib.hid (And.intro hsv (And.intro hg2 (And.intro hact (And.intro hlk hlt))))
          have HI4 := Lib.hid (And.intro hrg14 (And.intro hrg4 (And.intro (HJ.out.same HI.out.inv hoT) (And.intro hbox4 hold4))))
          clear hkey hlk hv hat hrg4 hlt hg4 hs4 hyd hyd2 hsv hg2 hact hoT hr12 hbr hB9 hlt9 hold4 hrg14 hbox4
          obtain ⟨dp, df, dc, ds, da, dA, dn, dcp⟩ := c2
          simp only [RV.val] at hen4 ⊢
          have hba : Below w4.heap.size w4 (w4.alloc (.cells #[.bool dp, .int .i64 df, .bool dc, .string ds, .string da, .slice dA dn dcp] 51)) := (Below.refl _ _).alloc (Nat.le_refl _) _
          have hlt9 := (Array.getElem?_eq_some_iff.1 HI4.out.2.2.2.1).1
          have hb9 := (hba.block B9 hlt9).trans HI4.out.2.2.2.1
          obtain ⟨x0, x1, x2, x3, x4, x5⟩ := cells6_at hb9
          obtain ⟨y0, y1, y2, y3, y4, y5⟩ := box6 (Below.refl (w4.alloc (.cells #[.bool dp, .int .i64 df, .bool dc, .string ds, .string da, .slice dA dn dcp] 51)).heap.size _)
          have hkb : KeepsAt (fun k => R k ∨ T0 k) W (w4.alloc (.cells #[.bool dp, .int .i64 df, .bool dc, .string ds, .string da, .slice dA dn dcp] 51)) := HI4.out.2.2.2.2.trans (keeps_below hba)
          have hsub := HS.out _ (hkb.mono fun _ h => .inl h)
          have CB := Lib.hid (rul_both_any (w4.alloc (.cells #[.bool dp, .int .i64 df, .bool dc, .string ds, .string da, .slice dA dn dcp] 51)) _ _ p s wd (HP.out.1.sub hsub) (HX.out.1.sub hsub) (HF.out.fit1 p HP.out.2.1) (HF.out.fit2 s HX.out.2.1) HF.out.word (tabs_sub HF.out.tabs hsub))
          obtain ⟨F, hFd⟩ : ∃ F, F = bothR p s wd := ⟨_, rfl⟩
          obtain ⟨ok, hok⟩ : ∃ ok, ok = okB F := ⟨_, rfl⟩
          rw [← hFd, ← hok] at CB
          simp only [RV.val] at CB
          have HFF := Lib.hid (And.intro hFd hok)
          have HBA := Lib.hid (And.intro hba hkb)
          clear hba hlt9 hb9 hkb hsub hFd hok
          gi_wp2_with fail
          refine ⟨trivial, ?_⟩
          refine (callsIn_wide.2 CB.out).mono ?_
          rintro e w6 ⟨rfl, hb6⟩
          have hb46 : Below w4.heap.size w4 w6 := HBA.out.1.trans (hb6.mono HBA.out.1.size)
          have h1 := ranges_same HI4.out.1 (hb46.block _ HI4.out.1.owns.lt) (hb46.block _ HI4.out.1.lt)
          have h2 := ranges_same HI4.out.2.1 (hb46.block _ HI4.out.2.1.owns.lt) (hb46.block _ HI4.out.2.1.lt)
          have h3 := HJ.out.same HI4.out.2.2.1 (OnlyAt.of_below hb46)
          have h4 := (hb46.block B9 (Array.getElem?_eq_some_iff.1 HI4.out.2.2.2.1).1).trans HI4.out.2.2.2.1
          have h5 := HI4.out.2.2.2.2.trans (keeps_below (R := fun k => R k ∨ T0 k) hb46)
          have H6 := Lib.hid (And.intro h1 (And.intro h2 (And.intro h3 (And.intro h4 h5))))
          have ROW := Lib.hid (show ∀ pre3 : List ByteArray, (∀ x ∈ pre2, x ∈ pre3) → ((bothR p s wd).size ≠ 0 → bothR p s wd ∈ pre3) → ∀ kl3, Maps.has D2 kl3 = true → (left2 kl3 && !kl3.sameKey kl2) = false → ∃ s, G2 s ∧ ActKey s.strip s.add kl3 ∧ ((bothR p s wd).size ≠ 0 → bothR p s wd ∈ pre3) from by
            intro pre3 hsub hin kl3 hk3 hl3
            rcases Bool.eq_false_or_eq_true (left2 kl3) with hl | hl
            · rw [hl] at hl3
              have hk : kl3.sameKey kl2 = true := by simpa using hl3
              obtain rfl := WideAt.sameKey_eq hk
              exact ⟨s, HX.out.2.1, HX.out.2.2.1, hin⟩
            · obtain ⟨s', k1, k2, k3⟩ := HI.out.rows kl3 hk3 hl
              exact ⟨s', k1, k2, fun hz => hsub _ (k3 hz)⟩)
          clear h1 h2 h3 h4 h5 hb46 hb6 x0 x1 x2 x3 x4 x5 y0 y1 y2 y3 y4 y5 CB HBA HI4 hen4
          cases ok with
          | false =>
            have HE : Hid (WI J G1 G2 D1 D2 wd (fun k => R k ∨ T0 k) T0 W b1 b2 n1 n2 W.heap.size pre0 (fun z => left z && !z.sameKey kl) cnt2 r2 B9 p ⟨cp, cf, cc, cs, ca, cA, cn, ccp⟩ kl pre (fun z => left2 z && !z.sameKey kl2) cnt4 T2 pre2 w6) := by
              refine Lib.hid ⟨H6.out.1, H6.out.2.1, H6.out.2.2.1, HI.out.sup, HI.out.it1, HI.out.it2, HI.out.itB, HI.out.lo, H6.out.2.2.2.1, H6.out.2.2.2.2, HI.out.more, ?_, ROW.out pre2 (fun x hx => hx) ?_⟩
              · have := HI.out.num; have := HX.out.2.2.2.2; omega
              · intro hz
                have h1 := HFF.out.2
                rw [HFF.out.1] at h1
                unfold okB at h1
                rw [decide_eq_true hz] at h1
                cases h1
            clear H6 ROW
            gi_wp2_with (refine ⟨fun _ h => (by cases h), ?_⟩)
            go_roundw
            case rel => exact ⟨_, _, _, _, HE.out⟩
            case measure => rw [HE.out.rg2.left_eq, HI.out.rg2.left_eq]; exact HX.out.2.2.2.2
          | true =>
            have hz : (bothR p s wd).size ≠ 0 := by
              have h1 := HFF.out.2
              rw [HFF.out.1] at h1
              unfold okB at h1
              simpa using h1.symm
            have hadm : Fm F ∧ pre2.length < N := by
              refine ⟨by rw [HFF.out.1]; exact HF.out.good p s HP.out.2.1 HX.out.2.1 hz, ?_⟩
              have h1 := HI.out.num
              have h2 := HQ.out.num
              have h3 := HX.out.2.2.2.2
              have h4 : 1 * Maps.size D2 ≤ cnt * Maps.size D2 := Nat.mul_le_mul_right _ (by have := HP.out.2.2.2.2; omega)
              have h5 := HN.out
              omega
            obtain ⟨fn, tmps, assign, body, hy, hRd⟩ := HY.out T2 pre2 F w6 hadm H6.out.2.2.1
            have HRD := Lib.hid hRd
            clear hRd hadm hz
            gi_wp2
            refine (HRD.out).mono ?_
            rintro e W7 ⟨⟨rfl, hJ7⟩ | ⟨rfl, hJ7⟩, hk7⟩
            · have HE : Hid (WI J G1 G2 D1 D2 wd (fun k => R k ∨ T0 k) T0 W b1 b2 n1 n2 W.heap.size pre0 (fun z => left z && !z.sameKey kl) cnt2 r2 B9 p ⟨cp, cf, cc, cs, ca, cA, cn, ccp⟩ kl pre (fun z => left2 z && !z.sameKey kl2) cnt4 T2 (pre2 ++ [F]) W7) := by
                refine Lib.hid ⟨ranges_same H6.out.1 (hk7.block _ H6.out.1.owns.lt (.inr (HI.out.sup _ HT.out.1))) (hk7.block _ H6.out.1.lt (.inr HI.out.it1)), ranges_same H6.out.2.1 (hk7.block _ H6.out.2.1.owns.lt (.inr (HI.out.sup _ HT.out.2))) (hk7.block _ H6.out.2.1.lt (.inr HI.out.it2)),
                  hJ7, HI.out.sup, HI.out.it1, HI.out.it2, HI.out.itB, HI.out.lo, (hk7.block B9 (Array.getElem?_eq_some_iff.1 H6.out.2.2.2.1).1 (.inr HI.out.itB)).trans H6.out.2.2.2.1, H6.out.2.2.2.2.trans (hk7.mono fun k h => h.elim .inl fun h => .inr (HI.out.sup k h)), fun x hx => List.mem_append_left _ (HI.out.more x hx), ?_, ROW.out _ (fun x hx => List.mem_append_left _ hx) ?_⟩
                · rw [List.length_append]
                  have := HI.out.num; have := HX.out.2.2.2.2; simp; omega
                · intro _
                  rw [← HFF.out.1]
                  simp
              clear H6 ROW hJ7 hk7 HRD hy
              gi_wp2
              go_roundw
              case rel => exact ⟨_, _, _, _, HE.out⟩
              case measure => rw [HE.out.rg2.left_eq, HI.out.rg2.left_eq]; exact HX.out.2.2.2.2
            · have HX3 := Lib.hid hJ7
              have HK := Lib.hid (show KeepsAt T0 W W7 from (H6.out.2.2.2.2.mono fun _ h => .inr h).trans (hk7.mono fun k h => .inr (HI.out.sup k h)))
              clear H6 ROW hJ7 hk7 HRD hy
              gi_wp2
              refine bodyPost_ret (results_none rfl _ _ _) rfl ?_
              exact ⟨rfl, .inr ⟨_, _, HI.out.sup, HX3.out⟩, HK.out⟩
end Go.Proofs.YtcbmfkgekhadkaaGreatDoor
