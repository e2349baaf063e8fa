/- closure.applied: an iterator over the rules that apply to an entry, by its contract. -/
import Derived.Test.YtcbmfkgekhadkaaGreatDoorZOnce
import Derived.Test.YtcbmfkgekhadkaaGreatDoorZTable
import Derived.Test.YtcbmfkgekhadkaaGreatDoorRBoth
import Derived.Test.YtcbmfkgekhadkaaGreatDoorQFrame
namespace Go.Proofs.YtcbmfkgekhadkaaGreatDoor
open Go Go.RowKit Go.Lib Go.Shelf Go.Maps
attribute [local go_sem] Oper.semAt_some alloc_set

theorem KeepsAt.only {R T : Nat → Prop} {A B C : World} (h : KeepsAt R A B) (k : OnlyAt T B C) (hd : ∀ j, R j → ¬ T j) : KeepsAt R A C :=
  h.trans (KeepsAt.of_only k hd)
theorem tabs_sub {w w' : World} (h : Tabs9 w) (hs : Sub w w') : Tabs9 w' :=
  ⟨fun c hc => hs.2 _ _ (h.1 c hc), fun i hi => ⟨hs.2 _ _ (h.2 i hi).1, hs.2 _ _ (h.2 i hi).2⟩⟩

/-- A rule by value, and the rule. -/
structure AP where
  rv : Value
  r : Ru
def apEnc (wd : ByteArray) (x : AP) : Array Value := #[x.rv, .string (applyR x.r wd)]
def ApAdm (Wb : World) (rs : List Ru) (fl : List Int) (wd : ByteArray) (pre : List AP) (x : AP) : Prop :=
  (x.r ∈ rs ∧ x.r.flag ∈ fl ∧ (applyR x.r wd).size ≠ 0 ∧ RuAt Wb x.rv x.r) ∧ pre.length < fl.length * rs.length
def ApAll (rs : List Ru) (fl : List Int) (wd : ByteArray) (xs : List AP) : Prop := ∀ r ∈ rs, r.flag ∈ fl → (applyR r wd).size ≠ 0 → ∃ x ∈ xs, x.r = r

/-- The table, its map and its rows by name. -/
structure TabFix (Wb W : World) (b : Nat) (rs : List Ru) (D : DataW Value) (U : Int → Value) : Prop where
  map : ∃ n, W.ownsMap Tryz.prog 3 heldR b n D
  at_ : ∀ f, D.atKey (.int .i64 f) (.held (.slice none 0 0)) = .held (U f)
  rows : ∀ f, RulesOn Wb W (U f) (ofFlag rs f)
theorem TabAt.named {Wb W : World} {b : Nat} {rs : List Ru} (h : TabAt Wb W b rs) : ∃ D U, TabFix Wb W b rs D U := by
  obtain ⟨n, D, U, h1, h2, h3⟩ := h
  exact ⟨D, U, ⟨n, h1⟩, h2, h3⟩
theorem TabFix.on {Wb W W' : World} {b : Nat} {rs : List Ru} {D : DataW Value} {U : Int → Value} (h : TabFix Wb W b rs D U) (hs : Sub W W') (hb : W'.heap[b]? = W.heap[b]?) : TabFix Wb W' b rs D U := by
  obtain ⟨⟨n, h1⟩, h2, h3⟩ := h
  exact ⟨⟨n, omap_same h1 hb⟩, h2, fun f => (h3 f).sub hs⟩
/-- What it reads. -/
structure AData (Wb : World) (be bt b : Nat) (rs : List Ru) (D : DataW Value) (U : Int → Value) (wd : ByteArray) (A : Option Addr) (n cap : Nat) (W : World) : Prop where
  sub : Sub Wb W
  tab : TabFix Wb W b rs D U
  word : W.cell? ⟨be, 0, none⟩ = some (.string wd)
  flags : W.cell? ⟨be, 1, none⟩ = some (.slice A n cap)
  table : W.cell? ⟨bt, 0, none⟩ = some (.map (some b))
/-- What stands as it is. -/
structure AFix (Wb : World) (rs : List Ru) (fl : List Int) (wd : ByteArray) (A : Option Addr) (n cap : Nat) : Prop where
  ints : IntsAt Wb (.slice A n cap) fl
  tabs : Tabs9 Wb
  fit : ∀ r ∈ rs, FitR r
  rin : ∀ r ∈ rs, In64 r.flag
  fin : ∀ f ∈ fl, In64 f
  word : wd.size ≤ 1000000000
  nr : rs.length ≤ 1000
  nf : fl.length ≤ 1000

/-- What has come when k flags are done, and j of the rules of the next one. -/
def ApMid (rs : List Ru) (ol : List Int) (wd : ByteArray) (lf : List Ru) (k j : Nat) (pre : List AP) : Prop :=
  pre.length ≤ k * rs.length + j ∧ (∀ r ∈ rs, r.flag ∈ ol.take k → (applyR r wd).size ≠ 0 → ∃ x ∈ pre, x.r = r) ∧ ∀ r ∈ lf.take j, (applyR r wd).size ≠ 0 → ∃ x ∈ pre, x.r = r
theorem ApMid.skip {rs : List Ru} {ol : List Int} {wd : ByteArray} {lf : List Ru} {k j : Nat} {pre : List AP} (h : ApMid rs ol wd lf k j pre) {r : Ru} (hr : lf[j]? = some r) (h0 : (applyR r wd).size = 0) : ApMid rs ol wd lf k (j + 1) pre := by
  refine ⟨by have := h.1; omega, h.2.1, fun x hx hok => ?_⟩
  rw [List.take_add_one, hr] at hx
  rcases List.mem_append.1 hx with hx | hx
  · exact h.2.2 x hx hok
  · simp at hx; subst hx; exact absurd h0 hok
theorem ApMid.push {rs : List Ru} {ol : List Int} {wd : ByteArray} {lf : List Ru} {k j : Nat} {pre : List AP} (h : ApMid rs ol wd lf k j pre) {x : AP} (hr : lf[j]? = some x.r) : ApMid rs ol wd lf k (j + 1) (pre ++ [x]) := by
  have old : ∀ {r : Ru}, (∃ y ∈ pre, y.r = r) → ∃ y ∈ pre ++ [x], y.r = r := fun ⟨y, hy, e⟩ => ⟨y, List.mem_append_left _ hy, e⟩
  refine ⟨by rw [List.length_append]; have := h.1; simp; omega, fun r hr' hf hok => old (h.2.1 r hr' hf hok), fun r hx hok => ?_⟩
  rw [List.take_add_one, hr] at hx
  rcases List.mem_append.1 hx with hx | hx
  · exact old (h.2.2 r hx hok)
  · simp at hx; subst hx; exact ⟨x, by simp, rfl⟩
theorem ApMid.next {rs : List Ru} {ol : List Int} {wd : ByteArray} {f : Int} {k j : Nat} {pre : List AP} (h : ApMid rs ol wd (ofFlag rs f) k j pre) (hj : (ofFlag rs f).length = j) (hf : ol[k]? = some f) : ApMid rs ol wd [] (k + 1) 0 pre := by
  have hl := ofFlag_len rs f
  refine ⟨?_, fun r hr hfl hok => ?_, fun r hr => by simp at hr⟩
  · have := h.1
    rw [Nat.add_mul, Nat.one_mul]; omega
  · rw [List.take_add_one, hf] at hfl
    rcases List.mem_append.1 hfl with hx | hx
    · exact h.2.1 r hr hx hok
    · simp at hx
      exact h.2.2 r (by rw [← hj, List.take_length]; exact List.mem_filter.2 ⟨hr, decide_eq_true hx⟩) hok
theorem ApMid.enter {rs : List Ru} {ol : List Int} {wd : ByteArray} {lf lf' : List Ru} {k : Nat} {pre : List AP} (h : ApMid rs ol wd lf k 0 pre) : ApMid rs ol wd lf' k 0 pre := ⟨h.1, h.2.1, fun r hr => by simp at hr⟩

theorem cell_keeps {R : Nat → Prop} {A B : World} (h : KeepsAt R A B) {p : Addr} {v : Value} (hc : A.cell? p = some v) (hp : R p.block) : B.cell? p = some v := by
  have hlt := World.block_lt_of_cell? _ _ hc
  unfold World.cell? at hc ⊢
  rw [h.block _ hlt hp]
  exact hc
theorem keeps_below {R : Nat → Prop} {A B : World} (h : Below A.heap.size A B) : KeepsAt R A B := ⟨h.size, fun k hk _ => h.block k hk⟩

/-- What holds between two rounds. -/
structure ApNow (J : (Nat → Prop) → List AP → World → Prop) (R T : Nat → Prop) (W w1 : World) (rs : List Ru) (ol : List Int) (wd : ByteArray) (lf : List Ru) (k j : Nat) (pre : List AP) (wr : World) : Prop where
  inv : J T pre wr
  old : KeepsAt R W wr
  own : KeepsAt T w1 wr
  mid : ApMid rs ol wd lf k j pre

set_option maxRecDepth 100000 in
set_option maxHeartbeats 4000000 in
theorem applied_stops (Wb : World) (be bt b : Nat) (rs : List Ru) (D : DataW Value) (U : Int → Value) (fl : List Int) (wd : ByteArray) (A : Option Addr) (n cap : Nat) (hF : AFix Wb rs fl wd A n cap) (R : Nat → Prop) (W : World) (hstab : ∀ W', KeepsAt R W W' → AData Wb be bt b rs D U wd A n cap W') (hRlt : ∀ k, R k → k < W.heap.size) :
    Stops Tryz.prog 60 #[.pointer (some ⟨be, 0, none⟩), .pointer (some ⟨bt, 0, none⟩)] (apEnc wd) (ApAdm Wb rs fl wd) (ApAll rs fl wd) R W := by
  intro l J Jx hJ hJx hY hJ0
  have hd0 := hstab W (KeepsAt.refl _ _)
  have hfl := hd0.flags
  have CO := Lib.hid (once_any W A n cap fl (hF.ints.sub hd0.sub) (by have := hF.nf; omega))
  obtain ⟨ol, hol⟩ : ∃ ol, ol = onceL fl := ⟨_, rfl⟩
  have hom : ∀ x, x ∈ ol ↔ x ∈ fl := fun x => by rw [hol]; exact onceL_mem fl x
  have hon : ol.length ≤ fl.length := by rw [hol]; exact onceL_len fl
  rw [← hol] at CO
  obtain ⟨m, hm⟩ : ∃ m, m = ol.length := ⟨_, rfl⟩
  rw [← hm] at CO
  have hm1 : m ≤ 1000 := by have := hF.nf; omega
  have HOL := Lib.hid (And.intro hom (And.intro hon hm))
  have HF := Lib.hid hF
  have HS := Lib.hid hstab
  have HRlt := Lib.hid hRlt
  have HY := Lib.hid hY
  have HJ := Lib.hid hJ
  have HJX := Lib.hid hJx
  have HJ0 := Lib.hid hJ0
  clear hF hstab hRlt hY hJ hJ0 hd0 hol hom hon hm hJx
  refine (callsIn_wide (n := 1)).1 ?_
  refine callsIn_of_wp Tryz.func60 rfl trivial ?_ rfl
  simp only [Tryz.ntmps60, List.size_toArray, List.length_cons, List.length_nil, Nat.reduceAdd, Nat.reduceSub, Array.replicate_succ, Array.replicate_zero, List.push_toArray, List.append_toArray, List.nil_append, List.cons_append]
  gi_wp2_with (refine ⟨trivial, ?_⟩; gi_at_call 51; refine (callsIn_wide.2 CO.out).mono ?_; rintro e w1 ⟨v, rfl, hown, hb1⟩; obtain ⟨OA, oc, rfl⟩ := own_shape hown)
  have hcl : ∀ (k : Nat) f, ol[k]? = some f → ∃ q o, OA = some ⟨q, o, none⟩ ∧ (W.heap.size ≤ q ∧ q < w1.heap.size) ∧ m ≤ oc ∧ w1.cell? ⟨q, o + k, none⟩ = some (.int .i64 f) := fun k f hk => by
    have hml : k < m := by rw [HOL.out.2.2]; exact (List.getElem?_eq_some_iff.1 hk).1
    obtain ⟨g, c, e, hg, hnc, _, hc⟩ := own_open9 hown (by omega)
    injection e with e1 e2 e3
    subst e1 e3
    refine ⟨g, 0, rfl, ⟨(hown.lt g rfl).1, hg⟩, hnc, ?_⟩
    rw [Nat.zero_add]
    exact hc k _ (by rw [List.getElem?_map, hk]; rfl)
  have HC := Lib.hid hcl
  obtain ⟨T, hT⟩ : ∃ T : Nat → Prop, T = fun k => W.heap.size ≤ k ∧ k < w1.heap.size := ⟨_, rfl⟩
  have HT := Lib.hid hT
  have HN0 : Hid (ApNow J R T W w1 rs ol wd [] 0 0 [] w1) := Lib.hid
    ⟨HJ.out _ _ _ _ _ HJ0.out (OnlyAt.of_below hb1) (fun k hk => by rw [hT] at hk; exact .inr hk), keeps_below hb1, KeepsAt.refl _ _, by simp, fun r hr hf => by simp at hf, fun r hr => by simp at hr⟩
  have HTR := Lib.hid (show ∀ k, R k → ¬ T k from fun k hk hh => by rw [hT] at hh; have := HRlt.out k hk; omega)
  clear hown hb1 hcl hT CO HJ0 hfl
  gi_loopw [14] (fun i wr => ∃ k : Nat, k ≤ m ∧ i = .int .i64 k ∧ Hid (∃ pre, ApNow J R T W w1 rs ol wd [] k 0 pre wr))
    (fun i _ => m - (RowKit.intOf i).toNat)
  case atStart => exact ⟨0, Nat.zero_le _, rfl, Lib.hid ⟨[], HN0.out⟩⟩
  case round =>
    obtain ⟨k, hk, rfl, HI⟩ := hrel
    by_cases hlt : k < m
    · obtain ⟨f, hf⟩ : ∃ f, ol[k]? = some f := ⟨_, List.getElem?_eq_getElem (by have := HOL.out.2.2; omega)⟩
      obtain ⟨pre0, hnow⟩ := HI.out
      have hd := HS.out wr hnow.old
      obtain ⟨q0, o0, rfl, hq0, hmc, hcell⟩ := HC.out k f hf
      have cf := cell_keeps hnow.own hcell (by rw [HT.out]; exact hq0)
      have ct := hd.table
      have hfin : In64 f := HF.out.fin f ((HOL.out.1 f).1 (List.mem_of_getElem? hf))
      obtain ⟨UA, uc, hU⟩ := ruon_form (hd.tab.rows f)
      obtain ⟨q, hq⟩ : ∃ q, q = (ofFlag rs f).length := ⟨_, rfl⟩
      rw [← hq] at hU
      have hql : q ≤ rs.length := by rw [hq]; exact ofFlag_len rs f
      have hq1 : q ≤ 1000 := by have := HF.out.nr; omega
      have lk := look_tab (W := wr) hd.tab.map.choose_spec (hU ▸ hd.tab.at_ f) hfin
      have HK := Lib.hid (And.intro hf (And.intro hU (And.intro hq hql)))
      have HN := Lib.hid hnow
      clear hf hnow hd hcell hq0 hU hq hfin hql HI
      gi_wp2
      gi_loopw [22] (fun i wy => ∃ j : Nat, j ≤ q ∧ i = .int .i64 j ∧ Hid (∃ pre, ApNow J R T W w1 rs ol wd (ofFlag rs f) k j pre wy))
        (fun i _ => q - (RowKit.intOf i).toNat)
      case atStart => exact ⟨0, Nat.zero_le _, rfl, Lib.hid ⟨pre0, ⟨HN.out.inv, HN.out.old, HN.out.own, HN.out.mid.enter⟩⟩⟩
      case round =>
        clear lk cf ct
        obtain ⟨j, hj, rfl, HI2⟩ := hrel
        by_cases hjq : j < q
        · obtain ⟨r, hr⟩ : ∃ r, (ofFlag rs f)[j]? = some r := ⟨_, List.getElem?_eq_getElem (by have := HK.out.2.2.1; omega)⟩
          obtain ⟨pre, hnow⟩ := HI2.out
          have hd := HS.out wr hnow.old
          have hrow := hd.tab.rows f
          rw [HK.out.2.1] at hrow
          obtain ⟨rb, ro, rfl, hrb, hqc, c0, c1, c2, c3, c4, B, bc, c5, hit⟩ := ruon_open hrow j r hr
          have hmem : r ∈ rs ∧ r.flag = f := by
            have := List.mem_filter.1 (List.mem_of_getElem? hr)
            exact ⟨this.1, of_decide_eq_true this.2⟩
          have cw := hd.word
          have hb1 : Below wr.heap.size wr (wr.alloc (.cells #[.bool r.pre, .int .i64 r.flag, .bool r.cross, .string r.strip, .string r.add, .slice B r.cond.length bc] 51)) := (Below.refl _ _).alloc (Nat.le_refl _) _
          have hcw := (hb1.cell (p := ⟨be, 0, none⟩) (World.block_lt_of_cell? _ _ cw)).trans cw
          have hru : RuAt Wb (.agg #[.bool r.pre, .int .i64 r.flag, .bool r.cross, .string r.strip, .string r.add, .slice B r.cond.length bc]) r := ⟨B, bc, rfl, hit⟩
          have CA := Lib.hid (rapp_any (wr.alloc (.cells #[.bool r.pre, .int .i64 r.flag, .bool r.cross, .string r.strip, .string r.add, .slice B r.cond.length bc] 51)) _ r wd ((hru.sub hd.sub).keep hb1) (HF.out.fit r hmem.1) HF.out.word (tabs_below (tabs_sub HF.out.tabs hd.sub) hb1))
          have HX := Lib.hid (show ∀ wx, Below (wr.alloc (.cells #[.bool r.pre, .int .i64 r.flag, .bool r.cross, .string r.strip, .string r.add, .slice B r.cond.length bc] 51)).heap.size (wr.alloc (.cells #[.bool r.pre, .int .i64 r.flag, .bool r.cross, .string r.strip, .string r.add, .slice B r.cond.length bc] 51)) wx → _ from fun wx hb => box6 hb)
          have HB1 := Lib.hid hb1
          have HR := Lib.hid (And.intro hr (And.intro hmem hru))
          have HN2 := Lib.hid hnow
          obtain ⟨ok, hok⟩ : ∃ ok, ok = okB (applyR r wd) := ⟨_, rfl⟩
          obtain ⟨F, hF⟩ : ∃ F, F = applyR r wd := ⟨_, rfl⟩
          rw [← hok, ← hF] at CA
          have HOK := Lib.hid (And.intro hok hF)
          clear hr hnow hd hrow hit hmem hru hb1 hok hF HI2
          gi_wp2_with fail
          refine ⟨trivial, ?_⟩
          refine (callsIn_wide.2 CA.out).mono ?_
          rintro e w2 ⟨rfl, hb2⟩
          have hb12 : Below wr.heap.size wr w2 := HB1.out.trans (hb2.mono HB1.out.size)
          have hn2 : ApNow J R T W w1 rs ol wd (ofFlag rs f) k j pre w2 :=
            ⟨HJ.out.same HN2.out.inv (OnlyAt.of_below hb12), HN2.out.old.trans (keeps_below hb12), HN2.out.own.trans (keeps_below hb12), HN2.out.mid⟩
          obtain ⟨x0, x1, x2, x3, x4, x5⟩ := HX.out w2 hb2
          have HN3 := Lib.hid hn2
          clear hn2 hb2 hb12 c0 c1 c2 c3 c4 c5 cw hcw CA HB1 HX HN2
          have ew : IntKind.i64.wrap ((j : Int) + 1) = (j : Int) + 1 := IntWalk.i64_in _ (by omega)
          cases ok with
          | false =>
            have h0 : (applyR r wd).size = 0 := by
              have := HOK.out.1
              unfold okB at this
              simpa using this.symm
            have HN4 := Lib.hid (show ApNow J R T W w1 rs ol wd (ofFlag rs f) k (j + 1) pre w2 from ⟨HN3.out.inv, HN3.out.old, HN3.out.own, HN3.out.mid.skip HR.out.1 h0⟩)
            clear HN3 h0 HOK HR
            gi_wp2_with (refine ⟨fun _ h => (by cases h), ?_⟩)
            go_roundw
            case rel => exact ⟨j + 1, by omega, by go_num, Lib.hid ⟨pre, HN4.out⟩⟩
            case measure => simp [RowKit.intOf]; omega
          | true =>
            have hok : (applyR r wd).size ≠ 0 := by
              have := HOK.out.1
              unfold okB at this
              simpa using this.symm
            have hadm : ApAdm Wb rs fl wd pre ⟨.agg #[.bool r.pre, .int .i64 r.flag, .bool r.cross, .string r.strip, .string r.add, .slice B r.cond.length bc], r⟩ := by
              refine ⟨⟨HR.out.2.1.1, (HOL.out.1 _).1 (by rw [HR.out.2.1.2]; exact List.mem_of_getElem? HK.out.1), hok, HR.out.2.2⟩, ?_⟩
              have h1 := HN3.out.mid.1
              have h2 := HK.out.2.2.2
              have h3 : (k + 1) * rs.length ≤ fl.length * rs.length := Nat.mul_le_mul_right _ (by have := HOL.out.2.1; have := HOL.out.2.2; omega)
              rw [Nat.add_mul, Nat.one_mul] at h3
              omega
            obtain ⟨fn, tmps, assign, body, hy, hRd⟩ := HY.out T pre _ w2 hadm HN3.out.inv
            simp only [apEnc] at hy
            rw [← HOK.out.2] at hy
            have HRD := Lib.hid hRd
            clear hRd hadm hok
            gi_wp2
            refine (HRD.out).mono ?_
            rintro e W3 ⟨⟨rfl, hJ3⟩ | ⟨rfl, hJ3⟩, hk3⟩
            · have HN4 := Lib.hid (show ApNow J R T W w1 rs ol wd (ofFlag rs f) k (j + 1) _ W3 from ⟨hJ3, HN3.out.old.trans (hk3.mono fun _ h => .inl h), HN3.out.own.trans (hk3.mono fun _ h => .inr h), HN3.out.mid.push HR.out.1⟩)
              clear hJ3 hk3 HN3 HRD HR HOK hy x0 x1 x2 x3 x4 x5
              gi_wp2
              go_roundw
              case rel => exact ⟨j + 1, by omega, by go_num, Lib.hid ⟨_, HN4.out⟩⟩
              case measure => simp [RowKit.intOf]; omega
            · have HX3 := Lib.hid hJ3
              clear hJ3 hk3 HN3 HRD HR HOK hy x0 x1 x2 x3 x4 x5
              gi_wp2
              refine bodyPost_ret (results_none rfl _ _ _) rfl ?_
              exact ⟨⟨_, rfl⟩, _, _, .inr HX3.out⟩
        · obtain rfl : j = q := by omega
          have ew : IntKind.i64.wrap ((k : Int) + 1) = (k : Int) + 1 := IntWalk.i64_in _ (by omega)
          have HN5 := Lib.hid (show ∃ pre, ApNow J R T W w1 rs ol wd [] (k + 1) 0 pre wr from by
            obtain ⟨pre, h⟩ := HI2.out
            exact ⟨pre, h.inv, h.old, h.own, h.mid.next HK.out.2.2.1.symm HK.out.1⟩)
          clear HI2
          gi_wp2
          go_roundw
          case rel => exact ⟨k + 1, by omega, by go_num, Lib.hid HN5.out⟩
          case measure => simp [RowKit.intOf]; omega
    · obtain rfl : k = m := by omega
      have HE := Lib.hid (show ∃ pre, ApAll rs fl wd pre ∧ J T pre wr from by
        obtain ⟨pre, h⟩ := HI.out
        refine ⟨pre, fun r hr hf hok => h.mid.2.1 r hr ?_ hok, h.inv⟩
        rw [List.take_of_length_le (by have := HOL.out.2.2; omega)]
        exact (HOL.out.1 _).2 hf)
      clear HI
      gi_wp2
      go_end0
      obtain ⟨pre, h1, h2⟩ := HE.out
      exact ⟨⟨_, rfl⟩, _, _, .inl ⟨h1, h2⟩⟩
end Go.Proofs.YtcbmfkgekhadkaaGreatDoor
