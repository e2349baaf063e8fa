/- closure.Forms by contract. -/
import Derived.Test.YtcbmfkgekhadkaaGreatDoorZMade
import Derived.Test.YtcbmfkgekhadkaaGreatDoorZRise
import Derived.Sort.CutIn
import Derived.Deep.RegionHeld3
import Derived.Maps.OwnIn
namespace Go.Proofs.YtcbmfkgekhadkaaGreatDoor
open Go Go.RowKit Go.Lib Go.Shelf Go.Maps
attribute [local go_sem] Oper.semAt_some alloc_set

/-- What is asked of an entry and of rules. -/
structure ZArg (rs : List Ru) (e : En) : Prop where
  fit : ∀ r ∈ rs, FitR r
  rin : ∀ r ∈ rs, In64 r.flag
  fin : ∀ f ∈ e.flags, In64 f
  word : e.word.size ≤ 1000000000
  nr : rs.length ≤ 1000
  nf : e.flags.length ≤ 1000
/-- A set of texts that have come. -/
structure SetQ (w : World) (bm : Nat) (D : DataW Unit) (k : Nat) (p : ByteArray → Prop) : Prop where
  own : w.ownsMap Tryz.prog 9 unitElem bm k D
  mem : ∀ x : ByteArray, Maps.has D (.string x.data.toList) = true ↔ p x

theorem StrsAt.sub {w w' : World} {v : Value} {l : List ByteArray} (h : StrsAt w v l) (hs : Sub w w') : StrsAt w' v l := by
  rcases h with h | ⟨b, off, cap, rfl, h1, h2, h3, h4⟩
  · exact .inl h
  · exact .inr ⟨b, off, cap, rfl, Nat.lt_of_lt_of_le h1 hs.1, h2, h3, fun i c hc => hs.2 _ _ (h4 i c hc)⟩
theorem sub_putDefer {W : World} {d : Nat} {x : Option (List Deferred)} (h : W.heap[d]? = some (.deferred x)) (o : Obj) : Sub W (W.putObj d o) := by
  refine ⟨by simp, fun a v ha => ?_⟩
  have hne : a.block ≠ d := by
    intro e
    obtain ⟨c, t, f, hc⟩ := CellsOf.of_cell ha
    rw [e, h] at hc
    cases hc
  unfold World.cell? at ha ⊢
  rw [World.putObj_heap_other hne]
  exact ha
theorem apply_size (r : Ru) (wd : ByteArray) : (applyR r wd).size ≤ wd.size + r.add.size := by
  unfold applyR
  split
  · exact Nat.zero_le _
  · split
    · split
      · rw [ByteArray.size_append, ByteArray.size_extract]; omega
      · exact Nat.zero_le _
    · split
      · rw [ByteArray.size_append, ByteArray.size_extract]; omega
      · exact Nat.zero_le _
theorem both_size (p s : Ru) (wd : ByteArray) : (bothR p s wd).size ≤ wd.size + p.add.size + s.add.size := by
  unfold bothR
  split
  · rw [ByteArray.size_append, ByteArray.size_append, ByteArray.size_extract]; omega
  · exact Nat.zero_le _
theorem form_size {rs : List Ru} {e : En} {x : ByteArray} (hA : ZArg rs e) (h : IsForm rs e x) : x.size ≤ 3000000000 := by
  have hw := hA.word
  rcases h with rfl | ⟨r, hr, -, -, rfl⟩ | ⟨p, hp, s, hs, -, -, -, rfl⟩
  · omega
  · have := apply_size r e.word; have := (hA.fit r hr).add; omega
  · have := both_size p s e.word; have := (hA.fit p hp).add; have := (hA.fit s hs).add; omega
theorem fmMax_le {rs : List Ru} {fl : List Int} (h1 : rs.length ≤ 1000) (h2 : fl.length ≤ 1000) : fmMax rs fl ≤ 1000001000002 := by
  unfold fmMax
  have h3 : fl.length * rs.length ≤ 1000 * 1000 := Nat.mul_le_mul h2 h1
  have h4 := Nat.mul_le_mul h3 h3
  omega
theorem SetQ.put {w w' : World} {bm : Nat} {D : DataW Unit} {k k' : Nat} {p : ByteArray → Prop} (h : SetQ w bm D k p) {x : ByteArray} (hx : x.size ≤ maxLen) (hown : w'.ownsMap Tryz.prog 9 unitElem bm k' (D.put (.string x.data.toList) (.agg []))) : SetQ w' bm (D.put (.string x.data.toList) (.agg [])) k' (fun y => y = x ∨ p y) := by
  refine ⟨hown, fun y => ?_⟩
  by_cases e : y = x
  · subst e
    rw [has_put_same h.own.isMap (keyed_str.key (key_str hx))]
    simp
  · rw [has_put_other (fun hh => e (by
      injection hh with hh
      have : y.data = x.data := Array.toList_inj.1 hh
      cases y; cases x; simp at this; rw [this])), h.mem]
    simp [e]

set_option maxRecDepth 100000 in
set_option maxHeartbeats 4000000 in
theorem forms_any (w : World) (v : Value) (rs : List Ru) (A : Option Addr) (n cap : Nat) (wd : ByteArray) (fl : List Int) (hr : RulesAt w v rs) (hI : IntsAt w (.slice A n cap) fl) (hT : Tabs9 w) (hA : ZArg rs ⟨wd, fl⟩) :
    Calls Tryz.prog 11 #[v, .agg #[.string wd, .slice A n cap]] w fun e w' => ∃ v', e = .returned v' ∧ StrsAt w' v' (formsL rs ⟨wd, fl⟩) ∧ Below w.heap.size w w' := by
  have CB := Lib.hid (fun wx (hb : Below w.heap.size w wx) => byflag_any wx v rs (hr.keep hb) (by have := hA.nr; omega) hA.rin)
  obtain ⟨SA, sc, rfl⟩ := rules_form hr
  obtain ⟨sn, hsn⟩ : ∃ sn, sn = rs.length := ⟨_, rfl⟩
  rw [← hsn] at hr CB ⊢
  have HA := Lib.hid (And.intro hr (And.intro hI (And.intro hT hA)))
  have hmm := @run_makeMap Tryz.prog
  clear hr hI hT hA hsn
  refine (callsIn_wide (n := 6)).1 ?_
  refine callsIn_of_wp_marks Tryz.func11 rfl trivial ?_ rfl
  simp only [Tryz.ntmps11, List.size_toArray, List.length_cons, List.length_nil, Nat.reduceAdd, Nat.reduceSub, Array.replicate_succ, Array.replicate_zero, List.push_toArray, List.append_toArray, List.nil_append, List.cons_append]
  gi_upto_region 2 with fail
  obtain ⟨wq, hwq⟩ : ∃ wq, wq = (((w.alloc (.cells #[.string wd, .slice A n cap] 25)).alloc (.map #[] 0)).alloc (.cells #[.map (some (w.heap.size + 1))] 59)) := ⟨_, rfl⟩
  have hbq : Below w.heap.size w wq := by
    rw [hwq]
    exact (((Below.refl _ _).alloc (Nat.le_refl _) _).alloc (by simp) _).alloc (by simp; omega) _
  have hsq : wq.heap.size = w.heap.size + 3 := by rw [hwq]; simp
  have h0 : wq.heap[w.heap.size]? = some (.cells #[.string wd, .slice A n cap] 25 (0, 0)) := by rw [hwq]; exact heap_up (heap_up (heap_top w _ rfl) _) _
  have h1 : wq.heap[w.heap.size + 1]? = some (.map #[] 0) := by rw [hwq]; exact heap_up (heap_top _ _ (by rw [World.size_alloc])) _
  have h2 : wq.heap[w.heap.size + 2]? = some (.cells #[.map (some (w.heap.size + 1))] 59 (0, 0)) := by rw [hwq]; exact heap_top _ _ (by simp only [World.size_alloc])
  have e0 : wq.cell? ⟨w.heap.size, 0, none⟩ = some (.string wd) := by simp [World.cell?, h0]
  have e1 : wq.cell? ⟨w.heap.size, 1, none⟩ = some (.slice A n cap) := by simp [World.cell?, h0]
  rw [← hwq]
  simp only [Nat.add_assoc, Nat.reduceAdd]
  clear hwq hmm
  have HQ := Lib.hid (And.intro hbq (And.intro hsq (And.intro h0 (And.intro h1 h2))))
  clear hbq hsq h0 h1 h2
  have HB1 := Lib.hid (HQ.out.1.drew)
  have HC := Lib.hid (show ∀ w1, Below wq.drew.heap.size wq.drew w1 → (w1.cell? ⟨w.heap.size, 0, none⟩ = some (.string wd) ∧ w1.cell? ⟨w.heap.size, 1, none⟩ = some (.slice A n cap)) ∧ Below wq.heap.size wq w1 from fun w1 hb => by
    have hb' : Below wq.heap.size wq w1 := (Below.refl wq.heap.size wq).drew.trans hb
    exact ⟨⟨(cell_old (p := ⟨w.heap.size, 0, none⟩) hb' (World.block_lt_of_cell? _ _ e0)).trans e0, (cell_old (p := ⟨w.heap.size, 1, none⟩) hb' (World.block_lt_of_cell? _ _ e1)).trans e1⟩, hb'⟩)
  have CM := Lib.hid (fun wx => made_call (some wq.heap.size) wd A n cap wx)
  refine wpIn_wide.2 (wp_region_noPanic ?_)
  go_region_with (first
    | (go_at_call 22; refine (CB.out _ HB1.out).mono ?_; rintro e w1 ⟨rfl, htab, hb1⟩; obtain ⟨⟨z0, z1⟩, hb2⟩ := HC.out w1 hb1; have HTB := Lib.hid (And.intro htab hb2); clear htab hb2 hb1)
    | (go_at_call 23; refine (CM.out _).mono ?_; rintro e w2 ⟨rfl, rfl⟩))
  all_goals
    refine NoPanic.normal ?_
    clear z0 z1 e0 e1 CM
    obtain ⟨D, U, htf⟩ := HTB.out.1.named
    have hb3 : Below w1.heap.size w1 ((w1.alloc (.cells #[.map (some wq.heap.size)] 63)).alloc (.cells #[.string wd, .slice A n cap] 25)) := ((Below.refl _ _).alloc (Nat.le_refl _) _).alloc (by simp) _
    have n0 : ((w1.alloc (.cells #[.map (some wq.heap.size)] 63)).alloc (.cells #[.string wd, .slice A n cap] 25)).heap[w1.heap.size]? = some (.cells #[.map (some wq.heap.size)] 63 (0, 0)) := heap_up (heap_top _ _ rfl) _
    have n1 : ((w1.alloc (.cells #[.map (some wq.heap.size)] 63)).alloc (.cells #[.string wd, .slice A n cap] 25)).heap[w1.heap.size + 1]? = some (.cells #[.string wd, .slice A n cap] 25 (0, 0)) := heap_top _ _ (by rw [World.size_alloc])
    have HTF := Lib.hid htf
    have hq1 := HTB.out.2.size
    have hqs := HQ.out.2.1
    have htl := htf.map.choose_spec.lt
    clear htf
    gi_wp2
    revert hb3 n0 n1
    generalize ((w1.alloc (.cells #[.map (some wq.heap.size)] 63)).alloc (.cells #[.string wd, .slice A n cap] 25)) = w3
    intro hb3 n0 n1
    have hsz3 := (Array.getElem?_eq_some_iff.1 n1).1
    have hb13 : Below wq.heap.size wq w3 := HTB.out.2.trans (hb3.mono HTB.out.2.size)
    have hbw3 : Below w.heap.size w w3 := HQ.out.1.trans (hb13.mono HQ.out.1.size)
    have hm3 : w3.heap[w.heap.size + 1]? = some (.map #[] 0) := (hb13.block _ (by omega)).trans HQ.out.2.2.2.1
    have hf3 : w3.heap[w.heap.size + 2]? = some (.cells #[.map (some (w.heap.size + 1))] 59 (0, 0)) := (hb13.block _ (by omega)).trans HQ.out.2.2.2.2
    have hfix : AFix wq.drew rs fl wd A n cap :=
      ⟨HA.out.2.1.keep HB1.out, tabs_below HA.out.2.2.1 HB1.out, HA.out.2.2.2.fit, HA.out.2.2.2.rin, HA.out.2.2.2.fin, HA.out.2.2.2.word, HA.out.2.2.2.nr, HA.out.2.2.2.nf⟩
    have hdat : ∀ W', KeepsAt (fun k => CellsOf w3 k ∨ k = wq.heap.size) w3 W' → AData wq.drew (w1.heap.size + 1) w1.heap.size wq.heap.size rs D U wd A n cap W' := fun W' hk => by
      have hs3 : Sub w3 W' := Sub.of_keeps hk fun _ h => .inl h
      have hs1 : Sub w1 W' := (Sub.of_below hb3).trans hs3
      refine ⟨(show Sub wq.drew w1 from Sub.of_below (w := wq) HTB.out.2).trans hs1, HTF.out.on hs1 ((hk.block _ (by have := hb3.size; omega) (.inr rfl)).trans (hb3.block _ htl)), hs3.2 _ _ ?_, hs3.2 _ _ ?_, hs3.2 _ _ ?_⟩
      · simp [World.cell?, n1]
      · simp [World.cell?, n1]
      · simp [World.cell?, n0]
    have HDAT := Lib.hid hdat
    have HFIX := Lib.hid hfix
    have HR3 := Lib.hid (show ∀ k, (CellsOf w3 k ∨ k = wq.heap.size) → k < w3.heap.size from fun k h => h.elim CellsOf.lt fun e => by have := hb3.size; omega)
    have HM3 := Lib.hid (And.intro hm3 (And.intro hf3 (And.intro hbw3 (And.intro hq1 hqs))))
    have hlim : fmMax rs fl ≤ 1000001000002 := fmMax_le HA.out.2.2.2.nr HA.out.2.2.2.nf
    have HLIM := Lib.hid hlim
    clear hdat hfix hm3 hf3 hbw3 hb13 hb3 n0 n1 HTF htl hlim hq1 hqs
    refine wpIn_stops (R := fun k => CellsOf w3 k ∨ k = wq.heap.size) (gf := 38) (lb := #[.pointer (some ⟨w1.heap.size + 1, 0, none⟩), .pointer (some ⟨w1.heap.size, 0, none⟩)]) rfl (enters_of Tryz.func38 (by kernel_rfl) rfl) (by omega) (encs := fmEnc) (Adm := FmAdm rs ⟨wd, fl⟩) (S := FmAll rs ⟨wd, fl⟩)
      (fun W1' ho => made_stops wq.drew (w1.heap.size + 1) w1.heap.size wq.heap.size rs D U fl wd A n cap HFIX.out _ W1' (fun W' hk => HDAT.out W' ((KeepsAt.of_only ho (fun _ _ h => h)).trans hk)) (fun k hk => Nat.lt_of_lt_of_le (HR3.out k hk) ho.size))
      (fun _ => rfl) HR3.out
      (fun T pre W' => ∃ D', SetQ W' (w.heap.size + 1) D' pre.length (· ∈ pre) ∧ (∀ k, T k → w3.heap.size ≤ k) ∧ KeepsAt (fun k => CellsOf w3 k ∨ k = wq.heap.size) w3 W' ∧ Below w.heap.size w W' ∧ pre.length ≤ fmMax rs fl ∧ ∀ x ∈ pre, IsForm rs ⟨wd, fl⟩ x)
      ?stab (fun _ _ _ _ => False) (fun _ _ _ _ _ _ h _ _ => h) ?start
      (fun T pre x a' W' => (∃ D', SetQ W' (w.heap.size + 1) D' pre.length (· ∈ pre) ∧ (∀ k, T k → w3.heap.size ≤ k) ∧ KeepsAt (fun k => CellsOf w3 k ∨ k = wq.heap.size) w3 W' ∧ Below w.heap.size w W' ∧ pre.length ≤ fmMax rs fl ∧ ∀ x ∈ pre, IsForm rs ⟨wd, fl⟩ x) ∧
        a' = { tmps := #[.slice SA sn sc, .agg #[.string wd, .slice A n cap], undef, .pointer (some ⟨w.heap.size, 0, none⟩), .slice none 0 0, .pointer (some ⟨w.heap.size + 2, 0, none⟩), .string x, .map (some (w.heap.size + 1)), .slice SA sn sc, .map (some wq.heap.size), .agg #[.string wd, .slice A n cap], .func (.func 38) #[] #[.pointer (some ⟨w1.heap.size + 1, 0, none⟩), .pointer (some ⟨w1.heap.size, 0, none⟩)], .string x, undef, undef, undef, undef, undef], defers := [] })
      ?staba ?assign ?body ?done ?stop
    case stab =>
      rintro T T' pre U V ⟨D', h, hT, hk, hb, hn, hx⟩ ho ht
      have hsT : w3.heap.size ≤ U.heap.size := hk.size
      have hnm : ¬ T (w.heap.size + 1) := fun hh => by have := hT _ hh; have := HM3.out.2.2.2; omega
      refine ⟨D', ⟨omap_same h.own (ho.block _ h.own.lt hnm), h.mem⟩, fun k hk' => ?_, hk.trans ⟨ho.size, fun k hk' hr => ho.block k hk' (fun hh => by have := hT _ hh; have := HR3.out k hr; omega)⟩, ?_, hn, hx⟩
      · rcases ht k hk' with h' | h'
        · exact hT k h'
        · omega
      · exact OnlyAt.below hb ho hb.size (fun k hh => by have := hT _ hh; have := HM3.out.2.2.1.size; omega)
    case start =>
      refine ⟨.map [], ⟨?_, fun x => ?_⟩, fun _ h => h.elim, KeepsAt.refl _ _, HM3.out.2.2.1, Nat.zero_le _, fun x hx => by cases hx⟩
      · have := World.ownsMap_made (H := Unit) w Tryz.prog 9 unitElem
        obtain ⟨es, clock, h1, h2⟩ := this
        have h3 := (World.alloc_heap_new w (.map #[] 0)).symm.trans h1
        exact ⟨es, clock, HM3.out.1.trans h3, h2⟩
      · simp [Maps.has]
    case staba =>
      rintro pre x a' T T' _ U V ⟨⟨D', h, hT, hk, hb, hn, hx⟩, ha⟩ ho ht
      have hsT : w3.heap.size ≤ U.heap.size := hk.size
      have hnm : ¬ T (w.heap.size + 1) := fun hh => by have := hT _ hh; have := HM3.out.2.2.2; omega
      refine ⟨⟨D', ⟨omap_same h.own (ho.block _ h.own.lt hnm), h.mem⟩, fun k hk' => ?_, hk.trans ⟨ho.size, fun k hk' hr => ho.block k hk' (fun hh => by have := hT _ hh; have := HR3.out k hr; omega)⟩, ?_, hn, hx⟩, ha⟩
      · rcases ht k hk' with h' | h'
        · exact hT k h'
        · omega
      · exact OnlyAt.below hb ho hb.size (fun k hh => by have := hT _ hh; have := HM3.out.2.2.1.size; omega)
    case assign =>
      rintro l2 T pre x W' K hadm hI hlt hK
      simp only [fmEnc]
      gi_wp2
      exact hK _ _ (OnlyAt.refl _ _) ⟨hI, rfl⟩
    case body =>
      rintro l2 T pre x a' W' hadm ⟨⟨D', h, hT, hk, hb, hn, hx⟩, rfl⟩ hlt
      have c2 : W'.cell? ⟨w.heap.size + 2, 0, none⟩ = some (.map (some (w.heap.size + 1))) := by
        have hc : CellsOf w3 (w.heap.size + 2) := ⟨_, _, _, HM3.out.2.1⟩
        have := (hk.block _ hc.lt (.inl hc)).trans HM3.out.2.1
        simp [World.cell?, this]
      have hxs : x.size ≤ maxLen := by have := form_size HA.out.2.2.2 hadm.1; unfold maxLen; omega
      have hlm : pre.length < maxLen := by have := hadm.2; have := HLIM.out; unfold maxLen; show pre.length < _; exact Nat.lt_of_lt_of_le hadm.2 (by show fmMax rs fl ≤ _; omega)
      have HI := Lib.hid (And.intro h (And.intro hT (And.intro hk hb)))
      have HX := Lib.hid (And.intro hx (And.intro hadm.1 (And.intro hadm.2 (And.intro hxs hlm))))
      clear h hT hk hb hn hx hadm hxs hlm
      gi_wp2_with (gi_at_mapUpdate; refine wpListIn_mapUpdate_own _ rfl _ _ _ 59 rfl 9 _ keyed_str Tryz.underlying59 _ (w.heap.size + 1) pre.length _ rfl HI.out.1.own HX.out.2.2.2.2 _ _ _ rfl rfl (key_str HX.out.2.2.2.1) _ [] unitElem_mk ?_; intro W4 hown4 hg4)
      have hm4 := HI.out.1.put HX.out.2.2.2.1 hown4
      have ho4 : OnlyAt (fun k => k = w.heap.size + 1) W' W4 := OnlyAt.of_grown hg4 (fun k e => by cases e; rfl)
      have hnm : ∀ k, (CellsOf w3 k ∨ k = wq.heap.size) → k ≠ w.heap.size + 1 := by
        rintro k (⟨c, t, f, hc⟩ | rfl) e
        · rw [e, HM3.out.1] at hc; cases hc
        · have := HM3.out.2.2.2; omega
      have hm5 : SetQ W4 (w.heap.size + 1) (D'.put (.string x.data.toList) (.agg [])) (pre ++ [x]).length (· ∈ pre ++ [x]) := by
        refine ⟨by rw [List.length_append]; exact hm4.own, fun y => ?_⟩
        rw [hm4.mem, List.mem_append, List.mem_singleton, or_comm]
      refine ⟨⟨⟨_, hm5⟩, HI.out.2.1, HI.out.2.2.1.trans ⟨ho4.size, fun k hk hr => ho4.block k hk (hnm k hr)⟩, ?_, ?_, ?_⟩, ⟨ho4.size, fun k hk hr => ho4.block k hk ?_⟩⟩
      · exact OnlyAt.below HI.out.2.2.2 ho4 HI.out.2.2.2.size (fun k hh => by omega)
      · rw [List.length_append]; exact HX.out.2.2.1
      · intro y hy
        rcases List.mem_append.1 hy with hy | hy
        · exact HX.out.1 y hy
        · rw [List.mem_singleton.1 hy]; exact HX.out.2.1
      · rcases hr with hr | hr
        · exact hnm k hr
        · have := HI.out.2.1 k hr; have := HM3.out.2.2.1.size; have := HM3.out.2.2.2; omega
    case done =>
      rintro Dd T xs W' hD hTD hall ⟨D', h, hT, hk, hb, hn, hx⟩ hK
      have c2 : W'.cell? ⟨w.heap.size + 2, 0, none⟩ = some (.map (some (w.heap.size + 1))) := by
        have hc : CellsOf w3 (w.heap.size + 2) := ⟨_, _, _, HM3.out.2.1⟩
        have := (hk.block _ hc.lt (.inl hc)).trans HM3.out.2.1
        simp [World.cell?, this]
      have hsz : Maps.size D' ≤ 5000000000000 := by have := h.own.size_le; have := HLIM.out; omega
      have CR := Lib.hid (rising_any (w.heap.size + 1) xs.length D' W' h.own hsz (formsL rs ⟨wd, fl⟩) (forms_rising _ _) (fun x => by
        rw [forms_mem, h.mem]
        exact ⟨fun hf => hall x hf, fun hf => hx x hf⟩))
      have HKD := Lib.hid (And.intro hK (And.intro hD (And.intro hb HM3.out.2.2.1.size)))
      clear h hT hk hb hn hx hK hsz hall
      gi_wp2_with (refine ⟨trivial, ?_⟩; gi_at_call 24; refine (callsIn_wide.2 CR.out).mono ?_; rintro e W4 ⟨v, rfl, hst, hb4⟩)
      have hD4 : W4.heap[Dd]? = some (.deferred (some [])) := (hb4.block Dd (Array.getElem?_eq_some_iff.1 HKD.out.1).1).trans HKD.out.1
      have HF := Lib.hid (And.intro hst (And.intro hb4 hD4))
      clear hst hb4 hD4 CR c2
      refine ⟨by simp, .inl ⟨_, _, rfl, run_takeDeferred HF.out.2.2, ?_⟩⟩
      refine ⟨_, results_tmp rfl _ _ _, v, rfl, HF.out.1.sub (sub_putDefer HF.out.2.2 _), ?_⟩
      exact OnlyAt.below (HKD.out.2.2.1.trans (HF.out.2.1.mono HKD.out.2.2.1.size)) (OnlyAt.putObj (T := fun k => k = Dd) _ _ _ rfl) (Nat.le_trans HKD.out.2.2.1.size HF.out.2.1.size) (fun k hk => by have := HKD.out.2.1; have := HKD.out.2.2.2; omega)
    case stop =>
      rintro _ _ _ _ _ _ _ h
      exact h.elim
end Go.Proofs.YtcbmfkgekhadkaaGreatDoor
