/- closure.made: an iterator over an entry's forms, by its contract. -/
import Derived.Test.YtcbmfkgekhadkaaGreatDoorZCross
namespace Go.Proofs.YtcbmfkgekhadkaaGreatDoor
open Go Go.RowKit Go.Lib Go.Shelf Go.Maps
attribute [local go_sem] Oper.semAt_some alloc_set

theorem applied_call (b : Option Nat) (wd : ByteArray) (A : Option Addr) (n cap : Nat) (w : World) : Calls Tryz.prog 39 #[.map b, .agg #[.string wd, .slice A n cap]] w fun e w' =>
    e = .returned (.func (.func 60) #[] #[.pointer (some ⟨w.heap.size + 1, 0, none⟩), .pointer (some ⟨w.heap.size, 0, none⟩)]) ∧ w' = (w.alloc (.cells #[.map b] 63)).alloc (.cells #[.string wd, .slice A n cap] 25) := by
  go_enter Tryz.func39, Tryz.ntmps39
  go_wp2
  go_ret
  exact ⟨rfl, rfl⟩
theorem made_call (b : Option Nat) (wd : ByteArray) (A : Option Addr) (n cap : Nat) (w : World) : Calls Tryz.prog 23 #[.map b, .agg #[.string wd, .slice A n cap]] w fun e w' =>
    e = .returned (.func (.func 38) #[] #[.pointer (some ⟨w.heap.size + 1, 0, none⟩), .pointer (some ⟨w.heap.size, 0, none⟩)]) ∧ w' = (w.alloc (.cells #[.map b] 63)).alloc (.cells #[.string wd, .slice A n cap] 25) := by
  go_enter Tryz.func23, Tryz.ntmps23
  go_wp2
  go_ret
  exact ⟨rfl, rfl⟩

def fmEnc (x : ByteArray) : Array Value := #[.string x]
def fmMax (rs : List Ru) (fl : List Int) : Nat := 2 + fl.length * rs.length + (fl.length * rs.length) * (fl.length * rs.length)
def FmAdm (rs : List Ru) (e : En) (pre : List ByteArray) (x : ByteArray) : Prop := IsForm rs e x ∧ pre.length < fmMax rs e.flags
def FmAll (rs : List Ru) (e : En) (xs : List ByteArray) : Prop := ∀ x, IsForm rs e x → x ∈ xs
/-- A rule of one end that applies and goes together with the other end's. -/
def GoodR (rs : List Ru) (fl : List Int) (wd : ByteArray) (P : Bool) (r : Ru) : Prop := r ∈ rs ∧ r.flag ∈ fl ∧ (applyR r wd).size ≠ 0 ∧ r.pre = P ∧ r.cross = true
/-- A crossing: its entries are such rules; whatever rule of those that came is such a one has one of its act there. -/
structure CrQ (Wb : World) (rs : List Ru) (fl : List Int) (wd : ByteArray) (P : Bool) (D : DataW Value) (pre : List AP) : Prop where
  ent : EntsOk Wb (GoodR rs fl wd P) D
  all : ∀ x ∈ pre, x.r.pre = P → x.r.cross = true → ∃ kl, ActKey x.r.strip x.r.add kl ∧ Maps.has D kl = true
theorem CrQ.nil (Wb : World) (rs : List Ru) (fl : List Int) (wd : ByteArray) (P : Bool) : CrQ Wb rs fl wd P (.map []) [] :=
  ⟨fun kl y h => (by
    have h1 : DataW.nil = y := h .nil
    have h2 : DataW.held Value.nilFunc = y := h (.held .nilFunc)
    rw [← h1] at h2
    cases h2), fun x hx => by simp at hx⟩
theorem CrQ.skip {Wb : World} {rs : List Ru} {fl : List Int} {wd : ByteArray} {P : Bool} {D : DataW Value} {pre : List AP} (h : CrQ Wb rs fl wd P D pre) {x : AP} (hx : x.r.pre ≠ P ∨ x.r.cross = false) : CrQ Wb rs fl wd P D (pre ++ [x]) := by
  refine ⟨h.ent, fun y hy hp hc => ?_⟩
  rcases List.mem_append.1 hy with hy | hy
  · exact h.all y hy hp hc
  · simp at hy; subst hy
    rcases hx with hx | hx
    · exact absurd hp hx
    · rw [hc] at hx; cases hx
theorem CrQ.put {Wb : World} {rs : List Ru} {fl : List Int} {wd : ByteArray} {P : Bool} {D : DataW Value} {pre : List AP} (h : CrQ Wb rs fl wd P D pre) (hD : IsMap D) {x : AP} {kl : Lit} (hk : ActKey x.r.strip x.r.add kl) (hv : RuAt Wb x.rv x.r) (hg : GoodR rs fl wd P x.r) : CrQ Wb rs fl wd P (D.put kl (.held x.rv)) (pre ++ [x]) := by
  have hkl : WideAt.IsKeyLit kl := keyed_act.key hk
  refine ⟨fun kl' y hy => ?_, fun y hy hp hc => ?_⟩
  · by_cases e : kl' = kl
    · subst e
      have h1 := hy .nil
      rw [atKey_put_same hD hkl] at h1
      exact ⟨x.rv, x.r, h1.symm, hv, hg, hk⟩
    · exact h.ent kl' y (fun z => by have := hy z; rwa [atKey_put_other e] at this)
  · rcases List.mem_append.1 hy with hy | hy
    · obtain ⟨kl', h1, h2⟩ := h.all y hy hp hc
      by_cases e : kl' = kl
      · subst e; exact ⟨kl', h1, has_put_same hD hkl _⟩
      · exact ⟨kl', h1, by rw [has_put_other e]; exact h2⟩
    · simp at hy; subst hy
      exact ⟨kl, hk, has_put_same hD hkl _⟩

theorem heap_up {w : World} {k : Nat} {o : Obj} (h : w.heap[k]? = some o) (o' : Obj) : (w.alloc o').heap[k]? = some o := (Below.heap_alloc _ _ _ (Array.getElem?_eq_some_iff.1 h).1).trans h
theorem heap_top (w : World) (o : Obj) {k : Nat} (hk : w.heap.size = k) : (w.alloc o).heap[k]? = some o := hk ▸ World.alloc_heap_new w o
theorem alloc6 (w : World) (o0 o1 o2 o3 o4 o5 : Obj) : ((((((w.alloc o0).alloc o1).alloc o2).alloc o3).alloc o4).alloc o5).heap[w.heap.size]? = some o0 ∧ ((((((w.alloc o0).alloc o1).alloc o2).alloc o3).alloc o4).alloc o5).heap[w.heap.size + 1]? = some o1 ∧
    ((((((w.alloc o0).alloc o1).alloc o2).alloc o3).alloc o4).alloc o5).heap[w.heap.size + 2]? = some o2 ∧ ((((((w.alloc o0).alloc o1).alloc o2).alloc o3).alloc o4).alloc o5).heap[w.heap.size + 3]? = some o3 ∧
    ((((((w.alloc o0).alloc o1).alloc o2).alloc o3).alloc o4).alloc o5).heap[w.heap.size + 4]? = some o4 ∧ ((((((w.alloc o0).alloc o1).alloc o2).alloc o3).alloc o4).alloc o5).heap[w.heap.size + 5]? = some o5 :=
  ⟨heap_up (heap_up (heap_up (heap_up (heap_up (heap_top w o0 rfl) _) _) _) _) _, heap_up (heap_up (heap_up (heap_up (heap_top _ o1 (by rw [World.size_alloc])) _) _) _) _, heap_up (heap_up (heap_up (heap_top _ o2 (by simp only [World.size_alloc])) _) _) _,
    heap_up (heap_up (heap_top _ o3 (by simp only [World.size_alloc])) _) _, heap_up (heap_top _ o4 (by simp only [World.size_alloc])) _, heap_top _ o5 (by simp only [World.size_alloc])⟩

/-- What holds between two rounds of the loop over the rules that apply. m: where the two maps lie; O: what the call has laid; E: what the round has laid. -/
structure MNow (J : (Nat → Prop) → List ByteArray → World → Prop) (Wb w : World) (rs : List Ru) (fl : List Int) (wd : ByteArray) (R O E T : Nat → Prop) (m : Nat) (pre : List AP) (outs : List ByteArray) (Dp Ds : DataW Value) (W' : World) : Prop where
  inv : J (fun k => T k ∨ O k ∨ E k) outs W'
  low : ∀ k, T k → w.heap.size ≤ k
  old : KeepsAt (fun k => R k ∨ (O k ∧ k ≠ m ∧ k ≠ m + 1)) w W'
  ownP : W'.ownsMap Tryz.prog 113 crossR m pre.length Dp
  ownS : W'.ownsMap Tryz.prog 113 crossR (m + 1) pre.length Ds
  crP : CrQ Wb rs fl wd true Dp pre
  crS : CrQ Wb rs fl wd false Ds pre
  num : pre.length ≤ fl.length * rs.length
theorem MNow.stab {J : (Nat → Prop) → List ByteArray → World → Prop} {Wb w : World} {rs : List Ru} {fl : List Int} {wd : ByteArray} {R O E E' T T' : Nat → Prop} {m : Nat} {pre : List AP} {outs : List ByteArray} {Dp Ds : DataW Value} {U V : World}
    (h : MNow J Wb w rs fl wd R O E T m pre outs Dp Ds U) (hJ : Stab J) (hO : ∀ k, (R k ∨ O k) → k < w.heap.size) (hm : O m ∧ O (m + 1)) (ho : OnlyAt T U V) (ht : ∀ k, T' k → T k ∨ (U.heap.size ≤ k ∧ k < V.heap.size)) (he : ∀ k, E' k → E k ∨ (U.heap.size ≤ k ∧ k < V.heap.size)) :
    MNow J Wb w rs fl wd R O E' T' m pre outs Dp Ds V := by
  have hz := ho.size
  have hwz := h.old.size
  have hT : ∀ k, (R k ∨ O k) → ¬ T k := fun k hk hh => by have := hO k hk; have := h.low k hh; omega
  refine ⟨hJ _ _ _ _ _ h.inv (ho.mono fun _ hk => .inl hk) ?_, fun k hk => ?_, h.old.trans ⟨hz, fun k hk hr => ho.block k hk (hT k (hr.imp id fun x => x.1))⟩, omap_same h.ownP (ho.block m h.ownP.lt (hT m (.inr hm.1))), omap_same h.ownS (ho.block _ h.ownS.lt (hT _ (.inr hm.2))), h.crP, h.crS, h.num⟩
  · rintro j (hj | hj | hj)
    · rcases ht j hj with h | h
      · exact .inl (.inl h)
      · exact .inr h
    · exact .inl (.inr (.inl hj))
    · rcases he j hj with h | h
      · exact .inl (.inr (.inr h))
      · exact .inr h
  · rcases ht k hk with h' | h'
    · exact h.low k h'
    · omega
def outsOf (wd : ByteArray) (pre : List AP) : List ByteArray := wd :: pre.map fun x => applyR x.r wd
theorem outsOf_snoc (wd : ByteArray) (pre : List AP) (x : AP) : outsOf wd (pre ++ [x]) = outsOf wd pre ++ [applyR x.r wd] := by simp [outsOf]
theorem outsOf_len (wd : ByteArray) (pre : List AP) : (outsOf wd pre).length = pre.length + 1 := by simp [outsOf]
theorem outsOf_mem (wd : ByteArray) (pre : List AP) (y : ByteArray) : y ∈ outsOf wd pre ↔ y = wd ∨ ∃ x ∈ pre, applyR x.r wd = y := by simp [outsOf]

set_option maxRecDepth 100000 in
set_option maxHeartbeats 4000000 in
theorem made_stops (Wb : World) (be bt b : Nat) (rs : List Ru) (D : DataW Value) (U : Int → Value) (fl : List Int) (wd : ByteArray) (A : Option Addr) (n cap : Nat) (hF : AFix Wb rs fl wd A n cap) (R : Nat → Prop) (W : World) (hstab : ∀ W', KeepsAt R W W' → AData Wb be bt b rs D U wd A n cap W') (hRlt : ∀ k, R k → k < W.heap.size) :
    Stops Tryz.prog 38 #[.pointer (some ⟨be, 0, none⟩), .pointer (some ⟨bt, 0, none⟩)] fmEnc (FmAdm rs ⟨wd, fl⟩) (FmAll rs ⟨wd, fl⟩) R W := by
  intro l J Jx hJ hJx hY hJ0
  have hb0 : Below W.heap.size W (W.alloc (.cells #[.func (.yield l) #[] #[]] 88)) := (Below.refl _ _).alloc (Nat.le_refl _) _
  have hj1 : J (fun k => k = W.heap.size) [] (W.alloc (.cells #[.func (.yield l) #[] #[]] 88)) := hJ _ _ _ _ _ hJ0 (OnlyAt.of_below hb0) (fun k hk => .inr ⟨by omega, by rw [World.size_alloc]; omega⟩)
  have hw0 := (hstab _ (keeps_below hb0)).word
  obtain ⟨fn0, tmps0, assign0, body0, hy0, hR0⟩ := hY _ [] wd _ ⟨.inl rfl, by unfold fmMax; simp; omega⟩ hj1
  have HY := Lib.hid hY
  have HJ := Lib.hid hJ
  have HJX := Lib.hid hJx
  have HF := Lib.hid hF
  have HS := Lib.hid hstab
  have HRlt := Lib.hid hRlt
  have HR0 := Lib.hid hR0
  have HB0 := Lib.hid hb0
  simp only [fmEnc] at hy0
  clear hY hJ hJx hF hstab hRlt hR0 hJ0 hj1 hb0
  have hmm := @run_makeMap Tryz.prog
  refine (callsIn_wide (n := 6)).1 ?_
  refine callsIn_of_wp_marks Tryz.func38 rfl trivial ?_ rfl
  simp only [Tryz.ntmps38, List.size_toArray, List.length_cons, List.length_nil, Nat.reduceAdd, Nat.reduceSub, Array.replicate_succ, Array.replicate_zero, List.push_toArray, List.append_toArray, List.nil_append, List.cons_append]
  gi_wp2
  refine (RoundIn.wideOut (m := 5) HR0.out).mono ?_
  rintro e W1 ⟨⟨rfl, hJ1⟩ | ⟨rfl, hJ1⟩, hk1⟩
  · rw [List.nil_append] at hJ1
    have hkw : KeepsAt R W W1 := (keeps_below HB0.out).trans (hk1.mono fun _ h => .inl h)
    have hd1 := HS.out W1 hkw
    have hby : Boxed W1 W.heap.size 88 (.func (.yield l) #[] #[]) := (hk1.block _ (by rw [World.size_alloc]; omega) (.inr rfl)).trans (World.alloc_heap_new W _)
    have al4 : ∀ (p : Addr) (v : Value), W1.cell? p = some v → ∀ o1 o2 o3 o4, ((((W1.alloc o1).alloc o2).alloc o3).alloc o4).cell? p = some v := fun p v hp o1 o2 o3 o4 => by
      have h0 := World.block_lt_of_cell? _ _ hp
      exact ((((((Below.refl W1.heap.size W1).alloc (Nat.le_refl _) o1).alloc (by simp) o2).alloc (by simp; omega) o3).alloc (by simp; omega) o4).cell h0).trans hp
    have t0 := al4 _ _ hd1.table
    have t1 := al4 _ _ hd1.word
    have t2 := al4 _ _ hd1.flags
    have HBY := Lib.hid hby
    have HJ1 := Lib.hid hJ1
    have HKW := Lib.hid hkw
    clear al4 hkw hd1 hby hJ1 hk1 hw0 HR0 hy0 HB0
    gi_wp2_with (refine ⟨trivial, ?_⟩; gi_at_call 39; refine (callsIn_wide.2 (applied_call (some b) wd A n cap _)).mono ?_; rintro e w1 ⟨rfl, rfl⟩)
    have h6 : ∃ wz, wz = ((((((W1.alloc (.map #[] 0)).alloc (.map #[] 0)).alloc (.cells #[.map (some W1.heap.size)] 90)).alloc (.cells #[.map (some (W1.heap.size + 1))] 90)).alloc (.cells #[.map (some b)] 63)).alloc (.cells #[.string wd, .slice A n cap] 25)) := ⟨_, rfl⟩
    obtain ⟨wz, hwz⟩ := h6
    have hsz : wz.heap.size = W1.heap.size + 6 := by rw [hwz]; simp
    have hnew : wz.heap[W1.heap.size]? = some (.map #[] 0) ∧ wz.heap[W1.heap.size + 1]? = some (.map #[] 0) ∧ wz.heap[W1.heap.size + 2]? = some (.cells #[.map (some W1.heap.size)] 90 (0, 0)) ∧ wz.heap[W1.heap.size + 3]? = some (.cells #[.map (some (W1.heap.size + 1))] 90 (0, 0)) ∧
        wz.heap[W1.heap.size + 4]? = some (.cells #[.map (some b)] 63 (0, 0)) ∧ wz.heap[W1.heap.size + 5]? = some (.cells #[.string wd, .slice A n cap] 25 (0, 0)) := by
      rw [hwz]
      exact alloc6 _ _ _ _ _ _ _
    have ho6 : OnlyAt (fun _ => False) W1 wz := by
      rw [hwz]
      exact (((((OnlyAt.alloc _ _ _).trans (OnlyAt.alloc _ _ _)).trans (OnlyAt.alloc _ _ _)).trans (OnlyAt.alloc _ _ _)).trans (OnlyAt.alloc _ _ _)).trans (OnlyAt.alloc _ _ _)
    rw [← hwz]
    simp only [Nat.add_assoc, Nat.reduceAdd]
    clear hwz t0 t1 t2 hmm
    obtain ⟨m, hm⟩ : ∃ m, m = W1.heap.size := ⟨_, rfl⟩
    obtain ⟨y, hy⟩ : ∃ y, y = W.heap.size := ⟨_, rfl⟩
    rw [← hm] at hsz hnew
    rw [← hy] at HBY HJ1
    simp only [← hm, ← hy]
    have hym : y < m := by rw [hm]; exact HBY.out.lt
    obtain ⟨O, hO⟩ : ∃ O : Nat → Prop, O = fun k => k = y ∨ (m ≤ k ∧ k < m + 6) := ⟨_, rfl⟩
    have hOm : O m ∧ O (m + 1) := by rw [hO]; exact ⟨.inr ⟨by omega, by omega⟩, .inr ⟨by omega, by omega⟩⟩
    have hOk : ∀ i, i < 6 → O (m + i) := fun i hi => by rw [hO]; exact .inr ⟨by omega, by omega⟩
    have hOy : O y := by rw [hO]; exact .inl rfl
    have hRO : ∀ k, (R k ∨ O k) → k < wz.heap.size := by
      rintro k (h | h)
      · have := HRlt.out k h; omega
      · rw [hO] at h; rcases h with h | h <;> omega
    have hRm : ∀ k, R k → k ≠ m ∧ k ≠ m + 1 := fun k h => by have := HRlt.out k h; omega
    have hyz : Boxed wz y 88 (.func (.yield l) #[] #[]) := (ho6.block y (by omega) id).trans HBY.out
    have HD := Lib.hid (show ∀ W', KeepsAt (fun k => R k ∨ (O k ∧ k ≠ m ∧ k ≠ m + 1)) wz W' → KeepsAt R W W' from fun W' hk => HKW.out.trans ((KeepsAt.of_only ho6 (fun _ _ h => h)).trans (hk.mono fun _ h => .inl h)))
    have HDA := Lib.hid (show ∀ W', KeepsAt (fun k => R k ∨ (O k ∧ k ≠ m ∧ k ≠ m + 1)) wz W' → AData Wb (m + 5) (m + 4) b rs D U wd A n cap W' from fun W' hk => by
      have hd := HS.out W' (HD.out W' hk)
      refine ⟨hd.sub, hd.tab, cell_keeps hk (p := ⟨m + 5, 0, none⟩) ?_ (.inr ⟨hOk 5 (by omega), by show m + 5 ≠ m; omega, by show m + 5 ≠ m + 1; omega⟩), cell_keeps hk (p := ⟨m + 5, 1, none⟩) ?_ (.inr ⟨hOk 5 (by omega), by show m + 5 ≠ m; omega, by show m + 5 ≠ m + 1; omega⟩), cell_keeps hk (p := ⟨m + 4, 0, none⟩) ?_ (.inr ⟨hOk 4 (by omega), by show m + 4 ≠ m; omega, by show m + 4 ≠ m + 1; omega⟩)⟩
      · simp [World.cell?, hnew.2.2.2.2.2]
      · simp [World.cell?, hnew.2.2.2.2.2]
      · simp [World.cell?, hnew.2.2.2.2.1])
    have hN0 : MNow J Wb wz rs fl wd R O (fun _ => False) (fun _ => False) m [] (outsOf wd []) (.map []) (.map []) wz := by
      refine ⟨HJ.out _ _ _ _ _ HJ1.out (ho6.mono fun _ h => h.elim) ?_, fun _ h => h.elim, KeepsAt.refl _ _, ?_, ?_, CrQ.nil _ _ _ _ _, CrQ.nil _ _ _ _ _, Nat.zero_le _⟩
      · rintro k (h | h | h)
        · exact h.elim
        · rw [hO] at h
          rcases h with h | h
          · exact .inl h
          · right; omega
        · exact h.elim
      · have := World.ownsMap_made (H := Value) W1 Tryz.prog 113 crossR
        obtain ⟨es, clock, h1, h2⟩ := this
        have h3 := (World.alloc_heap_new W1 (.map #[] 0)).symm.trans h1
        refine ⟨es, clock, hnew.1.trans ?_, h2⟩
        exact h3
      · have := World.ownsMap_made (H := Value) W1 Tryz.prog 113 crossR
        obtain ⟨es, clock, h1, h2⟩ := this
        have h3 := (World.alloc_heap_new W1 (.map #[] 0)).symm.trans h1
        refine ⟨es, clock, hnew.2.1.trans ?_, h2⟩
        exact h3
    have HN0 := Lib.hid hN0
    have HYZ := Lib.hid hyz
    have HNW := Lib.hid hnew
    have HOF := Lib.hid (And.intro hOm (And.intro hOk (And.intro hOy (And.intro hRO hRm))))
    have HRR := Lib.hid (show ∀ k, (R k ∨ (O k ∧ k ≠ m ∧ k ≠ m + 1)) → k < wz.heap.size from fun k hk => hRO k (hk.imp id fun h => h.1))
    have HMY := Lib.hid (And.intro hm hy)
    clear hN0 hyz hnew hOm hOk hOy hRO hRm ho6 hO hm hy
    refine wpIn_stops (R := fun k => R k ∨ (O k ∧ k ≠ m ∧ k ≠ m + 1)) (gf := 60) (lb := #[.pointer (some ⟨m + 5, 0, none⟩), .pointer (some ⟨m + 4, 0, none⟩)]) rfl (enters_of Tryz.func60 (by kernel_rfl) rfl) (by omega) (encs := apEnc wd) (Adm := ApAdm Wb rs fl wd) (S := ApAll rs fl wd)
      (fun W1' ho => applied_stops Wb (m + 5) (m + 4) b rs D U fl wd A n cap HF.out _ W1' (fun W' hk => HDA.out W' ((KeepsAt.of_only ho (fun _ _ h => h)).trans hk)) (fun k hk => Nat.lt_of_lt_of_le (HRR.out k hk) ho.size))
      (fun _ => rfl) HRR.out
      (fun T pre W' => ∃ Dp Ds, MNow J Wb wz rs fl wd R O (fun _ => False) T m pre (outsOf wd pre) Dp Ds W')
      ?stab (fun c T xs W' => c = .ret ∧ ∃ E : Nat → Prop, Jx (fun k => T k ∨ O k ∨ E k) (outsOf wd xs) W') ?stabx ⟨_, _, HN0.out⟩
      (fun T pre x a' W' => ∃ (Bx : Nat) (Dp Ds : DataW Value) (v : RV), MNow J Wb wz rs fl wd R O (fun k => k = Bx) T m pre (outsOf wd pre) Dp Ds W' ∧ x.rv = v.val ∧ v.p = x.r.pre ∧
        W'.heap[Bx]? = some (.cells #[.bool v.p, .int .i64 v.f, .bool v.c, .string v.s, .string v.a, .slice v.A v.n v.cp] 51 (0, 0)) ∧ (wz.heap.size ≤ Bx ∧ ¬ T Bx) ∧
        a' = { tmps := #[.func (.yield l) #[] #[], .pointer (some ⟨be, 0, none⟩), .pointer (some ⟨bt, 0, none⟩), .pointer (some ⟨y, 0, none⟩), .pointer (some ⟨m + 2, 0, none⟩), .pointer (some ⟨m + 3, 0, none⟩), .pointer (some ⟨Bx, 0, none⟩), .string (applyR x.r wd), .func (.yield l) #[] #[], .pointer (some ⟨be, 0, none⟩), .string wd, .bool true, .bool false, .map (some m), .map (some (m + 1)), .map (some b), .agg #[.string wd, .slice A n cap], .func (.func 60) #[] #[.pointer (some ⟨m + 5, 0, none⟩), .pointer (some ⟨m + 4, 0, none⟩)], v.val, .string (applyR x.r wd), undef, undef, undef, undef, undef, undef, undef, undef, undef, undef, undef, undef, undef, undef, undef, undef, undef, undef], defers := [] })
      ?staba ?assign ?body ?done ?stop
    case stab =>
      rintro T T' pre U V ⟨Dp, Ds, h⟩ ho ht
      exact ⟨Dp, Ds, h.stab HJ.out HOF.out.2.2.2.1 HOF.out.1 ho ht (fun _ h => .inl h)⟩
    case stabx =>
      rintro c T T' xs U V ⟨hc, E, h⟩ ho ht
      refine ⟨hc, E, HJX.out _ _ _ _ _ h (ho.mono fun _ h => .inl h) ?_⟩
      rintro k (hk | hk | hk)
      · exact (ht k hk).imp .inl id
      · exact .inl (.inr (.inl hk))
      · exact .inl (.inr (.inr hk))
    case staba =>
      rintro pre x a' T T' _ U V ⟨Bx, Dp, Ds, v, h, hv, hvp, hb, ⟨hlo, hTB⟩, ha⟩ ho ht
      have hlt := (Array.getElem?_eq_some_iff.1 hb).1
      refine ⟨Bx, Dp, Ds, v, h.stab HJ.out HOF.out.2.2.2.1 HOF.out.1 ho ht (fun _ h => .inl h), hv, hvp, (ho.block Bx hlt hTB).trans hb, ⟨hlo, fun hh => ?_⟩, ha⟩
      rcases ht Bx hh with h' | h'
      · exact hTB h'
      · omega
    case assign =>
      rintro l2 T pre x W' K hadm ⟨Dp, Ds, h⟩ hlt hK
      obtain ⟨v, hv, hvp, -⟩ := ru_val hadm.1.2.2.2
      have HI := Lib.hid h
      have HV := Lib.hid (And.intro hv hvp)
      simp only [apEnc]
      rw [hv]
      clear h hadm hv hvp
      obtain ⟨vp, vf, vc, vs, va, vA, vn, vcp⟩ := v
      simp only [RV.val]
      gi_wp2
      have ho : ∀ T, OnlyAt T W' (W'.alloc (.cells #[.bool vp, .int .i64 vf, .bool vc, .string vs, .string va, .slice vA vn vcp] 51)) := fun T => OnlyAt.alloc _ _ _
      refine hK _ _ (ho _) ⟨W'.heap.size, Dp, Ds, ⟨vp, vf, vc, vs, va, vA, vn, vcp⟩, HI.out.stab HJ.out HOF.out.2.2.2.1 HOF.out.1 (ho _) (fun _ h => .inl h) (fun k hk => .inr ⟨by omega, by rw [World.size_alloc]; omega⟩), HV.out.1, HV.out.2, World.alloc_heap_new _ _, ⟨HI.out.old.size, fun hh => by have := hlt _ hh; omega⟩, rfl⟩
    case body =>
      rintro l2 T pre x a' W' hadm ⟨Bx, Dp, Ds, v, h, hv, hvp, hb, ⟨hlo, hTB⟩, rfl⟩ hlt
      have hcy := cell_keeps h.old (p := ⟨y, 0, none⟩) HYZ.out.cell (.inr ⟨HOF.out.2.2.1, by show y ≠ m; omega, by show y ≠ m + 1; omega⟩)
      have hfm : FmAdm rs ⟨wd, fl⟩ (outsOf wd pre) (applyR x.r wd) := by
        refine ⟨.inr (.inl ⟨x.r, hadm.1.1, hadm.1.2.1, hadm.1.2.2.1, rfl⟩), ?_⟩
        rw [outsOf_len]
        have := hadm.2
        show _ < fmMax rs fl
        unfold fmMax
        omega
      obtain ⟨fn, tmps, assign, body, hyd, hRd⟩ := HY.out _ _ _ W' hfm h.inv
      simp only [fmEnc] at hyd
      have HI := Lib.hid h
      have HAD := Lib.hid hadm
      have HV := Lib.hid (And.intro hv (And.intro hvp (And.intro hlo hTB)))
      have HB := Lib.hid hb
      have HRD := Lib.hid hRd
      clear h hadm hv hvp hlo hTB hb hRd hfm
      gi_wp2
      refine (RoundIn.wideIn (m := _) HRD.out).mono ?_
      rintro e W2 ⟨⟨rfl, hJ2⟩ | ⟨rfl, hJ2⟩, hk2⟩
      · have hk2' : KeepsAt (fun k => R k ∨ (O k ∧ k ≠ m ∧ k ≠ m + 1)) wz W2 := HI.out.old.trans (hk2.mono fun k h => h.elim .inl fun h => .inr (.inr (.inl h.1)))
        have hb2 := (hk2.block Bx (Array.getElem?_eq_some_iff.1 HB.out).1 (.inr (.inr (.inr rfl)))).trans HB.out
        have H2 := Lib.hid (show J (fun k => T k ∨ O k ∨ k = Bx) (outsOf wd pre ++ [applyR x.r wd]) W2 ∧ KeepsAt (fun k => R k ∨ (O k ∧ k ≠ m ∧ k ≠ m + 1)) wz W2 ∧ W2.ownsMap Tryz.prog 113 crossR m pre.length Dp ∧ W2.ownsMap Tryz.prog 113 crossR (m + 1) pre.length Ds ∧ KeepsAt (fun k => R k ∨ T k ∨ O k ∨ k = Bx) W' W2 from
          ⟨hJ2, hk2', omap_same HI.out.ownP (hk2.block m HI.out.ownP.lt (.inr (.inr (.inl HOF.out.1.1)))), omap_same HI.out.ownS (hk2.block _ HI.out.ownS.lt (.inr (.inr (.inl HOF.out.1.2)))), hk2⟩)
        have cP := cell_keeps hk2' (p := ⟨m + 2, 0, none⟩) (v := .map (some m)) (by simp [World.cell?, HNW.out.2.2.1]) (.inr ⟨HOF.out.2.1 2 (by omega), by show m + 2 ≠ m; omega, by show m + 2 ≠ m + 1; omega⟩)
        have cS := cell_keeps hk2' (p := ⟨m + 3, 0, none⟩) (v := .map (some (m + 1))) (by simp [World.cell?, HNW.out.2.2.2.1]) (.inr ⟨HOF.out.2.1 3 (by omega), by show m + 3 ≠ m; omega, by show m + 3 ≠ m + 1; omega⟩)
        have fin : Hid (∀ (W3 : World) (q : Nat) (Dp' Ds' : DataW Value), W2.grownBy W3 (some q) → (q = m ∨ q = m + 1) → W3.ownsMap Tryz.prog 113 crossR m (pre.length + 1) Dp' → W3.ownsMap Tryz.prog 113 crossR (m + 1) (pre.length + 1) Ds' →
            CrQ Wb rs fl wd true Dp' (pre ++ [x]) → CrQ Wb rs fl wd false Ds' (pre ++ [x]) → (∃ Dp Ds, MNow J Wb wz rs fl wd R O (fun _ => False) T m (pre ++ [x]) (outsOf wd (pre ++ [x])) Dp Ds W3) ∧ KeepsAt (fun k => (R k ∨ (O k ∧ k ≠ m ∧ k ≠ m + 1)) ∨ T k) W' W3) := by
          refine Lib.hid fun W3 q Dp' Ds' hg hq hP hS hcP hcS => ?_
          have hoq : OnlyAt (fun k => k = q) W2 W3 := OnlyAt.of_grown hg (fun k e => by cases e; rfl)
          have hOq : O q := by rcases hq with rfl | rfl; exact HOF.out.1.1; exact HOF.out.1.2
          have hlo := HI.out.low
          have hqT : ∀ k, ((R k ∨ (O k ∧ k ≠ m ∧ k ≠ m + 1)) ∨ T k) → k ≠ q := by
            rintro k ((h | h) | h) rfl
            · have := HOF.out.2.2.2.2 _ h; omega
            · omega
            · have h1 := hlo _ h
              have h2 := HOF.out.2.2.2.1 _ (.inr hOq)
              omega
          refine ⟨⟨Dp', Ds', ?_, hlo, H2.out.2.1.trans ⟨hoq.size, fun k hk h => hoq.block k hk (hqT k (.inl h))⟩, by rw [List.length_append]; exact hP, by rw [List.length_append]; exact hS, hcP, hcS, ?_⟩, (H2.out.2.2.2.2.mono ?_).trans ⟨hoq.size, fun k hk h => hoq.block k hk (hqT k h)⟩⟩
          · rw [outsOf_snoc]
            refine HJ.out _ _ _ _ _ H2.out.1 (hoq.mono ?_) ?_
            · rintro k rfl; exact .inr (.inl hOq)
            · rintro k (h | h | h)
              · exact .inl (.inl h)
              · exact .inl (.inr (.inl h))
              · exact h.elim
          · rw [List.length_append]
            have h := HAD.out.2
            show _ + 1 ≤ _
            omega
          · rintro k ((h | h) | h)
            · exact .inl h
            · exact .inr (.inr (.inl h.1))
            · exact .inr (.inl h)
        clear hJ2 hk2 hk2' HRD hyd HB hcy
        obtain ⟨vp, vf, vc, vs, va, vA, vn, vcp⟩ := v
        dsimp only at hb2 HV
        obtain ⟨x0, x1, x2, x3, x4, x5⟩ := cells6_at hb2
        clear hb2
        cases vp with
        | true =>
          have hd2 := (HS.out _ (HD.out _ H2.out.2.1)).sub
          have hru : RuAt Wb x.rv x.r := HAD.out.1.2.2.2
          have hrv := HV.out.1
          obtain ⟨kl, hkl⟩ := key_act x.r.strip x.r.add (by have := (HF.out.fit x.r HAD.out.1.1).strip; unfold maxLen; omega) (by have := (HF.out.fit x.r HAD.out.1.1).add; unfold maxLen; omega)
          have hnum : pre.length < 1000000000 := by
            have h1 := HI.out.num
            have h2 : fl.length * rs.length ≤ 1000 * 1000 := Nat.mul_le_mul HF.out.nf HF.out.nr
            omega
          have CP := Lib.hid (put_any W2 m pre.length Dp x.rv x.r (hru.sub hd2) H2.out.2.2.1 hnum kl hkl)
          rw [hrv] at CP
          simp only [RV.val] at CP
          have HKL := Lib.hid (And.intro hkl (And.intro hru hrv))
          clear hd2 hru hrv hkl hnum
          gi_wp2_with fail
          refine ⟨trivial, ?_⟩
          refine (CallsIn.inRound l2 (callsIn_wide.2 CP.out)).mono ?_
          rintro e W3 ⟨rfl, hown3, hg3⟩
          have HG := Lib.hid (And.intro hown3 hg3)
          clear hown3 hg3 CP
          gi_wp2
          have HE := Lib.hid (fin.out W3 m _ Ds HG.out.2 (.inl rfl) HG.out.1 ((omap_same H2.out.2.2.2.1 (HG.out.2.block _ H2.out.2.2.2.1.lt (by simp))).mono (by omega)) (by
            cases hc : x.r.cross with
            | false => rw [if_neg (by simp)]; exact HI.out.crP.skip (.inr hc)
            | true =>
              rw [if_pos rfl]
              have hz := HI.out.crP.put H2.out.2.2.1.isMap HKL.out.1 HKL.out.2.1 ⟨HAD.out.1.1, HAD.out.1.2.1, HAD.out.1.2.2.1, HV.out.2.1.symm, hc⟩
              rw [HKL.out.2.2] at hz
              exact hz) (HI.out.crS.skip (.inl (by rw [← HV.out.2.1]; decide))))
          exact ⟨HE.out.1, HE.out.2⟩
        | false =>
          have hd2 := (HS.out _ (HD.out _ H2.out.2.1)).sub
          have hru : RuAt Wb x.rv x.r := HAD.out.1.2.2.2
          have hrv := HV.out.1
          obtain ⟨kl, hkl⟩ := key_act x.r.strip x.r.add (by have := (HF.out.fit x.r HAD.out.1.1).strip; unfold maxLen; omega) (by have := (HF.out.fit x.r HAD.out.1.1).add; unfold maxLen; omega)
          have hnum : pre.length < 1000000000 := by
            have h1 := HI.out.num
            have h2 : fl.length * rs.length ≤ 1000 * 1000 := Nat.mul_le_mul HF.out.nf HF.out.nr
            omega
          have CP := Lib.hid (put_any W2 (m + 1) pre.length Ds x.rv x.r (hru.sub hd2) H2.out.2.2.2.1 hnum kl hkl)
          rw [hrv] at CP
          simp only [RV.val] at CP
          have HKL := Lib.hid (And.intro hkl (And.intro hru hrv))
          clear hd2 hru hrv hkl hnum
          gi_wp2_with fail
          refine ⟨trivial, ?_⟩
          refine (CallsIn.inRound l2 (callsIn_wide.2 CP.out)).mono ?_
          rintro e W3 ⟨rfl, hown3, hg3⟩
          have HG := Lib.hid (And.intro hown3 hg3)
          clear hown3 hg3 CP
          gi_wp2
          have HE := Lib.hid (fin.out W3 (m + 1) Dp _ HG.out.2 (.inr rfl) ((omap_same H2.out.2.2.1 (HG.out.2.block _ H2.out.2.2.1.lt (by simp))).mono (by omega)) HG.out.1 (HI.out.crP.skip (.inl (by rw [← HV.out.2.1]; decide))) (by
            cases hc : x.r.cross with
            | false => rw [if_neg (by simp)]; exact HI.out.crS.skip (.inr hc)
            | true =>
              rw [if_pos rfl]
              have hz := HI.out.crS.put H2.out.2.2.2.1.isMap HKL.out.1 HKL.out.2.1 ⟨HAD.out.1.1, HAD.out.1.2.1, HAD.out.1.2.2.1, HV.out.2.1.symm, hc⟩
              rw [HKL.out.2.2] at hz
              exact hz))
          exact ⟨HE.out.1, HE.out.2⟩
      · have HX := Lib.hid (And.intro hJ2 hk2)
        clear hJ2 hk2 HRD hyd HB hcy
        gi_wp2
        refine ⟨⟨rfl, fun k => k = Bx, ?_⟩, HX.out.2.mono ?_⟩
        · rw [outsOf_snoc]; exact HX.out.1
        · rintro k ((h | h) | h)
          · exact .inl h
          · exact .inr (.inr (.inl h.1))
          · exact .inr (.inl h)
    case done =>
      rintro Dd T xs W' hD hTD hall ⟨Dp, Ds, h⟩ hK
      have kR := HD.out W' h.old
      have hd := HS.out W' kR
      have cy := cell_keeps h.old (p := ⟨y, 0, none⟩) HYZ.out.cell (.inr ⟨HOF.out.2.2.1, by show y ≠ m; omega, by show y ≠ m + 1; omega⟩)
      have cw := hd.word
      have cP := cell_keeps h.old (p := ⟨m + 2, 0, none⟩) (v := .map (some m)) (by simp [World.cell?, HNW.out.2.2.1]) (.inr ⟨HOF.out.2.1 2 (by omega), by show m + 2 ≠ m; omega, by show m + 2 ≠ m + 1; omega⟩)
      have cS := cell_keeps h.old (p := ⟨m + 3, 0, none⟩) (v := .map (some (m + 1))) (by simp [World.cell?, HNW.out.2.2.2.1]) (.inr ⟨HOF.out.2.1 3 (by omega), by show m + 3 ≠ m; omega, by show m + 3 ≠ m + 1; omega⟩)
      have hz := h.old.size
      have hDlt := (Array.getElem?_eq_some_iff.1 hK).1
      have hj0 : J (fun k => (T k ∨ O k) ∧ k < W'.heap.size) (outsOf wd xs) W' := HJ.out _ _ _ _ _ h.inv (OnlyAt.refl _ _) (fun k hk => .inl (hk.1.elim .inl fun h => .inr (.inl h)))
      have hfix : WFix Wb (GoodR rs fl wd true) (GoodR rs fl wd false) Dp Ds wd (IsForm rs ⟨wd, fl⟩) :=
        ⟨h.crP.ent, h.crS.ent, fun r hg => HF.out.fit r hg.1, fun r hg => HF.out.fit r hg.1, fun p s hp hs hz => .inr (.inr ⟨p, hp.1, s, hs.1, hp.2.1, hs.2.1, hz, rfl⟩), HF.out.tabs, HF.out.word⟩
      have hsz1 : Maps.size Dp ≤ fl.length * rs.length := Nat.le_trans h.ownP.size_le h.num
      have hsz2 : Maps.size Ds ≤ fl.length * rs.length := Nat.le_trans h.ownS.size_le h.num
      have hmax : (outsOf wd xs).length + Maps.size Dp * Maps.size Ds ≤ fmMax rs fl := by
        rw [outsOf_len]
        unfold fmMax
        have h1 := Nat.mul_le_mul hsz1 hsz2
        have h2 := h.num
        omega
      have CW := Lib.hid (with_any Wb l J Jx HJ.out HJX.out R (fun k => (T k ∨ O k) ∧ k < W'.heap.size) (IsForm rs ⟨wd, fl⟩) (fmMax rs fl) (fun T pre x W1 hx hj => HY.out T pre x W1 hx hj) _ _ Dp Ds wd hfix W' (fun W'' hk => (HS.out W'' (kR.trans hk)).sub) m (m + 1) _ _ h.ownP h.ownS ⟨.inr HOF.out.1.1, h.ownP.lt⟩ ⟨.inr HOF.out.1.2, h.ownS.lt⟩ (outsOf wd xs) hj0
        (by
          rintro k (hk | hk)
          · exact Nat.lt_of_lt_of_le (HOF.out.2.2.2.1 k (.inl hk)) hz
          · exact hk.2) hmax)
      have HALL := Lib.hid (show ∀ pre : List ByteArray, (∀ x ∈ outsOf wd xs, x ∈ pre) → (∀ kl1, Maps.has Dp kl1 = true → RowDone (GoodR rs fl wd true) (GoodR rs fl wd false) Ds wd kl1 pre) → FmAll rs ⟨wd, fl⟩ pre from by
        rintro pre hsub hrow x (rfl | ⟨r, hr, hf, hz, rfl⟩ | ⟨p, hp, s, hs, hpf, hsf, hz, rfl⟩)
        · exact hsub _ ((outsOf_mem _ _ _).2 (.inl rfl))
        · obtain ⟨q, hq, rfl⟩ := hall r hr hf hz
          exact hsub _ ((outsOf_mem _ _ _).2 (.inr ⟨q, hq, rfl⟩))
        · obtain ⟨w1, w2, w3, w4, w5, w6⟩ := both_wants hz
          obtain ⟨q1, hq1, rfl⟩ := hall p hp hpf w5
          obtain ⟨q2, hq2, rfl⟩ := hall s hs hsf w6
          obtain ⟨kl1, k1, k2⟩ := h.crP.all q1 hq1 w1 w3
          obtain ⟨kl2, k3, k4⟩ := h.crS.all q2 hq2 w2 w4
          obtain ⟨p', hp', ka, hrows⟩ := hrow kl1 k2
          obtain ⟨s', hs', kb, hin⟩ := hrows kl2 k4
          have e1 := keyed_act.inj k1 ka
          have e2 := keyed_act.inj k3 kb
          simp only [Value.agg.injEq, Array.mk.injEq, List.cons.injEq, Value.string.injEq, and_true] at e1 e2
          have e3 := both_alike (w := wd) ⟨w1, hp'.2.2.2.1, w2, hs'.2.2.2.1, w3, hp'.2.2.2.2, w4, hs'.2.2.2.2⟩ w5 hp'.2.2.1 w6 hs'.2.2.1 e1 e2
          show bothR _ _ wd ∈ pre
          rw [e3]
          exact hin (by rw [← e3]; exact hz))
      have HKD := Lib.hid (And.intro hK (And.intro hTD hDlt))
      clear h hK hall kR hd hj0 hfix hsz1 hsz2 hmax hz hDlt
      gi_wp2_with fail
      refine ⟨trivial, ?_⟩
      refine (callsIn_wide.2 CW.out).mono ?_
      rintro e W3 ⟨rfl, hor, hk3⟩
      have HO3 := Lib.hid hor
      have HK3 := Lib.hid (show W3.heap[Dd]? = some (.deferred (some [])) from (hk3.block Dd HKD.out.2.2 ⟨.inl HKD.out.2.1, HKD.out.2.2⟩).trans HKD.out.1)
      have HTD := Lib.hid (show (fun k => (T k ∨ O k) ∧ k < W'.heap.size) Dd from ⟨.inl HKD.out.2.1, HKD.out.2.2⟩)
      clear hor hk3 CW cw cy cP cS
      gi_wp2
      refine ⟨by simp, .inl ⟨_, _, rfl, run_takeDeferred HK3.out, ?_⟩⟩
      refine ⟨_, results_none rfl _ _ _, ⟨_, rfl⟩, ?_⟩
      rcases HO3.out with ⟨T3, pre3, hs3, hm3, hr3, hj3⟩ | ⟨T3, pre3, hs3, hj3⟩
      · exact ⟨T3, pre3, .inl ⟨HALL.out pre3 hm3 hr3, HJ.out.same hj3 (OnlyAt.putObj _ _ _ (hs3 _ HTD.out))⟩⟩
      · exact ⟨T3, pre3, .inr (HJX.out.same hj3 (OnlyAt.putObj _ _ _ (hs3 _ HTD.out)))⟩
    case stop =>
      rintro Dd T c xs W' hD hTD ⟨rfl, E, h⟩ hK
      have HX := Lib.hid h
      have HKD := Lib.hid hK
      clear h hK
      gi_wp2
      refine ⟨by simp, .inl ⟨_, _, rfl, run_takeDeferred HKD.out, ?_⟩⟩
      exact ⟨_, results_none rfl _ _ _, ⟨_, rfl⟩, _, _, .inr (HJX.out.same HX.out (OnlyAt.putObj _ _ _ (.inl hTD)))⟩
  · clear hk1
    have HX := Lib.hid hJ1
    clear hJ1
    gi_wp2
    exact ⟨_, results_none rfl _ _ _, ⟨_, rfl⟩, _, _, .inr HX.out⟩
end Go.Proofs.YtcbmfkgekhadkaaGreatDoor
