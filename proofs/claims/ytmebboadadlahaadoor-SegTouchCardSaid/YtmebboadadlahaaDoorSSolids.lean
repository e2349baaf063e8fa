/- seg.solids: an iterator over a text's solid units, by its contract. -/
import Derived.Test.YtmebboadadlahaaDoorSUnits
import Derived.Test.YtmebboadadlahaaDoorSSol
import Derived.Test.YtmebboadadlahaaDoorKOf
namespace Go.Proofs.YtmebboadadlahaaDoor
open Go Go.RowKit Go.Lib Go.Shelf
attribute [local go_sem] Oper.semAt_some alloc_set

/-- What lay in w0 lies in W. -/
def Old (w0 W : World) : Prop := w0.heap.size ≤ W.heap.size ∧ ∀ k, k < w0.heap.size → W.heap[k]? = w0.heap[k]?
theorem Old.refl (w : World) : Old w w := ⟨Nat.le_refl _, fun _ _ => rfl⟩
theorem Old.below {w0 W W' : World} (h : Old w0 W) (hb : Below W.heap.size W W') : Old w0 W' := ⟨Nat.le_trans h.1 hb.size, fun k hk => (hb.block k (Nat.lt_of_lt_of_le hk h.1)).trans (h.2 k hk)⟩
theorem Old.tabs {w0 W : World} (h : Old w0 W) (ht : Lib.Utf8Tabs 0 1 w0) : Lib.Utf8Tabs 0 1 W :=
  tabs_kept ht (h.2 0 (tabs_lt ht).1) (h.2 1 (tabs_lt ht).2)
theorem Old.tbl {w0 W : World} {v : Value} {rs : List Cls.R3} (h : Old w0 W) (ht : Cls.Tbl w0 v rs) : Cls.Tbl W v rs := by
  rcases ht with ht | ⟨b, off, cap, hv, hlt, h1, h2, hc⟩
  · exact .inl ht
  · refine .inr ⟨b, off, cap, hv, Nat.lt_of_lt_of_le hlt h.1, h1, h2, fun i r hr => ?_⟩
    obtain ⟨c0, c1, c2⟩ := hc i r hr
    exact ⟨(World.cell?_of_block (w := w0) (a := ⟨b, _, none⟩) (h.2 b hlt)).trans c0, (World.cell?_of_block (w := w0) (a := ⟨b, _, none⟩) (h.2 b hlt)).trans c1, (World.cell?_of_block (w := w0) (a := ⟨b, _, none⟩) (h.2 b hlt)).trans c2⟩

def pEnc (x : U3 × Int) : Array Value := #[.agg #[.int .i64 x.1.1, .int .i64 x.1.2.1, .int .i64 x.1.2.2], .int .i64 x.2]

theorem units_call (s : ByteArray) (w : World) : Calls Tryd.prog 29 #[.string s] w fun e w' => e = .returned (.func (.func 32) #[] #[.pointer (some ⟨w.heap.size, 0, none⟩)]) ∧ w' = w.alloc (.cells #[.string s] 9) := by
  go_enter Tryd.func29, Tryd.ntmps29
  go_wp2
  go_ret
  exact ⟨rfl, rfl⟩

/-- A box of three cells, written anew. -/
theorem set3 {W : World} {H : Nat} {a b c : Value} {t : TypeId} (h : W.heap[H]? = some (.cells #[a, b, c] t (0, 0))) (x y z : Value) :
    (((W.setCell ⟨H, 0, none⟩ x).setCell ⟨H, 1, none⟩ y).setCell ⟨H, 2, none⟩ z).heap[H]? = some (.cells #[x, y, z] t (0, 0)) :=
  (heap_setCell_same _ _ _ _ _ _ (heap_setCell_same _ _ _ _ _ _ (heap_setCell_same _ _ _ _ _ _ h)))
theorem cells3_at {W : World} {H : Nat} {a b c : Value} {t : TypeId} (h : W.heap[H]? = some (.cells #[a, b, c] t (0, 0))) :
    W.cell? ⟨H, 0, none⟩ = some a ∧ W.cell? ⟨H, 1, none⟩ = some b ∧ W.cell? ⟨H, 2, none⟩ = some c := by simp [World.cell?, h]
theorem frozen3_at {W : World} {H : Nat} {a b c : Value} {t : TypeId} (h : W.heap[H]? = some (.cells #[a, b, c] t (0, 0))) :
    W.frozen? ⟨H, 0, none⟩ = false ∧ W.frozen? ⟨H, 1, none⟩ = false ∧ W.frozen? ⟨H, 2, none⟩ = false := by simp [World.frozen?, h]

/-- The call's own four variables. -/
def SolB (l Y : Nat) (h : U3) (a k : Int) (W : World) : Prop :=
  Boxed W Y 66 (.func (.yield l) #[] #[]) ∧ W.heap[Y + 1]? = some (.cells #[.int .i64 h.1, .int .i64 h.2.1, .int .i64 h.2.2] 39 (0, 0)) ∧ Boxed W (Y + 2) 3 (.int .i64 a) ∧ Boxed W (Y + 3) 3 (.int .i64 k)
theorem SolB.kept {l Y : Nat} {h : U3} {a k : Int} {W W' : World} (hb : SolB l Y h a k W) (hk : ∀ j, Y ≤ j → j < Y + 5 → W'.heap[j]? = W.heap[j]?) : SolB l Y h a k W' :=
  ⟨(hk _ (by omega) (by omega)).trans hb.1, (hk _ (by omega) (by omega)).trans hb.2.1, (hk _ (by omega) (by omega)).trans hb.2.2.1, (hk _ (by omega) (by omega)).trans hb.2.2.2⟩
theorem SolB.cells {l Y : Nat} {h : U3} {a k : Int} {W : World} (hb : SolB l Y h a k W) :
    (W.cell? ⟨Y, 0, none⟩ = some (.func (.yield l) #[] #[]) ∧ (W.cell? ⟨Y + 1, 0, none⟩ = some (.int .i64 h.1) ∧ W.cell? ⟨Y + 1, 1, none⟩ = some (.int .i64 h.2.1) ∧ W.cell? ⟨Y + 1, 2, none⟩ = some (.int .i64 h.2.2)) ∧ W.cell? ⟨Y + 2, 0, none⟩ = some (.int .i64 a) ∧ W.cell? ⟨Y + 3, 0, none⟩ = some (.int .i64 k)) ∧
    ((W.frozen? ⟨Y + 1, 0, none⟩ = false ∧ W.frozen? ⟨Y + 1, 1, none⟩ = false ∧ W.frozen? ⟨Y + 1, 2, none⟩ = false) ∧ W.frozen? ⟨Y + 2, 0, none⟩ = false ∧ W.frozen? ⟨Y + 3, 0, none⟩ = false) :=
  ⟨⟨hb.1.cell, cells3_at hb.2.1, hb.2.2.1.cell, hb.2.2.2.cell⟩, frozen3_at hb.2.1, hb.2.2.1.frozen, hb.2.2.2.frozen⟩

/-- What holds between two rounds. E: what the round itself has laid. -/
def SolS (J : (Nat → Prop) → List (U3 × Int) → World → Prop) (kd : Int → Int) (all : List U3) (R : Nat → Prop) (W0 : World) (l Y : Nat) (E T : Nat → Prop) (us : List U3) (outs : List (U3 × Int)) (h : U3) (a k : Int) (W : World) : Prop :=
  SolInv kd all us outs h a k ∧ J (fun y => T y ∨ E y ∨ (Y ≤ y ∧ y < Y + 5)) outs W ∧ Y + 5 ≤ W.heap.size ∧ SolB l Y h a k W ∧ (∀ j, R j → W.heap[j]? = W0.heap[j]?) ∧ ∀ j, T j → Y + 5 ≤ j

theorem SolS.stab {J : (Nat → Prop) → List (U3 × Int) → World → Prop} {kd : Int → Int} {all : List U3} {R : Nat → Prop} {W0 : World} {l Y : Nat} {E E' T T' : Nat → Prop} {us : List U3} {outs : List (U3 × Int)} {h : U3} {a k : Int} {W W' : World}
    (hi : SolS J kd all R W0 l Y E T us outs h a k W) (hJ : Stab J) (hR : ∀ j, R j → j < Y) (ho : OnlyAt T W W') (ht : ∀ j, T' j → T j ∨ (W.heap.size ≤ j ∧ j < W'.heap.size)) (he : ∀ j, E' j → E j ∨ (W.heap.size ≤ j ∧ j < W'.heap.size)) : SolS J kd all R W0 l Y E' T' us outs h a k W' := by
  obtain ⟨h1, h2, h3, h4, h5, h6⟩ := hi
  have hz := ho.size
  refine ⟨h1, hJ _ _ _ _ _ h2 (ho.mono fun _ hk => .inl hk) ?_, by omega, h4.kept ?_, ?_, ?_⟩
  · rintro j (hj | hj | hj)
    · rcases ht j hj with h | h
      · exact .inl (.inl h)
      · exact .inr h
    · rcases he j hj with h | h
      · exact .inl (.inr (.inl h))
      · exact .inr h
    · exact .inl (.inr (.inr hj))
  · intro j hj1 hj2
    exact ho.block j (by omega) (fun hh => by have := h6 j hh; omega)
  · intro j hj
    exact (ho.block j (by have := hR j hj; omega) (fun hh => by have := h6 j hh; have := hR j hj; omega)).trans (h5 j hj)
  · intro j hj
    rcases ht j hj with h | h
    · exact h6 j h
    · omega

def SolI (J : (Nat → Prop) → List (U3 × Int) → World → Prop) (kd : Int → Int) (all : List U3) (R : Nat → Prop) (W0 : World) (l Y : Nat) (T : Nat → Prop) (us : List U3) (W : World) : Prop :=
  ∃ outs h a k, SolS J kd all R W0 l Y (fun _ => False) T us outs h a k W

/-- A round's last stores. -/
theorem SolS.fin {J : (Nat → Prop) → List (U3 × Int) → World → Prop} {kd : Int → Int} {all : List U3} {R : Nat → Prop} {W0 : World} {l Y X : Nat} {T : Nat → Prop} {us : List U3} {outs : List (U3 × Int)} {h : U3} {a k : Int} {W' : World}
    (hi : SolS J kd all R W0 l Y (fun y => y = X) T us outs h a k W') (hJ : Stab J) (hR : ∀ j, R j → j < Y) (hRW : ∀ j, R j → j < W'.heap.size) {us' : List U3} {outs' : List (U3 × Int)} {x : U3} {c : Int} {w3 : World}
    (hk3 : KeepsAt (fun j => R j ∨ T j ∨ j = X ∨ (Y ≤ j ∧ j < Y + 5)) W' w3) (hj3 : J (fun y => T y ∨ y = X ∨ (Y ≤ y ∧ y < Y + 5)) outs' w3) (hinv : SolInv kd all us' outs' x k c) :
    SolI J kd all R W0 l Y T us' (((((w3.setCell ⟨Y + 1, 0, none⟩ (.int .i64 x.1)).setCell ⟨Y + 1, 1, none⟩ (.int .i64 x.2.1)).setCell ⟨Y + 1, 2, none⟩ (.int .i64 x.2.2)).setCell ⟨Y + 2, 0, none⟩ (.int .i64 k)).setCell ⟨Y + 3, 0, none⟩ (.int .i64 c)).drew ∧
    KeepsAt (fun j => (R j ∨ j = Y + 4) ∨ T j) W' (((((w3.setCell ⟨Y + 1, 0, none⟩ (.int .i64 x.1)).setCell ⟨Y + 1, 1, none⟩ (.int .i64 x.2.1)).setCell ⟨Y + 1, 2, none⟩ (.int .i64 x.2.2)).setCell ⟨Y + 2, 0, none⟩ (.int .i64 k)).setCell ⟨Y + 3, 0, none⟩ (.int .i64 c)).drew := by
  obtain ⟨h1, h2, h3, h4, h5, h6⟩ := hi
  have hz := hk3.size
  have hB : SolB l Y h a k w3 := h4.kept (fun j hj1 hj2 => hk3.block j (by omega) (.inr (.inr (.inr ⟨hj1, hj2⟩))))
  obtain ⟨wa, hwa⟩ : ∃ wa, wa = ((w3.setCell ⟨Y + 1, 0, none⟩ (.int .i64 x.1)).setCell ⟨Y + 1, 1, none⟩ (.int .i64 x.2.1)).setCell ⟨Y + 1, 2, none⟩ (.int .i64 x.2.2) := ⟨_, rfl⟩
  obtain ⟨wb, hwb⟩ : ∃ wb, wb = wa.setCell ⟨Y + 2, 0, none⟩ (.int .i64 k) := ⟨_, rfl⟩
  obtain ⟨wc, hwc⟩ : ∃ wc, wc = wb.setCell ⟨Y + 3, 0, none⟩ (.int .i64 c) := ⟨_, rfl⟩
  have own : ∀ i, i < 5 → (T (Y + i) ∨ Y + i = X ∨ (Y ≤ Y + i ∧ Y + i < Y + 5)) := fun i hi => .inr (.inr ⟨by omega, by omega⟩)
  have oa : OnlyAt (fun y => T y ∨ y = X ∨ (Y ≤ y ∧ y < Y + 5)) w3 wa := by
    rw [hwa]
    exact ((OnlyAt.setCell _ _ _ (own 1 (by omega))).trans (OnlyAt.setCell _ _ _ (own 1 (by omega)))).trans (OnlyAt.setCell _ _ _ (own 1 (by omega)))
  have ob : OnlyAt (fun y => T y ∨ y = X ∨ (Y ≤ y ∧ y < Y + 5)) wa wb := by rw [hwb]; exact OnlyAt.setCell _ _ _ (own 2 (by omega))
  have oc : OnlyAt (fun y => T y ∨ y = X ∨ (Y ≤ y ∧ y < Y + 5)) wb wc := by rw [hwc]; exact OnlyAt.setCell _ _ _ (own 3 (by omega))
  have ea : ∀ j, j ≠ Y + 1 → wa.heap[j]? = w3.heap[j]? := fun j n1 => by
    rw [hwa, Below.heap_setCell _ _ _ _ n1, Below.heap_setCell _ _ _ _ n1, Below.heap_setCell _ _ _ _ n1]
  have eb : ∀ j, j ≠ Y + 2 → wb.heap[j]? = wa.heap[j]? := fun j n1 => by rw [hwb, Below.heap_setCell _ _ _ _ n1]
  have ec : ∀ j, j ≠ Y + 3 → wc.heap[j]? = wb.heap[j]? := fun j n1 => by rw [hwc, Below.heap_setCell _ _ _ _ n1]
  have ba : wa.heap[Y + 1]? = some (.cells #[.int .i64 x.1, .int .i64 x.2.1, .int .i64 x.2.2] 39 (0, 0)) := by rw [hwa]; exact set3 hB.2.1 _ _ _
  have bb : Boxed wb (Y + 2) 3 (.int .i64 k) := by
    rw [hwb]; exact Boxed.set _ ((ea _ (by omega)).trans hB.2.2.1)
  have bc : Boxed wc (Y + 3) 3 (.int .i64 c) := by
    rw [hwc]; exact Boxed.set _ ((eb _ (by omega)).trans ((ea _ (by omega)).trans hB.2.2.2))
  have hoth : ∀ j, j ≠ Y + 1 → j ≠ Y + 2 → j ≠ Y + 3 → wc.heap[j]? = w3.heap[j]? := fun j n1 n2 n3 => (ec j n3).trans ((eb j n2).trans (ea j n1))
  have ho := ((oa.trans ob).trans oc).trans (OnlyAt.drew _ wc)
  have hz4 := ho.size
  have hd : ∀ j : Nat, wc.drew.heap[j]? = wc.heap[j]? := fun _ => rfl
  rw [show ((((w3.setCell ⟨Y + 1, 0, none⟩ (.int .i64 x.1)).setCell ⟨Y + 1, 1, none⟩ (.int .i64 x.2.1)).setCell ⟨Y + 1, 2, none⟩ (.int .i64 x.2.2)).setCell ⟨Y + 2, 0, none⟩ (.int .i64 k)).setCell ⟨Y + 3, 0, none⟩ (.int .i64 c) = wc from by rw [hwc, hwb, hwa]]
  clear hwa hwb hwc
  refine ⟨⟨outs', x, k, c, hinv, hJ _ _ _ _ _ hj3 ho ?_, by omega, ⟨?_, ?_, ?_, ?_⟩, ?_, h6⟩, ⟨by omega, ?_⟩⟩
  · rintro j (hj | hj | hj)
    · exact .inl (.inl hj)
    · exact hj.elim
    · exact .inl (.inr (.inr hj))
  · exact (hd _).trans ((hoth _ (by omega) (by omega) (by omega)).trans hB.1)
  · exact (hd _).trans ((ec _ (by omega)).trans ((eb _ (by omega)).trans ba))
  · exact (hd _).trans ((ec _ (by omega)).trans bb)
  · exact (hd _).trans bc
  · intro j hj
    have := hR j hj
    exact (hd _).trans ((hoth j (by omega) (by omega) (by omega)).trans ((hk3.block j (hRW j hj) (.inl hj)).trans (h5 j hj)))
  · intro j hj hh
    have hne : j ≠ Y + 1 ∧ j ≠ Y + 2 ∧ j ≠ Y + 3 := by
      rcases hh with (hh | hh) | hh
      · have := hR j hh; omega
      · omega
      · have := h6 j hh; omega
    refine (hd _).trans ((hoth j hne.1 hne.2.1 hne.2.2).trans (hk3.block j hj ?_))
    rcases hh with (hh | hh) | hh
    · exact .inl hh
    · exact .inr (.inr (.inr ⟨by omega, by omega⟩))
    · exact .inr (.inl hh)

set_option maxRecDepth 100000 in
set_option maxHeartbeats 2000000 in
theorem solids_gives (v : Value) (rs : List Cls.R3) (s : ByteArray) (hs : s.size ≤ 1000000000000) (w0 : World) (ht : Cls.Tbl w0 v rs) (hT : Lib.Utf8Tabs 0 1 w0)
    (SB LB : Nat) (R : Nat → Prop) (W : World) (hO : Old w0 W) (hRo : ∀ k, k < w0.heap.size → R k) (hSB : Boxed W SB 9 (.string s)) (hLB : Boxed W LB 22 v) (hRL : R LB) (hRlt : ∀ k, R k → k < W.heap.size) :
    Gives Tryd.prog 28 #[.pointer (some ⟨SB, 0, none⟩), .pointer (some ⟨LB, 0, none⟩)] pEnc (sol (Cls.ofT rs) 0 (units 0 s.data.toList)) R W := by
  intro l J hJ hY hJ0
  have hsc : ∀ o1 o2 o3 o4, ((((W.alloc o1).alloc o2).alloc o3).alloc o4).cell? ⟨SB, 0, none⟩ = some (.string s) := fun o1 o2 o3 o4 => ((((hSB.alloc o1).alloc o2).alloc o3).alloc o4).cell
  have HY := Lib.hid hY
  have HJ := Lib.hid hJ
  have HJ0 := Lib.hid hJ0
  have HT := Lib.hid ht
  have HTB := Lib.hid hT
  have HO := Lib.hid hO
  have HSB := Lib.hid hSB
  have HLB := Lib.hid hLB
  have HRo := Lib.hid hRo
  have HRlt := Lib.hid hRlt
  clear hY hJ hJ0 ht hT hO hSB hLB hRo hRlt
  refine (callsIn_wide (n := 6)).1 ?_
  refine callsIn_of_wp_marks Tryd.func28 rfl trivial ?_ rfl
  simp only [Tryd.ntmps28, List.size_toArray, List.length_cons, List.length_nil, Nat.reduceAdd, Nat.reduceSub, Array.replicate_succ, Array.replicate_zero, List.push_toArray, List.append_toArray, List.nil_append, List.cons_append]
  gi_wp2_with (refine ⟨trivial, ?_⟩; gi_at_call 29; refine (callsIn_wide.2 (units_call s _)).mono ?_; rintro e w1 ⟨rfl, rfl⟩)
  obtain ⟨Y, hYe⟩ : ∃ Y, Y = W.heap.size := ⟨_, rfl⟩
  have hst0 : SolS J (Cls.ofT rs) (units 0 s.data.toList) R W l Y (fun _ => False) (fun _ => False) [] [] (0, 0, 0) 0 0 (((((W.alloc (.cells #[.func (.yield l) #[] #[]] 66)).alloc (.cells #[.int .i64 0, .int .i64 0, .int .i64 0] 39)).alloc (.cells #[.int .i64 0] 3)).alloc (.cells #[.int .i64 0] 3)).alloc (.cells #[.string s] 9)) := by
    have ho : OnlyAt (fun _ => False) W (((((W.alloc (.cells #[.func (.yield l) #[] #[]] 66)).alloc (.cells #[.int .i64 0, .int .i64 0, .int .i64 0] 39)).alloc (.cells #[.int .i64 0] 3)).alloc (.cells #[.int .i64 0] 3)).alloc (.cells #[.string s] 9)) :=
      (((((OnlyAt.alloc _ _ _).trans (OnlyAt.alloc _ _ _)).trans (OnlyAt.alloc _ _ _)).trans (OnlyAt.alloc _ _ _)).trans (OnlyAt.alloc _ _ _))
    subst hYe
    refine ⟨SolInv.zero _ _ _, HJ.out _ _ _ _ _ HJ0.out ho ?_, by simp, ⟨?_, ?_, ?_, ?_⟩, fun j hj => ho.block j (HRlt.out j hj) id, fun _ h => h.elim⟩
    · rintro j (hj | hj | hj)
      · exact hj.elim
      · exact hj.elim
      · right; simp; omega
    · exact ((((Boxed.new W _ _).alloc _).alloc _).alloc _).alloc _
    · have h1 := World.alloc_heap_new (W.alloc (.cells #[.func (.yield l) #[] #[]] 66)) (.cells #[.int .i64 0, .int .i64 0, .int .i64 0] 39)
      simp only [World.size_alloc] at h1
      exact (Below.heap_alloc _ _ _ (by simp)).trans ((Below.heap_alloc _ _ _ (by simp)).trans ((Below.heap_alloc _ _ _ (by simp)).trans h1))
    · have h1 := Boxed.new ((W.alloc (.cells #[.func (.yield l) #[] #[]] 66)).alloc (.cells #[.int .i64 0, .int .i64 0, .int .i64 0] 39)) 3 (.int .i64 0)
      simp only [World.size_alloc] at h1
      exact (h1.alloc _).alloc _
    · have h1 := Boxed.new (((W.alloc (.cells #[.func (.yield l) #[] #[]] 66)).alloc (.cells #[.int .i64 0, .int .i64 0, .int .i64 0] 39)).alloc (.cells #[.int .i64 0] 3)) 3 (.int .i64 0)
      simp only [World.size_alloc] at h1
      exact h1.alloc _
  have hsb0 : Boxed (((((W.alloc (.cells #[.func (.yield l) #[] #[]] 66)).alloc (.cells #[.int .i64 0, .int .i64 0, .int .i64 0] 39)).alloc (.cells #[.int .i64 0] 3)).alloc (.cells #[.int .i64 0] 3)).alloc (.cells #[.string s] 9)) (W.heap.size + 4) 9 (.string s) := by
    have h1 := Boxed.new ((((W.alloc (.cells #[.func (.yield l) #[] #[]] 66)).alloc (.cells #[.int .i64 0, .int .i64 0, .int .i64 0] 39)).alloc (.cells #[.int .i64 0] 3)).alloc (.cells #[.int .i64 0] 3)) 9 (.string s)
    simpa only [World.size_alloc] using h1
  have hsz5 : (((((W.alloc (.cells #[.func (.yield l) #[] #[]] 66)).alloc (.cells #[.int .i64 0, .int .i64 0, .int .i64 0] 39)).alloc (.cells #[.int .i64 0] 3)).alloc (.cells #[.int .i64 0] 3)).alloc (.cells #[.string s] 9)).heap.size = W.heap.size + 5 := by simp
  revert hst0 hsb0 hsz5
  generalize (((((W.alloc (.cells #[.func (.yield l) #[] #[]] 66)).alloc (.cells #[.int .i64 0, .int .i64 0, .int .i64 0] 39)).alloc (.cells #[.int .i64 0] 3)).alloc (.cells #[.int .i64 0] 3)).alloc (.cells #[.string s] 9)) = W5
  intro hst0 hsb0 hsz5
  simp only [Nat.add_assoc, Nat.reduceAdd, ← hYe]
  rw [← hYe] at hsb0 hsz5
  have hRY : ∀ j, R j → j < Y := fun j hj => hYe ▸ HRlt.out j hj
  have hT5 : Lib.Utf8Tabs 0 1 W5 :=
    Old.tabs (w0 := w0) ⟨by have := HO.out.1; omega, fun k hk => (hst0.2.2.2.2.1 k (HRo.out k hk)).trans (HO.out.2 k hk)⟩ HTB.out
  have HST0 := Lib.hid hst0
  have HSB5 := Lib.hid hsb0
  have HT5 := Lib.hid hT5
  have HYe := Lib.hid hYe
  clear hst0 hsb0 hT5 hsc hYe
  refine wpIn_gives (R := fun k => R k ∨ k = Y + 4) (gf := 32) (lb := #[.pointer (some ⟨Y + 4, 0, none⟩)]) rfl (enters_of Tryd.func32 (by kernel_rfl) rfl) (by omega) (encs := uEnc) (xs := units 0 s.data.toList)
    (fun W1 ho => units_gives s hs (Y + 4) _ W1 ((ho.block (Y + 4) (by omega) id).trans HSB5.out) (tabs_kept HT5.out (ho.block 0 (tabs_lt HT5.out).1 id) (ho.block 1 (tabs_lt HT5.out).2 id)) (.inl (HRo.out 0 (tabs_lt HTB.out).1)) (.inl (HRo.out 1 (tabs_lt HTB.out).2)) (.inr rfl))
    (fun _ => rfl) (by rintro k (hk | rfl); have := hRY k hk; omega; omega)
    (SolI J (Cls.ofT rs) (units 0 s.data.toList) R W l Y)
    ?stab ⟨_, _, _, _, HST0.out⟩
    (fun T us x a' W' => ∃ outs h a k X, SolS J (Cls.ofT rs) (units 0 s.data.toList) R W l Y (fun y => y = X) T us outs h a k W' ∧ W'.heap[X]? = some (.cells #[.int .i64 x.1, .int .i64 x.2.1, .int .i64 x.2.2] 39 (0, 0)) ∧ Y + 5 ≤ X ∧ ¬ T X ∧
      a' = { tmps := #[.func (.yield l) #[] #[], .pointer (some ⟨SB, 0, none⟩), .pointer (some ⟨LB, 0, none⟩), .pointer (some ⟨Y, 0, none⟩), .pointer (some ⟨Y + 1, 0, none⟩), .pointer (some ⟨Y + 2, 0, none⟩), .pointer (some ⟨Y + 3, 0, none⟩), .pointer (some ⟨X, 0, none⟩), undef, .string s,
        .func (.func 32) #[] #[.pointer (some ⟨Y + 4, 0, none⟩)], .agg #[.int .i64 x.1, .int .i64 x.2.1, .int .i64 x.2.2], undef, undef, undef, undef, undef, undef, undef, undef, undef, undef, undef, undef, undef, undef, undef, undef, undef, undef, undef, undef, undef, undef, undef, undef, undef], defers := [] })
    ?stabx ?assign ?body ?done
  case stab =>
    rintro T T' us A B ⟨outs, h, a, k, hi⟩ ho ht
    exact ⟨outs, h, a, k, hi.stab HJ.out hRY ho ht (fun _ h => .inl h)⟩
  case stabx =>
    rintro us x a' T T' _ A B ⟨outs, h, a, k, X, hi, hX, hXY, hTX, ha⟩ ho ht
    have hXA := (Array.getElem?_eq_some_iff.1 hX).1
    refine ⟨outs, h, a, k, X, hi.stab HJ.out hRY ho ht (fun _ h => .inl h), (ho.block X hXA hTX).trans hX, hXY, fun hh => ?_, ha⟩
    rcases ht X hh with h | h
    · exact hTX h
    · omega
  case assign =>
    rintro l2 T us x W' K hpre ⟨outs, h, a, k, hi⟩ hlt hK
    have HI := Lib.hid hi
    clear hi
    simp only [uEnc]
    gi_wp2
    have ho : ∀ T, OnlyAt T W' (W'.alloc (.cells #[.int .i64 x.1, .int .i64 x.2.1, .int .i64 x.2.2] 39)) := fun T => OnlyAt.alloc _ _ _
    refine hK _ _ (ho _) ⟨outs, h, a, k, W'.heap.size, HI.out.stab HJ.out hRY (ho T) (fun _ h => .inl h) ?_, World.alloc_heap_new _ _, ?_, fun hh => ?_, rfl⟩
    · rintro j rfl; right; simp
    · have := HI.out.2.2.1; have := HYe.out; omega
    · have := hlt _ hh; omega
  case body =>
    rintro l2 T us x a' W' hpre ⟨outs, h, a, k, X, hi, hX, hXY, hTX, rfl⟩ hlt
    obtain ⟨x0, x1, x2⟩ := cells3_at hX
    obtain ⟨c, hc⟩ : ∃ c, c = Cls.ofT rs x.2.2 := ⟨_, rfl⟩
    have hYe := HYe.out
    have hsz := hi.2.2.1
    have hRk := hi.2.2.2.2.1
    have hXlt := (Array.getElem?_eq_some_iff.1 hX).1
    have hold : Old w0 W' := ⟨by have := HO.out.1; omega, fun j hj => (hRk j (HRo.out j hj)).trans (HO.out.2 j hj)⟩
    have hlb : W'.cell? ⟨LB, 0, none⟩ = some v := (World.cell?_of_block (w := W) (a := ⟨LB, 0, none⟩) (hRk LB hRL)).trans HLB.out.cell
    have cO : Calls Tryd.prog 30 #[v, .int .i64 x.2.2] W' fun e w' => e = .returned (.int .i64 c) ∧ Below W'.heap.size W' w' := by
      rw [hc]; exact Cls.of_any v rs x.2.2 W' (hold.tbl HT.out)
    have HC := Lib.hid cO
    have HI := Lib.hid hi
    have HXo := Lib.hid hX
    have HPre := Lib.hid hpre
    have HHc := Lib.hid hc
    have HRW : ∀ j, R j → j < W'.heap.size := fun j hj => by have := hRY j hj; omega
    have hmx : Tryd.prog.follows .mixedOrders = true := by kernel_rfl
    clear cO hi hX hRk hold hc hYe hpre
    cases hs : solidB a k c
    · gi_wp2_with (first
        | (refine ⟨trivial, ?_⟩; gi_at_call 30; refine (CallsIn.inRound l2 (callsIn_wide.2 HC.out)).mono ?_; rintro e w1 ⟨rfl, hb1⟩; obtain ⟨⟨y0, ⟨h0, h1, h2⟩, a0, k0⟩, ⟨f0, f1, f2⟩, fa, fk⟩ := (HI.out.2.2.2.1.kept (fun j _ _ => hb1.block j (by have := HI.out.2.2.1; omega))).cells; obtain ⟨z0, z1, z2⟩ := cells3_at ((hb1.block X hXlt).trans HXo.out))
        | (refine ⟨trivial, ?_⟩; gi_at_call 31; refine (CallsIn.inRound l2 (callsIn_wide.2 (solid_any _ _ _ _))).mono ?_; rintro e w2 ⟨rfl, rfl⟩))
      refine ⟨fun _ h => (by cases h), ?_⟩
      gi_wp2
      gi_region_with_o (fail)
      all_goals gi_wp2
      all_goals exact SolS.fin HI.out HJ.out hRY HRW (KeepsAt.of_only (OnlyAt.of_below (T := fun _ => False) hb1) (fun _ _ h => h)) (HJ.out.same HI.out.2.1 (OnlyAt.of_below hb1)) (by have := HI.out.1.no HPre.out (by rw [← HHc.out]; exact hs); rwa [← HHc.out] at this)
    · have hy0 : ∀ w1, Below W'.heap.size W' w1 → YieldAt Fence.wide 0 Tryd.prog l (pEnc (h, k)) w1 fun e W2 => e = .returned (.bool true) ∧ J (fun y => T y ∨ y = X ∨ (Y ≤ y ∧ y < Y + 5)) (outs ++ [(h, k)]) W2 ∧ KeepsAt (fun j => R j ∨ T j ∨ j = X ∨ (Y ≤ j ∧ j < Y + 5)) w1 W2 := by
        intro w1 hb1
        exact HY.out _ outs (h, k) w1 (HI.out.1.yes HPre.out (by rw [← HHc.out]; exact hs)).2 (HJ.out.same HI.out.2.1 (OnlyAt.of_below hb1))
      have HY0 := Lib.hid hy0
      clear hy0
      gi_wp2_with (first
        | (refine ⟨trivial, ?_⟩; gi_at_call 30; refine (CallsIn.inRound l2 (callsIn_wide.2 HC.out)).mono ?_; rintro e w1 ⟨rfl, hb1⟩; obtain ⟨⟨y0, ⟨h0, h1, h2⟩, a0, k0⟩, ⟨f0, f1, f2⟩, fa, fk⟩ := (HI.out.2.2.2.1.kept (fun j _ _ => hb1.block j (by have := HI.out.2.2.1; omega))).cells; obtain ⟨z0, z1, z2⟩ := cells3_at ((hb1.block X hXlt).trans HXo.out); obtain ⟨fn, tmps, assign, body, hy, hR⟩ := HY0.out _ hb1; simp only [pEnc] at hy; have HR := Lib.hid hR; clear hR)
        | (refine ⟨trivial, ?_⟩; gi_at_call 31; refine (CallsIn.inRound l2 (callsIn_wide.2 (solid_any _ _ _ _))).mono ?_; rintro e w2 ⟨rfl, rfl⟩))
      refine (RoundIn.wideIn (n := 0) HR.out).mono ?_
      rintro e w3 ⟨rfl, hj3, hk3⟩
      have hk13 : KeepsAt (fun j => R j ∨ T j ∨ j = X ∨ (Y ≤ j ∧ j < Y + 5)) W' w3 := (KeepsAt.of_only (OnlyAt.of_below (T := fun _ => False) hb1) (fun _ _ h => h)).trans hk3
      clear h0 h1 h2 a0 k0 f0 f1 f2 fa fk z0 z1 z2 y0
      obtain ⟨⟨y0, ⟨h0, h1, h2⟩, a0, k0⟩, ⟨f0, f1, f2⟩, fa, fk⟩ := (HI.out.2.2.2.1.kept (fun j hj1 hj2 => hk13.block j (by have := HI.out.2.2.1; omega) (.inr (.inr (.inr ⟨hj1, hj2⟩))))).cells
      obtain ⟨z0, z1, z2⟩ := cells3_at ((hk13.block X hXlt (.inr (.inr (.inl rfl)))).trans HXo.out)
      have HJ3 := Lib.hid hj3
      have HK := Lib.hid hk13
      clear hj3 hk3 hk13 HR hy
      gi_wp2
      gi_region_with_o (fail)
      all_goals gi_wp2
      all_goals exact SolS.fin HI.out HJ.out hRY HRW HK.out HJ3.out (by have := (HI.out.1.yes HPre.out (by rw [← HHc.out]; exact hs)).1; rwa [← HHc.out] at this)
  case done =>
    rintro D T W' hD hTD ⟨outs, h, a, k, hi⟩ hK
    have HI := Lib.hid hi
    obtain ⟨⟨y0, ⟨h0, h1, h2⟩, a0, k0⟩, ⟨f0, f1, f2⟩, fa, fk⟩ := hi.2.2.2.1.cells
    have hDl := (Array.getElem?_eq_some_iff.1 hK).1
    have HKD := Lib.hid hK
    clear hi hK
    cases hs : solidB a k 0
    · gi_wp2_with (refine ⟨trivial, ?_⟩; gi_at_call 31; refine (callsIn_wide.2 (solid_any _ _ _ _)).mono ?_; rintro e w2 ⟨rfl, rfl⟩)
      refine ⟨by simp, .inl ⟨_, _, rfl, run_takeDeferred HKD.out, ?_⟩⟩
      refine ⟨_, results_none rfl _ _ (W'.putObj D (.deferred none)), ⟨_, rfl⟩, fun y => T y ∨ (fun _ => False) y ∨ (Y ≤ y ∧ y < Y + 5), ?_⟩
      rw [HI.out.1.last_no hs]
      exact HJ.out.same HI.out.2.1 (OnlyAt.putObj _ _ _ (.inl hTD))
    · obtain ⟨fn, tmps, assign, body, hy, hR⟩ := HY.out _ outs (h, k) W' ⟨[], by rw [HI.out.1.last_yes hs]; simp⟩ HI.out.2.1
      simp only [pEnc] at hy
      have HR := Lib.hid hR
      clear hR
      gi_wp2_with (refine ⟨trivial, ?_⟩; gi_at_call 31; refine (callsIn_wide.2 (solid_any _ _ _ _)).mono ?_; rintro e w2 ⟨rfl, rfl⟩)
      refine (RoundIn.wideOut (n := 0) HR.out).mono ?_
      rintro e w3 ⟨rfl, hj3, hk3⟩
      have HJ3 := Lib.hid hj3
      have HK := Lib.hid ((hk3.block D hDl (.inr (.inl hTD))).trans HKD.out)
      clear hj3 hk3 HR hy
      gi_wp2
      refine ⟨by simp, .inl ⟨_, _, rfl, run_takeDeferred HK.out, ?_⟩⟩
      refine ⟨_, results_none rfl _ _ (w3.putObj D (.deferred none)), ⟨_, rfl⟩, fun y => T y ∨ (fun _ => False) y ∨ (Y ≤ y ∧ y < Y + 5), ?_⟩
      rw [HI.out.1.last_yes hs]
      exact HJ.out.same HJ3.out (OnlyAt.putObj _ _ _ (.inl hTD))
end Go.Proofs.YtmebboadadlahaaDoor
