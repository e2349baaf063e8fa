/- seg.tokens: an iterator over a text's tokens, by its contract. -/
import Derived.Test.YtmebboadadlahaaDoorSSolids
import Derived.Test.YtmebboadadlahaaDoorSSeg
namespace Go.Proofs.YtmebboadadlahaaDoor
open Go Go.RowKit Go.Lib Go.Shelf
attribute [local go_sem] Oper.semAt_some alloc_set

def tEnc (t : Tok) : Array Value := #[.agg #[.int .i64 t.1, .int .i64 t.2.1, .bool t.2.2]]

theorem solids_call (A : Option Addr) (n cap : Nat) (s : ByteArray) (w : World) : Calls Tryd.prog 26 #[.slice A n cap, .string s] w fun e w' => e = .returned (.func (.func 28) #[] #[.pointer (some ⟨w.heap.size + 1, 0, none⟩), .pointer (some ⟨w.heap.size, 0, none⟩)]) ∧ w' = (w.alloc (.cells #[.slice A n cap] 22)).alloc (.cells #[.string s] 9) := by
  go_enter Tryd.func26, Tryd.ntmps26
  go_wp2
  go_ret
  exact ⟨rfl, rfl⟩
theorem tokens_call (A : Option Addr) (n cap : Nat) (s : ByteArray) (w : World) : Calls Tryd.prog 19 #[.slice A n cap, .string s] w fun e w' => e = .returned (.func (.func 25) #[] #[.pointer (some ⟨w.heap.size, 0, none⟩), .pointer (some ⟨w.heap.size + 1, 0, none⟩)]) ∧ w' = (w.alloc (.cells #[.slice A n cap] 22)).alloc (.cells #[.string s] 9) := by
  go_enter Tryd.func19, Tryd.ntmps19
  go_wp2
  go_ret
  exact ⟨rfl, rfl⟩

/-- The call's own two variables. -/
def TokB (l Y : Nat) (t : Tok) (W : World) : Prop :=
  Boxed W Y 58 (.func (.yield l) #[] #[]) ∧ W.heap[Y + 1]? = some (.cells #[.int .i64 t.1, .int .i64 t.2.1, .bool t.2.2] 34 (0, 0))
theorem TokB.kept {l Y : Nat} {t : Tok} {W W' : World} (hb : TokB l Y t W) (hk : ∀ j, Y ≤ j → j < Y + 4 → W'.heap[j]? = W.heap[j]?) : TokB l Y t W' :=
  ⟨(hk _ (by omega) (by omega)).trans hb.1, (hk _ (by omega) (by omega)).trans hb.2⟩
theorem TokB.cells {l Y : Nat} {t : Tok} {W : World} (hb : TokB l Y t W) :
    (W.cell? ⟨Y, 0, none⟩ = some (.func (.yield l) #[] #[]) ∧ (W.cell? ⟨Y + 1, 0, none⟩ = some (.int .i64 t.1) ∧ W.cell? ⟨Y + 1, 1, none⟩ = some (.int .i64 t.2.1) ∧ W.cell? ⟨Y + 1, 2, none⟩ = some (.bool t.2.2))) ∧
    (W.frozen? ⟨Y + 1, 0, none⟩ = false ∧ W.frozen? ⟨Y + 1, 1, none⟩ = false ∧ W.frozen? ⟨Y + 1, 2, none⟩ = false) :=
  ⟨⟨hb.1.cell, cells3_at hb.2⟩, frozen3_at hb.2⟩

/-- What holds between two rounds. E: what the round itself has laid. -/
def TokS (J : (Nat → Prop) → List Tok → World → Prop) (all : List (U3 × Int)) (R : Nat → Prop) (W0 : World) (l Y : Nat) (E T : Nat → Prop) (pre : List (U3 × Int)) (outs : List Tok) (t : Tok) (W : World) : Prop :=
  TokInv all pre outs t ∧ J (fun y => T y ∨ E y ∨ (Y ≤ y ∧ y < Y + 4)) outs W ∧ Y + 4 ≤ W.heap.size ∧ TokB l Y t W ∧ (∀ j, R j → W.heap[j]? = W0.heap[j]?) ∧ ∀ j, T j → Y + 4 ≤ j

theorem TokS.stab {J : (Nat → Prop) → List Tok → World → Prop} {all : List (U3 × Int)} {R : Nat → Prop} {W0 : World} {l Y : Nat} {E E' T T' : Nat → Prop} {pre : List (U3 × Int)} {outs : List Tok} {t : Tok} {W W' : World}
    (hi : TokS J all R W0 l Y E T pre outs t W) (hJ : Stab J) (hR : ∀ j, R j → j < Y) (ho : OnlyAt T W W') (ht : ∀ j, T' j → T j ∨ (W.heap.size ≤ j ∧ j < W'.heap.size)) (he : ∀ j, E' j → E j ∨ (W.heap.size ≤ j ∧ j < W'.heap.size)) : TokS J all R W0 l Y E' T' pre outs t W' := by
  obtain ⟨h1, h2, h3, h4, h5, h6⟩ := hi
  have hz := ho.size
  refine ⟨h1, hJ _ _ _ _ _ h2 (ho.mono fun _ hk => .inl hk) ?_, by omega, h4.kept ?_, ?_, ?_⟩
  · rintro j (hj | hj | hj)
    · rcases ht j hj with h | h
      · exact .inl (.inl h)
      · exact .inr h
    · rcases he j hj with h | h
      · exact .inl (.inr (.inl h))
      · exact .inr h
    · exact .inl (.inr (.inr hj))
  · intro j hj1 hj2
    exact ho.block j (by omega) (fun hh => by have := h6 j hh; omega)
  · intro j hj
    exact (ho.block j (by have := hR j hj; omega) (fun hh => by have := h6 j hh; have := hR j hj; omega)).trans (h5 j hj)
  · intro j hj
    rcases ht j hj with h | h
    · exact h6 j h
    · omega

def TokI (J : (Nat → Prop) → List Tok → World → Prop) (all : List (U3 × Int)) (R : Nat → Prop) (W0 : World) (l Y : Nat) (T : Nat → Prop) (pre : List (U3 × Int)) (W : World) : Prop :=
  ∃ outs t, TokS J all R W0 l Y (fun _ => False) T pre outs t W

/-- A round's last stores. -/
theorem TokS.fin {J : (Nat → Prop) → List Tok → World → Prop} {all : List (U3 × Int)} {R : Nat → Prop} {W0 : World} {l Y X : Nat} {T : Nat → Prop} {pre : List (U3 × Int)} {outs : List Tok} {t : Tok} {W' : World}
    (hi : TokS J all R W0 l Y (fun y => y = X) T pre outs t W') (hJ : Stab J) (hR : ∀ j, R j → j < Y) {pre' : List (U3 × Int)} {outs' : List Tok} {t' : Tok} {w3 w4 : World}
    (hk3 : KeepsAt (fun j => R j ∨ T j ∨ j = X ∨ (Y ≤ j ∧ j < Y + 4)) W' w3) (hj3 : J (fun y => T y ∨ y = X ∨ (Y ≤ y ∧ y < Y + 4)) outs' w3) (hinv : TokInv all pre' outs' t')
    (ho : OnlyAt (fun y => y = Y + 1) w3 w4) (hc : w4.heap[Y + 1]? = some (.cells #[.int .i64 t'.1, .int .i64 t'.2.1, .bool t'.2.2] 34 (0, 0))) :
    TokI J all R W0 l Y T pre' w4 ∧ KeepsAt (fun j => (R j ∨ j = Y + 2 ∨ j = Y + 3) ∨ T j) W' w4 := by
  obtain ⟨h1, h2, h3, h4, h5, h6⟩ := hi
  have hz := hk3.size
  have hz4 := ho.size
  refine ⟨⟨outs', t', hinv, hJ _ _ _ _ _ hj3 (ho.mono ?_) ?_, by omega, ⟨?_, hc⟩, ?_, h6⟩, ⟨by omega, ?_⟩⟩
  · rintro j rfl
    exact .inr (.inr ⟨by omega, by omega⟩)
  · rintro j (hj | hj | hj)
    · exact .inl (.inl hj)
    · exact hj.elim
    · exact .inl (.inr (.inr hj))
  · exact (ho.block Y (by omega) (by omega)).trans ((hk3.block Y (by omega) (.inr (.inr (.inr ⟨by omega, by omega⟩)))).trans h4.1)
  · intro j hj
    have := hR j hj
    exact (ho.block j (by omega) (by omega)).trans ((hk3.block j (by omega) (.inl hj)).trans (h5 j hj))
  · intro j hj hh
    refine (ho.block j (by omega) ?_).trans (hk3.block j hj ?_)
    · rcases hh with (hh | hh) | hh
      · have := hR j hh; omega
      · omega
      · have := h6 j hh; omega
    · rcases hh with (hh | hh) | hh
      · exact .inl hh
      · exact .inr (.inr (.inr ⟨by omega, by omega⟩))
      · exact .inr (.inl hh)

theorem only1 (W : World) (H i : Nat) (v : Value) : OnlyAt (fun y => y = H) W (W.setCell ⟨H, i, none⟩ v) := OnlyAt.setCell _ _ _ rfl
theorem set2 {W : World} {H : Nat} {a b c : Value} {t : TypeId} (h : W.heap[H]? = some (.cells #[a, b, c] t (0, 0))) (y z : Value) :
    ((W.setCell ⟨H, 1, none⟩ y).setCell ⟨H, 2, none⟩ z).heap[H]? = some (.cells #[a, y, z] t (0, 0)) :=
  heap_setCell_same _ _ _ _ _ _ (heap_setCell_same _ _ _ _ _ _ h)

set_option maxRecDepth 100000 in
set_option maxHeartbeats 2000000 in
theorem tokens_gives (v : Value) (rs : List Cls.R3) (s : ByteArray) (hs : s.size ≤ 1000000000000) (w0 : World) (ht : Cls.Tbl w0 v rs) (hT : Lib.Utf8Tabs 0 1 w0)
    (SB LB : Nat) (R : Nat → Prop) (W : World) (hO : Old w0 W) (hRo : ∀ k, k < w0.heap.size → R k) (hSB : Boxed W SB 9 (.string s)) (hLB : Boxed W LB 22 v) (hRlt : ∀ k, R k → k < W.heap.size) :
    Gives Tryd.prog 25 #[.pointer (some ⟨LB, 0, none⟩), .pointer (some ⟨SB, 0, none⟩)] tEnc (segs (Cls.ofT rs) 0 none (units 0 s.data.toList)) R W := by
  rw [← tk_all]
  obtain ⟨A, n, cap, rfl⟩ : ∃ A n cap, v = .slice A n cap := by
    rcases ht with ⟨⟨A, cap, h⟩, _⟩ | ⟨b, off, cap, h, _⟩
    · exact ⟨_, _, _, h⟩
    · exact ⟨_, _, _, h⟩
  intro l J hJ hY hJ0
  obtain ⟨all, hall⟩ : ∃ all, all = sol (Cls.ofT rs) 0 (units 0 s.data.toList) := ⟨_, rfl⟩
  rw [← hall] at hY ⊢
  have hsb : ∀ o1 o2, ((W.alloc o1).alloc o2).cell? ⟨SB, 0, none⟩ = some (.string s) := fun o1 o2 => ((hSB.alloc o1).alloc o2).cell
  have hlb : ∀ o1 o2, ((W.alloc o1).alloc o2).cell? ⟨LB, 0, none⟩ = some (.slice A n cap) := fun o1 o2 => ((hLB.alloc o1).alloc o2).cell
  have HALL := Lib.hid hall
  have HY := Lib.hid hY
  have HJ := Lib.hid hJ
  have HJ0 := Lib.hid hJ0
  have HT := Lib.hid ht
  have HTB := Lib.hid hT
  have HO := Lib.hid hO
  have HRo := Lib.hid hRo
  have HRlt := Lib.hid hRlt
  clear hY hJ hJ0 ht hT hO hSB hLB hRo hRlt hall
  refine (callsIn_wide (n := 6)).1 ?_
  refine callsIn_of_wp_marks Tryd.func25 rfl trivial ?_ rfl
  simp only [Tryd.ntmps25, List.size_toArray, List.length_cons, List.length_nil, Nat.reduceAdd, Nat.reduceSub, Array.replicate_succ, Array.replicate_zero, List.push_toArray, List.append_toArray, List.nil_append, List.cons_append]
  gi_wp2_with (refine ⟨trivial, ?_⟩; gi_at_call 26; refine (callsIn_wide.2 (solids_call A n cap s _)).mono ?_; rintro e w1 ⟨rfl, rfl⟩)
  obtain ⟨Y, hYe⟩ : ∃ Y, Y = W.heap.size := ⟨_, rfl⟩
  have ho4 : OnlyAt (fun _ => False) W ((((W.alloc (.cells #[.func (.yield l) #[] #[]] 58)).alloc (.cells #[.int .i64 0, .int .i64 0, .bool true] 34)).alloc (.cells #[.slice A n cap] 22)).alloc (.cells #[.string s] 9)) :=
    (((OnlyAt.alloc _ _ _).trans (OnlyAt.alloc _ _ _)).trans (OnlyAt.alloc _ _ _)).trans (OnlyAt.alloc _ _ _)
  have hst0 : TokS J all R W l Y (fun _ => False) (fun _ => False) [] [] (0, 0, true) ((((W.alloc (.cells #[.func (.yield l) #[] #[]] 58)).alloc (.cells #[.int .i64 0, .int .i64 0, .bool true] 34)).alloc (.cells #[.slice A n cap] 22)).alloc (.cells #[.string s] 9)) := by
    subst hYe
    refine ⟨TokInv.zero _, HJ.out _ _ _ _ _ HJ0.out ho4 ?_, by simp, ⟨?_, ?_⟩, fun j hj => ho4.block j (HRlt.out j hj) id, fun _ h => h.elim⟩
    · rintro j (hj | hj | hj)
      · exact hj.elim
      · exact hj.elim
      · right; simp; omega
    · exact (((Boxed.new W _ _).alloc _).alloc _).alloc _
    · have h1 := World.alloc_heap_new (W.alloc (.cells #[.func (.yield l) #[] #[]] 58)) (.cells #[.int .i64 0, .int .i64 0, .bool true] 34)
      simp only [World.size_alloc] at h1
      exact (Below.heap_alloc _ _ _ (by simp)).trans ((Below.heap_alloc _ _ _ (by simp)).trans h1)
  have hlb4 : Boxed ((((W.alloc (.cells #[.func (.yield l) #[] #[]] 58)).alloc (.cells #[.int .i64 0, .int .i64 0, .bool true] 34)).alloc (.cells #[.slice A n cap] 22)).alloc (.cells #[.string s] 9)) (W.heap.size + 2) 22 (.slice A n cap) := by
    have h1 := Boxed.new ((W.alloc (.cells #[.func (.yield l) #[] #[]] 58)).alloc (.cells #[.int .i64 0, .int .i64 0, .bool true] 34)) 22 (.slice A n cap)
    simp only [World.size_alloc] at h1
    exact h1.alloc _
  have hsb4 : Boxed ((((W.alloc (.cells #[.func (.yield l) #[] #[]] 58)).alloc (.cells #[.int .i64 0, .int .i64 0, .bool true] 34)).alloc (.cells #[.slice A n cap] 22)).alloc (.cells #[.string s] 9)) (W.heap.size + 3) 9 (.string s) := by
    have h1 := Boxed.new (((W.alloc (.cells #[.func (.yield l) #[] #[]] 58)).alloc (.cells #[.int .i64 0, .int .i64 0, .bool true] 34)).alloc (.cells #[.slice A n cap] 22)) 9 (.string s)
    simpa only [World.size_alloc] using h1
  have hsz4 : ((((W.alloc (.cells #[.func (.yield l) #[] #[]] 58)).alloc (.cells #[.int .i64 0, .int .i64 0, .bool true] 34)).alloc (.cells #[.slice A n cap] 22)).alloc (.cells #[.string s] 9)).heap.size = W.heap.size + 4 := by simp
  revert hst0 hlb4 hsb4 hsz4 ho4
  generalize ((((W.alloc (.cells #[.func (.yield l) #[] #[]] 58)).alloc (.cells #[.int .i64 0, .int .i64 0, .bool true] 34)).alloc (.cells #[.slice A n cap] 22)).alloc (.cells #[.string s] 9)) = W4
  intro ho4 hst0 hlb4 hsb4 hsz4
  simp only [Nat.add_assoc, Nat.reduceAdd, ← hYe]
  rw [← hYe] at hlb4 hsb4 hsz4
  have hRY : ∀ j, R j → j < Y := fun j hj => hYe ▸ HRlt.out j hj
  have hO4 : Old w0 W4 := ⟨by have := HO.out.1; omega, fun k hk => (hst0.2.2.2.2.1 k (HRo.out k hk)).trans (HO.out.2 k hk)⟩
  have HST0 := Lib.hid hst0
  have HSB4 := Lib.hid hsb4
  have HLB4 := Lib.hid hlb4
  have HO4 := Lib.hid hO4
  have HYe := Lib.hid hYe
  clear hst0 hsb4 hlb4 hO4 hsb hlb hYe ho4
  refine wpIn_gives (R := fun k => R k ∨ k = Y + 2 ∨ k = Y + 3) (gf := 28) (lb := #[.pointer (some ⟨Y + 3, 0, none⟩), .pointer (some ⟨Y + 2, 0, none⟩)]) rfl (enters_of Tryd.func28 (by kernel_rfl) rfl) (by omega) (encs := pEnc) (xs := all)
    (fun W1 ho => by
      rw [HALL.out]
      exact solids_gives (.slice A n cap) rs s hs w0 HT.out HTB.out (Y + 3) (Y + 2) _ W1 ⟨by have := HO4.out.1; have := ho.size; omega, fun k hk => (ho.block k (by have := HO4.out.1; omega) id).trans (HO4.out.2 k hk)⟩ (fun k hk => .inl (HRo.out k hk))
        ((ho.block (Y + 3) (by omega) id).trans HSB4.out) ((ho.block (Y + 2) (by omega) id).trans HLB4.out) (.inr (.inl rfl)) (by have := ho.size; rintro k (hk | rfl | rfl); have := hRY k hk; omega; omega; omega))
    (fun _ => rfl) (by rintro k (hk | rfl | rfl); have := hRY k hk; omega; omega; omega)
    (TokI J all R W l Y)
    ?stab ⟨_, _, HST0.out⟩
    (fun T pre x a' W' => ∃ outs t X, TokS J all R W l Y (fun y => y = X) T pre outs t W' ∧ W'.heap[X]? = some (.cells #[.int .i64 x.1.1, .int .i64 x.1.2.1, .int .i64 x.1.2.2] 39 (0, 0)) ∧ Y + 4 ≤ X ∧ ¬ T X ∧
      a' = { tmps := #[.func (.yield l) #[] #[], .pointer (some ⟨LB, 0, none⟩), .pointer (some ⟨SB, 0, none⟩), .pointer (some ⟨Y, 0, none⟩), .pointer (some ⟨Y + 1, 0, none⟩), .pointer (some ⟨X, 0, none⟩), .int .i64 x.2, .agg #[.int .i64 0, .int .i64 0, .bool true], .slice A n cap, .string s,
        .func (.func 28) #[] #[.pointer (some ⟨Y + 3, 0, none⟩), .pointer (some ⟨Y + 2, 0, none⟩)], .agg #[.int .i64 x.1.1, .int .i64 x.1.2.1, .int .i64 x.1.2.2], .int .i64 x.2, undef, undef, undef, undef, undef, undef, undef, undef, undef, undef, undef, undef, undef, undef, undef, undef, undef, undef, undef, undef, undef, undef, undef, undef, undef, undef, undef, undef, undef, undef, undef, undef, undef, undef, undef, undef], defers := [] })
    ?stabx ?assign ?body ?done
  case stab =>
    rintro T T' us A B ⟨outs, t, hi⟩ ho ht
    exact ⟨outs, t, hi.stab HJ.out hRY ho ht (fun _ h => .inl h)⟩
  case stabx =>
    rintro us x a' T T' _ A B ⟨outs, t, X, hi, hX, hXY, hTX, ha⟩ ho ht
    have hXA := (Array.getElem?_eq_some_iff.1 hX).1
    refine ⟨outs, t, X, hi.stab HJ.out hRY ho ht (fun _ h => .inl h), (ho.block X hXA hTX).trans hX, hXY, fun hh => ?_, ha⟩
    rcases ht X hh with h | h
    · exact hTX h
    · omega
  case assign =>
    rintro l2 T us x W' K hpre ⟨outs, t, hi⟩ hlt hK
    have HI := Lib.hid hi
    clear hi
    simp only [pEnc]
    gi_wp2
    have ho : ∀ T, OnlyAt T W' (W'.alloc (.cells #[.int .i64 x.1.1, .int .i64 x.1.2.1, .int .i64 x.1.2.2] 39)) := fun T => OnlyAt.alloc _ _ _
    refine hK _ _ (ho _) ⟨outs, t, W'.heap.size, HI.out.stab HJ.out hRY (ho T) (fun _ h => .inl h) ?_, World.alloc_heap_new _ _, ?_, fun hh => ?_, rfl⟩
    · rintro j rfl; right; simp
    · have := HI.out.2.2.1; omega
    · have := hlt _ hh; omega
  case body =>
    rintro l2 T pre x a' W' hpre ⟨outs, t, X, hi, hX, hXY, hTX, rfl⟩ hlt
    obtain ⟨u, k⟩ := x
    obtain ⟨x0, x1, x2⟩ := cells3_at hX
    obtain ⟨⟨y0, c0, c1, c2⟩, f0, f1, f2⟩ := hi.2.2.2.1.cells
    have hmem := sol_mem (Cls.ofT rs) (units 0 s.data.toList) 0 (u, k) (by
      rw [← HALL.out]
      obtain ⟨r, hr⟩ := hpre
      rw [← hr]; simp)
    have hul := chain_len _ _ (chain_units s.data.toList 0) u hmem.1
    have hub := units_bound s.data.toList 0 u hmem.1
    rw [← Lib.size_eq] at hub
    have hXlt := (Array.getElem?_eq_some_iff.1 hX).1
    have HI := Lib.hid hi
    have HXo := Lib.hid hX
    have HPre := Lib.hid hpre
    clear hi hX hpre hmem
    have HUB := Lib.hid hub
    by_cases hlt' : t.2.1 < u.1
    · by_cases ht0 : t.2.1 = 0
      · have HN := Lib.hid (show TokInv all (pre ++ [(u, k)]) outs (u.1, u.1 + u.2.1, k != 2) by
          have := (HI.out.1.new HPre.out hul hlt').1; rwa [if_pos ht0] at this)
        gi_wp2
        refine ⟨fun _ h => (by cases h), ?_⟩
        gi_wp2
        exact TokS.fin HI.out HJ.out hRY (KeepsAt.refl _ _) HI.out.2.1 HN.out
          (((((only1 _ _ _ _).trans (only1 _ _ _ _)).trans (only1 _ _ _ _)).trans (only1 _ _ _ _)).trans (only1 _ _ _ _))
          (set2 (set3 HI.out.2.2.2.1.2 _ _ _) _ _)
      · have HN := Lib.hid (show TokInv all (pre ++ [(u, k)]) (outs ++ [t]) (u.1, u.1 + u.2.1, k != 2) by
          have := (HI.out.1.new HPre.out hul hlt').1; rwa [if_neg ht0] at this)
        obtain ⟨fn, tmps, assign, body, hy, hR⟩ := HY.out _ outs t W' ((HI.out.1.new HPre.out hul hlt').2 ht0) HI.out.2.1
        simp only [tEnc] at hy
        have HR := Lib.hid hR
        have hpos : (0 : Int) < t.2.1 := by omega
        clear hR ht0
        gi_wp2
        refine (RoundIn.wideIn (n := 0) HR.out).mono ?_
        rintro e w3 ⟨rfl, hj3, hk3⟩
        clear y0 c0 c1 c2 f0 f1 f2 x0 x1 x2
        obtain ⟨⟨y0, c0, c1, c2⟩, f0, f1, f2⟩ := (HI.out.2.2.2.1.kept (fun j hj1 hj2 => hk3.block j (by have := HI.out.2.2.1; omega) (.inr (.inr (.inr ⟨hj1, hj2⟩))))).cells
        have hB3 := HI.out.2.2.2.1.kept (fun j hj1 hj2 => hk3.block j (by have := HI.out.2.2.1; omega) (.inr (.inr (.inr ⟨hj1, hj2⟩))))
        obtain ⟨x0, x1, x2⟩ := cells3_at ((hk3.block X hXlt (.inr (.inr (.inl rfl)))).trans HXo.out)
        have HJ3 := Lib.hid hj3
        have HK := Lib.hid hk3
        have HB3 := Lib.hid hB3
        clear hj3 hk3 HR hy hB3
        gi_wp2
        exact TokS.fin HI.out HJ.out hRY HK.out HJ3.out HN.out
          (((((only1 _ _ _ _).trans (only1 _ _ _ _)).trans (only1 _ _ _ _)).trans (only1 _ _ _ _)).trans (only1 _ _ _ _))
          (set2 (set3 HB3.out.2 _ _ _) _ _)
    · have HN := Lib.hid (HI.out.1.on HPre.out hul hlt')
      cases hw : t.2.2
      · rw [hw] at c2
        gi_wp2
        exact TokS.fin HI.out HJ.out hRY (KeepsAt.refl _ _) HI.out.2.1 (t' := (t.1, u.1 + u.2.1, false)) (by have := HN.out; rwa [hw, Bool.false_and] at this)
          ((only1 _ _ _ _).trans (only1 _ _ _ _)) (set2 HI.out.2.2.2.1.2 _ _)
      · rw [hw] at c2
        gi_wp2
        exact TokS.fin HI.out HJ.out hRY (KeepsAt.refl _ _) HI.out.2.1 (t' := (t.1, u.1 + u.2.1, k != 2)) (by have := HN.out; rwa [hw, Bool.true_and] at this)
          ((only1 _ _ _ _).trans (only1 _ _ _ _)) (set2 HI.out.2.2.2.1.2 _ _)
  case done =>
    rintro D T W' hD hTD ⟨outs, t, hi⟩ hK
    obtain ⟨⟨y0, c0, c1, c2⟩, f0, f1, f2⟩ := hi.2.2.2.1.cells
    have hDl := (Array.getElem?_eq_some_iff.1 hK).1
    have HI := Lib.hid hi
    have HKD := Lib.hid hK
    clear hi hK
    by_cases ht0 : t.2.1 = 0
    · gi_wp2
      refine ⟨by simp, .inl ⟨_, _, rfl, run_takeDeferred HKD.out, ?_⟩⟩
      refine ⟨_, results_none rfl _ _ (W'.putObj D (.deferred none)), ⟨_, rfl⟩, fun y => T y ∨ (fun _ => False) y ∨ (Y ≤ y ∧ y < Y + 4), ?_⟩
      rw [HI.out.1.last_no ht0]
      exact HJ.out.same HI.out.2.1 (OnlyAt.putObj _ _ _ (.inl hTD))
    · have hl := HI.out.1.last_yes ht0
      obtain ⟨fn, tmps, assign, body, hy, hR⟩ := HY.out _ outs t W' ⟨[], by rw [hl]; simp⟩ HI.out.2.1
      simp only [tEnc] at hy
      have HR := Lib.hid hR
      have HL := Lib.hid hl
      have hpos : (0 : Int) < t.2.1 := by omega
      clear hR hl ht0
      gi_wp2
      refine (RoundIn.wideOut (n := 0) HR.out).mono ?_
      rintro e w3 ⟨rfl, hj3, hk3⟩
      have HJ3 := Lib.hid hj3
      have HK := Lib.hid ((hk3.block D hDl (.inr (.inl hTD))).trans HKD.out)
      clear hj3 hk3 HR hy
      gi_wp2
      refine ⟨by simp, .inl ⟨_, _, rfl, run_takeDeferred HK.out, ?_⟩⟩
      refine ⟨_, results_none rfl _ _ (w3.putObj D (.deferred none)), ⟨_, rfl⟩, fun y => T y ∨ (fun _ => False) y ∨ (Y ≤ y ∧ y < Y + 4), ?_⟩
      rw [HL.out]
      exact HJ.out.same HJ3.out (OnlyAt.putObj _ _ _ (.inl hTD))
end Go.Proofs.YtmebboadadlahaaDoor
