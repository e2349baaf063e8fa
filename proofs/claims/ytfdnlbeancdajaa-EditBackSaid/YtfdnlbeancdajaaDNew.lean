/- buffer.New, by contract. -/
import Derived.Test.YtfdnlbeancdajaaDCut
namespace Go.Proofs.Ytfdnlbeancdajaa
open Go Go.RowKit

theorem clampI (most : Int) : min (max most 0) 65536 = ((clamp most : Nat) : Int) := by unfold clamp; omega

set_option maxRecDepth 100000 in
set_option maxHeartbeats 1000000 in
theorem new_big (w : World) (s : ByteArray) (most : Int) (h : clamp most < s.size) (_hs : s.size ≤ 9223372036854775807) :
    Calls Try.prog 13 #[.string s, .int .i64 most] w fun e w' => e = .returned (.tuple #[.pointer none, .int .i64 3]) ∧ w' = w := by
  have hc := clampI most
  have h1 : ((clamp most : Nat) : Int) < s.size := by omega
  clear h
  generalize (clamp most) = M at *
  go_enter Try.func13, Try.ntmps13
  go_wp2_with fail
  go_ret2
  exact ⟨rfl, rfl⟩

theorem Try.infoP58 : (Try.prog.info? 58).map (·.size) = some 4 := by kernel_rfl
set_option maxRecDepth 100000 in
set_option maxHeartbeats 1000000 in
theorem pieces_new (w : World) (s : ByteArray) (hs : s.size ≤ 65536) :
    Calls Try.prog 24 #[.string s] w fun e w' => ∃ oa da FO FD, e = .returned (.agg #[.pointer (some oa), .pointer (some da), .slice none 0 0, .slice none 0 0]) ∧ Sto.RepB FO w' oa s ∧ Sto.RepB FD w' da ⟨#[]⟩ ∧ OnlyAt (fun _ => False) w w' ∧ ∃ p, (∀ z, FO z → w.heap.size ≤ z ∧ z < p) ∧ ∀ z, FD z → w.heap.size ≤ z ∧ p ≤ z := by
  have C1 := Lib.hid (fun wx => Sto.store_says.new wx s (by omega))
  have C2 := Lib.hid (fun wx => Sto.store_says.new wx ⟨#[]⟩ (by decide))
  obtain ⟨w0, hw0⟩ : ∃ w0, w0 = w.alloc (.cells #[.pointer none, .pointer none, .slice none 0 0, .slice none 0 0] /-t-/58) := ⟨_, rfl⟩
  have h0 : w0.heap[w.heap.size]? = some (.cells #[.pointer none, .pointer none, .slice none 0 0, .slice none 0 0] /-t-/58 (0, 0)) := by rw [hw0]; exact World.alloc_heap_new _ _
  have hb0 : Below w.heap.size w w0 := by rw [hw0]; exact (Below.refl _ _).alloc (Nat.le_refl _) _
  have HW := Lib.hid hw0
  have H0 := Lib.hid (And.intro h0 hb0)
  clear hs h0 hb0 hw0
  go_enter Try.func24, Try.ntmps24
  go_wp2_with fail
  rw [← HW.out]
  refine (C1.out _).mono ?_
  rintro e w1 ⟨oa, FO, rfl, hr1, ho1, hf1⟩
  have H1 := Lib.hid (And.intro hr1 (And.intro ho1 hf1))
  clear hr1 ho1 hf1
  go_wp2_with fail
  refine (C2.out _).mono ?_
  rintro e w2 ⟨da, FD, rfl, hr2, ho2, hf2⟩
  have hb2 : w2.heap[w.heap.size]? = some (.cells #[.pointer none, .pointer none, .slice none 0 0, .slice none 0 0] /-t-/58 (0, 0)) := by
    have l0 := (Array.getElem?_eq_some_iff.1 H0.out.1).1
    exact (ho2.block _ (Nat.lt_of_lt_of_le l0 H1.out.2.1.size) id).trans ((H1.out.2.1.block _ l0 id).trans H0.out.1)
  have q0 : w2.cell? ⟨w.heap.size, 0, none⟩ = some (.pointer none) := by simp [World.cell?, hb2]
  have q1 : w2.cell? ⟨w.heap.size, 1, none⟩ = some (.pointer none) := by simp [World.cell?, hb2]
  have q2 : w2.cell? ⟨w.heap.size, 2, none⟩ = some (.slice none 0 0) := by simp [World.cell?, hb2]
  have q3 : w2.cell? ⟨w.heap.size, 3, none⟩ = some (.slice none 0 0) := by simp [World.cell?, hb2]
  have ff : ∀ o, w2.frozen? ⟨w.heap.size, o, none⟩ = false := fun o => by simp [World.frozen?, hb2]
  have H2 := Lib.hid (And.intro hr2 (And.intro ho2 (And.intro hf2 hb2)))
  clear hr2 ho2 hf2 hb2
  go_wp2_with fail
  obtain ⟨w3, hw3⟩ : ∃ w3, w3 = ((((w2.setCell ⟨w.heap.size, 0, none⟩ (.pointer (some oa))).setCell ⟨w.heap.size, 1, none⟩ (.pointer (some da))).setCell ⟨w.heap.size, 2, none⟩ (.slice none 0 0)).setCell ⟨w.heap.size, 3, none⟩ (.slice none 0 0)) := ⟨_, rfl⟩
  rw [← hw3]
  obtain ⟨hr2, ho2, hf2, hb2⟩ := H2.out
  have hset : ∀ (u : World) (o : Nat) (v : Value) (cs : Array Value), u.heap[w.heap.size]? = some (.cells cs /-t-/58 (0, 0)) → (u.setCell ⟨w.heap.size, o, none⟩ v).heap[w.heap.size]? = some (.cells (cs.setIfInBounds o v) /-t-/58 (0, 0)) := fun u o v cs h => Sto.heap_set h v
  have hb3 : w3.heap[w.heap.size]? = some (.cells #[.pointer (some oa), .pointer (some da), .slice none 0 0, .slice none 0 0] /-t-/58 (0, 0)) := by
    rw [hw3]; exact hset _ _ _ _ (hset _ _ _ _ (hset _ _ _ _ (hset _ _ _ _ hb2)))
  have ho3 : OnlyAt (fun z => z = w.heap.size) w2 w3 := by
    rw [hw3]
    exact ((Avl.only1 _ ⟨w.heap.size, 0, none⟩ _).trans (Avl.only1 _ ⟨w.heap.size, 1, none⟩ _)).trans ((Avl.only1 _ ⟨w.heap.size, 2, none⟩ _).trans (Avl.only1 _ ⟨w.heap.size, 3, none⟩ _))
  have hs0 : w0.heap.size = w.heap.size + 1 := by rw [HW.out]; exact World.size_alloc _ _
  obtain ⟨hr1, ho1, hf1⟩ := H1.out
  have hl1 := Sto.store_says.lt _ _ _ _ hr1
  refine bodyPost_ret (results_cell_row rfl _ _ w.heap.size 58 _ (0, 0) _ rfl hb3 Try.underlying58 rfl Try.infoP58) rfl ?_
  refine ⟨oa, da, FO, FD, rfl, ?_, ?_, ?_, w1.heap.size, fun z hz => ?_, fun z hz => ?_⟩
  · refine store_only (store_only hr1 ho2 (fun _ _ => id)) ho3 (fun z hz e => ?_)
    have := hf1 z hz; have : z = w.heap.size := e; omega
  · refine store_only hr2 ho3 (fun z hz e => ?_)
    have := hf2 z hz; have : z = w.heap.size := e; have := ho1.size; omega
  · have h1 := (((OnlyAt.of_below (T := fun _ => False) H0.out.2).trans ho1).trans ho2)
    exact OnlyAt.fresh (((h1.mono fun _ e => e.elim).trans (ho3.mono fun z hz => by have : z = w.heap.size := hz; omega)))
  · have a1 := hf1 z hz
    exact ⟨by omega, hl1 z hz⟩
  · have := hf2 z hz; have := ho1.size; omega

/-- Out of a new tree and two new stores. -/
theorem st_new {w wa wp : World} {ta oa da : Addr} {FT FO FD : Nat → Prop} {s : ByteArray} {p : Nat} (m : Nat) (hT : Avl.RepA FT wa ta [] 0) (hTo : OnlyAt (fun _ => False) w wa) (hTn : ∀ k, FT k → w.heap.size ≤ k)
    (hO : Sto.RepB FO wp oa s) (hD : Sto.RepB FD wp da ⟨#[]⟩) (hPo : OnlyAt (fun _ => False) wa wp) (hFO : ∀ z, FO z → wa.heap.size ≤ z ∧ z < p) (hFD : ∀ z, FD z → wa.heap.size ≤ z ∧ p ≤ z) :
    ∃ F, St (wp.alloc (.cells #[.int .i64 (m : Int), .pointer (some ta), .pointer (some oa), .pointer (some da), .slice none 0 0, .slice none 0 0] /-t-/61)) wp.heap.size m ta oa da F [] 0 s ⟨#[]⟩ [] [] ∧
      OnlyAt (fun _ => False) w (wp.alloc (.cells #[.int .i64 (m : Int), .pointer (some ta), .pointer (some oa), .pointer (some da), .slice none 0 0, .slice none 0 0] /-t-/61)) ∧ ∀ k, F k → w.heap.size ≤ k := by
  have hal := OnlyAt.alloc (fun _ => False) wp (.cells #[.int .i64 (m : Int), .pointer (some ta), .pointer (some oa), .pointer (some da), .slice none 0 0, .slice none 0 0] /-t-/61)
  have l1 := hT.lt
  have l2 := Sto.store_says.lt _ _ _ _ hO
  have l3 := Sto.store_says.lt _ _ _ _ hD
  have s1 := hTo.size
  have s2 := hPo.size
  refine ⟨_, ⟨fun z => if z < wa.heap.size then 1 else if z = wp.heap.size then 0 else if z < p then 2 else 3, .slice none 0 0, .slice none 0 0, FT, FO, FD, rfl, ⟨World.alloc_heap_new _ _, (hT.only hPo (fun _ _ => id)).only hal (fun _ _ => id), store_only hO hal (fun _ _ => id), store_only hD hal (fun _ _ => id), World.ownsRow_nil _ _ _ _, World.ownsRow_nil _ _ _ _, ?_, fun z hz => ?_, fun z hz => ?_, fun z hz => ?_, fun z hz => (by cases hz), fun z hz => (by cases hz)⟩⟩, (hTo.trans hPo).trans hal, ?_⟩
  · show (if wp.heap.size < wa.heap.size then 1 else if wp.heap.size = wp.heap.size then 0 else if wp.heap.size < p then 2 else 3) = 0
    rw [if_neg (by omega), if_pos rfl]
  · show (if z < wa.heap.size then 1 else if z = wp.heap.size then 0 else if z < p then 2 else 3) = 1
    rw [if_pos (l1 z hz)]
  · have := hFO z hz; have := l2 z hz
    show (if z < wa.heap.size then 1 else if z = wp.heap.size then 0 else if z < p then 2 else 3) = 2
    rw [if_neg (by omega), if_neg (by omega), if_pos (by omega)]
  · have := hFD z hz; have := l3 z hz
    show (if z < wa.heap.size then 1 else if z = wp.heap.size then 0 else if z < p then 2 else 3) = 3
    rw [if_neg (by omega), if_neg (by omega), if_neg (by omega)]
  · rintro z (e | e | e | e | e | e)
    · omega
    · exact hTn z e
    · have := hFO z e; omega
    · have := hFD z e; omega
    · cases e
    · cases e

set_option maxRecDepth 100000 in
set_option maxHeartbeats 1000000 in
theorem new_none (w : World) (s : ByteArray) (most : Int) (hs : s.size = 0) :
    Calls Try.prog 13 #[.string s, .int .i64 most] w fun e w' => ∃ b ta oa da F, e = .returned (.tuple #[.pointer (some ⟨b, 0, none⟩), .int .i64 0]) ∧ Bf w' b (clamp most) ta oa da F s ⟨#[]⟩ [] 0 [] [] ∧ OnlyAt (fun _ => False) w w' ∧ ∀ k, F k → w.heap.size ≤ k := by
  have hc := clampI most
  have h1 : ¬ (((clamp most : Nat) : Int) < s.size) := by omega
  have h2 : (s.size : Int) ≤ ((clamp most : Nat) : Int) := by omega
  have h3 : clamp most ≤ 65536 := by unfold clamp; omega
  have he : s.toList.isEmpty = true := by rw [empty_of, hs]; rfl
  have CT := Lib.hid (Avl.new_a w)
  have CP := Lib.hid (fun wx => pieces_new wx s (by omega))
  have HX := Lib.hid (And.intro hs h3)
  clear hs h3
  generalize (clamp most) = M at *
  go_enter Try.func13, Try.ntmps13
  go_wp2_with fail
  refine CT.out.mono ?_
  rintro e wa ⟨ta, FT, rfl, hT, hTo, hTn⟩
  have H1 := Lib.hid (And.intro hT (And.intro hTo hTn))
  clear hT hTo hTn
  go_wp2_with fail
  refine (CP.out _).mono ?_
  rintro e wp ⟨oa, da, FO, FD, rfl, hO, hD, hPo, p, hFO, hFD⟩
  obtain ⟨F, hS, hW, hF⟩ := st_new M H1.out.1 H1.out.2.1 H1.out.2.2 hO hD hPo hFO hFD
  have H2 := Lib.hid (And.intro hS (And.intro hW hF))
  clear hO hD hPo hFO hFD hS hW hF
  go_wp2_with fail
  go_ret2
  refine ⟨_, ta, oa, da, F, rfl, ⟨H2.out.1, ⟨by simp, by simp, by simp, by simp, rfl⟩, by simp [textOf], HX.out.2, by have := HX.out.1; omega, by decide, by simp⟩, H2.out.2⟩

set_option maxRecDepth 100000 in
set_option maxHeartbeats 2000000 in
theorem new_some (w : World) (s : ByteArray) (most : Int) (hs : s.size ≠ 0) (hm : s.size ≤ clamp most) :
    Calls Try.prog 13 #[.string s, .int .i64 most] w fun e w' => ∃ b ta oa da F h al fr key, e = .returned (.tuple #[.pointer (some ⟨b, 0, none⟩), .int .i64 0]) ∧ Bf w' b (clamp most) ta oa da F s ⟨#[]⟩ [⟨key, false, 0, s.size⟩] h al fr ∧ OnlyAt (fun _ => False) w w' ∧ ∀ k, F k → w.heap.size ≤ k := by
  have hc := clampI most
  have h1 : ¬ (((clamp most : Nat) : Int) < s.size) := by omega
  have h2 : (s.size : Int) ≤ ((clamp most : Nat) : Int) := by omega
  have h3 : clamp most ≤ 65536 := by unfold clamp; omega
  have he : s.toList.isEmpty = false := by rw [empty_of]; exact decide_eq_false hs
  have CT := Lib.hid (Avl.new_a w)
  have CP := Lib.hid (fun wx => pieces_new wx s (by omega))
  have HX := Lib.hid (And.intro hs (And.intro h3 hm))
  clear hs h3 hm
  generalize (clamp most) = M at *
  go_enter Try.func13, Try.ntmps13
  go_wp2_with fail
  refine CT.out.mono ?_
  rintro e wa ⟨ta, FT, rfl, hT, hTo, hTn⟩
  have H1 := Lib.hid (And.intro hT (And.intro hTo hTn))
  clear hT hTo hTn
  go_wp2_with fail
  refine (CP.out _).mono ?_
  rintro e wp ⟨oa, da, FO, FD, rfl, hO, hD, hPo, p, hFO, hFD⟩
  obtain ⟨F, hS, hW, hF⟩ := st_new M H1.out.1 H1.out.2.1 H1.out.2.2 hO hD hPo hFO hFD
  have H2 := Lib.hid (And.intro hS (And.intro hW hF))
  clear hO hD hPo hFO hFD
  obtain ⟨wb, hwb⟩ : ∃ wb, wb = wp.alloc (.cells #[.int .i64 (M : Int), .pointer (some ta), .pointer (some oa), .pointer (some da), .slice none 0 0, .slice none 0 0] /-t-/61) := ⟨_, rfl⟩
  obtain ⟨b, hb⟩ : ∃ b, b = wp.heap.size := ⟨_, rfl⟩
  rw [← hwb, ← hb] at H2 hS
  have HW := Lib.hid (And.intro hwb hb)
  have c1 := hS.cells.2.1
  have CA := Lib.hid (put_any hS.drew (by simp) (by simp) (by simp) false 0)
  clear hwb hb hW hF hS
  go_wp2_with fail
  rw [← HW.out.1, ← HW.out.2]
  go_region_held3 (fun wx => wx.cell? ⟨b, 1, none⟩ = some (.pointer (some ta)))
    (first | exact c1 | assumption)
    (first
      | (go_at_call 26; refine CA.out.mono ?_; rintro e w5 ⟨key, al5, fr5, F5, rfl, hp5, hS5, hM5⟩; have c5 := hS5.cells.2.1; have H5 := Lib.hid (And.intro hp5 (And.intro hS5 ((Moved.drew _ _).trans hM5))); clear hp5 hS5 hM5)
      | (go_at_call 25; obtain ⟨FT5, hT5, turn5⟩ := H5.out.2.1.tree; refine (Avl.insert_a hT5 0 (key : Int) s.size (by simp) (by have := HX.out; omega) (by simp)).mono ?_; rintro e w6 ⟨rfl, FT6, h6, hr6, ho6, hf6⟩; obtain ⟨F6, hS6, hM6⟩ := turn5 w6 FT6 _ h6 hr6 ho6 hf6; have c6 := hS6.cells.2.1; have H6 := Lib.hid (And.intro hS6 (H5.out.2.2.trans hM6)); clear hT5 turn5 hr6 ho6 hf6 hS6 hM6))
  go_wp2_with fail
  go_ret2
  obtain ⟨hs, h3, hm⟩ := HX.out
  rcases H5.out.1 with ⟨h1, -⟩ | ⟨-, rfl, rfl, rfl⟩
  · simp at h1
  · have hfit : (Pc.mk 0 false 0 s.size).fits s ⟨#[]⟩ := ⟨by show 0 < s.size; omega, by show 0 + s.size ≤ s.size; omega⟩
    have htext : textOf s ⟨#[]⟩ [Pc.mk 0 false 0 s.size] = s := by
      show (s.extract 0 (0 + s.size)) ++ ByteArray.empty = s
      rw [Nat.zero_add, ByteArray.extract_zero_size, ByteArray.append_empty]
    refine ⟨b, ta, oa, da, F6, h6, _, _, 0, rfl, ⟨H6.out.1, ⟨?_, ?_, by simp, by simp, rfl⟩, by rw [htext]; exact hm, h3, by omega, by decide, by simp⟩, H2.out.2.1.then H6.out.2.1 (fun i hi => .inr (H2.out.2.2 i hi)), fun k hk => ?_⟩
    · intro x hx; simp only [List.mem_singleton] at hx; subst hx; exact hfit
    · intro x hx; simp only [List.mem_singleton] at hx; subst hx; rfl
    · exact (H6.out.2.2 k hk).elim (H2.out.2.2 k) (fun e => Nat.le_trans H2.out.2.1.size e)
end Go.Proofs.Ytfdnlbeancdajaa
