/- dawg.number of arcs by contract: known, new. -/
import Derived.Test.YtkabdieenijnlaaINum
namespace Go.Proofs.Ytkabdieenijnlaa
open Go Go.RowKit Go.Lib Go.Maps

theorem Try.infosI62 : (Try.prog.info? 62).map (fun i => (i.zero, i.size, i.bytes)) = some (some (.agg #[.int .u8 0, .int .i32 0, .int .i32 0]), 3, 12) := by kernel_rfl

set_option maxRecDepth 100000 in
set_option maxHeartbeats 1000000 in
theorem numa_old {w : World} {pa ms k d : Nat} {f : UInt8 × Nat × Nat → Option Nat} (hK : Know kArc w ms k f) (x : UInt8 × Nat × Nat) (hx : arcFit x) (hd : f x = some d) :
    Calls Try.prog 54 #[.map (some ms), .pointer (some ⟨pa, 1, none⟩), .agg #[.int .u8 x.1.toNat, .int .i32 x.2.1, .int .i32 ((x.2.2 : Int) - 1)]] w fun e w' => e = .returned (.int .i32 d) ∧ Below w.heap.size w w' := by
  have h1 : Know kArc (w.alloc (.cells #[.int .u8 x.1.toNat, .int .i32 x.2.1, .int .i32 ((x.2.2 : Int) - 1)] 62)) ms k f := hK.same (Below.heap_alloc _ _ _ hK.lt)
  obtain ⟨y, hl, hy⟩ := h1.look hx
  obtain rfl := hy d hd
  rw [hd] at hl
  dsimp only [Option.isSome, kArc, arcC] at hl
  clear hK h1 hy hd hx
  go_enter Try.func54, Try.ntmps54
  go_wp2
  go_ret
  exact ⟨rfl, (Below.refl _ _).alloc (Nat.le_refl _) _⟩

set_option maxRecDepth 100000 in
set_option maxHeartbeats 4000000 in
theorem numa_new {w : World} {pa ms k n cap : Nat} {A : Option Addr} {x1 x2 : Value} {xs : List Value} {f : UInt8 × Nat × Nat → Option Nat} (hbox : w.heap[pa]? = some (.cells #[x1, .slice A n cap, x2] 54 (0, 0)))
    (hown : w.ownsRow 0 62 3 (.slice A n cap) n xs) (hn : n ≤ 1900000000) (hK : Know kArc w ms k f) (hk : k ≤ 1900000000) (x : UInt8 × Nat × Nat) (hx : arcFit x) (hf : f x = none) :
    Calls Try.prog 54 #[.map (some ms), .pointer (some ⟨pa, 1, none⟩), .agg #[.int .u8 x.1.toNat, .int .i32 x.2.1, .int .i32 ((x.2.2 : Int) - 1)]] w fun e w' => e = .returned (.int .i32 n) ∧ ∃ g cap',
      OnlyAt (fun z => z = pa ∨ z = ms ∨ (Value.slice A n cap).ownBlock = some z) w w' ∧ ((Value.slice A n cap).ownBlock = some g ∨ w.heap.size ≤ g) ∧
      w'.heap[pa]? = some (.cells #[x1, .slice (some ⟨g, 0, none⟩) (n + 1) cap', x2] 54 (0, 0)) ∧ w'.ownsRow 0 62 3 (.slice (some ⟨g, 0, none⟩) (n + 1) cap') (n + 1) (xs ++ arcC x) ∧
      Know kArc w' ms (k + 1) (fun y => if y = x then some n else f y) := by
  obtain ⟨i0, hi, hz0, hz1, hz2⟩ := info_parts Try.infosI62
  have hbl := (Array.getElem?_eq_some_iff.1 hbox).1
  have hml := hK.lt
  have hrl : ∀ g, (Value.slice A n cap).ownBlock = some g → g < w.heap.size := fun g hg => (hown.lt g hg).2
  have hne1 := row_ne hown hbox (by decide)
  obtain ⟨hne2, hne3⟩ : (Value.slice A n cap).ownBlock ≠ some ms ∧ pa ≠ ms := by
    obtain ⟨D, hD, _⟩ := hK.own
    exact ⟨row_neM hown hD, box_neM hbox hD⟩
  obtain ⟨w1, hw1⟩ : ∃ w1, w1 = w.alloc (.cells #[.int .u8 x.1.toNat, .int .i32 x.2.1, .int .i32 ((x.2.2 : Int) - 1)] 62) := ⟨_, rfl⟩
  have hb1 : Below w.heap.size w w1 := by rw [hw1]; exact (Below.refl _ _).alloc (Nat.le_refl _) _
  have hbox1 := (hb1.block pa hbl).trans hbox
  have hown1 : w1.ownsRow 0 62 3 (.slice A n cap) n xs := by rw [hw1]; exact hown.alloc _
  have hK1 : Know kArc w1 ms k f := hK.same (hb1.block ms hml)
  obtain ⟨y, hl, -⟩ := hK1.look hx
  rw [hf] at hl
  dsimp only [Option.isSome, kArc, arcC] at hl
  have p0 : w1.cell? ⟨w.heap.size, 0, none⟩ = some (.int .u8 x.1.toNat) := by rw [hw1]; exact new_cell _ _ _ 0
  have p1 : w1.cell? ⟨w.heap.size, 1, none⟩ = some (.int .i32 x.2.1) := by rw [hw1]; exact new_cell _ _ _ 1
  have p2 : w1.cell? ⟨w.heap.size, 2, none⟩ = some (.int .i32 ((x.2.2 : Int) - 1)) := by rw [hw1]; exact new_cell _ _ _ 2
  have b0 : w1.cell? ⟨pa, 1, none⟩ = some (.slice A n cap) := by simp [World.cell?, hbox1]
  have hs1 : w1.heap.size = w.heap.size + 1 := by rw [hw1]; exact World.size_alloc _ _
  have HW := Lib.hid hw1
  have HB := Lib.hid (And.intro hbox1 (And.intro hown1 (And.intro hb1 hK1)))
  have HP := Lib.hid (And.intro hbl (And.intro hml (And.intro hne1 (And.intro hne2 (And.intro hne3 (And.intro hs1 hrl))))))
  have HX := Lib.hid (And.intro hx (And.intro hf hk))
  rw [hw1] at hl p0 p1 p2 b0
  have n0 : (0 : Int) ≤ n := by omega
  have n1 : (n : Int) ≤ 1900000000 := by omega
  have nw : IntKind.i32.wrap (n : Int) = n := by unfold IntKind.wrap; simp [IntKind.bits, IntKind.signed]; omega
  clear hw1 hbox1 hb1 hbox hown hown1 hbl hK hK1 hx hf hk hml hne1 hne2 hne3 hs1
  go_enter Try.func54, Try.ntmps54
  go_wp2_with fail
  rw [← HW.out]
  rw [← HW.out] at hl p0 p1 p2 b0
  have h1c : ∀ u ∈ [Value.int .u8 x.1.toNat, Value.int .i32 x.2.1, Value.int .i32 ((x.2.2 : Int) - 1)], u.oneCell' = true := by
    intro u hu
    simp only [List.mem_cons, List.not_mem_nil, or_false] at hu
    rcases hu with rfl | rfl | rfl <;> rfl
  obtain ⟨NB, hNB⟩ : ∃ NB, NB = (Obj.cells #[Value.int .u8 x.1.toNat, Value.int .i32 x.2.1, Value.int .i32 ((x.2.2 : Int) - 1)] 62 (0, 0)) := ⟨_, rfl⟩
  have old : ∀ (k o : Nat) v, w1.cell? ⟨k, o, none⟩ = some v → (w1.alloc NB).cell? ⟨k, o, none⟩ = some v := fun k o v hv =>
    (((Below.refl w1.heap.size w1).alloc (Nat.le_refl _) _).cell (p := ⟨k, o, none⟩) (World.block_lt_of_cell? w1 _ hv)).trans hv
  have q0 := old _ _ _ p0
  have q1 := old _ _ _ p1
  have q2 := old _ _ _ p2
  have q4 := old _ _ _ b0
  rw [hNB] at q0 q1 q2 q4
  have HGO := Lib.hid (show ∀ (w4 : World), ((w1.alloc NB).drew).grownBy w4 (Value.slice A n cap).ownBlock → w4.heap[pa]? = some (.cells #[x1, .slice A n cap, x2] 54 (0, 0)) from fun w4 hg => by
    have hsz : ((w1.alloc NB).drew).heap.size = w1.heap.size + 1 := World.size_alloc _ _
    refine (hg.block pa (by have := HP.out.1; have := HP.out.2.2.2.2.2.1; omega) (fun e => HP.out.2.2.1 e.symm)).trans ?_
    exact (Below.heap_alloc w1 _ _ (by have := HP.out.1; have := HP.out.2.2.2.2.2.1; omega)).trans HB.out.1)
  rw [hNB] at HGO
  clear old
  go_region_law ((refine step_append_lies _ (by rfl) _ _ _ (by rfl) 0 62 i0 _ 3 12 Try.underlying52 hi hz0 hz1 hz2 rfl (by omega) (.slice A n cap) n xs (by rfl) ((HB.out.2.1.alloc _).drew) ⟨w1.heap.size, 0, none⟩ 1 1 [.int .u8 x.1.toNat, .int .i32 x.2.1, .int .i32 ((x.2.2 : Int) - 1)] (by rfl) (by rfl) (World.news_of_block (cs := #[.int .u8 x.1.toNat, .int .i32 x.2.1, .int .i32 ((x.2.2 : Int) - 1)]) (t := 62) (fr := (0, 0)) (heap_alloc_new w1 _)) h1c (by omega) (by unfold maxLen; omega) (by omega) (Nat.zero_le _) (w1.heap.size + 1) (by simp) ?_; intro gg cap4 w4 hown4 hgrow4 hat4 hlt4; have m4 := (show w4.cell? ⟨pa, 1, none⟩ = some (.slice A n cap) by simp [World.cell?, HGO.out _ hgrow4]); have f4 := (show w4.frozen? ⟨pa, 1, none⟩ = false by simp [World.frozen?, HGO.out _ hgrow4])))
  all_goals
    obtain ⟨w5, hw5⟩ : ∃ w5, w5 = w4.setCell ⟨pa, 1, none⟩ (.slice (some ⟨gg, 0, none⟩) (n + 1) cap4) := ⟨_, rfl⟩
    rw [← hw5]
    obtain ⟨bl, ml, e1, e2, e3, hsz1, hrl⟩ := HP.out
    have hb4 := HGO.out _ hgrow4
    have hb5 : w5.heap[pa]? = some (.cells #[x1, .slice (some ⟨gg, 0, none⟩) (n + 1) cap4, x2] 54 (0, 0)) := by
      rw [hw5]; exact heap_set hb4 _
    have c0 : w5.cell? ⟨w.heap.size, 0, none⟩ = some (.int .u8 x.1.toNat) ∧ w5.cell? ⟨w.heap.size, 1, none⟩ = some (.int .i32 x.2.1) ∧ w5.cell? ⟨w.heap.size, 2, none⟩ = some (.int .i32 ((x.2.2 : Int) - 1)) := by
      have hk0 : w5.heap[w.heap.size]? = w1.heap[w.heap.size]? := by
        rw [hw5]
        refine ((only1 w4 ⟨pa, 1, none⟩ _).block _ (by have := hgrow4.size; have : ((w1.alloc (Obj.cells #[Value.int .u8 x.1.toNat, Value.int .i32 x.2.1, Value.int .i32 ((x.2.2 : Int) - 1)] 62)).drew).heap.size = w1.heap.size + 1 := World.size_alloc _ _; omega) (fun e => by have : w.heap.size = pa := e; omega)).trans ?_
        have hsz : ((w1.alloc (Obj.cells #[Value.int .u8 x.1.toNat, Value.int .i32 x.2.1, Value.int .i32 ((x.2.2 : Int) - 1)] 62)).drew).heap.size = w1.heap.size + 1 := World.size_alloc _ _
        exact (hgrow4.block _ (by omega) (fun e => by have := hrl _ e.symm; omega)).trans (Below.heap_alloc w1 _ _ (by omega))
      refine ⟨?_, ?_, ?_⟩
      · refine Eq.trans ?_ p0
        unfold World.cell?
        dsimp only
        rw [hk0]
      · refine Eq.trans ?_ p1
        unfold World.cell?
        dsimp only
        rw [hk0]
      · refine Eq.trans ?_ p2
        unfold World.cell?
        dsimp only
        rw [hk0]
    have hsz : ((w1.alloc (Obj.cells #[Value.int .u8 x.1.toNat, Value.int .i32 x.2.1, Value.int .i32 ((x.2.2 : Int) - 1)] 62)).drew).heap.size = w1.heap.size + 1 := World.size_alloc _ _
    have hm5 : w5.heap[ms]? = w1.heap[ms]? := by
      rw [hw5]
      refine ((only1 w4 ⟨pa, 1, none⟩ _).block _ (by have := hgrow4.size; omega) (fun e => e3 e.symm)).trans ?_
      exact (hgrow4.block _ (by omega) (fun e => e2 e.symm)).trans (Below.heap_alloc w1 _ _ (by omega))
    have hK5 : Know kArc w5 ms k f := HB.out.2.2.2.same hm5
    obtain ⟨w6, hr6, hK6, hg6⟩ := hK5.put (c := x) (d := n) HX.out.1 (by omega) (by have := HX.out.2.2; unfold maxLen; omega)
    dsimp only [kArc, arcC] at hr6
    have hown5 : w5.ownsRow 0 62 3 (.slice (some ⟨gg, 0, none⟩) (n + 1) cap4) (n + 1) (xs ++ arcC x) :=
      row_frame hown4 fun g hg => by
        simp only [Value.ownBlock, Option.some.injEq] at hg
        subst hg
        rw [hw5]
        refine (only1 w4 ⟨pa, 1, none⟩ _).block _ hlt4 (fun e => ?_)
        dsimp only at e
        rcases hat4 with h | h
        · exact e1 (e ▸ h)
        · omega
    have hgw : (Value.slice A n cap).ownBlock = some gg ∨ w.heap.size ≤ gg := hat4.imp id (fun e => by omega)
    have ho6 : OnlyAt (fun z => z = pa ∨ z = ms ∨ (Value.slice A n cap).ownBlock = some z) w w6 := by
      have h1 : OnlyAt (fun z => z = pa ∨ z = ms ∨ (Value.slice A n cap).ownBlock = some z) w w1 := OnlyAt.of_below HB.out.2.2.1
      have h2 := h1.trans ((OnlyAt.alloc (fun z => z = pa ∨ z = ms ∨ (Value.slice A n cap).ownBlock = some z) w1 (.cells #[.int .u8 x.1.toNat, .int .i32 x.2.1, .int .i32 ((x.2.2 : Int) - 1)] 62)).trans (OnlyAt.drew _ _))
      have h3 := h2.trans (OnlyAt.of_grown hgrow4 (fun k hk => .inr (.inr hk)))
      have h4 : OnlyAt (fun z => z = pa ∨ z = ms ∨ (Value.slice A n cap).ownBlock = some z) w w5 := by
        rw [hw5]
        exact h3.trans ((only1 w4 ⟨pa, 1, none⟩ _).mono fun z hz => .inl hz)
      exact h4.trans (OnlyAt.of_grown hg6 (fun k hk => by cases hk; exact .inr (.inl rfl)))
    have hb6 := (hg6.block pa (Array.getElem?_eq_some_iff.1 hb5).1 (fun e => by cases e; exact e3 rfl)).trans hb5
    have hms : ms < w5.heap.size := hK5.lt
    have hown6 : w6.ownsRow 0 62 3 (.slice (some ⟨gg, 0, none⟩) (n + 1) cap4) (n + 1) (xs ++ arcC x) :=
      row_frame hown5 fun g hg => by
        simp only [Value.ownBlock, Option.some.injEq] at hg
        subst hg
        refine hg6.block gg (hown5.lt gg rfl).2 (fun e => ?_)
        cases e
        obtain ⟨D, hD, _⟩ := hK5.own
        exact row_neM hown5 hD rfl
    have H6 := Lib.hid (And.intro ho6 (And.intro hgw (And.intro hb6 (And.intro hown6 hK6))))
    obtain ⟨c0, c1, c2⟩ := c0
    clear hw5 hb4 hb5 hgw hown5 ho6 hown4 hgrow4 hat4 m4 f4 p0 p1 p2 b0 q0 q1 q2 q4 hsz1 hlt4 hsz hm5 hK5 hown6 hb6 hK6 hg6 hms bl ml e1 e2 e3 hrl
    go_wp2_with fail
    go_ret
    exact ⟨rfl, gg, cap4, H6.out⟩
end Go.Proofs.Ytkabdieenijnlaa
