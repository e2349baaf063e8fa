/- The array of pieces: put, drop, add, rest, part, by contract. -/
import Derived.Test.YtfdnlbeancdajaaDMem
import Derived.Deep.AppendLies
import Derived.Deep.RegionLaw
import Derived.StillTailTactics
namespace Go.Proofs.Ytfdnlbeancdajaa
open Go Go.RowKit

variable {w : World} {b m : Nat} {ta oa da : Addr} {F : Nat → Prop} {T : List It} {h : Nat} {O D : ByteArray} {al : List (Bool × Nat)} {fr : List Nat}

theorem row_some {e size n : Nat} {v : Value} {xs : List Value} (hr : w.ownsRow 0 e size v n xs) (hn : 0 < n) : ∃ g cap cur, v = .slice (some ⟨g, 0, none⟩) n cap ∧ w.heap[g]? = some (.cells cur e (0, 0)) ∧ n ≤ cap ∧ cap ≤ maxLen ∧ cur.size = cap * size ∧ cur.toList.take (n * size) = xs := by
  rcases hr.2 with ⟨rfl, rfl⟩ | ⟨g, cap, cur, h1, -, h2, h3, h4, h5, h6⟩
  · omega
  · exact ⟨g, cap, cur, h1, h2, h3, h4, h5, h6⟩
theorem row_shape {e size n : Nat} {v : Value} {xs : List Value} (hr : w.ownsRow 0 e size v n xs) : ∃ A cap, v = .slice A n cap := by
  rcases hr.2 with ⟨rfl, rfl⟩ | ⟨g, cap, cur, h1, -⟩
  · exact ⟨_, _, rfl⟩
  · exact ⟨_, _, h1⟩
theorem take_get {cur : Array Value} {k j : Nat} {xs : List Value} (hx : cur.toList.take k = xs) {v : Value} (hj : xs[j]? = some v) : cur[j]? = some v := by
  rw [← hx, List.getElem?_take] at hj
  split at hj
  · simpa using hj
  · cases hj

set_option maxRecDepth 100000 in
set_option maxHeartbeats 4000000 in
theorem put_old_raw {b g ga l cap na capa key : Nat} {x0 x1 x2 x3 : Value} {cur cura : Array Value} (hbox : w.heap[b]? = some (.cells #[x0, x1, x2, x3, .slice (some ⟨ga, 0, none⟩) na capa, .slice (some ⟨g, 0, none⟩) (l + 1) cap] /-t-/61 (0, 0)))
    (hg : w.heap[g]? = some (.cells cur /-t-/3 (0, 0))) (hk : cur[l]? = some (.int .i64 (key : Int))) (hlc : l + 1 ≤ cap) (hga : w.heap[ga]? = some (.cells cura /-t-/65 (0, 0))) (hka : key < na) (_hna : na ≤ 1000000) (hsz : key * 2 + 1 < cura.size) (hl : l ≤ 1000000)
    (_hbg : b ≠ g) (hba : b ≠ ga) (_hgg : g ≠ ga) (ad : Bool) (n : Nat) :
    Calls Try.prog 26 #[.pointer (some ⟨b, 2, none⟩), .agg #[.bool ad, .int .i64 n]] w fun e w' => e = .returned (.int .i64 key) ∧ OnlyAt (fun z => z = b ∨ z = ga) w w' ∧
      w'.heap[b]? = some (.cells #[x0, x1, x2, x3, .slice (some ⟨ga, 0, none⟩) na capa, .slice (some ⟨g, 0, none⟩) l cap] /-t-/61 (0, 0)) ∧
      w'.heap[ga]? = some (.cells ((cura.setIfInBounds (key * 2) (.bool ad)).setIfInBounds (key * 2 + 1) (.int .i64 n)) /-t-/65 (0, 0)) := by
  have hbl := (Array.getElem?_eq_some_iff.1 hbox).1
  have hgl := (Array.getElem?_eq_some_iff.1 hg).1
  have hgal := (Array.getElem?_eq_some_iff.1 hga).1
  obtain ⟨w1, hw1⟩ : ∃ w1, w1 = w.alloc (.cells #[.bool ad, .int .i64 n] /-t-/65) := ⟨_, rfl⟩
  have hb1 : Below w.heap.size w w1 := by rw [hw1]; exact (Below.refl _ _).alloc (Nat.le_refl _) _
  have hbox1 := (hb1.block b hbl).trans hbox
  have hg1 := (hb1.block g hgl).trans hg
  have hga1 := (hb1.block ga hgal).trans hga
  have p0 : w1.cell? ⟨w.heap.size, 0, none⟩ = some (.bool ad) := by rw [hw1]; simp only [World.cell?]; rw [Avl.look_same w _ rfl]; rfl
  have p1 : w1.cell? ⟨w.heap.size, 1, none⟩ = some (.int .i64 n) := by rw [hw1]; simp only [World.cell?]; rw [Avl.look_same w _ rfl]; rfl
  have b4 : w1.cell? ⟨b, 4, none⟩ = some (.slice (some ⟨ga, 0, none⟩) na capa) := by simp [World.cell?, hbox1]
  have b5 : w1.cell? ⟨b, 5, none⟩ = some (.slice (some ⟨g, 0, none⟩) (l + 1) cap) := by simp [World.cell?, hbox1]
  have f5 : w1.frozen? ⟨b, 5, none⟩ = false := by simp [World.frozen?, hbox1]
  have gk : w1.cell? ⟨g, l, none⟩ = some (.int .i64 key) := by simp [World.cell?, hg1, hk]
  have e0 : w1.cell? ⟨ga, key * 2, none⟩ = some (cura[key * 2]'(by omega)) := by simp [World.cell?, hga1]
  have e1 : w1.cell? ⟨ga, key * 2 + 1, none⟩ = some (cura[key * 2 + 1]'hsz) := by simp [World.cell?, hga1]
  have fa : ∀ o, w1.frozen? ⟨ga, o, none⟩ = false := fun o => by simp [World.frozen?, hga1]
  have hs : b ≠ w.heap.size := by omega
  have HW := Lib.hid hw1
  have HB := Lib.hid (And.intro hbox1 (And.intro hga1 hb1))
  have HP := Lib.hid (And.intro hbl hgal)
  rw [hw1] at p0 p1 b4 b5 f5 gk e0 e1 fa
  have l0 : (0 : Int) ≤ l := by omega
  have l1 : (l : Int) ≤ 1000000 := by omega
  have k0 : (0 : Int) ≤ key := by omega
  have k1 : (key : Int) < na := by omega
  have lc : l ≤ cap := by omega
  clear hw1 hbox1 hg1 hga1 hb1 hbox hg hga hk hbl hgl hgal
  go_enter Try.func26, Try.ntmps26
  go_wp2_with fail
  obtain ⟨w2, hw2⟩ : ∃ w2, w2 = ((w.alloc (.cells #[.bool ad, .int .i64 n] /-t-/65)).setCell ⟨b, 5, none⟩ (.slice (some ⟨g, 0, none⟩) l cap)) := ⟨_, rfl⟩
  rw [← hw2]
  have ho2 : OnlyAt (fun z => z = b) w1 w2 := by rw [hw2, ← HW.out]; exact Avl.only1 w1 ⟨b, 5, none⟩ _
  have hlt1 : w1.heap.size = w.heap.size + 1 := by rw [HW.out]; exact World.size_alloc _ _
  have kk : ∀ (k o : Nat) v, k ≠ b → w1.cell? ⟨k, o, none⟩ = some v → w2.cell? ⟨k, o, none⟩ = some v := fun k o v hq hv => Avl.only_cell ho2 hv hq
  rw [← HW.out] at p0 p1 b4 b5 f5 gk e0 e1 fa
  have q0 := kk _ _ _ (fun e => hs e.symm) p0
  have q1 := kk _ _ _ (fun e => hs e.symm) p1
  have r0 := kk _ _ _ (fun e => hba e.symm) e0
  have r1 := kk _ _ _ (fun e => hba e.symm) e1
  have hbox2 : w2.heap[b]? = some (.cells #[x0, x1, x2, x3, .slice (some ⟨ga, 0, none⟩) na capa, .slice (some ⟨g, 0, none⟩) l cap] /-t-/61 (0, 0)) := by
    rw [hw2, ← HW.out]
    exact Sto.heap_set HB.out.1 _
  have hga2 : w2.heap[ga]? = some (.cells cura /-t-/65 (0, 0)) := (ho2.block ga (by have := HP.out.2; omega) (fun e => hba e.symm)).trans HB.out.2.1
  have c4 : w2.cell? ⟨b, 4, none⟩ = some (.slice (some ⟨ga, 0, none⟩) na capa) := by simp [World.cell?, hbox2]
  have fb : ∀ o, w2.frozen? ⟨ga, o, none⟩ = false := fun o => by simp [World.frozen?, hga2]
  have HB2 := Lib.hid (And.intro hbox2 (And.intro hga2 ((OnlyAt.of_below HB.out.2.2).trans ho2)))
  clear p0 p1 b4 b5 f5 gk e0 e1 fa hw2 ho2 kk hbox2 hga2 hlt1
  go_region
  go_wp2_with fail
  go_ret
  obtain ⟨hbox2, hga2, ho2⟩ := HB2.out
  have hset : ∀ (u : World) (o : Nat) (v : Value) (cs : Array Value), u.heap[ga]? = some (.cells cs /-t-/65 (0, 0)) → (u.setCell ⟨ga, o, none⟩ v).heap[ga]? = some (.cells (cs.setIfInBounds o v) /-t-/65 (0, 0)) := fun u o v cs h => Sto.heap_set h v
  refine ⟨rfl, OnlyAt.old (((ho2.mono fun z hz => .inl (.inl hz)).trans ((Avl.only1 w2 ⟨ga, key * 2, none⟩ _).mono fun z hz => .inl (.inr hz))).trans (((Avl.only1 _ ⟨ga, key * 2 + 1, none⟩ _).mono fun z hz => .inl (.inr hz)).trans (OnlyAt.drew _ _))), ?_, ?_⟩
  · exact (Sto.heap_set_other _ _ _ _ _ hba).trans ((Sto.heap_set_other _ _ _ _ _ hba).trans hbox2)
  · exact hset _ _ _ _ (hset _ _ _ _ hga2)

set_option maxRecDepth 100000 in
theorem info_piece : ∃ i : TypeInfo, Try.prog.info? 65 = some i ∧ i.zero = some (.agg #[.bool false, .int .i64 0]) ∧ i.size = 2 ∧ i.bytes = 16 := ⟨_, rfl, rfl, rfl, rfl⟩
set_option maxRecDepth 100000 in
theorem info_int : ∃ i : TypeInfo, Try.prog.info? 3 = some i ∧ i.zero = some (.int .i64 0) ∧ i.size = 1 ∧ i.bytes = 8 := ⟨_, rfl, rfl, rfl, rfl⟩

set_option maxRecDepth 100000 in
set_option maxHeartbeats 4000000 in
theorem put_new_raw {b cap na capa : Nat} {A Aa : Option Addr} {x0 x1 x2 x3 : Value} {xs : List Value} (hbox : w.heap[b]? = some (.cells #[x0, x1, x2, x3, .slice Aa na capa, .slice A 0 cap] /-t-/61 (0, 0)))
    (hown : w.ownsRow 0 /-t-/65 2 (.slice Aa na capa) na xs) (hna : na ≤ 1000000) (hne : (Value.slice Aa na capa).ownBlock ≠ some b) (ad : Bool) (n : Nat) :
    Calls Try.prog 26 #[.pointer (some ⟨b, 2, none⟩), .agg #[.bool ad, .int .i64 n]] w fun e w' => e = .returned (.int .i64 na) ∧ ∃ g cap', OnlyAt (fun z => z = b ∨ (Value.slice Aa na capa).ownBlock = some z) w w' ∧ ((Value.slice Aa na capa).ownBlock = some g ∨ w.heap.size ≤ g) ∧
      w'.heap[b]? = some (.cells #[x0, x1, x2, x3, .slice (some ⟨g, 0, none⟩) (na + 1) cap', .slice A 0 cap] /-t-/61 (0, 0)) ∧
      w'.ownsRow 0 /-t-/65 2 (.slice (some ⟨g, 0, none⟩) (na + 1) cap') (na + 1) (xs ++ [.bool ad, .int .i64 n]) := by
  obtain ⟨i0, hi, hz0, hz1, hz2⟩ := info_piece
  have hbl := (Array.getElem?_eq_some_iff.1 hbox).1
  obtain ⟨w1, hw1⟩ : ∃ w1, w1 = w.alloc (.cells #[.bool ad, .int .i64 n] /-t-/65) := ⟨_, rfl⟩
  have hb1 : Below w.heap.size w w1 := by rw [hw1]; exact (Below.refl _ _).alloc (Nat.le_refl _) _
  have hbox1 := (hb1.block b hbl).trans hbox
  have p0 : w1.cell? ⟨w.heap.size, 0, none⟩ = some (.bool ad) := by rw [hw1]; simp only [World.cell?]; rw [Avl.look_same w _ rfl]; rfl
  have p1 : w1.cell? ⟨w.heap.size, 1, none⟩ = some (.int .i64 n) := by rw [hw1]; simp only [World.cell?]; rw [Avl.look_same w _ rfl]; rfl
  have b4 : w1.cell? ⟨b, 4, none⟩ = some (.slice Aa na capa) := by simp [World.cell?, hbox1]
  have b5 : w1.cell? ⟨b, 5, none⟩ = some (.slice A 0 cap) := by simp [World.cell?, hbox1]
  have hown1 : w1.ownsRow 0 /-t-/65 2 (.slice Aa na capa) na xs := by rw [hw1]; exact hown.alloc _
  have HW := Lib.hid hw1
  have HB := Lib.hid (And.intro hbox1 (And.intro hown1 hb1))
  have HP := Lib.hid (And.intro hbl hne)
  rw [hw1] at p0 p1 b4 b5
  have n0 : (0 : Int) ≤ na := by omega
  have n1 : (na : Int) ≤ 1000000 := by omega
  clear hw1 hbox1 hb1 hbox hown hown1 hbl
  go_enter Try.func26, Try.ntmps26
  go_wp2_with fail
  rw [← HW.out]
  rw [← HW.out] at p0 p1 b4 b5
  have h1c : ∀ u ∈ [Value.bool ad, Value.int .i64 n], u.oneCell' = true := by
    intro u hu
    simp only [List.mem_cons, List.not_mem_nil, or_false] at hu
    rcases hu with rfl | rfl <;> rfl
  have hgo : ∀ (w4 : World), ((w1.alloc (.cells #[.bool ad, .int .i64 n] /-t-/65)).drew).grownBy w4 (Value.slice Aa na capa).ownBlock → w4.heap[b]? = some (.cells #[x0, x1, x2, x3, .slice Aa na capa, .slice A 0 cap] /-t-/61 (0, 0)) := fun w4 hg => by
    have hb1 := HB.out.2.2
    have hbl : b < w1.heap.size := Nat.lt_of_lt_of_le HP.out.1 hb1.size
    have hsz : ((w1.alloc (.cells #[.bool ad, .int .i64 n] /-t-/65)).drew).heap.size = w1.heap.size + 1 := World.size_alloc _ _
    refine (hg.block b (by omega) (fun e => HP.out.2 e.symm)).trans ?_
    exact (Below.heap_alloc w1 _ _ hbl).trans HB.out.1
  have HGO := Lib.hid hgo
  clear hgo
  have old : ∀ (k o : Nat) v, w1.cell? ⟨k, o, none⟩ = some v → (w1.alloc (.cells #[.bool ad, .int .i64 n] /-t-/65)).cell? ⟨k, o, none⟩ = some v := fun k o v hv =>
    (((Below.refl w1.heap.size w1).alloc (Nat.le_refl _) _).cell (p := ⟨k, o, none⟩) (World.block_lt_of_cell? w1 _ hv)).trans hv
  have q0 := old _ _ _ p0
  have q1 := old _ _ _ p1
  have q4 := old _ _ _ b4
  clear old
  go_region_law ((refine step_append_lies _ (by rfl) _ _ _ (by rfl) 0 /-t-/65 i0 _ 2 16 Try.underlying56 hi hz0 hz1 hz2 rfl (by omega) (.slice Aa na capa) na xs (by rfl) ((HB.out.2.1.alloc _).drew) ⟨w1.heap.size, 0, none⟩ 1 1 [.bool ad, .int .i64 n] (by rfl) (by rfl) (World.news_of_block (cs := #[.bool ad, .int .i64 n]) (t := /-t-/65) (fr := (0, 0)) (heap_alloc_new w1 _)) h1c (by omega) (by unfold maxLen; omega) (by omega) (Nat.zero_le _) (w1.heap.size + 1) (by simp) ?_; intro gg cap4 w4 hown4 hgrow4 hat4 hlt4; have m4 := (show w4.cell? ⟨b, 4, none⟩ = some (.slice Aa na capa) by simp [World.cell?, HGO.out _ hgrow4]); have f4 := (show w4.frozen? ⟨b, 4, none⟩ = false by simp [World.frozen?, HGO.out _ hgrow4])))
  all_goals
    obtain ⟨w5, hw5⟩ : ∃ w5, w5 = w4.setCell ⟨b, 4, none⟩ (.slice (some ⟨gg, 0, none⟩) (na + 1) cap4) := ⟨_, rfl⟩
    rw [← hw5]
    have hb4 := HGO.out _ hgrow4
    have hb5 : w5.heap[b]? = some (.cells #[x0, x1, x2, x3, .slice (some ⟨gg, 0, none⟩) (na + 1) cap4, .slice A 0 cap] /-t-/61 (0, 0)) := by
      rw [hw5]; exact Sto.heap_set hb4 _
    have c5 : w5.cell? ⟨b, 4, none⟩ = some (.slice (some ⟨gg, 0, none⟩) (na + 1) cap4) := by simp [World.cell?, hb5]
    have hsz1 : w1.heap.size = w.heap.size + 1 := by rw [HW.out]; exact World.size_alloc _ _
    have hgb : gg ≠ b := by
      have hbl := HP.out.1
      rcases hat4 with e | e
      · exact fun e' => HP.out.2 (e' ▸ e)
      · omega
    have hgw : (Value.slice Aa na capa).ownBlock = some gg ∨ w.heap.size ≤ gg := hat4.imp id (fun e => by omega)
    have hown5 : w5.ownsRow 0 /-t-/65 2 (.slice (some ⟨gg, 0, none⟩) (na + 1) cap4) (na + 1) (xs ++ [.bool ad, .int .i64 n]) :=
      Sto.row_frame hown4 fun g hg => by
        simp only [Value.ownBlock, Option.some.injEq] at hg
        rw [hw5]
        exact Sto.heap_set_other _ _ _ _ _ (fun e => hgb (by rw [← e]; exact hg))
    have ho5 : OnlyAt (fun z => z = b ∨ (Value.slice Aa na capa).ownBlock = some z) w w5 := by
      have h1 : OnlyAt (fun z => z = b ∨ (Value.slice Aa na capa).ownBlock = some z) w w1 := OnlyAt.of_below HB.out.2.2
      have h2 := h1.trans ((OnlyAt.alloc (fun z => z = b ∨ (Value.slice Aa na capa).ownBlock = some z) w1 (.cells #[.bool ad, .int .i64 n] /-t-/65)).trans (OnlyAt.drew _ _))
      have h3 := h2.trans (OnlyAt.of_grown hgrow4 (fun k hk => .inr hk))
      rw [hw5]
      exact h3.trans ((Avl.only1 w4 ⟨b, 4, none⟩ _).mono fun z hz => .inl hz)
    have H5 := Lib.hid (And.intro ho5 (And.intro hgw (And.intro hb5 hown5)))
    clear hw5 hb4 hb5 hgb hgw hown5 ho5 hown4 hgrow4 hat4 m4 f4 p0 p1 b4 b5 q0 q1 q4 hsz1 hlt4
    go_wp2_with fail
    go_ret
    exact ⟨rfl, gg, cap4, H5.out⟩

set_option maxRecDepth 100000 in
set_option maxHeartbeats 4000000 in
theorem drop_raw {b cap na : Nat} {A : Option Addr} {x0 x1 x2 x3 x4 : Value} {xs : List Value} (hbox : w.heap[b]? = some (.cells #[x0, x1, x2, x3, x4, .slice A na cap] /-t-/61 (0, 0)))
    (hown : w.ownsRow 0 /-t-/3 1 (.slice A na cap) na xs) (hna : na ≤ 1000000) (hne : (Value.slice A na cap).ownBlock ≠ some b) (key : Nat) :
    Calls Try.prog 71 #[.pointer (some ⟨b, 2, none⟩), .int .i64 key] w fun e w' => e = .returned (.tuple #[]) ∧ ∃ g cap', OnlyAt (fun z => z = b ∨ (Value.slice A na cap).ownBlock = some z) w w' ∧ ((Value.slice A na cap).ownBlock = some g ∨ w.heap.size ≤ g) ∧
      w'.heap[b]? = some (.cells #[x0, x1, x2, x3, x4, .slice (some ⟨g, 0, none⟩) (na + 1) cap'] /-t-/61 (0, 0)) ∧
      w'.ownsRow 0 /-t-/3 1 (.slice (some ⟨g, 0, none⟩) (na + 1) cap') (na + 1) (xs ++ [.int .i64 key]) := by
  obtain ⟨i0, hi, hz0, hz1, hz2⟩ := info_int
  have hbl := (Array.getElem?_eq_some_iff.1 hbox).1
  have b5 : w.cell? ⟨b, 5, none⟩ = some (.slice A na cap) := by simp [World.cell?, hbox]
  have HB := Lib.hid (And.intro hbox (And.intro hown (And.intro hbl hne)))
  clear hbox hown hbl hne
  have h1c : ∀ u ∈ [Value.int .i64 key], u.oneCell' = true := by
    intro u hu
    simp only [List.mem_cons, List.not_mem_nil, or_false] at hu
    subst hu; rfl
  have news : ∀ j u, [Value.int .i64 (key : Int)][j]? = some u → (w.alloc (.cells #[.int .i64 key] /-t-/3)).cell? ((⟨w.heap.size, 0, none⟩ : Addr).add j) = some u := World.news_of_block (cs := #[.int .i64 key]) (t := /-t-/3) (fr := (0, 0)) (heap_alloc_new w _)
  have hgo : ∀ (w4 : World), (w.alloc (.cells #[.int .i64 key] /-t-/3)).grownBy w4 (Value.slice A na cap).ownBlock → w4.heap[b]? = some (.cells #[x0, x1, x2, x3, x4, .slice A na cap] /-t-/61 (0, 0)) := fun w4 hg => by
    refine (hg.block b (by rw [World.size_alloc]; have := HB.out.2.2.1; omega) (fun e => HB.out.2.2.2 e.symm)).trans ?_
    exact (Below.heap_alloc w _ _ HB.out.2.2.1).trans HB.out.1
  have HGO := Lib.hid hgo
  have HNW := Lib.hid news
  clear hgo news
  go_enter Try.func71, Try.ntmps71
  go_wp2_with (at_builtin; refine wpList_append_lies _ rfl _ _ _ rfl 0 /-t-/3 i0 _ 1 8 Try.underlying40 hi hz0 hz1 hz2 rfl (by omega) (.slice A na cap) na xs rfl (HB.out.2.1.alloc _) ⟨w.heap.size, 0, none⟩ 1 1 [.int .i64 key] rfl rfl HNW.out h1c (by omega) (by unfold maxLen; omega) (by omega) (Nat.zero_le _) (w.heap.size + 1) (by simp) ?_)
  intro gg cap4 w4 hown4 hgrow4 hat4 hlt4
  have m4 := (show w4.cell? ⟨b, 5, none⟩ = some (.slice A na cap) by simp [World.cell?, HGO.out _ hgrow4])
  have f4 := (show w4.frozen? ⟨b, 5, none⟩ = false by simp [World.frozen?, HGO.out _ hgrow4])
  have H4 := Lib.hid (And.intro hown4 (And.intro hgrow4 hat4))
  clear hown4 hgrow4 hat4 hlt4
  go_wp2_with fail
  go_end0
  obtain ⟨hown4, hgrow4, hat4⟩ := H4.out
  obtain ⟨w5, hw5⟩ : ∃ w5, w5 = w4.setCell ⟨b, 5, none⟩ (.slice (some ⟨gg, 0, none⟩) (na + 1) cap4) := ⟨_, rfl⟩
  rw [← hw5]
  have hgb : gg ≠ b := by
    have hbl := HB.out.2.2.1
    rcases hat4 with e | e
    · exact fun e' => HB.out.2.2.2 (e' ▸ e)
    · omega
  refine ⟨rfl, gg, cap4, ?_, hat4.imp id (fun e => by omega), ?_, ?_⟩
  · have h2 := (OnlyAt.alloc (fun z => z = b ∨ (Value.slice A na cap).ownBlock = some z) w (.cells #[.int .i64 key] /-t-/3))
    have h3 := h2.trans (OnlyAt.of_grown hgrow4 (fun k hk => .inr hk))
    rw [hw5]
    exact h3.trans ((Avl.only1 w4 ⟨b, 5, none⟩ _).mono fun z hz => .inl hz)
  · rw [hw5]; exact Sto.heap_set (HGO.out _ hgrow4) _
  · exact Sto.row_frame hown4 fun g hg => by
      simp only [Value.ownBlock, Option.some.injEq] at hg
      rw [hw5]
      exact Sto.heap_set_other _ _ _ _ _ (fun e => hgb (by rw [← e]; exact hg))
end Go.Proofs.Ytfdnlbeancdajaa
