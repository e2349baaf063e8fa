/- HistoryKeeps out of what is asked of a history's calls. -/
import Derived.Test.YtibccdbmdajijaaHPlace
import Derived.Laws.MakeOwn
namespace Go.Proofs.Ytibccdbmdajijaa
open Go Go.RowKit
variable {R : (Nat → Prop) → World → Addr → Nat → List (List Ed) → List (List Ed) → Prop}

theorem eCells_set : ∀ (L : List Ed) (m : Nat) (e : Ed), m < L.length → (((eCells L).set (m * 3) (.int .i64 e.k)).set (m * 3 + 1) (.string e.d)).set (m * 3 + 2) (.string e.i) = eCells (L.set m e)
  | [], m, e, h => by simp at h
  | y :: L, 0, e, _ => rfl
  | y :: L, m + 1, e, h => by
    have ih := eCells_set L m e (by simpa using h)
    rw [show (m + 1) * 3 = m * 3 + 3 by omega]
    show _ = [Value.int .i64 y.k, .string y.d, .string y.i] ++ eCells (L.set m e)
    rw [← ih]
    rfl
set_option maxRecDepth 100000 in
theorem made_z : ∀ K, K ≤ 9 → madeCells #[.int .i64 0, .string ⟨#[]⟩, .string ⟨#[]⟩] (K * 3) = (eCells (List.replicate K (⟨0, ⟨#[]⟩, ⟨#[]⟩⟩ : Ed))).toArray
  | 0, _ => by kernel_rfl
  | 1, _ => by kernel_rfl
  | 2, _ => by kernel_rfl
  | 3, _ => by kernel_rfl
  | 4, _ => by kernel_rfl
  | 5, _ => by kernel_rfl
  | 6, _ => by kernel_rfl
  | 7, _ => by kernel_rfl
  | 8, _ => by kernel_rfl
  | 9, _ => by kernel_rfl
  | k + 10, h => by omega
def kx (i : Nat) : Ed := ⟨i, ⟨#[]⟩, ⟨#[120]⟩⟩
/-- A block that holds a list of edits. -/
def Blk (g : Nat) (L : List Ed) (w : World) : Prop := w.heap[g]? = some (.cells (eCells L).toArray 31 (0, 0))
theorem Blk.lt {g : Nat} {L : List Ed} {w : World} (h : Blk g L w) : g < w.heap.size := (Array.getElem?_eq_some_iff.1 h).1
theorem Blk.cell {g : Nat} {L : List Ed} {w : World} (h : Blk g L w) {i : Nat} {e : Ed} (he : L[i]? = some e) :
    w.cell? ⟨g, i * 3, none⟩ = some (.int .i64 e.k) ∧ w.cell? ⟨g, i * 3 + 1, none⟩ = some (.string e.d) ∧ w.cell? ⟨g, i * 3 + 2, none⟩ = some (.string e.i) := by
  obtain ⟨h0, h1, h2⟩ := eCells_at he
  have hr : ∀ (j : Nat) u, (eCells L)[j]? = some u → w.cell? ⟨g, j, none⟩ = some u := fun j u hu => by
    rw [cell_of_row _ g j (eCells L).toArray _ (0, 0) h]
    simpa using hu
  exact ⟨hr _ _ h0, hr _ _ h1, hr _ _ h2⟩
theorem Blk.frozen {g : Nat} {L : List Ed} {w : World} (h : Blk g L w) (o : Nat) : w.frozen? ⟨g, o, none⟩ = false := by
  unfold Blk at h
  simp [World.frozen?, h]
theorem Blk.row {g : Nat} {L : List Ed} {w : World} (h : Blk g L w) (hm : L.length ≤ 1000) : RowAt w (.slice (some ⟨g, 0, none⟩) L.length L.length) L := by
  refine ⟨⟨eCells_len L, .inr ⟨_, _, rfl, Nat.le_refl _, by unfold maxLen; omega, fun j u hu => ?_⟩⟩, fun _ b e => by cases e; exact h.lt⟩
  rw [add_zero_none, cell_of_row _ g j (eCells L).toArray _ (0, 0) h]
  simpa using hu
theorem cells_set (w : World) (g i : Nat) (v : Value) (cs : Array Value) (t : TypeId) (h : w.heap[g]? = some (.cells cs t (0, 0))) : (w.setCell ⟨g, i, none⟩ v).heap[g]? = some (.cells (cs.setIfInBounds i v) t (0, 0)) := by
  simp [World.setCell, Array.getElem?_modify, h]
theorem Blk.set {g : Nat} {L : List Ed} {w : World} (h : Blk g L w) (m : Nat) (e : Ed) (hm : m < L.length) :
    Blk g (L.set m e) (((w.setCell ⟨g, m * 3, none⟩ (.int .i64 e.k)).setCell ⟨g, m * 3 + 1, none⟩ (.string e.d)).setCell ⟨g, m * 3 + 2, none⟩ (.string e.i)) := by
  have := cells_set _ g (m * 3 + 2) (.string e.i) _ _ (cells_set _ g (m * 3 + 1) (.string e.d) _ _ (cells_set _ g (m * 3) (.int .i64 e.k) _ _ h))
  rw [List.setIfInBounds_toArray, List.setIfInBounds_toArray, List.setIfInBounds_toArray, eCells_set L m e hm] at this
  exact this
/-- One cell is another: the block is there. -/
theorem only1 (w : World) (g o : Nat) (v : Value) : OnlyAt (fun k => k = g) w (w.setCell ⟨g, o, none⟩ v) := OnlyAt.setCell (T := fun k => k = g) _ ⟨g, o, none⟩ _ rfl
theorem only3 (w : World) (g o p q : Nat) (x y z : Value) : OnlyAt (fun k => k = g) w (((w.setCell ⟨g, o, none⟩ x).setCell ⟨g, p, none⟩ y).setCell ⟨g, q, none⟩ z) := ((only1 _ _ _ _).trans (only1 _ _ _ _)).trans (only1 _ _ _ _)
theorem own_box {w : World} {B e size n : Nat} {v : Value} {xs : List Value} (h : w.ownsRow B e size v n xs) (hn : 0 < n) :
    ∃ g cap cur, v = .slice (some ⟨g, 0, none⟩) n cap ∧ w.heap[g]? = some (.cells cur e (0, 0)) ∧ n ≤ cap ∧ cap ≤ maxLen ∧ B ≤ g ∧ ∀ j u, xs[j]? = some u → w.cell? ⟨g, j, none⟩ = some u := by
  have hc := @World.ownsRow.cells _ _ _ _ _ _ _ h
  rcases h.2 with ⟨_, rfl⟩ | ⟨g, cap, cur, rfl, hb, hg, hnc, hcm, _⟩
  · omega
  · refine ⟨g, cap, cur, rfl, hg, hnc, hcm, hb, fun j u hu => ?_⟩
    have hadd : (⟨g, 0, none⟩ : Addr).add j = ⟨g, j, none⟩ := by unfold Addr.add; split <;> simp_all
    rw [← hadd]
    exact hc (g := g) rfl j u hu
theorem Try.infos31 : (Try.prog.info? 31).map (fun i => (i.zero, i.size, i.bytes)) = some (some (.agg #[.int .i64 0, .string ⟨#[]⟩, .string ⟨#[]⟩]), 3, 40) := by kernel_rfl

set_option maxRecDepth 100000 in
set_option maxHeartbeats 8000000 in
theorem keeps_law (S : SaysH R) (x v : Int) (w : World) :
    Calls Try.prog 6 #[.int .i64 x, .int .i64 v] w fun e w' => e = .returned (.bool true) ∧ Below w.heap.size w w' := by
  have W7 := Lib.hid (awake_any S)
  obtain ⟨i1, hi1, hz1, hz2, hz3⟩ := info_parts Try.infos31
  obtain ⟨k, hk⟩ : ∃ k : Nat, x % 9 = k := ⟨(x % 9).toNat, by omega⟩
  have k1 : (k : Int) < 9 := by omega
  have wk : IntKind.i64.wrap (1 + (k : Int)) = ((k + 1 : Nat) : Int) := by rw [IntWalk.i64_in _ (by omega)]; omega
  have CP := Lib.hid (fun wx => hk ▸ place_any x 9 wx (by omega) (by omega))
  clear hk
  obtain ⟨K, hK⟩ : ∃ K, K = k + 1 := ⟨_, rfl⟩
  rw [← hK] at wk
  have K1 : 1 ≤ (K : Int) := by omega
  have K2 : (K : Int) ≤ 9 := by omega
  clear hK k1
  have HS := Lib.hid S
  have HF := Lib.hid S.firm
  have C1 := Lib.hid ((Two.start w w (Below.refl _ _)).new S Nil_.firm 10 (by omega) (by omega))
  rw [show cutD 10 = 10 by decide] at C1
  have hmk : ∀ wx : World, (Instr.makeSlice 32 (.int .i64 (K : Int)) (.int .i64 (K : Int))).run Try.prog wx = .ok (.slice (some ⟨wx.heap.size, 0, none⟩) K K) (wx.alloc (.cells (eCells (List.replicate K (⟨0, ⟨#[]⟩, ⟨#[]⟩⟩ : Ed))).toArray 31)) := fun wx => by
    have hr := run_make (P := Try.prog) wx 32 31 i1 _ Try.underlying32 hi1 hz1 .i64 .i64 K K (by omega) (Int.le_refl _) (by rw [hz3]; omega) (by omega)
    rw [Int.toNat_natCast, hz2] at hr
    have h2 : madeCells (Value.agg #[.int .i64 0, .string ⟨#[]⟩, .string ⟨#[]⟩]).cells (K * 3) = _ := made_z K (by omega)
    rw [hr, h2]
  clear S
  go_enter Try.func6, Try.ntmps6
  go_wp2_with fail
  refine C1.out.mono ?_
  rintro e w1 ⟨a, rfl, H1, -⟩
  go_wp2_with fail
  refine (CP.out _).mono ?_
  rintro e wp ⟨rfl, rfl⟩
  have HB0 := Lib.hid (show Blk w1.heap.size (List.replicate K (⟨0, ⟨#[]⟩, ⟨#[]⟩⟩ : Ed)) (w1.alloc (.cells (eCells (List.replicate K (⟨0, ⟨#[]⟩, ⟨#[]⟩⟩ : Ed))).toArray 31)) from World.alloc_heap_new _ _)
  have H2 := Lib.hid (H1.out.add HF.out Nil_.firm (.cells (eCells (List.replicate K (⟨0, ⟨#[]⟩, ⟨#[]⟩⟩ : Ed))).toArray 31))
  have HG := Lib.hid H1.out.below.size
  obtain ⟨g, hg⟩ : ∃ g, g = w1.heap.size := ⟨_, rfl⟩
  rw [← hg] at HB0 H2 HG
  clear CP C1
  go_wp2_with fail
  rw [← hg]
  obtain ⟨w2, hw2⟩ : ∃ w2, w2 = w1.alloc (.cells (eCells (List.replicate K (⟨0, ⟨#[]⟩, ⟨#[]⟩⟩ : Ed))).toArray 31) := ⟨_, rfl⟩
  rw [← hw2] at HB0 H2 ⊢
  clear hw2 hg hmk H1
  go_loopw [8] (fun i wr => ∃ m : Nat, m ≤ K ∧ i = .int .i64 m ∧ ∃ L : List Ed, Hid (L.length = K ∧ ∀ j, j < m → L[j]? = some (kx j)) ∧ Hid (Blk g L wr) ∧ Hid (Two R Nil_ w a 10 [] [] ⟨0, 0, none⟩ 0 [] [] (fun k => False ∨ k = g) wr)) (fun i _ => K - (RowKit.intOf i).toNat)
  case atStart => exact ⟨0, Nat.zero_le _, rfl, _, Lib.hid ⟨List.length_replicate, fun j h => by omega⟩, HB0, H2⟩
  case round =>
    obtain ⟨m, hm, rfl, L, HL, HB, HT⟩ := hrel
    have m0 : (0 : Int) ≤ m := by omega
    by_cases hmn : m < K
    · have mn : (m : Int) < K := by omega
      obtain ⟨e0, he0⟩ : ∃ e0, L[m]? = some e0 := ⟨_, List.getElem?_eq_getElem (by rw [HL.out.1]; exact hmn)⟩
      obtain ⟨c0, c1, c2⟩ := HB.out.cell he0
      have cf := HB.out.frozen
      have HB3 := Lib.hid (HB.out.set m (kx m) (by rw [HL.out.1]; exact hmn))
      have HT3 := Lib.hid (HT.out.write HF.out Nil_.firm (by rintro k (h | rfl); exact h.elim; exact HG.out) ((only3 wr g (m * 3) (m * 3 + 1) (m * 3 + 2) (.int .i64 m) (.string ⟨#[]⟩) (.string ⟨#[120]⟩)).mono fun _ h => .inr h))
      have HL3 := Lib.hid (show (L.set m (kx m)).length = K ∧ ∀ j, j < m + 1 → (L.set m (kx m))[j]? = some (kx j) from ⟨by rw [List.length_set]; exact HL.out.1, fun j hj => by
        rw [List.getElem?_set]
        by_cases h : m = j
        · subst h
          rw [if_pos rfl, if_pos (by rw [HL.out.1]; exact hmn)]
        · rw [if_neg h]; exact HL.out.2 j (by omega)⟩)
      clear he0 HL HB HT
      go_wp2_with fail
      go_roundw
      case rel => exact ⟨m + 1, by omega, by go_num, _, HL3, HB3, HT3⟩
      case measure => simp [RowKit.intOf]; omega
    · obtain rfl : m = K := by omega
      clear hm hmn
      have HR := HB.out.row (by rw [HL.out.1]; omega)
      have C4 := Lib.hid (HT.out.push HS.out Nil_.firm HR (fun b h => .inr (by cases h; rfl)) (by rw [HL.out.1]; omega))
      have hp1 : pushU 10 [] L = [] ++ [L] := by unfold pushU; rw [if_neg (by rw [HL.out.1]; omega)]; rfl
      have hp2 : pushR [] L = [] := by unfold pushR; rw [if_neg (by rw [HL.out.1]; omega)]
      rw [hp1, hp2, HL.out.1] at C4
      have hL0 := HL.out.2 0 (by omega)
      have hLK : L[m - 1]? = some (kx (m - 1)) := HL.out.2 (m - 1) (by omega)
      have HLL := Lib.hid (And.intro HL.out.1 (And.intro hL0 hLK))
      clear hp1 hp2 HR HT HL hL0 hLK
      go_wp2_with fail
      refine C4.out.mono ?_
      rintro e w4 ⟨rfl, H4, hk4⟩
      have hb4 : Blk g L w4 := (hk4.out.block g HB.out.lt (.inr rfl)).trans HB.out
      obtain ⟨d0, d1, d2⟩ := hb4.cell HLL.out.2.1
      have df := hb4.frozen
      have H5 := Lib.hid ((H4.out.write HF.out Nil_.firm (by rintro k (h | rfl); exact h.elim; exact HG.out) ((only1 w4 g 0 (.int .i64 (wrap64 (1000 + v)))).mono fun _ h => .inr h)).undo HS.out Nil_.firm)
      clear C4 hk4 hb4 HB
      simp only [Nat.zero_mul] at d0 d1 d2
      go_wp2_with fail
      refine H5.out.mono ?_
      rintro e w5 ⟨v5, rfl, ho, H6, -⟩
      rw [HLL.out.1] at ho
      obtain ⟨g5, cap5, cur5, rfl, hg5, hn5, hm5, hB5, hc5⟩ := own_box ho (by omega)
      have hn5' : (m : Int) ≤ cap5 := by omega
      obtain ⟨y0, y1, y2⟩ := eCells_at HLL.out.2.1
      obtain ⟨z0, z1, z2⟩ := eCells_at HLL.out.2.2
      have q0 : w5.cell? ⟨g5, 0, none⟩ = some (.int .i64 0) := hc5 0 _ y0
      have q1 : w5.cell? ⟨g5, (m - 1) * 3 + 2, none⟩ = some (.string ⟨#[120]⟩) := hc5 _ _ z2
      have fz5 : ∀ o, w5.frozen? ⟨g5, o, none⟩ = false := fun o => by simp [World.frozen?, hg5]
      clear ho hg5 hc5 y0 y1 y2 z0 z1 z2 H5 hn5 hm5 d0 d1 d2 df
      have wm : IntKind.i64.wrap ((m : Int) - 1) = ((m - 1 : Nat) : Int) := by rw [IntWalk.i64_in _ (by omega)]; omega
      have mm0 : (0 : Int) ≤ ((m - 1 : Nat) : Int) := by omega
      have mm1 : ((m - 1 : Nat) : Int) < m := by omega
      have hw5 : w.heap.size ≤ g5 := Nat.le_trans H4.out.below.size (by simpa [World.setCell] using hB5)
      have H7 := Lib.hid (((H6.out.less (G' := fun k => k = g5) (by rintro k rfl; exact .inr rfl)).write HF.out Nil_.firm (by rintro k rfl; exact hw5) (only1 w5 g5 ((m - 1) * 3 + 2) (.string ⟨#[121]⟩))).redo HS.out Nil_.firm)
      have HW5 := Lib.hid H6.out.below.size
      clear hB5 hw5 H6
      go_wp2_with fail
      refine H7.out.mono ?_
      rintro e w6 ⟨v6, rfl, ho, H8, -⟩
      rw [HLL.out.1] at ho
      obtain ⟨g6, cap6, cur6, rfl, hg6, hn6, hm6, hB6, hc6⟩ := own_box ho (by omega)
      have hn6' : (m : Int) ≤ cap6 := by omega
      obtain ⟨y0, y1, y2⟩ := eCells_at HLL.out.2.1
      obtain ⟨z0, z1, z2⟩ := eCells_at HLL.out.2.2
      have p0 : w6.cell? ⟨g6, 0, none⟩ = some (.int .i64 0) := hc6 0 _ y0
      have p1 : w6.cell? ⟨g6, 1, none⟩ = some (.string ⟨#[]⟩) := hc6 1 _ y1
      have p2 : w6.cell? ⟨g6, (m - 1) * 3 + 2, none⟩ = some (.string ⟨#[120]⟩) := hc6 _ _ z2
      have fz6 : ∀ o, w6.frozen? ⟨g6, o, none⟩ = false := fun o => by simp [World.frozen?, hg6]
      have hw6 : w.heap.size ≤ g6 := Nat.le_trans HW5.out (by simpa [World.setCell] using hB6)
      have H9 := Lib.hid (((H8.out.less (G' := fun k => k = g6) (by rintro k rfl; exact .inr rfl)).write HF.out Nil_.firm (by rintro k rfl; exact hw6) (only1 w6 g6 1 (.string ⟨#[122]⟩))).undo HS.out Nil_.firm)
      clear ho hg6 hc6 y0 y1 y2 z0 z1 z2 H7 hn6 hm6 hB6 hw6 H8 q0 q1 fz5
      go_wp2_with fail
      refine H9.out.mono ?_
      rintro e w7 ⟨v7, rfl, ho, H10, -⟩
      rw [HLL.out.1] at ho
      obtain ⟨g7, cap7, cur7, rfl, hg7, hn7, hm7, hB7, hc7⟩ := own_box ho (by omega)
      have hn7' : (m : Int) ≤ cap7 := by omega
      obtain ⟨y0, y1, y2⟩ := eCells_at HLL.out.2.1
      have r1 : w7.cell? ⟨g7, 1, none⟩ = some (.string ⟨#[]⟩) := hc7 1 _ y1
      clear ho hg7 hc7 y0 y1 y2 H9 hn7 hm7 hB7 p0 p1 p2 fz6
      go_wp2_with fail
      refine (W7.out _).mono ?_
      rintro e w8 ⟨rfl, hb8⟩
      have HB8 := Lib.hid (H10.out.below.trans (hb8.mono H10.out.below.size))
      clear hb8
      go_wp2_with fail
      go_ret
      exact ⟨rfl, HB8.out⟩
end Go.Proofs.Ytibccdbmdajijaa
