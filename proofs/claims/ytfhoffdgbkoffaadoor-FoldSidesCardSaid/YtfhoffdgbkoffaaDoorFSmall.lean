/- fold.Small by contract. -/
import Derived.Test.YtfhoffdgbkoffaaDoorFLet
import Derived.Test.YtfhoffdgbkoffaaDoorFBuild
import Derived.Test.YtfhoffdgbkoffaaDoorAll
import Derived.Deep.LoopGhost
namespace Go.Proofs.YtfhoffdgbkoffaaDoor
open Go Go.RowKit Go.Lib

theorem us_cells : ∀ (us : List (Nat × Nat × Int)) (k : Nat) (u : Nat × Nat × Int), us[k]? = some u →
    (us.flatMap uCells)[k * 3]? = some (.int .i64 u.1) ∧ (us.flatMap uCells)[k * 3 + 1]? = some (.int .i64 u.2.1) ∧ (us.flatMap uCells)[k * 3 + 2]? = some (.int .i64 u.2.2)
  | [], k, u, h => by simp at h
  | x :: us, 0, u, h => by
    simp at h; subst h
    simp [uCells]
  | x :: us, k + 1, u, h => by
    have ih := us_cells us k u (by simpa using h)
    have e : (x :: us).flatMap uCells = uCells x ++ us.flatMap uCells := rfl
    have hl : (uCells x).length = 3 := rfl
    rw [e]
    refine ⟨?_, ?_, ?_⟩
    · rw [List.getElem?_append_right (by omega), hl, show (k + 1) * 3 - 3 = k * 3 by omega]; exact ih.1
    · rw [List.getElem?_append_right (by omega), hl, show (k + 1) * 3 + 1 - 3 = k * 3 + 1 by omega]; exact ih.2.1
    · rw [List.getElem?_append_right (by omega), hl, show (k + 1) * 3 + 2 - 3 = k * 3 + 2 by omega]; exact ih.2.2
/-- A row of units, as a walk meets it. -/
theorem us_open {w : World} {B : Nat} {v : Value} {us : List (Nat × Nat × Int)} (h : w.ownsRow B 61 3 v us.length (us.flatMap uCells)) :
    ∃ A cap, v = .slice A us.length cap ∧ us.length ≤ cap ∧ ∀ (k : Nat) u, us[k]? = some u → ∃ g, A = some ⟨g, 0, none⟩ ∧ B ≤ g ∧ g < w.heap.size ∧ w.cell? ⟨g, k * 3, none⟩ = some (.int .i64 u.1) ∧ w.cell? ⟨g, k * 3 + 1, none⟩ = some (.int .i64 u.2.1) ∧ w.cell? ⟨g, k * 3 + 2, none⟩ = some (.int .i64 u.2.2) := by
  have hc := @World.ownsRow.cells _ _ _ _ _ _ _ h
  have hlt := @World.ownsRow.lt _ _ _ _ _ _ _ h
  have add0 : ∀ g j : Nat, (⟨g, 0, none⟩ : Addr).add j = ⟨g, j, none⟩ := fun g j => by unfold Addr.add; split <;> simp_all
  rcases h.2 with ⟨rfl, h0⟩ | ⟨g, cap, cur, rfl, hg, hgg, hnc, hcm, _⟩
  · refine ⟨none, 0, by rw [h0], by omega, fun k u hk => ?_⟩
    rw [List.eq_nil_of_length_eq_zero h0] at hk
    simp at hk
  · refine ⟨_, cap, rfl, hnc, fun k u hk => ⟨g, rfl, hg, (Array.getElem?_eq_some_iff.1 hgg).1, ?_, ?_, ?_⟩⟩
    · have := hc rfl _ _ (us_cells us k u hk).1; rwa [add0] at this
    · have := hc rfl _ _ (us_cells us k u hk).2.1; rwa [add0] at this
    · have := hc rfl _ _ (us_cells us k u hk).2.2; rwa [add0] at this
theorem unit_bd : ∀ (l : List UInt8) p, ∀ u ∈ units p l, p ≤ u.1 ∧ 1 ≤ u.2.1 ∧ u.1 + u.2.1 ≤ p + l.length ∧ -256 ≤ u.2.2 ∧ u.2.2 ≤ 1114111 := by
  apply unit_ind (C := fun l => ∀ p, ∀ u ∈ units p l, p ≤ u.1 ∧ 1 ≤ u.2.1 ∧ u.1 + u.2.1 ≤ p + l.length ∧ -256 ≤ u.2.2 ∧ u.2.2 ≤ 1114111)
  · intro p u hu; simp [units_nil] at hu
  · intro l hne ih p u hu
    have hle := decodeL_le l hne
    have hw := decodeL_width l
    rw [units_step p l hne] at hu
    rcases List.mem_cons.1 hu with rfl | hu
    · refine ⟨Nat.le_refl _, hw, by show p + (decodeL l).2 ≤ _; omega, ?_⟩
      have := decodeL_rune l
      have hb := (l.getD 0 0).toNat_lt
      show -256 ≤ uCode l ∧ uCode l ≤ 1114111
      unfold uCode
      split <;> omega
    · have := ih _ u hu
      rw [List.length_drop] at this
      omega
theorem unit_first : ∀ (l : List UInt8) p (k : Nat) u, (units p l)[k]? = some u → (u.1 = p ↔ k = 0) := by
  intro l p k u hu
  by_cases hne : l = []
  · subst hne; simp [units_nil] at hu
  · rw [units_step p l hne] at hu
    have hw := decodeL_width l
    cases k with
    | zero => simp at hu; subst hu; simp
    | succ k =>
      rw [List.getElem?_cons_succ] at hu
      have := (unit_bd _ _ u (List.mem_of_getElem? hu)).1
      omega
theorem cuts_at {l : List UInt8} {k : Nat} {u : Nat × Nat × Int} (h : (units 0 l)[k]? = some u) : (cuts l)[k]? = some ((l.drop u.1).take u.2.1, u.2.2) := by
  simp [cuts, h]
theorem fext_list (s : ByteArray) (a n : Nat) : (s.extract a (a + n)).data.toList = (s.data.toList.drop a).take n := by
  simp [ByteArray.data_extract, List.take_drop]
/-- What is written of the first k units. -/
def preS (ps : List (Int × Int)) (s : List UInt8) (k : Nat) : List UInt8 := ((cuts s).take k).flatMap (pcS ps)
theorem preS_all (ps : List (Int × Int)) (s : List UInt8) {k : Nat} (h : (units 0 s).length ≤ k) : preS ps s k = smallT ps s := by
  unfold preS smallT
  rw [List.take_of_length_le (by rw [cuts_len]; exact h)]
theorem preS_len (ps : List (Int × Int)) (s : List UInt8) (k : Nat) : (preS ps s k).length ≤ 5 * s.length := by
  have h := small_size ps s
  have e : smallT ps s = preS ps s k ++ ((cuts s).drop k).flatMap (pcS ps) := by
    unfold preS smallT
    rw [← List.flatMap_append, List.take_append_drop]
  rw [e, List.length_append] at h
  omega
theorem preS_snoc {ps : List (Int × Int)} {s : List UInt8} {k : Nat} {u : Nat × Nat × Int} (h : (units 0 s)[k]? = some u) : preS ps s (k + 1) = preS ps s k ++ pcS ps ((s.drop u.1).take u.2.1, u.2.2) := by
  unfold preS
  rw [List.take_add_one, cuts_at h]
  simp
theorem byC_bytes (c : Int) : byC c = (bytesOf c).data.toList := by
  unfold byC bytesOf
  split <;> rfl

set_option maxRecDepth 100000 in
set_option maxHeartbeats 2000000 in
theorem small_any (w : World) (v : Value) (ps : List (Int × Int)) (s : ByteArray) (h : PairsAt w v ps) (hn : ps.length ≤ 1000000) (hin : ∀ p ∈ ps, I64 p.1 ∧ I64 p.2) (hs : s.size ≤ 1000000000) :
    Calls Tryd.prog 9 #[v, .string s] w fun e w' => e = .returned (.string ⟨(smallT ps s.data.toList).toArray⟩) ∧ Below w.heap.size w w' := by
  have CL := Lib.hid (letters_any w v ps h hn hin)
  have CA := Lib.hid (fun wx => all_any s wx (by omega))
  obtain ⟨us, hus⟩ : ∃ us, us = units 0 s.data.toList := ⟨_, rfl⟩
  obtain ⟨m, hm⟩ : ∃ m, m = us.length := ⟨_, rfl⟩
  have hml : m ≤ s.size := by rw [hm, hus, Lib.size_eq]; exact units_length_le _ 0
  rw [← hus] at CA
  have HU := Lib.hid (And.intro hus hm)
  obtain ⟨A, cap, rfl⟩ := pairs_form h
  generalize ps.length = n at *
  clear h hin hus hm
  go_enter Tryd.func9, Tryd.ntmps9
  go_wp2_with fail
  refine CL.out.mono ?_
  rintro e w1 ⟨a, b, rfl, htm, hb1⟩
  have HTM := Lib.hid (And.intro htm hb1)
  clear CL htm hb1
  go_wp2_with fail
  refine (CA.out _).mono ?_
  rintro e w2 ⟨vu, rfl, hown, hb2⟩
  obtain ⟨wb, hwb⟩ : ∃ wb, wb = (w1.alloc (.cells #[.map (some a), .map (some b)] 52)).alloc (.cells #[.pointer none, .slice none 0 0] /-t-/57) := ⟨_, rfl⟩
  have q0 : wb.heap[w1.heap.size]? = some (.cells #[.map (some a), .map (some b)] 52 (0, 0)) := by rw [hwb]; exact heap_up (heap_top _ _ rfl) _
  have q1 : wb.heap[w1.heap.size + 1]? = some (.cells #[.pointer none, .slice none 0 0] /-t-/57 (0, 0)) := by rw [hwb]; exact heap_top _ _ (by rw [World.size_alloc])
  have qs : wb.heap.size = w1.heap.size + 2 := by rw [hwb]; simp
  have qb : Below w1.heap.size w1 wb := by rw [hwb]; exact ((Below.refl _ _).alloc (Nat.le_refl _) _).alloc (by simp) _
  rw [← hwb] at hown hb2
  clear hwb
  obtain ⟨A2, cap2, rfl, hmc, hcells⟩ := us_open hown
  rw [← HU.out.2] at hmc ⊢
  obtain ⟨N, hN⟩ : ∃ N, N = w2.heap.size := ⟨_, rfl⟩
  obtain ⟨Q, hQ⟩ : ∃ Q, Q = w1.heap.size := ⟨_, rfl⟩
  rw [← hQ] at q0 q1 qs ⊢
  have hs2 := hb2.size
  have hw1 := HTM.out.2.size
  have r0 : w2.heap[Q]? = some (.cells #[.map (some a), .map (some b)] 52 (0, 0)) := (hb2.block Q (by omega)).trans q0
  have r1 : w2.heap[Q + 1]? = some (.cells #[.pointer none, .slice none 0 0] /-t-/57 (0, 0)) := (hb2.block (Q + 1) (by omega)).trans q1
  have hbw : Below w.heap.size w w2 := (HTM.out.2.trans (qb.mono hw1)).trans (hb2.mono (by omega))
  have htm2 : TwoM w2 a b n ps := (HTM.out.1.keep qb).keep hb2
  have hab : a < Q ∧ b < Q := by rw [hQ]; exact ⟨HTM.out.1.small.lt, HTM.out.1.great.lt⟩
  have HC := Lib.hid hcells
  have HM := Lib.hid (And.intro hN (And.intro hQ (And.intro qs (And.intro hs2 (And.intro hw1 (And.intro r0 (And.intro hbw (And.intro htm2 hab))))))))
  have HB0 : Hid (IsBu N (Q + 1) (Lib.byteCells (preS ps s.data.toList 0)) w2 ∧ OnlyAt (fun k => k = Q + 1 ∨ N ≤ k) w2 w2) := Lib.hid ⟨IsBu.new r1, OnlyAt.refl _ _⟩
  clear hcells hN hQ q0 q1 qs qb hs2 hw1 r0 r1 hbw htm2 hab hown hb2 HTM CA
  go_wp2_with fail
  go_loopg [16] m (fun gh i wr => ∃ (k : Nat), k + gh = m ∧ i = .int .i64 k ∧ Hid (IsBu N (Q + 1) (Lib.byteCells (preS ps s.data.toList k)) wr ∧ OnlyAt (fun k => k = Q + 1 ∨ N ≤ k) w2 wr))
  case atStart => exact ⟨0, by omega, rfl, HB0⟩
  case round =>
    obtain ⟨k, hk, rfl, HB⟩ := hrel
    by_cases hlt : k < m
    · obtain ⟨u, hu⟩ : ∃ u, us[k]? = some u := ⟨us[k]'(by have := HU.out.2; omega), List.getElem?_eq_getElem _⟩
      obtain ⟨g, rfl, hg1, hg2, c0, c1, c2⟩ := HC.out k u hu
      obtain ⟨hN, hQ, qs, hs2, hw1, r0, hbw, htm2, hab⟩ := HM.out
      have hblk : ∀ z, z < N → z ≠ Q + 1 → wr.heap[z]? = w2.heap[z]? := fun z hz hz2 => HB.out.2.block z (by omega) (by rintro (h | h) <;> omega)
      have hgq := hblk g (by omega) (by omega)
      have e0 := (cell_blk hgq (k * 3)).trans c0
      have e1 := (cell_blk hgq (k * 3 + 1)).trans c1
      have e2 := (cell_blk hgq (k * 3 + 2)).trans c2
      have hrq := (hblk Q (by omega) (by omega)).trans r0
      have t0 : wr.cell? ⟨Q, 0, none⟩ = some (.map (some a)) := by simp [World.cell?, hrq]
      have t1 : wr.cell? ⟨Q, 1, none⟩ = some (.map (some b)) := by simp [World.cell?, hrq]
      have htm : TwoM wr a b n ps := ⟨htm2.small.same (hblk a (by omega) (by omega)), htm2.great.same (hblk b (by omega) (by omega))⟩
      obtain ⟨ua, un, uc⟩ := u
      dsimp only at e0 e1 e2
      have hbd := unit_bd s.data.toList 0 (ua, un, uc) (List.mem_of_getElem? (by rw [← HU.out.1]; exact hu))
      rw [← Lib.size_eq] at hbd
      dsimp only at hbd
      have hsn := preS_snoc (ps := ps) (by rw [← HU.out.1]; exact hu)
      have hpl := preS_len ps s.data.toList k
      rw [← Lib.size_eq] at hpl
      have CS := Lib.hid (fun wx (hb : Below wr.heap.size wr wx) => psmall_any wx a b n ps uc (htm.keep hb) (by omega))
      have HX := Lib.hid (And.intro hbd (And.intro hsn hpl))
      have hQw : Q < wr.heap.size := (Array.getElem?_eq_some_iff.1 hrq).1
      clear hN hQ qs hs2 hw1 r0 hbw htm2 hab hblk hgq c0 c1 c2 hrq htm hbd hsn hpl hu hg1 hg2
      have tk1 : (0 : Int) ≤ k := by omega
      have tk2 : (k : Int) < m := by omega
      obtain ⟨wx, hwx⟩ : ∃ wx, wx = wr.alloc (.cells #[.int .i64 ua, .int .i64 un, .int .i64 uc] 61) := ⟨_, rfl⟩
      have hbx : Below wr.heap.size wr wx := by rw [hwx]; exact (Below.refl _ _).alloc (Nat.le_refl _) _
      have y0 : wx.heap[wr.heap.size]? = some (.cells #[.int .i64 ua, .int .i64 un, .int .i64 uc] 61 (0, 0)) := by rw [hwx]; exact World.alloc_heap_new _ _
      have HWX := Lib.hid (And.intro hwx (And.intro hbx y0))
      clear hbx y0 hwx
      go_upto_region 6 with fail
      rw [← HWX.out.1]
      obtain ⟨G, hG⟩ : ∃ G, G = wr.heap.size := ⟨_, rfl⟩
      rw [← hG] at hQw ⊢
      have y0 := HWX.out.2.2
      rw [← hG] at y0
      have z0 : wx.cell? ⟨G, 0, none⟩ = some (.int .i64 ua) := by simp [World.cell?, y0]
      have z1 : wx.cell? ⟨G, 1, none⟩ = some (.int .i64 un) := by simp [World.cell?, y0]
      have z2 : wx.cell? ⟨G, 2, none⟩ = some (.int .i64 uc) := by simp [World.cell?, y0]
      have p0 : wx.cell? ⟨Q, 0, none⟩ = some (.map (some a)) := (cell_old (p := ⟨Q, 0, none⟩) HWX.out.2.1 (by rw [← hG]; exact hQw)).trans t0
      have p1 : wx.cell? ⟨Q, 1, none⟩ = some (.map (some b)) := (cell_old (p := ⟨Q, 1, none⟩) HWX.out.2.1 (by rw [← hG]; exact hQw)).trans t1
      have HY := Lib.hid (And.intro hG y0)
      clear hG y0 t0 t1 e0 e1 e2
      go_wp2_with fail
      refine (CS.out _ HWX.out.2.1).mono ?_
      rintro e w3 ⟨rfl, hb3⟩
      clear z0 z1 z2 p0 p1
      have hlt3 : G < wx.heap.size := (Array.getElem?_eq_some_iff.1 HY.out.2).1
      have y3 := (hb3.block G hlt3).trans HY.out.2
      have z0 : w3.cell? ⟨G, 0, none⟩ = some (.int .i64 ua) := by simp [World.cell?, y3]
      have z1 : w3.cell? ⟨G, 1, none⟩ = some (.int .i64 un) := by simp [World.cell?, y3]
      have hw3 : Below wr.heap.size wr w3 := HWX.out.2.1.trans (hb3.mono HWX.out.2.1.size)
      have hs3 := hw3.size
      have hsr := HB.out.2.size
      have CW := Lib.hid (fun (t : ByteArray) (ht : t.size ≤ 1000000000) => writes_bu N (Q + 1) _ t w3 (HB.out.1.keep hw3) (by rw [Lib.byteCells_length]; have := HX.out.2.2; omega) (by have := HM.out.1; omega))
      have hend : ∀ (t : ByteArray) (w5 : World), t.data.toList = pcS ps ((s.data.toList.drop ua).take un, uc) → IsBu N (Q + 1) (Lib.byteCells (preS ps s.data.toList k) ++ Lib.strCells t) w5 → OnlyAt (fun k => k = Q + 1 ∨ N ≤ k) w3 w5 →
          IsBu N (Q + 1) (Lib.byteCells (preS ps s.data.toList (k + 1))) w5 ∧ OnlyAt (fun k => k = Q + 1 ∨ N ≤ k) w2 w5 := by
        intro t w5 ht hB5 ho5
        refine ⟨?_, (HB.out.2.trans (OnlyAt.of_below hw3)).trans ho5⟩
        have e1 : preS ps s.data.toList (k + 1) = preS ps s.data.toList k ++ t.data.toList := by rw [HX.out.2.1, ht]
        rw [e1, ← cells_app]
        exact hB5
      have HE := Lib.hid hend
      clear hb3 hlt3 y3 hw3 hs3 hsr hend
      have hbd := HX.out.1
      cases hq : smC ps uc with
      | some d =>
        have hv : smV ps uc = d := by unfold smV; rw [hq]
        rw [hv]
        dsimp only [Option.isSome]
        have CB := Lib.hid (fun wx => bytes_any d wx)
        have hsz : (bytesOf d).size ≤ 1000000000 := by
          rw [Lib.size_eq, ← byC_bytes]
          unfold byC
          split
          · have := enc_len d; omega
          · simp
        have hpc : (bytesOf d).data.toList = pcS ps ((s.data.toList.drop ua).take un, uc) := by
          unfold pcS; dsimp only; rw [hq]; exact (byC_bytes d).symm
        have HP := Lib.hid (And.intro hsz hpc)
        clear hv hq hsz hpc hbd
        go_wp2_with fail
        refine (CB.out _).mono ?_
        rintro e w4 ⟨rfl, rfl⟩
        go_wp2_with fail
        refine (CW.out _ HP.out.1).mono ?_
        rintro e w5 ⟨⟨v5, rfl⟩, hB5, ho5⟩
        have HF := Lib.hid (HE.out _ w5 HP.out.2 hB5 ho5)
        clear hB5 ho5
        go_wp2_with fail
        go_roundg (gk - 1)
        case measure => omega
        case rel => exact ⟨k + 1, by omega, by go_num, HF⟩
      | none =>
        dsimp only [Option.isSome]
        have hpc : (s.extract ua (ua + un)).data.toList = pcS ps ((s.data.toList.drop ua).take un, uc) := by
          unfold pcS; dsimp only; rw [hq]; exact fext_list s ua un
        have hsz : (s.extract ua (ua + un)).size ≤ 1000000000 := by rw [ByteArray.size_extract]; omega
        have HP := Lib.hid (And.intro hsz hpc)
        obtain ⟨ue, hue⟩ : ∃ ue, ue = ua + un := ⟨_, rfl⟩
        have g4 : IntKind.i64.wrap ((ua : Int) + un) = (ue : Int) := by rw [hue]; rw [IntWalk.i64_in _ (by omega)]; omega
        rw [← hue] at HP
        have h5 : ua ≤ ue ∧ ue ≤ s.size := by omega
        obtain ⟨h5, h6⟩ := h5
        clear hq hsz hpc hbd hue
        go_wp2_with fail
        refine (CW.out _ HP.out.1).mono ?_
        rintro e w5 ⟨⟨v5, rfl⟩, hB5, ho5⟩
        have HF := Lib.hid (HE.out _ w5 HP.out.2 hB5 ho5)
        clear hB5 ho5
        go_wp2_with fail
        go_roundg (gk - 1)
        case measure => omega
        case rel => exact ⟨k + 1, by omega, by go_num, HF⟩
    · obtain rfl : k = m := by omega
      obtain ⟨hN, hQ, qs, hs2, hw1, r0, hbw, htm2, hab⟩ := HM.out
      have hall : preS ps s.data.toList k = smallT ps s.data.toList := preS_all _ _ (by rw [← HU.out.1, ← HU.out.2]; exact Nat.le_refl _)
      have hB := HB.out.1
      rw [hall] at hB
      have CG := Lib.hid (string_any (Q + 1) (Q + 1) (smallT ps s.data.toList) wr (hB.builder (by omega)) (by have := HB.out.2.size; omega))
      have hbe : Below w.heap.size w wr := OnlyAt.below hbw HB.out.2 hbw.size (by rintro z (hz | hz) <;> omega)
      have HBE := Lib.hid hbe
      clear hN hQ qs hs2 hw1 r0 hbw htm2 hab hall hB hbe
      go_wp2_with fail
      refine CG.out.mono ?_
      rintro e w5 ⟨rfl, hb5⟩
      have HX := Lib.hid (HBE.out.trans (hb5.mono (Nat.le_of_lt (by have := HM.out; omega))))
      clear hb5
      go_wp2_with fail
      go_ret
      exact ⟨rfl, HX.out⟩
end Go.Proofs.YtfhoffdgbkoffaaDoor
