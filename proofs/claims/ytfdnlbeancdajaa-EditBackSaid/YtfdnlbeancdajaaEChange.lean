/- edit.change by contract. -/
import Derived.Test.YtfdnlbeancdajaaEMid
import Derived.StillTailTactics
namespace Go.Proofs.Ytfdnlbeancdajaa
open Go Go.RowKit

/-- What comes in two parts, the second one first, is what came. -/
theorem ins_del_ins (s t : ByteArray) (q z j : Nat) (hq : q + z ≤ s.size) (hj : j ≤ t.size) :
    insT (delT (insT s (q + z) (t.extract j t.size)) q z) q (t.extract 0 j) = putT s q z t := by
  have e1 : insT s (q + z) (t.extract j t.size) = s.extract 0 q ++ (s.extract q (q + z) ++ (t.extract j t.size ++ s.extract (q + z) s.size)) := by
    rw [insT]
    have : s.extract 0 (q + z) = s.extract 0 q ++ s.extract q (q + z) := by
      rw [ByteArray.extract_append_extract, Nat.zero_min, Nat.max_eq_right (by omega)]
    rw [this, ByteArray.append_assoc, ByteArray.append_assoc]
  have z1 : (s.extract 0 q).size = q := by rw [ByteArray.size_extract]; omega
  have z2 : (s.extract q (q + z)).size = z := by rw [ByteArray.size_extract]; omega
  have e2 : delT (insT s (q + z) (t.extract j t.size)) q z = s.extract 0 q ++ (t.extract j t.size ++ s.extract (q + z) s.size) := by
    rw [e1, delT]
    congr 1
    · exact ByteArray.extract_append_eq_left z1.symm
    · rw [← ByteArray.append_assoc]
      exact ByteArray.extract_append_eq_right (by rw [ByteArray.size_append, z1, z2]) (by simp only [ByteArray.size_append])
  rw [e2, insT]
  have e3 : (s.extract 0 q ++ (t.extract j t.size ++ s.extract (q + z) s.size)).extract 0 q = s.extract 0 q := ByteArray.extract_append_eq_left z1.symm
  have e4 : (s.extract 0 q ++ (t.extract j t.size ++ s.extract (q + z) s.size)).extract q (s.extract 0 q ++ (t.extract j t.size ++ s.extract (q + z) s.size)).size = t.extract j t.size ++ s.extract (q + z) s.size :=
    ByteArray.extract_append_eq_right z1.symm (by rw [ByteArray.size_append])
  rw [e3, e4, putT, ← ByteArray.append_assoc, ByteArray.append_assoc (a := s.extract 0 q) (b := t.extract 0 j), ByteArray.extract_append_extract, Nat.zero_min, Nat.max_eq_right hj, ByteArray.extract_zero_size]

section
variable {R : Nat → (Nat → Prop) → World → Addr → ByteArray → Nat → Nat → Nat → Prop} {u : Nat}
set_option maxRecDepth 100000 in
set_option maxHeartbeats 1000000 in
theorem change_big (U : SaysU R) (F : Nat → Prop) (w : World) (a : Addr) (s : ByteArray) (m p h : Nat) (q : Nat) (d t : ByteArray) (hr : R u F w a s m p h) (hq : q + d.size ≤ s.size) (hb : m < s.size - d.size + t.size) (hu : u + t.size ≤ 1000000) :
    Calls Try.prog 28 #[.pointer (some a), EdV q d t] w fun e w' => e = .returned (.int .i64 3) ∧ Goes (R (u + t.size)) F w w' a s m (fun _ _ => True) := by
  have hm := U.inv F w a s m p h hr
  have H1 := Lib.hid ((Mid.begin hr).add U (.cells #[.int .i64 q, .string d, .string t] /-t-/23))
  have hx := Box.new w q d t
  obtain ⟨c0, c1, c2⟩ := hx.cells
  have HX := Lib.hid (show Box w.heap.size q d t (w.alloc (.cells #[.int .i64 q, .string d, .string t] /-t-/23)).drew from hx)
  have hz : (t.extract d.size t.size).size = t.size - d.size := by rw [ByteArray.size_extract]; omega
  have hE : insE s m ((q : Int) + d.size) (t.extract d.size t.size) = 3 := by rw [insE, if_neg (by omega), if_pos (by rw [hz]; omega)]
  have CI := Lib.hid (((H1.out.below (w' := (w.alloc (.cells #[.int .i64 q, .string d, .string t] /-t-/23)).drew) U (below_drewN (Below.refl _ _) 1)).call (fun F' p hh hr => U.insert F' _ a s m p hh ((q : Int) + d.size) (t.extract d.size t.size) hr (by rw [hz]; omega) (by omega) (by omega))))
  rw [bump, insS, hE, if_neg (by omega), if_neg (by omega)] at CI
  have HU := Lib.hid U
  have a1 : (0 : Int) ≤ q := by omega
  have a2 : (d.size : Int) < t.size := by omega
  have a6 : (d.size : Int) ≤ t.size := by omega
  have hmin : min (d.size : Int) (t.size : Int) = d.size := by omega
  have a3 : (q : Int) + d.size ≤ 65536 := by omega
  have a4 : (t.size : Int) ≤ 1000000 := by omega
  have a5 : (0 : Int) ≤ d.size := by omega
  have hw : IntKind.i64.wrap ((q : Int) + d.size) = (q : Int) + d.size := IntWalk.i64_in _ (by omega)
  have hw2 : IntKind.i64.wrap (d.size : Int) = d.size := IntWalk.i64_in _ (by omega)
  have hw3 : IntKind.i64.wrap (t.size : Int) = t.size := IntWalk.i64_in _ (by omega)
  have HUP := Lib.hid (show u ≤ u + t.size by omega)
  clear hm hr hq hb hu hx hz hE U H1
  show Calls _ _ #[.pointer (some a), .agg #[.int .i64 q, .string d, .string t]] _ _
  go_enter Try.func28, Try.ntmps28
  go_wp2_with fail
  go_region_held3 (fun wx => wx.cell? ⟨w.heap.size, 0, none⟩ = some (.int .i64 q) ∧ wx.cell? ⟨w.heap.size, 1, none⟩ = some (.string d) ∧ wx.cell? ⟨w.heap.size, 2, none⟩ = some (.string t))
    (first | exact ⟨c0, c1, c2⟩ | assumption)
    (first
      | (go_at_call 39; refine Calls.mono CI.out ?_; rintro e w2 ⟨rfl, H2, hk⟩; have HX2 := Lib.hid (HX.out.under hk.out (.inr rfl)); obtain ⟨c0, c1, c2⟩ := HX2.out.cells; clear hk))
  go_wp2_with fail
  go_ret
  exact ⟨rfl, H2.out.goes_to (fun F' p hh hr => HU.out.up F' _ a s m p hh hr HUP.out)⟩
set_option maxRecDepth 100000 in
set_option maxHeartbeats 1000000 in
theorem change_yes (U : SaysU R) (F : Nat → Prop) (w : World) (a : Addr) (s : ByteArray) (m p h : Nat) (q : Nat) (d t : ByteArray) (hr : R u F w a s m p h) (hq : q + d.size ≤ s.size) (hb : s.size - d.size + t.size ≤ m) (hu : u + t.size ≤ 1000000) :
    Calls Try.prog 28 #[.pointer (some a), EdV q d t] w fun e w' => e = .returned (.int .i64 0) ∧ Goes (R (u + t.size)) F w w' a (putT s q d.size t) m (fun _ _ => True) := by
  have hm := U.inv F w a s m p h hr
  have H1 := Lib.hid ((Mid.begin hr).add U (.cells #[.int .i64 q, .string d, .string t] /-t-/23))
  have hx := Box.new w q d t
  obtain ⟨c0, c1, c2⟩ := hx.cells
  have HX := Lib.hid (show Box w.heap.size q d t (w.alloc (.cells #[.int .i64 q, .string d, .string t] /-t-/23)).drew from hx)
  obtain ⟨j, hmin, hj1, hj2, hj3⟩ : ∃ j : Nat, min (d.size : Int) (t.size : Int) = j ∧ j ≤ d.size ∧ j ≤ t.size ∧ (j = d.size ∨ j = t.size) := ⟨min d.size t.size, by omega, by omega, by omega, by omega⟩
  have hz : (t.extract j t.size).size = t.size - j := by rw [ByteArray.size_extract]; omega
  have hz0 : (t.extract 0 j).size = j := by rw [ByteArray.size_extract]; omega
  have hE : insE s m ((q : Int) + d.size) (t.extract j t.size) = 0 := by rw [insE, if_neg (by omega), if_neg (by rw [hz]; omega)]
  have hF := ins_del_ins s t q d.size j hq hj2
  have CI := Lib.hid (((H1.out.below (w' := (w.alloc (.cells #[.int .i64 q, .string d, .string t] /-t-/23)).drew) U (below_drewN (Below.refl _ _) 1)).call (fun F' p hh hr => U.insert F' _ a s m p hh ((q : Int) + d.size) (t.extract j t.size) hr (by rw [hz]; omega) (by omega) (by omega))))
  have hT : ((q : Int) + d.size).toNat = q + d.size := by omega
  rw [bump, insS, hE, if_pos rfl, if_pos rfl, hT, hz] at CI
  have hs1 : (insT s (q + d.size) (t.extract j t.size)).size = s.size + (t.size - j) := by rw [insT_size _ _ _ hq, hz]
  obtain ⟨s1, hs1'⟩ : ∃ s1, s1 = insT s (q + d.size) (t.extract j t.size) := ⟨_, rfl⟩
  rw [← hs1'] at CI hF hs1
  have hi : isIn s1 q d.size := ⟨by omega, by omega, by omega, by omega⟩
  have hs2 : (delT s1 q d.size).size = s1.size - d.size := delT_size _ _ _ (by omega)
  have CD := Lib.hid (fun wx (hx : Hid (Mid (R (u + (t.size - j))) F w a s1 m (fun k => False ∨ k = w.heap.size) wx)) => by
    have := hx.out.call (fun F' p hh hr => U.delete F' _ a s1 m p hh q d.size hr (by omega) (by omega) (by omega) (by omega))
    rw [delE, if_pos hi, delS, if_pos hi, Int.toNat_natCast, Int.toNat_natCast] at this
    exact this)
  obtain ⟨s2, hs2'⟩ : ∃ s2, s2 = delT s1 q d.size := ⟨_, rfl⟩
  rw [← hs2'] at CD hF hs2
  have hE2 : insE s2 m q (t.extract 0 j) = 0 := by rw [insE, if_neg (by omega), if_neg (by rw [hz0]; omega)]
  have CJ := Lib.hid (fun wx (hx : Hid (Mid (R (u + (t.size - j))) F w a s2 m (fun k => False ∨ k = w.heap.size) wx)) => by
    have := (hx.out.below (w' := wx.drew) U (below_drewN (Below.refl _ _) 1)).call (fun F' p hh hr => U.insert F' _ a s2 m p hh q (t.extract 0 j) hr (by rw [hz0]; omega) (by omega) (by omega))
    rw [bump, insS, hE2, if_pos rfl, if_pos rfl, Int.toNat_natCast, hz0, hF, show u + (t.size - j) + j = u + t.size by omega] at this
    exact this)
  have a1 : (0 : Int) ≤ q := by omega
  have a2 : (j : Int) ≤ t.size := by omega
  have a3 : (q : Int) + d.size ≤ 65536 := by omega
  have a4 : (t.size : Int) ≤ 1000000 := by omega
  have a5 : (0 : Int) ≤ d.size := by omega
  have a6 : (0 : Int) ≤ j := by omega
  have hw : IntKind.i64.wrap ((q : Int) + d.size) = (q : Int) + d.size := IntWalk.i64_in _ (by omega)
  clear hm hr hq hb hu hx hz hE U H1 hz0 hF hT hs1 hs1' hi hs2 hs2' hE2 hj1 hj2 hj3
  show Calls _ _ #[.pointer (some a), .agg #[.int .i64 q, .string d, .string t]] _ _
  go_enter Try.func28, Try.ntmps28
  go_wp2_with fail
  go_region_held3 (fun wx => wx.cell? ⟨w.heap.size, 0, none⟩ = some (.int .i64 q) ∧ wx.cell? ⟨w.heap.size, 1, none⟩ = some (.string d) ∧ wx.cell? ⟨w.heap.size, 2, none⟩ = some (.string t))
    (first | exact ⟨c0, c1, c2⟩ | assumption)
    (first
      | (go_at_call 39; refine Calls.mono CI.out ?_; rintro e w2 ⟨rfl, H2, hk⟩; have HX2 := Lib.hid (HX.out.under hk.out (.inr rfl)); obtain ⟨c0, c1, c2⟩ := HX2.out.cells; clear hk))
  go_wp2_with fail
  refine (CD.out _ H2).mono ?_
  rintro e w3 ⟨rfl, H3, hk3⟩
  have HX3 := Lib.hid (HX2.out.under hk3.out (.inr rfl))
  obtain ⟨e0, e1, e2⟩ := HX3.out.cells
  have CJ3 := Lib.hid (CJ.out _ H3)
  clear hk3 c0 c1 c2 CJ CI CD
  go_wp2_with fail
  go_region_held3 (fun wx => wx.cell? ⟨w.heap.size, 0, none⟩ = some (.int .i64 q) ∧ wx.cell? ⟨w.heap.size, 1, none⟩ = some (.string d) ∧ wx.cell? ⟨w.heap.size, 2, none⟩ = some (.string t))
    (first | exact ⟨e0, e1, e2⟩ | assumption)
    (first
      | (go_at_call 39; refine Calls.mono CJ3.out ?_; rintro e w4 ⟨rfl, H4, hk4⟩; have HX4 := Lib.hid (HX3.out.keep (hk4.out.block _ HX3.out.lt (.inr rfl))); obtain ⟨e0, e1, e2⟩ := HX4.out.cells; clear hk4))
  go_wp2_with fail
  go_ret
  exact ⟨rfl, H4.out.goes⟩
end
end Go.Proofs.Ytfdnlbeancdajaa
