/- RunesAll: any text, any place, any code: the walk. -/
import Derived.Test.YtfenpcddmdopdaaDoorSame
import Derived.Test.YtfenpcddmdopdaaDoorRefCodes
import Derived.Test.YtfenpcddmdopdaaDoorRefBytes
namespace Go.Proofs.YtfenpcddmdopdaaDoor
open Go Go.RowKit Go.Lib

/-- At and the document's At answer the same. -/
theorem both_at (s : ByteArray) (i : Int) (hs : s.size ≤ 1000000000000) : ∃ (x0 x1 : Nat) (x2 : Int) (bo : Bool),
    (∀ wx, Lib.Utf8Tabs 0 1 wx → Calls Tryd.prog 8 #[.string s, .int .i64 i] wx fun e w' => e = .returned (.tuple #[.agg #[.int .i64 x0, .int .i64 x1, .int .i64 x2], .bool bo]) ∧ Below wx.heap.size wx w') ∧
    (∀ wx, Calls Tryd.prog 9 #[.string s, .int .i64 i] wx fun e w' => e = .returned (.tuple #[.agg #[.int .i64 x0, .int .i64 x1, .int .i64 x2], .bool bo]) ∧ Below wx.heap.size wx w') := by
  by_cases hi : i < 0 ∨ (s.size : Int) ≤ i
  · exact ⟨0, 0, 0, false, fun wx _ => at_none s i wx hi (by omega), fun wx => rat_none s i wx hi hs⟩
  · obtain ⟨p, rfl⟩ : ∃ p : Nat, i = p := ⟨i.toNat, by omega⟩
    exact ⟨p, (decodeL (s.data.toList.drop p)).2, uCode (s.data.toList.drop p), true, fun wx ht => at_some s p wx (by omega) (by omega) ht, fun wx => rat_some s p wx (by omega) hs⟩

theorem own_later {w w' : World} {B e size n : Nat} {v : Value} {xs : List Value} (h : w.ownsRow B e size v n xs) (hb : Below w.heap.size w w') : w'.ownsRow B e size v n xs := own_below h hb

theorem below_chain {B : Nat} {a b c : World} (h : Below B a b) (hB : B ≤ b.heap.size) (k : Below b.heap.size b c) : Below B a c ∧ B ≤ c.heap.size := ⟨h.trans (k.mono hB), Nat.le_trans hB k.size⟩

set_option maxRecDepth 100000 in
set_option maxHeartbeats 1000000 in
theorem all_long (s : ByteArray) (i code : Int) (w : World) (hT : Lib.Utf8Tabs 0 1 w) (hl : 2000 < s.size) :
    Calls Tryd.prog 3 #[.string s, .int .i64 i, .int .i64 code] w fun e w' => e = .returned (.bool true) ∧ Below w.heap.size w w' := by
  have h1 : decide ((2000 : Int) < s.size) = true := by simp; omega
  have HT := Lib.hid hT
  clear hT hl
  go_enter Tryd.func3, Tryd.ntmps3
  go_wp2_with (go_at_call 7; refine (awake_any _ HT.out).mono ?_; rintro e w2 ⟨rfl, hb2⟩)
  go_ret
  exact ⟨rfl, hb2⟩

set_option maxRecDepth 100000 in
set_option maxHeartbeats 4000000 in
theorem all_short (s : ByteArray) (i code : Int) (w : World) (hT : Lib.Utf8Tabs 0 1 w) (hl : s.size ≤ 2000) :
    Calls Tryd.prog 3 #[.string s, .int .i64 i, .int .i64 code] w fun e w' => e = .returned (.bool true) ∧ Below w.heap.size w w' := by
  have h1 : decide ((2000 : Int) < s.size) = false := by simp; omega
  obtain ⟨x0, x1, x2, bo, A1, A2⟩ := both_at s i (by omega)
  obtain ⟨V, hV⟩ : ∃ V, V = validD s.data.toList := ⟨_, rfl⟩
  obtain ⟨E, hE⟩ : ∃ E, E = bytesOf code := ⟨_, rfl⟩
  have C1 := Lib.hid (fun wx ht => codes_any s wx (by omega) ht)
  have C2 := Lib.hid (fun wx => rcodes_any s wx (by omega))
  have L1 := Lib.hid (fun wx => all_any s wx (by omega))
  have L2 := Lib.hid (fun wx => rall_any s wx (by omega))
  have B1 := Lib.hid (bytes_any code)
  have B2 := Lib.hid (rbytes_any code)
  rw [← hV] at C1 C2
  rw [← hE] at B1 B2
  have A1 := Lib.hid A1
  have A2 := Lib.hid A2
  have HT := Lib.hid hT
  clear hV hE hT hl
  go_enter Tryd.func3, Tryd.ntmps3
  go_wp2_with fail
  refine (A1.out _ HT.out).mono ?_
  rintro e wa ⟨rfl, ha⟩
  have HA := Lib.hid ha
  clear ha
  go_wp2_with fail
  refine (A2.out _).mono ?_
  rintro e wb ⟨rfl, hb⟩
  have HB := Lib.hid hb
  clear hb
  go_wp2_with fail
  refine (C1.out _ (tabs_below HT.out (((HA.out.alloc HA.out.size _).trans (HB.out.mono (by have := HA.out.size; simp; omega))).alloc (by have := HA.out.size; have := HB.out.size; simp at this; omega) _))).mono ?_
  rintro e wc ⟨vc, rfl, oc, hc⟩
  have HC := Lib.hid hc
  have OC := Lib.hid oc
  clear hc oc
  go_wp2_with fail
  refine (C2.out _).mono ?_
  rintro e wd ⟨vd, rfl, od, hd⟩
  have HD := Lib.hid hd
  have OD := Lib.hid od
  clear hd od
  go_wp2_with fail
  refine (L1.out _).mono ?_
  rintro e we ⟨va, rfl, oe, he⟩
  have HE := Lib.hid he
  have OE := Lib.hid oe
  clear he oe
  go_wp2_with fail
  refine (L2.out _).mono ?_
  rintro e wf ⟨vb, rfl, of_, hf⟩
  have HF := Lib.hid hf
  have OF := Lib.hid of_
  clear hf of_
  go_wp2_with fail
  refine (same_own rfl (own_below OE.out HF.out) OF.out).mono ?_
  rintro e wg ⟨rfl, hg⟩
  have d1 : Below wd.heap.size wd wg := hg.below (HE.out.trans (HF.out.mono HE.out.size))
  have d2 : Below wc.heap.size wc wg := HD.out.trans (d1.mono HD.out.size)
  have d3 : Below (wb.alloc (.cells #[.int .i64 x0, .int .i64 x1, .int .i64 x2] 24)).heap.size (wb.alloc (.cells #[.int .i64 x0, .int .i64 x1, .int .i64 x2] 24)) wg := HC.out.trans (d2.mono HC.out.size)
  have hb1 := HB.out.alloc HB.out.size (.cells #[.int .i64 x0, .int .i64 x1, .int .i64 x2] 24)
  have d4 : Below (wa.alloc (.cells #[.int .i64 x0, .int .i64 x1, .int .i64 x2] 24)).heap.size (wa.alloc (.cells #[.int .i64 x0, .int .i64 x1, .int .i64 x2] 24)) wg := hb1.trans (d3.mono hb1.size)
  have ha1 := HA.out.alloc HA.out.size (.cells #[.int .i64 x0, .int .i64 x1, .int .i64 x2] 24)
  have d5 : Below w.heap.size w wg := ha1.trans (d4.mono ha1.size)
  obtain ⟨⟨p0, p1, p2⟩, -⟩ := box3 d4
  obtain ⟨⟨q0, q1, q2⟩, -⟩ := box3 d3
  have hz9 : wb.heap.size < wg.heap.size := by have := d3.size; simp at this; omega
  have D1 := Lib.hid d1
  have D2 := Lib.hid d2
  have D5 := Lib.hid d5
  clear d1 d2 d3 d4 d5 hb1 ha1 hg
  go_wp2_with fail
  refine (same_yes [(x0, x1, x2)] _ _ 1 1 1 _ rfl (by omega) (by unfold maxLen; omega) ?_ ?_).mono ?_
  · intro j u hju
    have hl : wg.heap.size < (wg.alloc (.cells #[.int .i64 x0, .int .i64 x1, .int .i64 x2] 24)).heap.size := by simp
    rw [World.cell?_alloc_lt _ _ ⟨wg.heap.size, j, none⟩ hl]
    have hadd : (⟨wg.heap.size, 0, none⟩ : Addr).add j = ⟨wg.heap.size, j, none⟩ := by unfold Addr.add; split <;> simp_all
    rw [← hadd]
    exact cells_new wg [.int .i64 x0, .int .i64 x1, .int .i64 x2] 24 j u hju
  · intro j u hju
    have hadd : (⟨wg.heap.size + 1, 0, none⟩ : Addr).add j = ⟨wg.heap.size + 1, j, none⟩ := by unfold Addr.add; split <;> simp_all
    rw [← hadd]
    exact cells_new2 wg _ [.int .i64 x0, .int .i64 x1, .int .i64 x2] 24 j u hju
  rintro e wh ⟨rfl, hh⟩
  have e1 : Below wg.heap.size wg wh := hh.below (((Below.refl _ _).alloc (Nat.le_refl _) _).alloc (by simp) _)
  have E1 := Lib.hid e1
  clear e1 hh p0 p1 p2 q0 q1 q2 hz9
  go_wp2_with fail
  refine (B1.out _).mono ?_
  rintro e wh' ⟨rfl, rfl⟩
  go_wp2_with fail
  refine (B2.out _).mono ?_
  rintro e wi ⟨rfl, hi⟩
  have e2 : Below wg.heap.size wg wi := E1.out.trans (hi.mono E1.out.size)
  have E2 := Lib.hid e2
  clear e2 hi
  go_wp2_with fail
  refine (ints_own (zs := codesL s.data.toList) rfl (own_below OC.out (D2.out.trans (E2.out.mono D2.out.size))) (own_below OD.out (D1.out.trans (E2.out.mono D1.out.size)))).mono ?_
  rintro e wj ⟨rfl, hj⟩
  have e3 : Below w.heap.size w wj := hj.below (D5.out.trans (E2.out.mono D5.out.size))
  have E3 := Lib.hid e3
  clear e3 hj
  go_wp2_with fail
  refine (awake_any _ (tabs_below HT.out E3.out)).mono ?_
  rintro e wk ⟨rfl, hk⟩
  have E4 := Lib.hid (E3.out.trans (hk.mono E3.out.size))
  clear hk
  go_wp2_with fail
  go_ret
  exact ⟨rfl, E4.out⟩

theorem all_law (s : ByteArray) (i code : Int) (w : World) (hT : Lib.Utf8Tabs 0 1 w) :
    Calls Tryd.prog 3 #[.string s, .int .i64 i, .int .i64 code] w fun e w' => e = .returned (.bool true) ∧ Below w.heap.size w w' := by
  by_cases h : 2000 < s.size
  · exact all_long s i code w hT h
  · exact all_short s i code w hT (by omega)
end Go.Proofs.YtfenpcddmdopdaaDoor
