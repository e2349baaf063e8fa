/- Stage 3's laws out of the contracts of seg.All and seg.Count. -/
import Derived.Test.YtmebboadadlahaaDoorSRef
import Derived.Test.YtmebboadadlahaaDoorSSame
import Derived.Test.YtmebboadadlahaaDoorSTexts
import Derived.Test.YtmebboadadlahaaDoorKTab
import Derived.Test.YtmebboadadlahaaDoorSAll
namespace Go.Proofs.YtmebboadadlahaaDoor
open Go Go.RowKit Go.Lib

/-- The tokens of a text under a table. -/
def toksOf (rs : List Cls.R3) (s : ByteArray) : List Tok := segs (Cls.ofT rs) 0 none (units 0 s.data.toList)
/-- The two tables are laid. -/
def Tabs (w : World) : Prop := Lib.Utf8Tabs 0 1 w
theorem Tabs.below {w w' : World} (h : Tabs w) (hb : Below w.heap.size w w') : Tabs w' := tabs_below h hb
/-- A slice value reads as a table of ranges; the two tables are laid. -/
def TblU (w : World) (v : Value) (rs : List Cls.R3) : Prop := Cls.Tbl w v rs ∧ Tabs w
theorem TblU.below {w w' : World} {v : Value} {rs : List Cls.R3} (h : TblU w v rs) (hb : Below w.heap.size w w') : TblU w' v rs := ⟨h.1.below hb, h.2.below hb⟩
theorem table_u (w : World) (h : Tabs w) : Calls Tryd.prog 14 #[] w fun e w' => ∃ v, e = .returned v ∧ TblU w' v Cls.tab ∧ Below w.heap.size w w' :=
  (Cls.table_tbl w).mono fun _ _ ⟨v, he, ht, hb⟩ => ⟨v, he, ⟨ht, h.below hb⟩, hb⟩
/-- What is asked of seg.All, of seg.Count. -/
def SegSays : Prop := ∀ (v : Value) (rs : List Cls.R3) (s : ByteArray) (w : World), TblU w v rs → s.size ≤ 1000000000000 →
  Calls Tryd.prog 9 #[v, .string s] w fun e w' => ∃ v', e = .returned v' ∧ w'.ownsRow w.heap.size 34 3 v' (toksOf rs s).length ((toksOf rs s).flatMap kCells) ∧ Below w.heap.size w w'
def CountSays : Prop := ∀ (v : Value) (rs : List Cls.R3) (s : ByteArray) (w : World), TblU w v rs → s.size ≤ 1000000000000 →
  Calls Tryd.prog 12 #[v, .string s] w fun e w' => e = .returned (.int .i64 (toksOf rs s).length) ∧ Below w.heap.size w w'

theorem seg_says : SegSays := fun v rs s w h hs => seg_all v rs s w h.1 h.2 hs
theorem count_says : CountSays := fun v rs s w h hs => count_any v rs s w h.1 h.2 hs

theorem rseg_any (v : Value) (rs : List Cls.R3) (s : ByteArray) (w : World) (ht : Cls.Tbl w v rs) (hs : s.size ≤ 1000000000000) :
    Calls Tryd.prog 11 #[v, .string s] w fun e w' => ∃ v', e = .returned v' ∧ w'.ownsRow w.heap.size 34 3 v' (toksOf rs s).length ((toksOf rs s).flatMap kCells) ∧ Below w.heap.size w w' := by
  by_cases h0 : 0 < (units 0 s.data.toList).length
  · exact rseg_some v rs s w ht hs _ rfl _ rfl h0
  · have hn : units 0 s.data.toList = [] := List.eq_nil_of_length_eq_zero (by omega)
    refine (rseg_none v s w hs hn).mono ?_
    rintro e w' ⟨he, hb⟩
    have ht0 : toksOf rs s = [] := by rw [toksOf, hn]; rfl
    rw [ht0]
    exact ⟨_, he, World.ownsRow_nil _ _ _ _, hb⟩

theorem ex_toks : toksOf Cls.tab ⟨#[105, 116, 39, 115, 32, 53]⟩ = [(0, 4, true), (5, 6, false)] := by decide

set_option maxHeartbeats 2000000 in
theorem awake_any (hA : SegSays) (w : World) (hW : Tabs w) : Calls Tryd.prog 8 #[] w fun e w' => e = .returned (.bool true) ∧ Below w.heap.size w w' := by
  have T := Lib.hid table_u
  have c9 : ∀ wx v, TblU wx v Cls.tab → Calls Tryd.prog 9 #[v, .string ⟨#[105, 116, 39, 115, 32, 53]⟩] wx fun e w' => ∃ g cap, e = .returned (.slice (some ⟨g, 0, none⟩) 2 cap) ∧ (2 ≤ cap ∧ cap ≤ maxLen) ∧
      (w'.cell? ⟨g, 1, none⟩ = some (.int .i64 4) ∧ w'.cell? ⟨g, 2, none⟩ = some (.bool true) ∧ w'.cell? ⟨g, 3, none⟩ = some (.int .i64 5) ∧ w'.cell? ⟨g, 5, none⟩ = some (.bool false)) ∧ Below wx.heap.size wx w' := by
    intro wx v h
    refine (hA v Cls.tab _ wx h (by decide)).mono ?_
    rintro e w' ⟨v', he, ho, hb⟩
    rw [ex_toks] at ho
    obtain ⟨g, cap, rfl, _, _, h1, h2, hc⟩ := own_open ho (by decide)
    exact ⟨g, cap, he, ⟨h1, h2⟩, ⟨hc 1 _ rfl, hc 2 _ rfl, hc 3 _ rfl, hc 5 _ rfl⟩, hb⟩
  have C9 := Lib.hid c9
  have HW := Lib.hid hW
  clear c9 hA hW
  go_enter Tryd.func8, Tryd.ntmps8
  go_wp2_with fail
  refine (T.out _ HW.out).mono ?_
  rintro e w1 ⟨v1, rfl, ht, hb1⟩
  have HT := Lib.hid ht
  have HB1 := Lib.hid hb1
  clear ht hb1
  go_wp2_with fail
  refine (C9.out _ _ HT.out).mono ?_
  rintro e w2 ⟨g, cap, rfl, ⟨h1, h2⟩, ⟨m1, m2, m3, m5⟩, hb2⟩
  unfold maxLen at h2
  have HB2 := Lib.hid (HB1.out.trans (hb2.mono HB1.out.size))
  clear hb2
  go_wp2_with fail
  go_ret
  exact ⟨rfl, HB2.out⟩

set_option maxHeartbeats 2000000 in
theorem segall_big (hA : SegSays) (A : Option Addr) (n cap : Nat) (s : ByteArray) (w : World) (hW : Tabs w) (h : 120 < n ∨ 2000 < s.size) (hm : n ≤ maxLen) (hs : s.size ≤ 9223372036854775807) :
    Calls Tryd.prog 3 #[.slice A n cap, .string s] w fun e w' => e = .returned (.bool true) ∧ Below w.heap.size w w' := by
  have W8 := Lib.hid (awake_any hA)
  have HW := Lib.hid hW
  clear hA hW
  unfold maxLen at hm
  by_cases h1 : 120 < n
  · clear h
    go_enter Tryd.func3, Tryd.ntmps3
    go_wp2_with (go_at_call 8; refine (W8.out _ HW.out).mono ?_; rintro e w1 ⟨rfl, hb1⟩)
    go_ret
    exact ⟨rfl, hb1⟩
  · have h2 : 2000 < s.size := by omega
    have h3 : n ≤ 120 := by omega
    clear h h1
    go_enter Tryd.func3, Tryd.ntmps3
    go_wp2_with (go_at_call 8; refine (W8.out _ HW.out).mono ?_; rintro e w1 ⟨rfl, hb1⟩)
    go_ret
    exact ⟨rfl, hb1⟩

set_option maxHeartbeats 2000000 in
theorem segall_small (hA : SegSays) (hC : CountSays) (A : Option Addr) (n cap : Nat) (rs : List Cls.R3) (s : ByteArray) (w : World) (ht : TblU w (.slice A n cap) rs) (hn : n ≤ 120) (hs : s.size ≤ 2000) :
    Calls Tryd.prog 3 #[.slice A n cap, .string s] w fun e w' => e = .returned (.bool true) ∧ Below w.heap.size w w' := by
  obtain ⟨ts, hts⟩ : ∃ ts, ts = toksOf rs s := ⟨_, rfl⟩
  obtain ⟨m, hm⟩ : ∃ m, m = ts.length := ⟨_, rfl⟩
  have c9 : ∀ wx, TblU wx (.slice A n cap) rs → Calls Tryd.prog 9 #[.slice A n cap, .string s] wx fun e w' => ∃ A' cap', e = .returned (.slice A' m cap') ∧ w'.ownsRow wx.heap.size 34 3 (.slice A' m cap') m (ts.flatMap kCells) ∧ Below wx.heap.size wx w' := by
    intro wx h
    refine (hA _ rs s wx h (by omega)).mono ?_
    rintro e w' ⟨v', he, ho, hb⟩
    rw [← hts, ← hm] at ho
    rcases ho.2 with ⟨rfl, h0⟩ | ⟨g, cap', cur, rfl, _⟩
    · refine ⟨none, 0, by rw [he, h0], ?_, hb⟩
      have := ho
      rw [h0] at this ⊢
      exact this
    · exact ⟨_, _, he, ho, hb⟩
  have c11 : ∀ wx, TblU wx (.slice A n cap) rs → Calls Tryd.prog 11 #[.slice A n cap, .string s] wx fun e w' => ∃ v', e = .returned v' ∧ w'.ownsRow wx.heap.size 34 3 v' m (ts.flatMap kCells) ∧ Below wx.heap.size wx w' := by
    intro wx h
    have := rseg_any _ rs s wx h.1 (by omega)
    rwa [← hts, ← hm] at this
  have c12 : ∀ wx, TblU wx (.slice A n cap) rs → Calls Tryd.prog 12 #[.slice A n cap, .string s] wx fun e w' => e = .returned (.int .i64 m) ∧ Below wx.heap.size wx w' := by
    intro wx h
    have := hC _ rs s wx h (by omega)
    rwa [← hts, ← hm] at this
  have C9 := Lib.hid c9
  have C11 := Lib.hid c11
  have C12 := Lib.hid c12
  have W8 := Lib.hid (awake_any hA)
  have HT := Lib.hid ht
  have HM := Lib.hid hm
  clear c9 c11 c12 ht hts hm hA hC
  go_enter Tryd.func3, Tryd.ntmps3
  go_wp2_with fail
  refine (C9.out _ HT.out).mono ?_
  rintro e w1 ⟨A1, cap1, rfl, ho1, hb1⟩
  have HB1 := Lib.hid hb1
  have HO1 := Lib.hid ho1
  clear ho1 hb1
  go_wp2_with fail
  refine (C11.out _ (HT.out.below HB1.out)).mono ?_
  rintro e w2 ⟨v2, rfl, ho2, hb2⟩
  have HO1' := Lib.hid (own_below HO1.out hb2)
  have HO2 := Lib.hid ho2
  have HB2 := Lib.hid (HB1.out.trans (hb2.mono HB1.out.size))
  clear ho2 hb2
  go_wp2_with fail
  refine (rsame_own HM.out.symm HO1'.out HO2.out).mono ?_
  rintro e w3 ⟨rfl, hd3⟩
  have HB3 := Lib.hid (hd3.below HB2.out)
  clear hd3
  go_wp2_with fail
  refine (C12.out _ (HT.out.below HB3.out)).mono ?_
  rintro e w4 ⟨rfl, hb4⟩
  have HB4 := Lib.hid (HB3.out.trans (hb4.mono HB3.out.size))
  clear hb4
  go_wp2_with fail
  refine (W8.out _ (HT.out.below HB4.out).2).mono ?_
  rintro e w5 ⟨rfl, hb5⟩
  have HB5 := Lib.hid (HB4.out.trans (hb5.mono HB4.out.size))
  clear hb5
  go_wp2_with fail
  go_ret
  exact ⟨rfl, HB5.out⟩

set_option maxHeartbeats 2000000 in
theorem segnum_law (hA : SegSays) (v : Value) (w : World) (hW : Tabs w) (hT : Calls Tryd.prog 13 #[v] w (Short 1000 w)) :
    Calls Tryd.prog 4 #[v] w fun e w' => e = .returned (.bool true) ∧ Below w.heap.size w w' := by
  have c9 : ∀ wx t s, s.size ≤ 1000 → TblU wx t Cls.tab → Calls Tryd.prog 9 #[t, .string s] wx fun e w' => ∃ v', e = .returned v' ∧ w'.ownsRow wx.heap.size 34 3 v' (toksOf Cls.tab s).length ((toksOf Cls.tab s).flatMap kCells) ∧ Below wx.heap.size wx w' :=
    fun wx t s hs h => hA t Cls.tab s wx h (by omega)
  have c11 : ∀ wx t s, s.size ≤ 1000 → TblU wx t Cls.tab → Calls Tryd.prog 11 #[t, .string s] wx fun e w' => ∃ v', e = .returned v' ∧ w'.ownsRow wx.heap.size 34 3 v' (toksOf Cls.tab s).length ((toksOf Cls.tab s).flatMap kCells) ∧ Below wx.heap.size wx w' :=
    fun wx t s hs h => rseg_any t Cls.tab s wx h.1 (by omega)
  have C9 := Lib.hid c9
  have C11 := Lib.hid c11
  have W8 := Lib.hid (awake_any hA)
  have T := Lib.hid table_u
  have HT := Lib.hid hT
  have HW := Lib.hid hW
  clear c9 c11 hA hT hW
  go_enter Tryd.func4, Tryd.ntmps4
  go_wp2_with fail
  refine (HT.out).mono ?_
  rintro e w1 ⟨s, rfl, hs, hb1⟩
  have HS := Lib.hid hs
  have HB1 := Lib.hid hb1
  clear hs hb1
  go_wp2_with fail
  refine (T.out _ (HW.out.below HB1.out)).mono ?_
  rintro e w2 ⟨t2, rfl, ht2, hb2⟩
  have HT2 := Lib.hid ht2
  have HB2 := Lib.hid (HB1.out.trans (hb2.mono HB1.out.size))
  clear ht2 hb2
  go_wp2_with fail
  refine (C9.out _ _ _ HS.out HT2.out).mono ?_
  rintro e w3 ⟨v3, rfl, ho3, hb3⟩
  have HO3 := Lib.hid ho3
  have HB3 := Lib.hid (HB2.out.trans (hb3.mono HB2.out.size))
  clear ho3 hb3
  go_wp2_with fail
  refine (T.out _ (HW.out.below HB3.out)).mono ?_
  rintro e w4 ⟨t4, rfl, ht4, hb4⟩
  have HT4 := Lib.hid ht4
  have HO4 := Lib.hid (own_below HO3.out hb4)
  have HB4 := Lib.hid (HB3.out.trans (hb4.mono HB3.out.size))
  clear ht4 hb4
  go_wp2_with fail
  refine (C11.out _ _ _ HS.out HT4.out).mono ?_
  rintro e w5 ⟨v5, rfl, ho5, hb5⟩
  have HO5 := Lib.hid ho5
  have HO4' := Lib.hid (own_below HO4.out hb5)
  have HB5 := Lib.hid (HB4.out.trans (hb5.mono HB4.out.size))
  clear ho5 hb5
  go_wp2_with fail
  refine (rsame_own rfl HO4'.out HO5.out).mono ?_
  rintro e w6 ⟨rfl, hd6⟩
  have HB6 := Lib.hid (hd6.below HB5.out)
  clear hd6
  go_wp2_with fail
  refine (W8.out _ (HW.out.below HB6.out)).mono ?_
  rintro e w7 ⟨rfl, hb7⟩
  have HB7 := Lib.hid (HB6.out.trans (hb7.mono HB6.out.size))
  clear hb7
  go_wp2_with fail
  go_ret
  exact ⟨rfl, HB7.out⟩
end Go.Proofs.YtmebboadadlahaaDoor
