/- HistoryPlays out of what is asked of a history's calls. -/
import Derived.Test.YtibccdbmdajijaaHRefUndo
import Derived.Test.YtibccdbmdajijaaHSame
import Derived.Test.YtibccdbmdajijaaHPlace
import Derived.Deep.DeepCutAuto
import Derived.Deep.LoopGhost
namespace Go.Proofs.Ytibccdbmdajijaa
open Go Go.RowKit
variable {R Rb : (Nat → Prop) → World → Addr → Nat → List (List Ed) → List (List Ed) → Prop}

section
variable {w wx w' : World} {a b : Addr} {D E : Nat} {us rs vs ss : List (List Ed)} {G : Nat → Prop}
theorem refh_push (F : Nat → Prop) (w : World) (ad : Addr) (E : Nat) (us rs : List (List Ed)) (v : Value) (g : List Ed) (hr : RefH F w ad E us rs) (hv : RowAt w v g) (hg : g.length ≤ 20) :
    Calls Try.prog 12 #[.pointer (some ad), v] w fun e w' => e = .returned (.tuple #[]) ∧ HGoes RefH F w w' ad E (pushU E us g) (pushR rs g) (fun _ => False) := by
  by_cases h0 : g.length = 0
  · have hx : g = [] := List.eq_nil_of_length_eq_zero h0
    subst hx
    rw [show pushU E us [] = us from if_pos rfl, show pushR rs [] = rs from if_pos rfl]
    exact refh_push_none F w ad E us rs v hr hv
  · rw [pushU, pushR, if_neg h0, if_neg h0]
    obtain ⟨q, off, cap, rfl, _⟩ := hv.open (by omega)
    exact refh_push_some F w ad E us rs _ cap g hr hv (by omega) hg
theorem Two.rpush (B : Firm Rb) (h : Two RefH Rb w a D us rs b E vs ss G wx) {v : Value} {xs : List Ed} (hv : RowAt wx v xs) (hx : xs.length ≤ 20) :
    Calls Try.prog 12 #[.pointer (some a), v] wx fun e w' => e = .returned (.tuple #[]) ∧ Hid (Two RefH Rb w a D (pushU D us xs) (pushR rs xs) b E vs ss G w') ∧ Hid (KeepsAt G wx w') := by
  refine (Two.call RefH.firm B (Q := fun e _ _ => e = .returned (.tuple #[])) h (fun F hr _ => (refh_push F wx a D us rs v xs hr hv hx).mono fun e w' ⟨he, hh⟩ => ⟨fun _ => False, he, fun k hk => hk.elim, hh⟩)).mono ?_
  rintro e w' ⟨N, he, _, h1, h2⟩
  exact ⟨he, Lib.hid (h1.out.less fun k hk => .inl hk), h2⟩
theorem Two.rundo (B : Firm Rb) {g : List Ed} (h : Two RefH Rb w a D (us ++ [g]) rs b E vs ss G wx) :
    Calls Try.prog 14 #[.pointer (some a)] wx fun e w' => ∃ v, e = .returned (.tuple #[v, .bool true]) ∧ RowAt w' v g ∧ Hid (Two RefH Rb w a D us (rs ++ [g]) b E vs ss G w') ∧ Hid (KeepsAt G wx w') := by
  refine (Two.call RefH.firm B (Q := fun e w' _ => ∃ v, e = .returned (.tuple #[v, .bool true]) ∧ RowAt w' v g) h (fun F hr _ => (refh_undo F wx a D us rs g hr).mono fun e w' ⟨v, he, ho, hh⟩ => ⟨fun _ => False, ⟨v, he, ho⟩, fun k hk => hk.elim, hh⟩)).mono ?_
  rintro e w' ⟨N, ⟨v, he, ho⟩, _, h1, h2⟩
  exact ⟨v, he, ho, Lib.hid (h1.out.less fun k hk => .inl hk), h2⟩
theorem Two.rundo_no (B : Firm Rb) (h : Two RefH Rb w a D [] rs b E vs ss G wx) :
    Calls Try.prog 14 #[.pointer (some a)] wx fun e w' => e = .returned (.tuple #[.slice none 0 0, .bool false]) ∧ Hid (Two RefH Rb w a D [] rs b E vs ss G w') ∧ Hid (KeepsAt G wx w') := by
  refine (Two.call RefH.firm B (Q := fun e _ _ => e = .returned (.tuple #[.slice none 0 0, .bool false])) h (fun F hr _ => (refh_undo_no F wx a D rs hr).mono fun e w' ⟨he, hh⟩ => ⟨fun _ => False, he, fun k hk => hk.elim, hh⟩)).mono ?_
  rintro e w' ⟨N, he, _, h1, h2⟩
  exact ⟨he, Lib.hid (h1.out.less fun k hk => .inl hk), h2⟩
theorem Two.rredo (B : Firm Rb) {g : List Ed} (h : Two RefH Rb w a D us (rs ++ [g]) b E vs ss G wx) :
    Calls Try.prog 17 #[.pointer (some a)] wx fun e w' => ∃ v, e = .returned (.tuple #[v, .bool true]) ∧ RowAt w' v g ∧ Hid (Two RefH Rb w a D (us ++ [g]) rs b E vs ss G w') ∧ Hid (KeepsAt G wx w') := by
  refine (Two.call RefH.firm B (Q := fun e w' _ => ∃ v, e = .returned (.tuple #[v, .bool true]) ∧ RowAt w' v g) h (fun F hr _ => (refh_redo F wx a D us rs g hr).mono fun e w' ⟨v, he, ho, hh⟩ => ⟨fun _ => False, ⟨v, he, ho⟩, fun k hk => hk.elim, hh⟩)).mono ?_
  rintro e w' ⟨N, ⟨v, he, ho⟩, _, h1, h2⟩
  exact ⟨v, he, ho, Lib.hid (h1.out.less fun k hk => .inl hk), h2⟩
theorem Two.rredo_no (B : Firm Rb) (h : Two RefH Rb w a D us [] b E vs ss G wx) :
    Calls Try.prog 17 #[.pointer (some a)] wx fun e w' => e = .returned (.tuple #[.slice none 0 0, .bool false]) ∧ Hid (Two RefH Rb w a D us [] b E vs ss G w') ∧ Hid (KeepsAt G wx w') := by
  refine (Two.call RefH.firm B (Q := fun e _ _ => e = .returned (.tuple #[.slice none 0 0, .bool false])) h (fun F hr _ => (refh_redo_no F wx a D us hr).mono fun e w' ⟨he, hh⟩ => ⟨fun _ => False, he, fun k hk => hk.elim, hh⟩)).mono ?_
  rintro e w' ⟨N, he, _, h1, h2⟩
  exact ⟨he, Lib.hid (h1.out.less fun k hk => .inl hk), h2⟩
/-- The document's history's lists, by their lengths. -/
theorem Two.fields {hb : Nat} (h : Two RefH Rb w ⟨hb, 0, none⟩ D us rs b E vs ss G wx) : ∃ A1 c1 A2 c2, wx.cell? ⟨hb, 1, none⟩ = some (.slice A1 us.length c1) ∧ wx.cell? ⟨hb, 2, none⟩ = some (.slice A2 rs.length c2) := by
  obtain ⟨⟨F1, F2, ⟨hb', vU, vR, he, _, _, hh, ⟨_, ⟨_, hU⟩, _⟩, ⟨_, ⟨_, hR⟩, _⟩, _⟩, _⟩, _, _⟩ := h
  cases he
  obtain ⟨⟨_, c1, c2⟩, _⟩ := hcells hh
  have hu : ∃ A1 c1, vU = .slice A1 us.length c1 := by
    rcases hU with ⟨rfl, hz⟩ | ⟨a, cap, rfl, _⟩
    · exact ⟨none, 0, by rw [hz]⟩
    · exact ⟨_, _, rfl⟩
  have hr : ∃ A2 c2, vR = .slice A2 rs.length c2 := by
    rcases hR with ⟨rfl, hz⟩ | ⟨a, cap, rfl, _⟩
    · exact ⟨none, 0, by rw [hz]⟩
    · exact ⟨_, _, rfl⟩
  obtain ⟨A1, k1, rfl⟩ := hu
  obtain ⟨A2, k2, rfl⟩ := hr
  exact ⟨A1, k1, A2, k2, c1, c2⟩
theorem Two.small {g : List Ed} (h : Two RefH Rb w a D (us ++ [g]) rs b E vs ss G wx) : g.length ≤ 20 := by
  obtain ⟨⟨F1, F2, ⟨hb', vU, vR, he, _, _, hh, hU, _⟩, _⟩, _, _⟩ := h
  obtain ⟨q, off, cap, bx, cx, _, _, _, hG, _⟩ := hU.last
  exact hG.2.1.2
theorem Two.small' {g : List Ed} (h : Two RefH Rb w a D us (rs ++ [g]) b E vs ss G wx) : g.length ≤ 20 := by
  obtain ⟨⟨F1, F2, ⟨hb', vU, vR, he, _, _, hh, _, hR, _⟩, _⟩, _, _⟩ := h
  obtain ⟨q, off, cap, bx, cx, _, _, _, hG, _⟩ := hR.last
  exact hG.2.1.2
/-- The document's history, new beside a history. -/
theorem Two.rnew (B : Firm Rb) (h : Two Nil_ Rb w ⟨0, 0, none⟩ 0 [] [] b E vs ss G wx) (d : Int) (d1 : -9223372036854775808 ≤ d) (d2 : d ≤ 9223372036854775807) :
    Calls Try.prog 8 #[.int .i64 d] wx fun e w' => ∃ hb, e = .returned (.pointer (some ⟨hb, 0, none⟩)) ∧ Hid (Two RefH Rb w ⟨hb, 0, none⟩ (cutD d) [] [] b E vs ss G w') := by
  obtain ⟨⟨F1, F2, h1, h2, h3, h4⟩, h5, h6⟩ := h
  refine (refh_new wx d d1 d2).mono ?_
  rintro e w' ⟨a, F, he, hr, ho, hF⟩
  have hlt2 := B.lt F2 wx b E vs ss h2
  have hT : Two RefH Rb w a (cutD d) [] [] b E vs ss G w' := ⟨⟨F, F2, hr, B.frame F2 wx w' b E vs ss h2 (KeepsAt.of_only ho fun _ _ e => e), fun k hk => ⟨Nat.le_trans h5.size (hF k hk), fun e => by have := hlt2 k e; have := hF k hk; omega, fun e => by have := h6 k e; have := hF k hk; omega⟩, h4⟩, OnlyAt.below h5 ho h5.size fun k hk => hk.elim, fun k hk => Nat.lt_of_lt_of_le (h6 k hk) ho.size⟩
  obtain ⟨hb, _, _, rfl, _⟩ := hr
  exact ⟨hb, he, Lib.hid hT⟩
end

/-- Blocks that are new are ours. -/
theorem Two.own {Ra Rb : (Nat → Prop) → World → Addr → Nat → List (List Ed) → List (List Ed) → Prop} {w wx w' : World} {a b : Addr} {D E : Nat} {us rs vs ss : List (List Ed)} (A : Firm Ra) (B : Firm Rb) (h : Two Ra Rb w a D us rs b E vs ss (fun _ => False) wx) (hb : Below wx.heap.size wx w') :
    Two Ra Rb w a D us rs b E vs ss (fun k => wx.heap.size ≤ k ∧ k < w'.heap.size) w' := by
  have h' := h.keep A B hb
  obtain ⟨⟨F1, F2, h1, h2, h3, h4⟩, h5, h6⟩ := h
  refine ⟨⟨F1, F2, A.frame F1 wx w' a D us rs h1 ⟨hb.size, fun k hk _ => hb.block k hk⟩, B.frame F2 wx w' b E vs ss h2 ⟨hb.size, fun k hk _ => hb.block k hk⟩, fun k hk => ⟨(h3 k hk).1, (h3 k hk).2.1, fun g => ?_⟩, fun k hk => ⟨(h4 k hk).1, fun g => ?_⟩⟩, h'.below, fun k hk => hk.2⟩
  · have := A.lt F1 wx a D us rs h1 k hk; omega
  · have := B.lt F2 wx b E vs ss h2 k hk; omega
theorem RowAt.slice {w : World} {v : Value} {xs : List Ed} (h : RowAt w v xs) : ∃ A c, v = .slice A xs.length c := by
  obtain ⟨⟨_, ⟨rfl, hz⟩ | ⟨a, cap, rfl, _⟩⟩, _⟩ := h
  · exact ⟨none, 0, by rw [hz]⟩
  · exact ⟨_, _, rfl⟩
/-- A group is pushed to the history (a copy of it), then to the document's own. -/
theorem push_one {w wr wc : World} {hb : Nat} {a : Addr} {D : Nat} {us rs : List (List Ed)} (S : SaysH R) (h : Two RefH R w ⟨hb, 0, none⟩ D us rs a D us rs (fun _ => False) wr) (hbl : Below wr.heap.size wr wc) {v v' : Value} {g : List Ed} (hg : g.length ≤ 20) (hv' : RowAt wc v' g) (hn : ∀ k, v'.ownBlock = some k → wr.heap.size ≤ k ∧ k < wc.heap.size) (hv : RowAt wc v g) (hw : 0 < g.length → ∀ k, v.ownBlock = some k → wr.heap.size ≤ k ∨ k < w.heap.size) :
    Calls Try.prog 11 #[.pointer (some a), v'] wc fun e w' => e = .returned (.tuple #[]) ∧ Hid (Two RefH R w ⟨hb, 0, none⟩ D us rs a D (pushU D us g) (pushR rs g) (fun k => wr.heap.size ≤ k ∧ k < wc.heap.size) w' ∧ RowAt w' v g) := by
  have hT := Two.own RefH.firm S.firm h hbl
  refine (hT.swap.push S RefH.firm hv' (fun k hk => hn k hk) hg).mono ?_
  rintro e w' ⟨he, h1, h2⟩
  refine ⟨he, Lib.hid ⟨h1.out.swap, hv.keep h2.out.size fun k h0 hk => ?_⟩⟩
  rcases hw h0 k hk with hk' | hk'
  · exact h2.out.block k (hv.2 h0 k hk) ⟨hk', hv.2 h0 k hk⟩
  · exact (h1.out.below.block k hk').trans (hT.below.block k hk').symm
theorem push_two {w w6 : World} {hb : Nat} {a : Addr} {D : Nat} {us rs us' rs' : List (List Ed)} {G : Nat → Prop} (S : SaysH R) {v : Value} {g : List Ed} (hg : g.length ≤ 20) (h : Two RefH R w ⟨hb, 0, none⟩ D us rs a D us' rs' G w6 ∧ RowAt w6 v g) :
    Calls Try.prog 12 #[.pointer (some ⟨hb, 0, none⟩), v] w6 fun e w' => e = .returned (.tuple #[]) ∧ Hid (Two RefH R w ⟨hb, 0, none⟩ D (pushU D us g) (pushR rs g) a D us' rs' (fun _ => False) w') :=
  (h.1.rpush S.firm h.2 hg).mono fun _e _w' ⟨he, h1, _⟩ => ⟨he, Lib.hid (h1.out.less fun _ h => h.elim)⟩

theorem nil_or_last {α : Type} (l : List α) : l = [] ∨ ∃ L x, l = L ++ [x] := by
  rcases List.eq_nil_or_concat l with h | ⟨L, x, h⟩
  · exact .inl h
  · exact .inr ⟨L, x, by rw [h, List.concat_eq_append]⟩
/-- Numbers in a slice. -/
def NumsU (w : World) (A : Option Addr) (n cap : Nat) (zs : List Int) : Prop :=
  zs.length = n ∧ n ≤ cap ∧ cap ≤ maxLen ∧ ∀ (j : Nat) z, zs[j]? = some z → ∃ b off, A = some ⟨b, off, none⟩ ∧ b < w.heap.size ∧ w.cell? ⟨b, off + j, none⟩ = some (.int .i64 z)
/-- Groups in a slice. -/
def GrpsU (w : World) (A : Option Addr) (n cap : Nat) (gs : List (List Ed)) : Prop :=
  gs.length = n ∧ n ≤ cap ∧ cap ≤ maxLen ∧ ∀ (j : Nat) g, gs[j]? = some g → ∃ b off v, A = some ⟨b, off, none⟩ ∧ b < w.heap.size ∧ w.cell? ⟨b, off + j, none⟩ = some v ∧ RowAt w v g

set_option maxRecDepth 100000 in
set_option maxHeartbeats 8000000 in
theorem plays_in (S : SaysH R) (d : Int) (AG A : Option Addr) (nG capG n cap : Nat) (gs : List (List Ed)) (zs : List Int) (w : World) (hg : GrpsU w AG nG capG gs) (hz : NumsU w A n cap zs) (hnG : nG ≤ 60) (hn : n ≤ 150) (b1 : -9223372036854775808 ≤ d) (b2 : d ≤ 9223372036854775807) :
    Calls Try.prog 3 #[.int .i64 d, .slice AG nG capG, .slice A n cap] w fun e w' => e = .returned (.bool true) ∧ Below w.heap.size w w' := by
  obtain ⟨i1, hi1, hz10, hz11, hz12⟩ := info_parts Try.infos31
  have W7 := Lib.hid (awake_any S)
  have C1 := Lib.hid ((Two.start w w (Below.refl _ _)).new S Nil_.firm d b1 b2)
  have C2 := Lib.hid (fun wx a (h : Hid (Two R Nil_ w a (cutD d) [] [] ⟨0, 0, none⟩ 0 [] [] (fun _ => False) wx)) => h.out.swap.rnew S.firm d b1 b2)
  obtain ⟨D, hD⟩ : ∃ D, D = cutD d := ⟨_, rfl⟩
  rw [← hD] at C1 C2
  have n0 : (nG : Int) ≤ 60 := by omega
  have n1 : (n : Int) ≤ 150 := by omega
  have HGS := Lib.hid hg
  have HZS := Lib.hid hz
  have HS := Lib.hid S
  have HF := Lib.hid S.firm
  clear S hg hz hnG hn hD b1 b2
  go_enter Try.func3, Try.ntmps3
  go_wp2_with fail
  refine C1.out.mono ?_
  rintro e w1 ⟨a, rfl, H1, -⟩
  go_wp2_with fail
  refine (C2.out _ _ H1).mono ?_
  rintro e w2 ⟨hb, rfl, H2⟩
  clear C1 C2 H1
  go_wp2_with fail
  go_loopw [9, 10] (fun x i wr => ∃ j m : Nat, j ≤ n ∧ m ≤ j ∧ i = .int .i64 j ∧ x = .int .i64 m ∧ ∃ us rs, Hid (Two RefH R w ⟨hb, 0, none⟩ D us rs a D us rs (fun _ => False) wr)) (fun _ i _ => n - (RowKit.intOf i).toNat)
  case atStart => exact ⟨0, 0, Nat.zero_le _, Nat.le_refl _, rfl, rfl, [], [], H2⟩
  case round =>
    obtain ⟨j, m, hj, hm, rfl, rfl, us, rs, HT⟩ := hrel
    have j0 : (0 : Int) ≤ j := by omega
    have m0 : (0 : Int) ≤ m := by omega
    by_cases hjn : j < n
    · have jn : (j : Int) < n := by omega
      have mj : (m : Int) ≤ j := by omega
      obtain ⟨z, hzj⟩ : ∃ z, zs[j]? = some z := ⟨_, List.getElem?_eq_getElem (by rw [HZS.out.1]; exact hjn)⟩
      obtain ⟨bz, oz, rfl, hbz, hcz⟩ := HZS.out.2.2.2 j z hzj
      have l0 := (HT.out.below.cell (p := ⟨bz, _, none⟩) hbz).trans hcz
      obtain ⟨k, hk⟩ : ∃ k : Nat, z % 8 = k := ⟨(z % 8).toNat, by omega⟩
      have k8 : (k : Int) < 8 := by omega
      have k0 : (0 : Int) ≤ k := by omega
      have CP := Lib.hid (fun wx => hk ▸ place_any z 8 wx (by omega) (by omega))
      have HMJ := Lib.hid (And.intro hj (And.intro hm hjn))
      clear hzj hk hcz hbz hj hm
      go_wp2_with fail
      refine (CP.out _).mono ?_
      rintro e wp ⟨rfl, rfl⟩
      clear CP l0
      rcases Nat.lt_or_ge k 4 with h4 | h4
      · have k4 : (k : Int) < 4 := by omega
        obtain ⟨wl, hwl⟩ : ∃ wl, wl = wr.alloc (.cells #[.int .i64 j, .string ⟨#[]⟩, .string ⟨#[120]⟩] /-t-/31) := ⟨_, rfl⟩
        have hbl : Below wr.heap.size wr wl := by rw [hwl]; exact (Below.refl _ _).alloc (Nat.le_refl _) _
        have HWL := Lib.hid (HT.out.below.trans (hbl.mono HT.out.below.size))
        have hlit : RowAt wl (.slice (some ⟨wr.heap.size, 0, none⟩) 1 1) [⟨j, ⟨#[]⟩, ⟨#[120]⟩⟩] := by rw [hwl]; exact RowAt.lit wr [⟨j, ⟨#[]⟩, ⟨#[120]⟩⟩] _ _ rfl (show (1 : Nat) ≤ 1000 by omega)
        have HLIT := Lib.hid hlit
        clear hlit hbl
        rcases Nat.lt_or_ge m nG with hm | hm
        · have mG : (m : Int) < nG := by omega
          obtain ⟨g, hgm⟩ : ∃ g, gs[m]? = some g := ⟨_, List.getElem?_eq_getElem (by rw [HGS.out.1]; exact hm)⟩
          obtain ⟨bg, og, v, rfl, hbg, hcg, hrow⟩ := HGS.out.2.2.2 m g hgm
          have hcg2 : wl.cell? ⟨bg, og + m, none⟩ = some v := (HWL.out.cell (p := ⟨bg, _, none⟩) hbg).trans hcg
          have hrow2 : RowAt wl v g := hrow.on HWL.out hrow.2
          have HROW := Lib.hid hrow2
          have HVB := Lib.hid hrow.2
          obtain ⟨AV, cv, rfl⟩ := hrow2.slice
          rw [hwl] at hcg2
          clear hgm hbg hcg hrow hrow2
          by_cases hg : 20 < g.length
          · have gI : (20 : Int) < g.length := by omega
            go_wp2_with fail
            rw [← hwl]
            refine (W7.out _).mono ?_
            rintro e w8 ⟨rfl, hb8⟩
            have HB8 := Lib.hid (HWL.out.trans (hb8.mono HWL.out.size))
            clear hb8
            go_wp2_with fail
            go_ret
            exact ⟨rfl, HB8.out⟩
          · have gI : decide ((20 : Int) < (g.length : Int)) = false := decide_eq_false (by omega)
            have g20 : g.length ≤ 20 := by omega
            rw [hwl] at HROW
            go_wp2_with (at_builtin; refine wpList_copy _ rfl _ _ 32 rfl 31 i1 (.agg #[.int .i64 0, .string ⟨#[]⟩, .string ⟨#[]⟩]) 3 40 Try.underlying32 hi1 hz10 hz11 hz12 rfl (by decide) (.slice AV g.length cv) g.length (eCells g) rfl rfl HROW.out.1 (eCells_one _) (by omega) (by decide) ?_; intro v5 w5 hown5 hgrow5; have B5 := Lib.hid (And.intro hown5 hgrow5); clear hown5 hgrow5)
            have hb5 : Below wr.heap.size wr w5 := ((Below.refl wr.heap.size wr).alloc (Nat.le_refl _) _).grown B5.out.2 (by simp) (fun _ h => by cases h)
            have C6 := Lib.hid (push_one (g := g) HS.out HT.out hb5 g20 (RowAt.own B5.out.1) (fun k hk => by have := B5.out.1.lt k hk; rw [World.size_alloc] at this; omega) (HROW.out.keep B5.out.2.size (fun k h0 hk => B5.out.2.block k (HROW.out.2 h0 k hk) (by simp))) (fun h0 k hk => .inr (HVB.out h0 k hk)))
            clear HT hb5
            refine C6.out.mono ?_
            rintro e w6 ⟨rfl, H6⟩
            have C7 := Lib.hid (push_two (g := g) HS.out g20 H6.out)
            clear C6 H6
            go_wp2_with fail
            refine C7.out.mono ?_
            rintro e w7 ⟨rfl, H7⟩
            clear C7

            have CL := Lib.hid (H7.out.swap.len HS.out RefH.firm)
            clear H7
            go_wp2_with fail
            refine CL.out.mono ?_
            rintro e wl' ⟨rfl, HL, -⟩
            obtain ⟨A1, k1, A2, k2, f1, f2⟩ := HL.out.swap.fields
            clear CL
            go_wp2_with fail
            go_roundw
            case rel => exact ⟨j + 1, m + 1, by have := HMJ.out; omega, by have := HMJ.out; omega, by go_num, by go_num, _, _, Lib.hid HL.out.swap⟩
            case measure => simp [RowKit.intOf]; have := HMJ.out; omega
        · have mG : ¬ (m : Int) < nG := by omega
          have HROW := HLIT
          rw [hwl] at HROW
          go_wp2_with (at_builtin; refine wpList_copy _ rfl _ _ 32 rfl 31 i1 (.agg #[.int .i64 0, .string ⟨#[]⟩, .string ⟨#[]⟩]) 3 40 Try.underlying32 hi1 hz10 hz11 hz12 rfl (by decide) (.slice (some ⟨wr.heap.size, 0, none⟩) 1 1) 1 (eCells [⟨j, ⟨#[]⟩, ⟨#[120]⟩⟩]) rfl rfl HROW.out.1 (eCells_one _) (by omega) (by decide) ?_; intro v5 w5 hown5 hgrow5; have B5 := Lib.hid (And.intro hown5 hgrow5); clear hown5 hgrow5)
          have hb5 : Below wr.heap.size wr w5 := ((Below.refl wr.heap.size wr).alloc (Nat.le_refl _) _).grown B5.out.2 (by simp) (fun _ h => by cases h)
          have C6 := Lib.hid (push_one (g := [⟨j, ⟨#[]⟩, ⟨#[120]⟩⟩]) HS.out HT.out hb5 (show (1 : Nat) ≤ 20 by omega) (RowAt.own B5.out.1) (fun k hk => by have := B5.out.1.lt k hk; rw [World.size_alloc] at this; omega) (HROW.out.keep B5.out.2.size (fun k h0 hk => B5.out.2.block k (HROW.out.2 h0 k hk) (by simp))) (fun _ k hk => .inl (by cases hk; exact Nat.le_refl _)))
          clear HT hb5
          refine C6.out.mono ?_
          rintro e w6 ⟨rfl, H6⟩
          have C7 := Lib.hid (push_two (g := [⟨j, ⟨#[]⟩, ⟨#[120]⟩⟩]) HS.out (show (1 : Nat) ≤ 20 by omega) H6.out)
          clear C6 H6
          go_wp2_with fail
          refine C7.out.mono ?_
          rintro e w7 ⟨rfl, H7⟩
          clear C7

          have CL := Lib.hid (H7.out.swap.len HS.out RefH.firm)
          clear H7
          go_wp2_with fail
          refine CL.out.mono ?_
          rintro e wl' ⟨rfl, HL, -⟩
          obtain ⟨A1, k1, A2, k2, f1, f2⟩ := HL.out.swap.fields
          clear CL
          go_wp2_with fail
          go_roundw
          case rel => exact ⟨j + 1, m + 1, by have := HMJ.out; omega, by have := HMJ.out; omega, by go_num, by go_num, _, _, Lib.hid HL.out.swap⟩
          case measure => simp [RowKit.intOf]; have := HMJ.out; omega
      · have k4 : ¬ (k : Int) < 4 := by omega
        rcases Nat.lt_or_ge k 6 with h6 | h6
        · have k6 : (k : Int) < 6 := by omega
          rcases nil_or_last us with rfl | ⟨L, g, rfl⟩
          · have C5 := Lib.hid (HT.out.swap.undo_no HS.out RefH.firm)
            clear HT
            go_wp2_with fail
            refine C5.out.mono ?_
            rintro e w5 ⟨v5, rfl, ho, H5, -⟩
            have hr5 : RowAt w5 v5 [] := RowAt.own (xs := []) ho
            have C6 := Lib.hid (H5.out.swap.rundo_no HS.out.firm)
            have HR5 := Lib.hid hr5
            clear C5 ho H5 hr5
            go_wp2_with fail
            refine C6.out.mono ?_
            rintro e w6 ⟨rfl, H6, hk6⟩
            have C8 := Lib.hid ((group_any w6 v5 (.slice none 0 0) [] (HR5.out.keep hk6.out.size fun k h0 hk => hk6.out.block k (HR5.out.2 h0 k hk) (.inr hk)) (RowAt.nil w6) (by decide)).mono fun e w' h => show e = .returned (.bool true) ∧ Hid (Two RefH R w ⟨hb, 0, none⟩ D [] rs a D [] rs (fun _ => False) w') from ⟨h.1, Lib.hid ((H6.out.less fun _ h => h.elim).keep RefH.firm HS.out.firm h.2)⟩)
            clear C6 H6 hk6 HR5
            go_wp2_with fail
            refine C8.out.mono ?_
            rintro e w7 ⟨rfl, H7⟩
            clear C8
            have CL := Lib.hid (H7.out.swap.len HS.out RefH.firm)
            clear H7
            go_wp2_with fail
            refine CL.out.mono ?_
            rintro e wl' ⟨rfl, HL, -⟩
            obtain ⟨A1, k1, A2, k2, f1, f2⟩ := HL.out.swap.fields
            clear CL
            go_wp2_with fail
            go_roundw
            case rel => exact ⟨j + 1, m, by have := HMJ.out; omega, by have := HMJ.out; omega, by go_num, by go_num, _, _, Lib.hid HL.out.swap⟩
            case measure => simp [RowKit.intOf]; have := HMJ.out; omega
          · have hs := Two.small HT.out
            have C5 := Lib.hid (HT.out.swap.undo HS.out RefH.firm)
            clear HT
            go_wp2_with fail
            refine C5.out.mono ?_
            rintro e w5 ⟨v5, rfl, ho, H5, -⟩
            have hr5 : RowAt w5 v5 g := RowAt.own ho
            have C6 := Lib.hid (H5.out.swap.rundo HS.out.firm)
            have HR5 := Lib.hid hr5
            clear C5 ho H5 hr5
            go_wp2_with fail
            refine C6.out.mono ?_
            rintro e w6 ⟨v6, rfl, hr6, H6, hk6⟩
            have C8 := Lib.hid ((group_any w6 v5 v6 g (HR5.out.keep hk6.out.size fun k h0 hk => hk6.out.block k (HR5.out.2 h0 k hk) (.inr hk)) hr6 hs).mono fun e w' h => show e = .returned (.bool true) ∧ Hid (Two RefH R w ⟨hb, 0, none⟩ D L (rs ++ [g]) a D L (rs ++ [g]) (fun _ => False) w') from ⟨h.1, Lib.hid ((H6.out.less fun _ h => h.elim).keep RefH.firm HS.out.firm h.2)⟩)
            clear C6 H6 hk6 HR5 hr6 hs
            go_wp2_with fail
            refine C8.out.mono ?_
            rintro e w7 ⟨rfl, H7⟩
            clear C8
            have CL := Lib.hid (H7.out.swap.len HS.out RefH.firm)
            clear H7
            go_wp2_with fail
            refine CL.out.mono ?_
            rintro e wl' ⟨rfl, HL, -⟩
            obtain ⟨A1, k1, A2, k2, f1, f2⟩ := HL.out.swap.fields
            clear CL
            go_wp2_with fail
            go_roundw
            case rel => exact ⟨j + 1, m, by have := HMJ.out; omega, by have := HMJ.out; omega, by go_num, by go_num, _, _, Lib.hid HL.out.swap⟩
            case measure => simp [RowKit.intOf]; have := HMJ.out; omega
        · have k6 : ¬ (k : Int) < 6 := by omega
          rcases nil_or_last rs with rfl | ⟨L, g, rfl⟩
          · have C5 := Lib.hid (HT.out.swap.redo_no HS.out RefH.firm)
            clear HT
            go_wp2_with fail
            refine C5.out.mono ?_
            rintro e w5 ⟨v5, rfl, ho, H5, -⟩
            have hr5 : RowAt w5 v5 [] := RowAt.own (xs := []) ho
            have C6 := Lib.hid (H5.out.swap.rredo_no HS.out.firm)
            have HR5 := Lib.hid hr5
            clear C5 ho H5 hr5
            go_wp2_with fail
            refine C6.out.mono ?_
            rintro e w6 ⟨rfl, H6, hk6⟩
            have C8 := Lib.hid ((group_any w6 v5 (.slice none 0 0) [] (HR5.out.keep hk6.out.size fun k h0 hk => hk6.out.block k (HR5.out.2 h0 k hk) (.inr hk)) (RowAt.nil w6) (by decide)).mono fun e w' h => show e = .returned (.bool true) ∧ Hid (Two RefH R w ⟨hb, 0, none⟩ D us [] a D us [] (fun _ => False) w') from ⟨h.1, Lib.hid ((H6.out.less fun _ h => h.elim).keep RefH.firm HS.out.firm h.2)⟩)
            clear C6 H6 hk6 HR5
            go_wp2_with fail
            refine C8.out.mono ?_
            rintro e w7 ⟨rfl, H7⟩
            clear C8
            have CL := Lib.hid (H7.out.swap.len HS.out RefH.firm)
            clear H7
            go_wp2_with fail
            refine CL.out.mono ?_
            rintro e wl' ⟨rfl, HL, -⟩
            obtain ⟨A1, k1, A2, k2, f1, f2⟩ := HL.out.swap.fields
            clear CL
            go_wp2_with fail
            go_roundw
            case rel => exact ⟨j + 1, m, by have := HMJ.out; omega, by have := HMJ.out; omega, by go_num, by go_num, _, _, Lib.hid HL.out.swap⟩
            case measure => simp [RowKit.intOf]; have := HMJ.out; omega
          · have hs := Two.small' HT.out
            have C5 := Lib.hid (HT.out.swap.redo HS.out RefH.firm)
            clear HT
            go_wp2_with fail
            refine C5.out.mono ?_
            rintro e w5 ⟨v5, rfl, ho, H5, -⟩
            have hr5 : RowAt w5 v5 g := RowAt.own ho
            have C6 := Lib.hid (H5.out.swap.rredo HS.out.firm)
            have HR5 := Lib.hid hr5
            clear C5 ho H5 hr5
            go_wp2_with fail
            refine C6.out.mono ?_
            rintro e w6 ⟨v6, rfl, hr6, H6, hk6⟩
            have C8 := Lib.hid ((group_any w6 v5 v6 g (HR5.out.keep hk6.out.size fun k h0 hk => hk6.out.block k (HR5.out.2 h0 k hk) (.inr hk)) hr6 hs).mono fun e w' h => show e = .returned (.bool true) ∧ Hid (Two RefH R w ⟨hb, 0, none⟩ D (us ++ [g]) L a D (us ++ [g]) L (fun _ => False) w') from ⟨h.1, Lib.hid ((H6.out.less fun _ h => h.elim).keep RefH.firm HS.out.firm h.2)⟩)
            clear C6 H6 hk6 HR5 hr6 hs
            go_wp2_with fail
            refine C8.out.mono ?_
            rintro e w7 ⟨rfl, H7⟩
            clear C8
            have CL := Lib.hid (H7.out.swap.len HS.out RefH.firm)
            clear H7
            go_wp2_with fail
            refine CL.out.mono ?_
            rintro e wl' ⟨rfl, HL, -⟩
            obtain ⟨A1, k1, A2, k2, f1, f2⟩ := HL.out.swap.fields
            clear CL
            go_wp2_with fail
            go_roundw
            case rel => exact ⟨j + 1, m, by have := HMJ.out; omega, by have := HMJ.out; omega, by go_num, by go_num, _, _, Lib.hid HL.out.swap⟩
            case measure => simp [RowKit.intOf]; have := HMJ.out; omega
    · obtain rfl : j = n := by omega
      have HWL := Lib.hid HT.out.below
      clear HT
      go_wp2_with fail
      refine (W7.out _).mono ?_
      rintro e w8 ⟨rfl, hb8⟩
      have HB8 := Lib.hid (HWL.out.trans (hb8.mono HWL.out.size))
      clear hb8
      go_wp2_with fail
      go_ret
      exact ⟨rfl, HB8.out⟩

set_option maxRecDepth 100000 in
set_option maxHeartbeats 2000000 in
theorem plays_out (S : SaysH R) (d : Int) (AG A : Option Addr) (nG capG n cap : Nat) (w : World) (h : 60 < nG ∨ 150 < n) (hG : nG ≤ 9223372036854775807) (hn : n ≤ 9223372036854775807) (b1 : -9223372036854775808 ≤ d) (b2 : d ≤ 9223372036854775807) :
    Calls Try.prog 3 #[.int .i64 d, .slice AG nG capG, .slice A n cap] w fun e w' => e = .returned (.bool true) ∧ Below w.heap.size w w' := by
  have W7 := Lib.hid (awake_any S)
  have C1 := Lib.hid ((Two.start w w (Below.refl _ _)).new S Nil_.firm d b1 b2)
  have C2 := Lib.hid (fun wx a (h : Hid (Two R Nil_ w a (cutD d) [] [] ⟨0, 0, none⟩ 0 [] [] (fun _ => False) wx)) => h.out.swap.rnew S.firm d b1 b2)
  have hh : (60 : Int) < nG ∨ (¬ (60 : Int) < nG ∧ (150 : Int) < n) := by omega
  clear S h hG hn b1 b2
  rcases hh with h | ⟨h, h'⟩
  all_goals
    go_enter Try.func3, Try.ntmps3
    go_wp2_with fail
    refine C1.out.mono ?_
    rintro e w1 ⟨a, rfl, H1, -⟩
    go_wp2_with fail
    refine (C2.out _ _ H1).mono ?_
    rintro e w2 ⟨hb, rfl, H2⟩
    clear C1 C2 H1
    have HWL := Lib.hid H2.out.below
    clear H2
    go_wp2_with fail
    refine (W7.out _).mono ?_
    rintro e w8 ⟨rfl, hb8⟩
    have HB8 := Lib.hid (HWL.out.trans (hb8.mono HWL.out.size))
    clear hb8
    go_wp2_with fail
    go_ret
    exact ⟨rfl, HB8.out⟩
end Go.Proofs.Ytibccdbmdajijaa
