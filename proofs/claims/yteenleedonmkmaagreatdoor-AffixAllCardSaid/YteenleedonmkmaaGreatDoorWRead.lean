/- The landed reader's big, read by contract. -/
import Derived.Test.YteenleedonmkmaaGreatDoorWAdd
import Derived.Test.YteenleedonmkmaaGreatDoorWPair
import Derived.Test.YteenleedonmkmaaGreatDoorRParse
namespace Go.Proofs.YteenleedonmkmaaGreatDoor
open Go Go.RowKit Go.Lib

/-- Too many of them. -/
def bigB (d : Rd) : Bool := decide (200 < d.rules.length ∨ 200 < d.pairs.length)

set_option maxRecDepth 100000 in
set_option maxHeartbeats 1000000 in
theorem wbig_any (w0 w : World) (HA : Nat) (F : Nat → Prop) (rv pv : Value) (xs : List Value) (d : Rd) (k m : Int) (h : LQ w0 w HA F rv pv xs d k m) :
    Calls Tryz.prog 30 #[.pointer (some ⟨HA, 0, none⟩)] w fun e w' => e = .returned (.bool (bigB d)) ∧ w' = w := by
  obtain ⟨RA, cR, RB, cR', rfl, rfl, -, -⟩ := h.forms
  obtain ⟨x0, x1, -⟩ := h.boxc
  obtain ⟨rn, hrn⟩ : ∃ n, n = d.rules.length := ⟨_, rfl⟩
  obtain ⟨pn, hpn⟩ : ∃ n, n = d.pairs.length := ⟨_, rfl⟩
  unfold bigB
  rw [← hrn, ← hpn]
  rw [← hrn] at x0
  rw [← hpn] at x1
  clear h hrn hpn
  by_cases h1 : 200 < rn
  · rw [decide_eq_true (.inl h1)]
    have e1 : (200 : Int) < rn := by omega
    go_enter Tryz.func30, Tryz.ntmps30
    go_wp2_with fail
    go_ret
    exact ⟨rfl, rfl⟩
  · have e1 : ¬ (200 : Int) < rn := by omega
    by_cases h2 : 200 < pn
    · rw [decide_eq_true (.inr h2)]
      have e2 : (200 : Int) < pn := by omega
      clear h1 h2
      go_enter Tryz.func30, Tryz.ntmps30
      go_wp2_with fail
      go_ret
      exact ⟨rfl, rfl⟩
    · rw [decide_eq_false (by omega)]
      have e2 : ¬ (200 : Int) < pn := by omega
      clear h1 h2
      go_enter Tryz.func30, Tryz.ntmps30
      go_wp2_with fail
      go_ret
      exact ⟨rfl, rfl⟩

theorem pair_one1 (a b : Int) : ∀ u ∈ [Value.int .i64 a, .int .i64 b], u.oneCell' = true := by
  intro u hu
  simp only [List.mem_cons, List.not_mem_nil, or_false] at hu
  rcases hu with rfl | rfl <;> rfl

/-- The file in memory, behind n lines. -/
def RdAt (w0 w : World) (HA : Nat) (d : Rd) (n : Nat) : Prop := ∃ F rv pv xs, LQ w0 w HA F rv pv xs d (n : Nat) (flagA [] d.rules d.at_ : Nat)
theorem RdAt.below {w0 w : World} {HA n : Nat} {d : Rd} (h : RdAt w0 w HA d n) : Below w0.heap.size w0 w := by obtain ⟨F, rv, pv, xs, h⟩ := h; exact h.below
theorem RdAt.keep {w0 w w' : World} {HA n : Nat} {d : Rd} (h : RdAt w0 w HA d n) (hb : Below w.heap.size w w') : RdAt w0 w' HA d n := by obtain ⟨F, rv, pv, xs, h⟩ := h; exact ⟨F, rv, pv, xs, h.keep hb⟩
theorem box66 {w w' : World} {q : Nat} {a b c d e f : Value} {t : TypeId} (h : w.heap[q]? = some (.cells #[a, b, c, d, e, f] t (0, 0))) (hb : Below w.heap.size w w') :
    w'.cell? ⟨q, 0, none⟩ = some a ∧ w'.cell? ⟨q, 1, none⟩ = some b ∧ w'.cell? ⟨q, 2, none⟩ = some c ∧ w'.cell? ⟨q, 3, none⟩ = some d ∧ w'.cell? ⟨q, 4, none⟩ = some e ∧ w'.cell? ⟨q, 5, none⟩ = some f := by
  have h1 := (hb.block q (Array.getElem?_eq_some_iff.1 h).1).trans h
  refine ⟨?_, ?_, ?_, ?_, ?_, ?_⟩ <;> simp [World.cell?, h1]

set_option maxRecDepth 100000 in
set_option maxHeartbeats 2000000 in
theorem wread_any (w0 w : World) (HA : Nat) (d : Rd) (n : Nat) (s : ByteArray) (h : RdAt w0 w HA d n) (ha : AtsOk d) (hd : d.rules.length ≤ 100000) (hd' : d.pairs.length ≤ 100000) (hn : n ≤ 1000000000) (hs : s.size ≤ 1000000000)
    (hT : Lib.Utf8Tabs 1 2 w0) :
    Calls Tryz.prog 12 #[.pointer (some ⟨HA, 0, none⟩), .string s] w fun e w' => e = .returned (.bool (!bigB (stepA d (n + 1) s.data.toList))) ∧ RdAt w0 w' HA (stepA d (n + 1) s.data.toList) (n + 1) := by
  obtain ⟨F, rv, pv, xs, h⟩ := h
  obtain ⟨m, hm⟩ : ∃ m : Int, m = (flagA [] d.rules d.at_ : Nat) := ⟨_, rfl⟩
  rw [← hm] at h
  have HM := Lib.hid hm
  have hL1 := h.lines ((n : Int) + 1)
  obtain ⟨W1, hW1⟩ : ∃ W1, W1 = w.setCell ⟨HA, 2, none⟩ (.int .i64 ((n : Int) + 1)) := ⟨_, rfl⟩
  have HW1 := Lib.hid hW1
  rw [← hW1] at hL1
  obtain ⟨x0, x1, x2, x3, x4, fz⟩ := h.boxc
  have HL1 := Lib.hid hL1
  have CR := Lib.hid (rpar_new W1 s hs (tabs_below hT hL1.below))
  obtain ⟨o, ho⟩ : ∃ o, o = parseR s := ⟨_, rfl⟩
  rw [← ho] at CR
  have HO := Lib.hid ho
  have CP := Lib.hid (fun wx (hb : Below W1.heap.size W1 wx) => by
    have hq := hL1.keep hb
    obtain ⟨RA, cR, RB, cR', e1, e2, -, hP⟩ := hq.forms
    have hc := hq.boxc.2.1
    rw [e2] at hc
    exact wpair_any wx HA _ d.pairs s hc hq.hi hP hs (tabs_below hT hq.below))
  obtain ⟨po, hpo⟩ : ∃ o, o = pairL d.pairs s.data.toList := ⟨_, rfl⟩
  rw [← hpo] at CP
  have HPO := Lib.hid hpo
  obtain ⟨ds, hds⟩ : ∃ x, x = stepA d (n + 1) s.data.toList := ⟨_, rfl⟩
  rw [← hds]
  have HDS := Lib.hid hds
  clear h hm hL1 ho hpo hds
  go_enter Tryz.func12, Tryz.ntmps12
  go_upto_region 2 with fail
  rw [← HW1.out]
  clear hW1 x0 x1 x2 x3 x4 fz
  go_wp2_with (go_at_call 26; refine CR.out.mono ?_)
  rintro e w2 ⟨v2, rfl, ⟨D, dc, rfl, hi2⟩, hb2⟩
  obtain ⟨r, hr⟩ : ∃ r, r = o.getD ru0 := ⟨_, rfl⟩
  rw [← hr] at hi2 ⊢
  have HR := Lib.hid hr
  have HI2 := Lib.hid hi2
  have HB2 := Lib.hid hb2
  obtain ⟨dl, hdl⟩ : ∃ l, l = r.cond.length := ⟨_, rfl⟩
  have HDL := Lib.hid hdl
  rw [← hdl]
  obtain ⟨isR, hisR⟩ : ∃ b, b = o.isSome := ⟨_, rfl⟩
  rw [← hisR]
  have HISR := Lib.hid hisR
  have hb3 := hb2.alloc hb2.size (.cells #[.bool r.pre, .int .i64 r.flag, .bool r.cross, .string r.strip, .string r.add, .slice D dl dc] 36)
  have HB3 := Lib.hid hb3
  have HBX := Lib.hid (World.alloc_heap_new w2 (.cells #[.bool r.pre, .int .i64 r.flag, .bool r.cross, .string r.strip, .string r.add, .slice D dl dc] 36))
  clear CR hr hdl hisR hi2 hb2 hb3
  obtain ⟨rp, rf, rc, rs, ra, rl⟩ := r
  dsimp only at HI2 HDL HB3 HBX
  dsimp only
  go_wp2_with (go_at_call 27; refine (CP.out _ HB3.out).mono ?_)
  rintro e w4 ⟨hpe, hb4⟩
  unfold PairE at hpe
  subst hpe
  obtain ⟨P1, hP1⟩ : ∃ a, a = (po.getD (0, 0)).1 := ⟨_, rfl⟩
  obtain ⟨P2, hP2⟩ : ∃ a, a = (po.getD (0, 0)).2 := ⟨_, rfl⟩
  obtain ⟨isP, hisP⟩ : ∃ b, b = po.isSome := ⟨_, rfl⟩
  rw [← hP1, ← hP2, ← hisP]
  have HP := Lib.hid (And.intro hP1 (And.intro hP2 hisP))
  have hb5 := hb4.alloc hb4.size (.cells #[.int .i64 P1, .int .i64 P2] 48)
  have HB5 := Lib.hid hb5
  clear hP1 hP2 hisP hb4 hb5 CP
  go_upto_region 4 with fail
  obtain ⟨wX, hwX⟩ : ∃ wX, wX = w4.alloc (.cells #[.int .i64 P1, .int .i64 P2] 48) := ⟨_, rfl⟩
  rw [← hwX] at HB5 ⊢
  have HPX := Lib.hid (show wX.heap[w4.heap.size]? = some (.cells #[.int .i64 P1, .int .i64 P2] 48 (0, 0)) from hwX ▸ World.alloc_heap_new w4 _)
  have hbX : Below W1.heap.size W1 wX := HB3.out.trans (HB5.out.mono HB3.out.size)
  have hqX := HL1.out.wide hbX
  have hb2X : Below w2.heap.size w2 wX := ((Below.refl w2.heap.size w2).alloc (Nat.le_refl _) (.cells #[.bool rp, .int .i64 rf, .bool rc, .string rs, .string ra, .slice D dl dc] 36)).trans (HB5.out.mono (by rw [World.size_alloc]; omega))
  have hiX : ItemsIn (fun b => F b ∨ (W1.heap.size ≤ b ∧ b < wX.heap.size)) wX (.slice D rl.length dc) rl :=
    ((HI2.out.isIn.still hb2X.size fun b _ hlt => hb2X.block b hlt).mono fun b hb => .inr ⟨hb.1, Nat.lt_of_lt_of_le hb.2 hb2X.size⟩)
  have HQ := Lib.hid hqX
  have HI := Lib.hid hiX
  have HRX := Lib.hid (box66 HBX.out HB5.out)
  obtain ⟨qr, hqr⟩ : ∃ q, q = w2.heap.size := ⟨_, rfl⟩
  obtain ⟨qp, hqp⟩ : ∃ q, q = w4.heap.size := ⟨_, rfl⟩
  rw [← hqr] at HRX ⊢
  rw [← hqp] at HPX ⊢
  obtain ⟨F', hF'⟩ : ∃ F' : Nat → Prop, F' = fun b => F b ∨ (W1.heap.size ≤ b ∧ b < wX.heap.size) := ⟨_, rfl⟩
  rw [← hF'] at HQ HI
  clear hwX hbX hqX hb2X hiX hqr hqp hF' HB5 HBX HB3 HI2 HB2 HL1 HW1
  have hsd : (⟨s.data.toList.toArray⟩ : ByteArray) = s := by cases s; simp
  cases o with
  | some r' =>
    obtain rfl : isR = true := HISR.out
    have HST := Lib.hid (show ds = { d with rules := d.rules ++ [⟨rp, rf, rc, rs, ra, rl⟩], at_ := d.at_ ++ [n + 1] } from HDS.out.trans (stepA_rule1 (by rw [hsd, ← HO.out, HR.out]; rfl)))
    have CA := Lib.hid (wadd_any w0 wX HA F' rv pv xs d ((n : Int) + 1) m ⟨rp, rf, rc, rs, ra, rl⟩ D dc (n + 1) HQ.out HM.out ha (by omega) hd HI.out)
    dsimp only at CA
    rw [← HDL.out] at CA
    obtain ⟨c0, c1, c2, c3, c4, c5⟩ := HRX.out
    clear hsd HPX
    go_wp2_with (go_at_call 28; refine CA.out.mono ?_)
    rintro e w5 ⟨rfl, rv', xs', hq5⟩
    have HQ5 := Lib.hid (show LQ w0 w5 HA F' rv' pv xs' ds ((n : Int) + 1) (flagA [] ds.rules ds.at_ : Nat) by rw [HST.out]; exact hq5)
    have CB := Lib.hid (wbig_any w0 w5 HA F' rv' pv xs' ds _ _ HQ5.out)
    clear hq5 CA c0 c1 c2 c3 c4 c5
    go_wp2_with (go_at_call 30; refine CB.out.mono ?_; rintro e w6 ⟨rfl, rfl⟩)
    go_ret
    exact ⟨rfl, F', rv', pv, xs', by have := HQ5.out; rwa [show ((n : Int) + 1) = ((n + 1 : Nat) : Int) by omega] at this⟩
  | none =>
    obtain rfl : isR = false := HISR.out
    have hnr : parseR ⟨s.data.toList.toArray⟩ = none := by rw [hsd]; exact HO.out.symm
    clear hsd HRX
    cases po with
    | some p =>
      obtain ⟨g, t⟩ := p
      obtain ⟨rfl, rfl, rfl⟩ := HP.out
      have HST := Lib.hid (show ds = { d with pairs := d.pairs ++ [(P1, P2)] } from HDS.out.trans (stepA_pair1 HPO.out.symm))
      obtain ⟨i1, hi1, hz10, hz11, hz12⟩ := info_parts Tryz.infosL48
      obtain ⟨x0, x1, x2, x3, x4, fz⟩ := HQ.out.boxc
      obtain ⟨RA, cR, RB, cR', rfl, rfl, -, -⟩ := HQ.out.forms
      obtain ⟨pn, hpn⟩ : ∃ n, n = d.pairs.length := ⟨_, rfl⟩
      obtain ⟨rn, hrn⟩ : ∃ n, n = d.rules.length := ⟨_, rfl⟩
      have hown := HQ.out.prow
      rw [← hpn] at hown x1 hd'
      have HPN := Lib.hid (And.intro hpn hrn)
      have m0 : wX.cell? ⟨qp, 0, none⟩ = some (.int .i64 P1) := by simp [World.cell?, HPX.out]
      have m1 : wX.cell? ⟨qp, 1, none⟩ = some (.int .i64 P2) := by simp [World.cell?, HPX.out]
      have HW := Lib.hid (And.intro HQ.out hown)
      have HHI := Lib.hid HQ.out.hi
      have h1c := pair_one1 P1 P2
      clear hpn hrn hown x0 x2 x3 x4 fz hnr
      have hgo : ∀ (w4 : World), ((wX.alloc (.cells #[.int .i64 P1, .int .i64 P2] 48)).drew).grownBy w4 (Value.slice RB pn cR').ownBlock → w4.heap[HA]? = some (.cells #[.slice RA d.rules.length cR, .slice RB d.pairs.length cR', .int .i64 ((n : Int) + 1), .int .i64 (d.bad : Nat), .int .i64 m] 41 (0, 0)) := fun w4 hg => by
        have hlt : HA < wX.heap.size := HW.out.1.hi
        have hsz : ((wX.alloc (.cells #[.int .i64 P1, .int .i64 P2] 48)).drew).heap.size = wX.heap.size + 1 := World.size_alloc _ _
        refine (hg.block HA (by omega) (fun e => ?_)).trans ((Below.heap_alloc wX _ _ hlt).trans HW.out.1.box)
        have := (HW.out.2.lt HA e.symm).1
        omega
      have HGO := Lib.hid hgo
      clear hgo
      have y1 : (wX.alloc (.cells #[.int .i64 P1, .int .i64 P2] 48)).cell? ⟨HA, 1, none⟩ = some (.slice RB pn cR') :=
        (((Below.refl wX.heap.size wX).alloc (Nat.le_refl _) _).cell (p := ⟨HA, 1, none⟩) (World.block_lt_of_cell? wX _ x1)).trans x1
      go_upto_region 7 with fail
      go_region_law ((refine step_append_lies _ (by rfl) _ _ _ (by rfl) (HA + 1) 48 i1 _ 2 16 Tryz.underlying23 hi1 hz10 hz11 hz12 rfl (by omega) (.slice RB pn cR') pn (pCells d.pairs) (by rfl) ((HW.out.2.alloc _).drew) ⟨wX.heap.size, 0, none⟩ 1 1 [.int .i64 P1, .int .i64 P2] (by rfl) (by rfl) (World.news_of_block (cs := #[.int .i64 P1, .int .i64 P2]) (t := 48) (fr := (0, 0)) (World.alloc_heap_new wX _)) h1c (by omega) (by unfold maxLen; omega) (by omega) (by have := HHI.out; simp; omega) (wX.heap.size + 1) (by simp) ?_; intro gg cap4 w4 hown4 hgrow4 hat4 hlt4; have m4 := (show w4.cell? ⟨HA, 1, none⟩ = some (.slice RB pn cR') by simp [World.cell?, HGO.out _ hgrow4, HPN.out.1]); have f4 := (show w4.frozen? ⟨HA, 1, none⟩ = false by simp [World.frozen?, HGO.out _ hgrow4])))
      all_goals
        obtain rfl : pn = d.pairs.length := HPN.out.1
        have hbK : Below wX.heap.size wX ((wX.alloc (.cells #[.int .i64 P1, .int .i64 P2] 48)).drew) := ((Below.refl _ _).alloc (Nat.le_refl _) _).drew
        have hsz : ((wX.alloc (.cells #[.int .i64 P1, .int .i64 P2] 48)).drew).heap.size = wX.heap.size + 1 := World.size_alloc _ _
        have hF := (HW.out.1.keep hbK).pair (p := (P1, P2)) hown4 hgrow4 (hat4.imp (fun e => e.symm) fun e g hg => by
          simp only [Value.ownBlock, Option.some.injEq] at hg
          omega)
        obtain ⟨w5, hw5⟩ : ∃ w5, w5 = w4.setCell ⟨HA, 1, none⟩ (.slice (some ⟨gg, 0, none⟩) (d.pairs.length + 1) cap4) := ⟨_, rfl⟩
        rw [← hw5] at hF ⊢
        rw [HM.out] at hF
        have HQ5 := Lib.hid (show LQ w0 w5 HA F' (.slice RA d.rules.length cR) (.slice (some ⟨gg, 0, none⟩) (d.pairs.length + 1) cap4) xs ds ((n : Int) + 1) (flagA [] ds.rules ds.at_ : Nat) by rw [HST.out]; exact hF)
        have CB := Lib.hid (wbig_any w0 w5 HA F' _ _ xs ds _ _ HQ5.out)
        clear hF hw5 hown4 hgrow4 hat4 hlt4 m4 f4 hbK hsz m0 m1 y1 x1
        go_wp2_with (go_at_call 30; refine CB.out.mono ?_; rintro e w6 ⟨rfl, rfl⟩)
        go_ret
        exact ⟨rfl, F', _, _, xs, by have := HQ5.out; rwa [show ((n : Int) + 1) = ((n + 1 : Nat) : Int) by omega] at this⟩
    | none =>
      obtain ⟨-, -, rfl⟩ := HP.out
      have hst := HDS.out.trans (stepA_none1 hnr HPO.out.symm)
      have htl : s.toList = s.data.toList := ByteArray.toList_eq s
      clear hnr HPX
      by_cases h0 : s.data.toList = []
      · rw [if_pos (.inl h0)] at hst
        have HQ5 := Lib.hid (show LQ w0 wX HA F' rv pv xs ds ((n : Int) + 1) (flagA [] ds.rules ds.at_ : Nat) by rw [hst, ← HM.out]; exact HQ.out)
        have CB := Lib.hid (wbig_any w0 wX HA F' _ _ xs ds _ _ HQ5.out)
        have hnb : s.toList.isEmpty = true := by rw [htl, h0]; rfl
        clear hst htl h0
        go_wp2_with (go_at_call 30; refine CB.out.mono ?_; rintro e w6 ⟨rfl, rfl⟩)
        go_ret
        exact ⟨rfl, F', _, _, xs, by have := HQ5.out; rwa [show ((n : Int) + 1) = ((n + 1 : Nat) : Int) by omega] at this⟩
      · have hnb : s.toList.isEmpty = false := by rw [htl, List.isEmpty_eq_false_iff]; exact h0
        have CH := Tryz.strings_HasPrefix s ⟨#[35]⟩
        have hhp : Lib.hasPrefix s.data.toList (⟨#[35]⟩ : ByteArray).data.toList = decide (s.data.toList.head? = some 35) := by
          show List.isPrefixOf [35] s.data.toList = _
          cases hl : s.data.toList with
          | nil => rfl
          | cons b t =>
            show (35 == b && List.isPrefixOf [] t) = _
            rw [List.isPrefixOf_nil_left, Bool.and_true, List.head?_cons]
            by_cases hb : b = 35
            · subst hb; rfl
            · rw [decide_eq_false (by simpa using hb)]
              simpa using fun e => hb e.symm
        rw [hhp] at CH
        by_cases h35 : s.data.toList.head? = some 35
        · rw [if_pos (.inr h35)] at hst
          rw [decide_eq_true h35] at CH
          have CH := Lib.hid CH
          have HQ5 := Lib.hid (show LQ w0 wX HA F' rv pv xs ds ((n : Int) + 1) (flagA [] ds.rules ds.at_ : Nat) by rw [hst, ← HM.out]; exact HQ.out)
          have CB := Lib.hid (wbig_any w0 wX HA F' _ _ xs ds _ _ HQ5.out)
          clear hst htl h0 h35 hhp
          go_wp2_with (first
            | (go_at_call 29; refine (CH.out _).mono ?_; rintro e w6 ⟨rfl, rfl⟩)
            | (go_at_call 30; refine CB.out.mono ?_; rintro e w6 ⟨rfl, rfl⟩))
          go_ret
          exact ⟨rfl, F', _, _, xs, by have := HQ5.out; rwa [show ((n : Int) + 1) = ((n + 1 : Nat) : Int) by omega] at this⟩
        · rw [if_neg (fun h => h.elim h0 h35)] at hst
          rw [decide_eq_false h35] at CH
          have CH := Lib.hid CH
          obtain ⟨x0, x1, x2, x3, x4, fz⟩ := HQ.out.boxc
          by_cases hbd : d.bad = 0
          · rw [if_pos hbd] at hst
            have hB := HQ.out.bad (n + 1)
            rw [show ((n + 1 : Nat) : Int) = (n : Int) + 1 by omega] at hB
            obtain ⟨w5, hw5⟩ : ∃ w5, w5 = wX.setCell ⟨HA, 3, none⟩ (.int .i64 ((n : Int) + 1)) := ⟨_, rfl⟩
            rw [← hw5] at hB
            have HW5 := Lib.hid hw5
            have HQ5 := Lib.hid (show LQ w0 w5 HA F' rv pv xs ds ((n : Int) + 1) (flagA [] ds.rules ds.at_ : Nat) by rw [hst, ← HM.out]; exact hB)
            have CB := Lib.hid (wbig_any w0 w5 HA F' _ _ xs ds _ _ HQ5.out)
            have hb1 : ((d.bad : Nat) : Int) = 0 := by omega
            rw [hb1] at x3
            clear hst htl h0 h35 hhp hB hw5 hb1 hbd x0 x1 x4
            go_wp2_with (first
              | (go_at_call 29; refine (CH.out _).mono ?_; rintro e w6 ⟨rfl, rfl⟩)
              | (go_at_call 30; rw [← HW5.out]; refine CB.out.mono ?_; rintro e w6 ⟨rfl, rfl⟩))
            go_ret
            exact ⟨rfl, F', _, _, xs, by have := HQ5.out; rwa [show ((n : Int) + 1) = ((n + 1 : Nat) : Int) by omega] at this⟩
          · rw [if_neg hbd] at hst
            have HQ5 := Lib.hid (show LQ w0 wX HA F' rv pv xs ds ((n : Int) + 1) (flagA [] ds.rules ds.at_ : Nat) by rw [hst, ← HM.out]; exact HQ.out)
            have CB := Lib.hid (wbig_any w0 wX HA F' _ _ xs ds _ _ HQ5.out)
            have hb1 : (((d.bad : Nat) : Int) == 0) = false := by simp; omega
            clear hst htl h0 h35 hhp hbd x0 x1 x4
            go_wp2_with (first
              | (go_at_call 29; refine (CH.out _).mono ?_; rintro e w6 ⟨rfl, rfl⟩)
              | (go_at_call 30; refine CB.out.mono ?_; rintro e w6 ⟨rfl, rfl⟩))
            go_ret
            exact ⟨rfl, F', _, _, xs, by have := HQ5.out; rwa [show ((n : Int) + 1) = ((n + 1 : Nat) : Int) by omega] at this⟩
end Go.Proofs.YteenleedonmkmaaGreatDoor
