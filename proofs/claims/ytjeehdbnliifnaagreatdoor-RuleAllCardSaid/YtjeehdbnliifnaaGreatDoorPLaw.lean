/- Stage 10's law RuleAll, out of what is asked of rule's calls. -/
import Derived.Test.YtjeehdbnliifnaaGreatDoorPCheck
import Derived.Test.YtjeehdbnliifnaaGreatDoorPBoth
import Derived.Test.YtjeehdbnliifnaaGreatDoorPFew
import Derived.Test.YtjeehdbnliifnaaGreatDoorQLawBack
namespace Go.Proofs.YtjeehdbnliifnaaGreatDoor
open Go Go.RowKit Go.Lib
variable {T : World → Prop}

/-- A rule that each call takes. -/
structure Ok3 (r : Ru) : Prop where
  few : FewR r
  f1 : -9223372036854775808 ≤ r.flag
  f2 : r.flag ≤ 9223372036854775807
theorem Ok3.mid {r : Ru} (h : Ok3 r) : MidR r := ⟨by have := h.few.items; omega, fun it hit => by have := h.few.sets it hit; omega, by have := h.few.strip; omega, by have := h.few.add; omega⟩
theorem parsed_ok {s : ByteArray} (hs : s.size ≤ 300) : Ok3 ((parseR s).getD ru0) := by
  cases hp : parseR s with
  | none => exact ⟨⟨by decide, by decide, by decide, by decide⟩, by decide, by decide⟩
  | some r =>
    obtain ⟨_, h2, h3, h4, h5, h6, _⟩ := parseR_back hp (by omega)
    exact ⟨fit_few h4 h5 h6, by show -9223372036854775808 ≤ r.flag; omega, by show r.flag ≤ _; omega⟩

set_option maxRecDepth 100000 in
set_option maxHeartbeats 8000000 in
theorem all_law (S : SaysR T) (w : World) (hT : T w) (s wd : ByteArray) (vp vr : Value) (p r : Ru) (hp : RuAt w vp p) (hr : RuAt w vr r) (hs : s.size ≤ 1000000000000000) (hw : wd.size ≤ 1000000000000000)
    (p1 : p.strip.size ≤ 1000000000000000) (p2 : p.add.size ≤ 1000000000000000) (r1 : r.strip.size ≤ 1000000000000000) (r2 : r.add.size ≤ 1000000000000000)
    (p3 : -9223372036854775808 ≤ p.flag) (p4 : p.flag ≤ 9223372036854775807) (r3 : -9223372036854775808 ≤ r.flag) (r4 : r.flag ≤ 9223372036854775807) :
    Calls Tryz.prog 3 #[.string s, vp, vr, .string wd] w fun e w' => e = .returned (.bool true) ∧ Below w.heap.size w w' := by
  have hp0 := hp
  have hr0 := hr
  obtain ⟨A, cap, rfl, -⟩ := hp
  obtain ⟨A', cap', rfl, -⟩ := hr
  obtain ⟨n, hn⟩ : ∃ n, n = p.cond.length := ⟨_, rfl⟩
  obtain ⟨n', hn'⟩ : ∃ n, n = r.cond.length := ⟨_, rfl⟩
  rw [← hn] at hp0 ⊢
  rw [← hn'] at hr0 ⊢
  obtain ⟨W0, hW0⟩ : ∃ W0, W0 = ((w.alloc (.cells #[.bool p.pre, .int .i64 p.flag, .bool p.cross, .string p.strip, .string p.add, .slice A n cap] 24)).alloc (.cells #[.bool r.pre, .int .i64 r.flag, .bool r.cross, .string r.strip, .string r.add, .slice A' n' cap'] 24)) := ⟨_, rfl⟩
  have hb0 : Below w.heap.size w W0 := by
    rw [hW0]
    exact ((Below.refl _ _).alloc (Nat.le_refl _) _).alloc (by rw [World.size_alloc]; omega) _
  have HS := Lib.hid S
  have HB := Lib.hid hb0
  have HT := Lib.hid (fun wx (hb : Below w.heap.size w wx) => S.kept w wx hT hb)
  have AW := Lib.hid (fun wx (hb : Below w.heap.size w wx) => awake_any S wx (S.kept w wx hT hb))
  have FP := Lib.hid (fun wx (hb : Below w.heap.size w wx) => rfew_any wx _ p (hp0.keep hb) p1 p2)
  have FR := Lib.hid (fun wx (hb : Below w.heap.size w wx) => rfew_any wx _ r (hr0.keep hb) r1 r2)
  have H0 := Lib.hid (And.intro hp0 hr0)
  have HF := Lib.hid (And.intro (And.intro p3 p4) (And.intro r3 r4))
  have BX := Lib.hid (show ∀ w1, Below W0.heap.size W0 w1 →
      (w1.cell? ⟨w.heap.size, 0, none⟩ = some (.bool p.pre) ∧ w1.cell? ⟨w.heap.size, 1, none⟩ = some (.int .i64 p.flag) ∧ w1.cell? ⟨w.heap.size, 2, none⟩ = some (.bool p.cross) ∧ w1.cell? ⟨w.heap.size, 3, none⟩ = some (.string p.strip) ∧ w1.cell? ⟨w.heap.size, 4, none⟩ = some (.string p.add) ∧ w1.cell? ⟨w.heap.size, 5, none⟩ = some (.slice A n cap)) ∧
      (w1.cell? ⟨w.heap.size + 1, 0, none⟩ = some (.bool r.pre) ∧ w1.cell? ⟨w.heap.size + 1, 1, none⟩ = some (.int .i64 r.flag) ∧ w1.cell? ⟨w.heap.size + 1, 2, none⟩ = some (.bool r.cross) ∧ w1.cell? ⟨w.heap.size + 1, 3, none⟩ = some (.string r.strip) ∧ w1.cell? ⟨w.heap.size + 1, 4, none⟩ = some (.string r.add) ∧ w1.cell? ⟨w.heap.size + 1, 5, none⟩ = some (.slice A' n' cap')) from fun w1 hb => by
    rw [hW0] at hb
    have h1 := box6 (w := w.alloc (.cells #[.bool p.pre, .int .i64 p.flag, .bool p.cross, .string p.strip, .string p.add, .slice A n cap] 24)) hb
    rw [World.size_alloc] at h1
    have hb0 : Below (w.alloc (.cells #[.bool p.pre, .int .i64 p.flag, .bool p.cross, .string p.strip, .string p.add, .slice A n cap] 24)).heap.size (w.alloc (.cells #[.bool p.pre, .int .i64 p.flag, .bool p.cross, .string p.strip, .string p.add, .slice A n cap] 24)) w1 :=
      ((Below.refl _ _).alloc (Nat.le_refl _) _).trans (hb.mono (by rw [World.size_alloc (w.alloc _)]; omega))
    exact ⟨box6 hb0, h1⟩)
  have HW0 := Lib.hid hW0
  have hszI : (300 : Int) < s.size ∨ ¬ (300 : Int) < s.size := Decidable.em _
  clear hp0 hr0 hT S hb0 hn hn' p1 p2 r1 r2 p3 p4 r3 r4
  go_enter Tryz.func3, Tryz.ntmps3
  go_upto_region 1 with fail
  rw [← hW0]
  obtain ⟨⟨x0, x1, x2, x3, x4, x5⟩, y0, y1, y2, y3, y4, y5⟩ := BX.out W0 (Below.refl _ _)
  clear hW0
  go_cut [40] (fun t wx => (t = .bool true ∨ (t = .bool false ∧ Hid (Few p ∧ Few r ∧ s.size ≤ 300 ∧ wd.size ≤ 100))) ∧ Hid (Below W0.heap.size W0 wx))
  case first =>
    rcases hszI with h300 | h300
    · go_wp2_with fail
      go_meet
      exact ⟨.inl rfl, Lib.hid (Below.refl _ _)⟩
    · go_wp2_with fail
      refine (FP.out _ HB.out).mono ?_
      rintro e w1 ⟨⟨b1, rfl, hf1⟩, hb1⟩
      have HF1 := Lib.hid hf1
      have B1 := Lib.hid (show Below W0.heap.size W0 w1 from hb1.mono (Nat.le_refl _))
      clear x0 x1 x2 x3 x4 x5 y0 y1 y2 y3 y4 y5 hf1
      obtain ⟨⟨x0, x1, x2, x3, x4, x5⟩, y0, y1, y2, y3, y4, y5⟩ := BX.out w1 B1.out
      clear hb1
      cases b1 with
      | false =>
        go_wp2_with fail
        go_meet
        exact ⟨.inl rfl, B1⟩
      | true =>
        go_wp2_with fail
        refine (FR.out _ (HB.out.trans (B1.out.mono HB.out.size))).mono ?_
        rintro e w2 ⟨⟨b2, rfl, hf2⟩, hb2⟩
        have HF2 := Lib.hid hf2
        have B2 := Lib.hid (B1.out.trans (hb2.mono B1.out.size))
        clear hf2 hb2
        cases b2 with
        | false =>
          go_wp2_with fail
          go_meet
          exact ⟨.inl rfl, B2⟩
        | true =>
          by_cases h100 : 100 < wd.size
          · have h100I : (100 : Int) < wd.size := by omega
            clear h100
            go_wp2_with fail
            go_meet
            exact ⟨.inl rfl, B2⟩
          · have h100I : ¬ (100 : Int) < wd.size := by omega
            have HN := Lib.hid (show Few p ∧ Few r ∧ s.size ≤ 300 ∧ wd.size ≤ 100 from ⟨HF1.out (by simp), HF2.out (by simp), by omega, by omega⟩)
            clear h100
            go_wp2_with fail
            go_meet
            exact ⟨.inr ⟨by rw [show decide ((100 : Int) < wd.size) = false from decide_eq_false (by omega)], HN⟩, B2⟩
  case rest =>
    obtain ⟨ht, HBW⟩ := hcut
    have HBw := Lib.hid (HB.out.trans (HBW.out.mono HB.out.size))
    clear x0 x1 x2 x3 x4 x5 y0 y1 y2 y3 y4 y5
    rcases ht with rfl | ⟨rfl, HN⟩
    · go_wp2_with fail
      refine (AW.out _ HBw.out).mono ?_
      rintro e w2 ⟨rfl, hb2⟩
      have H2 := Lib.hid (HBw.out.trans (hb2.mono HBw.out.size))
      clear hb2
      go_wp2_with fail
      go_ret
      exact ⟨rfl, H2.out⟩
    · have HPA := Lib.hid (HS.out.parse _ s (HT.out _ HBw.out) (by have := HN.out.2.2.1; omega))
      obtain ⟨z, hz⟩ : ∃ z, z = (parseR s).getD ru0 := ⟨_, rfl⟩
      have hzok := parsed_ok (s := s) HN.out.2.2.1
      obtain ⟨zb, hzb⟩ : ∃ b, b = (parseR s).isSome := ⟨_, rfl⟩
      rw [← hz, ← hzb] at HPA
      rw [← hz] at hzok
      have HZ := Lib.hid hzok
      have HPR := Lib.hid (fun wx => rparse10_any wx s (by have := HN.out.2.2.1; omega))
      have HPR2 := Lib.hid (show ∀ wx, Calls Tryz.prog 7 #[.string s] wx fun e w' => ∃ v, e = .returned (.tuple #[v, .bool zb]) ∧ RuAt w' v z ∧ Below wx.heap.size wx w' from fun wx => by rw [hz, hzb]; exact HPR.out wx)
      clear hz hzb hzok HPR hszI
      go_wp2_with fail
      refine HPA.out.mono ?_
      rintro e w3 ⟨v3, rfl, hv3, hb3⟩
      have hv30 := hv3
      obtain ⟨D, dc, rfl, -⟩ := hv3
      obtain ⟨dn, hdn⟩ : ∃ d, d = z.cond.length := ⟨_, rfl⟩
      rw [← hdn] at hv30 ⊢
      have hba3 := (Below.refl w3.heap.size w3).alloc (Nat.le_refl _) (.cells #[.bool z.pre, .int .i64 z.flag, .bool z.cross, .string z.strip, .string z.add, .slice D dn dc] 24)
      have B3 := Lib.hid (HBW.out.trans (hb3.mono HBW.out.size))
      have HV3 := Lib.hid (hv30.keep hba3)
      have B3a := Lib.hid (B3.out.trans (hba3.mono B3.out.size))
      have HDN := Lib.hid hdn
      clear hv30 hb3 hba3 HPA hdn
      go_wp2_with fail
      refine (HPR2.out _).mono ?_
      rintro e w4 ⟨v4, rfl, hv4, hb4⟩
      have hv40 := hv4
      obtain ⟨E, ec, rfl, -⟩ := hv4
      rw [← HDN.out] at hv40 ⊢
      have hba4 := (Below.refl w4.heap.size w4).alloc (Nat.le_refl _) (.cells #[.bool z.pre, .int .i64 z.flag, .bool z.cross, .string z.strip, .string z.add, .slice E dn ec] 24)
      have hbx3 := hb4.trans (hba4.mono hb4.size)
      have B4a := Lib.hid (B3a.out.trans (hbx3.mono B3a.out.size))
      have HV4 := Lib.hid (hv40.keep hba4)
      obtain ⟨a0, a1, a2, a3, a4, a5⟩ := box6 hbx3
      have SM := Lib.hid (rsame10_any _ _ _ z z (HV3.out.keep hbx3) HV4.out (by have := HZ.out.few.items; omega) (by have := HZ.out.few.items; omega) (fun it hit => by have := HZ.out.few.sets it hit; omega) (fun it hit => by have := HZ.out.few.sets it hit; omega))
      rw [decide_eq_true rfl] at SM
      have H4 := Lib.hid hb4
      have H4a := Lib.hid hba4
      clear hv40 hb4 hba4 hbx3 HPR2
      go_wp2_with fail
      refine SM.out.mono ?_
      rintro e w5 ⟨rfl, hb5⟩
      have hb45 := (B4a.out.trans (hb5.mono B4a.out.size))
      have B5 := Lib.hid hb45
      have hbz : ∀ wx, Below w5.heap.size w5 wx → (wx.cell? ⟨w4.heap.size, 0, none⟩ = some (.bool z.pre) ∧ wx.cell? ⟨w4.heap.size, 1, none⟩ = some (.int .i64 z.flag) ∧ wx.cell? ⟨w4.heap.size, 2, none⟩ = some (.bool z.cross) ∧ wx.cell? ⟨w4.heap.size, 3, none⟩ = some (.string z.strip) ∧ wx.cell? ⟨w4.heap.size, 4, none⟩ = some (.string z.add) ∧ wx.cell? ⟨w4.heap.size, 5, none⟩ = some (.slice E dn ec)) := fun wx hx => box6 (hb5.trans (hx.mono hb5.size))
      obtain ⟨a0, a1, a2, a3, a4, a5⟩ := hbz w5 (Below.refl _ _)
      obtain ⟨⟨x0, x1, x2, x3, x4, x5⟩, y0, y1, y2, y3, y4, y5⟩ := BX.out w5 B5.out
      have HV5 := Lib.hid (HV4.out.keep hb5)
      clear hb5 hb45 hbz SM HV3 HV4 H4 H4a B4a B3a B3
      go_wp2_with fail
      obtain ⟨w7, hw7⟩ : ∃ w7, w7 = (w5.alloc (.cells #[.bool p.pre, .int .i64 p.flag, .bool p.cross, .string p.strip, .string p.add, .slice A n cap, .bool r.pre, .int .i64 r.flag, .bool r.cross, .string r.strip, .string r.add, .slice A' n' cap', .bool z.pre, .int .i64 z.flag, .bool z.cross, .string z.strip, .string z.add, .slice E dn ec] 24)) := ⟨_, rfl⟩
      have hb7 : Below w5.heap.size w5 w7 := by rw [hw7]; exact (Below.refl _ _).alloc (Nat.le_refl _) _
      have hg7 : w7.heap[w5.heap.size]? = some (.cells #[.bool p.pre, .int .i64 p.flag, .bool p.cross, .string p.strip, .string p.add, .slice A n cap, .bool r.pre, .int .i64 r.flag, .bool r.cross, .string r.strip, .string r.add, .slice A' n' cap', .bool z.pre, .int .i64 z.flag, .bool z.cross, .string z.strip, .string z.add, .slice E dn ec] 24 (0, 0)) := by rw [hw7]; exact World.alloc_heap_new _ _
      have hl7 : w5.heap.size < w7.heap.size := (Array.getElem?_eq_some_iff.1 hg7).1
      have ELT := Lib.hid (show ∀ k : Nat, k < 3 → ∃ (q : Ru) (X : Option Addr) (xn xc : Nat), Ok3 q ∧ RuAt w7 (.agg #[.bool q.pre, .int .i64 q.flag, .bool q.cross, .string q.strip, .string q.add, .slice X xn xc]) q ∧ ∀ wx, Below w7.heap.size w7 wx →
          wx.cell? ⟨w5.heap.size, k * 6, none⟩ = some (.bool q.pre) ∧ wx.cell? ⟨w5.heap.size, k * 6 + 1, none⟩ = some (.int .i64 q.flag) ∧ wx.cell? ⟨w5.heap.size, k * 6 + 2, none⟩ = some (.bool q.cross) ∧ wx.cell? ⟨w5.heap.size, k * 6 + 3, none⟩ = some (.string q.strip) ∧ wx.cell? ⟨w5.heap.size, k * 6 + 4, none⟩ = some (.string q.add) ∧ wx.cell? ⟨w5.heap.size, k * 6 + 5, none⟩ = some (.slice X xn xc) from fun k hk => by
        have hcell : ∀ wx, Below w7.heap.size w7 wx → wx.heap[w5.heap.size]? = some (.cells #[.bool p.pre, .int .i64 p.flag, .bool p.cross, .string p.strip, .string p.add, .slice A n cap, .bool r.pre, .int .i64 r.flag, .bool r.cross, .string r.strip, .string r.add, .slice A' n' cap', .bool z.pre, .int .i64 z.flag, .bool z.cross, .string z.strip, .string z.add, .slice E dn ec] 24 (0, 0)) := fun wx hb => (hb.block _ hl7).trans hg7
        have hB7 := HB.out.trans ((B5.out.trans (hb7.mono B5.out.size)).mono HB.out.size)
        match k, hk with
        | 0, _ =>
          refine ⟨p, A, n, cap, ⟨HN.out.1.fewR, HF.out.1.1, HF.out.1.2⟩, H0.out.1.keep hB7, fun wx hb => ?_⟩
          have h := hcell wx hb
          refine ⟨?_, ?_, ?_, ?_, ?_, ?_⟩ <;> simp [World.cell?, h]
        | 1, _ =>
          refine ⟨r, A', n', cap', ⟨HN.out.2.1.fewR, HF.out.2.1, HF.out.2.2⟩, H0.out.2.keep hB7, fun wx hb => ?_⟩
          have h := hcell wx hb
          refine ⟨?_, ?_, ?_, ?_, ?_, ?_⟩ <;> simp [World.cell?, h]
        | 2, _ =>
          refine ⟨z, E, dn, ec, HZ.out, HV5.out.keep hb7, fun wx hb => ?_⟩
          have h := hcell wx hb
          refine ⟨?_, ?_, ?_, ?_, ?_, ?_⟩ <;> simp [World.cell?, h])
      have B7 := Lib.hid (B5.out.trans (hb7.mono B5.out.size))
      rw [← hw7]
      clear hw7 hb7 hg7 a0 a1 a2 a3 a4 a5 x0 x1 x2 x3 x4 x5 y0 y1 y2 y3 y4 y5 HV5
      go_loopg [14, 15, 16, 17, 18, 66] 3 (fun g _ _ _ _ _ i wr => ∃ k : Nat, k + g = 3 ∧ i = .int .i64 k ∧ Hid (Below w7.heap.size w7 wr))
      case atStart => exact ⟨0, by omega, rfl, Lib.hid (Below.refl _ _)⟩
      case round =>
        obtain ⟨k, hk, rfl, HR⟩ := hrel
        rcases Nat.eq_zero_or_pos gk with h0 | h0
        · have hk3 : k = 3 := by omega
          subst hk3
          have BR := Lib.hid (B7.out.trans (HR.out.mono B7.out.size))
          have BW := Lib.hid (HB.out.trans (BR.out.mono HB.out.size))
          obtain ⟨⟨x0, x1, x2, x3, x4, x5⟩, y0, y1, y2, y3, y4, y5⟩ := BX.out wr BR.out
          have C1 := Lib.hid (HS.out.both wr _ _ p r wd (HT.out _ BW.out) (H0.out.1.keep BW.out) HN.out.1.fewR (H0.out.2.keep BW.out) HN.out.2.1.fewR (by have := HN.out.2.2.2; omega))
          obtain ⟨R, hR⟩ : ∃ R, R = bothR p r wd := ⟨_, rfl⟩
          rw [← hR] at C1
          obtain ⟨ob, hob⟩ : ∃ b, b = okB R := ⟨_, rfl⟩
          rw [← hob] at C1
          have HRR := Lib.hid (And.intro hR hob)
          clear hR hob
          go_wp2_with fail
          refine C1.out.mono ?_
          rintro e wa ⟨rfl, hba⟩
          have BA := Lib.hid (BR.out.trans (hba.mono BR.out.size))
          have BWa := Lib.hid (HB.out.trans (BA.out.mono HB.out.size))
          clear x0 x1 x2 x3 x4 x5 y0 y1 y2 y3 y4 y5 hba C1
          obtain ⟨⟨x0, x1, x2, x3, x4, x5⟩, y0, y1, y2, y3, y4, y5⟩ := BX.out wa BA.out
          have C2 := Lib.hid (show Calls Tryz.prog 16 #[.agg #[.bool p.pre, .int .i64 p.flag, .bool p.cross, .string p.strip, .string p.add, .slice A n cap], .agg #[.bool r.pre, .int .i64 r.flag, .bool r.cross, .string r.strip, .string r.add, .slice A' n' cap'], .string wd] wa fun e w' => e = .returned (.tuple #[.string R, .bool ob]) ∧ Below wa.heap.size wa w' from by
            have := rboth_any wa _ _ p r wd (H0.out.1.keep BWa.out) (Ok3.mid ⟨HN.out.1.fewR, HF.out.1.1, HF.out.1.2⟩) (H0.out.2.keep BWa.out) (Ok3.mid ⟨HN.out.2.1.fewR, HF.out.2.1, HF.out.2.2⟩) (by have := HN.out.2.2.2; omega)
            refine this.mono fun e w' ⟨he, hb⟩ => ⟨?_, hb⟩
            rw [HRR.out.2, HRR.out.1]
            exact he)
          go_wp2_with fail
          refine C2.out.mono ?_
          rintro e wb ⟨rfl, hbb⟩
          have BWb := Lib.hid (BWa.out.trans (hbb.mono BWa.out.size))
          clear x0 x1 x2 x3 x4 x5 y0 y1 y2 y3 y4 y5 hbb C2
          have eqR : (R.toList == R.toList) = true := by simp
          have eqb : (ob == ob) = true := by simp
          go_wp2_with fail
          refine (AW.out _ BWb.out).mono ?_
          rintro e wc ⟨rfl, hbc⟩
          have BWc := Lib.hid (BWb.out.trans (hbc.mono BWb.out.size))
          clear hbc
          go_wp2_with fail
          go_ret
          exact ⟨rfl, BWc.out⟩
        · have hk3 : k < 3 := by omega
          obtain ⟨q, X, xn, xc, hq, hqa, hcl⟩ := ELT.out k hk3
          obtain ⟨c0, c1, c2, c3, c4, c5⟩ := hcl wr HR.out
          have hk3i : (k : Int) < 3 := by omega
          have hk0 : (0 : Int) ≤ k := by omega
          have hgw : w5.heap.size < wr.heap.size := by
            have := HR.out.size
            have h1 := World.block_lt_of_cell? _ _ c0
            exact h1
          obtain ⟨W8, hW8⟩ : ∃ W8, W8 = wr.alloc (.cells #[.bool q.pre, .int .i64 q.flag, .bool q.cross, .string q.strip, .string q.add, .slice X xn xc] 24) := ⟨_, rfl⟩
          have hb8 : Below wr.heap.size wr W8 := by rw [hW8]; exact (Below.refl _ _).alloc (Nat.le_refl _) _
          have B8 := Lib.hid (HR.out.trans (hb8.mono HR.out.size))
          have BW8 := Lib.hid (HB.out.trans ((B7.out.trans (B8.out.mono B7.out.size)).mono HB.out.size))
          have HQ := Lib.hid (And.intro hq (hqa.keep B8.out))
          have hbq : ∀ wx, Below W8.heap.size W8 wx → (wx.cell? ⟨wr.heap.size, 0, none⟩ = some (.bool q.pre) ∧ wx.cell? ⟨wr.heap.size, 1, none⟩ = some (.int .i64 q.flag) ∧ wx.cell? ⟨wr.heap.size, 2, none⟩ = some (.bool q.cross) ∧ wx.cell? ⟨wr.heap.size, 3, none⟩ = some (.string q.strip) ∧ wx.cell? ⟨wr.heap.size, 4, none⟩ = some (.string q.add) ∧ wx.cell? ⟨wr.heap.size, 5, none⟩ = some (.slice X xn xc)) := fun wx hx => box6 (hW8 ▸ hx)
          have BQ := Lib.hid hbq
          have C1 := Lib.hid (HS.out.apply W8 _ q wd (HT.out _ BW8.out) HQ.out.2 hq.few (by have := HN.out.2.2.2; omega))
          obtain ⟨R, hR⟩ : ∃ R, R = applyR q wd := ⟨_, rfl⟩
          rw [← hR] at C1
          obtain ⟨ob, hob⟩ : ∃ b, b = okB R := ⟨_, rfl⟩
          rw [← hob] at C1
          have HRR := Lib.hid (And.intro hR hob)
          have HW8 := Lib.hid hW8
          clear hR hob hq hqa hcl hb8 hbq
          go_upto_region 10 with fail
          rw [← hW8]
          obtain ⟨x0, x1, x2, x3, x4, x5⟩ := BQ.out W8 (Below.refl _ _)
          clear hW8 c0 c1 c2 c3 c4 c5
          go_wp2_with fail
          refine C1.out.mono ?_
          rintro e wa ⟨rfl, hba⟩
          have BA := Lib.hid hba
          clear x0 x1 x2 x3 x4 x5 hba C1
          have BWa := Lib.hid (BW8.out.trans (BA.out.mono BW8.out.size))
          obtain ⟨x0, x1, x2, x3, x4, x5⟩ := BQ.out wa BA.out
          have C2 := Lib.hid (show Calls Tryz.prog 10 #[.agg #[.bool q.pre, .int .i64 q.flag, .bool q.cross, .string q.strip, .string q.add, .slice X xn xc], .string wd] wa fun e w' => e = .returned (.tuple #[.string R, .bool ob]) ∧ Below wa.heap.size wa w' from by
            have := rapply_any wa _ q wd (HQ.out.2.keep BA.out) HQ.out.1.mid (by have := HN.out.2.2.2; omega)
            refine this.mono fun e w' ⟨he, hb⟩ => ⟨?_, hb⟩
            rw [HRR.out.2, HRR.out.1]
            exact he)
          go_wp2_with fail
          refine C2.out.mono ?_
          rintro e wb ⟨rfl, hbb⟩
          have BB := Lib.hid (BA.out.trans (hbb.mono BA.out.size))
          clear x0 x1 x2 x3 x4 x5 hbb C2
          obtain ⟨TX, hTX⟩ : ∃ t, t = textR q := ⟨_, rfl⟩
          obtain ⟨OK, hOK⟩ : ∃ b, b = okB TX := ⟨_, rfl⟩
          have MKS := Lib.hid (show ∀ wx w', Below W8.heap.size W8 wx → Below wx.heap.size wx w' → ∀ P : Prop, P → P ∧ (w'.cell? ⟨wr.heap.size, 0, none⟩ = some (.bool q.pre) ∧ w'.cell? ⟨wr.heap.size, 1, none⟩ = some (.int .i64 q.flag) ∧ w'.cell? ⟨wr.heap.size, 2, none⟩ = some (.bool q.cross) ∧ w'.cell? ⟨wr.heap.size, 3, none⟩ = some (.string q.strip) ∧ w'.cell? ⟨wr.heap.size, 4, none⟩ = some (.string q.add) ∧ w'.cell? ⟨wr.heap.size, 5, none⟩ = some (.slice X xn xc) ∧ Hid (Below W8.heap.size W8 w')) from fun wx w' h1 h2 P hP => by
            have h3 := h1.trans (h2.mono h1.size)
            obtain ⟨z0, z1, z2, z3, z4, z5⟩ := BQ.out w' h3
            exact ⟨hP, z0, z1, z2, z3, z4, z5, Lib.hid h3⟩)
          have HTX := Lib.hid (And.intro hTX hOK)
          have D1 := Lib.hid (fun (wx : World) (hx : (wx.cell? ⟨wr.heap.size, 0, none⟩ = some (.bool q.pre) ∧ wx.cell? ⟨wr.heap.size, 1, none⟩ = some (.int .i64 q.flag) ∧ wx.cell? ⟨wr.heap.size, 2, none⟩ = some (.bool q.cross) ∧ wx.cell? ⟨wr.heap.size, 3, none⟩ = some (.string q.strip) ∧ wx.cell? ⟨wr.heap.size, 4, none⟩ = some (.string q.add) ∧ wx.cell? ⟨wr.heap.size, 5, none⟩ = some (.slice X xn xc) ∧ Hid (Below W8.heap.size W8 wx))) => (show Calls Tryz.prog 11 #[.agg #[.bool q.pre, .int .i64 q.flag, .bool q.cross, .string q.strip, .string q.add, .slice X xn xc]] wx fun e w' => e = .returned (.bool OK) ∧ (w'.cell? ⟨wr.heap.size, 0, none⟩ = some (.bool q.pre) ∧ w'.cell? ⟨wr.heap.size, 1, none⟩ = some (.int .i64 q.flag) ∧ w'.cell? ⟨wr.heap.size, 2, none⟩ = some (.bool q.cross) ∧ w'.cell? ⟨wr.heap.size, 3, none⟩ = some (.string q.strip) ∧ w'.cell? ⟨wr.heap.size, 4, none⟩ = some (.string q.add) ∧ w'.cell? ⟨wr.heap.size, 5, none⟩ = some (.slice X xn xc) ∧ Hid (Below W8.heap.size W8 w')) from
            (show Calls Tryz.prog 11 #[.agg #[.bool q.pre, .int .i64 q.flag, .bool q.cross, .string q.strip, .string q.add, .slice X xn xc]] wx fun e w' => e = .returned (.bool OK) ∧ Below wx.heap.size wx w' from by rw [hOK, hTX]; exact HS.out.check wx _ q (HT.out _ (BW8.out.trans (hx.2.2.2.2.2.2.out.mono BW8.out.size))) (HQ.out.2.keep hx.2.2.2.2.2.2.out) HQ.out.1.few).mono fun e w' ⟨he, hb⟩ => MKS.out wx w' hx.2.2.2.2.2.2.out hb _ he))
          have D2 := Lib.hid (fun (wx : World) (hx : (wx.cell? ⟨wr.heap.size, 0, none⟩ = some (.bool q.pre) ∧ wx.cell? ⟨wr.heap.size, 1, none⟩ = some (.int .i64 q.flag) ∧ wx.cell? ⟨wr.heap.size, 2, none⟩ = some (.bool q.cross) ∧ wx.cell? ⟨wr.heap.size, 3, none⟩ = some (.string q.strip) ∧ wx.cell? ⟨wr.heap.size, 4, none⟩ = some (.string q.add) ∧ wx.cell? ⟨wr.heap.size, 5, none⟩ = some (.slice X xn xc) ∧ Hid (Below W8.heap.size W8 wx))) => (show Calls Tryz.prog 12 #[.agg #[.bool q.pre, .int .i64 q.flag, .bool q.cross, .string q.strip, .string q.add, .slice X xn xc]] wx fun e w' => e = .returned (.bool OK) ∧ (w'.cell? ⟨wr.heap.size, 0, none⟩ = some (.bool q.pre) ∧ w'.cell? ⟨wr.heap.size, 1, none⟩ = some (.int .i64 q.flag) ∧ w'.cell? ⟨wr.heap.size, 2, none⟩ = some (.bool q.cross) ∧ w'.cell? ⟨wr.heap.size, 3, none⟩ = some (.string q.strip) ∧ w'.cell? ⟨wr.heap.size, 4, none⟩ = some (.string q.add) ∧ w'.cell? ⟨wr.heap.size, 5, none⟩ = some (.slice X xn xc) ∧ Hid (Below W8.heap.size W8 w')) from
            (show Calls Tryz.prog 12 #[.agg #[.bool q.pre, .int .i64 q.flag, .bool q.cross, .string q.strip, .string q.add, .slice X xn xc]] wx fun e w' => e = .returned (.bool OK) ∧ Below wx.heap.size wx w' from by rw [hOK, hTX]; exact rcheck10_any wx _ q (HQ.out.2.keep hx.2.2.2.2.2.2.out) HQ.out.1.few HQ.out.1.f1 HQ.out.1.f2).mono fun e w' ⟨he, hb⟩ => MKS.out wx w' hx.2.2.2.2.2.2.out hb _ he))
          have D3 := Lib.hid (fun (wx : World) (hx : (wx.cell? ⟨wr.heap.size, 0, none⟩ = some (.bool q.pre) ∧ wx.cell? ⟨wr.heap.size, 1, none⟩ = some (.int .i64 q.flag) ∧ wx.cell? ⟨wr.heap.size, 2, none⟩ = some (.bool q.cross) ∧ wx.cell? ⟨wr.heap.size, 3, none⟩ = some (.string q.strip) ∧ wx.cell? ⟨wr.heap.size, 4, none⟩ = some (.string q.add) ∧ wx.cell? ⟨wr.heap.size, 5, none⟩ = some (.slice X xn xc) ∧ Hid (Below W8.heap.size W8 wx))) => (show Calls Tryz.prog 13 #[.agg #[.bool q.pre, .int .i64 q.flag, .bool q.cross, .string q.strip, .string q.add, .slice X xn xc]] wx fun e w' => e = .returned (.string TX) ∧ (w'.cell? ⟨wr.heap.size, 0, none⟩ = some (.bool q.pre) ∧ w'.cell? ⟨wr.heap.size, 1, none⟩ = some (.int .i64 q.flag) ∧ w'.cell? ⟨wr.heap.size, 2, none⟩ = some (.bool q.cross) ∧ w'.cell? ⟨wr.heap.size, 3, none⟩ = some (.string q.strip) ∧ w'.cell? ⟨wr.heap.size, 4, none⟩ = some (.string q.add) ∧ w'.cell? ⟨wr.heap.size, 5, none⟩ = some (.slice X xn xc) ∧ Hid (Below W8.heap.size W8 w')) from
            (show Calls Tryz.prog 13 #[.agg #[.bool q.pre, .int .i64 q.flag, .bool q.cross, .string q.strip, .string q.add, .slice X xn xc]] wx fun e w' => e = .returned (.string TX) ∧ Below wx.heap.size wx w' from by rw [hTX]; exact HS.out.text wx _ q (HT.out _ (BW8.out.trans (hx.2.2.2.2.2.2.out.mono BW8.out.size))) (HQ.out.2.keep hx.2.2.2.2.2.2.out) HQ.out.1.few).mono fun e w' ⟨he, hb⟩ => MKS.out wx w' hx.2.2.2.2.2.2.out hb _ he))
          have D4 := Lib.hid (fun (wx : World) (hx : (wx.cell? ⟨wr.heap.size, 0, none⟩ = some (.bool q.pre) ∧ wx.cell? ⟨wr.heap.size, 1, none⟩ = some (.int .i64 q.flag) ∧ wx.cell? ⟨wr.heap.size, 2, none⟩ = some (.bool q.cross) ∧ wx.cell? ⟨wr.heap.size, 3, none⟩ = some (.string q.strip) ∧ wx.cell? ⟨wr.heap.size, 4, none⟩ = some (.string q.add) ∧ wx.cell? ⟨wr.heap.size, 5, none⟩ = some (.slice X xn xc) ∧ Hid (Below W8.heap.size W8 wx))) => (show Calls Tryz.prog 14 #[.agg #[.bool q.pre, .int .i64 q.flag, .bool q.cross, .string q.strip, .string q.add, .slice X xn xc]] wx fun e w' => e = .returned (.string TX) ∧ (w'.cell? ⟨wr.heap.size, 0, none⟩ = some (.bool q.pre) ∧ w'.cell? ⟨wr.heap.size, 1, none⟩ = some (.int .i64 q.flag) ∧ w'.cell? ⟨wr.heap.size, 2, none⟩ = some (.bool q.cross) ∧ w'.cell? ⟨wr.heap.size, 3, none⟩ = some (.string q.strip) ∧ w'.cell? ⟨wr.heap.size, 4, none⟩ = some (.string q.add) ∧ w'.cell? ⟨wr.heap.size, 5, none⟩ = some (.slice X xn xc) ∧ Hid (Below W8.heap.size W8 w')) from
            (show Calls Tryz.prog 14 #[.agg #[.bool q.pre, .int .i64 q.flag, .bool q.cross, .string q.strip, .string q.add, .slice X xn xc]] wx fun e w' => e = .returned (.string TX) ∧ Below wx.heap.size wx w' from by rw [hTX]; exact rtext10_any wx _ q (HQ.out.2.keep hx.2.2.2.2.2.2.out) HQ.out.1.few HQ.out.1.f1 HQ.out.1.f2).mono fun e w' ⟨he, hb⟩ => MKS.out wx w' hx.2.2.2.2.2.2.out hb _ he))
          have HS0 := Lib.hid (show (wb.drew.cell? ⟨wr.heap.size, 0, none⟩ = some (.bool q.pre) ∧ wb.drew.cell? ⟨wr.heap.size, 1, none⟩ = some (.int .i64 q.flag) ∧ wb.drew.cell? ⟨wr.heap.size, 2, none⟩ = some (.bool q.cross) ∧ wb.drew.cell? ⟨wr.heap.size, 3, none⟩ = some (.string q.strip) ∧ wb.drew.cell? ⟨wr.heap.size, 4, none⟩ = some (.string q.add) ∧ wb.drew.cell? ⟨wr.heap.size, 5, none⟩ = some (.slice X xn xc) ∧ Hid (Below W8.heap.size W8 wb.drew)) from by
            obtain ⟨z0, z1, z2, z3, z4, z5⟩ := BQ.out wb BB.out
            exact ⟨z0, z1, z2, z3, z4, z5, Lib.hid (show Below W8.heap.size W8 wb.drew from below_drewN BB.out 1)⟩)
          have u1 : (OK == OK) = true := by simp
          have u2 : (TX.toList == TX.toList) = true := by simp
          have u3 : (R.toList == R.toList) = true := by simp
          have u4 : (ob == ob) = true := by simp
          clear hTX hOK
          go_wp2_with fail
          go_region_held3 (fun wx => wx.cell? ⟨wr.heap.size, 0, none⟩ = some (.bool q.pre) ∧ wx.cell? ⟨wr.heap.size, 1, none⟩ = some (.int .i64 q.flag) ∧ wx.cell? ⟨wr.heap.size, 2, none⟩ = some (.bool q.cross) ∧ wx.cell? ⟨wr.heap.size, 3, none⟩ = some (.string q.strip) ∧ wx.cell? ⟨wr.heap.size, 4, none⟩ = some (.string q.add) ∧ wx.cell? ⟨wr.heap.size, 5, none⟩ = some (.slice X xn xc) ∧ Hid (Below W8.heap.size W8 wx))
            (first | exact HS0.out | assumption)
            (first
              | (go_at_call 11; refine (D1.out _ (by assumption)).mono ?_; rintro e w9 ⟨rfl, hs9⟩)
              | (go_at_call 12; refine (D2.out _ (by assumption)).mono ?_; rintro e w9 ⟨rfl, hs9⟩)
              | (go_at_call 13; refine (D3.out _ (by assumption)).mono ?_; rintro e w9 ⟨rfl, hs9⟩)
              | (go_at_call 14; refine (D4.out _ (by assumption)).mono ?_; rintro e w9 ⟨rfl, hs9⟩))
          have hs10 : Hid (Below W8.heap.size W8 w9) := by
            have hh : (w9.cell? ⟨wr.heap.size, 0, none⟩ = some (.bool q.pre) ∧ w9.cell? ⟨wr.heap.size, 1, none⟩ = some (.int .i64 q.flag) ∧ w9.cell? ⟨wr.heap.size, 2, none⟩ = some (.bool q.cross) ∧ w9.cell? ⟨wr.heap.size, 3, none⟩ = some (.string q.strip) ∧ w9.cell? ⟨wr.heap.size, 4, none⟩ = some (.string q.add) ∧ w9.cell? ⟨wr.heap.size, 5, none⟩ = some (.slice X xn xc) ∧ Hid (Below W8.heap.size W8 w9)) := by assumption
            exact hh.2.2.2.2.2.2
          go_wp2_with fail
          go_roundg (gk - 1)
          case measure => omega
          case rel => exact ⟨k + 1, by omega, by go_num, Lib.hid (B8.out.trans (hs10.out.mono B8.out.size))⟩
end Go.Proofs.YtjeehdbnliifnaaGreatDoor
