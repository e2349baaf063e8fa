/- The document's own tokens of a text, by contract: the walk. -/
import Derived.Test.YtmebboadadlahaaDoorSSeg
namespace Go.Proofs.YtmebboadadlahaaDoor
open Go Go.RowKit Go.Lib

theorem ucells3 : ∀ (us : List U3) (k : Nat) (u : U3), us[k]? = some u →
    (us.flatMap uCells)[k * 3]? = some (.int .i64 u.1) ∧ (us.flatMap uCells)[k * 3 + 1]? = some (.int .i64 u.2.1) ∧ (us.flatMap uCells)[k * 3 + 2]? = some (.int .i64 u.2.2)
  | [], k, u, h => by simp at h
  | x :: us, 0, u, h => by
    simp at h; subst h
    simp [uCells]
  | x :: us, k + 1, u, h => by
    have ih := ucells3 us k u (by simpa using h)
    have e : (x :: us).flatMap uCells = uCells x ++ us.flatMap uCells := rfl
    have hl : (uCells x).length = 3 := rfl
    rw [e]
    refine ⟨?_, ?_, ?_⟩
    · rw [List.getElem?_append_right (by omega), hl, show (k + 1) * 3 - 3 = k * 3 by omega]; exact ih.1
    · rw [List.getElem?_append_right (by omega), hl, show (k + 1) * 3 + 1 - 3 = k * 3 + 1 by omega]; exact ih.2.1
    · rw [List.getElem?_append_right (by omega), hl, show (k + 1) * 3 + 2 - 3 = k * 3 + 2 by omega]; exact ih.2.2
def kinds (kd : Int → Int) (us : List U3) : List Value := us.map fun u => .int .i64 (kd u.2.2)
theorem kinds_len (kd : Int → Int) (us : List U3) : (kinds kd us).length = us.length := by simp [kinds]
theorem kinds_snoc (kd : Int → Int) (us : List U3) (u : U3) : kinds kd (us ++ [u]) = kinds kd us ++ [.int .i64 (kd u.2.2)] := by simp [kinds]
theorem kinds_at {kd : Int → Int} {us : List U3} {i : Nat} {u : U3} (h : us[i]? = some u) : (kinds kd us)[i]? = some (.int .i64 (kd u.2.2)) := by simp [kinds, h]
theorem take_one {α : Type} {l : List α} {i : Nat} {x : α} (h : l[i]? = some x) : l.take (i + 1) = l.take i ++ [x] := by
  obtain ⟨hi, rfl⟩ := List.getElem?_eq_some_iff.1 h
  exact List.take_succ_eq_append_getElem hi

theorem kCells_to (ts : List Tok) (f t0 t1 : Nat) (w0 : Bool) : ((ts ++ [(f, t0, w0)]).flatMap kCells).set (ts.length * 3 + 1) (.int .i64 t1) = (ts ++ [(f, t1, w0)]).flatMap kCells := by
  have hl := kCells_len ts
  rw [List.flatMap_append, List.flatMap_append, List.set_append_right _ _ (by omega), hl, show ts.length * 3 + 1 - ts.length * 3 = 1 by omega]
  simp [kCells]
theorem kCells_word (ts : List Tok) (f t0 : Nat) (w0 w1 : Bool) : ((ts ++ [(f, t0, w0)]).flatMap kCells).set (ts.length * 3 + 2) (.bool w1) = (ts ++ [(f, t0, w1)]).flatMap kCells := by
  have hl := kCells_len ts
  rw [List.flatMap_append, List.flatMap_append, List.set_append_right _ _ (by omega), hl, show ts.length * 3 + 2 - ts.length * 3 = 2 by omega]
  simp [kCells]
/-- The last token of a row, its cells, and a store into one of them. -/
theorem Toks.last {wo wr : World} {v : Value} {ts : List Tok} {f t0 : Nat} {w0 : Bool} {n : Nat} (h : Toks wo wr v (ts ++ [(f, t0, w0)])) (hn : n = ts.length + 1) :
    ∃ g cap, v = .slice (some ⟨g, 0, none⟩) n cap ∧ wo.heap.size ≤ g ∧ n ≤ cap ∧ cap ≤ maxLen ∧ wr.cell? ⟨g, (n - 1) * 3 + 1, none⟩ = some (.int .i64 t0) ∧ wr.cell? ⟨g, (n - 1) * 3 + 2, none⟩ = some (.bool w0) ∧ ∀ j, wr.frozen? ⟨g, j, none⟩ = false := by
  have ho := h.1
  rw [List.length_append, List.length_singleton, ← hn] at ho
  obtain ⟨g, cap, rfl, hb, _, h1, h2, hc⟩ := own_open ho (by omega)
  obtain ⟨x0, x1, x2⟩ := kCells_at (ts ++ [(f, t0, w0)]) (n - 1) (f, t0, w0) (by rw [hn]; simp)
  exact ⟨g, cap, rfl, hb, h1, h2, hc _ _ x1, hc _ _ x2, own_frozen ho⟩
theorem Toks.to {wo wr : World} {g n cap : Nat} {ts : List Tok} {f t0 t1 : Nat} {w0 : Bool} (h : Toks wo wr (.slice (some ⟨g, 0, none⟩) n cap) (ts ++ [(f, t0, w0)])) (hn : n = ts.length + 1) (hg : wo.heap.size ≤ g) :
    Toks wo (wr.setCell ⟨g, (n - 1) * 3 + 1, none⟩ (.int .i64 t1)) (.slice (some ⟨g, 0, none⟩) n cap) (ts ++ [(f, t1, w0)]) := by
  have ho := h.1
  rw [List.length_append, List.length_singleton, ← hn] at ho
  have := own_set ho ((n - 1) * 3 + 1) (.int .i64 t1) (by omega)
  rw [show n - 1 = ts.length by omega, kCells_to] at this
  refine ⟨?_, h.2.setCell hg _⟩
  rw [List.length_append, List.length_singleton, ← hn, show n - 1 = ts.length by omega]
  exact this
theorem Toks.word {wo wr : World} {g n cap : Nat} {ts : List Tok} {f t0 : Nat} {w0 w1 : Bool} (h : Toks wo wr (.slice (some ⟨g, 0, none⟩) n cap) (ts ++ [(f, t0, w0)])) (hn : n = ts.length + 1) (hg : wo.heap.size ≤ g) :
    Toks wo (wr.setCell ⟨g, (n - 1) * 3 + 2, none⟩ (.bool w1)) (.slice (some ⟨g, 0, none⟩) n cap) (ts ++ [(f, t0, w1)]) := by
  have ho := h.1
  rw [List.length_append, List.length_singleton, ← hn] at ho
  have := own_set ho ((n - 1) * 3 + 2) (.bool w1) (by omega)
  rw [show n - 1 = ts.length by omega, kCells_word] at this
  refine ⟨?_, h.2.setCell hg _⟩
  rw [List.length_append, List.length_singleton, ← hn, show n - 1 = ts.length by omega]
  exact this
theorem Toks.drew {wo wr : World} {v : Value} {ts : List Tok} (h : Toks wo wr v ts) : Toks wo wr.drew v ts := ⟨h.1, h.2.os, h.2.tape, h.2.output, h.2.size, h.2.block⟩

theorem own_base {w : World} {B B' e size n : Nat} {v : Value} {xs : List Value} (h : w.ownsRow B' e size v n xs) (hb : B ≤ B') : w.ownsRow B e size v n xs := by
  refine ⟨h.1, ?_⟩
  rcases h.2 with h0 | ⟨g, cap, cur, hv, hg, rest⟩
  · exact .inl h0
  · exact .inr ⟨g, cap, cur, hv, Nat.le_trans hb hg, rest⟩

set_option maxRecDepth 100000 in
set_option maxHeartbeats 8000000 in
theorem rseg_some (v : Value) (rs : List Cls.R3) (s : ByteArray) (w : World) (ht : Cls.Tbl w v rs) (hs : s.size ≤ 1000000000000) (us : List U3) (hus : units 0 s.data.toList = us) (n : Nat) (hn : us.length = n) (h0 : 0 < n) :
    Calls Tryd.prog 11 #[v, .string s] w fun e w' => ∃ v', e = .returned v' ∧ w'.ownsRow w.heap.size 34 3 v' (segs (Cls.ofT rs) 0 none us).length ((segs (Cls.ofT rs) 0 none us).flatMap kCells) ∧ Below w.heap.size w w' := by
  obtain ⟨i3, hi3, hz30, hz31, hz32⟩ := info_parts Tryd.info3
  obtain ⟨i34, hi34, hz340, hz341, hz342⟩ := info_parts Tryd.info34
  have hnl : n ≤ 1000000000000 := by
    have := units_length_le s.data.toList 0
    rw [hus, ← Lib.size_eq] at this; omega
  have hub : ∀ u ∈ us, u.1 + u.2.1 ≤ 1000000000000 := fun u hu => by
    have := units_bound s.data.toList 0 u (by rw [hus]; exact hu)
    rw [← Lib.size_eq] at this; omega
  have c15 : ∀ wx, Calls Tryd.prog 15 #[.string s] wx fun e w' => ∃ g cap, e = .returned (.slice (some ⟨g, 0, none⟩) n cap) ∧ (n ≤ cap ∧ cap ≤ maxLen) ∧ (∀ j u, (us.flatMap uCells)[j]? = some u → w'.cell? ⟨g, j, none⟩ = some u) ∧ g < w'.heap.size ∧ Below wx.heap.size wx w' := by
    intro wx
    refine (rall_any s wx hs).mono ?_
    rintro e w' ⟨v, he, ho, hb⟩
    rw [hus, hn] at ho
    obtain ⟨g, cap, rfl, _, hg, hc1, hc2, hc⟩ := own_open ho h0
    exact ⟨g, cap, he, ⟨hc1, hc2⟩, hc, hg, hb⟩
  have C15 := Lib.hid c15
  have HN := Lib.hid hn
  have HUB := Lib.hid hub
  have HT := Lib.hid ht
  obtain ⟨kd, hkd⟩ : ∃ kd, kd = Cls.ofT rs := ⟨_, rfl⟩
  rw [← hkd]
  have c16 : ∀ wx x, Cls.Tbl wx v rs → Calls Tryd.prog 16 #[v, .int .i64 x] wx fun e w' => e = .returned (.int .i64 (kd x)) ∧ Below wx.heap.size wx w' := fun wx x h => by rw [hkd]; exact Cls.rof_any v rs x wx h
  have C16 := Lib.hid c16
  clear c15 c16 hn hub hus hkd ht
  go_enter Tryd.func11, Tryd.ntmps11
  go_wp2_with fail
  refine (C15.out _).mono ?_
  rintro e w1 ⟨gu, cu, rfl, ⟨hc1, hc2⟩, hcu, hgu, hb1⟩
  unfold maxLen at hc2
  have HCU := Lib.hid hcu
  have HB1 := Lib.hid hb1
  have HT1 := Lib.hid (HT.out.below hb1)
  clear hcu hb1
  go_wp2_with fail
  go_loopw [7, 8] (fun kv i wr => ∃ j : Nat, j ≤ n ∧ i = .int .i64 j ∧ Hid (wr.ownsRow w1.heap.size 3 1 kv j (kinds kd (us.take j))) ∧ Hid (Below w1.heap.size w1 wr)) (fun _ i _ => n - (RowKit.intOf i).toNat)
  case atStart => exact ⟨0, Nat.zero_le _, rfl, World.ownsRow_nil _ _ _ _, Below.refl _ _⟩
  case round =>
    obtain ⟨j, hj, rfl, HO, HB⟩ := hrel
    by_cases hjn : j < n
    · obtain ⟨u, hu⟩ : ∃ u, us[j]? = some u := ⟨_, List.getElem?_eq_getElem (by rw [HN.out]; exact hjn)⟩
      obtain ⟨-, -, x2⟩ := ucells3 us j u hu
      have m2 := (HB.out.cell (p := ⟨gu, j * 3 + 2, none⟩) hgu).trans (HCU.out _ _ x2)
      have tj1 : (0 : Int) ≤ j := by omega
      have tj2 : (j : Int) < n := by omega
      have HU := Lib.hid hu
      obtain ⟨a, l, cd⟩ := u
      dsimp only at m2
      clear x2 hu
      go_wp2_with fail
      refine (C16.out _ _ (HT1.out.below HB.out)).mono ?_
      rintro e w2 ⟨rfl, hb2⟩
      have HO2 := Lib.hid (own_below HO.out hb2)
      have HB2 := Lib.hid (HB.out.trans (hb2.mono HB.out.size))
      have hz2 : w1.heap.size ≤ w2.heap.size := HB2.out.size
      clear hb2 HO
      go_wp2_with (first
        | (at_builtin; refine wpList_append_own _ rfl _ _ 29 rfl w1.heap.size 3 i3 (.int .i64 0) 1 8 Tryd.underlying29 hi3 hz30 hz31 hz32 rfl (by decide) _ _ _ rfl (HO2.out.alloc _) ⟨w2.heap.size, 0, none⟩ 1 1 [.int .i64 (kd cd)] rfl rfl (cells_new _ _ _) (by simp [Value.oneCell']) (by unfold maxLen; omega) (by omega) (by simp; omega) ?_; intro v' w4 hown4 hgrow4 _))
      have hst := take_one HU.out
      rw [show kinds kd (us.take j) ++ [.int .i64 (kd cd)] = kinds kd (us.take (j + 1)) from by rw [hst, kinds_snoc]] at hown4
      have HO4 := Lib.hid hown4
      have HB4 := Lib.hid ((HB2.out.alloc hz2 (.cells #[.int .i64 (kd cd)] 3)).grown hgrow4 (by simp; omega) (fun k hk => (HO2.out.lt k hk).1))
      clear hown4 hgrow4 hst
      go_roundw
      case rel => exact ⟨j + 1, by omega, by go_num, HO4.out, HB4.out⟩
      case measure => simp [RowKit.intOf]; omega
    · obtain rfl : j = n := by omega
      obtain ⟨wo, rfl⟩ : ∃ wo : World, wo = wr := ⟨_, rfl⟩
      have hall : us.take j = us := List.take_of_length_le (by rw [HN.out]; omega)
      have ho := HO.out
      rw [hall] at ho
      obtain ⟨gc, ck, rfl, _, hgc, hd1, hd2, hck⟩ := own_open ho h0
      unfold maxLen at hd2
      have HCK := Lib.hid hck
      have hgu' : gu < wo.heap.size := Nat.lt_of_lt_of_le hgu HB.out.size
      have hcu : ∀ i u, us[i]? = some u → wo.cell? ⟨gu, i * 3, none⟩ = some (.int .i64 u.1) ∧ wo.cell? ⟨gu, i * 3 + 1, none⟩ = some (.int .i64 u.2.1) := fun i u h => by
        obtain ⟨x0, x1, _⟩ := ucells3 us i u h
        exact ⟨(HB.out.cell (p := ⟨gu, _, none⟩) hgu).trans (HCU.out _ _ x0), (HB.out.cell (p := ⟨gu, _, none⟩) hgu).trans (HCU.out _ _ x1)⟩
      have hckd : ∀ i u, us[i]? = some u → wo.cell? ⟨gc, i, none⟩ = some (.int .i64 (kd u.2.2)) := fun i u h => HCK.out _ _ (kinds_at h)
      have HU := Lib.hid hcu
      have HK := Lib.hid hckd
      have HW := Lib.hid (HB1.out.trans (HB.out.mono HB1.out.size))
      clear hall ho hck hcu hckd HCK HO hj hjn hi3 hz30 hz31 hz32
      go_wp2_with fail
      go_loopg [6, 9, 10] j (fun m mv b i wr => ∃ (q : Nat) (done : List Tok) (c : Option Tok), q + m = j ∧ i = .int .i64 q ∧ b = .bool c.isSome ∧ done.length + c.toList.length ≤ q ∧ Hid (SegInv kd us q done c) ∧ Hid (Toks wo wr mv (done ++ c.toList)))
      case atStart => exact ⟨0, [], none, by omega, rfl, rfl, Nat.le_refl _, SegInv.zero kd us, World.ownsRow_nil _ _ _ _, Below.refl _ _⟩
      case round =>
        obtain ⟨q, done, c, hq, rfl, rfl, hlen, HS, HM⟩ := hrel
        by_cases hqj : q < j
        · obtain ⟨u, hu⟩ : ∃ u, us[q]? = some u := ⟨_, List.getElem?_eq_getElem (by rw [HN.out]; exact hqj)⟩
          have hbd := HUB.out u (List.mem_of_getElem? hu)
          obtain ⟨y0, y1⟩ := HU.out q u hu
          have m0 := (HM.out.2.cell (p := ⟨gu, q * 3, none⟩) hgu').trans y0
          have m1 := (HM.out.2.cell (p := ⟨gu, q * 3 + 1, none⟩) hgu').trans y1
          have k0 := (HM.out.2.cell (p := ⟨gc, q, none⟩) hgc).trans (HK.out q u hu)
          obtain ⟨k, hk⟩ : ∃ k, k = kd u.2.2 := ⟨_, rfl⟩
          rw [← hk] at k0
          obtain ⟨p, hp⟩ : ∃ p, p = ahead kd us q := ⟨_, rfl⟩
          obtain ⟨x, hx⟩ : ∃ x, x = classAt kd us (q + 1) := ⟨_, rfl⟩
          have tq1 : (0 : Int) ≤ q := by omega
          have tq2 : (q : Int) < j := by omega
          have M0 := Lib.hid m0
          have M1 := Lib.hid m1
          have K0 := Lib.hid k0
          have HUQ := Lib.hid hu
          have HKQ := Lib.hid hk
          have HPQ := Lib.hid hp
          have HXQ := Lib.hid hx
          clear y0 y1 m0 m1 k0 hu hk hp hx
          go_upto_region 12 with fail
          go_cut [11] (fun b wx => b = .bool (solidB p k x) ∧ wx = wr)
          case first =>
            have k0 := K0.out
            by_cases f1 : firmB k = true
            · have hsv := Lib.hid (solid_firm (p := p) (n := x) f1)
              have c19 : ∀ wx, Calls Tryd.prog 20 #[.int .i64 k] wx fun e w' => e = .returned (.bool true) ∧ wx = w' := fun wx => by
                have := rfirm_any k wx
                rwa [f1] at this
              have C19 := Lib.hid c19
              clear c19 f1
              go_wp2_with (go_at_call 20; refine (C19.out _).mono ?_; rintro e w' ⟨rfl, rfl⟩)
              go_meet
              exact ⟨by rw [hsv.out], rfl⟩
            · have f1' : firmB k = false := by simpa using f1
              have c19 : ∀ wx, Calls Tryd.prog 20 #[.int .i64 k] wx fun e w' => e = .returned (.bool false) ∧ wx = w' := fun wx => by
                have := rfirm_any k wx
                rwa [f1'] at this
              have C19 := Lib.hid c19
              have F1 := Lib.hid f1'
              clear c19 f1 f1'
              by_cases k3 : k = 3
              · subst k3
                by_cases q0 : 0 < q
                · by_cases ql : q + 1 < j
                  · obtain ⟨u1, hu1⟩ : ∃ u1, us[q - 1]? = some u1 := ⟨_, List.getElem?_eq_getElem (by rw [HN.out]; omega)⟩
                    obtain ⟨u2, hu2⟩ : ∃ u2, us[q + 1]? = some u2 := ⟨_, List.getElem?_eq_getElem (by rw [HN.out]; omega)⟩
                    have hpv : p = kd u1.2.2 := by rw [HPQ.out, ahead, if_neg (by omega), hu1]; rfl
                    have hxv : x = kd u2.2.2 := by rw [HXQ.out, classAt_some hu2]
                    have k1 := (HM.out.2.cell (p := ⟨gc, q - 1, none⟩) hgc).trans (HK.out (q - 1) u1 hu1)
                    have k2 := (HM.out.2.cell (p := ⟨gc, q + 1, none⟩) hgc).trans (HK.out (q + 1) u2 hu2)
                    rw [← hpv] at k1
                    rw [← hxv] at k2
                    have t1 : (0 : Int) ≤ (q : Int) - 1 := by omega
                    have t2 : (1 : Int) ≤ q := by omega
                    have t3 : (q : Int) - 1 < j := by omega
                    have t4 : ((q : Int) - 1).toNat = q - 1 := by omega
                    have t5 : (q : Int) + 1 < j := by omega
                    clear hu1 hu2 hpv hxv
                    by_cases f2 : firmB p = true
                    · have c19p : ∀ wx, Calls Tryd.prog 20 #[.int .i64 p] wx fun e w' => e = .returned (.bool true) ∧ wx = w' := fun wx => by
                        have := rfirm_any p wx
                        rwa [f2] at this
                      have C19p := Lib.hid c19p
                      have c19x : ∀ wx, Calls Tryd.prog 20 #[.int .i64 x] wx fun e w' => e = .returned (.bool (firmB x)) ∧ wx = w' := fun wx => rfirm_any x wx
                      have C19x := Lib.hid c19x
                      have hsv : solidB p 3 x = firmB x := by cases hx : firmB x <;> simp [solidB, f2, hx, F1.out]
                      have HSV := Lib.hid hsv
                      clear c19p c19x hsv f2
                      go_wp2_with fail
                      refine (C19.out _).mono ?_
                      rintro e w' ⟨rfl, rfl⟩
                      go_wp2_with fail
                      refine (C19p.out _).mono ?_
                      rintro e w' ⟨rfl, rfl⟩
                      go_wp2_with fail
                      refine (C19x.out _).mono ?_
                      rintro e w' ⟨rfl, rfl⟩
                      go_wp2_with fail
                      go_meet
                      exact ⟨by rw [HSV.out], rfl⟩
                    · have f2' : firmB p = false := by simpa using f2
                      have c19p : ∀ wx, Calls Tryd.prog 20 #[.int .i64 p] wx fun e w' => e = .returned (.bool false) ∧ wx = w' := fun wx => by
                        have := rfirm_any p wx
                        rwa [f2'] at this
                      have C19p := Lib.hid c19p
                      have HSV := Lib.hid (solid_left (n := x) F1.out f2')
                      clear c19p f2 f2'
                      go_wp2_with fail
                      refine (C19.out _).mono ?_
                      rintro e w' ⟨rfl, rfl⟩
                      go_wp2_with fail
                      refine (C19p.out _).mono ?_
                      rintro e w' ⟨rfl, rfl⟩
                      go_wp2_with fail
                      go_meet
                      exact ⟨by rw [HSV.out], rfl⟩
                  · have hx0 : x = 0 := by rw [HXQ.out, classAt_none (by rw [HN.out]; omega)]
                    have HSV := Lib.hid (solid_right (p := p) (n := x) F1.out (by rw [hx0]; rfl))
                    have t5 : ¬ ((q : Int) + 1 < j) := by omega
                    clear hx0
                    go_wp2_with (go_at_call 20; refine (C19.out _).mono ?_; rintro e w' ⟨rfl, rfl⟩)
                    go_meet
                    exact ⟨by rw [HSV.out], rfl⟩
                · have hp0 : p = 0 := by rw [HPQ.out, ahead, if_pos (by omega)]
                  have HSV := Lib.hid (solid_left (p := p) (n := x) F1.out (by rw [hp0]; rfl))
                  have t5 : ¬ ((0 : Int) < q) := by omega
                  clear hp0
                  go_wp2_with (go_at_call 20; refine (C19.out _).mono ?_; rintro e w' ⟨rfl, rfl⟩)
                  go_meet
                  exact ⟨by rw [HSV.out], rfl⟩
              · have HSV := Lib.hid (solid_other (p := p) (n := x) F1.out k3)
                have d3 : (k == 3) = false := by simpa using k3
                clear k3
                go_wp2_with (go_at_call 20; refine (C19.out _).mono ?_; rintro e w' ⟨rfl, rfl⟩)
                go_meet
                exact ⟨by rw [HSV.out], rfl⟩
          case rest =>
            obtain ⟨rfl, rfl⟩ := hcut
            by_cases sv : solidB p k x = true
            · have hyes := HS.out.yes HUQ.out (by rw [← HPQ.out, ← HXQ.out, ← HKQ.out]; exact sv)
              rw [← HKQ.out] at hyes
              have HY := Lib.hid hyes
              rw [sv]
              clear sv hyes
              obtain ⟨a, l, cd⟩ := u
              dsimp only at hbd M0 M1
              go_upto_if 79 with fail
              go_cut [6, 9] (fun mv b wx => ∃ (f t0 : Nat) (w0 : Bool), b = .bool true ∧ Hid (Toks wo wx mv (done ++ [(f, t0, w0)])) ∧ Hid (ext c (a, l, cd) k = (f, a + l, w0 && k != 2)))
              case first =>
                cases c with
                | some t =>
                  obtain ⟨f, t0, w0⟩ := t
                  go_wp2
                  go_meet
                  exact ⟨f, t0, w0, rfl, HM.out, rfl⟩
                | none =>
                  have hm := HM.out
                  simp only [Option.toList_none, List.append_nil] at hm
                  have HM0 := Lib.hid hm
                  have hdl : done.length ≤ q := by simpa using hlen
                  have m0 := M0.out
                  have t1 : (0 : Int) ≤ q := by omega
                  have t2 : (q : Int) < j := by omega
                  have hsz := hm.2.size
                  clear hm
                  go_wp2_with fail
                  go_region_law ((refine step_append_lies _ (by rfl) _ _ _ (by rfl) wo.heap.size 34 i34 _ 3 24 Tryd.underlying24 hi34 hz340 hz341 hz342 rfl (by omega) _ done.length (done.flatMap kCells) (by rfl) ((HM0.out.1.alloc _).drew) ⟨wc.heap.size, 0, none⟩ 1 1 (kCells (a, a, true)) (by rfl) (by rfl) (World.news_of_block (cs := #[.int .i64 a, .int .i64 a, .bool true]) (t := 34) (fr := (0, 0)) (heap_alloc_new wc _)) (kCells_one (a, a, true)) (by omega) (by unfold maxLen; omega) (by omega) (by simp; omega) (wc.heap.size + 1) (by simp) ?_; intro gg cap4 w4 hown4 hgrow4 hat4 hlt4))
                  all_goals
                    have hst := HM0.out.step (t := (a, a, true)) rfl hown4 hgrow4
                    have HST := Lib.hid hst
                    clear hst hown4 hgrow4 hat4 m0
                    go_wp2_with fail
                    go_meet
                    exact ⟨a, a, true, rfl, HST.out, rfl⟩
              case rest =>
                obtain ⟨f, t0, w0, rfl, HM2, HE⟩ := hcut
                obtain ⟨nm, hnm⟩ : ∃ nm, nm = done.length + 1 := ⟨_, rfl⟩
                obtain ⟨gm, cm, hmv, hgm, hm1, hm2, ct, cw, fz⟩ := HM2.out.last hnm
                unfold maxLen at hm2
                have hbel := HM2.out.2
                have m0 := (hbel.cell (p := ⟨gu, q * 3, none⟩) hgu').trans (HU.out q _ HUQ.out).1
                have m1 := (hbel.cell (p := ⟨gu, q * 3 + 1, none⟩) hgu').trans (HU.out q _ HUQ.out).2
                have k0 := (hbel.cell (p := ⟨gc, q, none⟩) hgc).trans (HK.out q _ HUQ.out)
                dsimp only at m0 m1 k0
                have hkk := HKQ.out
                dsimp only at hkk
                rw [← hkk] at k0
                subst hmv
                have fz1 := fz ((nm - 1) * 3 + 1)
                have fz2 := fz ((nm - 1) * 3 + 2)
                have t1 : (0 : Int) ≤ q := by omega
                have t2 : (q : Int) < j := by omega
                have t3 : (0 : Int) ≤ (nm : Int) - 1 := by omega
                have t4 : (1 : Int) ≤ nm := by omega
                have t5 : (nm : Int) - 1 < nm := by omega
                have t6 : ((nm : Int) - 1).toNat = nm - 1 := by omega
                have t7 : IntKind.i64.wrap ((a : Int) + l) = (a : Int) + l := IntWalk.i64_in _ (by omega)
                have K0' := Lib.hid k0
                have CW := Lib.hid cw
                have FZ2 := Lib.hid fz2
                have HNM := Lib.hid hnm
                clear hbel fz hkk k0 cw fz2 M0 M1 K0 hnm
                go_wp2_with fail
                go_region
                have hT := (HM2.out.to (t1 := a + l) HNM.out hgm).drew
                rw [Int.natCast_add] at hT
                obtain ⟨g', c', hv, -, -, -, -, cw, fz⟩ := hT.last HNM.out
                cases hv
                have k0 := (hT.2.cell (p := ⟨gc, q, none⟩) hgc).trans (HK.out q _ HUQ.out)
                try dsimp only at k0
                have hkk := HKQ.out
                try dsimp only at hkk
                rw [← hkk] at k0
                have fz2 := fz ((nm - 1) * 3 + 2)
                generalize (wc.setCell ⟨gm, (nm - 1) * 3 + 1, none⟩ (.int .i64 ((a : Int) + l))).drew = w5 at hT cw fz2 k0 ⊢
                have HT5 := Lib.hid hT
                clear hT fz hkk ct fz1 t7 m0 m1
                have HE2 := Lib.hid HE.out
                cases w0 with
                | false =>
                  have hy := HY.out
                  rw [HE.out] at hy
                  have HY5 := Lib.hid hy
                  have HT6 := Lib.hid (HT5.out.word (w1 := false) HNM.out hgm)
                  clear hy
                  go_wp2_with fail
                  go_roundg (gk - 1)
                  case measure => omega
                  case rel => exact ⟨q + 1, done, some (f, a + l, false), by omega, by go_num, rfl, by simp; omega, HY5.out, HT6.out⟩
                | true =>
                  by_cases k2 : k = 2
                  · have d2 : (k != 2) = false := by simp [k2]
                    have D2 := Lib.hid d2
                    clear k2
                    have hy := HY.out
                    rw [HE.out] at hy
                    have HY5 := Lib.hid hy
                    have HT6 := Lib.hid (HT5.out.word (w1 := false) HNM.out hgm)
                    clear hy
                    go_wp2_with fail
                    go_roundg (gk - 1)
                    case measure => omega
                    case rel => exact ⟨q + 1, done, some (f, a + l, false), by omega, by go_num, rfl, by simp; omega, by have hh := HY5.out; rw [D2.out] at hh; exact hh, HT6.out⟩
                  · have d2 : (k != 2) = true := by simp [k2]
                    have D2 := Lib.hid d2
                    clear k2
                    have hy := HY.out
                    rw [HE.out] at hy
                    have HY5 := Lib.hid hy
                    have HT6 := Lib.hid (HT5.out.word (w1 := true) HNM.out hgm)
                    clear hy
                    go_wp2_with fail
                    go_roundg (gk - 1)
                    case measure => omega
                    case rel => exact ⟨q + 1, done, some (f, a + l, true), by omega, by go_num, rfl, by simp; omega, by have hh := HY5.out; rw [D2.out] at hh; exact hh, HT6.out⟩
            · have sv' : solidB p k x = false := by simpa using sv
              have hno := HS.out.no HUQ.out (by rw [← HPQ.out, ← HXQ.out, ← HKQ.out]; exact sv')
              have HNO := Lib.hid hno
              rw [sv']
              clear sv sv' hno
              go_wp2
              go_roundg (gk - 1)
              case measure => omega
              case rel => exact ⟨q + 1, done ++ c.toList, none, by omega, by go_num, rfl, by simp; omega, HNO.out, by have hh := HM.out; rw [← List.append_nil (done ++ c.toList)] at hh; exact hh⟩
        · have hqe : q = j := by omega
          have htot := HS.out.end_ (by rw [HN.out]; omega)
          have HTOT := Lib.hid htot
          have HO := Lib.hid (own_base HM.out.1 HW.out.size)
          clear htot hqe
          go_wp2
          go_ret
          exact ⟨_, rfl, by rw [HTOT.out]; exact HO.out, HW.out.trans (HM.out.2.mono HW.out.size)⟩
end Go.Proofs.YtmebboadadlahaaDoor
