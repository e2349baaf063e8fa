/- Stage 12's law ListLines, out of what is asked of list's calls. -/
import Derived.Test.YtmadlappalhmlaaDoorYGaps
import Derived.Test.YtmadlappalhmlaaDoorYWord
namespace Go.Proofs.YtmadlappalhmlaaDoor
open Go Go.RowKit Go.Lib

set_option maxRecDepth 100000 in
theorem pick4 (w : World) : ∀ k : Nat, k < 4 → (Instr.index 40 (.agg #[.string ⟨#[]⟩, .string ⟨#[10]⟩, .string ⟨#[35, 32, 97, 32, 98, 47, 99, 10]⟩, .string ⟨#[10, 10, 35, 10]⟩]) (.int .i64 k)).run Tryd.prog w = .ok (.string (gapB k)) w
  | 0, _ => by kernel_rfl
  | 1, _ => by kernel_rfl
  | 2, _ => by kernel_rfl
  | 3, _ => by kernel_rfl
  | h + 4, hh => by omega
/-- Does a line begin at k? -/
def lineHead (L : List UInt8) (k : Nat) : Bool := k == 0 || L[k - 1]? == some 10
theorem lineHead_zero (L : List UInt8) : lineHead L 0 = true := rfl
theorem lineHead_next {L : List UInt8} {k : Nat} {c : UInt8} (h : L[k]? = some c) : lineHead L (k + 1) = (c == 10) := by
  unfold lineHead
  rw [Nat.add_sub_cancel, h]
  have : (k + 1 == 0) = false := by simp
  rw [this, Bool.false_or]
  rfl
/-- What is woven so far. -/
structure Woven (L : List UInt8) (gs : List Nat) (P : List UInt8) (k n : Nat) : Prop where
  eq : weave gs true L = P ++ weave (gs.drop n) (lineHead L k) (L.drop k)
  le : n ≤ k
theorem Woven.start (L : List UInt8) (gs : List Nat) : Woven L gs [] 0 0 := ⟨rfl, Nat.le_refl _⟩
theorem Woven.fin {L : List UInt8} {gs : List Nat} {P : List UInt8} {n : Nat} (h : Woven L gs P L.length n) : P = weave gs true L := by
  rw [h.eq, List.drop_length]
  show P = P ++ []
  rw [List.append_nil]
theorem Woven.len {L : List UInt8} {gs : List Nat} {P : List UInt8} {k n : Nat} (h : Woven L gs P k n) (hg : ∀ g ∈ gs, g < 4) : P.length ≤ 9 * L.length := by
  have h1 := weave_len L gs true hg
  rw [h.eq, List.length_append] at h1
  omega
theorem drop_cons {L : List UInt8} {k : Nat} {c : UInt8} (h : L[k]? = some c) : L.drop k = c :: L.drop (k + 1) := by
  obtain ⟨h1, h2⟩ := List.getElem?_eq_some_iff.1 h
  rw [List.drop_eq_getElem_cons h1, h2]
/-- Within a line. -/
theorem Woven.on {L : List UInt8} {gs : List Nat} {P : List UInt8} {k n : Nat} {c : UInt8} (h : Woven L gs P k n) (hc : L[k]? = some c) (hb : lineHead L k = false) : Woven L gs (P ++ [c]) (k + 1) n := by
  refine ⟨?_, by have := h.le; omega⟩
  rw [h.eq, drop_cons hc, hb, lineHead_next hc]
  show P ++ ([] ++ c :: weave (gs.drop n) (c == 10) _) = _
  simp
/-- A line lineHead, lines stand ahead of it. -/
theorem Woven.gap {L : List UInt8} {gs : List Nat} {P : List UInt8} {k n g : Nat} {c : UInt8} (h : Woven L gs P k n) (hc : L[k]? = some c) (hb : lineHead L k = true) (hg : gs[n]? = some g) : Woven L gs (P ++ (gapB g).data.toList ++ [c]) (k + 1) (n + 1) := by
  refine ⟨?_, by have := h.le; omega⟩
  obtain ⟨h1, h2⟩ := List.getElem?_eq_some_iff.1 hg
  have hd : gs.drop n = g :: gs.drop (n + 1) := by rw [List.drop_eq_getElem_cons h1, h2]
  rw [h.eq, drop_cons hc, hb, lineHead_next hc, hd]
  show P ++ ((gapB g).data.toList ++ c :: weave (gs.drop (n + 1)) (c == 10) _) = _
  simp
/-- A line lineHead, no more lines are given. -/
theorem Woven.bare {L : List UInt8} {gs : List Nat} {P : List UInt8} {k n : Nat} {c : UInt8} (h : Woven L gs P k n) (hc : L[k]? = some c) (hb : lineHead L k = true) (hg : gs.length ≤ n) : Woven L gs (P ++ [c]) (k + 1) (n + 1) := by
  refine ⟨?_, by have := h.le; omega⟩
  have hd : gs.drop n = [] := List.drop_of_length_le hg
  have hd2 : gs.drop (n + 1) = [] := List.drop_of_length_le (by omega)
  rw [h.eq, drop_cons hc, hb, lineHead_next hc, hd, hd2]
  show P ++ ([] ++ c :: weave [] (c == 10) _) = _
  simp
def gkeys (l : List Int) : List Nat := l.map fun x => (x % 4).toNat
theorem gkeys_lt (l : List Int) : ∀ g ∈ gkeys l, g < 4 := fun g hg => by
  obtain ⟨x, _, rfl⟩ := List.mem_map.1 hg
  omega

variable {T : World → Prop}
set_option maxRecDepth 100000 in
set_option maxHeartbeats 1000000 in
theorem elines_law (S : SaysL T) (w : World) (hT : T w) (v v' : Value) (l gl : List Int) (h : IntsAt w v l) (h' : IntsAt w v' gl) :
    Calls Tryd.prog 7 #[v, v'] w fun e w' => e = .returned (.bool true) ∧ Below w.heap.size w w' := by
  have HT := Lib.hid (fun wx (hb : Below w.heap.size w wx) => S.kept w wx hT hb)
  have AW := Lib.hid (fun wx (hb : Below w.heap.size w wx) => eawake_any S wx (S.kept w wx hT hb))
  have HS := Lib.hid S
  obtain ⟨ks, hks⟩ : ∃ ks, ks = keys l := ⟨_, rfl⟩
  have hk30 : ks.length ≤ 30 := by rw [hks, keys_len]; omega
  have CL := Lib.hid (hks ▸ list_any w v l h)
  obtain ⟨A, cap, rfl, -⟩ := ints_open h
  obtain ⟨A', cap', rfl, hA'⟩ := ints_open h'
  obtain ⟨n, hn⟩ : ∃ n, n = l.length := ⟨_, rfl⟩
  rw [← hn] at CL ⊢
  obtain ⟨m, hm⟩ : ∃ n, n = gl.length := ⟨_, rfl⟩
  rw [← hm] at hA' ⊢
  have hmb := ints_bd h'
  rw [← hm] at hmb
  have HA := Lib.hid hA'
  have HM := Lib.hid hm
  obtain ⟨gs, hgs⟩ : ∃ gs, gs = gkeys gl := ⟨_, rfl⟩
  have hg4 : ∀ g ∈ gs, g < 4 := by rw [hgs]; exact gkeys_lt gl
  have hgl : gs.length = m := by rw [hgs, hm]; unfold gkeys; rw [List.length_map]
  have HGAT := Lib.hid (show ∀ (i : Nat) x, gl[i]? = some x → gs[i]? = some (x % 4).toNat from fun i x hx => by
    rw [hgs]; unfold gkeys; rw [List.getElem?_map, hx]; rfl)
  have HG := Lib.hid (And.intro hg4 hgl)
  obtain ⟨es, hes⟩ : ∃ es, es = esOf (ks.map itemL) := ⟨_, rfl⟩
  have hp := list_parse hk30
  obtain ⟨hp1, hp2⟩ := gaps_parse hk30 hg4
  rw [← hes] at hp hp1 hp2
  have hp3 := fun hne => last_parse hk30 hne
  rw [← hes] at hp3
  have hel : es.length = ks.length := by rw [hes, items_es]
  have hll := listL_len ks
  obtain ⟨L, hL⟩ : ∃ L, L = listL ks := ⟨_, rfl⟩
  have hL0 : ks = [] ↔ L = [] := by
    rw [hL]
    constructor
    · rintro rfl; rfl
    · intro e
      match ks, e with
      | [], _ => rfl
      | k :: ks, e =>
        have : (listL (k :: ks)).length = 0 := by rw [e]; rfl
        have h2 : (itemL k ++ [10] ++ listL ks).length = 0 := this
        simp at h2
  rw [← hL] at CL hp hp1 hp2 hp3 hll
  have hwl := weave_len L gs true hg4
  obtain ⟨X, hX⟩ : ∃ X : ByteArray, X = ⟨L.toArray⟩ := ⟨_, rfl⟩
  have hXs : X.size = L.length := by rw [hX, ba_len]
  have hXd : X.data.toList = L := by rw [hX]
  rw [← hX] at CL hp
  obtain ⟨Y, hY⟩ : ∃ Y : ByteArray, Y = ⟨(weave gs true L).toArray⟩ := ⟨_, rfl⟩
  have hYs : Y.size ≤ 3000 := by rw [hY, ba_len]; omega
  rw [← hY] at hp1 hp2
  have hYs2 : (Y ++ (⟨#[35]⟩ : ByteArray)).size ≤ 3001 := by rw [ByteArray.size_append]; show _ + 1 ≤ _; omega
  have CP1 := Lib.hid (fun wx (hb : Below w.heap.size w wx) => HS.out.parse wx X (HT.out _ hb) (by omega))
  rw [hp] at CP1
  have CP2 := Lib.hid (fun wx (hb : Below w.heap.size w wx) => HS.out.parse wx Y (HT.out _ hb) (by omega))
  rw [hp1] at CP2
  have CP3 := Lib.hid (fun wx (hb : Below w.heap.size w wx) => HS.out.parse wx (Y ++ (⟨#[35]⟩ : ByteArray)) (HT.out _ hb) (by omega))
  rw [hp2] at CP3
  have HX := Lib.hid (And.intro hXs (And.intro hXd (And.intro hL0 (And.intro hp3 (And.intro hel hY)))))
  have hXb : X.size ≤ 270 := by omega
  have BYT := Lib.hid (show ∀ k (h : k < X.size), ∃ c, L[k]? = some c ∧ X[k]'h = c ∧ X.extract k (k + 1) = ⟨#[c]⟩ from fun k h => by
    obtain ⟨c, h1, h2⟩ := byte_at h
    rw [hXd] at h1
    refine ⟨c, h1, h2, ?_⟩
    rw [ext_ba, hXd, drop_cons h1, show k + 1 - k = 1 by omega]
    rfl)
  have n5 : ¬ (9223372036854775807 < Y.size + 1) := by omega
  have SMX := Lib.hid (fun wx va vb (ha : EntsAt wx va es) (hb : EntsAt wx vb es) => (decide_eq_true (rfl : es = es)) ▸ esame_any wx va vb es es ha hb)
  clear S hT h h' hks hk30 hn hm hA' hgs hg4 hgl hes hp hp1 hp2 hp3 hel hll hL hL0 hwl hX hXs hXd hY hYs hYs2
  go_enter Tryd.func7, Tryd.ntmps7
  go_wp2_with (go_at_call 15; refine CL.out.mono ?_; rintro e w1 ⟨rfl, hb⟩; have HB1 := Lib.hid hb; clear hb)
  go_loopg [6, 7, 8] X.size (fun g tv nv i wr => ∃ (k nn : Nat) (P : ByteArray), k + g = X.size ∧ i = .int .i64 k ∧ nv = .int .i64 nn ∧ tv = .string P ∧ w1 = wr ∧ Hid (Woven L gs P.data.toList k nn))
  case atStart => exact ⟨0, 0, _, by omega, rfl, rfl, rfl, rfl, Lib.hid (Woven.start L gs)⟩
  case round =>
    obtain ⟨k, nn, P, hk, rfl, rfl, rfl, rfl, HW⟩ := hrel
    have hk0 : (0 : Int) ≤ k := by omega
    have hPs : P.size ≤ 2500 := by
      have h1 := HW.out.len HG.out.1
      have h2 := HX.out.1
      rw [Lib.size_eq]
      omega
    have hnk := HW.out.le
    rcases Nat.eq_zero_or_pos gk with h0 | h0
    · have hks : ¬ (k : Int) < X.size := by omega
      have hPY : P = Y := by
        have h1 := HW.out
        rw [show k = L.length by have := HX.out.1; omega] at h1
        rw [HX.out.2.2.2.2.2, ← h1.fin, ba_list]
      subst hPY
      clear HW hnk hPs
      go_wp2_with fail
      refine (CP1.out _ HB1.out).mono ?_
      rintro e w2 ⟨va, rfl, hva, hb⟩
      have HA2 := Lib.hid (fun wx (hbx : Below w2.heap.size w2 wx) => hva.keep hbx)
      have HB2 := Lib.hid (HB1.out.trans (hb.mono HB1.out.size))
      clear hva hb
      go_wp2_with fail
      refine (CP2.out _ HB2.out).mono ?_
      rintro e w3 ⟨vb, rfl, hvb, hb⟩
      have HA3 := Lib.hid (fun wx (hbx : Below w3.heap.size w3 wx) => HA2.out wx (hb.trans (hbx.mono hb.size)))
      have HV3 := Lib.hid (fun wx (hbx : Below w3.heap.size w3 wx) => hvb.keep hbx)
      have HB3 := Lib.hid (HB2.out.trans (hb.mono HB2.out.size))
      clear hvb hb HA2
      go_wp2_with fail
      refine (CP3.out _ HB3.out).mono ?_
      rintro e w4 ⟨vc, rfl, hvc, hb⟩
      have HA4 := Lib.hid (fun wx (hbx : Below w4.heap.size w4 wx) => HA3.out wx (hb.trans (hbx.mono hb.size)))
      have SM1 := Lib.hid (SMX.out w4 va vb (HA4.out _ (Below.refl _ _)) (HV3.out _ hb))
      have HV4 := Lib.hid (fun wx (hbx : Below w4.heap.size w4 wx) => hvc.keep hbx)
      have HB4 := Lib.hid (HB3.out.trans (hb.mono HB3.out.size))
      clear hvc hb HA3 HV3
      go_wp2_with fail
      refine SM1.out.mono ?_
      rintro e w5 ⟨rfl, hb⟩
      have HA5 := Lib.hid (fun wx (hbx : Below w5.heap.size w5 wx) => HA4.out wx (hb.trans (hbx.mono hb.size)))
      have SM2 := Lib.hid (SMX.out w5 va vc (HA5.out _ (Below.refl _ _)) (HV4.out _ hb))
      have HB5 := Lib.hid (HB4.out.trans (hb.mono HB4.out.size))
      clear hb HA4 HV4 SM1
      go_wp2_with fail
      refine SM2.out.mono ?_
      rintro e w6 ⟨rfl, hb⟩
      have HA6 := Lib.hid (HA5.out w6 hb)
      have HB6 := Lib.hid (HB5.out.trans (hb.mono HB5.out.size))
      clear hb HA5 SM2
      have hem : X.toList.isEmpty = decide (L = []) := by
        rw [toL_data, HX.out.2.1]
        cases L <;> rfl
      obtain ⟨A1, c1, hva⟩ := ents_form HA6.out
      by_cases hL : L = []
      · have e1 : X.toList.isEmpty = true := by rw [hem]; exact decide_eq_true hL
        have hks := HX.out.2.2.1.2 hL
        have hel := HX.out.2.2.2.2.1
        rw [hks] at hel
        have hel0 : es.length = 0 := hel
        rw [hel0] at hva
        subst hva
        clear hem hL hks hel hel0
        go_wp2_with (go_at_call 9; refine (AW.out _ HB6.out).mono ?_; rintro e w8 ⟨rfl, hb⟩; have HB8 := Lib.hid (HB6.out.trans (hb.mono HB6.out.size)); clear hb)
        go_ret
        exact ⟨rfl, HB8.out⟩
      · have e1 : X.toList.isEmpty = false := by rw [hem]; exact decide_eq_false hL
        have hpl := HX.out.2.2.2.1 (fun e => hL (HX.out.2.2.1.1 e))
        have hlen : 0 < L.length := List.length_pos_iff.2 hL
        obtain ⟨j, hj⟩ : ∃ j, X.size = j + 1 := ⟨X.size - 1, by have := HX.out.1; omega⟩
        have wj : IntKind.i64.wrap ((X.size : Int) - 1) = (j : Int) := by rw [IntWalk.i64_in _ (by omega)]; omega
        have j0 : (0 : Int) ≤ j := by omega
        have j1 : (j : Int) ≤ X.size := by omega
        have hD : X.extract 0 j = ⟨(L.take (L.length - 1)).toArray⟩ := by
          rw [ext_ba, HX.out.2.1, List.drop_zero, Nat.sub_zero, show j = L.length - 1 by have := HX.out.1; omega]
        rw [← hD] at hpl
        obtain ⟨D, hDD⟩ : ∃ D, D = X.extract 0 j := ⟨_, rfl⟩
        have hDs : D.size ≤ 300 := by
          rw [hDD, hD, ba_len, List.length_take]
          have := HX.out.1
          omega
        rw [← hDD] at hpl
        have CP4 := Lib.hid (HS.out.parse w6 D (HT.out _ HB6.out) (by omega))
        rw [hpl] at CP4
        have hDX : X.extract 0 j = D := hDD.symm
        clear hem hL hpl hlen hj hD hDD hDs
        subst hva
        go_wp2_with (first
          | (go_at_call 10; refine CP4.out.mono ?_; rintro e w7 ⟨vd, rfl, hvd, hb⟩; have SM3 := Lib.hid (SMX.out w7 _ vd (HA6.out.keep hb) hvd); have HB7 := Lib.hid (HB6.out.trans (hb.mono HB6.out.size)); clear hvd hb)
          | (go_at_call 12; refine SM3.out.mono ?_; rintro e w8 ⟨rfl, hb⟩; have HB8 := Lib.hid (HB7.out.trans (hb.mono HB7.out.size)); clear hb)
          | (go_at_call 9; refine (AW.out _ HB8.out).mono ?_; rintro e w9 ⟨rfl, hb⟩; have HB9 := Lib.hid (HB8.out.trans (hb.mono HB8.out.size)); clear hb))
        go_ret
        exact ⟨rfl, HB9.out⟩
    · have hks : (k : Int) < X.size := by omega
      have hks2 : k < X.size := by omega
      obtain ⟨c, hc, hget, hex⟩ := BYT.out k hks2
      have wk : IntKind.i64.wrap ((k : Int) + 1) = ((k + 1 : Nat) : Int) := by rw [IntWalk.i64_in _ (by omega)]; omega
      have k1 : (k : Int) ≤ ((k + 1 : Nat) : Int) := by omega
      have k2 : ((k + 1 : Nat) : Int) ≤ X.size := by omega
      have nn0 : (0 : Int) ≤ nn := by omega
      have n1 : ¬ (9223372036854775807 < P.size + 1) := by omega
      by_cases hz : k = 0
      · have hkz : ((k : Int) == 0) = true := by simp; omega
        have hbg : lineHead L k = true := by rw [hz]; rfl
        clear hz
        by_cases hnn : nn < m
        · have d1 : (nn : Int) < m := by omega
          obtain ⟨x, hx⟩ : ∃ x, gl[nn]? = some x := ⟨_, List.getElem?_eq_getElem (by have := HM.out; omega)⟩
          obtain ⟨q, o, rfl, hq, hcap, xc⟩ := HA.out nn x hx
          have y0 := (cell_old (p := ⟨q, o + nn, none⟩) HB1.out hq).trans xc
          have hcap2 : (m : Int) ≤ cap' := by omega
          have hgx := HGAT.out nn x hx
          have PL := Lib.hid (fun wx => place9 x 4 wx (by omega) (by omega))
          obtain ⟨G, hG⟩ : ∃ K, K = (x % 4).toNat := ⟨_, rfl⟩
          have hGI : x % 4 = (G : Int) := by omega
          rw [hGI] at PL
          rw [← hG] at hgx
          have hG4 : G < 4 := by omega
          have pk := fun wx => pick4 wx G hG4
          have hgsz := gap_size ⟨G, hG4⟩
          dsimp only at hgsz
          have HW2 := Lib.hid (HW.out.gap hc hbg hgx)
          obtain ⟨GB, hGB⟩ : ∃ X, X = gapB G := ⟨_, rfl⟩
          rw [← hGB] at pk hgsz HW2
          have HW3 := Lib.hid (show Woven L gs (P ++ GB ++ (⟨#[c]⟩ : ByteArray)).data.toList (k + 1) (nn + 1) by
            rw [l_app, l_app]; exact HW2.out)
          have n2 : ¬ (9223372036854775807 < P.size + GB.size) := by omega
          have n3 : ¬ (9223372036854775807 < P.size + GB.size + 1) := by omega
          clear hx hq hcap xc hgx hG hGI hGB hgsz HW2 HW hc hget hbg hPs hnn
          go_wp2_with (go_at_call 16; refine (PL.out _).mono ?_; rintro e wx ⟨rfl, hwx⟩; subst hwx)
          go_roundg (gk - 1)
          case measure => omega
          case rel => exact ⟨k + 1, nn + 1, _, by omega, by go_num, by go_num, rfl, rfl, HW3⟩
        · have d1 : ¬ (nn : Int) < m := by omega
          have HW2 := Lib.hid (HW.out.bare hc hbg (by have := HG.out.2; omega))
          have HW3 := Lib.hid (show Woven L gs (P ++ (⟨#[c]⟩ : ByteArray)).data.toList (k + 1) (nn + 1) by
            rw [l_app]; exact HW2.out)
          clear HW2 HW hc hget hbg hPs hnn
          go_wp2_with fail
          go_roundg (gk - 1)
          case measure => omega
          case rel => exact ⟨k + 1, nn + 1, _, by omega, by go_num, by go_num, rfl, rfl, HW3⟩
      · obtain ⟨j, hkj⟩ : ∃ j, k = j + 1 := ⟨k - 1, by omega⟩
        have hkz : ((k : Int) == 0) = false := by simp; omega
        have hj2 : j < X.size := by omega
        obtain ⟨c2, hc2, hget2, -⟩ := BYT.out j hj2
        have wj : IntKind.i64.wrap ((k : Int) - 1) = (j : Int) := by rw [IntWalk.i64_in _ (by omega)]; omega
        have j0 : (0 : Int) ≤ j := by omega
        have j1 : (j : Int) < X.size := by omega
        have hbn : lineHead L k = (c2 == 10) := by rw [hkj]; exact lineHead_next hc2
        obtain ⟨x2, hx2⟩ : ∃ x, x = c2.toNat := ⟨_, rfl⟩
        have hgx2 : (X[j]'hj2).toNat = x2 := by rw [hget2, hx2]
        clear hkj hz
        by_cases h10 : c2 = 10
        · subst h10
          have hbg : lineHead L k = true := by rw [hbn]; rfl
          have hx10 : ((x2 : Int) == 10) = true := by rw [hx2]; rfl
          clear hbn hc2 hget2 hx2
          by_cases hnn : nn < m
          · have d1 : (nn : Int) < m := by omega
            obtain ⟨x, hx⟩ : ∃ x, gl[nn]? = some x := ⟨_, List.getElem?_eq_getElem (by have := HM.out; omega)⟩
            obtain ⟨q, o, rfl, hq, hcap, xc⟩ := HA.out nn x hx
            have y0 := (cell_old (p := ⟨q, o + nn, none⟩) HB1.out hq).trans xc
            have hcap2 : (m : Int) ≤ cap' := by omega
            have hgx := HGAT.out nn x hx
            have PL := Lib.hid (fun wx => place9 x 4 wx (by omega) (by omega))
            obtain ⟨G, hG⟩ : ∃ K, K = (x % 4).toNat := ⟨_, rfl⟩
            have hGI : x % 4 = (G : Int) := by omega
            rw [hGI] at PL
            rw [← hG] at hgx
            have hG4 : G < 4 := by omega
            have pk := fun wx => pick4 wx G hG4
            have hgsz := gap_size ⟨G, hG4⟩
            dsimp only at hgsz
            have HW2 := Lib.hid (HW.out.gap hc hbg hgx)
            obtain ⟨GB, hGB⟩ : ∃ X, X = gapB G := ⟨_, rfl⟩
            rw [← hGB] at pk hgsz HW2
            have HW3 := Lib.hid (show Woven L gs (P ++ GB ++ (⟨#[c]⟩ : ByteArray)).data.toList (k + 1) (nn + 1) by
              rw [l_app, l_app]; exact HW2.out)
            have n2 : ¬ (9223372036854775807 < P.size + GB.size) := by omega
            have n3 : ¬ (9223372036854775807 < P.size + GB.size + 1) := by omega
            clear hx hq hcap xc hgx hG hGI hGB hgsz HW2 HW hc hget hbg hPs hnn
            go_wp2_with (go_at_call 16; refine (PL.out _).mono ?_; rintro e wx ⟨rfl, hwx⟩; subst hwx)
            go_roundg (gk - 1)
            case measure => omega
            case rel => exact ⟨k + 1, nn + 1, _, by omega, by go_num, by go_num, rfl, rfl, HW3⟩
          · have d1 : ¬ (nn : Int) < m := by omega
            have HW2 := Lib.hid (HW.out.bare hc hbg (by have := HG.out.2; omega))
            have HW3 := Lib.hid (show Woven L gs (P ++ (⟨#[c]⟩ : ByteArray)).data.toList (k + 1) (nn + 1) by
              rw [l_app]; exact HW2.out)
            clear HW2 HW hc hget hbg hPs hnn
            go_wp2_with fail
            go_roundg (gk - 1)
            case measure => omega
            case rel => exact ⟨k + 1, nn + 1, _, by omega, by go_num, by go_num, rfl, rfl, HW3⟩
        · have hbg : lineHead L k = false := by rw [hbn, beq_eq_false_iff_ne]; exact h10
          have hx10 : ((x2 : Int) == 10) = false := by
            simp
            intro e
            exact h10 (UInt8.toNat_inj.1 ((show c2.toNat = 10 by omega).trans rfl))
          have HW2 := Lib.hid (HW.out.on hc hbg)
          have HW3 := Lib.hid (show Woven L gs (P ++ (⟨#[c]⟩ : ByteArray)).data.toList (k + 1) nn by
            rw [l_app]; exact HW2.out)
          clear HW2 HW hc hget hbg hPs hbn hc2 hget2 hx2 h10
          go_wp2_with fail
          go_roundg (gk - 1)
          case measure => omega
          case rel => exact ⟨k + 1, nn, _, by omega, by go_num, rfl, rfl, rfl, HW3⟩
end Go.Proofs.YtmadlappalhmlaaDoor
