/- The landed lineOf, Text by contract: what is asked of list's calls is met. -/
import Derived.Test.YtmadlappalhmlaaDoorGParse
import Derived.Test.YtmadlappalhmlaaDoorGAlike
import Derived.Test.YtmadlappalhmlaaDoorOBuild
import Derived.Test.YtmadlappalhmlaaDoorQFrame
import Derived.Deep.RegionHeld3
namespace Go.Proofs.YtmadlappalhmlaaDoor
open Go Go.RowKit Go.Lib

theorem g_app (a b : ByteArray) : (a ++ b).data.toList = a.data.toList ++ b.data.toList := by
  rw [ByteArray.data_append, Array.toList_append]
def gBy (c : Int) : ByteArray := ⟨(ptB c).toArray⟩
theorem gbytes_any (c : Int) (w : World) : Calls Tryd.prog 35 #[.int .i64 c] w fun e w' => e = .returned (.string (gBy c)) ∧ w' = w := by
  refine (bytes_any c w).mono ?_
  rintro e w' ⟨rfl, rfl⟩
  refine ⟨?_, rfl⟩
  unfold gBy bytesOf ptB
  split
  · cases Utf8.encode c; simp
  · rfl
theorem gptB_len (c : Int) : (ptB c).length ≤ 4 := by
  unfold ptB
  split
  · exact enc_len c
  · exact Nat.zero_le _
theorem gptL_len : ∀ cs : List Int, (ptL cs).length ≤ 4 * cs.length
  | [] => Nat.le_refl _
  | c :: cs => by
    have ih := gptL_len cs
    have h1 := gptB_len c
    unfold ptL at ih ⊢
    rw [List.flatMap_cons, List.length_append, List.length_cons]
    omega
theorem gptL_take {cs : List Int} {k : Nat} {c : Int} (h : cs[k]? = some c) : ptL (cs.take (k + 1)) = ptL (cs.take k) ++ ptB c := by
  obtain ⟨hlt, he⟩ := List.getElem?_eq_some_iff.1 h
  unfold ptL
  rw [List.take_succ_eq_append_getElem hlt, he, List.flatMap_append]
  simp
theorem gsz (l : List UInt8) : (⟨l.toArray⟩ : ByteArray).size = l.length := by show l.toArray.size = _; rw [List.size_toArray]
theorem lineE_len (e : En) : (lineE e).length ≤ e.word.size + 1 + 4 * e.flags.length := by
  have h1 := gptL_len e.flags
  have h2 : e.word.data.toList.length = e.word.size := (Lib.size_eq _).symm
  unfold lineE
  rw [List.length_append]
  split
  · simp; omega
  · rw [List.length_cons]; omega
theorem lineE_none {e : En} (h : e.flags = []) : lineE e = e.word.data.toList := by
  unfold lineE
  rw [if_pos h, List.append_nil]
theorem lineE_some {e : En} (h : e.flags ≠ []) : lineE e = e.word.data.toList ++ 47 :: ptL e.flags := by
  unfold lineE
  rw [if_neg h]

set_option maxRecDepth 100000 in
set_option maxHeartbeats 2000000 in
theorem gline_any (w : World) (x : En) (sv : Value) (h : IntsAt w sv x.flags) (hw : x.word.size ≤ 1000000000) (hn : x.flags.length ≤ 100000000) :
    Calls Tryd.prog 23 #[.agg #[.string x.word, sv]] w fun e w' => e = .returned (.string ⟨(lineE x).toArray⟩) ∧ Below w.heap.size w w' := by
  obtain ⟨A, cap, rfl, hA⟩ := ints_open h
  obtain ⟨n, hnn⟩ : ∃ n, n = x.flags.length := ⟨_, rfl⟩
  rw [← hnn] at hn hA ⊢
  obtain ⟨W, hW⟩ : ∃ W, W = x.word := ⟨_, rfl⟩
  rw [← hW] at hw ⊢
  obtain ⟨W0, hW0⟩ : ∃ W0, W0 = w.alloc (.cells #[.string W, .slice A n cap] 43) := ⟨_, rfl⟩
  have hb0 : Below w.heap.size w W0 := by rw [hW0]; exact (Below.refl _ _).alloc (Nat.le_refl _) _
  have hlt0 : w.heap.size < W0.heap.size := by rw [hW0, World.size_alloc]; omega
  have BX := Lib.hid (show ∀ wx, Below W0.heap.size W0 wx → wx.cell? ⟨w.heap.size, 0, none⟩ = some (.string W) ∧ wx.cell? ⟨w.heap.size, 1, none⟩ = some (.slice A n cap) from fun wx hb => by
    have := ebox2 (hW0 ▸ hb)
    exact ⟨this.1, this.2.1⟩)
  have HB := Lib.hid (show ∀ wx, Below W0.heap.size W0 wx → Below w.heap.size w wx from fun wx hb => hb0.trans (hb.mono hb0.size))
  have HN := Lib.hid (And.intro hnn hW)
  have HW0 := Lib.hid hW0
  have HA := Lib.hid (show ∀ wx, Below W0.heap.size W0 wx → ∀ (i : Nat) c, x.flags[i]? = some c → ∃ q o, A = some ⟨q, o, none⟩ ∧ n ≤ cap ∧ wx.cell? ⟨q, o + i, none⟩ = some (.int .i64 c) from fun wx hb i c hi => by
    obtain ⟨q, o, h1, h2, h3, h4⟩ := hA i c hi
    exact ⟨q, o, h1, h3, (cell_old (p := ⟨q, o + i, none⟩) (hb0.trans (hb.mono hb0.size)) h2).trans h4⟩)
  clear hA h hb0 hlt0
  by_cases hz : n = 0
  · have HR := Lib.hid (show (⟨(lineE x).toArray⟩ : ByteArray) = W by
      rw [lineE_none (List.eq_nil_of_length_eq_zero (by omega)), ← hW, ba_list])
    subst hz
    clear hnn hW
    obtain ⟨x0, x1⟩ := BX.out W0 (Below.refl _ _)
    go_enter Tryd.func23, Tryd.ntmps23
    go_upto_region 1 with fail
    rw [← HW0.out]
    clear hW0
    go_wp2_with fail
    go_ret
    exact ⟨by rw [HR.out]; rfl, HB.out _ (Below.refl _ _)⟩
  · have hz1 : ((n : Int) == 0) = false := by simp; omega
    have HNE := Lib.hid (show x.flags ≠ [] by
      intro e
      rw [e] at hnn
      exact hz hnn)
    have HNEW := Lib.hid (builder_new W0.heap.size W0 (Nat.le_refl _))
    have HB1 := Lib.hid ((Below.refl W0.heap.size W0).alloc (Nat.le_refl _) (.cells #[.pointer none, .slice none 0 0] 53))
    have HZ := Lib.hid hz
    clear hnn hW hz
    go_enter Tryd.func23, Tryd.ntmps23
    go_upto_region 1 with fail
    rw [← HW0.out]
    clear hW0
    obtain ⟨x0, x1⟩ := BX.out W0 (Below.refl _ _)
    obtain ⟨y0, y1⟩ := BX.out _ HB1.out
    go_wp2_with fail
    clear x0 x1 y0 y1
    go_loopg [5, 15] n (fun g _ i wr => ∃ k : Nat, k + g = n ∧ i = .int .i64 k ∧ Hid (Lib.IsBuilder 53 5 W0.heap.size W0.heap.size (Lib.byteCells (ptL (x.flags.take k))) wr ∧ Below W0.heap.size W0 wr))
    case atStart => exact ⟨0, by omega, rfl, Lib.hid ⟨HNEW.out, HB1.out⟩⟩
    case round =>
      obtain ⟨k, hk, rfl, HM⟩ := hrel
      have hk0 : (0 : Int) ≤ k := by omega
      rcases Nat.eq_zero_or_pos gk with h0 | h0
      · have hkn : ¬ (k : Int) < n := by omega
        have hfull : x.flags.take k = x.flags := List.take_of_length_le (by have := HN.out.1; omega)
        have hbld := HM.out.1
        rw [hfull] at hbld
        have hpl := gptL_len x.flags
        obtain ⟨P, hP⟩ : ∃ P, P = ptL x.flags := ⟨_, rfl⟩
        rw [← hP] at hbld hpl
        have HR := Lib.hid (show (⟨(lineE x).toArray⟩ : ByteArray) = W ++ (⟨#[47]⟩ : ByteArray) ++ ⟨P.toArray⟩ by
          rw [lineE_some HNE.out, ← HN.out.2, ← hP]
          rw [← ba_list (W ++ (⟨#[47]⟩ : ByteArray) ++ ⟨P.toArray⟩), g_app, g_app]
          simp)
        have hdr := Below.drew (Below.refl wr.heap.size wr)
        have CS := Lib.hid (show Calls Tryd.prog 24 #[.pointer (some ⟨W0.heap.size, 0, none⟩)] wr.drew fun e w' => e = .returned (.string ⟨P.toArray⟩) ∧ ((w'.cell? ⟨w.heap.size, 0, none⟩ = some (.string W) ∧ w'.cell? ⟨w.heap.size, 1, none⟩ = some (.slice A n cap)) ∧ Hid (Below W0.heap.size W0 w')) from by
          refine (string_any W0.heap.size W0.heap.size P wr.drew (builder_below hbld hdr) (HM.out.2.drew).size).mono ?_
          rintro e w' ⟨rfl, hb⟩
          have hbb := HM.out.2.drew.trans hb
          exact ⟨rfl, BX.out _ hbb, Lib.hid hbb⟩)
        obtain ⟨PS, hPS⟩ : ∃ S : ByteArray, S = ⟨P.toArray⟩ := ⟨_, rfl⟩
        have hPs : PS.size ≤ 400000000 := by rw [hPS, gsz]; have := HN.out.1; omega
        rw [← hPS] at CS HR
        have HS0 := Lib.hid (show ((wr.drew.cell? ⟨w.heap.size, 0, none⟩ = some (.string W) ∧ wr.drew.cell? ⟨w.heap.size, 1, none⟩ = some (.slice A n cap)) ∧ Hid (Below W0.heap.size W0 wr.drew)) from ⟨BX.out _ HM.out.2.drew, Lib.hid HM.out.2.drew⟩)
        have n1 : ¬ (9223372036854775807 < W.size + 1) := by omega
        have n2 : ¬ (9223372036854775807 < W.size + 1 + PS.size) := by omega
        clear hfull hbld hpl hP hdr hPS hPs
        go_upto_region 9 with fail
        go_region_held3 (fun wx => ((wx.cell? ⟨w.heap.size, 0, none⟩ = some (.string W) ∧ wx.cell? ⟨w.heap.size, 1, none⟩ = some (.slice A n cap)) ∧ Hid (Below W0.heap.size W0 wx)))
          (first | exact HS0.out | assumption)
          (first | (go_at_call 24; refine CS.out.mono ?_; rintro e w5 ⟨rfl, hs⟩))
        have HE := Lib.hid (HB.out _ hs.2.out)
        clear hs
        go_wp2_with fail
        go_ret
        exact ⟨by rw [HR.out]; rfl, HE.out⟩
      · have hkn : (k : Int) < n := by omega
        obtain ⟨c, hc⟩ : ∃ c, x.flags[k]? = some c := ⟨_, List.getElem?_eq_getElem (by have := HN.out.1; omega)⟩
        obtain ⟨q, o, rfl, hcap, xc⟩ := HA.out wr HM.out.2 k c hc
        have hcap2 : (n : Int) ≤ cap := by omega
        have HTK := Lib.hid (gptL_take hc)
        have CB := Lib.hid (fun wx => gbytes_any c wx)
        have hlen : (Lib.byteCells (ptL (x.flags.take k))).length ≤ 400000000 := by
          have h1 := gptL_len (x.flags.take k)
          rw [List.length_take] at h1
          rw [Lib.byteCells_length]
          have := HN.out.1
          omega
        have hgs : (gBy c).size ≤ 4 := by unfold gBy; rw [gsz]; exact gptB_len c
        have CW := Lib.hid (writes_any W0.heap.size W0.heap.size _ (gBy c) wr HM.out.1 (by omega) HM.out.2.size)
        have HGB := Lib.hid (show Lib.strCells (gBy c) = Lib.byteCells (ptB c) from rfl)
        obtain ⟨G, hG⟩ : ∃ G, G = gBy c := ⟨_, rfl⟩
        rw [← hG] at CB CW HGB
        have HM1 := Lib.hid HM.out.2
        clear hc hcap hlen hgs hG HM
        go_wp2_with (first
          | (go_at_call 35; refine (CB.out _).mono ?_; rintro e w1 ⟨rfl, hw1⟩; have hw2 := hw1.symm; clear hw1; subst hw2)
          | (go_at_call 22; refine CW.out.mono ?_; rintro e w3 ⟨⟨v3, rfl⟩, hbld3, hb3⟩; have HX3 := Lib.hid (And.intro hbld3 hb3); clear hbld3 hb3))
        have HM3 := Lib.hid (show Lib.IsBuilder 53 5 W0.heap.size W0.heap.size (Lib.byteCells (ptL (x.flags.take (k + 1)))) w3 ∧ Below W0.heap.size W0 w3 from ⟨by
          have h1 := HX3.out.1
          rw [HGB.out, cells_app, ← HTK.out] at h1
          exact h1, HM1.out.trans HX3.out.2⟩)
        clear HX3
        go_roundg (gk - 1)
        case measure => omega
        case rel => exact ⟨k + 1, by omega, by go_num, HM3⟩

theorem gfileE_take {es : List En} {k : Nat} {e : En} (h : es[k]? = some e) : fileE (es.take (k + 1)) = fileE (es.take k) ++ (lineE e ++ [10]) := by
  obtain ⟨hlt, he⟩ := List.getElem?_eq_some_iff.1 h
  unfold fileE
  rw [List.take_succ_eq_append_getElem hlt, he, List.flatMap_append]
  simp
theorem gfileE_len {es : List En} (h : FewE es) (k : Nat) : (fileE (es.take k)).length ≤ 21000000 := by
  have key : ∀ (l : List En), (∀ e ∈ l, e.word.size ≤ 2000 ∧ e.flags.length ≤ 2000) → (fileE l).length ≤ l.length * 10002 := by
    intro l
    induction l with
    | nil => intro _; simp [fileE]
    | cons e l ih =>
      intro hl
      have h1 := ih fun x hx => hl x (List.mem_cons_of_mem _ hx)
      have h2 := hl e (List.mem_cons_self ..)
      have h3 := lineE_len e
      unfold fileE at h1 ⊢
      rw [List.flatMap_cons, List.length_append, List.length_append]
      show _ + 1 + _ ≤ (l.length + 1) * 10002
      omega
  have h1 := key (es.take k) fun e he => ⟨h.word e (List.mem_of_mem_take he), h.flags e (List.mem_of_mem_take he)⟩
  have h2 : (es.take k).length ≤ 2000 := by rw [List.length_take]; have := h.len; omega
  have h3 : (es.take k).length * 10002 ≤ 2000 * 10002 := Nat.mul_le_mul_right _ h2
  omega

set_option maxRecDepth 100000 in
set_option maxHeartbeats 2000000 in
theorem gtext_any (w : World) (v : Value) (es : List En) (h : EntsAt w v es) (hF : FewE es) (hT : Lib.Utf8Tabs 1 2 w) :
    Calls Tryd.prog 13 #[v] w fun e w' => e = .returned (.string (textE es)) ∧ Below w.heap.size w w' := by
  have HV := Lib.hid (fun wx (hb : Below w.heap.size w wx) => h.keep hb)
  obtain ⟨A, cap, rfl, hA⟩ := ents_openO h
  obtain ⟨n, hn⟩ : ∃ n, n = es.length := ⟨_, rfl⟩
  rw [← hn] at hA HV ⊢
  have hn2 : n ≤ 2000 := by have := hF.len; omega
  have HA := Lib.hid hA
  have HN := Lib.hid hn
  have HF := Lib.hid hF
  have HT := Lib.hid (show ∀ wx, Below w.heap.size w wx → Lib.Utf8Tabs 1 2 wx from fun wx hb => tabs_below hT hb)
  have HNEW := Lib.hid (builder_new w.heap.size w (Nat.le_refl _))
  have HB1 := Lib.hid ((Below.refl w.heap.size w).alloc (Nat.le_refl _) (.cells #[.pointer none, .slice none 0 0] 53))
  obtain ⟨X, hX⟩ : ∃ X, X = textE es := ⟨_, rfl⟩
  rw [← hX]
  have HX := Lib.hid hX
  clear h hA hn hF hT hX
  go_enter Tryd.func13, Tryd.ntmps13
  go_wp2_with fail
  go_loopg [5, 12] n (fun g _ i wr => ∃ k : Nat, k + g = n ∧ i = .int .i64 k ∧ Hid (Lib.IsBuilder 53 5 w.heap.size w.heap.size (Lib.byteCells (fileE (es.take k))) wr ∧ Below w.heap.size w wr))
  case atStart => exact ⟨0, by omega, rfl, Lib.hid ⟨HNEW.out, HB1.out⟩⟩
  case round =>
    obtain ⟨k, hk, rfl, HM⟩ := hrel
    have hk0 : (0 : Int) ≤ k := by omega
    rcases Nat.eq_zero_or_pos gk with h0 | h0
    · have hkn : ¬ (k : Int) < n := by omega
      have hbld := HM.out.1
      have hfl := gfileE_len HF.out k
      rw [List.take_of_length_le (by have := HN.out; omega)] at hbld hfl
      obtain ⟨L, hL⟩ : ∃ L, L = fileE es := ⟨_, rfl⟩
      rw [← hL] at hbld hfl
      have C := Lib.hid (string_any w.heap.size w.heap.size L wr hbld HM.out.2.size)
      obtain ⟨FS, hFS⟩ : ∃ S : ByteArray, S = ⟨L.toArray⟩ := ⟨_, rfl⟩
      rw [← hFS] at C
      have hsz : FS.size ≤ 1000000000 := by rw [hFS, gsz]; omega
      have CP := Lib.hid (fun wx (hb : Below w.heap.size w wx) => gparse_any wx FS hsz (HT.out _ hb))
      obtain ⟨m, hm⟩ : ∃ m, m = (parseE FS).1 := ⟨_, rfl⟩
      obtain ⟨ln, hln⟩ : ∃ m, m = (parseE FS).2.1 := ⟨_, rfl⟩
      obtain ⟨er, her⟩ : ∃ m, m = (parseE FS).2.2 := ⟨_, rfl⟩
      have HTO := Lib.hid (show X = if m = es ∧ er = 0 then FS else ⟨#[]⟩ by
        rw [HX.out, hm, her, hFS, hL]; rfl)
      have HPA := Lib.hid (show ∀ wy w' e, PAns wy w' (parseE FS) e → ∃ v, e = .returned (.tuple #[v, .int .i64 (ln : Nat), .int .i64 er]) ∧ EntsAt w' v m ∧ Below wy.heap.size wy w' from fun wy w' e h => by
        rw [hm, hln, her]; exact h)
      have HBM := Lib.hid HM.out.2
      clear hbld hfl hL hFS hsz hm hln her HM HX
      by_cases he0 : er = 0
      · subst he0
        by_cases hme : m = es
        · rw [if_pos ⟨hme, rfl⟩] at HTO
          have HME := Lib.hid (decide_eq_true hme)
          clear hme
          go_wp2_with (first
            | (go_at_call 24; refine C.out.mono ?_; rintro e w2 ⟨rfl, hb2⟩; have HB2 := Lib.hid (HBM.out.trans hb2); clear hb2)
            | (go_at_call 10; refine (CP.out _ HB2.out).mono ?_; intro e w3 hpa; obtain ⟨v3, rfl, hv3, hb3⟩ := HPA.out _ w3 e hpa; clear hpa; have HB3 := Lib.hid (HB2.out.trans (hb3.mono HB2.out.size)); have CE := Lib.hid (gequal_any w3 v3 (.slice A n cap) m es hv3 (HV.out _ HB3.out)); rw [HME.out] at CE; clear hv3 hb3)
            | (go_at_call 25; refine CE.out.mono ?_; rintro e w4 ⟨rfl, hb4⟩; have HB4 := Lib.hid (HB3.out.trans (hb4.mono HB3.out.size)); clear hb4))
          go_ret
          exact ⟨by rw [HTO.out]; rfl, HB4.out⟩
        · rw [if_neg (fun e => hme e.1)] at HTO
          have HME := Lib.hid (decide_eq_false hme)
          clear hme
          go_wp2_with (first
            | (go_at_call 24; refine C.out.mono ?_; rintro e w2 ⟨rfl, hb2⟩; have HB2 := Lib.hid (HBM.out.trans hb2); clear hb2)
            | (go_at_call 10; refine (CP.out _ HB2.out).mono ?_; intro e w3 hpa; obtain ⟨v3, rfl, hv3, hb3⟩ := HPA.out _ w3 e hpa; clear hpa; have HB3 := Lib.hid (HB2.out.trans (hb3.mono HB2.out.size)); have CE := Lib.hid (gequal_any w3 v3 (.slice A n cap) m es hv3 (HV.out _ HB3.out)); rw [HME.out] at CE; clear hv3 hb3)
            | (go_at_call 25; refine CE.out.mono ?_; rintro e w4 ⟨rfl, hb4⟩; have HB4 := Lib.hid (HB3.out.trans (hb4.mono HB3.out.size)); clear hb4))
          go_ret
          exact ⟨by rw [HTO.out]; rfl, HB4.out⟩
      · rw [if_neg (fun e => he0 e.2)] at HTO
        have hd : (er == 0) = false := by simpa using he0
        have hd2 : (er != 0) = true := by simpa using he0
        have hd3 : (!(er == 0)) = true := by rw [hd]; rfl
        clear he0
        go_wp2_with (first
          | (go_at_call 24; refine C.out.mono ?_; rintro e w2 ⟨rfl, hb2⟩; have HB2 := Lib.hid (HBM.out.trans hb2); clear hb2)
          | (go_at_call 10; refine (CP.out _ HB2.out).mono ?_; intro e w3 hpa; obtain ⟨v3, rfl, -, hb3⟩ := HPA.out _ w3 e hpa; clear hpa; have HB3 := Lib.hid (HB2.out.trans (hb3.mono HB2.out.size)); clear hb3))
        go_ret
        exact ⟨by rw [HTO.out]; rfl, HB3.out⟩
    · have hkn : (k : Int) < n := by omega
      obtain ⟨x, hx⟩ : ∃ x, es[k]? = some x := ⟨_, List.getElem?_eq_getElem (by have := HN.out; omega)⟩
      obtain ⟨b, off, rfl, hb, hcap, x0, FA, fn, fc, x1, hfl⟩ := HA.out k x hx
      have hcap2 : (n : Int) ≤ cap := by omega
      have y0 := (HM.out.2.cell (p := ⟨b, off + k * 2, none⟩) hb).trans x0
      have y1 := (HM.out.2.cell (p := ⟨b, off + k * 2 + 1, none⟩) hb).trans x1
      have hws := HF.out.word x (List.mem_of_getElem? hx)
      have hfs := HF.out.flags x (List.mem_of_getElem? hx)
      have hb1 := (Below.refl wr.heap.size wr).alloc (Nat.le_refl _) (.cells #[.string x.word, .slice FA fn fc] 43)
      have CLN := Lib.hid (gline_any (wr.alloc (.cells #[.string x.word, .slice FA fn fc] 43)) x (.slice FA fn fc) (hfl.keep (HM.out.2.trans (hb1.mono HM.out.2.size))) (by omega) (by omega))
      have hll := lineE_len x
      have HTK := Lib.hid (gfileE_take hx)
      have hfle := gfileE_len HF.out k
      have HBL := Lib.hid (show Lib.IsBuilder 53 5 w.heap.size w.heap.size (Lib.byteCells (fileE (es.take k))) (wr.alloc (.cells #[.string x.word, .slice FA fn fc] 43)) ∧ Below w.heap.size w (wr.alloc (.cells #[.string x.word, .slice FA fn fc] 43)) from ⟨builder_below HM.out.1 hb1, HM.out.2.trans (hb1.mono HM.out.2.size)⟩)
      obtain ⟨T, hTT⟩ : ∃ T : ByteArray, T = ⟨(lineE x).toArray⟩ := ⟨_, rfl⟩
      rw [← hTT] at CLN
      have hTs : T.size ≤ 20000 := by rw [hTT, gsz]; omega
      have HTD := Lib.hid (show Lib.strCells (T ++ (⟨#[10]⟩ : ByteArray)) = Lib.byteCells (lineE x ++ [10]) by
        have h1 : (T ++ (⟨#[10]⟩ : ByteArray)) = ⟨(lineE x ++ [10]).toArray⟩ := by
          rw [← ba_list (T ++ (⟨#[10]⟩ : ByteArray)), g_app, hTT]
        rw [h1]; rfl)
      have hlen : (Lib.byteCells (fileE (es.take k))).length ≤ 21000000 := by rw [Lib.byteCells_length]; exact hfle
      have CW := Lib.hid (fun wx (hbw : Lib.IsBuilder 53 5 w.heap.size w.heap.size (Lib.byteCells (fileE (es.take k))) wx) (hsw : w.heap.size ≤ wx.heap.size) => writes_any w.heap.size w.heap.size _ (T ++ (⟨#[10]⟩ : ByteArray)) wx hbw (by rw [ByteArray.size_append]; have h3 : (⟨#[10]⟩ : ByteArray).size = 1 := rfl; omega) hsw)
      have n1 : ¬ (9223372036854775807 < T.size + 1) := by omega
      obtain ⟨W, hW⟩ : ∃ W, W = x.word := ⟨_, rfl⟩
      rw [← hW] at y0 CLN HBL
      clear hx hb hcap x0 x1 hfl hb1 hll hfle hTT hTs hlen hws hfs hW HM
      go_wp2_with (first
        | (go_at_call 23; refine CLN.out.mono ?_; rintro e w2 ⟨rfl, hb2⟩; have HB2 := Lib.hid (And.intro (builder_below HBL.out.1 hb2) (HBL.out.2.trans (hb2.mono HBL.out.2.size))); clear hb2)
        | (go_at_call 22; refine (CW.out _ HB2.out.1 HB2.out.2.size).mono ?_; rintro e w3 ⟨⟨v3, rfl⟩, hbld3, hb3⟩; have HX3 := Lib.hid (And.intro hbld3 hb3); clear hbld3 hb3))
      have HM3 := Lib.hid (show Lib.IsBuilder 53 5 w.heap.size w.heap.size (Lib.byteCells (fileE (es.take (k + 1)))) w3 ∧ Below w.heap.size w w3 from ⟨by
        have h1 := HX3.out.1
        rw [HTD.out, cells_app, ← HTK.out] at h1
        exact h1, HB2.out.2.trans HX3.out.2⟩)
      clear HX3
      go_roundg (gk - 1)
      case measure => omega
      case rel => exact ⟨k + 1, by omega, by go_num, HM3⟩
/-- What stage 12's laws ask of list's calls is met. -/
theorem list_says : SaysL Tabs9 where
  kept := fun _ _ h hb => tabs_below h hb
  parse := fun w s hT hs => (gparse_any w s (by omega) hT).mono fun _ _ ⟨v, he, ha, hb⟩ => ⟨v, he, ha, hb⟩
  text := fun w v es hT ha hf => gtext_any w v es ha hf hT
end Go.Proofs.YtmadlappalhmlaaDoor
