/- The document's Text of chapter 12 by contract. -/
import Derived.Test.YtmadlappalhmlaaDoorYParse
import Derived.Test.YtmadlappalhmlaaDoorYSame
import Derived.Laws.IdiomStrings
namespace Go.Proofs.YtmadlappalhmlaaDoor
open Go Go.RowKit Go.Lib

theorem e_app (a b : ByteArray) : (a ++ b).data.toList = a.data.toList ++ b.data.toList := by
  rw [ByteArray.data_append, Array.toList_append]
theorem fileE_take {es : List En} {k : Nat} {e : En} (h : es[k]? = some e) : fileE (es.take (k + 1)) = fileE (es.take k) ++ (lineE e ++ [10]) := by
  obtain ⟨hlt, he⟩ := List.getElem?_eq_some_iff.1 h
  unfold fileE
  rw [List.take_succ_eq_append_getElem hlt, he, List.flatMap_append]
  simp
/-- What stands behind a word so far. -/
def partF (fs : List Int) (q : Nat) : List UInt8 := if q = 0 then [] else 47 :: ptL (fs.take q)
theorem ptB_len (c : Int) : (ptB c).length ≤ 4 := by
  unfold ptB
  split
  · exact enc_len c
  · exact Nat.zero_le _
theorem ptL_len12 : ∀ cs : List Int, (ptL cs).length ≤ 4 * cs.length
  | [] => Nat.le_refl _
  | c :: cs => by
    have ih := ptL_len12 cs
    have h1 := ptB_len c
    unfold ptL at ih ⊢
    rw [List.flatMap_cons, List.length_append, List.length_cons]
    omega
theorem partF_len (fs : List Int) (q : Nat) : (partF fs q).length ≤ 1 + 4 * fs.length := by
  unfold partF
  split
  · simp
  · have h1 := ptL_len12 (fs.take q)
    rw [List.length_take] at h1
    rw [List.length_cons]
    omega
theorem partF_all (e : En) : lineE e = e.word.data.toList ++ partF e.flags e.flags.length := by
  unfold lineE partF
  rw [List.take_of_length_le (Nat.le_refl _)]
  congr 1
  by_cases h : e.flags = []
  · rw [if_pos h, h]; rfl
  · rw [if_neg h, if_neg]
    intro h2
    exact h (List.eq_nil_of_length_eq_zero h2)
theorem ptL_take12 {cs : List Int} {k : Nat} {c : Int} (h : cs[k]? = some c) : ptL (cs.take (k + 1)) = ptL (cs.take k) ++ ptB c := by
  obtain ⟨hlt, he⟩ := List.getElem?_eq_some_iff.1 h
  unfold ptL
  rw [List.take_succ_eq_append_getElem hlt, he, List.flatMap_append]
  simp
theorem partF_step {fs : List Int} {q : Nat} {f : Int} (h : fs[q]? = some f) : partF fs (q + 1) = partF fs q ++ ((if q = 0 then [47] else []) ++ ptB f) := by
  unfold partF
  rw [if_neg (Nat.succ_ne_zero q), ptL_take12 h]
  by_cases hq : q = 0
  · subst hq; simp [ptL]
  · rw [if_neg hq, if_neg hq]; simp
theorem fileE_len {es : List En} (h : FewE es) (k : Nat) : (fileE (es.take k)).length ≤ 21000000 := by
  have key : ∀ (l : List En), (∀ e ∈ l, e.word.size ≤ 2000 ∧ e.flags.length ≤ 2000) → (fileE l).length ≤ l.length * 10002 := by
    intro l
    induction l with
    | nil => intro _; simp [fileE]
    | cons e l ih =>
      intro hl
      have h1 := ih fun x hx => hl x (List.mem_cons_of_mem _ hx)
      have h2 := hl e (List.mem_cons_self ..)
      have h3 := partF_len e.flags e.flags.length
      have h4 : e.word.data.toList.length = e.word.size := (Lib.size_eq _).symm
      unfold fileE at h1 ⊢
      rw [List.flatMap_cons, List.length_append, List.length_append, partF_all, List.length_append]
      show _ + _ + 1 + _ ≤ (l.length + 1) * 10002
      omega
  have h1 := key (es.take k) fun e he => ⟨h.word e (List.mem_of_mem_take he), h.flags e (List.mem_of_mem_take he)⟩
  have h2 : (es.take k).length ≤ 2000 := by rw [List.length_take]; have := h.len; omega
  have h3 : (es.take k).length * 10002 ≤ 2000 * 10002 := Nat.mul_le_mul_right _ h2
  omega

set_option maxRecDepth 100000 in
theorem conv1 (w : World) (b : UInt8) (x : Nat) (hx : b.toNat = x) :
    (convert 38 9 (.slice (some ⟨w.heap.size, 0, none⟩) 1 1)).run Tryd.prog (w.alloc (.cells #[.int .u8 x] 5)) = .ok (.string ⟨#[b]⟩) (w.alloc (.cells #[.int .u8 x] 5)) := by
  subst hx
  have h := run_convert_bytes_back (P := Tryd.prog) (w.alloc (.cells #[.int .u8 b.toNat] 5)) 38 9 5 ⟨w.heap.size, 0, none⟩ 1 [b] Tryd.underlying38 Tryd.underlying5 Tryd.underlying9 (fun j hj => by
    obtain rfl : j = 0 := by simpa using hj
    exact news_row w _ _ 0 _ rfl)
  exact h

set_option maxRecDepth 100000 in
set_option maxHeartbeats 4000000 in
theorem etext_any (w : World) (v : Value) (es : List En) (h : EntsAt w v es) (hF : FewE es) :
    Calls Tryd.prog 14 #[v] w fun e w' => e = .returned (.string (textE es)) ∧ Below w.heap.size w w' := by
  obtain ⟨A, cap, rfl⟩ := ents_form h
  have hl := h.bd.1
  unfold maxLen at hl
  have HE := Lib.hid h
  obtain ⟨n, hn⟩ : ∃ n, n = es.length := ⟨_, rfl⟩
  have hA := ents_open h
  rw [← hn] at hA hl HE ⊢
  have HA := Lib.hid hA
  have HN := Lib.hid hn
  have HF := Lib.hid hF
  obtain ⟨X, hX⟩ : ∃ X, X = textE es := ⟨_, rfl⟩
  rw [← hX]
  have HX := Lib.hid hX
  clear h hA hn hF hX
  go_enter Tryd.func14, Tryd.ntmps14
  go_wp2_with fail
  go_loopg [3, 4, 5] n (fun g sv i _ wr => ∃ (k : Nat) (P : ByteArray), k + g = n ∧ i = .int .i64 k ∧ sv = .string P ∧ Hid (Below w.heap.size w wr ∧ P.data.toList = fileE (es.take k)))
  case atStart => exact ⟨0, _, by omega, rfl, rfl, Lib.hid ⟨Below.refl _ _, rfl⟩⟩
  case round =>
    obtain ⟨k, P, hk, rfl, rfl, HP⟩ := hrel
    have hk0 : (0 : Int) ≤ k := by omega
    have hPs : P.size ≤ 21000000 := by rw [Lib.size_eq, HP.out.2]; exact fileE_len HF.out k
    rcases Nat.eq_zero_or_pos gk with h0 | h0
    · have hkn : ¬ (k : Int) < n := by omega
      have hPf : P = ⟨(fileE es).toArray⟩ := by
        have h1 := HP.out.2
        rw [List.take_of_length_le (by have := HN.out; omega)] at h1
        rw [← h1, ba_list]
      have CP := Lib.hid (eparse_any wr P (by omega))
      obtain ⟨m, hm⟩ : ∃ m, m = (parseE P).1 := ⟨_, rfl⟩
      obtain ⟨ln, hln⟩ : ∃ m, m = (parseE P).2.1 := ⟨_, rfl⟩
      obtain ⟨er, her⟩ : ∃ m, m = (parseE P).2.2 := ⟨_, rfl⟩
      have HT := Lib.hid (show X = if m = es ∧ er = 0 then P else ⟨#[]⟩ by
        rw [HX.out, hm, her, hPf]; rfl)
      have HPA := Lib.hid (show ∀ w' e, ParseAns wr w' (parseE P) e → ∃ v, e = .returned (.tuple #[v, .int .i64 (ln : Nat), .int .i64 er]) ∧ EntsAt w' v m ∧ Below wr.heap.size wr w' from fun w' e h => by
        rw [hm, hln, her]; exact h)
      have HB := Lib.hid HP.out.1
      clear hPf hm hln her HP HX
      by_cases he0 : er = 0
      · subst he0
        have SM := Lib.hid (fun w2 v2 (hb : Below wr.heap.size wr w2) (hv : EntsAt w2 v2 m) => esame_any w2 (.slice A n cap) v2 es m (HE.out.keep (HB.out.trans (hb.mono HB.out.size))) hv)
        by_cases hme : m = es
        · rw [decide_eq_true hme.symm] at SM
          rw [if_pos ⟨hme, rfl⟩] at HT
          clear hme
          go_wp2_with (first
            | (go_at_call 11; refine CP.out.mono ?_; intro e w2 hpa; obtain ⟨v2, rfl, hv2, hb2⟩ := HPA.out w2 e hpa; clear hpa; have SM2 := Lib.hid (SM.out w2 v2 hb2 hv2); have HB2 := Lib.hid (HB.out.trans (hb2.mono HB.out.size)); clear hv2 hb2)
            | (go_at_call 12; refine SM2.out.mono ?_; rintro e w3 ⟨rfl, hb3⟩; have HB3 := Lib.hid (HB2.out.trans (hb3.mono HB2.out.size)); clear hb3))
          go_ret
          exact ⟨by rw [HT.out]; rfl, HB3.out⟩
        · rw [decide_eq_false (fun e => hme e.symm)] at SM
          rw [if_neg (fun e => hme e.1)] at HT
          clear hme
          go_wp2_with (first
            | (go_at_call 11; refine CP.out.mono ?_; intro e w2 hpa; obtain ⟨v2, rfl, hv2, hb2⟩ := HPA.out w2 e hpa; clear hpa; have SM2 := Lib.hid (SM.out w2 v2 hb2 hv2); have HB2 := Lib.hid (HB.out.trans (hb2.mono HB.out.size)); clear hv2 hb2)
            | (go_at_call 12; refine SM2.out.mono ?_; rintro e w3 ⟨rfl, hb3⟩; have HB3 := Lib.hid (HB2.out.trans (hb3.mono HB2.out.size)); clear hb3))
          go_ret
          exact ⟨by rw [HT.out]; rfl, HB3.out⟩
      · rw [if_neg (fun e => he0 e.2)] at HT
        have hd : (er == 0) = false := by simpa using he0
        have hd2 : (er != 0) = true := by simpa using he0
        have hd3 : (!(er == 0)) = true := by rw [hd]; rfl
        clear he0
        go_wp2_with (go_at_call 11; refine CP.out.mono ?_; intro e w2 hpa; obtain ⟨v2, rfl, -, hb2⟩ := HPA.out w2 e hpa; clear hpa; have HB2 := Lib.hid (HB.out.trans (hb2.mono HB.out.size)); clear hb2)
        go_ret
        exact ⟨by rw [HT.out]; rfl, HB2.out⟩
    · have hkn : (k : Int) < n := by omega
      obtain ⟨en, hen⟩ : ∃ e, es[k]? = some e := ⟨_, List.getElem?_eq_getElem (by have := HN.out; omega)⟩
      obtain ⟨b, off, rfl, hb, hnc, x0, FA, fc, x1, hfl⟩ := HA.out k en hen
      have hnc2 : (n : Int) ≤ cap := by omega
      obtain ⟨FX, cx, ex, hfo⟩ := ints_open hfl
      injection ex with e1 e2 e3
      subst e1 e3
      have hws := HF.out.word en (List.mem_of_getElem? hen)
      have hfs := HF.out.flags en (List.mem_of_getElem? hen)
      have y0 := (HP.out.1.cell (p := ⟨b, off + k * 2, none⟩) hb).trans x0
      have HC := Lib.hid (show ∀ wx, Below wr.heap.size wr wx → wx.cell? ⟨b, off + k * 2 + 1, none⟩ = some (.slice FA en.flags.length fc) from fun wx hbb => ((HP.out.1.trans (hbb.mono HP.out.1.size)).cell (p := ⟨b, off + k * 2 + 1, none⟩) hb).trans x1)
      have HFO := Lib.hid (show ∀ wx, Below wr.heap.size wr wx → ∀ (i : Nat) c, en.flags[i]? = some c → ∃ q o, FA = some ⟨q, o, none⟩ ∧ en.flags.length ≤ fc ∧ wx.cell? ⟨q, o + i, none⟩ = some (.int .i64 c) from fun wx hbb i c hi => by
        obtain ⟨q, o, h1, h2, h3, h4⟩ := hfo i c hi
        exact ⟨q, o, h1, h3, ((HP.out.1.trans (hbb.mono HP.out.1.size)).cell (p := ⟨q, o + i, none⟩) h2).trans h4⟩)
      have HFT := Lib.hid (fileE_take hen)
      have HNO := Lib.hid (show ∀ f ∈ en.flags, (f < 0 ∨ 127 < f) → X = ⟨#[]⟩ from fun f hf hb => by rw [HX.out]; exact textE_no (List.mem_of_getElem? hen) hf hb)
      have HPL := Lib.hid HP.out.2
      have HBP := Lib.hid HP.out.1
      obtain ⟨W, hW⟩ : ∃ W, W = en.word := ⟨_, rfl⟩
      obtain ⟨fs, hfs2⟩ : ∃ W, W = en.flags := ⟨_, rfl⟩
      have HLE := Lib.hid (show lineE en = W.data.toList ++ partF fs fs.length by rw [hW, hfs2]; exact partF_all en)
      rw [← hW] at y0 hws
      rw [← hfs2] at HC HFO HNO hfs
      obtain ⟨m, hm⟩ : ∃ m, m = fs.length := ⟨_, rfl⟩
      rw [← hm] at HC HFO HLE hfs
      have HM := Lib.hid hm
      obtain ⟨go, hgo⟩ : ∃ g, g = gk := ⟨_, rfl⟩
      have HGO := Lib.hid hgo
      have n0 : ¬ (9223372036854775807 < P.size + W.size) := by omega
      have hPW : (P ++ W).size = P.size + W.size := ByteArray.size_append
      clear hen x0 x1 hfl hfo hb hnc hW hfs2 hm hgo HP HX HA
      go_wp2_with fail
      clear y0
      obtain ⟨PW, hPWn⟩ : ∃ Q, Q = P ++ W := ⟨_, rfl⟩
      rw [← hPWn] at hPW ⊢
      have HPW := Lib.hid (show PW.data.toList = fileE (es.take k) ++ W.data.toList by rw [hPWn, e_app, HPL.out])
      clear hPWn
      go_loopg [3, 5] m (fun g sv j wx => ∃ (q : Nat) (Q : ByteArray), q + g = m ∧ j = .int .i64 q ∧ sv = .string Q ∧ Hid (Below wr.heap.size wr wx ∧ Q.data.toList = PW.data.toList ++ partF fs q))
      case atStart => exact ⟨0, _, by omega, rfl, rfl, Lib.hid ⟨Below.refl _ _, by simp [partF]⟩⟩
      case round =>
        obtain ⟨q, Q, hq, rfl, rfl, HQ⟩ := hrel
        have hq0 : (0 : Int) ≤ q := by omega
        have y1 := HC.out _ HQ.out.1
        have hQs : Q.size ≤ 22000000 := by
          have h1 := partF_len fs q
          have h2 : PW.data.toList.length = PW.size := (Lib.size_eq _).symm
          have := HM.out
          rw [Lib.size_eq, HQ.out.2, List.length_append]
          omega
        have n1 : ¬ (9223372036854775807 < Q.size + 1) := by omega
        rcases Nat.eq_zero_or_pos gk with h00 | h00
        · have hqm : ¬ (q : Int) < m := by omega
          have HR := Lib.hid (show (Q ++ (⟨#[10]⟩ : ByteArray)).data.toList = fileE (es.take (k + 1)) by
            obtain rfl : q = m := by omega
            rw [e_app, HQ.out.2, HPW.out, HFT.out, HLE.out]
            simp)
          have HB4 := Lib.hid (HBP.out.trans (HQ.out.1.mono HBP.out.size))
          go_wp2_with fail
          go_roundg (go - 1)
          case measure => have := HGO.out; omega
          case rel => exact ⟨k + 1, _, by have := HGO.out; omega, by go_num, rfl, Lib.hid ⟨HB4.out, HR.out⟩⟩
        · have hqm : (q : Int) < m := by omega
          obtain ⟨f, hf⟩ : ∃ f, fs[q]? = some f := ⟨_, List.getElem?_eq_getElem (by have := HM.out; omega)⟩
          obtain ⟨fq, fo, rfl, hfc, cf⟩ := HFO.out _ HQ.out.1 q f hf
          have hmc : (m : Int) ≤ fc := by omega
          have HST := Lib.hid (partF_step hf)
          have HB5 := Lib.hid (HBP.out.trans (HQ.out.1.mono HBP.out.size))
          have HNF := Lib.hid (show (f < 0 ∨ 127 < f) → X = ⟨#[]⟩ from HNO.out f (List.mem_of_getElem? hf))
          by_cases f0 : f < 0
          · have HZ := Lib.hid (HNF.out (.inl f0))
            clear hf
            rcases Nat.eq_zero_or_pos q with hz | hz
            · subst hz
              have cf0 : wr.cell? ⟨fq, fo, none⟩ = some (.int .i64 f) := cf
              go_wp2_with fail
              go_ret
              exact ⟨by rw [HZ.out]; rfl, HB5.out⟩
            · have hqz : ((q : Int) == 0) = false := by simp; omega
              go_wp2_with fail
              go_ret
              exact ⟨by rw [HZ.out]; rfl, HB5.out⟩
          by_cases f1 : 127 < f
          · have HZ := Lib.hid (HNF.out (.inr f1))
            clear hf
            rcases Nat.eq_zero_or_pos q with hz | hz
            · subst hz
              have cf0 : wr.cell? ⟨fq, fo, none⟩ = some (.int .i64 f) := cf
              go_wp2_with fail
              go_ret
              exact ⟨by rw [HZ.out]; rfl, HB5.out⟩
            · have hqz : ((q : Int) == 0) = false := by simp; omega
              go_wp2_with fail
              go_ret
              exact ⟨by rw [HZ.out]; rfl, HB5.out⟩
          obtain ⟨x, rfl⟩ : ∃ x : Nat, f = x := ⟨f.toNat, by omega⟩
          obtain ⟨c, hc⟩ : ∃ c : UInt8, c = UInt8.ofNat x := ⟨_, rfl⟩
          have hcx : c.toNat = x := by rw [hc]; exact ofNat_toNat x (by omega)
          have hpt := ptB_asc (b := c) (by omega)
          rw [hcx] at hpt
          rw [hpt] at HST
          have hconv := fun wx => conv1 wx c x hcx
          have hmod : (x : Int) % 256 = x := by omega
          have HB6 := Lib.hid (HQ.out.1.alloc HQ.out.1.size (.cells #[.int .u8 x] 5))
          have n2 : ¬ (9223372036854775807 < Q.size + 1 + 1) := by omega
          clear hf hc hcx hpt HNF
          rcases Nat.eq_zero_or_pos q with hz | hz
          · subst hz
            have cf0 : wr.cell? ⟨fq, fo, none⟩ = some (.int .i64 x) := cf
            have HR := Lib.hid (show (Q ++ (⟨#[47]⟩ : ByteArray) ++ (⟨#[c]⟩ : ByteArray)).data.toList = PW.data.toList ++ partF fs (0 + 1) by
              rw [e_app, e_app, HQ.out.2, HST.out]
              simp)
            go_wp2_with fail
            go_roundg (gk - 1)
            case measure => omega
            case rel => exact ⟨0 + 1, _, by omega, by go_num, rfl, Lib.hid ⟨HB6.out, HR.out⟩⟩
          · have hqz : ((q : Int) == 0) = false := by simp; omega
            have HR := Lib.hid (show (Q ++ (⟨#[c]⟩ : ByteArray)).data.toList = PW.data.toList ++ partF fs (q + 1) by
              rw [e_app, HQ.out.2, HST.out, if_neg (by omega)]
              simp)
            go_wp2_with fail
            go_roundg (gk - 1)
            case measure => omega
            case rel => exact ⟨q + 1, _, by omega, by go_num, rfl, Lib.hid ⟨HB6.out, HR.out⟩⟩
end Go.Proofs.YtmadlappalhmlaaDoor
