/- The document's Text of chapter 11 by contract. -/
import Derived.Test.YteenleedonmkmaaGreatDoorVParse
import Derived.Test.YteenleedonmkmaaGreatDoorVSame
import Derived.Test.YteenleedonmkmaaGreatDoorVLines
import Derived.Test.YteenleedonmkmaaGreatDoorPText
import Derived.Test.YteenleedonmkmaaGreatDoorMPlain
import Derived.Deep.RegionHeld3
namespace Go.Proofs.YteenleedonmkmaaGreatDoor
open Go Go.RowKit Go.Lib

def vRule (r : Ru) : List UInt8 := (textR r).data.toList ++ [10]
def vPair (p : Int × Int) : List UInt8 := pairT p ++ [10]
theorem fileL_vparts (a : Af) : fileL a = a.rules.flatMap vRule ++ a.pairs.flatMap vPair := by
  unfold fileL
  rw [List.flatMap_append, List.flatMap_map, List.flatMap_map]
  rfl
theorem vflat_take {α : Type} {f : α → List UInt8} {l : List α} {k : Nat} {x : α} (h : l[k]? = some x) : (l.take (k + 1)).flatMap f = (l.take k).flatMap f ++ f x := by
  obtain ⟨hlt, he⟩ := List.getElem?_eq_some_iff.1 h
  rw [List.take_succ_eq_append_getElem hlt, he, List.flatMap_append]
  simp
theorem vflat_len {α : Type} {f : α → List UInt8} {N : Nat} : ∀ (l : List α), (∀ x ∈ l, (f x).length ≤ N) → (l.flatMap f).length ≤ l.length * N
  | [], _ => by simp
  | x :: l, h => by
    have ih := vflat_len l fun y hy => h y (List.mem_cons_of_mem _ hy)
    have h1 := h x (List.mem_cons_self ..)
    rw [List.flatMap_cons, List.length_append, List.length_cons, Nat.add_mul]
    omega
theorem vsz (l : List UInt8) : (⟨l.toArray⟩ : ByteArray).size = l.length := by show l.toArray.size = _; rw [List.size_toArray]
theorem vtext_len {r : Ru} (h : FewR r) : (textR r).size ≤ 100000 := by
  have hg := textG_len h.items h.sets
  unfold textR
  split
  · rw [vsz]
    have k1 := line_len r (textG r.cond).data.toList
    have k2 : (textG r.cond).data.toList.length = (textG r.cond).size := (Lib.size_eq _).symm
    have := h.strip
    have := h.add
    omega
  · show (0 : Nat) ≤ _; omega
theorem FewA.ru {a : Af} (h : FewA a) : ∀ r ∈ a.rules, FewR r := fun r hr => ⟨h.items r hr, h.sets r hr, h.strip r hr, h.add r hr⟩
theorem FewA.vlen {a : Af} (h : FewA a) : (fileL a).length ≤ 30000000 := by
  rw [fileL_vparts, List.length_append]
  have h1 := vflat_len (f := vRule) (N := 100001) a.rules fun r hr => by
    unfold vRule
    rw [List.length_append, ← Lib.size_eq]
    have := vtext_len (h.ru r hr)
    show _ + 1 ≤ _
    omega
  have h2 := vflat_len (f := vPair) (N := 20) a.pairs fun p _ => by
    unfold vPair pairT ptL
    have kc : ∀ c, (ptB c).length ≤ 4 := fun c => by
      unfold ptB
      split
      · exact enc_len c
      · exact Nat.zero_le _
    have k1 := kc p.1
    have k2 := kc p.2
    have e2 : caseW.length = 5 := rfl
    rw [List.length_append, List.length_append, List.flatMap_cons, List.flatMap_cons, List.flatMap_nil, List.length_append, List.length_append, e2]
    show 5 + (_ + (_ + 0)) + 1 ≤ _
    omega
  have k1 : a.rules.length * 100001 ≤ 200 * 100001 := Nat.mul_le_mul_right _ h.rules
  have k2 : a.pairs.length * 20 ≤ 200 * 20 := Nat.mul_le_mul_right _ h.pairs
  omega
theorem parsed_few {s : ByteArray} : ∀ r ∈ (parseA s).1.rules, r.cond.length ≤ 100000 ∧ ∀ it ∈ r.cond, it.set.length ≤ 100000 := fun r hr => by
  obtain ⟨l, hl, h1, h2⟩ := parseA_from hr
  obtain ⟨-, k1, k2, -, -⟩ := parseR_wide hl
  have hz : (⟨l.toArray⟩ : ByteArray).size = l.length := vsz l
  exact ⟨by omega, fun it hit => by have := k2 it hit; omega⟩
def vBy (c : Int) : ByteArray := ⟨(ptB c).toArray⟩
theorem vBy_len (c : Int) : (vBy c).size ≤ 4 := by
  unfold vBy
  rw [vsz]
  unfold ptB
  split
  · exact enc_len c
  · exact Nat.zero_le _
theorem vrule_str (S : List UInt8) (r : Ru) : (⟨S.toArray⟩ : ByteArray) ++ textR r ++ ⟨#[10]⟩ = ⟨(S ++ vRule r).toArray⟩ := by
  apply ByteArray.ext
  apply Array.toList_inj.1
  unfold vRule
  simp
theorem vpair_str (S : List UInt8) (p : Int × Int) : (⟨S.toArray⟩ : ByteArray) ++ ⟨#[67, 65, 83, 69, 32]⟩ ++ vBy p.1 ++ vBy p.2 ++ ⟨#[10]⟩ = ⟨(S ++ vPair p).toArray⟩ := by
  apply ByteArray.ext
  apply Array.toList_inj.1
  unfold vPair pairT vBy caseW ptL
  simp

set_option maxRecDepth 100000 in
set_option maxHeartbeats 1000000 in
theorem rtextA_any (w : World) (v : Value) (a : Af) (h : AffAt w v a) (hf : FewA a) (hfl : ∀ r ∈ a.rules, -9223372036854775808 ≤ r.flag ∧ r.flag ≤ 9223372036854775807) :
    Calls Tryz.prog 10 #[v] w fun e w' => e = .returned (.string (textA a)) ∧ Below w.heap.size w w' := by
  obtain ⟨A, cA, B, cB, rfl, hA, hB⟩ := h
  obtain ⟨n, hn⟩ : ∃ n, n = a.rules.length := ⟨_, rfl⟩
  obtain ⟨m, hm⟩ : ∃ n, n = a.pairs.length := ⟨_, rfl⟩
  rw [← hn] at hA ⊢
  rw [← hm] at hB ⊢
  have hn2 : n ≤ 200 := by have := hf.rules; omega
  have hm2 : m ≤ 200 := by have := hf.pairs; omega
  obtain ⟨W0, hW0⟩ : ∃ W0, W0 = w.alloc (.cells #[.slice A n cA, .slice B m cB] 25) := ⟨_, rfl⟩
  have hb0 : Below w.heap.size w W0 := by rw [hW0]; exact (Below.refl _ _).alloc (Nat.le_refl _) _
  have HB := Lib.hid hb0
  have BX := Lib.hid (show ∀ wx, Below W0.heap.size W0 wx → _ from fun wx hb => box2 (hW0 ▸ hb))
  have HW0 := Lib.hid hW0
  have HN := Lib.hid (And.intro hn hm)
  have HA := Lib.hid (rules_open (hA.keep hb0))
  have HP := Lib.hid (pairs_open (hB.keep hb0))
  have HF := Lib.hid (And.intro hf hfl)
  have HAF := Lib.hid (show AffAt W0 (.agg #[.slice A n cA, .slice B m cB]) a from ⟨A, cA, B, cB, by rw [hn, hm], by rw [← hn]; exact hA.keep hb0, by rw [← hm]; exact hB.keep hb0⟩)
  have hto : textA a = if (parseA ⟨(fileL a).toArray⟩).1 = a ∧ (parseA ⟨(fileL a).toArray⟩).2.2 = 0 then ⟨(fileL a).toArray⟩ else ⟨#[]⟩ := rfl
  obtain ⟨X, hX⟩ : ∃ X, X = textA a := ⟨_, rfl⟩
  rw [← hX] at hto ⊢
  have HTX := Lib.hid hto
  clear hA hB hf hfl hn hm hb0 hto hX
  go_enter Tryz.func10, Tryz.ntmps10
  go_upto_region 1 with fail
  rw [← HW0.out]
  clear hW0
  go_wp2_with fail
  go_loopg [3, 4] n (fun g sv i wr => ∃ k : Nat, k + g = n ∧ i = .int .i64 k ∧ sv = .string ⟨((a.rules.take k).flatMap vRule).toArray⟩ ∧ Hid (Below W0.heap.size W0 wr))
  case atStart => exact ⟨0, by omega, rfl, by rw [List.take_zero]; rfl, Lib.hid (Below.refl _ _)⟩
  case round =>
    obtain ⟨k, hk, rfl, rfl, HM⟩ := hrel
    have hk0 : (0 : Int) ≤ k := by omega
    obtain ⟨x0, x1⟩ := BX.out wr HM.out
    rcases Nat.eq_zero_or_pos gk with h0 | h0
    · have hkm : ¬ (k : Int) < n := by omega
      have HST := Lib.hid (show (a.rules.take k).flatMap vRule = a.rules.flatMap vRule ++ (a.pairs.take 0).flatMap vPair by
        rw [List.take_of_length_le (by have := HN.out.1; omega), List.take_zero, List.flatMap_nil, List.append_nil])
      rw [HST.out]
      go_wp2_with fail
      clear x0 x1
      go_loopg [3, 5] m (fun g sv i wx => ∃ q : Nat, q + g = m ∧ i = .int .i64 q ∧ sv = .string ⟨(a.rules.flatMap vRule ++ (a.pairs.take q).flatMap vPair).toArray⟩ ∧ Hid (Below W0.heap.size W0 wx))
      case atStart => exact ⟨0, by omega, rfl, by rw [List.take_zero, List.flatMap_nil, List.append_nil], HM⟩
      case round =>
        obtain ⟨q, hq, rfl, rfl, HQ⟩ := hrel
        have hq0 : (0 : Int) ≤ q := by omega
        obtain ⟨x0, x1⟩ := BX.out wr HQ.out
        rcases Nat.eq_zero_or_pos gk with h0 | h0
        · have hqm : ¬ (q : Int) < m := by omega
          have HFL := Lib.hid (show a.rules.flatMap vRule ++ (a.pairs.take q).flatMap vPair = fileL a by
            rw [List.take_of_length_le (by have := HN.out.2; omega), ← fileL_vparts])
          rw [HFL.out]
          obtain ⟨L, hL⟩ : ∃ L, L = fileL a := ⟨_, rfl⟩
          have hlen := HF.out.1.vlen
          rw [← hL] at HTX hlen ⊢
          obtain ⟨FS, hFS⟩ : ∃ S : ByteArray, S = ⟨L.toArray⟩ := ⟨_, rfl⟩
          have hsz : FS.size ≤ 1000000000 := by rw [hFS, vsz]; omega
          rw [← hFS] at HTX ⊢
          have CP := Lib.hid (rparseA_any wr FS hsz)
          obtain ⟨O, hO⟩ : ∃ O, O = parseA FS := ⟨_, rfl⟩
          rw [← hO] at CP HTX
          have HFIT := Lib.hid (show ∀ r ∈ O.1.rules, r.cond.length ≤ 100000 ∧ ∀ it ∈ r.cond, it.set.length ≤ 100000 by rw [hO]; exact parsed_few)
          clear hL hFS hsz hO hlen
          go_wp2_with (go_at_call 7; refine CP.out.mono ?_)
          rintro e w3 ⟨v3, rfl, hat3, hb3⟩
          obtain ⟨D, dc, E, ec, rfl, hD, hE⟩ := id hat3
          have HB3 := Lib.hid (HQ.out.trans (hb3.mono HQ.out.size))
          obtain ⟨dl, hdl⟩ : ∃ d, d = O.1.rules.length := ⟨_, rfl⟩
          obtain ⟨el, hel⟩ : ∃ d, d = O.1.pairs.length := ⟨_, rfl⟩
          rw [← hdl, ← hel] at hat3 ⊢
          have hb4 := (Below.refl w3.heap.size w3).alloc (Nat.le_refl _) (.cells #[.slice D dl dc, .slice E el ec] 25)
          have HB4 := Lib.hid (HB3.out.trans (hb4.mono HB3.out.size))
          have CL := Lib.hid (rasame_any _ _ _ a O.1 (HAF.out.keep HB4.out) (hat3.keep hb4) (fun r hr => ⟨by have := HF.out.1.items r hr; omega, fun it hit => by have := HF.out.1.sets r hr it hit; omega⟩) HFIT.out)
          have HBR := Lib.hid (show ∀ wx, Below W0.heap.size W0 wx → Below w.heap.size w wx from fun wx hb => HB.out.trans (hb.mono HB.out.size))
          clear x0 x1
          obtain ⟨x0, x1⟩ := BX.out _ HB4.out
          obtain ⟨tb, htb⟩ : ∃ b, b = decide (a = O.1) := ⟨_, rfl⟩
          rw [← htb] at CL
          have HTB := Lib.hid htb
          clear hat3 hD hE hb3 hb4 hdl hel htb CP
          by_cases hc : O.2.2 = 0
          · rw [hc]
            cases tb with
            | true =>
              have HZ := Lib.hid (show X = FS from HTX.out.trans (if_pos ⟨(of_decide_eq_true HTB.out.symm).symm, hc⟩))
              clear hc
              go_wp2_with (go_at_call 8; refine CL.out.mono ?_; rintro e w5 ⟨rfl, hb5⟩; have HB5 := Lib.hid (HB4.out.trans (hb5.mono HB4.out.size)); clear hb5)
              go_ret
              exact ⟨by rw [HZ.out]; rfl, HBR.out _ HB5.out⟩
            | false =>
              have HZ := Lib.hid (show X = ⟨#[]⟩ from HTX.out.trans (if_neg fun h => of_decide_eq_false HTB.out.symm h.1.symm))
              clear hc
              go_wp2_with (go_at_call 8; refine CL.out.mono ?_; rintro e w5 ⟨rfl, hb5⟩; have HB5 := Lib.hid (HB4.out.trans (hb5.mono HB4.out.size)); clear hb5)
              go_ret
              exact ⟨by rw [HZ.out]; rfl, HBR.out _ HB5.out⟩
          · have HZ := Lib.hid (show X = ⟨#[]⟩ from HTX.out.trans (if_neg fun h => hc h.2))
            obtain ⟨cc, hcc⟩ : ∃ c, c = O.2.2 := ⟨_, rfl⟩
            rw [← hcc] at hc ⊢
            clear hcc CL
            go_wp2_with fail
            go_ret
            exact ⟨by rw [HZ.out]; rfl, HBR.out _ HB4.out⟩
        · have hqm : (q : Int) < m := by omega
          obtain ⟨p, hp⟩ : ∃ p, a.pairs[q]? = some p := ⟨_, List.getElem?_eq_getElem (by have := HN.out.2; omega)⟩
          obtain ⟨b, off, rfl, hb, hc1, e0, e1⟩ := HP.out q p hp
          have hm1 : (m : Int) ≤ cB := by omega
          have hft := vflat_take (f := vPair) hp
          have hfl : (a.rules.flatMap vRule ++ (a.pairs.take q).flatMap vPair).length ≤ 30000000 := by
            have h1 := HF.out.1.vlen
            rw [fileL_vparts, List.length_append] at h1
            have h2 : (a.pairs.flatMap vPair).length = ((a.pairs.take q).flatMap vPair).length + ((a.pairs.drop q).flatMap vPair).length := by
              rw [← List.length_append, ← List.flatMap_append, List.take_append_drop]
            rw [List.length_append]
            omega
          have hps := vpair_str (a.rules.flatMap vRule ++ (a.pairs.take q).flatMap vPair) p
          obtain ⟨P1, P2⟩ := p
          dsimp only at e0 e1 hps
          obtain ⟨S0, hS0⟩ : ∃ S : ByteArray, S = ⟨(a.rules.flatMap vRule ++ (a.pairs.take q).flatMap vPair).toArray⟩ := ⟨_, rfl⟩
          obtain ⟨S1, hS1⟩ : ∃ S, S = vBy P1 := ⟨_, rfl⟩
          obtain ⟨S2, hS2⟩ : ∃ S, S = vBy P2 := ⟨_, rfl⟩
          have z1 : S1.size ≤ 4 := hS1 ▸ vBy_len P1
          have z2 : S2.size ≤ 4 := hS2 ▸ vBy_len P2
          have z0 : S0.size ≤ 30000000 := by rw [hS0, vsz]; exact hfl
          rw [← hS0, ← hS1, ← hS2] at hps
          have HPS := Lib.hid (show S0 ++ ⟨#[67, 65, 83, 69, 32]⟩ ++ S1 ++ S2 ++ ⟨#[10]⟩ = ⟨(a.rules.flatMap vRule ++ (a.pairs.take (q + 1)).flatMap vPair).toArray⟩ by rw [hps, hft, List.append_assoc])
          have CB1 := Lib.hid (fun wx => rbytes9 wx P1)
          have CB2 := Lib.hid (fun wx => rbytes9 wx P2)
          unfold vBy at hS1 hS2
          rw [← hS1] at CB1
          rw [← hS2] at CB2
          rw [← hS0]
          have n0 : ¬ (9223372036854775807 < S0.size + 5) := by omega
          have n1 : ¬ (9223372036854775807 < S0.size + 5 + S1.size) := by omega
          have n2 : ¬ (9223372036854775807 < S0.size + 5 + S1.size + S2.size) := by omega
          have n3 : ¬ (9223372036854775807 < S0.size + 5 + S1.size + S2.size + 1) := by omega
          have HM2 := Lib.hid (show ∀ wx, Below W0.heap.size W0 wx → (wx.cell? ⟨w.heap.size, 1, none⟩ = some (.slice (some ⟨b, off, none⟩) m cB) ∧ wx.cell? ⟨b, off + q * 2, none⟩ = some (.int .i64 P1) ∧ wx.cell? ⟨b, off + q * 2 + 1, none⟩ = some (.int .i64 P2) ∧ Hid (Below W0.heap.size W0 wx)) from fun wx hb2 => ⟨(BX.out wx hb2).2, (hb2.cell (p := ⟨b, off + q * 2, none⟩) hb).trans e0, (hb2.cell (p := ⟨b, off + q * 2 + 1, none⟩) hb).trans e1, Lib.hid hb2⟩)
          have D1 := Lib.hid (show ∀ wx, (wx.cell? ⟨w.heap.size, 1, none⟩ = some (.slice (some ⟨b, off, none⟩) m cB) ∧ wx.cell? ⟨b, off + q * 2, none⟩ = some (.int .i64 P1) ∧ wx.cell? ⟨b, off + q * 2 + 1, none⟩ = some (.int .i64 P2) ∧ Hid (Below W0.heap.size W0 wx)) → Calls Tryz.prog 24 #[.int .i64 P1] wx fun e w' => e = .returned (.string S1) ∧ (w'.cell? ⟨w.heap.size, 1, none⟩ = some (.slice (some ⟨b, off, none⟩) m cB) ∧ w'.cell? ⟨b, off + q * 2, none⟩ = some (.int .i64 P1) ∧ w'.cell? ⟨b, off + q * 2 + 1, none⟩ = some (.int .i64 P2) ∧ Hid (Below W0.heap.size W0 w')) from fun wx hx => by
            refine (CB1.out wx).mono ?_
            rintro e w' ⟨rfl, hbb⟩
            exact ⟨rfl, HM2.out w' (hx.2.2.2.out.trans (hbb.mono hx.2.2.2.out.size))⟩)
          have D2 := Lib.hid (show ∀ wx, (wx.cell? ⟨w.heap.size, 1, none⟩ = some (.slice (some ⟨b, off, none⟩) m cB) ∧ wx.cell? ⟨b, off + q * 2, none⟩ = some (.int .i64 P1) ∧ wx.cell? ⟨b, off + q * 2 + 1, none⟩ = some (.int .i64 P2) ∧ Hid (Below W0.heap.size W0 wx)) → Calls Tryz.prog 24 #[.int .i64 P2] wx fun e w' => e = .returned (.string S2) ∧ (w'.cell? ⟨w.heap.size, 1, none⟩ = some (.slice (some ⟨b, off, none⟩) m cB) ∧ w'.cell? ⟨b, off + q * 2, none⟩ = some (.int .i64 P1) ∧ w'.cell? ⟨b, off + q * 2 + 1, none⟩ = some (.int .i64 P2) ∧ Hid (Below W0.heap.size W0 w')) from fun wx hx => by
            refine (CB2.out wx).mono ?_
            rintro e w' ⟨rfl, hbb⟩
            exact ⟨rfl, HM2.out w' (hx.2.2.2.out.trans (hbb.mono hx.2.2.2.out.size))⟩)
          have HS0 := Lib.hid (HM2.out wr.drew HQ.out.drew)
          clear e0 e1 hc1 hp hft hfl hS0 hS1 hS2 hps CB1 CB2
          go_upto_region 9 with fail
          clear x0 x1 hb
          go_region_held3 (fun wx => (wx.cell? ⟨w.heap.size, 1, none⟩ = some (.slice (some ⟨b, off, none⟩) m cB) ∧ wx.cell? ⟨b, off + q * 2, none⟩ = some (.int .i64 P1) ∧ wx.cell? ⟨b, off + q * 2 + 1, none⟩ = some (.int .i64 P2) ∧ Hid (Below W0.heap.size W0 wx)))
            (first | exact HS0.out | assumption)
            (first
              | (go_at_call 24; have hz := hdone1; clear hz; refine (D2.out _ (by assumption)).mono ?_; rintro e w5 ⟨rfl, hs⟩)
              | (go_at_call 24; refine (D1.out _ (by assumption)).mono ?_; rintro e w5 ⟨rfl, hs⟩; have hdone1 : True := trivial))
          have HQ5 := Lib.hid (show Below W0.heap.size W0 w5 from hs.2.2.2.out)
          clear hs
          go_wp2_with fail
          go_roundg (gk - 1)
          case measure => omega
          case rel => exact ⟨q + 1, by omega, by go_num, congrArg Value.string HPS.out, HQ5⟩
    · have hkm : (k : Int) < n := by omega
      obtain ⟨r, hr⟩ : ∃ r, a.rules[k]? = some r := ⟨_, List.getElem?_eq_getElem (by have := HN.out.1; omega)⟩
      obtain ⟨b, off, rfl, hb, hc1, hRU⟩ := HA.out k r hr
      obtain ⟨D, dc, e0, e1, e2, e3, e4, e5, hat⟩ := (hRU.keep HM.out hb).at_
      have hm1 : (n : Int) ≤ cA := by omega
      have hrm := List.mem_of_getElem? hr
      have CT := Lib.hid (rtext10_any wr _ r hat (HF.out.1.ru r hrm) (HF.out.2 r hrm).1 (HF.out.2 r hrm).2)
      have htl := vtext_len (HF.out.1.ru r hrm)
      have hft := vflat_take (f := vRule) hr
      have hfl : ((a.rules.take k).flatMap vRule).length ≤ 30000000 := by
        have h1 := HF.out.1.vlen
        rw [fileL_vparts, List.length_append] at h1
        have h2 : (a.rules.flatMap vRule).length = ((a.rules.take k).flatMap vRule).length + ((a.rules.drop k).flatMap vRule).length := by
          rw [← List.length_append, ← List.flatMap_append, List.take_append_drop]
        omega
      have hps := vrule_str ((a.rules.take k).flatMap vRule) r
      obtain ⟨S0, hS0⟩ : ∃ S : ByteArray, S = ⟨((a.rules.take k).flatMap vRule).toArray⟩ := ⟨_, rfl⟩
      have z0 : S0.size ≤ 30000000 := by rw [hS0, vsz]; exact hfl
      obtain ⟨T, hTT⟩ : ∃ T, T = textR r := ⟨_, rfl⟩
      rw [← hTT] at CT htl hps
      rw [← hS0] at hps ⊢
      have HPS := Lib.hid (show S0 ++ T ++ ⟨#[10]⟩ = ⟨((a.rules.take (k + 1)).flatMap vRule).toArray⟩ by rw [hps, hft])
      obtain ⟨dl, hdl⟩ : ∃ d, d = r.cond.length := ⟨_, rfl⟩
      rw [← hdl] at CT e5
      have n0 : ¬ (9223372036854775807 < S0.size + T.size) := by omega
      have n1 : ¬ (9223372036854775807 < S0.size + T.size + 1) := by omega
      clear hRU hr hat hdl hb hc1 hrm hft hTT hfl hps hS0
      obtain ⟨p, f, x, s, ad, l⟩ := r
      dsimp only at e0 e1 e2 e3 e4 CT
      go_wp2_with (go_at_call 23; refine CT.out.mono ?_; rintro e w2 ⟨rfl, hb2⟩; have HB2 := Lib.hid (HM.out.trans (hb2.mono HM.out.size)); clear hb2)
      go_roundg (gk - 1)
      case measure => omega
      case rel => exact ⟨k + 1, by omega, by go_num, congrArg Value.string HPS.out, HB2⟩
end Go.Proofs.YteenleedonmkmaaGreatDoor
