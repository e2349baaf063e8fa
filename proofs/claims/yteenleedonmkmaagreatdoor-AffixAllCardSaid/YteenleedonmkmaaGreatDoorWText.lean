/- The landed Text by contract; what stage 11's laws ask is met. -/
import Derived.Test.YteenleedonmkmaaGreatDoorWParse
import Derived.Test.YteenleedonmkmaaGreatDoorWAlike
import Derived.Test.YteenleedonmkmaaGreatDoorOBuild
import Derived.Test.YteenleedonmkmaaGreatDoorQFrame
import Derived.StillTailTactics
namespace Go.Proofs.YteenleedonmkmaaGreatDoor
open Go Go.RowKit Go.Lib

def ruleLine (r : Ru) : List UInt8 := (textR r).data.toList ++ [10]
def pairLine (p : Int × Int) : List UInt8 := pairT p ++ [10]
theorem fileL_parts (a : Af) : fileL a = a.rules.flatMap ruleLine ++ a.pairs.flatMap pairLine := by
  unfold fileL
  rw [List.flatMap_append, List.flatMap_map, List.flatMap_map]
  rfl
theorem flat_take {α : Type} {f : α → List UInt8} {l : List α} {k : Nat} {x : α} (h : l[k]? = some x) : (l.take (k + 1)).flatMap f = (l.take k).flatMap f ++ f x := by
  obtain ⟨hlt, he⟩ := List.getElem?_eq_some_iff.1 h
  rw [List.take_succ_eq_append_getElem hlt, he, List.flatMap_append]
  simp
theorem flat_len {α : Type} {f : α → List UInt8} {N : Nat} : ∀ (l : List α), (∀ x ∈ l, (f x).length ≤ N) → (l.flatMap f).length ≤ l.length * N
  | [], _ => by simp
  | x :: l, h => by
    have ih := flat_len l fun y hy => h y (List.mem_cons_of_mem _ hy)
    have h1 := h x (List.mem_cons_self ..)
    rw [List.flatMap_cons, List.length_append, List.length_cons, Nat.add_mul]
    omega
theorem wor0_len (s : ByteArray) : (or0L s).length ≤ s.size + 1 := by
  unfold or0L
  split
  · simp
  · rw [Lib.size_eq]; omega
theorem wtext_len {r : Ru} (h1 : r.cond.length ≤ 12) (h2 : ∀ it ∈ r.cond, it.set.length ≤ 2000) (h3 : r.strip.size ≤ 200) (h4 : r.add.size ≤ 200) : (textR r).size ≤ 100000 := by
  have hg : (textG r.cond).size ≤ 96200 := by
    unfold textG
    split
    · rw [str_size]
      have k1 := textC_len r.cond h2
      have k2 := ptL_len (textC r.cond)
      have k3 : r.cond.length * (2000 + 3) ≤ 12 * (2000 + 3) := Nat.mul_le_mul_right _ h1
      omega
    · show (0 : Nat) ≤ _; omega
  unfold textR
  split
  · rw [str_size]
    have k1 := wor0_len r.strip
    have k2 := wor0_len r.add
    have k3 : (textG r.cond).data.toList.length = (textG r.cond).size := (Lib.size_eq _).symm
    unfold lineL
    cases r.pre <;> cases r.cross <;> simp [pfx, sfx] <;> omega
  · show (0 : Nat) ≤ _; omega
theorem FewA.fit {a : Af} (h : FewA a) : ∀ r ∈ a.rules, FitR r := fun r hr =>
  ⟨by have := h.items r hr; omega, fun it hit => by have := h.sets r hr it hit; omega, by have := h.strip r hr; omega, by have := h.add r hr; omega⟩
theorem parsed_fit {s : ByteArray} : ∀ r ∈ (parseA s).1.rules, FitR r := fun r hr => by
  obtain ⟨l, hl, h1, h2⟩ := parseA_from hr
  obtain ⟨-, k1, k2, k3, k4⟩ := parseR_wide hl
  have hz : (⟨l.toArray⟩ : ByteArray).size = l.length := str_size l
  exact ⟨by omega, fun it hit => by have := k2 it hit; omega, by omega, by omega⟩
theorem FewA.len {a : Af} (h : FewA a) : (fileL a).length ≤ 30000000 := by
  rw [fileL_parts, List.length_append]
  have h1 := flat_len (f := ruleLine) (N := 100001) a.rules fun r hr => by
    unfold ruleLine
    rw [List.length_append, ← Lib.size_eq]
    have := wtext_len (h.items r hr) (h.sets r hr) (h.strip r hr) (h.add r hr)
    show _ + 1 ≤ _
    omega
  have h2 := flat_len (f := pairLine) (N := 20) a.pairs fun p _ => by
    unfold pairLine pairT
    have := ptL_len [p.1, p.2]
    rw [List.length_append, List.length_append]
    have e : [p.1, p.2].length = 2 := rfl
    have e2 : caseW.length = 5 := rfl
    rw [e] at this
    rw [e2]
    show _ + 1 ≤ _
    omega
  have k1 : a.rules.length * 100001 ≤ 200 * 100001 := Nat.mul_le_mul_right _ h.rules
  have k2 : a.pairs.length * 20 ≤ 200 * 20 := Nat.mul_le_mul_right _ h.pairs
  omega
/-- Code points' bytes. -/
def ptBy (c : Int) : ByteArray := ⟨(ptB c).toArray⟩
theorem wbytes_any (c : Int) (w : World) : Calls Tryz.prog 20 #[.int .i64 c] w fun e w' => e = .returned (.string (ptBy c)) ∧ w' = w := by
  refine (bytes_any c w).mono ?_
  rintro e w' ⟨rfl, rfl⟩
  refine ⟨?_, rfl⟩
  unfold ptBy bytesOf ptB
  split
  · cases Utf8.encode c; simp
  · rfl
theorem ptBy_len (c : Int) : (ptBy c).size ≤ 4 := by
  unfold ptBy
  rw [str_size]
  exact ptB_lenO c
theorem line_str (t : ByteArray) : (t ++ (⟨#[10]⟩ : ByteArray)).data.toList = t.data.toList ++ [10] := by
  rw [ByteArray.data_append, Array.toList_append]
theorem pair_str (p : Int × Int) : ((⟨#[67, 65, 83, 69, 32]⟩ : ByteArray) ++ ptBy p.1 ++ ptBy p.2 ++ ⟨#[10]⟩).data.toList = pairLine p := by
  unfold pairLine pairT ptBy caseW ptL
  simp only [ByteArray.data_append, Array.toList_append, List.flatMap_cons, List.flatMap_nil, List.append_nil, List.append_assoc]

set_option maxRecDepth 100000 in
set_option maxHeartbeats 1000000 in
theorem wtext_any (w : World) (v : Value) (a : Af) (h : AffAt w v a) (hf : FewA a) (hT : Lib.Utf8Tabs 1 2 w) :
    Calls Tryz.prog 9 #[v] w fun e w' => e = .returned (.string (textA a)) ∧ Below w.heap.size w w' := by
  obtain ⟨A, cA, B, cB, rfl, hA, hB⟩ := h
  obtain ⟨n, hn⟩ : ∃ n, n = a.rules.length := ⟨_, rfl⟩
  obtain ⟨m, hm⟩ : ∃ n, n = a.pairs.length := ⟨_, rfl⟩
  rw [← hn] at hA ⊢
  rw [← hm] at hB ⊢
  have hn2 : n ≤ 200 := by have := hf.rules; omega
  have hm2 : m ≤ 200 := by have := hf.pairs; omega
  obtain ⟨W0, hW0⟩ : ∃ W0, W0 = w.alloc (.cells #[.slice A n cA, .slice B m cB] 25) := ⟨_, rfl⟩
  have hb0 : Below w.heap.size w W0 := by rw [hW0]; exact (Below.refl _ _).alloc (Nat.le_refl _) _
  have HB := Lib.hid hb0
  have BX := Lib.hid (show ∀ wx, Below W0.heap.size W0 wx → _ from fun wx hb => box2 (hW0 ▸ hb))
  have HW0 := Lib.hid hW0
  have HN := Lib.hid (And.intro hn hm)
  have HA := Lib.hid (rules_open (hA.keep hb0))
  have HP := Lib.hid (pairs_open (hB.keep hb0))
  have HT := Lib.hid (tabs_below hT hb0)
  have HF := Lib.hid hf
  have HAF := Lib.hid (show AffAt W0 (.agg #[.slice A n cA, .slice B m cB]) a from ⟨A, cA, B, cB, by rw [hn, hm], by rw [← hn]; exact hA.keep hb0, by rw [← hm]; exact hB.keep hb0⟩)
  have HNEW := Lib.hid (builder_new W0.heap.size W0 (Nat.le_refl _))
  have HB1 := Lib.hid ((Below.refl W0.heap.size W0).alloc (Nat.le_refl _) (.cells #[.pointer none, .slice none 0 0] 57))
  have hto := textA_told a
  obtain ⟨X, hX⟩ : ∃ X, X = textA a := ⟨_, rfl⟩
  rw [← hX] at hto ⊢
  have HTX := Lib.hid hto
  clear hA hB hf hT hn hm hb0 hto hX
  go_enter Tryz.func9, Tryz.ntmps9
  go_upto_region 1 with fail
  rw [← HW0.out]
  clear hW0
  obtain ⟨x0, x1⟩ := BX.out _ HB1.out
  go_wp2_with fail
  clear x0 x1
  go_loopg [5, 15] n (fun g _ i wr => ∃ k : Nat, k + g = n ∧ i = .int .i64 k ∧ Hid (Lib.IsBuilder 57 5 W0.heap.size W0.heap.size (Lib.byteCells ((a.rules.take k).flatMap ruleLine)) wr ∧ Below W0.heap.size W0 wr))
  case atStart => exact ⟨0, by omega, rfl, Lib.hid ⟨HNEW.out, HB1.out⟩⟩
  case round =>
    obtain ⟨k, hk, rfl, HM⟩ := hrel
    have hk0 : (0 : Int) ≤ k := by omega
    rcases Nat.eq_zero_or_pos gk with h0 | h0
    · have hkm : ¬ (k : Int) < n := by omega
      have HM1 := Lib.hid (show Lib.IsBuilder 57 5 W0.heap.size W0.heap.size (Lib.byteCells (a.rules.flatMap ruleLine ++ (a.pairs.take 0).flatMap pairLine)) wr ∧ Below W0.heap.size W0 wr by
        have h1 := HM.out
        rw [List.take_of_length_le (by have := HN.out.1; omega)] at h1
        rw [List.take_zero, List.flatMap_nil, List.append_nil]
        exact h1)
      obtain ⟨x0, x1⟩ := BX.out wr HM.out.2
      clear HM
      go_wp2_with fail
      clear x0 x1
      go_loopg [7, 27] m (fun g _ i wx => ∃ q : Nat, q + g = m ∧ i = .int .i64 q ∧ Hid (Lib.IsBuilder 57 5 W0.heap.size W0.heap.size (Lib.byteCells (a.rules.flatMap ruleLine ++ (a.pairs.take q).flatMap pairLine)) wx ∧ Below W0.heap.size W0 wx))
      case atStart => exact ⟨0, by omega, rfl, HM1⟩
      case round =>
        obtain ⟨q, hq, rfl, HM⟩ := hrel
        have hq0 : (0 : Int) ≤ q := by omega
        rcases Nat.eq_zero_or_pos gk with h0 | h0
        · have hqm : ¬ (q : Int) < m := by omega
          have HM2 := Lib.hid (show Lib.IsBuilder 57 5 W0.heap.size W0.heap.size (Lib.byteCells (fileL a)) wr ∧ Below W0.heap.size W0 wr by
            have h1 := HM.out
            rw [List.take_of_length_le (by have := HN.out.2; omega), ← fileL_parts] at h1
            exact h1)
          clear HM HM1
          have hfl := HF.out.len
          have hto := HTX.out
          obtain ⟨L, hL⟩ : ∃ L, L = fileL a := ⟨_, rfl⟩
          rw [← hL] at HM2 hfl hto
          have C := Lib.hid (string_any W0.heap.size W0.heap.size L wr HM2.out.1 HM2.out.2.size)
          obtain ⟨FS, hFS⟩ : ∃ S : ByteArray, S = ⟨L.toArray⟩ := ⟨_, rfl⟩
          rw [← hFS] at C hto
          have hsz : FS.size ≤ 1000000000 := by rw [hFS, str_size]; omega
          have CP := Lib.hid (fun wx (hb : Below W0.heap.size W0 wx) => wparse_any wx FS hsz (tabs_below HT.out hb))
          obtain ⟨O, hO⟩ : ∃ O, O = parseA FS := ⟨_, rfl⟩
          rw [← hO] at CP hto
          have HTO := Lib.hid hto
          have HFIT := Lib.hid (show ∀ r ∈ O.1.rules, FitR r by rw [hO]; exact parsed_fit)
          clear hfl hto hL hFS hsz hO HTX
          go_wp2_with (first
            | (go_at_call 21; refine C.out.mono ?_; rintro e w2 ⟨rfl, hb2⟩; have HB2 := Lib.hid (HM2.out.2.trans hb2); clear hb2)
            | (go_at_call 6; refine (CP.out _ HB2.out).mono ?_))
          rintro e w3 ⟨v3, rfl, hat3, hb3⟩
          obtain ⟨D, dc, E, ec, rfl, hD, hE⟩ := id hat3
          have HB3 := Lib.hid (HB2.out.trans (hb3.mono HB2.out.size))
          obtain ⟨dl, hdl⟩ : ∃ d, d = O.1.rules.length := ⟨_, rfl⟩
          obtain ⟨el, hel⟩ : ∃ d, d = O.1.pairs.length := ⟨_, rfl⟩
          rw [← hdl, ← hel] at hat3 ⊢
          have hb4 := (Below.refl w3.heap.size w3).alloc (Nat.le_refl _) (.cells #[.slice D dl dc, .slice E el ec] 25)
          have HB4 := Lib.hid (HB3.out.trans (hb4.mono HB3.out.size))
          have CL := Lib.hid (walike_any _ _ _ O.1 a (hat3.keep hb4) (HAF.out.keep HB4.out) HFIT.out HF.out.fit (tabs_below HT.out HB4.out))
          have HBR := Lib.hid (show ∀ wx, Below W0.heap.size W0 wx → Below w.heap.size w wx from fun wx hb => HB.out.trans (hb.mono HB.out.size))
          obtain ⟨x0, x1⟩ := BX.out _ HB4.out
          obtain ⟨tb, htb⟩ : ∃ b, b = decide (O.1.rules.map textR = a.rules.map textR ∧ O.1.pairs = a.pairs) := ⟨_, rfl⟩
          rw [← htb] at CL
          have HTB := Lib.hid htb
          clear hat3 hD hE hb3 hb4 hdl hel htb C CP
          by_cases hc : O.2.2 = 0
          · rw [hc]
            cases tb with
            | true =>
              have HZ := Lib.hid (show X = FS from HTO.out.trans (if_pos ⟨hc, of_decide_eq_true HTB.out.symm⟩))
              clear hc
              go_wp2_with (go_at_call 22; refine CL.out.mono ?_; rintro e w5 ⟨rfl, hb5⟩; have HB5 := Lib.hid (HB4.out.trans (hb5.mono HB4.out.size)); clear hb5)
              go_ret
              exact ⟨by rw [HZ.out]; rfl, HBR.out _ HB5.out⟩
            | false =>
              have HZ := Lib.hid (show X = ⟨#[]⟩ from HTO.out.trans (if_neg fun h => of_decide_eq_false HTB.out.symm h.2))
              clear hc
              go_wp2_with (go_at_call 22; refine CL.out.mono ?_; rintro e w5 ⟨rfl, hb5⟩; have HB5 := Lib.hid (HB4.out.trans (hb5.mono HB4.out.size)); clear hb5)
              go_ret
              exact ⟨by rw [HZ.out]; rfl, HBR.out _ HB5.out⟩
          · have HZ := Lib.hid (show X = ⟨#[]⟩ from HTO.out.trans (if_neg fun h => hc h.1))
            obtain ⟨cc, hcc⟩ : ∃ c, c = O.2.2 := ⟨_, rfl⟩
            rw [← hcc] at hc ⊢
            have d1 : (cc == 0) = false := by simpa using hc
            have d2 : decide (cc = 0) = false := decide_eq_false hc
            have d3 : (!(cc == 0)) = true := by rw [d1]; rfl
            clear hcc CL d1 d2 d3
            go_wp2_with fail
            go_ret
            exact ⟨by rw [HZ.out]; rfl, HBR.out _ HB4.out⟩
        · have hqm : (q : Int) < m := by omega
          obtain ⟨p, hp⟩ : ∃ p, a.pairs[q]? = some p := ⟨_, List.getElem?_eq_getElem (by have := HN.out.2; omega)⟩
          obtain ⟨b, off, rfl, hb, hc1, e0, e1⟩ := HP.out q p hp
          have f0 := (HM.out.2.cell (p := ⟨b, off + q * 2, none⟩) hb).trans e0
          have f1 := (HM.out.2.cell (p := ⟨b, off + q * 2 + 1, none⟩) hb).trans e1
          have hm1 : (m : Int) ≤ cB := by omega
          have hft := flat_take (f := pairLine) hp
          have hfl : (a.rules.flatMap ruleLine ++ (a.pairs.take q).flatMap pairLine).length ≤ 30000000 := by
            have h1 := HF.out.len
            rw [fileL_parts, List.length_append] at h1
            have h2 : (a.pairs.flatMap pairLine).length = ((a.pairs.take q).flatMap pairLine).length + ((a.pairs.drop q).flatMap pairLine).length := by
              rw [← List.length_append, ← List.flatMap_append, List.take_append_drop]
            rw [List.length_append]
            omega
          obtain ⟨P1, P2⟩ := p
          dsimp only at f0 f1
          have hb1 := (Below.refl wr.heap.size wr).alloc (Nat.le_refl _) (.cells #[.int .i64 P1, .int .i64 P2] 48)
          have CB := Lib.hid (fun c wx => wbytes_any c wx)
          obtain ⟨S1, hS1⟩ : ∃ S, S = ptBy P1 := ⟨_, rfl⟩
          obtain ⟨S2, hS2⟩ : ∃ S, S = ptBy P2 := ⟨_, rfl⟩
          have CB1 := Lib.hid (CB.out P1)
          have CB2 := Lib.hid (CB.out P2)
          rw [← hS1] at CB1
          rw [← hS2] at CB2
          have z1 : (S1.size : Int) ≤ 4 := by have := ptBy_len P1; rw [← hS1] at this; omega
          have z2 : (S2.size : Int) ≤ 4 := by have := ptBy_len P2; rw [← hS2] at this; omega
          have HPL := Lib.hid (show (a.pairs.take (q + 1)).flatMap pairLine = (a.pairs.take q).flatMap pairLine ++ ((⟨#[67, 65, 83, 69, 32]⟩ : ByteArray) ++ S1 ++ S2 ++ ⟨#[10]⟩).data.toList by
            have h1 := pair_str (P1, P2)
            dsimp only at h1
            rw [← hS1, ← hS2] at h1
            rw [hft, h1])
          have HBL := Lib.hid (show Lib.IsBuilder 57 5 W0.heap.size W0.heap.size (Lib.byteCells (a.rules.flatMap ruleLine ++ (a.pairs.take q).flatMap pairLine)) ((wr.alloc (.cells #[.int .i64 P1, .int .i64 P2] 48)).drew) ∧ Below W0.heap.size W0 ((wr.alloc (.cells #[.int .i64 P1, .int .i64 P2] 48)).drew) ∧ (a.rules.flatMap ruleLine ++ (a.pairs.take q).flatMap pairLine).length ≤ 30000000 from
            ⟨builder_below HM.out.1 hb1.drew, HM.out.2.trans (hb1.drew.mono HM.out.2.size), hfl⟩)
          have n1 : ¬ (9223372036854775807 < 5 + S1.size) := by omega
          have n2 : ¬ (9223372036854775807 < 5 + S1.size + S2.size) := by omega
          have n3 : ¬ (9223372036854775807 < 5 + S1.size + S2.size + 1) := by omega
          clear e0 e1 hb hc1 hp hft hfl hb1 CB hS1 hS2
          go_upto_region 10 with fail
          obtain ⟨wX, hwX⟩ : ∃ wX, wX = wr.alloc (.cells #[.int .i64 P1, .int .i64 P2] 48) := ⟨_, rfl⟩
          rw [← hwX] at HBL ⊢
          have y0 : wX.drew.cell? ⟨wr.heap.size, 0, none⟩ = some (.int .i64 P1) := by rw [hwX]; exact (show (wr.alloc _).cell? _ = _ by simp)
          have y1 : wX.drew.cell? ⟨wr.heap.size, 1, none⟩ = some (.int .i64 P2) := by rw [hwX]; exact (show (wr.alloc _).cell? _ = _ by simp)
          clear hwX f0 f1
          go_still_tail 9, (by kernel_rfl)
          still_call (CB1.out _)
          repeat still_step
          still_call (CB2.out _)
          repeat still_step
          try refine wpStill_nil ?_
          change wpList _ _ _ _ _ wX.drew
          generalize wX.drew = wd at *
          obtain ⟨Z, hZ⟩ : ∃ Z, Z = ((⟨#[67, 65, 83, 69, 32]⟩ : ByteArray) ++ S1 ++ S2 ++ ⟨#[10]⟩) := ⟨_, rfl⟩
          rw [← hZ] at HPL ⊢
          have CW := Lib.hid (writes_any W0.heap.size W0.heap.size _ Z wd HBL.out.1 (by
            rw [hZ, ByteArray.size_append, ByteArray.size_append, ByteArray.size_append]
            have h1 := HBL.out.2.2
            have h2 : (Lib.byteCells (a.rules.flatMap ruleLine ++ (a.pairs.take q).flatMap pairLine)).length = (a.rules.flatMap ruleLine ++ (a.pairs.take q).flatMap pairLine).length := by simp [Lib.byteCells]
            have h3 : (⟨#[10]⟩ : ByteArray).size = 1 := rfl
            have h4 : (⟨#[67, 65, 83, 69, 32]⟩ : ByteArray).size = 5 := rfl
            omega) HBL.out.2.1.size)
          have HB2 := Lib.hid HBL.out.2.1
          clear hZ y0 y1 CB1 CB2 n1 n2 n3 z1 z2 HBL HM
          go_wp2_with (go_at_call 18; refine CW.out.mono ?_; rintro e w3 ⟨⟨v3, rfl⟩, hbld3, hb3⟩; have HX3 := Lib.hid (And.intro hbld3 hb3); clear hbld3 hb3)
          have HM3 := Lib.hid (show Lib.IsBuilder 57 5 W0.heap.size W0.heap.size (Lib.byteCells (a.rules.flatMap ruleLine ++ (a.pairs.take (q + 1)).flatMap pairLine)) w3 ∧ Below W0.heap.size W0 w3 from ⟨by
            have h1 := HX3.out.1
            rw [HPL.out, ← List.append_assoc, ← cells_app]
            exact h1, HB2.out.trans HX3.out.2⟩)
          clear HX3 HB2 CW
          go_roundg (gk - 1)
          case measure => omega
          case rel => exact ⟨q + 1, by omega, by go_num, HM3⟩
    · have hkm : (k : Int) < n := by omega
      obtain ⟨r, hr⟩ : ∃ r, a.rules[k]? = some r := ⟨_, List.getElem?_eq_getElem (by have := HN.out.1; omega)⟩
      obtain ⟨b, off, rfl, hb, hc1, hRU⟩ := HA.out k r hr
      obtain ⟨D, dc, e0, e1, e2, e3, e4, e5, hat⟩ := (hRU.keep HM.out.2 hb).items
      have hm1 : (n : Int) ≤ cA := by omega
      have hrm := List.mem_of_getElem? hr
      have hb1 := (Below.refl wr.heap.size wr).alloc (Nat.le_refl _) (.cells #[.bool r.pre, .int .i64 r.flag, .bool r.cross, .string r.strip, .string r.add, .slice D r.cond.length dc] 36)
      have CT := Lib.hid (rul_text_any (wr.alloc (.cells #[.bool r.pre, .int .i64 r.flag, .bool r.cross, .string r.strip, .string r.add, .slice D r.cond.length dc] 36)) _ r ⟨D, dc, rfl, hat.keep hb1⟩ (HF.out.fit r hrm) (tabs_below (tabs_below HT.out HM.out.2) hb1))
      have hbld := builder_below HM.out.1 hb1
      have htl := wtext_len (HF.out.items r hrm) (HF.out.sets r hrm) (HF.out.strip r hrm) (HF.out.add r hrm)
      have hft := flat_take (f := ruleLine) hr
      have hfl : ((a.rules.take k).flatMap ruleLine).length ≤ 30000000 := by
        have h1 := HF.out.len
        rw [fileL_parts, List.length_append] at h1
        have h2 : (a.rules.flatMap ruleLine).length = ((a.rules.take k).flatMap ruleLine).length + ((a.rules.drop k).flatMap ruleLine).length := by
          rw [← List.length_append, ← List.flatMap_append, List.take_append_drop]
        omega
      obtain ⟨T, hTT⟩ : ∃ T, T = textR r := ⟨_, rfl⟩
      rw [← hTT] at CT htl
      have HFT := Lib.hid (show (a.rules.take (k + 1)).flatMap ruleLine = (a.rules.take k).flatMap ruleLine ++ (T ++ (⟨#[10]⟩ : ByteArray)).data.toList by rw [hft, line_str, hTT]; rfl)
      obtain ⟨dl, hdl⟩ : ∃ d, d = r.cond.length := ⟨_, rfl⟩
      rw [← hdl] at CT e5 hbld hb1
      have HBL := Lib.hid (And.intro hbld (And.intro hb1 hfl))
      have hT1 : (T.size : Int) ≤ 100000 := by omega
      clear hRU hr hat hdl hb hc1 hrm hft hTT hbld hb1 hfl
      obtain ⟨p, f, x, s, ad, l⟩ := r
      dsimp only at e0 e1 e2 e3 e4 CT HBL
      go_wp2_with (go_at_call 19; refine CT.out.mono ?_)
      rintro e w2 ⟨rfl, hb2⟩
      have hbld2 := builder_below HBL.out.1 hb2
      have hb02 := HM.out.2.trans ((HBL.out.2.1.trans (hb2.mono HBL.out.2.1.size)).mono HM.out.2.size)
      have CW := Lib.hid (writes_any W0.heap.size W0.heap.size _ (T ++ (⟨#[10]⟩ : ByteArray)) w2 hbld2 (by
        rw [ByteArray.size_append]
        have h1 := HBL.out.2.2
        have h2 : (Lib.byteCells ((a.rules.take k).flatMap ruleLine)).length = ((a.rules.take k).flatMap ruleLine).length := by simp [Lib.byteCells]
        have h3 : (⟨#[10]⟩ : ByteArray).size = 1 := rfl
        omega) hb02.size)
      have HB2 := Lib.hid hb02
      clear hbld2 hb02 hb2 CT e0 e1 e2 e3 e4 e5
      go_wp2_with (go_at_call 18; refine CW.out.mono ?_; rintro e w3 ⟨⟨v3, rfl⟩, hbld3, hb3⟩; have HX3 := Lib.hid (And.intro hbld3 hb3); clear hbld3 hb3)
      have HM3 := Lib.hid (show Lib.IsBuilder 57 5 W0.heap.size W0.heap.size (Lib.byteCells ((a.rules.take (k + 1)).flatMap ruleLine)) w3 ∧ Below W0.heap.size W0 w3 from ⟨by
        have h1 := HX3.out.1
        rw [HFT.out, ← cells_app]
        exact h1, HB2.out.trans HX3.out.2⟩)
      clear HX3 HB2 CW
      go_roundg (gk - 1)
      case measure => omega
      case rel => exact ⟨k + 1, by omega, by go_num, HM3⟩
/-- What stage 11's laws ask of affix's calls is met. -/
theorem affix_says : SaysA Tabs9 where
  kept := fun _ _ h hb => tabs_below h hb
  parse := fun w s hT hs => (wparse_any w s (by omega) hT).mono fun _ _ ⟨v, he, ha, hb⟩ => ⟨v, he, ha, hb⟩
  text := fun w v a hT ha hf => wtext_any w v a ha hf hT
end Go.Proofs.YteenleedonmkmaaGreatDoor
