/- Stage 11's law AffixBack, out of what is asked of affix's calls. -/
import Derived.Test.YteenleedonmkmaaDoorVSame
import Derived.Test.YteenleedonmkmaaDoorNPlace
namespace Go.Proofs.YteenleedonmkmaaDoor
open Go Go.RowKit Go.Lib

/-! ### Plain -/
theorem ru_few {s : ByteArray} {r : Ru} (h : parseR s = some r) : r.cond.length ≤ 8 ∧ (∀ it ∈ r.cond, it.set.length ≤ s.size) ∧ r.strip.size ≤ 20 ∧ r.add.size ≤ 20 := by
  unfold parseR at h
  split at h
  · rename_i a f c x y z hw
    have hmem : ∀ w ∈ [a, f, c, x, y, z], (32 : UInt8) ∉ w ∧ w.length ≤ s.data.toList.length := fun w hw' => wordsL_mem _ w (by rw [hw]; exact hw')
    unfold parse6 at h
    split at h
    · split at h
      · rename_i u v l hx hy hz
        obtain rfl := Option.some.inj h
        have hsl : s.data.toList.length = s.size := (Lib.size_eq s).symm
        have hzl := (hmem z (by simp)).2
        obtain ⟨_, _, h3⟩ := partL_says hx (hmem x (by simp)).1
        obtain ⟨_, _, h4⟩ := partL_says hy (hmem y (by simp)).1
        unfold parseS at hz
        split at hz
        · cases hz
        · rename_i cs hcs
          obtain ⟨_, h2⟩ := codesB_says hcs
          obtain ⟨g1, g2, g3, g4⟩ := parseC_says hz
          have hzz : (⟨z.toArray⟩ : ByteArray).data.toList = z := by simp
          rw [hzz] at h2
          exact ⟨g4, fun it hit => by have := (g1 it hit).2.2; omega, h3, h4⟩
      · cases h
    · cases h
  · cases h
theorem readA_from {P : Ru → Prop} : ∀ (ls : List (List UInt8)) (d : Rd) (n : Nat), (∀ r ∈ d.rules, P r) → (∀ l ∈ ls, ∀ r, parseR ⟨l.toArray⟩ = some r → P r) → ∀ r ∈ (readA d n ls).rules, P r
  | [], d, n, h, _ => h
  | l :: ls, d, n, h, hl => by
    refine readA_from ls (stepA d n l) (n + 1) ?_ fun x hx => hl x (List.mem_cons_of_mem _ hx)
    intro r hr
    unfold stepA at hr
    split at hr
    · exact h r hr
    · split at hr
      · exact h r hr
      · split at hr
        · rename_i q hq
          rcases List.mem_append.1 hr with hr | hr
          · exact h r hr
          · rw [List.mem_singleton] at hr
            subst hr
            exact hl l (List.mem_cons_self ..) _ hq
        · exact h r hr
theorem af0_few : FewA af0 := ⟨by decide, by decide, by simp [af0], by simp [af0], by simp [af0], by simp [af0]⟩
/-- What is read is not too much. -/
theorem parseA_few {s : ByteArray} (hs : s.size ≤ 2000) : FewA (parseA s).1 := by
  unfold parseA
  rw [if_neg (by omega)]
  have hP := readA_from (P := fun r => r.cond.length ≤ 8 ∧ (∀ it ∈ r.cond, it.set.length ≤ 2000) ∧ r.strip.size ≤ 20 ∧ r.add.size ≤ 20) (linesL s.data.toList) rd0 1 (fun r h => by simp [rd0] at h) (fun l hl r hr => by
    obtain ⟨h1, h2, h3, h4⟩ := ru_few hr
    have hsz : (⟨l.toArray⟩ : ByteArray).size = l.length := by show l.toArray.size = _; rw [List.size_toArray]
    have hle := mem_sum _ l hl
    have hsum := linesL_sum s.data.toList
    have hsl : s.data.toList.length = s.size := (Lib.size_eq s).symm
    exact ⟨h1, fun it hit => by have := h2 it hit; omega, h3, h4⟩)
  unfold endA
  split
  · exact af0_few
  · rename_i hc
    split
    · exact af0_few
    · split
      · exact af0_few
      · exact ⟨by dsimp only; omega, by dsimp only; omega, fun r hr => by have := (hP r hr).1; omega, fun r hr => (hP r hr).2.1, fun r hr => by have := (hP r hr).2.2.1; omega, fun r hr => by have := (hP r hr).2.2.2; omega⟩
/-- Beside an error there is nothing. -/
theorem parseA_err {s : ByteArray} (h : (parseA s).2.2 ≠ 0) : (parseA s).1 = af0 := by
  unfold parseA at h ⊢
  split
  · rfl
  · rename_i hn
    rw [if_neg hn] at h
    unfold endA at h ⊢
    split
    · rfl
    · rename_i h1
      rw [if_neg h1] at h
      split
      · rfl
      · rename_i h2
        rw [if_neg h2] at h
        split
        · rfl
        · rename_i h3
          rw [if_neg h3] at h
          exact absurd rfl h
theorem textA_size (a : Af) : (textA a).size ≤ 65536 := by
  unfold textA
  split
  · rename_i h
    unfold parseA at h
    by_cases hc : 65536 < (⟨(fileL a).toArray⟩ : ByteArray).size
    · rw [if_pos hc] at h
      exact absurd h.2 (by decide)
    · omega
  · show (0 : Nat) ≤ _; omega

/-! ### Files by numbers -/
set_option maxRecDepth 100000 in
set_option maxHeartbeats 1000000 in
theorem affix_any (x : Int) (w : World) (_b1 : -9223372036854775808 ≤ x) (_b2 : x ≤ 9223372036854775807) :
    Calls Tryd.prog 7 #[.int .i64 x] w fun e w' => (∃ S : ByteArray, e = .returned (.string S) ∧ S.size ≤ 250) ∧ w' = w := by
  have C := Lib.hid (place9 x 1048576 w (by omega) (by omega))
  obtain ⟨k, hk⟩ : ∃ k, k = x % 1048576 := ⟨_, rfl⟩
  rw [← hk] at C
  clear hk _b1 _b2
  go_enter Tryd.func7, Tryd.ntmps7
  go_wp2_with (go_at_call 11; refine C.out.mono ?_; rintro e w1 ⟨rfl, rfl⟩)
  all_goals
    go_ret
    exact ⟨⟨_, rfl, by decide⟩, rfl⟩

/-! ### The law -/
variable {T : World → Prop}
theorem few_small {a : Af} (h : FewA a) : ∀ r ∈ a.rules, r.cond.length ≤ 100000 ∧ ∀ it ∈ r.cond, it.set.length ≤ 100000 :=
  fun r hr => ⟨by have := h.items r hr; omega, fun it hit => by have := h.sets r hr it hit; omega⟩

set_option maxRecDepth 100000 in
set_option maxHeartbeats 1000000 in
theorem aback_law (S : SaysA T) (w : World) (hT : T w) (x : Int) (s : ByteArray) (b1 : -9223372036854775808 ≤ x) (b2 : x ≤ 9223372036854775807) :
    Calls Tryd.prog 3 #[.int .i64 x, .string s] w fun e w' => e = .returned (.bool true) ∧ Below w.heap.size w w' := by
  have HT := Lib.hid (fun wx (hb : Below w.heap.size w wx) => S.kept w wx hT hb)
  have AW := Lib.hid (fun wx (hb : Below w.heap.size w wx) => aawake_any S wx (S.kept w wx hT hb))
  have HS := Lib.hid S
  have CA := Lib.hid (fun wx => affix_any x wx b1 b2)
  clear S hT b1 b2
  by_cases h100 : (100 : Int) < s.size
  · go_enter Tryd.func3, Tryd.ntmps3
    go_wp2_with (go_at_call 6; refine (AW.out _ (Below.refl _ _)).mono ?_)
    rintro e w1 ⟨rfl, hb⟩
    have HB := Lib.hid hb
    clear hb
    go_wp2_with fail
    go_ret
    exact ⟨rfl, HB.out⟩
  · have q0 : (s ++ (⟨#[10]⟩ : ByteArray)).size = s.size + 1 := by rw [ByteArray.size_append]; rfl
    have q1 : ¬ 9223372036854775807 < s.size + 1 := by omega
    go_enter Tryd.func3, Tryd.ntmps3
    go_wp2_with (first
      | (have z := hS2; go_at_call 7; refine (CA.out _).mono ?_; rintro e wx ⟨⟨S3, rfl, hS3⟩, rfl⟩; have q4 : ¬ 9223372036854775807 < s.size + 1 + S3.size := by omega)
      | (have z := hS1; go_at_call 7; refine (CA.out _).mono ?_; rintro e wx ⟨⟨S2, rfl, hS2⟩, rfl⟩; have q3 : ¬ 9223372036854775807 < S2.size + s.size := by omega)
      | (go_at_call 7; refine (CA.out _).mono ?_; rintro e wx ⟨⟨S1, rfl, hS1⟩, rfl⟩))
    have hX2 : (S2 ++ s).size ≤ 400 := by rw [ByteArray.size_append]; omega
    have hX3 : (s ++ (⟨#[10]⟩ : ByteArray) ++ S3).size ≤ 400 := by rw [ByteArray.size_append, q0]; omega
    obtain ⟨X2, eX2⟩ : ∃ X, X = S2 ++ s := ⟨_, rfl⟩
    obtain ⟨X3, eX3⟩ : ∃ X, X = s ++ (⟨#[10]⟩ : ByteArray) ++ S3 := ⟨_, rfl⟩
    rw [← eX2] at hX2
    rw [← eX3] at hX3
    rw [← eX2, ← eX3]
    have hW1 : Below wx.heap.size wx (wx.alloc (.cells #[.string S1, .string X2, .string X3] 9)) := (Below.refl _ _).alloc (Nat.le_refl _) _
    have hKC : ∀ k : Nat, k < 3 → ∃ X : ByteArray, X.size ≤ 400 ∧ ∀ wr, Below (wx.alloc (.cells #[.string S1, .string X2, .string X3] 9)).heap.size (wx.alloc (.cells #[.string S1, .string X2, .string X3] 9)) wr → wr.cell? ⟨wx.heap.size, k, none⟩ = some (.string X) := fun k hk => by
      have h : ∀ wr, Below (wx.alloc (.cells #[.string S1, .string X2, .string X3] 9)).heap.size (wx.alloc (.cells #[.string S1, .string X2, .string X3] 9)) wr → wr.heap[wx.heap.size]? = some (.cells #[.string S1, .string X2, .string X3] 9 (0, 0)) := fun wr hb => (hb.block wx.heap.size (by rw [World.size_alloc]; omega)).trans (World.alloc_heap_new _ _)
      match k, hk with
      | 0, _ => exact ⟨S1, by omega, fun wr hb => by rw [World.cell?]; simp [h wr hb]⟩
      | 1, _ => exact ⟨X2, hX2, fun wr hb => by rw [World.cell?]; simp [h wr hb]⟩
      | 2, _ => exact ⟨X3, hX3, fun wr hb => by rw [World.cell?]; simp [h wr hb]⟩
    obtain ⟨W1, eW1⟩ : ∃ W1, W1 = wx.alloc (.cells #[.string S1, .string X2, .string X3] 9) := ⟨_, rfl⟩
    rw [← eW1] at hW1 hKC ⊢
    have HW := Lib.hid hW1
    have KC := Lib.hid hKC
    clear CA q0 q1 q3 q4 hS1 hS2 hS3 hX2 hX3 eX2 eX3 eW1 hW1 hKC
    go_loopg [30] 3 (fun g i wr => ∃ k : Nat, k + g = 3 ∧ i = .int .i64 k ∧ Hid (Below W1.heap.size W1 wr))
    case atStart => exact ⟨0, by omega, rfl, Lib.hid (Below.refl _ _)⟩
    case round =>
      obtain ⟨k, hk, rfl, HK⟩ := hrel
      have hk0 : (0 : Int) ≤ k := by omega
      have HKB := Lib.hid (HW.out.trans (HK.out.mono HW.out.size))
      rcases Nat.eq_zero_or_pos gk with h0 | h0
      · have hk3 : ¬ (k : Int) < 3 := by omega
        go_wp2_with (go_at_call 6; refine (AW.out _ HKB.out).mono ?_; rintro e w1 ⟨rfl, hb⟩; have HB := Lib.hid (HKB.out.trans (hb.mono HKB.out.size)); clear hb)
        go_ret
        exact ⟨rfl, HB.out⟩
      · have hk3 : (k : Int) < 3 := by omega
        obtain ⟨X, hX, hXc⟩ := KC.out k (by omega)
        have c0 := hXc wr HK.out
        have CP := Lib.hid (HS.out.parse wr X (HT.out _ HKB.out) (by omega))
        have hfew := parseA_few (s := X) (by omega)
        have herr := parseA_err (s := X)
        have hback := fun h => textA_back (s := X) (a := (parseA X).1) (n := (parseA X).2.1) h (by omega)
        obtain ⟨a, ha⟩ : ∃ a, a = (parseA X).1 := ⟨_, rfl⟩
        obtain ⟨ln, hln⟩ : ∃ n, n = (parseA X).2.1 := ⟨_, rfl⟩
        obtain ⟨er, her⟩ : ∃ n, n = (parseA X).2.2 := ⟨_, rfl⟩
        have hall : parseA X = (a, ln, er) := by rw [ha, hln, her]
        rw [← ha, ← hln, ← her] at CP
        rw [← ha] at hfew
        rw [← her, ← ha] at herr
        rw [← ha, ← hln] at hback
        have HFE := Lib.hid (And.intro hfew herr)
        have HBK := Lib.hid (show er = 0 → textA a = ⟨(fileL a).toArray⟩ ∧ parseA (textA a) = (a, 0, 0) from fun h => (hback (by rw [hall, h])).2)
        clear ha hln her hall hfew herr hback hX hXc
        go_wp2_with (go_at_call 8; refine CP.out.mono ?_)
        rintro e w2 ⟨v2, rfl, hv2, hb2⟩
        have hv20 := hv2
        obtain ⟨A, n, cA, B, m, cB, rfl, hn, hm⟩ := af_at hv2
        have hba := (Below.refl w2.heap.size w2).alloc (Nat.le_refl _) (.cells #[.slice A n cA, .slice B m cB] 28)
        have HV := Lib.hid (hv20.keep hba)
        have H2 := Lib.hid (HK.out.trans ((hb2.alloc hb2.size (.cells #[.slice A n cA, .slice B m cB] 28)).mono HK.out.size))
        have H2B := Lib.hid (HW.out.trans (H2.out.mono HW.out.size))
        have HNM := Lib.hid (And.intro hn hm)
        clear hv20 hv2 hb2 hba CP c0 hn hm
        by_cases h00 : er = 0
        · subst h00
          obtain ⟨e1, e2⟩ := HBK.out rfl
          have CT := Lib.hid (HS.out.text _ _ a (HT.out _ H2B.out) HV.out HFE.out.1)
          have CQ := Lib.hid (fun wy (hb : Below wx.heap.size wx wy) => HS.out.parse wy (textA a) (HT.out _ hb) (by have := textA_size a; omega))
          rw [e2] at CQ
          obtain ⟨t, ht⟩ : ∃ t, t = textA a := ⟨_, rfl⟩
          rw [← ht] at CT CQ
          clear e1 e2 ht
          obtain ⟨y0, y1⟩ := box2 (Below.refl (w2.alloc (.cells #[.slice A n cA, .slice B m cB] 28)).heap.size (w2.alloc (.cells #[.slice A n cA, .slice B m cB] 28)))
          go_wp2_with (go_at_call 9; refine CT.out.mono ?_)
          rintro e w3 ⟨rfl, hb3⟩
          have HX3 := Lib.hid hb3
          have H3B := Lib.hid (H2B.out.trans (hb3.mono H2B.out.size))
          clear hb3 y0 y1 CT
          go_wp2_with (go_at_call 8; refine (CQ.out _ H3B.out).mono ?_)
          rintro e w4 ⟨v4, rfl, hv4, hb4⟩
          have hv40 := hv4
          obtain ⟨A2, n2, cA2, B2, m2, cB2, rfl, -, -⟩ := af_at hv4
          have hba := (Below.refl w4.heap.size w4).alloc (Nat.le_refl _) (.cells #[.slice A2 n2 cA2, .slice B2 m2 cB2] 28)
          have hx := hb4.trans (hba.mono hb4.size)
          obtain ⟨y0, y1⟩ := box2 (HX3.out.trans (hx.mono HX3.out.size))
          obtain ⟨z0, z1⟩ := box2 (Below.refl (w4.alloc (.cells #[.slice A2 n2 cA2, .slice B2 m2 cB2] 28)).heap.size (w4.alloc (.cells #[.slice A2 n2 cA2, .slice B2 m2 cB2] 28)))
          have H4 := Lib.hid (H2.out.trans ((HX3.out.trans (hx.mono HX3.out.size)).mono H2.out.size))
          have SM := Lib.hid (rasame_any _ _ _ a a (HV.out.keep (HX3.out.trans (hx.mono HX3.out.size))) (hv40.keep hba) (few_small HFE.out.1) (few_small HFE.out.1))
          rw [decide_eq_true rfl] at SM
          have H4B := Lib.hid (HW.out.trans (H4.out.mono HW.out.size))
          clear hv4 hv40 hb4 hba hx CQ
          go_wp2_with (go_at_call 10; refine SM.out.mono ?_; rintro e w5 ⟨rfl, hb5⟩; have H5 := Lib.hid (H4.out.trans (hb5.mono H4.out.size)); clear hb5)
          go_roundg (gk - 1)
          case measure => omega
          case rel => exact ⟨k + 1, by omega, by go_num, H5⟩
        · have hz := HFE.out.2 h00
          have hne : (er == 0) = false := by simpa using h00
          have hn0 : n = 0 := by rw [HNM.out.1, hz]; rfl
          have hm0 : m = 0 := by rw [HNM.out.2, hz]; rfl
          clear HNM
          subst hn0 hm0
          clear hz h00
          obtain ⟨y0, y1⟩ := box2 (Below.refl (w2.alloc (.cells #[.slice A 0 cA, .slice B 0 cB] 28)).heap.size (w2.alloc (.cells #[.slice A 0 cA, .slice B 0 cB] 28)))
          go_wp2_with fail
          go_roundg (gk - 1)
          case measure => omega
          case rel => exact ⟨k + 1, by omega, by go_num, H2⟩
end Go.Proofs.YteenleedonmkmaaDoor
