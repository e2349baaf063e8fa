/- The landed entry, silent by contract. -/
import Derived.Test.YtmadlappalhmlaaDoorGFlags
namespace Go.Proofs.YtmadlappalhmlaaDoor
open Go Go.RowKit Go.Lib

set_option maxRecDepth 100000 in
set_option maxHeartbeats 1000000 in
theorem gsilent_any (w : World) (s : ByteArray) :
    Calls Tryd.prog 19 #[.string s] w fun e w' => e = .returned (.bool (decide (s.data.toList = [] ∨ s.data.toList.head? = some 35))) ∧ w' = w := by
  have hem : s.toList.isEmpty = decide (s.data.toList = []) := by
    rw [toL_data]
    cases s.data.toList <;> rfl
  by_cases h0 : s.data.toList = []
  · rw [decide_eq_true (.inl h0 : s.data.toList = [] ∨ s.data.toList.head? = some 35)]
    have e1 : s.toList.isEmpty = true := by rw [hem]; exact decide_eq_true h0
    clear hem h0
    go_enter Tryd.func19, Tryd.ntmps19
    go_wp2_with fail
    go_ret
    exact ⟨rfl, rfl⟩
  · have e1 : s.toList.isEmpty = false := by rw [hem]; exact decide_eq_false h0
    have hS0 : 0 < s.size := by rw [Lib.size_eq]; exact List.length_pos_iff.2 h0
    obtain ⟨c, hc0, hget⟩ := byte_at hS0
    obtain ⟨x, hx⟩ : ∃ x, x = c.toNat := ⟨_, rfl⟩
    have hgx : (s[0]'hS0).toNat = x := by rw [hget, hx]
    have hS1 : (0 : Int) < s.size := by omega
    have hR : decide (s.data.toList = [] ∨ s.data.toList.head? = some 35) = decide (x = 35) := by
      apply decide_eq_decide.2
      rw [List.head?_eq_getElem?, hc0, hx]
      constructor
      · rintro (h | h)
        · exact absurd h h0
        · rw [Option.some.inj h]; rfl
      · intro h
        right
        rw [UInt8.toNat_inj.1 (h.trans rfl : c.toNat = (35 : UInt8).toNat)]
    rw [hR]
    clear hem h0 hc0 hget hx hR
    by_cases h35 : x = 35
    · rw [decide_eq_true h35]
      have d : ((x : Int) == 35) = true := by simp; omega
      clear h35
      go_enter Tryd.func19, Tryd.ntmps19
      go_wp2_with fail
      go_ret
      exact ⟨rfl, rfl⟩
    · rw [decide_eq_false h35]
      have d : ((x : Int) == 35) = false := by simp; omega
      clear h35
      go_enter Tryd.func19, Tryd.ntmps19
      go_wp2_with fail
      go_ret
      exact ⟨rfl, rfl⟩

set_option maxRecDepth 100000 in
set_option maxHeartbeats 2000000 in
theorem gentry_any (w : World) (s : ByteArray) (hs : s.size ≤ 1000000000) (hT : Lib.Utf8Tabs 1 2 w) :
    Calls Tryd.prog 18 #[.string s] w fun e w' => EntAns w.heap.size s.data.toList e w' ∧ Below w.heap.size w w' := by
  obtain ⟨L, hL⟩ : ∃ L, L = s.data.toList := ⟨_, rfl⟩
  have hsl : L.length = s.size := by rw [hL]; exact (Lib.size_eq s).symm
  rw [← hL]
  have HG := Lib.hid (gEntry_eq L)
  obtain ⟨W0, hW0⟩ : ∃ W0, W0 = w.alloc (.cells #[.string ⟨#[]⟩, .slice none 0 0] 43) := ⟨_, rfl⟩
  have hb0 : Below w.heap.size w W0 := by rw [hW0]; exact (Below.refl _ _).alloc (Nat.le_refl _) _
  have hlt0 : w.heap.size < W0.heap.size := by rw [hW0, World.size_alloc]; omega
  have BX := Lib.hid (show ∀ wx, Below W0.heap.size W0 wx → _ from fun wx hb => ebox2 (hW0 ▸ hb))
  obtain ⟨W1, hW1⟩ : ∃ W1, W1 = W0.alloc (.cells #[.int .u8 47, .int .u8 35] 5) := ⟨_, rfl⟩
  have hb1 : Below W0.heap.size W0 W1 := by rw [hW1]; exact (Below.refl _ _).alloc (Nat.le_refl _) _
  have hst : Stops W1 W0.heap.size := by rw [hW1]; exact ⟨cell_of_row _ _ 0 _ _ (0, 0) (World.alloc_heap_new _ _), cell_of_row _ _ 1 _ _ (0, 0) (World.alloc_heap_new _ _)⟩
  have hlt1 : W0.heap.size < W1.heap.size := by rw [hW1, World.size_alloc]; omega
  have CK := Lib.hid (gcut_any W1 s W0.heap.size hs hlt1 hst)
  rw [← hL] at CK
  have HT := Lib.hid (show ∀ wx, Below W0.heap.size W0 wx → Lib.Utf8Tabs 1 2 wx from fun wx hb => tabs_below hT (hb0.trans (hb.mono hb0.size)))
  have HB := Lib.hid (show ∀ wx, Below W0.heap.size W0 wx → Below w.heap.size w wx from fun wx hb => hb0.trans (hb.mono hb0.size))
  have HB1 := Lib.hid (And.intro hb1 hlt0)
  have HW0 := Lib.hid hW0
  have HW1 := Lib.hid hW1
  clear hL hb0 hb1 hst hlt1 hlt0 hT
  go_enter Tryd.func18, Tryd.ntmps18
  go_upto_region 1 with fail
  rw [← HW0.out]
  clear hW0
  go_wp2_with fail
  rw [← HW1.out]
  clear hW1
  refine CK.out.mono ?_
  rintro e w2 ⟨⟨a, b, rfl, ha, hb⟩, hb2⟩
  have H2 := Lib.hid (HB1.out.1.trans (hb2.mono HB1.out.1.size))
  have hsum : a.size + b.size = s.size := by
    have h1 : L.takeWhile nst ++ L.dropWhile nst = L := List.takeWhile_append_dropWhile
    have h2 := congrArg List.length h1
    rw [List.length_append, ← ha, ← hb, hsl] at h2
    rw [Lib.size_eq, Lib.size_eq]; exact h2
  have CW := Lib.hid (gisword_any w2 a (by omega) (HT.out _ H2.out))
  have HE := Lib.hid (show entryL L = if isW a.data.toList = true then match b.data.toList with
    | [] => some ⟨a, []⟩
    | x :: fs => if x = 47 ∧ fs ≠ [] then (flagsL [] fs).map fun f => ⟨a, f⟩ else none
    else none by
      rw [HG.out, ha, hb]
      unfold gEntry
      rw [show (⟨(L.takeWhile nst).toArray⟩ : ByteArray) = a by rw [← ha, ba_list]]
      rfl)
  obtain ⟨ok, hok⟩ : ∃ ok, ok = isW a.data.toList := ⟨_, rfl⟩
  rw [← hok] at CW HE
  have hem : b.toList.isEmpty = decide (b.data.toList = []) := by
    rw [toL_data]
    cases b.data.toList <;> rfl
  have h47 := fun x fs (h : b.data.toList = x :: fs) => dropW_head L x fs (hb.symm.trans h)
  clear CK hok ha hb hb2 HG hsl
  cases ok with
  | false =>
    have HZ := Lib.hid (show entryL L = none by rw [HE.out]; rfl)
    go_wp2_with (go_at_call 30; refine CW.out.mono ?_; rintro e w3 ⟨rfl, hb3⟩; have H3 := Lib.hid (H2.out.trans (hb3.mono H2.out.size)); clear hb3; obtain ⟨x0, x1, fx⟩ := BX.out _ H3.out)
    exact bodyPost_ret (v := .tuple #[.agg #[.string ⟨#[]⟩, .slice none 0 0], .bool false]) (by simp [results, Tryd.results18, go_sem, x0, x1]) rfl ⟨EntAns.no HZ.out, put2_below (HB.out _ H3.out) (Nat.le_refl _) _ _⟩
  | true =>
    cases hd : b.data.toList with
    | nil =>
      have e1 : b.toList.isEmpty = true := by rw [hem]; exact decide_eq_true hd
      have HZ := Lib.hid (show entryL L = some ⟨a, []⟩ by rw [HE.out, hd]; rfl)
      clear hem hd h47 HE
      go_wp2_with (go_at_call 30; refine CW.out.mono ?_; rintro e w3 ⟨rfl, hb3⟩; have H3 := Lib.hid (H2.out.trans (hb3.mono H2.out.size)); clear hb3; obtain ⟨x0, x1, fx⟩ := BX.out _ H3.out)
      exact bodyPost_ret (v := .tuple #[.agg #[.string a, .slice none 0 0], .bool true]) (by simp [results, Tryd.results18, go_sem, x0, x1]) rfl ⟨EntAns.yes HZ.out (World.ownsRow_nil _ _ _ _), put2_below (HB.out _ H3.out) (Nat.le_refl _) _ _⟩
    | cons c fs =>
      have e1 : b.toList.isEmpty = false := by rw [hem]; exact decide_eq_false (by rw [hd]; simp)
      have hbs : b.size = fs.length + 1 := by rw [Lib.size_eq, hd]; rfl
      have hb0 : 0 < b.size := by omega
      obtain ⟨c', hc', hget⟩ := byte_at hb0
      obtain rfl : c = c' := by rw [hd] at hc'; simpa using hc'
      obtain ⟨x, hx⟩ : ∃ x, x = c.toNat := ⟨_, rfl⟩
      have hgx : (b[0]'hb0).toNat = x := by rw [hget, hx]
      have hxs : x = 47 ∨ x = 35 := by
        have h1 := h47 c fs hd
        unfold nst at h1
        have h2 := of_decide_eq_false h1
        by_cases h : c = 47
        · left; rw [hx, h]; rfl
        · right
          have : c = 35 := by
            by_cases h3 : c = 35
            · exact h3
            · exact absurd ⟨h, h3⟩ h2
          rw [hx, this]; rfl
      have hex : (b.extract 1 b.size).data.toList = fs := by
        rw [ext_list, hd, List.take_of_length_le (by rw [List.length_drop, List.length_cons]; omega)]
        rfl
      have CF := Lib.hid (fun wx => gflags_any wx (b.extract 1 b.size) (by rw [Lib.size_eq, hex]; omega))
      rw [hex] at CF
      have HZ := Lib.hid (show entryL L = if c = 47 ∧ fs ≠ [] then (flagsL [] fs).map fun f => ⟨a, f⟩ else none by rw [HE.out, hd]; rfl)
      have b1 : (1 : Int) ≤ b.size := by omega
      have b2 : (0 : Int) < b.size := by omega
      have HX := Lib.hid (show c = 47 ↔ x = 47 by rw [hx]; exact ⟨fun e => by rw [e]; rfl, fun e => UInt8.toNat_inj.1 (e.trans rfl)⟩)
      obtain ⟨B1, hB1⟩ : ∃ B, B = b.extract 1 b.size := ⟨_, rfl⟩
      rw [← hB1] at CF
      have hB1' : b.extract 1 b.size = B1 := hB1.symm
      clear hem hd h47 HE hc' hget hx hex hB1 hbs hsum
      rcases hxs with rfl | rfl
      · go_upto_region 7 with (first
          | (go_at_call 30; refine CW.out.mono ?_; rintro e w3 ⟨rfl, hb3⟩; have H3 := Lib.hid (H2.out.trans (hb3.mono H2.out.size)); clear hb3)
          | (go_at_call 31; refine (CF.out _).mono ?_; rintro e w4 ⟨⟨A, n, cp, fb, rfl, hfb, hff⟩, hb4⟩; have H4 := Lib.hid (H3.out.trans (hb4.mono H3.out.size)); have HFB := Lib.hid (And.intro hfb hff); clear hb4 hfb hff))
        obtain ⟨x0, x1, fx⟩ := BX.out _ H4.out
        cases fb with
        | false =>
          have HZ2 := Lib.hid (show entryL L = none by
            rw [HZ.out]
            split
            · rename_i h
              have h1 := HFB.out.1
              rw [decide_eq_true h.2] at h1
              cases hf : flagsL [] fs with
              | none => rfl
              | some f => rw [hf] at h1; simp at h1
            · rfl)
          go_wp2_with fail
          exact bodyPost_ret (v := .tuple #[.agg #[.string ⟨#[]⟩, .slice none 0 0], .bool false]) (by simp [results, Tryd.results18, go_sem, x0, x1]) rfl ⟨EntAns.no HZ2.out, put2_below (HB.out _ H4.out) (Nat.le_refl _) _ _⟩
        | true =>
          obtain ⟨f, hne, hf⟩ : ∃ f, fs ≠ [] ∧ flagsL [] fs = some f := by
            have h1 := HFB.out.1.symm
            rw [Bool.and_eq_true] at h1
            cases hf : flagsL [] fs with
            | none => rw [hf] at h1; simp at h1
            | some f => exact ⟨f, of_decide_eq_true h1.1, rfl⟩
          obtain ⟨hn, hrow⟩ := HFB.out.2 f hne hf
          have HZ2 := Lib.hid (show entryL L = some ⟨a, f⟩ by rw [HZ.out, if_pos ⟨HX.out.2 (by first | rfl | trivial), hne⟩, hf]; rfl)
          have HROW := Lib.hid (And.intro hn hrow)
          clear hne hf hn hrow
          go_wp2_with fail
          refine bodyPost_ret (v := .tuple #[.agg #[.string a, .slice A n cp], .bool true]) (by simp [results, Tryd.results18, go_sem, x0, x1]) rfl ⟨?_, put2_below (HB.out _ H4.out) (Nat.le_refl _) _ _⟩
          have h1 := HROW.out.1
          subst h1
          have hlt : w.heap.size < w3.heap.size := Nat.lt_of_lt_of_le HB1.out.2 H3.out.size
          exact EntAns.yes HZ2.out (own_less (own_put2 HROW.out.2 hlt) (Nat.le_of_lt hlt))
      · have HZ2 := Lib.hid (show entryL L = none by
          rw [HZ.out, if_neg]
          intro h
          have := HX.out.1 h.1
          omega)
        go_upto_region 7 with (first
          | (go_at_call 30; refine CW.out.mono ?_; rintro e w3 ⟨rfl, hb3⟩; have H3 := Lib.hid (H2.out.trans (hb3.mono H2.out.size)); clear hb3)
          | (go_at_call 31; refine (CF.out _).mono ?_; rintro e w4 ⟨⟨A, n, cp, fb, rfl, -, -⟩, hb4⟩; have H4 := Lib.hid (H3.out.trans (hb4.mono H3.out.size)); clear hb4))
        obtain ⟨x0, x1, fx⟩ := BX.out _ H4.out
        go_wp2_with fail
        exact bodyPost_ret (v := .tuple #[.agg #[.string ⟨#[]⟩, .slice none 0 0], .bool false]) (by simp [results, Tryd.results18, go_sem, x0, x1]) rfl ⟨EntAns.no HZ2.out, put2_below (HB.out _ H4.out) (Nat.le_refl _) _ _⟩
end Go.Proofs.YtmadlappalhmlaaDoor
