/- DawgKnown: true of any number. -/
import Derived.Test.YtkabdieenijnlaaIFull
import Derived.Deep.RegionLaw
import Derived.Test.YtkabdieenijnlaaIPlace

namespace Go.Proofs.Ytkabdieenijnlaa
open Go Go.RowKit Go.Lib

theorem own_below {w w' : World} {B n : Nat} {v : Value} {xs : List Value} (h : w.ownsRow B 9 1 v n xs) (hb : Below w.heap.size w w') : w'.ownsRow B 9 1 v n xs := by
  refine ⟨h.1, h.2.imp id fun ⟨g, cap, cur, h1, h2, h3, h4⟩ => ⟨g, cap, cur, h1, h2, ?_, h4⟩⟩
  exact (hb.block g (Array.getElem?_eq_some_iff.1 h3).1).trans h3
theorem own_drew {w : World} {B n : Nat} {v : Value} {xs : List Value} (h : w.ownsRow B 9 1 v n xs) : w.drew.ownsRow B 9 1 v n xs := h
theorem own_low {w : World} {B B' n : Nat} {v : Value} {xs : List Value} (h : w.ownsRow B 9 1 v n xs) (hb : B' ≤ B) : w.ownsRow B' 9 1 v n xs :=
  ⟨h.1, h.2.imp id fun ⟨g, cap, cur, h1, h2, h3⟩ => ⟨g, cap, cur, h1, Nat.le_trans hb h2, h3⟩⟩
theorem own_strsQ {w : World} {B n : Nat} {v : Value} {l : List ByteArray} (h : w.ownsRow B 9 1 v n (l.map Value.string)) (hn : n = l.length) : StrsQ w v l := by
  rcases own_strsP h hn with ⟨rfl, rfl⟩ | h
  · exact .inl ⟨rfl, .inl rfl⟩
  · exact .inr h
theorem lit_strsQ (w : World) (x y : ByteArray) (t : TypeId) : StrsQ (w.alloc (.cells #[.string x, .string y] t)) (.slice (some ⟨w.heap.size, 0, none⟩) 2 2) [x, y] := by
  rcases strs_lit w [x, y] #[.string x, .string y] t (by simp) (by simp) with ⟨h, _⟩ | h
  · cases h
  · exact .inr h
/-- Between two rounds: the words of so many bytes, those of fewer. -/
structure LvAt (w0 w : World) (l a : Value) (n n' i : Nat) : Prop where
  ln : n = (levB i).length
  ln' : n' = (allB i).length
  low : w.ownsRow w0.heap.size 9 1 l (levB i).length ((levB i).map Value.string)
  loa : w.ownsRow w0.heap.size 9 1 a (allB i).length ((allB i).map Value.string)
  ap : a.ownBlock = none ∨ l.ownBlock ≠ a.ownBlock
  bel : Below w0.heap.size w0 w
/-- Within one. -/
structure MvAt (w2 w : World) (m : Value) (n4 i j : Nat) : Prop where
  ln : n4 = (((levB i).take j).flatMap dbl).length
  own : w.ownsRow w2.heap.size 9 1 m (((levB i).take j).flatMap dbl).length ((((levB i).take j).flatMap dbl).map Value.string)
  bel : Below w2.heap.size w2 w
theorem dbls_len (l : List ByteArray) : (l.flatMap dbl).length = 2 * l.length := by
  induction l with
  | nil => rfl
  | cons a l ih => rw [List.flatMap_cons, List.length_append, ih, List.length_cons]; simp [dbl]; omega

set_option maxRecDepth 100000 in
set_option maxHeartbeats 1000000 in
theorem known_law (w : World) (y : Int) (f : Bool) : Calls Try.prog 6 #[.int .i64 y, .bool f] w fun e w' => e = .returned (.bool true) ∧ Below w.heap.size w w' := by
  have CP := Lib.hid (place9 y 7 w (by omega) (by omega))
  obtain ⟨k, hk, hkb⟩ : ∃ k : Nat, y % 7 = k ∧ k < 7 := ⟨(y % 7).toNat, by omega, by omega⟩
  rw [hk] at CP
  have CA := Lib.hid awake15_any
  obtain ⟨W1, hW1⟩ : ∃ W1, W1 = w.alloc (.cells #[.string ⟨#[]⟩] 9) := ⟨_, rfl⟩
  obtain ⟨H, hH⟩ : ∃ H, H = w.heap.size := ⟨_, rfl⟩
  have hq0 : StrsAt W1 (.slice (some ⟨H, 0, none⟩) 1 1) [⟨#[]⟩] := by
    rw [hW1, hH]; exact strs_lit w [⟨#[]⟩] _ _ rfl (by decide)
  have HL0 := Lib.hid (show LvAt w W1 (.slice (some ⟨H, 0, none⟩) 1 1) (.slice none 0 0) 1 0 0 from by
    refine ⟨rfl, rfl, ?_, World.ownsRow_nil _ _ _ _, .inl rfl, ?_⟩
    · rw [hW1, hH]; exact World.ownsRow_lit w #[.string ⟨#[]⟩] 1 (Nat.le_refl _) (by unfold maxLen; omega) rfl
    · rw [hW1]; exact (Below.refl _ _).alloc (Nat.le_refl _) _)
  clear hk hq0
  go_enter Try.func6, Try.ntmps6
  go_wp2_with (go_at_call 19; refine CP.out.mono ?_; rintro e wx ⟨rfl, rfl⟩)
  rw [← hW1, ← hH]
  clear hW1 hH CP
  go_loopg [6, 7, 8] k (fun gh x6 x7 x8 wr => ∃ (i n n' : Nat) (A : Option Addr) (c : Nat) (A' : Option Addr) (c' : Nat), i + gh = k ∧ x6 = .slice A n c ∧ x7 = .slice A' n' c' ∧ x8 = .int .i64 i ∧ Hid (LvAt w wr (.slice A n c) (.slice A' n' c') n n' i))
  case atStart => exact ⟨0, 1, 0, _, _, _, _, by omega, rfl, rfl, rfl, HL0⟩
  case round =>
    obtain ⟨i, n, n', A, c, A', c', hi, rfl, rfl, rfl, HL⟩ := hrel
    rcases Nat.eq_zero_or_pos gk with h0 | h0
    · have d1 : ¬ (i : Int) < k := by omega
      obtain rfl : i = k := by omega
      have HF := Lib.hid HL.out
      have hi6 : i ≤ 6 := by omega
      have CB := Lib.hid (fun wx v (hv : StrsAt wx v (knownL f i)) => build_few wx v (knownL f i) (fullW f i) hv (by have := known_len (f := f) hi6; omega) (known_short hi6) (fullW_rise f i) (known_mem f i))
      have HQ := Lib.hid (And.intro (own_strsQ HL.out.low rfl) (own_strsQ HL.out.loa rfl))
      have hpw : (levB i).length ≤ 64 ∧ (allB i).length ≤ 64 := by
        have h1 := lev_len i
        have h2 := all_len i
        have h3 := pow_le (i := i) (by omega)
        omega
      have HPW := Lib.hid hpw
      clear hpw
      cases f with
      | false =>
        go_upto_region 17 with (go_at_call 10; refine (CB.out _ _ HQ.out.1.at_).mono ?_; rintro e w4 ⟨p1, g1, st1, rfl, hr1⟩; have HR := Lib.hid hr1; clear hr1)
        have HBB := Lib.hid HL.out.bel
        have HB4 := Lib.hid (show Below w.heap.size w w4 ∧ Below w4.heap.size w4 w4 from ⟨HBB.out.trans (HR.out.2.2.mono HBB.out.size), Below.refl _ _⟩)
        have CS := Lib.hid (fun wx (hb : Below w4.heap.size w4 wx) => show Calls Try.prog 14 #[.pointer (some ⟨p1, 0, none⟩)] wx fun e w' => e = .returned (.int .i64 ((i : Int) + 1)) ∧ w' = wx from by
          have h1 := states_any wx p1 g1 st1 (HR.out.1.keep hb)
          have hs := HR.out.2.1.set
          rw [fullW_tail] at hs
          rwa [full_count HR.out.1.ok hs] at h1)
        have CH := Lib.hid (fun wx (hb : Below w4.heap.size w4 wx) => show Calls Try.prog 12 #[.pointer (some ⟨p1, 0, none⟩), .string ⟨#[]⟩] wx fun e w' => e = .returned (.bool (false || decide (i = 0))) ∧ Below wx.heap.size wx w' from by
          have h1 := has_auto wx p1 g1 st1 _ (HR.out.1.keep hb) HR.out.2.1.start ⟨#[]⟩ (by decide)
          rw [fullW_tail] at h1
          rwa [show decide ((⟨#[]⟩ : ByteArray).data.toList ∈ fullV false i) = (false || decide (i = 0)) from known_nil false i] at h1)
        go_wp2_with fail
        refine (CS.out _ HB4.out.2).mono ?_
        rintro e w5 ⟨rfl, rfl⟩
        have hke : IntKind.i64.wrap ((i : Int) + 1) = (i : Int) + 1 := IntWalk.i64_in _ (by omega)
        go_wp2_with fail
        refine (CH.out _ HB4.out.2).mono ?_
        rintro e w6 ⟨rfl, hb6⟩
        have HB6 := Lib.hid (HB4.out.1.trans (hb6.mono HB4.out.1.size))
        clear hb6
        obtain ⟨B, hB, hB2⟩ : ∃ B, (false || decide (i = 0)) = B ∧ ((i : Int) == 0) = B := ⟨decide (i = 0), by simp, by by_cases h : i = 0 <;> simp [h]⟩
        rw [hB]
        have hT : (B == B) = true := by simp
        go_wp2_with fail
        refine (CA.out _).mono ?_
        rintro e w7 ⟨rfl, hb7⟩
        have HB7 := Lib.hid (HB6.out.trans (hb7.mono HB6.out.size))
        clear hb7
        go_wp2_with fail
        go_ret
        exact ⟨rfl, HB7.out⟩
      | true =>
        have CB2 := Lib.hid (fun wx v (hv : StrsAt wx v (levB i ++ allB i)) => CB.out wx v (by rw [show knownL true i = levB i ++ allB i from if_pos rfl]; exact hv))
        clear CB
        go_upto_region 17 with (first
          | (at_builtin; refine wpList_append_strs rfl _ _ rfl w.heap.size (.slice A n c) (levB i) _ (allB i) rfl HL.out.low rfl HQ.out.2 (by have := HPW.out; omega) HL.out.bel.size ?_; intro v2 w2 ho2 hg2; rw [List.length_append] at ho2; have HO2 := Lib.hid (And.intro ho2 hg2); clear ho2 hg2; obtain ⟨A2, c2, rfl⟩ := row_shape HO2.out.1)
          | (go_at_call 10; refine (CB2.out _ _ (strs_own HO2.out.1 List.length_append.symm)).mono ?_; rintro e w4 ⟨p1, g1, st1, rfl, hr1⟩; have HR := Lib.hid hr1; clear hr1))
        have HBB := Lib.hid (HO2.out.2.below HL.out.bel HL.out.bel.size fun g hg => (HL.out.low.lt g hg).1)
        have HB4 := Lib.hid (show Below w.heap.size w w4 ∧ Below w4.heap.size w4 w4 from ⟨HBB.out.trans (HR.out.2.2.mono HBB.out.size), Below.refl _ _⟩)
        have CS := Lib.hid (fun wx (hb : Below w4.heap.size w4 wx) => show Calls Try.prog 14 #[.pointer (some ⟨p1, 0, none⟩)] wx fun e w' => e = .returned (.int .i64 ((i : Int) + 1)) ∧ w' = wx from by
          have h1 := states_any wx p1 g1 st1 (HR.out.1.keep hb)
          have hs := HR.out.2.1.set
          rw [fullW_tail] at hs
          rwa [full_count HR.out.1.ok hs] at h1)
        have CH := Lib.hid (fun wx (hb : Below w4.heap.size w4 wx) => show Calls Try.prog 12 #[.pointer (some ⟨p1, 0, none⟩), .string ⟨#[]⟩] wx fun e w' => e = .returned (.bool (true || decide (i = 0))) ∧ Below wx.heap.size wx w' from by
          have h1 := has_auto wx p1 g1 st1 _ (HR.out.1.keep hb) HR.out.2.1.start ⟨#[]⟩ (by decide)
          rw [fullW_tail] at h1
          rwa [show decide ((⟨#[]⟩ : ByteArray).data.toList ∈ fullV true i) = (true || decide (i = 0)) from known_nil true i] at h1)
        go_wp2_with fail
        refine (CS.out _ HB4.out.2).mono ?_
        rintro e w5 ⟨rfl, rfl⟩
        have hke : IntKind.i64.wrap ((i : Int) + 1) = (i : Int) + 1 := IntWalk.i64_in _ (by omega)
        go_wp2_with fail
        refine (CH.out _ HB4.out.2).mono ?_
        rintro e w6 ⟨rfl, hb6⟩
        have HB6 := Lib.hid (HB4.out.1.trans (hb6.mono HB4.out.1.size))
        clear hb6
        have hT : ((true || decide (i = 0)) == true) = true := rfl
        go_wp2_with fail
        refine (CA.out _).mono ?_
        rintro e w7 ⟨rfl, hb7⟩
        have HB7 := Lib.hid (HB6.out.trans (hb7.mono HB6.out.size))
        clear hb7
        go_wp2_with fail
        go_ret
        exact ⟨rfl, HB7.out⟩
    · have d1 : (i : Int) < k := by omega
      have hpw : (levB i).length ≤ 64 ∧ (allB i).length ≤ 64 := by
        have h1 := lev_len i
        have h2 := all_len i
        have h3 := pow_le (i := i) (by omega)
        omega
      have HQ := Lib.hid (show StrsQ wr (.slice A n c) (levB i) from own_strsQ HL.out.low rfl)
      obtain ⟨gz, hgz⟩ : ∃ gz, gz = gk := ⟨_, rfl⟩
      have HPW := Lib.hid hpw
      clear hpw
      go_upto_region 10 with (at_builtin; refine wpList_append_strs rfl _ _ rfl w.heap.size (.slice A' n' c') (allB i) _ (levB i) rfl HL.out.loa rfl HQ.out (by have := HPW.out; omega) HL.out.bel.size ?_; intro v2 w2 ho2 hg2; have HO2 := Lib.hid (And.intro ho2 hg2); clear ho2 hg2; obtain ⟨A2, c2, rfl⟩ := row_shape HO2.out.1)
      have hab : w2.ownsRow w.heap.size 9 1 (.slice A2 ((allB i).length + (levB i).length) c2) (allB (i + 1)).length ((allB (i + 1)).map Value.string) := by
        have := HO2.out.1
        rw [show (allB i ++ levB i).length = (allB i).length + (levB i).length from List.length_append] at this
        show w2.ownsRow w.heap.size 9 1 _ (allB i ++ levB i).length ((allB i ++ levB i).map Value.string)
        rw [List.length_append]
        exact this
      obtain ⟨n2, hn2⟩ : ∃ n2, n2 = (allB i).length + (levB i).length := ⟨_, rfl⟩
      rw [← hn2] at hab ⊢
      have hl2 : StrsQ w2 (.slice A n c) (levB i) := own_strsQ (HL.out.low.kept HO2.out.2.grown (by
        rcases HL.out.ap with h | h
        · rw [h]; cases (Value.slice A n c).ownBlock with
          | none => exact .inl rfl
          | some g => exact .inr (by simp)
        · exact .inr h)) rfl
      have HN2 := Lib.hid (And.intro hn2 (And.intro hab (And.intro hl2 (HO2.out.2.below HL.out.bel HL.out.bel.size fun g hg => (HL.out.loa.lt g hg).1))))
      have hln := HL.out.ln
      have hnn : n ≤ 64 := by have := HPW.out; omega
      have HLN := Lib.hid hln
      clear hn2 hab hl2 HO2 HQ hln
      go_loopg [9, 10] n (fun gh x9 x10 wq => ∃ (j n4 : Nat) (A4 : Option Addr) (c4 : Nat), j + gh = n ∧ x10 = .int .i64 j ∧ x9 = .slice A4 n4 c4 ∧ Hid (MvAt w2 wq (.slice A4 n4 c4) n4 i j))
      case atStart => exact ⟨0, 0, _, _, by omega, rfl, rfl, Lib.hid ⟨by simp, by simpa using World.ownsRow_nil _ _ _ _, Below.refl _ _⟩⟩
      case round =>
        obtain ⟨j, n4, A4, c4, hj, rfl, rfl, HM⟩ := hrel
        rcases Nat.eq_zero_or_pos gk with h1 | h1
        · have d2 : ¬ (j : Int) < n := by omega
          obtain rfl : j = n := by omega
          have het : ((levB i).take j).flatMap dbl = levB (i + 1) := by rw [List.take_of_length_le (by have := HLN.out; omega)]; rfl
          have hab2 := own_below HN2.out.2.1 HM.out.bel
          have hmo := HM.out.own
          have hml := HM.out.ln
          rw [het] at hmo hml
          have HNX := Lib.hid (show LvAt w wr (.slice A4 n4 c4) (.slice A2 n2 c2) n4 n2 (i + 1) from by
            refine ⟨hml, ?_, own_low hmo HN2.out.2.2.2.size, hab2, ?_, HN2.out.2.2.2.trans (HM.out.bel.mono HN2.out.2.2.2.size)⟩
            · rw [HN2.out.1]; exact List.length_append.symm
            · cases hA2 : (Value.slice A2 n2 c2).ownBlock with
              | none => exact .inl rfl
              | some g =>
                right
                intro he
                have h1 := (hmo.lt g he).1
                have h2 := (HN2.out.2.1.lt g hA2).2
                omega)
          clear het hab2 hmo hml
          go_wp2_with fail
          go_roundg (gz - 1)
          case measure => omega
          case rel => exact ⟨i + 1, n4, n2, _, _, _, _, by omega, rfl, rfl, by go_num, HNX⟩
        · have d2 : (j : Int) < n := by omega
          obtain ⟨x, hx⟩ : ∃ x, (levB i)[j]? = some x := ⟨_, List.getElem?_eq_getElem (by have := HLN.out; omega)⟩
          obtain ⟨b, off, rfl, hb, hnc, cx⟩ := strs_open HN2.out.2.2.1.at_ j x hx
          have cx' := (HM.out.bel.cell (p := ⟨b, off + j, none⟩) hb).trans cx
          have hxs : x.size ≤ 6 := by
            have := ((mem_lev i x).1 (List.mem_of_getElem? hx)).2
            rw [size_toList] at this
            omega
          have f1 : ¬ 9223372036854775807 < x.size + 1 := by omega
          have HX := Lib.hid hx
          obtain ⟨L, hL⟩ : ∃ L, L = ((levB i).take j).flatMap dbl := ⟨_, rfl⟩
          have hb2 : L.length + 2 ≤ 1000 := by rw [hL, dbls_len, List.length_take]; have := HPW.out; omega
          have HB2 := Lib.hid hb2
          have HO := Lib.hid (show wr.ownsRow w2.heap.size 9 1 (.slice A4 n4 c4) L.length (L.map Value.string) from by rw [hL]; exact HM.out.own)
          have HLL := Lib.hid hL
          have el := Lib.hid (show (L ++ [x ++ ⟨#[97]⟩, x ++ ⟨#[98]⟩]).length = L.length + 2 by simp)
          clear hx cx hb2 hL
          go_upto_region 12 with fail
          have cd : wr.drew.cell? ⟨b, off + j, none⟩ = some (.string x) := cx'
          clear cx'
          go_region_law (first
            | (refine step_append_strs (by rfl) _ _ (by rfl) w2.heap.size (.slice A4 n4 c4) L _ [x ++ ⟨#[97]⟩, x ++ ⟨#[98]⟩] (by rfl) ((own_drew HO.out).alloc _) (by rfl) (lit_strsQ wr.drew _ _ _) (Nat.le_trans (show _ + 2 ≤ 1000 from HB2.out) (by omega)) (by have := HM.out.bel.size; simp; omega) ?_; intro v3 w3 ho3 hg3; rw [el.out] at ho3; have HO3 := Lib.hid (And.intro ho3 hg3); clear ho3 hg3; obtain ⟨A3, c3, rfl⟩ := row_shape HO3.out.1)
            | (refine step_append_strs (by rfl) _ _ (by rfl) w2.heap.size (.slice A4 n4 c4) L _ [x ++ ⟨#[97]⟩, x ++ ⟨#[98]⟩] (by rfl) (own_drew (HO.out.alloc _)) (by rfl) ((lit_strsQ wr _ _ _).keep (Below.refl _ _).drew) (Nat.le_trans (show _ + 2 ≤ 1000 from HB2.out) (by omega)) (by have := HM.out.bel.size; simp; omega) ?_; intro v3 w3 ho3 hg3; rw [el.out] at ho3; have HO3 := Lib.hid (And.intro ho3 hg3); clear ho3 hg3; obtain ⟨A3, c3, rfl⟩ := row_shape HO3.out.1))
          all_goals
            have HNX := Lib.hid (show MvAt w2 w3 (.slice A3 (L.length + 2) c3) (L.length + 2) i (j + 1) from by
              have hte : ((levB i).take (j + 1)).flatMap dbl = L ++ [x ++ ⟨#[97]⟩, x ++ ⟨#[98]⟩] := by
                rw [List.take_add_one, HX.out, List.flatMap_append, ← HLL.out]; simp [dbl]
              refine ⟨by rw [hte, el.out], by rw [hte, el.out]; exact HO3.out.1, ?_⟩
              first
                | exact HO3.out.2.below ((HM.out.bel.alloc HM.out.bel.size _).drew) (by have := HM.out.bel.size; simp; omega) fun g hg => (HO.out.lt g hg).1
                | exact HO3.out.2.below ((HM.out.bel.drew.alloc HM.out.bel.size _)) (by have := HM.out.bel.size; simp; omega) fun g hg => (HO.out.lt g hg).1)
            clear HO3
            go_wp2_with fail
            go_roundg (gk - 1)
          all_goals first
            | omega
            | exact ⟨j + 1, _, A3, c3, by omega, by go_num, rfl, HNX⟩
end Go.Proofs.Ytkabdieenijnlaa
