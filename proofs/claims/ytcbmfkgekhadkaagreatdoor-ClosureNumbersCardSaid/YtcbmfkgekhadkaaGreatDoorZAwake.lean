/- Stage 13's laws: SameStrings, awake by contract. -/
import Derived.Test.YtcbmfkgekhadkaaGreatDoorZAll
import Derived.Test.YtcbmfkgekhadkaaGreatDoorZRefForms
import Derived.Test.YtcbmfkgekhadkaaGreatDoorPParse
import Derived.Test.YtcbmfkgekhadkaaGreatDoorZGa
import Derived.Deep.QuietTactic
import Derived.BigQuiet
namespace Go.Proofs.YtcbmfkgekhadkaaGreatDoor
open Go Go.RowKit Go.Lib

theorem strs_bd {w : World} {v : Value} {l : List ByteArray} (h : StrsAt w v l) : l.length ≤ 9223372036854775807 := by
  rcases h with ⟨e, _⟩ | ⟨b, off, cap, e, h1, h2, h3, h4⟩
  · rw [e]; simp
  · unfold maxLen at h3; omega
def SameE (e : Ending) (l m : List ByteArray) : Prop := e = .returned (.bool (decide (l = m)))
set_option maxRecDepth 100000 in
set_option maxHeartbeats 4000000 in
theorem sames_any (w : World) (v v' : Value) (l m : List ByteArray) (h : StrsAt w v l) (h' : StrsAt w v' m) :
    Calls Tryz.prog 10 #[v, v'] w fun e w' => SameE e l m ∧ Below w.heap.size w w' := by
  have hb1 := strs_bd h
  have hb2 := strs_bd h'
  obtain ⟨A, cap, rfl⟩ := strs_form h
  obtain ⟨B, cap', rfl⟩ := strs_form h'
  obtain ⟨n, hn⟩ : ∃ n, n = l.length := ⟨_, rfl⟩
  obtain ⟨k', hk'⟩ : ∃ k, k = m.length := ⟨_, rfl⟩
  rw [← hn] at h hb1 ⊢
  rw [← hk'] at h' hb2 ⊢
  have HA := Lib.hid (strs_open h)
  have HB := Lib.hid (strs_open h')
  have HN := Lib.hid (And.intro hn hk')
  clear h h' hn hk'
  by_cases hne : n = k'
  · subst hne
    go_enter Tryz.func10, Tryz.ntmps10
    go_wp2_with fail
    go_loopg [5] n (fun g i wr => ∃ k : Nat, k + g = n ∧ i = .int .i64 k ∧ Hid (Below w.heap.size w wr ∧ l.take k = m.take k))
    case atStart => exact ⟨0, by omega, rfl, Lib.hid ⟨Below.refl _ _, by simp⟩⟩
    case round =>
      obtain ⟨k, hk, rfl, HP⟩ := hrel
      by_cases hlt : k < n
      · have d1 : (k : Int) < n := by omega
        obtain ⟨x, hx⟩ : ∃ x, l[k]? = some x := ⟨_, List.getElem?_eq_getElem (by have := HN.out.1; omega)⟩
        obtain ⟨y, hy⟩ : ∃ y, m[k]? = some y := ⟨_, List.getElem?_eq_getElem (by have := HN.out.2; omega)⟩
        obtain ⟨b, off, rfl, hb, hnc, cx⟩ := HA.out k x hx
        obtain ⟨b', off', rfl, hb', hnc', cy⟩ := HB.out k y hy
        have x0 := (HP.out.1.cell (p := ⟨b, off + k, none⟩) hb).trans cx
        have y0 := (HP.out.1.cell (p := ⟨b', off' + k, none⟩) hb').trans cy
        have HXY := Lib.hid (And.intro hx hy)
        clear hx hy cx cy
        go_upto_region 6 with fail
        go_quiet (fail)
        have HBN := Lib.hid (show Below w.heap.size w (wr.drewN nq) from HP.out.1.trans ⟨rfl, rfl, rfl, Nat.le_refl _, fun _ _ => rfl⟩)
        clear x0 y0
        rw [eq_eq]
        by_cases he : x = y
        · rw [decide_eq_true he]
          subst he
          have HT := Lib.hid (show l.take (k + 1) = m.take (k + 1) by rw [List.take_add_one, List.take_add_one, HP.out.2, HXY.out.1, HXY.out.2])
          go_wp2_with fail
          go_roundg (gk - 1)
          case measure => omega
          case rel => exact ⟨k + 1, by omega, by go_num, Lib.hid ⟨HBN.out, HT.out⟩⟩
        · rw [decide_eq_false he]
          have HF := Lib.hid (show ¬ (l = m) from fun e => he (by have h1 := HXY.out.1; rw [e, HXY.out.2] at h1; exact (Option.some.inj h1).symm))
          go_wp2_with fail
          go_ret
          exact ⟨by unfold SameE; rw [decide_eq_false HF.out]; rfl, HBN.out⟩
      · have d1 : ¬ (k : Int) < n := by omega
        have HF := Lib.hid (show l = m by
          have h1 := HP.out.2
          rwa [List.take_of_length_le (by have := HN.out.1; omega), List.take_of_length_le (by have := HN.out.2; omega)] at h1)
        clear hlt
        go_wp2_with fail
        go_ret
        exact ⟨by unfold SameE; rw [decide_eq_true HF.out]; rfl, HP.out.1⟩
  · have hne' : ¬ ((n : Int) = k') := by omega
    have HF := Lib.hid (show ¬ (l = m) from fun e => hne (by rw [HN.out.1, HN.out.2, e]))
    clear hne
    go_enter Tryz.func10, Tryz.ntmps10
    go_wp2_with fail
    go_ret
    exact ⟨by unfold SameE; rw [decide_eq_false HF.out]; rfl, Below.refl _ _⟩
theorem ex_forms : formsL [exR] ⟨⟨#[99, 105, 116, 121]⟩, [83]⟩ = [⟨#[99, 105, 116, 105, 101, 115]⟩, ⟨#[99, 105, 116, 121]⟩] := by decide +kernel
theorem ex_all : allL [exR] [⟨⟨#[98]⟩, []⟩, ⟨⟨#[97]⟩, []⟩] = ([⟨#[97]⟩, ⟨#[98]⟩], 0) := by decide +kernel

/-- Rows of one or two, as the laws lay them. -/
theorem rules_one {W : World} {g : Nat} {t : TypeId} {r : Ru} {A : Option Addr} {cap : Nat} (h : W.heap[g]? = some (.cells #[.bool r.pre, .int .i64 r.flag, .bool r.cross, .string r.strip, .string r.add, .slice A r.cond.length cap] t (0, 0))) (hi : ItemsAt W (.slice A r.cond.length cap) r.cond) : RulesAt W (.slice (some ⟨g, 0, none⟩) 1 1) [r] := by
  obtain ⟨x0, x1, x2, x3, x4, x5⟩ := cells6_at h
  refine .inr ⟨g, 0, 1, rfl, (Array.getElem?_eq_some_iff.1 h).1, by simp, by unfold maxLen; omega, fun i r' hr => ?_⟩
  cases i with
  | zero => simp at hr; subst hr; exact ⟨x0, x1, x2, x3, x4, A, cap, x5, hi⟩
  | succ i => simp at hr
theorem ints_one {W : World} {g : Nat} {t : TypeId} {c : Int} (h : W.heap[g]? = some (.cells #[.int .i64 c] t (0, 0))) : IntsAt W (.slice (some ⟨g, 0, none⟩) 1 1) [c] := by
  refine .inr ⟨g, 0, 1, rfl, (Array.getElem?_eq_some_iff.1 h).1, by simp, by unfold maxLen; omega, fun i r' hr => ?_⟩
  cases i with
  | zero => simp at hr; subst hr; exact (one_box h).1
  | succ i => simp at hr
theorem ents_two {W : World} {g : Nat} {t : TypeId} {a b : ByteArray} (h : W.heap[g]? = some (.cells #[.string a, .slice none 0 0, .string b, .slice none 0 0] t (0, 0))) : EntsAt W (.slice (some ⟨g, 0, none⟩) 2 2) [⟨a, []⟩, ⟨b, []⟩] := by
  refine .inr ⟨g, 0, 2, rfl, (Array.getElem?_eq_some_iff.1 h).1, by simp, by unfold maxLen; omega, fun i r' hr => ?_⟩
  match i, hr with
  | 0, hr =>
    simp at hr; subst hr
    exact ⟨by simp [World.cell?, h], none, 0, by simp [World.cell?, h], .inl ⟨rfl, none, 0, rfl⟩⟩
  | 1, hr =>
    simp at hr; subst hr
    exact ⟨by simp [World.cell?, h], none, 0, by simp [World.cell?, h], .inl ⟨rfl, none, 0, rfl⟩⟩
  | i + 2, hr => simp at hr
theorem strs_two {w : World} {A : Option Addr} {n cap : Nat} {a b : ByteArray} (h : StrsAt w (.slice A n cap) [a, b]) : ∃ g off, A = some ⟨g, off, none⟩ ∧ n = 2 ∧ n ≤ cap ∧ w.cell? ⟨g, off, none⟩ = some (.string a) ∧ w.cell? ⟨g, off + 1, none⟩ = some (.string b) := by
  obtain ⟨g, off, e, h1, h2, h3⟩ := strs_open h 0 a rfl
  obtain ⟨g', off', e', h1', h2', h3'⟩ := strs_open h 1 b rfl
  subst e
  cases e'
  obtain ⟨A', c', e2⟩ := strs_form h
  injection e2 with _ e3 _
  exact ⟨g, off, rfl, by simpa using e3, h2, h3, h3'⟩
theorem ex_fit : FitR exR ∧ MidR exR := by
  refine ⟨⟨by decide, ?_, by decide, by decide⟩, ⟨by decide, by decide, by decide, by decide⟩⟩
  intro it hit
  simp [exR] at hit
  subst hit
  decide
set_option maxRecDepth 100000 in
set_option maxHeartbeats 4000000 in
theorem awake13_any (w : World) (hT : Tabs9 w) : Calls Tryz.prog 9 #[] w fun e w' => e = .returned (.bool true) ∧ Below w.heap.size w w' := by
  have C1 := Lib.hid (rparse10_any w exL (by decide))
  rw [exR_parse] at C1
  have HT := Lib.hid hT
  clear hT
  go_enter Tryz.func9, Tryz.ntmps9
  go_wp2_with fail
  refine C1.out.mono ?_
  rintro e w1 ⟨v, rfl, h1, hb1⟩
  have h0 : RuAt w1 v exR := h1
  obtain ⟨A, cap, rfl, -⟩ := exR_at h1
  have e1 : (some exR).isSome = true := rfl
  have HR1 := Lib.hid (And.intro h0 hb1)
  clear h0 h1 hb1 C1
  go_wp2_with fail
  obtain ⟨m, hm⟩ : ∃ m, m = w1.heap.size := ⟨_, rfl⟩
  obtain ⟨W4, hW4⟩ : ∃ W4, W4 = (((w1.alloc (.cells #[.bool false, .int .i64 83, .bool true, .string ⟨#[121]⟩, .string ⟨#[105, 101, 115]⟩, .slice A 1 cap] 51)).alloc (.cells #[.bool false, .int .i64 83, .bool true, .string ⟨#[121]⟩, .string ⟨#[105, 101, 115]⟩, .slice A 1 cap] 51)).alloc (.cells #[.int .i64 83] 3)) := ⟨_, rfl⟩
  have z0 : W4.heap[m]? = some (.cells #[.bool false, .int .i64 83, .bool true, .string ⟨#[121]⟩, .string ⟨#[105, 101, 115]⟩, .slice A 1 cap] 51 (0, 0)) := by rw [hW4]; exact heap_up (heap_up (heap_top _ _ hm.symm) _) _
  have z1 : W4.heap[m + 1]? = some (.cells #[.bool false, .int .i64 83, .bool true, .string ⟨#[121]⟩, .string ⟨#[105, 101, 115]⟩, .slice A 1 cap] 51 (0, 0)) := by rw [hW4]; exact heap_up (heap_top _ _ (by rw [World.size_alloc, hm])) _
  have z2 : W4.heap[m + 2]? = some (.cells #[.int .i64 83] 3 (0, 0)) := by rw [hW4]; exact heap_top _ _ (by simp only [World.size_alloc]; omega)
  have hb4 : Below w1.heap.size w1 W4 := by rw [hW4]; exact (((Below.refl _ _).alloc (Nat.le_refl _) _).alloc (by simp) _).alloc (by simp; omega) _
  have hbw4 : Below w.heap.size w W4 := HR1.out.2.trans (hb4.mono HR1.out.2.size)
  have hit : ItemsAt W4 (.slice A 1 cap) exR.cond := by
    obtain ⟨A2, c2, e2, h2⟩ := HR1.out.1.keep hb4
    cases e2
    exact h2
  have C2 := Lib.hid (forms_any W4 _ [exR] _ 1 1 ⟨#[99, 105, 116, 121]⟩ [83] (rules_one (r := exR) z1 hit) (ints_one z2) (tabs_below HT.out hbw4)
    ⟨fun r hr => by simp at hr; subst hr; exact ex_fit.1, fun r hr => by simp at hr; subst hr; exact ⟨by decide, by decide⟩, fun f hf => by simp at hf; subst hf; exact ⟨by decide, by decide⟩, by show (⟨#[99, 105, 116, 121]⟩ : ByteArray).size ≤ _; decide, by simp, by simp⟩)
  rw [ex_forms] at C2
  rw [← hm]
  simp only [Nat.add_assoc, Nat.reduceAdd]
  rw [← hW4]
  have HW4 := Lib.hid (And.intro z0 (And.intro hbw4 (And.intro hit hm)))
  clear hW4 z0 z1 z2 hb4 hbw4 hit hm
  refine C2.out.mono ?_
  rintro e w5 ⟨v5, rfl, hs5, hb5⟩
  obtain ⟨V5, c5, rfl⟩ := strs_form hs5
  have y0 := (hb5.block m (Array.getElem?_eq_some_iff.1 HW4.out.1).1).trans HW4.out.1
  obtain ⟨x0, x1, x2, x3, x4, x5⟩ := cells6_at y0
  have H5 := Lib.hid (And.intro hs5 (And.intro hb5 (HW4.out.2.2.1.keep hb5)))
  clear hs5 hb5 y0 C2
  go_wp2_with fail
  obtain ⟨q, hq⟩ : ∃ q, q = w5.heap.size := ⟨_, rfl⟩
  obtain ⟨W7, hW7⟩ : ∃ W7, W7 = ((w5.alloc (.cells #[.bool false, .int .i64 83, .bool true, .string ⟨#[121]⟩, .string ⟨#[105, 101, 115]⟩, .slice A 1 cap] 51)).alloc (.cells #[.string ⟨#[98]⟩, .slice none 0 0, .string ⟨#[97]⟩, .slice none 0 0] 25)) := ⟨_, rfl⟩
  have z1 : W7.heap[q]? = some (.cells #[.bool false, .int .i64 83, .bool true, .string ⟨#[121]⟩, .string ⟨#[105, 101, 115]⟩, .slice A 1 cap] 51 (0, 0)) := by rw [hW7]; exact heap_up (heap_top _ _ hq.symm) _
  have z2 : W7.heap[q + 1]? = some (.cells #[.string ⟨#[98]⟩, .slice none 0 0, .string ⟨#[97]⟩, .slice none 0 0] 25 (0, 0)) := by rw [hW7]; exact heap_top _ _ (by rw [World.size_alloc, hq])
  have hb7 : Below w5.heap.size w5 W7 := by rw [hW7]; exact ((Below.refl _ _).alloc (Nat.le_refl _) _).alloc (by simp) _
  have hbw7 : Below w.heap.size w W7 := (HW4.out.2.1.trans (H5.out.2.1.mono HW4.out.2.1.size)).trans (hb7.mono (Nat.le_trans HW4.out.2.1.size H5.out.2.1.size))
  have C3 := Lib.hid (all_any W7 _ _ [exR] [⟨⟨#[98]⟩, []⟩, ⟨⟨#[97]⟩, []⟩] (rules_one (r := exR) z1 (H5.out.2.2.keep hb7)) (ents_two z2) (tabs_below HT.out hbw7) ⟨by simp, fun r hr => by simp at hr; subst hr; exact ⟨by decide, by decide⟩⟩ (by simp)
    (fun e he => ⟨fun r hr => by simp at hr; subst hr; exact ex_fit.1, fun r hr => by simp at hr; subst hr; exact ⟨by decide, by decide⟩, fun f hf => by simp at he; rcases he with rfl | rfl <;> simp at hf, by simp at he; rcases he with rfl | rfl <;> (show ByteArray.size _ ≤ _; decide), by simp, by simp at he; rcases he with rfl | rfl <;> simp⟩))
  rw [ex_all] at C3
  dsimp only at C3
  rw [← hq]
  rw [← hW7]
  have H7 := Lib.hid (And.intro (H5.out.1.keep hb7) hbw7)
  clear hW7 z1 z2 hb7 hbw7 hq x0 x1 x2 x3 x4 x5
  refine C3.out.mono ?_
  rintro e w8 ⟨v8, c8, rfl, hs8, rfl, hb8⟩
  obtain ⟨V8, c9, rfl⟩ := strs_form hs8
  obtain ⟨g5, o5, rfl, h52, h5c, k0, k1⟩ := strs_two (H7.out.1.keep hb8)
  obtain ⟨g8, o8, rfl, h82, h8c, j0, j1⟩ := strs_two hs8
  have HB8 := Lib.hid (H7.out.2.trans (hb8.mono H7.out.2.size))
  clear hs8 hb8 C3
  have q1 : ((⟨#[99, 105, 116, 105, 101, 115]⟩ : ByteArray).toList == (⟨#[99, 105, 116, 105, 101, 115]⟩ : ByteArray).toList) = true := by simp
  go_wp2_with fail
  go_ret
  exact ⟨rfl, HB8.out⟩
end Go.Proofs.YtcbmfkgekhadkaaGreatDoor
