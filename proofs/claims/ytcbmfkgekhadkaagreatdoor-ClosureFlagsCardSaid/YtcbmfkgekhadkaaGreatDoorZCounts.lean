/- Stage 13's law ClosureCounts by contract: its rules by numbers; how many forms. -/
import Derived.Test.YtcbmfkgekhadkaaGreatDoorZAwake
import Derived.Test.YtcbmfkgekhadkaaGreatDoorZTurn
import Derived.Test.YtcbmfkgekhadkaaGreatDoorNPlace
import Derived.Deep.AppendLies
import Derived.BigQuiet
import Derived.Deep.QuietTactic
import Derived.Deep.CutRange
import Derived.Deep.DeepCutAuto
namespace Go.Proofs.YtcbmfkgekhadkaaGreatDoor
open Go Go.RowKit Go.Lib

def anyC : List It := [⟨true, false, []⟩]
def digB (i : Nat) : ByteArray := ⟨#[if i = 9 then 48 else UInt8.ofNat (49 + i)]⟩
def sufR (c : Bool) (i : Nat) : Ru := ⟨false, 83, c, ⟨#[]⟩, digB i, anyC⟩
def preR (i : Nat) : Ru := ⟨true, 80, true, ⟨#[]⟩, digB i, anyC⟩
def rsC (a b : Nat) (c : Bool) : List Ru := (List.range a).map (sufR c) ++ (List.range b).map preR
theorem counts_ok : ∀ (a b : Fin 8) (c : Bool), (formsL (rsC a.1 b.1 c) ⟨⟨#[119, 111, 114, 100]⟩, [80, 83]⟩).length = 1 + a.1 + b.1 + (if c then a.1 * b.1 else 0) ∧ (formsL (rsC a.1 b.1 c) ⟨⟨#[119, 111, 114, 100]⟩, [80]⟩).length = 1 + b.1 := by decide +kernel
theorem dig_cut : ∀ i : Fin 8, (⟨#[49, 50, 51, 52, 53, 54, 55, 56, 57, 48]⟩ : ByteArray).extract i.1 (i.1 + 1) = digB i.1 := by decide
/-- Rules of the law's own while they grow. -/
structure RG (Wb : World) (v : Value) (rs : List Ru) (W : World) : Prop where
  row : ∃ xs, W.ownsRow Wb.heap.size 51 6 v rs.length xs ∧ ZRow Wb xs rs
  below : Below Wb.heap.size Wb W
theorem RG.start (Wb : World) : RG Wb (.slice none 0 0) [] Wb := ⟨⟨[], World.ownsRow_nil _ _ _ _, ZRow.nil Wb⟩, Below.refl _ _⟩
theorem RG.keep {Wb W W' : World} {v : Value} {rs : List Ru} (h : RG Wb v rs W) (hb : Below W.heap.size W W') : RG Wb v rs W' := by
  obtain ⟨⟨xs, h1, h2⟩, h3⟩ := h
  exact ⟨⟨xs, own_keep9 h1 hb, h2⟩, h3.trans (hb.mono h3.size)⟩
theorem RG.reads {Wb W : World} {v : Value} {rs : List Ru} (h : RG Wb v rs W) : RulesAt W v rs := by
  obtain ⟨xs, h1, h2⟩ := h.row
  exact h2.rules h1 h.below
theorem RG.more {Wb W W1 W2 : World} {v v' : Value} {rs : List Ru} {xs : List Value} {r : Ru} {A : Option Addr} {cap n : Nat} (hn : n = rs.length) (h1 : W.ownsRow Wb.heap.size 51 6 v n xs) (h2 : ZRow Wb xs rs) (hb : Below Wb.heap.size Wb W1) (hi : ItemsAt Wb (.slice A r.cond.length cap) r.cond)
    (hown : W2.ownsRow Wb.heap.size 51 6 v' (n + 1) (xs ++ zCells r A cap)) (hg : W1.grownBy W2 v.ownBlock) : RG Wb v' (rs ++ [r]) W2 := by
  subst hn
  exact ⟨⟨xs ++ zCells r A cap, by rw [List.length_append]; exact hown, h2.snoc h1.1 hi⟩, hb.grown hg hb.size fun z hz => (h1.lt z hz).1⟩
theorem any_items {W : World} {q : Nat} {t : TypeId} (h : W.heap[q]? = some (.cells #[.bool true, .bool false, .slice none 0 0] t (0, 0))) : ItemsAt W (.slice (some ⟨q, 0, none⟩) 1 1) anyC := by
  refine .inr ⟨q, 0, 1, rfl, (Array.getElem?_eq_some_iff.1 h).1, by simp [anyC], by unfold maxLen; omega, fun i it hi => ?_⟩
  cases i with
  | zero =>
    simp [anyC] at hi
    subst hi
    exact ⟨by simp [World.cell?, h], by simp [World.cell?, h], .slice none 0 0, by simp [World.cell?, h], .inl ⟨rfl, _, _, rfl⟩⟩
  | succ i => simp [anyC] at hi
theorem rule_one (a b : Bool) (f : Int) (s t : ByteArray) (A : Option Addr) (n c : Nat) : ∀ u ∈ [Value.bool a, .int .i64 f, .bool b, .string s, .string t, .slice A n c], u.oneCell' = true := by
  intro u hu
  simp only [List.mem_cons, List.not_mem_nil, or_false] at hu
  rcases hu with rfl | rfl | rfl | rfl | rfl | rfl <;> rfl
theorem range_snoc (f : Nat → Ru) (k : Nat) : (List.range (k + 1)).map f = (List.range k).map f ++ [f k] := by rw [List.range_succ, List.map_append]; rfl
theorem ints_two {W : World} {g : Nat} {t : TypeId} {c d : Int} (h : W.heap[g]? = some (.cells #[.int .i64 c, .int .i64 d] t (0, 0))) : IntsAt W (.slice (some ⟨g, 0, none⟩) 2 2) [c, d] := by
  refine .inr ⟨g, 0, 2, rfl, (Array.getElem?_eq_some_iff.1 h).1, by simp, by unfold maxLen; omega, fun i r' hr => ?_⟩
  match i, hr with
  | 0, hr => simp at hr; subst hr; simp [World.cell?, h]
  | 1, hr => simp at hr; subst hr; simp [World.cell?, h]
  | i + 2, hr => simp at hr
theorem rsC_arg (a b : Nat) (c : Bool) (ha : a < 8) (hb : b < 8) (wd : ByteArray) (fl : List Int) (hw : wd.size ≤ 1000) (hf : ∀ f ∈ fl, In64 f) (hl : fl.length ≤ 100) : ZArg (rsC a b c) ⟨wd, fl⟩ := by
  have hr : ∀ r ∈ rsC a b c, (r.flag = 80 ∨ r.flag = 83) ∧ r.cond = anyC ∧ r.strip.size ≤ 1 ∧ r.add.size ≤ 1 := fun r hr => by
    rcases List.mem_append.1 hr with h | h
    · obtain ⟨i, _, rfl⟩ := List.mem_map.1 h
      exact ⟨.inr rfl, rfl, by simp [sufR, ByteArray.size], by simp [sufR, digB, ByteArray.size]⟩
    · obtain ⟨i, _, rfl⟩ := List.mem_map.1 h
      exact ⟨.inl rfl, rfl, by simp [preR, ByteArray.size], by simp [preR, digB, ByteArray.size]⟩
  refine ⟨fun r h => ?_, fun r h => ?_, hf, by show wd.size ≤ _; omega, by simp [rsC]; omega, by show fl.length ≤ _; omega⟩
  · obtain ⟨_, h1, h2, h3⟩ := hr r h
    exact ⟨by rw [h1]; decide, fun it hit => by rw [h1] at hit; simp [anyC] at hit; subst hit; decide, by omega, by omega⟩
  · rcases (hr r h).1 with e | e <;> rw [e] <;> exact ⟨by decide, by decide⟩

set_option maxRecDepth 100000 in
set_option maxHeartbeats 1000000 in
theorem counts_law (w : World) (x y : Int) (cr : Bool) (hT : Tabs9 w) :
    Calls Tryz.prog 5 #[.int .i64 x, .int .i64 y, .bool cr] w fun e w' => e = .returned (.bool true) ∧ Below w.heap.size w w' := by
  have PL := Lib.hid (fun v => place9 v 8 w (by omega) (by omega))
  obtain ⟨a, ha⟩ : ∃ a : Nat, x % 8 = a := ⟨(x % 8).toNat, by omega⟩
  obtain ⟨b, hb⟩ : ∃ b : Nat, y % 8 = b := ⟨(y % 8).toNat, by omega⟩
  have ha8 : a < 8 := by omega
  have hb8 : b < 8 := by omega
  have HT := Lib.hid hT
  have HAB := Lib.hid (And.intro ha (And.intro hb (And.intro ha8 hb8)))
  obtain ⟨i0, hi, hz0, hz1, hz2⟩ := info_parts Tryz.infosZ51
  obtain ⟨Wb, hWb⟩ : ∃ Wb, Wb = w.alloc (.cells #[.bool true, .bool false, .slice none 0 0] 48) := ⟨_, rfl⟩
  obtain ⟨q, hq⟩ : ∃ q, q = w.heap.size := ⟨_, rfl⟩
  have hbb : Below w.heap.size w Wb := by rw [hWb]; exact (Below.refl _ _).alloc (Nat.le_refl _) _
  have hit : ItemsAt Wb (.slice (some ⟨q, 0, none⟩) 1 1) anyC := any_items (by rw [hWb, hq]; exact World.alloc_heap_new _ _)
  have HB := Lib.hid (And.intro hbb hit)
  clear ha hb ha8 hb8 hT hbb hit
  go_enter Tryz.func5, Tryz.ntmps5
  go_upto_region 2 with (go_at_call 19; refine (PL.out _).mono ?_; rintro e wx ⟨rfl, hwx⟩; subst hwx)
  rw [HAB.out.1, HAB.out.2.1]
  go_upto_region 4 with fail
  rw [← hWb, ← hq]
  clear hWb hq
  go_wp2_with fail
  go_loopg [9, 11] a (fun gh s9 s11 wr => ∃ k : Nat, k + gh = a ∧ s11 = .int .i64 k ∧ Hid (RG Wb s9 ((List.range k).map (sufR cr)) wr))
  case atStart => exact ⟨0, by omega, rfl, Lib.hid (RG.start Wb)⟩
  case round =>
    obtain ⟨k, hk, rfl, HR⟩ := hrel
    by_cases hlt : k < a
    · have d1 : (k : Int) < a := by omega
      obtain ⟨xs, ho, hz⟩ := HR.out.row
      rw [List.length_map, List.length_range] at ho
      have HX := Lib.hid (And.intro ho hz)
      have hcut := dig_cut ⟨k, by have := HAB.out.2.2.1; omega⟩
      dsimp only at hcut
      have hka : (k : Int) + 1 ≤ 10 := by have := HAB.out.2.2.1; omega
      clear ho hz hlt
      have HN := Lib.hid (show k = ((List.range k).map (sufR cr)).length by rw [List.length_map, List.length_range])
      go_wp2_with (at_builtin; refine wpList_append_own _ rfl _ _ 22 rfl Wb.heap.size 51 i0 _ 6 80 Tryz.underlying22 hi hz0 hz1 hz2 rfl (by decide) _ _ _ rfl (own_keep9 HX.out.1 ((Below.refl _ _).alloc (Nat.le_refl _) _)) ⟨wr.heap.size, 0, none⟩ 1 1 [.bool false, .int .i64 83, .bool cr, .string ⟨#[]⟩, .string (digB k), .slice (some ⟨q, 0, none⟩) 1 1] rfl rfl (World.news_of_block (cs := #[.bool false, .int .i64 83, .bool cr, .string ⟨#[]⟩, .string (digB k), .slice (some ⟨q, 0, none⟩) 1 1]) (t := 51) (fr := (0, 0)) (World.alloc_heap_new wr _)) (rule_one _ _ _ _ _ _ _ _) (by unfold maxLen; omega) (by omega) (by have := HR.out.below.size; rw [World.size_alloc]; omega) ?_; intro v1 w1 ho1 hg1 hn1; have HRN : Hid (RG Wb v1 ((List.range (k + 1)).map (sufR cr)) w1) := Lib.hid (by rw [range_snoc]; exact RG.more (r := sufR cr k) HN.out HX.out.1 HX.out.2 (HR.out.below.alloc HR.out.below.size _) HB.out.2 ho1 hg1); clear ho1 hg1 hn1)
      go_roundg (gk - 1)
      case measure => omega
      case rel => exact ⟨k + 1, by omega, by go_num, HRN⟩
    · obtain rfl : k = a := by omega
      clear hlt
      go_wp2_with fail
      go_loopg [9, 12] b (fun gh s9 s12 wr => ∃ k' : Nat, k' + gh = b ∧ s12 = .int .i64 k' ∧ Hid (RG Wb s9 ((List.range k).map (sufR cr) ++ (List.range k').map preR) wr))
      case atStart => exact ⟨0, by omega, rfl, Lib.hid (by simpa using HR.out)⟩
      case round =>
        obtain ⟨a, ha⟩ : ∃ a, a = k := ⟨_, rfl⟩
        subst ha
        clear HR
        obtain ⟨k, hk, rfl, HR⟩ := hrel
        by_cases hlt : k < b
        · have d1 : (k : Int) < b := by omega
          obtain ⟨xs, ho, hz⟩ := HR.out.row
          have hnn : a + k = ((List.range a).map (sufR cr) ++ (List.range k).map preR).length := by simp
          have HN := Lib.hid hnn
          rw [← hnn] at ho
          have HX := Lib.hid (And.intro ho hz)
          have hcut := dig_cut ⟨k, by have := HAB.out.2.2.2; omega⟩
          dsimp only at hcut
          have hka : (k : Int) + 1 ≤ 10 := by have := HAB.out.2.2.2; omega
          have ha9 : a < 8 := HAB.out.2.2.1
          clear ho hz hlt hnn
          go_wp2_with (at_builtin; refine wpList_append_own _ rfl _ _ 22 rfl Wb.heap.size 51 i0 _ 6 80 Tryz.underlying22 hi hz0 hz1 hz2 rfl (by decide) _ _ _ rfl (own_keep9 HX.out.1 ((Below.refl _ _).alloc (Nat.le_refl _) _)) ⟨wr.heap.size, 0, none⟩ 1 1 [.bool true, .int .i64 80, .bool true, .string ⟨#[]⟩, .string (digB k), .slice (some ⟨q, 0, none⟩) 1 1] rfl rfl (World.news_of_block (cs := #[.bool true, .int .i64 80, .bool true, .string ⟨#[]⟩, .string (digB k), .slice (some ⟨q, 0, none⟩) 1 1]) (t := 51) (fr := (0, 0)) (World.alloc_heap_new wr _)) (rule_one _ _ _ _ _ _ _ _) (by unfold maxLen; omega) (by omega) (by have := HR.out.below.size; rw [World.size_alloc]; omega) ?_; intro v1 w1 ho1 hg1 hn1; have HRN : Hid (RG Wb v1 ((List.range a).map (sufR cr) ++ (List.range (k + 1)).map preR) w1) := Lib.hid (by rw [range_snoc, ← List.append_assoc]; exact RG.more (r := preR k) HN.out HX.out.1 HX.out.2 (HR.out.below.alloc HR.out.below.size _) HB.out.2 ho1 hg1); clear ho1 hg1 hn1)
          go_roundg (gk - 1)
          case measure => omega
          case rel => exact ⟨k + 1, by omega, by go_num, HRN⟩
        · obtain rfl : k = b := by omega
          clear hlt hk
          obtain ⟨b, hb⟩ : ∃ b, b = k := ⟨_, rfl⟩
          subst hb
          have ha8 := HAB.out.2.2.1
          have hb8 := HAB.out.2.2.2
          obtain ⟨p, hp⟩ : ∃ p : Nat, p = a * b := ⟨_, rfl⟩
          have hmul : (a : Int) * b = p := by rw [hp]; simp
          have hp49 : p ≤ 49 := by rw [hp]; exact Nat.le_trans (Nat.mul_le_mul (show a ≤ 7 by omega) (show b ≤ 7 by omega)) (by decide)
          have hcnt := counts_ok ⟨a, ha8⟩ ⟨b, hb8⟩ cr
          dsimp only at hcnt
          rw [← hp] at hcnt
          have HC := Lib.hid hcnt
          have HP := Lib.hid hp
          have CF := Lib.hid (forms_any (wr.alloc (.cells #[.int .i64 80, .int .i64 83] 3)) u9 (rsC a b cr) (some ⟨wr.heap.size, 0, none⟩) 2 2 ⟨#[119, 111, 114, 100]⟩ [80, 83] (HR.out.keep ((Below.refl _ _).alloc (Nat.le_refl _) _)).reads (ints_two (World.alloc_heap_new _ _)) (tabs_below HT.out (HB.out.1.trans ((HR.out.below.alloc HR.out.below.size _).mono HB.out.1.size))) (rsC_arg a b cr ha8 hb8 _ _ (by decide) (by simp [In64]) (by decide)))
          clear hp hcnt
          go_upto_region 13 with (go_at_call 11; refine CF.out.mono ?_)
          rintro e w5 ⟨v5, rfl, hs5, hb5⟩
          obtain ⟨V5, c5, rfl⟩ := strs_form hs5
          have hb5' : Below wr.heap.size wr w5 := ((Below.refl _ _).alloc (Nat.le_refl _) _).trans (hb5.mono (by rw [World.size_alloc]; omega))
          obtain ⟨L5, hL5⟩ : ∃ L, L = formsL (rsC a b cr) ⟨⟨#[119, 111, 114, 100]⟩, [80, 83]⟩ := ⟨_, rfl⟩
          rw [← hL5] at hs5 HC ⊢
          have HRI := Lib.hid (show Rising L5 by rw [hL5]; exact forms_rising _ _)
          obtain ⟨n5, hn5⟩ : ∃ n, n = L5.length := ⟨_, rfl⟩
          rw [← hn5] at hs5 HC ⊢
          have HR5 := Lib.hid (HR.out.keep hb5')
          have HS5 := Lib.hid (And.intro hs5 hn5)
          clear hL5 hs5 hn5 hb5 hb5' HR CF
          go_upto_region 13 with fail
          have CG := Lib.hid (forms_any (w5.alloc (.cells #[.int .i64 80] 3)) u9 (rsC a b cr) (some ⟨w5.heap.size, 0, none⟩) 1 1 ⟨#[119, 111, 114, 100]⟩ [80] (HR5.out.keep ((Below.refl _ _).alloc (Nat.le_refl _) _)).reads (ints_one (World.alloc_heap_new _ _)) (tabs_below HT.out (HB.out.1.trans ((HR5.out.below.alloc HR5.out.below.size _).mono HB.out.1.size))) (rsC_arg a b cr ha8 hb8 _ _ (by decide) (by simp [In64]) (by decide)))
          go_wp2_with (go_at_call 11; refine CG.out.mono ?_)
          rintro e w6 ⟨v6, rfl, hs6, hb6⟩
          obtain ⟨V6, c6, rfl⟩ := strs_form hs6
          have hb6' : Below w5.heap.size w5 w6 := ((Below.refl _ _).alloc (Nat.le_refl _) _).trans (hb6.mono (by rw [World.size_alloc]; omega))
          rw [HC.out.2]
          have HR6 := Lib.hid (HR5.out.keep hb6')
          have HS6 := Lib.hid (And.intro (HS5.out.1.keep hb6') HS5.out.2)
          obtain ⟨want, hw⟩ : ∃ n : Nat, n = 1 + a + b + (if cr then p else 0) := ⟨_, rfl⟩
          have hn5 : n5 = want := by rw [HC.out.1, hw]
          have hw99 : want ≤ 99 := by rw [hw]; split <;> omega
          have HW6 := Lib.hid (show Below w.heap.size w w6 from HB.out.1.trans (HR6.out.below.mono HB.out.1.size))
          have AW := Lib.hid (fun W (h : Below w6.heap.size w6 W) => awake13_any W (tabs_below HT.out (HW6.out.trans (h.mono HW6.out.size))))
          have HSO := Lib.hid (strs_open HS6.out.1)
          have HNL := Lib.hid HS6.out.2
          have hn1 : 1 ≤ n5 := by rw [hn5, hw]; omega
          have hn99 : n5 ≤ 99 := by omega
          have HNW := Lib.hid (And.intro hn5 hw)
          clear hs6 hb6 hb6' HR5 HS5 CG HR6 HS6 HC HP PL hn5 hw hw99
          cases cr
          all_goals
            have HNV := HNW.out.2
            simp only [Bool.false_eq_true, if_true, if_false, Nat.add_zero] at HNV
            have HN9 := Lib.hid (HNW.out.1.trans HNV)
            clear HNV
            go_wp2_with fail
            go_loopg [16] (n5 - 1) (fun gh s16 wx => ∃ k : Nat, k + gh = n5 ∧ 1 ≤ k ∧ s16 = .int .i64 k ∧ Hid (Below w6.heap.size w6 wx))
            case atStart => exact ⟨1, by omega, by omega, rfl, Lib.hid (Below.refl _ _)⟩
            case round =>
              obtain ⟨k, hk, hk1, rfl, HX⟩ := hrel
              by_cases hlt : k < n5
              · have d1 : (k : Int) < n5 := by omega
                obtain ⟨s, hs⟩ : ∃ s, L5[k]? = some s := ⟨_, List.getElem?_eq_getElem (by rw [← HNL.out]; exact hlt)⟩
                obtain ⟨t, ht⟩ : ∃ t, L5[k - 1]? = some t := ⟨_, List.getElem?_eq_getElem (by rw [← HNL.out]; omega)⟩
                obtain ⟨g, off, rfl, hg, hgc, cs⟩ := HSO.out k s hs
                obtain ⟨g', off', eg, -, -, ct⟩ := HSO.out (k - 1) t ht
                cases eg
                have x0 := (HX.out.cell (p := ⟨g, off + k, none⟩) hg).trans cs
                have x1 := (HX.out.cell (p := ⟨g, off + (k - 1), none⟩) hg).trans ct
                have hts : ltS t s := by
                  have h1 := List.pairwise_iff_getElem.1 HRI.out (k - 1) k (List.getElem?_eq_some_iff.1 ht).1 (List.getElem?_eq_some_iff.1 hs).1 (by omega)
                  rwa [(List.getElem?_eq_some_iff.1 ht).2, (List.getElem?_eq_some_iff.1 hs).2] at h1
                have hl : Op.bytesLess s.toList t.toList = false := by rw [less_eq]; exact decide_eq_false (ltS_asymm hts)
                have hl2 : (s.toList == t.toList) = false := by rw [eq_eq]; exact decide_eq_false (fun e => ltS_irrefl t (by rw [e] at hts; exact hts))
                obtain ⟨j, hj⟩ : ∃ j, j = k - 1 := ⟨_, rfl⟩
                rw [← hj] at x1
                have ew : IntKind.i64.wrap ((k : Int) - 1) = (k : Int) - 1 := IntWalk.i64_in _ (by omega)
                have et : ((k : Int) - 1).toNat = j := by omega
                have hjn : (k : Int) - 1 < n5 := by omega
                have hj0 : (0 : Int) ≤ (k : Int) - 1 := by omega
                have hcap : (n5 : Int) ≤ c5 := by omega
                clear hs ht cs ct hts hlt hj
                go_upto_region 20 with fail
                go_quiet (fail)
                have HBN := Lib.hid (show Below w6.heap.size w6 (wr.drewN nq) from HX.out.trans ⟨rfl, rfl, rfl, Nat.le_refl _, fun _ _ => rfl⟩)
                clear x0 x1
                go_wp2_with fail
                go_roundg (gk - 1)
                case measure => omega
                case rel => exact ⟨k + 1, by omega, by omega, by go_num, HBN⟩
              · obtain rfl : k = n5 := by omega
                have d1 : ¬ (k : Int) < k := by omega
                have CA := Lib.hid (AW.out wr HX.out)
                have e5 := HN9.out
                clear hlt hk HNW HN9 hn1 hn99 hk1 AW
                obtain ⟨m, hm⟩ : ∃ m : Int, m = k := ⟨_, rfl⟩
                go_wp2_with (go_at_call 9; refine CA.out.mono ?_; rintro e w9 ⟨rfl, hb9⟩; have HB9 := Lib.hid (HX.out.trans (hb9.mono HX.out.size)); clear hb9)
                go_ret
                exact ⟨rfl, HW6.out.trans (HB9.out.mono HW6.out.size)⟩
end Go.Proofs.YtcbmfkgekhadkaaGreatDoor
