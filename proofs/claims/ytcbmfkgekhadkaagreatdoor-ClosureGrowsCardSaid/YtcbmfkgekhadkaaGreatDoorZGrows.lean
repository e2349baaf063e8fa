/- Stage 13's law ClosureGrows by contract: with a rule more there are never fewer forms. -/
import Derived.Test.YtcbmfkgekhadkaaGreatDoorZCounts
import Derived.Test.YtcbmfkgekhadkaaGreatDoorZGrowPlain
import Derived.Test.YtcbmfkgekhadkaaGreatDoorZSameAll
import Derived.Test.YtcbmfkgekhadkaaGreatDoorZDigits
import Derived.BigQuiet
import Derived.Deep.QuietTactic
namespace Go.Proofs.YtcbmfkgekhadkaaGreatDoor
open Go Go.RowKit Go.Lib
attribute [local go_sem] alloc_set

/-- Twelve entries, twelve rules at most: never too many. -/
theorem allL_dozen {rs : List Ru} {es : List En} (h1 : rs.length ≤ 12) (h2 : es.length ≤ 12) : allL rs es = (allF rs es, 0) ∧ (allF rs es).length ≤ 2000 := by
  have h := allF_len rs es
  have h3 : rs.length * (rs.length + 1) ≤ 12 * 13 := Nat.mul_le_mul h1 (by omega)
  have h4 : es.length * (1 + rs.length * (rs.length + 1)) ≤ 12 * 157 := Nat.mul_le_mul h2 (by omega)
  refine ⟨?_, by omega⟩
  unfold allL
  rw [if_pos (by omega)]
def GoodE (e : En) : Prop := e.word.size ≤ 100 ∧ e.flags.length ≤ 2 ∧ ∀ f ∈ e.flags, In64 f
def GoodZ (r : Ru) : Prop := In64 r.flag ∧ r.cond = anyC ∧ r.strip.size ≤ 1 ∧ r.add.size ≤ 100
theorem good_arg {rs : List Ru} {e : En} (hr : ∀ r ∈ rs, GoodZ r) (hn : rs.length ≤ 12) (he : GoodE e) : ZArg rs e := by
  refine ⟨fun r h => ?_, fun r h => (hr r h).1, he.2.2, by have := he.1; omega, by omega, by have := he.2.1; omega⟩
  obtain ⟨_, h1, h2, h3⟩ := hr r h
  exact ⟨by rw [h1]; decide, fun it hit => by rw [h1] at hit; simp [anyC] at hit; subst hit; decide, by omega, by omega⟩

set_option maxRecDepth 100000 in
set_option maxHeartbeats 2000000 in
theorem grows_law (w : World) (v0 v1 : Value) (l words : List Int) (hI0 : IntsAt w v0 l) (hI1 : IntsAt w v1 words) (hT : Tabs9 w) :
    Calls Tryz.prog 7 #[v0, v1] w fun e w' => e = .returned (.bool true) ∧ Below w.heap.size w w' := by
  obtain ⟨A0, cap0, rfl, hA0⟩ := ints_open hI0
  obtain ⟨A1, cap1, rfl, hA1⟩ := ints_open hI1
  have hbd0 := ints_bd hI0
  have hbd1 := ints_bd hI1
  obtain ⟨n0, hn0⟩ : ∃ n, n = l.length := ⟨_, rfl⟩
  obtain ⟨n1, hn1⟩ : ∃ n, n = words.length := ⟨_, rfl⟩
  rw [← hn0] at hA0 hbd0 ⊢
  rw [← hn1] at hA1 hbd1 ⊢
  have HA0 := Lib.hid hA0
  have HA1 := Lib.hid hA1
  have HN := Lib.hid (And.intro hn0 hn1)
  have HT := Lib.hid hT
  obtain ⟨i0, hi, hz0, hz1, hz2⟩ := info_parts Tryz.infosZ51
  obtain ⟨i1, hi1, hy0, hy1, hy2⟩ := info_parts Tryz.infosY25
  obtain ⟨Wb, hWb⟩ : ∃ Wb, Wb = w.alloc (.cells #[.bool true, .bool false, .slice none 0 0] 48) := ⟨_, rfl⟩
  obtain ⟨q, hq⟩ : ∃ q, q = w.heap.size := ⟨_, rfl⟩
  have hbb : Below w.heap.size w Wb := by rw [hWb]; exact (Below.refl _ _).alloc (Nat.le_refl _) _
  have hit : ItemsAt Wb (.slice (some ⟨q, 0, none⟩) 1 1) anyC := any_items (by rw [hWb, hq]; exact World.alloc_heap_new _ _)
  have HB := Lib.hid (And.intro hbb hit)
  obtain ⟨m1, hm⟩ : ∃ m, m = min 12 n1 := ⟨_, rfl⟩
  have hmn : m1 ≤ n1 := by omega
  have hm12 : m1 ≤ 12 := by omega
  have HM := Lib.hid (show m1 = n1 ∨ m1 = 12 by omega)
  clear hT hbb hit hA0 hA1 hn0 hn1 hI0 hI1 hm
  go_enter Tryz.func7, Tryz.ntmps7
  go_upto_region 4 with fail
  rw [← hWb, ← hq]
  clear hWb hq
  go_wp2_with fail
  go_loopg [6, 8] m1 (fun gh s6 s8 wr => ∃ (k : Nat) (xs : List Value) (es : List En), k + gh = m1 ∧ s8 = .int .i64 k ∧ Hid (EQ Wb wr s6 xs es ∧ es.length = k ∧ ∀ e ∈ es, GoodE e))
  case atStart => exact ⟨0, [], [], by omega, rfl, Lib.hid ⟨EQ.start Wb, rfl, fun e h => by cases h⟩⟩
  case round =>
    obtain ⟨k, xs, es, hk, rfl, HQ⟩ := hrel
    rcases Nat.eq_zero_or_pos gk with hg0 | hg0
    · obtain rfl : k = m1 := by omega
      clear hg0 hk
      obtain ⟨EA, ec, rfl⟩ := own_shape HQ.out.1.row
      obtain ⟨W2, hW2⟩ : ∃ W, W = wr := ⟨_, rfl⟩
      rw [← hW2] at HQ ⊢
      clear hW2
      obtain ⟨hq1, hq2, hq3⟩ := HQ.out
      have hents := hq1.reads
      have hbw2 : Below w.heap.size w W2 := HB.out.1.trans (hq1.below.mono HB.out.1.size)
      rw [hq2] at hents ⊢
      have HE := Lib.hid (And.intro hents (And.intro hq2 (And.intro hq3 (And.intro hbw2 (HB.out.2.keep hq1.below)))))
      have hex : (¬ (k : Int) < n1) ∨ ((k : Int) < n1 ∧ ¬ (k : Int) < 12) := by
        rcases HM.out with h | h
        · left; omega
        · by_cases h2 : (k : Int) < n1
          · exact .inr ⟨h2, by omega⟩
          · exact .inl h2
      clear hq1 hq2 hq3 hents hbw2 HQ HM
      obtain ⟨M, hM⟩ : ∃ M, M = min 12 (n0 + 1) := ⟨_, rfl⟩
      have hMn : M ≤ n0 + 1 := by omega
      have hM12 : M ≤ 12 := by omega
      have HM := Lib.hid (show M = n0 + 1 ∨ M = 12 by omega)
      clear hM
      rcases hex with d1 | ⟨d1, d2⟩
      all_goals
        go_wp2_with fail
        go_loopg [5, 10, 11] M (fun gh s5 s10 s11 wr => ∃ (j c : Nat) (rs : List Ru), j + gh = M ∧ s11 = .int .i64 j ∧ s10 = .int .i64 c ∧ c ≤ 2000 ∧ Hid (RG W2 s5 rs wr ∧ rs.length ≤ j ∧ (∀ r ∈ rs, GoodZ r) ∧ c ≤ (allF rs es).length))
        case atStart => exact ⟨0, 0, [], by omega, rfl, rfl, by omega, Lib.hid ⟨RG.start W2, Nat.le_refl _, (fun r h => by cases h), Nat.zero_le _⟩⟩
        case round =>
          obtain ⟨j, c, rs, hj, rfl, rfl, hc2, HR⟩ := hrel
          have hbw : Below w.heap.size w wr := HE.out.2.2.2.1.trans (HR.out.1.below.mono HE.out.2.2.2.1.size)
          rcases Nat.eq_zero_or_pos gk with hg0 | hg0
          · obtain rfl : j = M := by omega
            have hall := all_any wr u5 _ rs es HR.out.1.reads (HE.out.1.keep HR.out.1.below) (tabs_below HT.out hbw) ⟨by have := HR.out.2.1; omega, fun r h => (HR.out.2.2.1 r h).1⟩ (by have := HE.out.2.1; omega) (fun e he => good_arg HR.out.2.2.1 (by have := HR.out.2.1; omega) (HE.out.2.2.1 e he))
            have had := allL_dozen (rs := rs) (es := es) (by have := HR.out.2.1; omega) (by have := HE.out.2.1; omega)
            rw [had.1] at hall
            obtain ⟨F, hF⟩ : ∃ F, F = allF rs es := ⟨_, rfl⟩
            rw [← hF] at hall had
            have hmem : ∀ e ∈ es, e.word ∈ F := fun e he => by rw [hF]; exact allF_word rs he
            obtain ⟨fn, hfn⟩ : ∃ n, n = F.length := ⟨_, rfl⟩
            rw [← hfn] at had
            have hf2 := had.2
            have CA := Lib.hid hall
            have HF := Lib.hid (And.intro hfn hmem)
            have HE2 := Lib.hid (HE.out.1.keep HR.out.1.below)
            have hes := HE.out.2.1
            have hey : (¬ (j : Int) ≤ n0) ∨ ((j : Int) ≤ n0 ∧ ¬ (j : Int) < 12) := by
              rcases HM.out with h | h
              · left; omega
              · by_cases h2 : (j : Int) ≤ n0
                · exact .inr ⟨h2, by omega⟩
                · exact .inl h2
            have HBW := Lib.hid hbw
            clear hall had hF hfn hmem hg0 hj HR hbw HM
            rcases hey with f1 | ⟨f1, f2⟩
            all_goals
              go_upto_region 24 with (go_at_call 17; refine CA.out.mono ?_; rintro e w1 ⟨v1, cc, rfl, hs1, hcc, hb1⟩; subst hcc; obtain ⟨V1, c1, rfl⟩ := strs_form hs1)
              rw [← HF.out.1] at hs1 ⊢
              have HO := Lib.hid (strs_open hs1)
              have HEN := Lib.hid (ents_open (HE2.out.keep hb1))
              have HB1 := Lib.hid (HBW.out.trans (hb1.mono HBW.out.size))
              clear hs1 hb1 CA HE2
              go_wp2_with fail
              go_loopg [18] k (fun gh s18 wx => ∃ i : Nat, i + gh = k ∧ s18 = .int .i64 i ∧ Hid (Below w1.heap.size w1 wx))
              case atStart => exact ⟨0, by omega, rfl, Lib.hid (Below.refl _ _)⟩
              case round =>
                obtain ⟨i, hik, rfl, HX⟩ := hrel
                by_cases hlt : i < k
                · have e1 : (i : Int) < k := by omega
                  obtain ⟨en, hen⟩ : ∃ e, es[i]? = some e := ⟨_, List.getElem?_eq_getElem (by omega)⟩
                  obtain ⟨g, o, rfl, hg, hgc, y0, -⟩ := HEN.out i en hen
                  obtain ⟨wd, hwd⟩ : ∃ wd, wd = en.word := ⟨_, rfl⟩
                  have HMW := Lib.hid (show wd ∈ F by rw [hwd]; exact HF.out.2 en (List.mem_of_getElem? hen))
                  rw [← hwd] at y0
                  have hgc2 : (k : Int) ≤ ec := by omega
                  obtain ⟨g1, hg1⟩ : ∃ g1, g1 = gk := ⟨_, rfl⟩
                  have hi0 : (0 : Int) ≤ i := by omega
                  clear hen hwd
                  go_wp2_with fail
                  go_loopg [19, 20] fn (fun gh s19 s20 wx => ∃ (j : Nat) (b : Bool), j + gh = fn ∧ s20 = .int .i64 j ∧ s19 = .bool b ∧ Hid (Below w1.heap.size w1 wx ∧ (b = true ↔ wd ∈ F.take j)))
                  case atStart => exact ⟨0, false, by omega, rfl, rfl, Lib.hid ⟨HX.out, by simp⟩⟩
                  case round =>
                    obtain ⟨jj, b, hjj, rfl, rfl, HY⟩ := hrel
                    by_cases hlj : jj < fn
                    · have e2 : (jj : Int) < fn := by omega
                      obtain ⟨x, hx⟩ : ∃ x, F[jj]? = some x := ⟨_, List.getElem?_eq_getElem (by rw [← HF.out.1]; exact hlj)⟩
                      obtain ⟨g8, o8, rfl, hg8, hgc8, xc⟩ := HO.out jj x hx
                      have y1 := (HY.out.1.cell (p := ⟨g8, o8 + jj, none⟩) hg8).trans xc
                      have y2 := (HY.out.1.cell (p := ⟨g, o + i * 2, none⟩) hg).trans y0
                      have hgc9 : (fn : Int) ≤ c1 := by omega
                      have ht : F.take (jj + 1) = F.take jj ++ [x] := by rw [List.take_add_one, hx]; rfl
                      have HTK := Lib.hid ht
                      clear hx xc ht
                      cases b
                      · go_upto_region 31 with fail
                        go_quiet (fail)
                        have HNN := Lib.hid (show Below w1.heap.size w1 (wr.drewN nq) ∧ ((x.toList == wd.toList) = true ↔ wd ∈ F.take (jj + 1)) from ⟨HY.out.1.trans ⟨rfl, rfl, rfl, Nat.le_refl _, fun _ _ => rfl⟩, by
                          have hn : ¬ wd ∈ F.take jj := fun h => by have := HY.out.2.2 h; cases this
                          rw [HTK.out, List.mem_append, List.mem_singleton, eq_eq, decide_eq_true_eq]
                          exact ⟨fun h => .inr h.symm, fun h => h.elim (fun h => absurd h hn) fun h => h.symm⟩⟩)
                        clear y1 y2
                        go_wp2_with fail
                        go_roundg (gk - 1)
                        case measure => omega
                        case rel => exact ⟨jj + 1, _, by omega, by go_num, rfl, HNN⟩
                      · go_upto_region 31 with fail
                        go_quiet (fail)
                        have HNN := Lib.hid (show Below w1.heap.size w1 (wr.drewN nq) ∧ (true = true ↔ wd ∈ F.take (jj + 1)) from ⟨HY.out.1.trans ⟨rfl, rfl, rfl, Nat.le_refl _, fun _ _ => rfl⟩, by
                          rw [HTK.out, List.mem_append]
                          exact ⟨fun _ => .inl (HY.out.2.1 rfl), fun _ => rfl⟩⟩)
                        clear y1 y2
                        go_wp2_with fail
                        go_roundg (gk - 1)
                        case measure => omega
                        case rel => exact ⟨jj + 1, true, by omega, by go_num, rfl, Lib.hid (by simpa using HNN.out)⟩
                    · obtain rfl : jj = fn := by omega
                      have e2 : ¬ (jj : Int) < jj := by omega
                      have hb : b = true := HY.out.2.2 (by rw [List.take_of_length_le (by rw [← HF.out.1]; exact Nat.le_refl _)]; exact HMW.out)
                      subst hb
                      clear hlj
                      go_wp2_with fail
                      go_roundg (g1 - 1)
                      case measure => omega
                      case rel => exact ⟨i + 1, by omega, by go_num, Lib.hid HY.out.1⟩
                · obtain rfl : i = k := by omega
                  have e1 : ¬ (i : Int) < i := by omega
                  have CW := Lib.hid (awake13_any wr (tabs_below HT.out (HB1.out.trans (HX.out.mono HB1.out.size))))
                  clear hlt
                  go_wp2_with (go_at_call 9; refine CW.out.mono ?_; rintro e w9 ⟨rfl, hb9⟩; have HB9 := Lib.hid (HB1.out.trans ((HX.out.trans (hb9.mono HX.out.size)).mono HB1.out.size)); clear hb9)
                  go_ret
                  exact ⟨rfl, HB9.out⟩
          · have hj12 : j < 12 := by omega
            have f1 : (j : Int) ≤ n0 := by omega
            have f2 : (j : Int) < 12 := by omega
            have hall := all_any wr u5 _ rs es HR.out.1.reads (HE.out.1.keep HR.out.1.below) (tabs_below HT.out hbw) ⟨by have := HR.out.2.1; omega, fun r h => (HR.out.2.2.1 r h).1⟩ (by have := HE.out.2.1; omega) (fun e he => good_arg HR.out.2.2.1 (by have := HR.out.2.1; omega) (HE.out.2.2.1 e he))
            have had := allL_dozen (rs := rs) (es := es) (by have := HR.out.2.1; omega) (by have := HE.out.2.1; omega)
            rw [had.1] at hall
            obtain ⟨F, hF⟩ : ∃ F, F = allF rs es := ⟨_, rfl⟩
            rw [← hF] at hall had
            have CA := Lib.hid hall
            have hcF : c ≤ F.length := by rw [hF]; exact HR.out.2.2.2
            have hpos : 0 < k → 0 < F.length := fun h => by rw [hF]; exact allF_pos rs (by have := HE.out.2.1; omega)
            obtain ⟨fn, hfn⟩ : ∃ n, n = F.length := ⟨_, rfl⟩
            have HF := Lib.hid (And.intro hF hfn)
            rw [← hfn] at had hcF hpos
            have hf2 := had.2
            clear hall had hF hfn
            go_upto_region 14 with (go_at_call 17; refine CA.out.mono ?_; rintro e w1 ⟨v1, cc, rfl, hs1, hcc, hb1⟩; subst hcc; obtain ⟨V1, c1, rfl⟩ := strs_form hs1)
            rw [← HF.out.2]
            have HB1 := Lib.hid hb1
            have HK := Lib.hid (And.intro hcF hpos)
            clear hs1 hb1 CA hpos
            go_cut [88] (fun t wx => t = .bool false ∧ w1 = wx)
            case first =>
              have g1 : ¬ (fn : Int) < c := by omega
              rcases Nat.eq_zero_or_pos c with hc0 | hc0
              · rcases Nat.eq_zero_or_pos k with hk0 | hk0
                · subst hc0
                  have g2 : ¬ (0 : Int) < k := by omega
                  clear hk0
                  go_wp2_with fail
                  all_goals
                    go_meet
                    exact ⟨rfl, rfl⟩
                · subst hc0
                  have g2 : (0 : Int) < k := by omega
                  have g3 : 0 < fn := HK.out.2 hk0
                  clear hk0
                  go_wp2_with fail
                  go_meet
                  exact ⟨by congr 1; simp; omega, rfl⟩
              · have g2 : ¬ ((c : Int) = 0) := by omega
                clear hc0
                go_wp2_with fail
                go_meet
                exact ⟨rfl, rfl⟩
            case rest =>
              obtain ⟨rfl, rfl⟩ := hcut
              have HR1 := Lib.hid (HR.out.1.keep HB1.out)
              have HNX : ∀ rs', (∀ r ∈ rs, r ∈ rs') → fn ≤ (allF rs' es).length := fun rs' h => by
                rw [HF.out.2, HF.out.1]
                exact allF_more h es
              have HNX := Lib.hid HNX
              by_cases hjn : j < n0
              · have f3 : (j : Int) < n0 := by omega
                obtain ⟨x, hx⟩ : ∃ x, l[j]? = some x := ⟨_, List.getElem?_eq_getElem (by have := HN.out.1; omega)⟩
                obtain ⟨g, o, rfl, hg, hcap, xc⟩ := HA0.out j x hx
                have y0 := (hbw.trans (HB1.out.mono hbw.size)).cell (p := ⟨g, o + j, none⟩) hg |>.trans xc
                have hcap2 : (n0 : Int) ≤ cap0 := by omega
                obtain ⟨K, hK⟩ : ∃ a : Nat, x % 1000 = a := ⟨(x % 1000).toNat, by omega⟩
                have PL := Lib.hid (fun wx => place9 x 1000 wx (by omega) (by omega))
                rw [hK] at PL
                obtain ⟨k3, hk3⟩ : ∃ a, a = K % 3 := ⟨_, rfl⟩
                obtain ⟨q3, hq3⟩ : ∃ a, a = K / 3 := ⟨_, rfl⟩
                obtain ⟨k2, hk2⟩ : ∃ a, a = q3 % 2 := ⟨_, rfl⟩
                obtain ⟨q6, hq6⟩ : ∃ a, a = K / 6 := ⟨_, rfl⟩
                obtain ⟨k5, hk5⟩ : ∃ a, a = q6 % 5 := ⟨_, rfl⟩
                obtain ⟨k4, hk4⟩ : ∃ a, a = K % 4 := ⟨_, rfl⟩
                have e1 : (K : Int).tmod 3 = (k3 : Int) := by rw [Int.tmod_eq_emod_of_nonneg (by omega)]; omega
                have e2 : (K : Int).tdiv 3 = (q3 : Int) := by rw [Int.tdiv_eq_ediv_of_nonneg (by omega)]; omega
                have e3 : (q3 : Int).tmod 2 = (k2 : Int) := by rw [Int.tmod_eq_emod_of_nonneg (by omega)]; omega
                have e4 : (K : Int).tdiv 6 = (q6 : Int) := by rw [Int.tdiv_eq_ediv_of_nonneg (by omega)]; omega
                have e5 : (q6 : Int).tmod 5 = (k5 : Int) := by rw [Int.tmod_eq_emod_of_nonneg (by omega)]; omega
                have e6 : (K : Int).tmod 4 = (k4 : Int) := by rw [Int.tmod_eq_emod_of_nonneg (by omega)]; omega
                have v3 : IntKind.i64.wrap (q3 : Int) = (q3 : Int) := IntWalk.i64_in _ (by omega)
                have v6 : IntKind.i64.wrap (q6 : Int) = (q6 : Int) := IntWalk.i64_in _ (by omega)
                have hk33 : (k3 : Int) < 3 := by omega
                have CD := Lib.hid (fun wx => zdig_any (k5 : Int) wx (by omega) (by omega))
                clear hx hg hcap xc hK hk3 hq3 hk2 hq6 hk5 hk4
                go_upto_region 20 with (first
                  | (go_at_call 19; refine (PL.out _).mono ?_; rintro e wx ⟨rfl, hwx⟩; subst hwx)
                  | (go_at_call 20; refine (CD.out _).mono ?_; rintro e w3 ⟨s, rfl, hs, hb3⟩))
                obtain ⟨xs, ho, hz⟩ := HR1.out.row
                obtain ⟨rn, hrn⟩ : ∃ rn, rn = rs.length := ⟨_, rfl⟩
                rw [← hrn] at ho
                have hrj : rn ≤ j := by have := HR.out.2.1; omega
                have HX := Lib.hid (And.intro ho (And.intro hz hrn))
                clear hrn
                have HB3 := Lib.hid hb3
                have HS3 := Lib.hid (show W2.heap.size ≤ w3.heap.size from Nat.le_trans HR1.out.below.size hb3.size)
                have HD3 := Lib.hid (show Below W2.heap.size W2 w3 from HR1.out.below.trans (hb3.mono HR1.out.below.size))
                clear ho hz hb3 y0 HR1 PL CD
                by_cases h4 : k4 = 0
                · have g4 : ((k4 : Int) == 0) = true := by simp [h4]
                  have g5 : (k4 : Int) = 0 := by omega
                  clear h4
                  go_wp2_with (at_builtin; refine wpList_append_own _ rfl _ _ 22 rfl W2.heap.size 51 i0 _ 6 80 Tryz.underlying22 hi hz0 hz1 hz2 rfl (by decide) _ _ _ rfl (own_keep9 (own_keep9 HX.out.1 HB3.out) (((Below.refl _ _).alloc (Nat.le_refl _) _).alloc (by simp) _)) ⟨w3.heap.size + 1, 0, none⟩ 1 1 [.bool true, .int .i64 112, .bool ((k2 : Int) == 0), .string ⟨#[]⟩, .string s, .slice (some ⟨q, 0, none⟩) 1 1] rfl rfl (World.news_of_block (B := w3.heap.size + 1) (cs := #[.bool true, .int .i64 112, .bool ((k2 : Int) == 0), .string ⟨#[]⟩, .string s, .slice (some ⟨q, 0, none⟩) 1 1]) (t := 51) (fr := (0, 0)) (heap_top _ _ (by rw [World.size_alloc]))) (rule_one _ _ _ _ _ _ _ _) (by unfold maxLen; omega) (by omega) (by have := HS3.out; simp; omega) ?_; intro v1 w4 ho4 hg4 hn4; have HRN : Hid (RG W2 v1 (rs ++ [(⟨true, 112, (k2 : Int) == 0, ⟨#[]⟩, s, anyC⟩ : Ru)]) w4) := Lib.hid (RG.more (r := (⟨true, 112, (k2 : Int) == 0, ⟨#[]⟩, s, anyC⟩ : Ru)) HX.out.2.2 HX.out.1 HX.out.2.1 ((HD3.out.alloc HD3.out.size _).alloc (by have := HD3.out.size; simp; omega) _) HE.out.2.2.2.2 ho4 hg4); clear ho4 hg4 hn4)
                  have HNZ := Lib.hid (show RG W2 v1 (rs ++ [(⟨true, 112, (k2 : Int) == 0, ⟨#[]⟩, s, anyC⟩ : Ru)]) w4 ∧ (rs ++ [(⟨true, 112, (k2 : Int) == 0, ⟨#[]⟩, s, anyC⟩ : Ru)]).length ≤ j + 1 ∧ (∀ r ∈ rs ++ [(⟨true, 112, (k2 : Int) == 0, ⟨#[]⟩, s, anyC⟩ : Ru)], GoodZ r) ∧ fn ≤ (allF (rs ++ [(⟨true, 112, (k2 : Int) == 0, ⟨#[]⟩, s, anyC⟩ : Ru)]) es).length from ⟨HRN.out, by rw [List.length_append]; have := HR.out.2.1; simp; omega, fun r hr => by
                    rcases List.mem_append.1 hr with h | h
                    · exact HR.out.2.2.1 r h
                    · rw [List.mem_singleton] at h
                      subst h
                      exact ⟨⟨by show (-9223372036854775808 : Int) ≤ (112 : Int); omega, by show (112 : Int) ≤ (9223372036854775807 : Int); omega⟩, rfl, by simp [ByteArray.size], by show s.size ≤ 100; omega⟩, HNX.out _ (fun r hr => List.mem_append_left _ hr)⟩)
                  go_roundg (gk - 1)
                  case measure => omega
                  case rel => exact ⟨j + 1, fn, _, by omega, by go_num, rfl, by omega, HNZ⟩
                · have g4 : ((k4 : Int) == 0) = false := by simpa using h4
                  have g5 : ¬ ((k4 : Int) = 0) := by omega
                  clear h4
                  go_wp2_with (at_builtin; refine wpList_append_own _ rfl _ _ 22 rfl W2.heap.size 51 i0 _ 6 80 Tryz.underlying22 hi hz0 hz1 hz2 rfl (by decide) _ _ _ rfl (own_keep9 (own_keep9 HX.out.1 HB3.out) (((Below.refl _ _).alloc (Nat.le_refl _) _).alloc (by simp) _)) ⟨w3.heap.size + 1, 0, none⟩ 1 1 [.bool false, .int .i64 (97 + (k3 : Int)), .bool ((k2 : Int) == 0), .string ⟨#[]⟩, .string s, .slice (some ⟨q, 0, none⟩) 1 1] rfl rfl (World.news_of_block (B := w3.heap.size + 1) (cs := #[.bool false, .int .i64 (97 + (k3 : Int)), .bool ((k2 : Int) == 0), .string ⟨#[]⟩, .string s, .slice (some ⟨q, 0, none⟩) 1 1]) (t := 51) (fr := (0, 0)) (heap_top _ _ (by rw [World.size_alloc]))) (rule_one _ _ _ _ _ _ _ _) (by unfold maxLen; omega) (by omega) (by have := HS3.out; simp; omega) ?_; intro v1 w4 ho4 hg4 hn4; have HRN : Hid (RG W2 v1 (rs ++ [(⟨false, 97 + (k3 : Int), (k2 : Int) == 0, ⟨#[]⟩, s, anyC⟩ : Ru)]) w4) := Lib.hid (RG.more (r := (⟨false, 97 + (k3 : Int), (k2 : Int) == 0, ⟨#[]⟩, s, anyC⟩ : Ru)) HX.out.2.2 HX.out.1 HX.out.2.1 ((HD3.out.alloc HD3.out.size _).alloc (by have := HD3.out.size; simp; omega) _) HE.out.2.2.2.2 ho4 hg4); clear ho4 hg4 hn4)
                  have HNZ := Lib.hid (show RG W2 v1 (rs ++ [(⟨false, 97 + (k3 : Int), (k2 : Int) == 0, ⟨#[]⟩, s, anyC⟩ : Ru)]) w4 ∧ (rs ++ [(⟨false, 97 + (k3 : Int), (k2 : Int) == 0, ⟨#[]⟩, s, anyC⟩ : Ru)]).length ≤ j + 1 ∧ (∀ r ∈ rs ++ [(⟨false, 97 + (k3 : Int), (k2 : Int) == 0, ⟨#[]⟩, s, anyC⟩ : Ru)], GoodZ r) ∧ fn ≤ (allF (rs ++ [(⟨false, 97 + (k3 : Int), (k2 : Int) == 0, ⟨#[]⟩, s, anyC⟩ : Ru)]) es).length from ⟨HRN.out, by rw [List.length_append]; have := HR.out.2.1; simp; omega, fun r hr => by
                    rcases List.mem_append.1 hr with h | h
                    · exact HR.out.2.2.1 r h
                    · rw [List.mem_singleton] at h
                      subst h
                      exact ⟨⟨by show (-9223372036854775808 : Int) ≤ (97 + (k3 : Int) : Int); omega, by show (97 + (k3 : Int) : Int) ≤ (9223372036854775807 : Int); omega⟩, rfl, by simp [ByteArray.size], by show s.size ≤ 100; omega⟩, HNX.out _ (fun r hr => List.mem_append_left _ hr)⟩)
                  go_roundg (gk - 1)
                  case measure => omega
                  case rel => exact ⟨j + 1, fn, _, by omega, by go_num, rfl, by omega, HNZ⟩
              · have f3 : ¬ (j : Int) < n0 := by omega
                have HNZ := Lib.hid (show RG W2 u5 rs w1 ∧ rs.length ≤ j + 1 ∧ (∀ r ∈ rs, GoodZ r) ∧ fn ≤ (allF rs es).length from ⟨HR1.out, by have := HR.out.2.1; omega, HR.out.2.2.1, HNX.out rs (fun r h => h)⟩)
                clear HR1
                go_wp2_with fail
                go_roundg (gk - 1)
                case measure => omega
                case rel => exact ⟨j + 1, fn, rs, by omega, by go_num, rfl, by omega, HNZ⟩
    · have d1 : (k : Int) < n1 := by omega
      have d2 : (k : Int) < 12 := by omega
      obtain ⟨x, hx⟩ : ∃ x, words[k]? = some x := ⟨_, List.getElem?_eq_getElem (by have := HN.out.2; omega)⟩
      obtain ⟨g, o, rfl, hg, hcap, xc⟩ := HA1.out k x hx
      have y0 := (HB.out.1.trans (HQ.out.1.below.mono HB.out.1.size)).cell (p := ⟨g, o + k, none⟩) hg |>.trans xc
      have hcap2 : (n1 : Int) ≤ cap1 := by omega
      obtain ⟨K, hK⟩ : ∃ a : Nat, x % 1000 = a := ⟨(x % 1000).toNat, by omega⟩
      have PL := Lib.hid (fun wx => place9 x 1000 wx (by omega) (by omega))
      rw [hK] at PL
      obtain ⟨K1, hK1⟩ : ∃ a, a = K % 20 := ⟨_, rfl⟩
      obtain ⟨q1, hq1⟩ : ∃ a, a = K / 20 := ⟨_, rfl⟩
      obtain ⟨f3, hf3⟩ : ∃ a, a = q1 % 3 := ⟨_, rfl⟩
      have e1 : (K : Int).tmod 20 = (K1 : Int) := by rw [Int.tmod_eq_emod_of_nonneg (by omega)]; omega
      have e2 : (K : Int).tdiv 20 = (q1 : Int) := by rw [Int.tdiv_eq_ediv_of_nonneg (by omega)]; omega
      have e3 : (q1 : Int).tmod 3 = (f3 : Int) := by rw [Int.tmod_eq_emod_of_nonneg (by omega)]; omega
      have e4 : IntKind.i64.wrap (q1 : Int) = (q1 : Int) := IntWalk.i64_in _ (by omega)
      have e5 : (f3 : Int) < 3 := by omega
      have CD := Lib.hid (fun wx => zdig_any (K1 : Int) wx (by omega) (by omega))
      have hgk2 : ∀ (w2 : World) (_ : Below wr.heap.size wr w2) (f : Nat) (s : ByteArray), Below wr.heap.size wr ((w2.alloc (.cells #[.int .i64 (97 + (f : Int)), .int .i64 112] 3)).alloc (.cells #[.string (⟨#[119, 111, 114, 100]⟩ ++ s), .slice (some ⟨w2.heap.size, 0, none⟩) 2 2] 25)) := fun w2 hb f s => (hb.alloc hb.size _).alloc (by rw [World.size_alloc]; have := hb.size; omega) _
      have hkl : es.length = k := HQ.out.2.1
      clear hx hg hcap xc hK hK1 hq1 hf3
      go_wp2_with (first
        | (go_at_call 19; refine (PL.out _).mono ?_; rintro e wx ⟨rfl, hwx⟩; subst hwx)
        | (go_at_call 20; refine (CD.out _).mono ?_; rintro e w2 ⟨s, rfl, hs, hb2⟩; have z1 : ¬ 9223372036854775807 < 4 + s.size := by omega)
        | (at_builtin; refine wpList_append_lies _ rfl _ _ 39 rfl Wb.heap.size 25 i1 _ 2 40 Tryz.underlying39 hi1 hy0 hy1 hy2 rfl (by decide) _ _ _ rfl (HQ.out.1.keep (hgk2 w2 hb2 f3 s)).row ⟨w2.heap.size + 1, 0, none⟩ 1 1 [.string (⟨#[119, 111, 114, 100]⟩ ++ s), .slice (some ⟨w2.heap.size, 0, none⟩) 2 2] rfl rfl (World.news_of_block (B := w2.heap.size + 1) (cs := #[.string (⟨#[119, 111, 114, 100]⟩ ++ s), .slice (some ⟨w2.heap.size, 0, none⟩) 2 2]) (t := 25) (fr := (0, 0)) (heap_top _ _ (by rw [World.size_alloc]))) (en_one _ _ _ _) (by omega) (by unfold maxLen; omega) (by omega) (by have := (HQ.out.1.keep (hgk2 w2 hb2 f3 s)).below.size; exact this) (w2.heap.size + 2) (by simp) ?_; intro gg cap4 w4 hown4 hgrow4 hat4 hlt4; have HE := Lib.hid (EQ.more (e := ⟨⟨#[119, 111, 114, 100]⟩ ++ s, [97 + (f3 : Int), 112]⟩) (HQ.out.1.keep (hgk2 w2 hb2 f3 s)) hown4 hgrow4 (hat4.imp (fun h => h.symm) fun h z hz => by (have h9 : some gg = some z := hz); cases h9; simp; omega) (ints_two (heap_up (heap_top _ _ rfl) _)) (fun b hb => by (have h9 : some w2.heap.size = some b := hb); cases h9; exact ⟨by simp; omega, fun e => by have := (HQ.out.1.row.lt _ e).2; have := hb2.size; omega⟩)); clear hown4 hgrow4 hat4 hlt4))
      have HE2 := Lib.hid (show EQ Wb w4 (.slice (some ⟨gg, 0, none⟩) (es.length + 1) cap4) _ _ ∧ (es ++ [(⟨⟨#[119, 111, 114, 100]⟩ ++ s, [97 + (f3 : Int), 112]⟩ : En)]).length = k + 1 ∧ ∀ e ∈ es ++ [(⟨⟨#[119, 111, 114, 100]⟩ ++ s, [97 + (f3 : Int), 112]⟩ : En)], GoodE e from ⟨HE.out, by rw [List.length_append, HQ.out.2.1]; rfl, fun e he => by
        rcases List.mem_append.1 he with h | h
        · exact HQ.out.2.2 e h
        · rw [List.mem_singleton] at h
          subst h
          refine ⟨?_, by simp, fun f hf => ?_⟩
          · show (⟨#[119, 111, 114, 100]⟩ ++ s : ByteArray).size ≤ 100
            rw [ByteArray.size_append]
            have : (⟨#[119, 111, 114, 100]⟩ : ByteArray).size = 4 := rfl
            omega
          · simp only [List.mem_cons, List.not_mem_nil, or_false] at hf
            rcases hf with rfl | rfl
            · exact ⟨by omega, by omega⟩
            · exact ⟨by omega, by omega⟩⟩)
      rw [hkl] at HE2
      go_roundg (gk - 1)
      case measure => omega
      case rel => exact ⟨k + 1, _, _, by omega, by go_num, HE2⟩
end Go.Proofs.YtcbmfkgekhadkaaGreatDoor
