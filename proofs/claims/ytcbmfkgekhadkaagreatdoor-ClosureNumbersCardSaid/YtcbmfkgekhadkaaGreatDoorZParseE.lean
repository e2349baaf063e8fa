/- The document's Parse of chapter 12 by contract; where there is no entry the slice is nil. -/
import Derived.Test.YtcbmfkgekhadkaaGreatDoorZNb
import Derived.Test.YtcbmfkgekhadkaaGreatDoorZNa
import Derived.StillTailTactics
namespace Go.Proofs.YtcbmfkgekhadkaaGreatDoor
open Go Go.RowKit Go.Lib

theorem linesL_lenY9 : ∀ (s : List UInt8), (linesL s).length ≤ s.length
  | [] => Nat.le_refl _
  | b :: r => by
    have ih := linesL_lenY9 r
    rw [linesL_cons]
    by_cases hb : b = 10
    · rw [if_pos hb, List.length_cons, List.length_cons]; omega
    · rw [if_neg hb]
      cases he : linesL r with
      | nil => simp
      | cons x t => rw [he, List.length_cons] at ih; rw [List.length_cons, List.length_cons]; omega
theorem wCells_atY9 {ls : List (List UInt8)} {k : Nat} {l : List UInt8} (h : ls[k]? = some l) : (wCells ls)[k]? = some (.string ⟨l.toArray⟩) := by
  unfold wCells
  rw [List.getElem?_map, h]; rfl
/-- What Parse answers. -/
def ParseEns (w w' : World) (o : List En × Nat × Int) (e : Ending) : Prop := ∃ v, e = .returned (.tuple #[v, .int .i64 (o.2.1 : Nat), .int .i64 o.2.2]) ∧ EntsAt w' v o.1 ∧ Below w.heap.size w w' ∧ (o.1 = [] → v = .slice none 0 0)
theorem ParseEns.no {w w' : World} {o : List En × Nat × Int} {n : Nat} {c : Int} (h : o = ([], n, c)) (hb : Below w.heap.size w w') : ParseEns w w' o (.returned (.tuple #[.slice none 0 0, .int .i64 n, .int .i64 c])) := by
  subst h; exact ⟨_, rfl, .inl ⟨rfl, _, _, rfl⟩, hb, fun _ => rfl⟩
theorem head35 {l : List UInt8} {s : ByteArray} (hs : s = ⟨l.toArray⟩) : s.toList.isEmpty = decide (l = []) := by
  rw [toL_data, hs]
  cases l <;> rfl

set_option maxRecDepth 100000 in
set_option maxHeartbeats 4000000 in
theorem eparseZ_any (w : World) (s : ByteArray) (hs : s.size ≤ 1000000000) :
    Calls Tryz.prog 15 #[.string s] w fun e w' => ParseEns w w' (parseE s) e := by
  by_cases hbig : (65536 : Int) < s.size
  · have HZ := Lib.hid (show parseE s = ([], 0, 3) by unfold parseE; rw [if_pos (by omega)])
    go_enter Tryz.func15, Tryz.ntmps15
    go_wp2_with fail
    go_ret3
    exact ParseEns.no HZ.out (Below.refl _ _)
  have CL := Lib.hid (rlines_any w s hs)
  obtain ⟨ls, hls⟩ : ∃ ls, ls = linesL s.data.toList := ⟨_, rfl⟩
  have hlen : ∀ l ∈ ls, l.length ≤ 65536 := fun l hl => by
    have h1 := linesL_sum s.data.toList
    rw [← hls] at h1
    have h2 := mem_sum ls l hl
    have h3 : s.data.toList.length = s.size := (Lib.size_eq s).symm
    omega
  have hnum : ls.length ≤ 65536 := by
    have h1 := linesL_lenY9 s.data.toList
    rw [← hls] at h1
    have h3 : s.data.toList.length = s.size := (Lib.size_eq s).symm
    omega
  have HP := Lib.hid (show parseE s = endE ls by unfold parseE; rw [if_neg (by omega), hls])
  rw [← hls] at CL
  have HL := Lib.hid (And.intro hlen hnum)
  obtain ⟨n, hn⟩ : ∃ n, n = ls.length := ⟨_, rfl⟩
  rw [← hn] at CL
  have HN := Lib.hid hn
  obtain ⟨i1, hi1, hz10, hz11, hz12⟩ := info_parts Tryz.infosY25
  clear hls hlen hnum hn
  go_enter Tryz.func15, Tryz.ntmps15
  go_wp2_with (go_at_call 29; refine CL.out.mono ?_; rintro e w1 ⟨v, rfl, hown, hb1⟩; have HO := Lib.hid (And.intro hown hb1); clear hown hb1)
  have HW1 := Lib.hid (show _ from (HO.out.2 : Below w.heap.size w w1))
  have hmn : n ≤ 65536 := by have := HL.out.2; have := HN.out; omega
  obtain ⟨A, cap, rfl, hA⟩ : ∃ A cap, v = .slice A n cap ∧ (0 < n → ∃ g, A = some ⟨g, 0, none⟩ ∧ g < w1.heap.size ∧ n ≤ cap ∧ ∀ k l, ls[k]? = some l → w1.cell? ⟨g, k, none⟩ = some (.string ⟨l.toArray⟩)) := by
    rcases Nat.eq_zero_or_pos n with h0 | h0
    · rcases HO.out.1.2 with ⟨rfl, e⟩ | ⟨q, cap, cur, rfl, _⟩
      · exact ⟨none, 0, by rw [h0], fun h => by omega⟩
      · exact ⟨_, cap, rfl, fun h => by omega⟩
    · obtain ⟨g, cap, rfl, hg, hnc, _, hcell⟩ := own_open9 HO.out.1 h0
      exact ⟨_, cap, rfl, fun _ => ⟨g, rfl, hg, hnc, fun k l hl => hcell k _ (wCells_atY9 hl)⟩⟩
  have HV := Lib.hid hA
  have HQ0 := Lib.hid (EQ.start w1)
  clear hA HO
  go_loopg [6, 7, 8, 9, 10] n (fun gh mv bv i _ _ wr => ∃ (k : Nat) (xs : List Value), k + gh = n ∧ i = .int .i64 k ∧ bv = .int .i64 (badE 1 (ls.take k) : Nat) ∧ Hid (EQ w1 wr mv xs (esOf (ls.take k))) ∧ Hid (esOf (ls.take k) = [] → mv = .slice none 0 0))
  case atStart => exact ⟨0, [], by omega, rfl, rfl, HQ0, Lib.hid (fun _ => rfl)⟩
  case round =>
    obtain ⟨k, xs, hk, rfl, rfl, HK, HNIL⟩ := hrel
    have hk0 : (0 : Int) ≤ k := by omega
    obtain ⟨MA, mc, rfl⟩ := own_shape HK.out.row
    have hble : badE 1 (ls.take k) ≤ k := by
      have h1 := badE_le (ls.take k) 1
      rw [List.length_take] at h1
      omega
    have hmle : (esOf (ls.take k)).length ≤ k := by
      have h1 := esOf_le (ls.take k)
      rw [List.length_take] at h1
      omega
    rcases Nat.eq_zero_or_pos gk with h0 | h0
    · have hkm : ¬ (k : Int) < n := by omega
      have hfull : ls.take k = ls := List.take_of_length_le (by have := HN.out; omega)
      rw [hfull] at HK HNIL hble hmle ⊢
      obtain ⟨b, hb⟩ : ∃ b, b = badE 1 ls := ⟨_, rfl⟩
      obtain ⟨m, hm⟩ : ∃ m, m = (esOf ls).length := ⟨_, rfl⟩
      have HQ := Lib.hid HK.out.reads
      have HB := Lib.hid (HW1.out.trans (HK.out.below.mono HW1.out.size))
      rw [← hm] at HQ HNIL hmle ⊢
      rw [← hb] at hble ⊢
      have HE := Lib.hid (show parseE s = if 2000 < m then ([], 0, 3) else if 0 < b then ([], b, 5) else (esOf ls, 0, 0) by rw [HP.out]; unfold endE; rw [hm, hb])
      clear HK hfull hb hm
      by_cases h1 : 2000 < m
      · have e1 : (2000 : Int) < m := by omega
        have HZ := Lib.hid (show parseE s = ([], 0, 3) by rw [HE.out, if_pos h1])
        go_wp2_with fail
        go_ret3
        exact ParseEns.no HZ.out HB.out
      · have e1 : ¬ (2000 : Int) < m := by omega
        by_cases h2 : 0 < b
        · have e2 : (0 : Int) < b := by omega
          have HZ := Lib.hid (show parseE s = ([], b, 5) by rw [HE.out, if_neg h1, if_pos h2])
          go_wp2_with fail
          go_ret3
          exact ParseEns.no HZ.out HB.out
        · have e2 : ¬ (0 : Int) < b := by omega
          have HZ := Lib.hid (show parseE s = (esOf ls, 0, 0) by rw [HE.out, if_neg h1, if_neg h2])
          go_wp2_with fail
          go_ret3
          refine ⟨_, by rw [HZ.out]; rfl, by rw [HZ.out]; exact HQ.out, HB.out, fun h => HNIL.out (by rw [HZ.out] at h; exact h)⟩
    · have hkm : (k : Int) < n := by omega
      obtain ⟨l, hl⟩ : ∃ l, ls[k]? = some l := ⟨_, List.getElem?_eq_getElem (by have := HN.out; omega)⟩
      obtain ⟨g, rfl, hg, hnc, hcell⟩ := HV.out (by omega)
      have hc := hcell k l hl
      have hc2 := (HK.out.below.cell (p := ⟨g, k, none⟩) hg).trans hc
      have hnc2 : (n : Int) ≤ cap := by omega
      have hll := HL.out.1 l (List.mem_of_getElem? hl)
      obtain ⟨S, hS⟩ : ∃ S : ByteArray, S = ⟨l.toArray⟩ := ⟨_, rfl⟩
      have hSs : S.size = l.length := by rw [hS]; show l.toArray.size = _; rw [List.size_toArray]
      have hSd : S.data.toList = l := by rw [hS]
      have hem := head35 hS
      rw [← hS] at hc2
      have HE1 := Lib.hid (esOf_take hl)
      have HB1 := Lib.hid (badE_take hl)
      obtain ⟨b, hb⟩ : ∃ b, b = badE 1 (ls.take k) := ⟨_, rfl⟩
      rw [← hb] at HB1 hble ⊢
      have CE := Lib.hid (fun wx => eentry_any wx S (by omega))
      rw [hSd] at CE
      obtain ⟨m, hm⟩ : ∃ m, m = (esOf (ls.take k)).length := ⟨_, rfl⟩
      rw [← hm] at HK HNIL hmle ⊢
      have HM := Lib.hid hm
      have HBB := Lib.hid hb
      clear hl hc hcell hS hnc hm hb HV
      by_cases hsk : l = [] ∨ l.head? = some 35
      · have hno := skip_entry hsk
        have hnn : noneL l = false := by
          rw [Bool.eq_false_iff]
          intro e
          exact ((noneL_eq l).1 e).1 hsk
        have HQ2 := Lib.hid (show EQ w1 wr (.slice MA m mc) xs (esOf (ls.take (k + 1))) by
          rw [HE1.out, hno]
          simpa using HK.out)
        have HNX := Lib.hid (show esOf (ls.take (k + 1)) = [] → Value.slice MA m mc = .slice none 0 0 from fun h => HNIL.out (by rw [HE1.out, hno] at h; simpa using h))
        have HB2 := Lib.hid (show b = badE 1 (ls.take (k + 1)) by
          rw [HB1.out, hnn]
          split
          · rename_i e; rw [e]; rfl
          · rfl)
        by_cases hl0 : l = []
        · have e1 : S.toList.isEmpty = true := by rw [hem]; exact decide_eq_true hl0
          clear hno hnn hem hSs hSd hl0 hsk
          go_wp2_with fail
          go_roundg (gk - 1)
          case measure => omega
          case rel => exact ⟨k + 1, xs, by omega, by go_num, congrArg (fun n : Nat => Value.int .i64 n) HB2.out, HQ2, HNX⟩
        · have e1 : S.toList.isEmpty = false := by rw [hem]; exact decide_eq_false hl0
          have hS0 : 0 < S.size := by rw [hSs]; exact List.length_pos_iff.2 hl0
          obtain ⟨c, hc0, hget⟩ := byte_at hS0
          have h35 : c = 35 := by
            rcases hsk with h | h
            · exact absurd h hl0
            · rw [hSd] at hc0
              rw [List.head?_eq_getElem?] at h
              rw [h] at hc0
              exact (Option.some.inj hc0).symm
          subst h35
          have hgx : (S[0]'hS0).toNat = 35 := by rw [hget]; rfl
          have hS1 : (0 : Int) < S.size := by omega
          clear hno hnn hem hSs hSd hl0 hsk hc0 hget
          go_wp2_with fail
          go_roundg (gk - 1)
          case measure => omega
          case rel => exact ⟨k + 1, xs, by omega, by go_num, congrArg (fun n : Nat => Value.int .i64 n) HB2.out, HQ2, HNX⟩
      · have hl0 : l ≠ [] := fun e => hsk (.inl e)
        have e1 : S.toList.isEmpty = false := by rw [hem]; exact decide_eq_false hl0
        have hS0 : 0 < S.size := by rw [hSs]; exact List.length_pos_iff.2 hl0
        obtain ⟨c, hc0, hget⟩ := byte_at hS0
        obtain ⟨x, hx⟩ : ∃ x, x = c.toNat := ⟨_, rfl⟩
        have hgx : (S[0]'hS0).toNat = x := by rw [hget, hx]
        have hx35 : ((x : Int) == 35) = false := by
          simp
          intro e
          apply hsk
          right
          rw [hSd] at hc0
          rw [List.head?_eq_getElem?, hc0]
          exact congrArg some (UInt8.toNat_inj.1 ((show c.toNat = 35 by omega).trans rfl))
        have hS1 : (0 : Int) < S.size := by omega
        have HSK := Lib.hid hsk
        clear hem hSs hSd hl0 hsk hc0 hget hx
        cases he : entryL l with
        | none =>
          have hnn : noneL l = true := (noneL_eq l).2 ⟨HSK.out, he⟩
          have HQ2 := Lib.hid (show EQ w1 wr (.slice MA m mc) xs (esOf (ls.take (k + 1))) by
            rw [HE1.out, he]
            simpa using HK.out)
          have HNX := Lib.hid (show esOf (ls.take (k + 1)) = [] → Value.slice MA m mc = .slice none 0 0 from fun h => HNIL.out (by rw [HE1.out, he] at h; simpa using h))
          have HB2 := Lib.hid (show badE 1 (ls.take (k + 1)) = if b = 0 then k + 1 else b by rw [HB1.out, hnn]; rfl)
          have HEE := Lib.hid he
          clear he hnn
          by_cases hb0 : b = 0
          · subst hb0
            rw [if_pos rfl] at HB2
            go_wp2_with (go_at_call 31; refine (CE.out _).mono ?_; rintro e w2 ⟨⟨W, A2, n2, c2, ok, rfl, hok, -⟩, hb2⟩; have hok2 : ok = false := (by rw [hok, HEE.out]; rfl); subst hok2; have HB22 := Lib.hid (hb2.alloc hb2.size (.cells #[.string W, .slice A2 n2 c2] 25)); clear hok hb2)
            go_roundg (gk - 1)
            case measure => omega
            case rel => exact ⟨k + 1, xs, by omega, by go_num, by rw [HB2.out]; go_num, Lib.hid (HQ2.out.keep HB22.out), HNX⟩
          · rw [if_neg hb0] at HB2
            have e3 : ((b : Int) == 0) = false := by simp; omega
            clear hb0
            go_wp2_with (go_at_call 31; refine (CE.out _).mono ?_; rintro e w2 ⟨⟨W, A2, n2, c2, ok, rfl, hok, -⟩, hb2⟩; have hok2 : ok = false := (by rw [hok, HEE.out]; rfl); subst hok2; have HB22 := Lib.hid (hb2.alloc hb2.size (.cells #[.string W, .slice A2 n2 c2] 25)); clear hok hb2)
            go_roundg (gk - 1)
            case measure => omega
            case rel => exact ⟨k + 1, xs, by omega, by go_num, congrArg (fun n : Nat => Value.int .i64 n) HB2.out.symm, Lib.hid (HQ2.out.keep HB22.out), HNX⟩
        | some en =>
          have hnn : noneL l = false := by
            rw [Bool.eq_false_iff]
            intro e
            have := ((noneL_eq l).1 e).2
            rw [he] at this; cases this
          have HQ2 := Lib.hid (show esOf (ls.take (k + 1)) = esOf (ls.take k) ++ [en] by rw [HE1.out, he])
          have HB2 := Lib.hid (show b = badE 1 (ls.take (k + 1)) by
            rw [HB1.out, hnn]
            split
            · rename_i e; rw [e]; rfl
            · rfl)
          have HEE := Lib.hid he
          clear he hnn
          go_wp2_with (first
            | (go_at_call 31; refine (CE.out _).mono ?_; rintro e w2 ⟨⟨W, A2, n2, c2, ok, rfl, hok, hen⟩, hb2⟩; have hok2 : ok = true := (by rw [hok, HEE.out]; rfl); subst hok2; obtain ⟨hW, hn2, hr2⟩ := hen en HEE.out; have HR := Lib.hid (And.intro hb2 (And.intro hW (And.intro hn2 hr2))); have hrow := ((HK.out.keep hb2).row.alloc (.cells #[.string W, .slice A2 n2 c2] 25)).alloc (.cells #[.string W, .slice A2 n2 c2] 25); rw [← HM.out] at hrow; have HROW := Lib.hid hrow; clear hrow; have HS2 := Lib.hid (show w1.heap.size ≤ ((w2.alloc (.cells #[.string W, .slice A2 n2 c2] 25)).alloc (.cells #[.string W, .slice A2 n2 c2] 25)).heap.size by rw [World.size_alloc, World.size_alloc]; have := (HK.out.keep hb2).below.size; omega); clear hok hen hb2 hW hn2 hr2)
            | (at_builtin; refine wpList_append_where _ rfl _ _ 39 rfl w1.heap.size 25 i1 (.agg #[.string ⟨#[]⟩, .slice none 0 0]) 2 40 Tryz.underlying39 hi1 hz10 hz11 hz12 rfl (by decide) (.slice MA m mc) m xs rfl HROW.out ⟨w2.heap.size + 1, 0, none⟩ 1 1 [.string W, .slice A2 n2 c2] rfl rfl (news_row2 _ _ _ _) (en_one _ _ _ _) (by unfold maxLen; omega) (by omega) HS2.out ?_))
          intro v' w4 hown4 hgrow4 hwh4
          rw [HM.out] at hown4
          have HQ4 := Lib.hid (HK.out.push HR.out.1 HR.out.2.1 HR.out.2.2.1 HR.out.2.2.2 (((Below.refl w2.heap.size w2).alloc (Nat.le_refl _) _).alloc (by rw [World.size_alloc]; omega) _) hown4 hgrow4 (hwh4.imp id fun h g hg => by rw [World.size_alloc, World.size_alloc]; exact h g hg))
          clear hown4 hgrow4 hwh4
          go_wp2_with fail
          go_roundg (gk - 1)
          case measure => omega
          case rel => exact ⟨k + 1, _, by omega, by go_num, congrArg (fun n : Nat => Value.int .i64 n) HB2.out, by rw [HQ2.out]; exact HQ4, Lib.hid (fun h => by rw [HQ2.out] at h; simp at h)⟩
end Go.Proofs.YtcbmfkgekhadkaaGreatDoor
