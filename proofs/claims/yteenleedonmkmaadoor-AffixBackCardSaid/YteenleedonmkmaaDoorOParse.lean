/- cond's Parse by contract. -/
import Derived.Test.YteenleedonmkmaaDoorOFirst
import Derived.Test.YteenleedonmkmaaDoorNNew
namespace Go.Proofs.YteenleedonmkmaaDoor
open Go Go.RowKit Go.Lib

/-! ### Plain -/
def parseL (cs : List Int) : Option (List It) := parseF cs.length cs
theorem parseF_any : ∀ (f : Nat) (cs : List Int), cs.length ≤ f → parseF f cs = parseL cs := by
  intro f
  induction f using Nat.strongRecOn with
  | _ f ih =>
    intro cs hf
    match f, cs, hf with
    | 0, [], _ => rfl
    | f + 1, [], _ => simp [parseL, parseF]
    | f + 1, c :: t, hf =>
      unfold parseL
      rw [List.length_cons]
      unfold parseF
      rw [if_neg (by simp), if_neg (by simp)]
      cases hh : headC (c :: t) with
      | none => rfl
      | some x =>
        obtain ⟨it, r⟩ := x
        have hr := (headC_says hh).2.2.1
        rw [List.length_cons] at hr hf
        dsimp only
        rw [ih f (by omega) r (by omega)]
        rcases Nat.lt_or_ge t.length (f + 1) with h1 | h1
        · rw [ih t.length h1 r (by omega)]
        · omega
theorem parseL_nil : parseL [] = some [] := rfl
theorem parseL_cons {cs : List Int} (h : cs ≠ []) : parseL cs = match headC cs with
    | none => none
    | some (it, r) => (parseL r).map fun l => it :: l := by
  cases cs with
  | nil => exact absurd rfl h
  | cons c t =>
    conv => lhs; unfold parseL
    rw [List.length_cons]
    unfold parseF
    rw [if_neg (by simp)]
    cases hh : headC (c :: t) with
    | none => rfl
    | some x =>
      obtain ⟨it, r⟩ := x
      have hr := (headC_says hh).2.2.1
      rw [List.length_cons] at hr
      dsimp only
      rw [parseF_any _ _ (by omega)]
theorem parseC_R (cs : List Int) : parseC cs = match parseL cs with
    | none => none
    | some l => if 0 < l.length ∧ l.length ≤ 8 then some l else none := rfl
theorem headC_drop {cs r : List Int} {it : It} (h : headC cs = some (it, r)) : r = cs.drop (cs.length - r.length) ∧ r.length < cs.length := by
  refine ⟨?_, (headC_says h).2.2.1⟩
  have suf : ∃ a, cs = a ++ r := by
    match cs, h with
    | c :: t, h =>
      rw [headC_cons] at h
      split at h
      · simp only [Option.some.injEq, Prod.mk.injEq] at h; exact ⟨[c], by rw [← h.2]; rfl⟩
      split at h
      · cases h
      split at h
      · split at h
        · rename_i hhead
          obtain ⟨_, _, _, _, h5⟩ := setC_len h
          have ht : t = 94 :: t.tail := by
            cases t with
            | nil => simp at hhead
            | cons x t' => simp only [List.head?_cons, Option.some.injEq] at hhead; rw [hhead]; rfl
          exact ⟨c :: 94 :: (it.set ++ [93]), by rw [ht, h5]; simp⟩
        · obtain ⟨_, _, _, _, h5⟩ := setC_len h
          exact ⟨c :: (it.set ++ [93]), by rw [h5]; simp⟩
      · simp only [Option.some.injEq, Prod.mk.injEq] at h; exact ⟨[c], by rw [← h.2]; rfl⟩
  obtain ⟨a, rfl⟩ := suf
  rw [List.length_append, show a.length + r.length - r.length = a.length by omega, List.drop_left]
theorem parseS_no {s : ByteArray} (h : validD s.data.toList = false) : parseS s = none := by
  unfold parseS codesB; rw [if_neg (by simp [h])]
theorem parseS_yes {s : ByteArray} (h : validD s.data.toList = true) : parseS s = parseC (codesL s.data.toList) := by
  unfold parseS codesB codesL; rw [if_pos h, if_pos h]

/-- What is read so far, and what is left to be read. -/
def Left (cs : List Int) (l : List It) (rest : List Int) : Prop := parseL cs = (parseL rest).map fun t => l ++ t
theorem Left.step {cs rest r : List Int} {l : List It} {it : It} (h : Left cs l rest) (hh : headC rest = some (it, r)) : Left cs (l ++ [it]) r := by
  have hne : rest ≠ [] := by intro e; rw [e] at hh; cases hh
  unfold Left at h ⊢
  rw [h, parseL_cons hne, hh]
  show Option.map _ (Option.map _ (parseL r)) = _
  cases parseL r <;> simp
theorem Left.wrong {cs rest : List Int} {l : List It} (h : Left cs l rest) (hne : rest ≠ []) (hh : headC rest = none) : parseC cs = none := by
  unfold Left at h
  rw [parseL_cons hne, hh] at h
  rw [parseC_R, h]
  rfl
theorem Left.many {cs rest r : List Int} {l : List It} {it : It} (h : Left cs l rest) (hh : headC rest = some (it, r)) (h8 : l.length = 8) : parseC cs = none := by
  have hs := h.step hh
  unfold Left at hs
  rw [parseC_R, hs]
  cases parseL r with
  | none => rfl
  | some t =>
    show (if 0 < ((l ++ [it]) ++ t).length ∧ ((l ++ [it]) ++ t).length ≤ 8 then _ else none) = none
    rw [if_neg]
    simp only [List.length_append, List.length_cons]
    omega
theorem Left.done {cs : List Int} {l : List It} (h : Left cs l []) (h0 : l ≠ []) (h8 : l.length ≤ 8) : parseC cs = some l := by
  unfold Left at h
  rw [parseL_nil] at h
  simp only [Option.map_some, List.append_nil] at h
  rw [parseC_R, h]
  dsimp only
  rw [if_pos ⟨List.length_pos_iff.2 h0, h8⟩]
theorem Left.start (cs : List Int) : Left cs [] cs := by
  unfold Left
  cases parseL cs <;> simp

/-- A row of our own whose sets are new reads as items in new blocks. -/
theorem Grow.news {w0 w : World} {v vc : Value} {xs : List Value} {l : List It} {cs : List Int} (h : Grow w0 w v vc xs l cs) (hf : FreshX w0.heap.size xs l) : ItemsNew w0.heap.size w v l := by
  have hadd : ∀ (g j : Nat), (⟨g, 0, none⟩ : Addr).add j = ⟨g, j, none⟩ := fun g j => by unfold Addr.add; split <;> simp_all
  have hc := @World.ownsRow.cells _ _ _ _ _ _ _ h.row
  rcases h.row.2 with ⟨rfl, h0⟩ | ⟨g, cap, cur, rfl, hb, hg, hnc, hcm, _⟩
  · exact .inl ⟨List.eq_nil_of_length_eq_zero h0, _, _, rfl⟩
  · refine .inr ⟨g, 0, cap, rfl, (Array.getElem?_eq_some_iff.1 hg).1, hb, hnc, hcm, fun i it hi => ?_⟩
    obtain ⟨sv, h1, h2, h3, h4, _⟩ := h.sets i it hi
    rw [Nat.zero_add]
    exact ⟨by rw [← hadd]; exact hc (g := g) rfl _ _ h1, by rw [← hadd]; exact hc (g := g) rfl _ _ h2, sv, by rw [← hadd]; exact hc (g := g) rfl _ _ h3, h4, hf i it hi sv h3⟩

/-- What holds ahead of a round of Parse. -/
def MidP (w0 wr : World) (vc v : Value) (cs : List Int) (l : List It) (rest : List Int) : Prop :=
  (∃ xs, Grow w0 wr v (.slice none 0 0) xs l [] ∧ FreshX w0.heap.size xs l) ∧ IntsAt w0 vc rest ∧ Left cs l rest ∧ (l ≠ [] ∨ rest ≠ []) ∧ rest.length ≤ 1000000000000
/-- What Parse answers. -/
def ParseR (w w' : World) (o : Option (List It)) (e : Ending) : Prop := ∃ v, e = .returned (.tuple #[v, .bool o.isSome]) ∧ ItemsNew w.heap.size w' v (o.getD []) ∧ Below w.heap.size w w'
theorem ParseR.no {w w' : World} {o : Option (List It)} (h : o = none) (hb : Below w.heap.size w w') : ParseR w w' o (.returned (.tuple #[.slice none 0 0, .bool false])) := by
  subst h; exact ⟨_, rfl, .inl ⟨rfl, _, _, rfl⟩, hb⟩
theorem ParseR.yes {w w' : World} {o : Option (List It)} {l : List It} {v : Value} (h : o = some l) (hi : ItemsNew w.heap.size w' v l) (hb : Below w.heap.size w w') : ParseR w w' o (.returned (.tuple #[v, .bool true])) := by
  subst h; exact ⟨_, rfl, hi, hb⟩

set_option maxRecDepth 100000 in
set_option maxHeartbeats 4000000 in
/-- cond.Parse. -/
theorem parse_any (w : World) (s : ByteArray) (hs : s.size ≤ 1000000000000) (hT : Lib.Utf8Tabs 1 2 w) :
    Calls Tryd.prog 42 #[.string s] w fun e w' => ParseR w w' (parseS s) e := by
  obtain ⟨i1, hi1, hz10, hz11, hz12⟩ := info_parts Tryd.infosN99
  have CC := Lib.hid (codes_any s w hs hT)
  have hlen := fun cs => codesB_says (s := s.data.toList) (cs := cs)
  cases hv : validD s.data.toList with
  | false =>
    have HP := Lib.hid (parseS_no hv)
    rw [hv] at CC
    clear hlen hv hT
    go_enter Tryd.func42, Tryd.ntmps42
    go_wp2_with (go_at_call 44; refine CC.out.mono ?_)
    rintro e w1 ⟨v, rfl, -, hb⟩
    have HB := Lib.hid hb
    clear hb
    go_wp2_with fail
    go_ret2
    exact ParseR.no HP.out HB.out
  | true =>
    have HP := Lib.hid (parseS_yes hv)
    have hcl : (codesL s.data.toList).length ≤ 1000000000000 := by
      have := (hlen (codesL s.data.toList) (by unfold codesB codesL; rw [if_pos hv, if_pos hv])).2
      have h2 : s.data.toList.length = s.size := (Lib.size_eq s).symm
      omega
    rw [hv] at CC
    have HL := Lib.hid hcl
    clear hlen hv hcl hT
    generalize codesL s.data.toList = cs at CC HP HL
    go_enter Tryd.func42, Tryd.ntmps42
    go_wp2_with (go_at_call 44; refine CC.out.mono ?_)
    rintro e w1 ⟨v, rfl, hown, hb⟩
    have HI := Lib.hid (ints_own hown)
    have HB := Lib.hid hb
    clear hown hb
    obtain ⟨ao, cap, rfl, -⟩ := ints_open HI.out
    cases cs with
    | nil =>
      go_wp2_with fail
      go_ret2
      exact ParseR.no HP.out HB.out
    | cons c0 cs0 =>
      obtain ⟨n0, hn0⟩ : ∃ n0, n0 = (c0 :: cs0).length := ⟨_, rfl⟩
      have hn1 : ((n0 : Int) == 0) = false := by rw [hn0, List.length_cons]; simp; omega
      rw [← hn0] at HI ⊢
      have HN := Lib.hid hn0
      clear hn0
      generalize hCS : c0 :: cs0 = cs at *
      have HCS := Lib.hid (show cs ≠ [] by rw [← hCS]; simp)
      clear hCS
      go_wp2_with fail
      go_loopg [4, 6, 7, 8] n0 (fun g vc v _u7 _u8 wr => ∃ (l : List It) (rest : List Int), g = rest.length ∧ Hid (MidP w1 wr vc v cs l rest ∧ l.length ≤ 8))
      case atStart => exact ⟨[], cs, HN.out, Lib.hid ⟨⟨⟨[], Grow.start w1, FreshX.nil _⟩, HI.out, Left.start cs, .inr HCS.out, HL.out⟩, Nat.zero_le _⟩⟩
      case round =>
        obtain ⟨l, rest, hg, HM⟩ := hrel
        clear HI hn1
        cases rest with
        | nil =>
          obtain ⟨⟨⟨xs, hG, hFX⟩, hI, hL, hne, -⟩, h8⟩ := HM.out
          obtain ⟨A, cp, rfl, -⟩ := ints_open hI
          simp only [List.length_nil]
          have HF := Lib.hid (HP.out.trans (hL.done (hne.resolve_right (fun h => h rfl)) h8))
          have HR := Lib.hid (And.intro ((hG.news hFX).less HB.out.size) (HB.out.trans (hG.below.mono HB.out.size)))
          clear hG hI hL hne h8 HM hg hFX
          go_wp2_with fail
          go_ret2
          exact ParseR.yes HF.out HR.out.1 HR.out.2
        | cons c r =>
          obtain ⟨⟨⟨xs, hG, hFX⟩, hI, hL, hne, hrl⟩, h8⟩ := HM.out
          have HFX := Lib.hid hFX
          have C1 := Lib.hid (first_any wr u4 c r (hI.keep hG.below) (by rw [List.length_cons] at hrl; omega))
          have HII := Lib.hid hI
          obtain ⟨h0, _⟩ | ⟨b, off, cp, rfl, h1, h2, h3, h4⟩ := hI
          · cases h0
          have HC4 := Lib.hid h4
          clear h4
          obtain ⟨vb, vcp, rfl⟩ : ∃ a c, u6 = .slice a l.length c := by
            rcases hG.row.2 with ⟨e, e0⟩ | ⟨_, _, _, e, _⟩
            · exact ⟨_, _, by rw [e, e0]⟩
            · exact ⟨_, _, e⟩
          obtain ⟨n, hn⟩ : ∃ n, n = (c :: r).length := ⟨_, rfl⟩
          have hn0 : (0 : Int) < n := by rw [hn, List.length_cons]; omega
          rw [← hn] at h2 hrl C1 HII ⊢
          have HN := Lib.hid hn
          have HGK := Lib.hid (show gk = n from hg.trans hn.symm)
          have HG := Lib.hid (And.intro hG (And.intro hL h8))
          have HB2 := Lib.hid (HB.out.trans (hG.below.mono HB.out.size))
          clear hG hL h8 hne HM hg hn hFX
          go_wp2_with (go_at_call 60; refine C1.out.mono ?_)
          rintro e w2 ⟨hR, hb2⟩
          rcases hR.elim with ⟨hh, rfl⟩ | ⟨it, r', ao', n', cp', hh, rfl, hset, hbk⟩
          · have HF := Lib.hid (HP.out.trans (HG.out.2.1.wrong (by simp) hh))
            have H2 := Lib.hid (HB2.out.trans (hb2.mono HB2.out.size))
            clear hh hR hb2
            go_wp2_with fail
            go_ret2
            exact ParseR.no HF.out ((H2.out.alloc H2.out.size _))
          · obtain ⟨any, neg, set⟩ := it
            have hdr := headC_drop hh
            rw [← HN.out] at hdr
            rw [← HN.out]
            obtain ⟨m, hm⟩ : ∃ m, m = n - r'.length := ⟨_, rfl⟩
            rw [← hm] at hdr ⊢
            have hm0 : ((m : Int) == 0) = false := by simp; omega
            have hm1 : (m : Int) ≤ n := by omega
            have hm2 : (0 : Int) ≤ m := by omega
            have hrl' : r'.length = n - m := by omega
            obtain ⟨k, hk⟩ : ∃ k, k = l.length := ⟨_, rfl⟩
            have HK := Lib.hid hk
            rw [← hk] at HG ⊢
            by_cases hk8 : k = 8
            · subst hk8
              have HF := Lib.hid (HP.out.trans (HG.out.2.1.many hh hk.symm))
              have H2 := Lib.hid (HB2.out.trans (hb2.mono HB2.out.size))
              clear hh hR hb2 hset hbk hdr hm hk
              go_wp2_with fail
              go_ret2
              exact ParseR.no HF.out ((H2.out.alloc H2.out.size _))
            · have hk8' : ((k : Int) == 8) = false := by simp; omega
              have hkk : k ≤ 8 := HG.out.2.2
              have HK7 := Lib.hid (show k + 1 ≤ 8 ∧ 0 < m by omega)
              have G3 := Lib.hid (((HG.out.1.keep hb2).alloc (.cells #[.bool any, .bool neg, .slice ao' n' cp'] 99)).alloc (.cells #[.bool any, .bool neg, .slice ao' n' cp'] 99))
              have hs3 : IntsAt ((w2.alloc (.cells #[.bool any, .bool neg, .slice ao' n' cp'] 99)).alloc (.cells #[.bool any, .bool neg, .slice ao' n' cp'] 99)) (.slice ao' n' cp') set := hset.keep (((Below.refl _ _).alloc (Nat.le_refl _) _).alloc (by simp) _)
              have hb3 : ∀ z, (Value.slice ao' n' cp').ownBlock = some z → z < ((w2.alloc (.cells #[.bool any, .bool neg, .slice ao' n' cp'] 99)).alloc (.cells #[.bool any, .bool neg, .slice ao' n' cp'] 99)).heap.size ∧ (Value.slice vb k vcp).ownBlock ≠ some z ∧ (Value.slice none 0 0).ownBlock ≠ some z := fun z hz => by
                have h1 := hbk z hz
                refine ⟨by simp; omega, fun e => ?_, fun e => by cases e⟩
                have h2 := (HG.out.1.row.lt z e).2
                omega
              have HS := Lib.hid (And.intro hs3 hb3)
              have HL2 := Lib.hid (And.intro (HG.out.2.1.step hh) hdr)
              have HFX2 := Lib.hid (show FreshX w1.heap.size (xs ++ iCells ⟨any, neg, set⟩ (.slice ao' n' cp')) (l ++ [⟨any, neg, set⟩]) from HFX.out.snoc HG.out.1.row.1 fun g hg => Nat.le_trans HG.out.1.below.size (hbk g hg).1)
              have hkc : (l.length : Nat) = k := hk.symm
              have HKC := Lib.hid hkc
              clear hh hR hb2 hset hbk hdr hm hk hs3 hb3 hkc hk8
              go_wp2_with (at_builtin; refine wpList_append_where _ rfl _ _ 48 rfl w1.heap.size 99 i1 (.agg #[.bool false, .bool false, .slice none 0 0]) 3 32 Tryd.underlying48 hi1 hz10 hz11 hz12 rfl (by decide) (.slice vb k vcp) k xs rfl (HKC.out ▸ G3.out.row) ⟨w2.heap.size + 1, 0, none⟩ 1 1 (iCells ⟨any, neg, set⟩ (.slice ao' n' cp')) rfl rfl (news_row2 _ _ _ _) (iCells_one _ _ _ _) (by unfold maxLen; omega) (by omega) (G3.out.below.size) ?_)
              intro v' w4 hown4 hgrow4 hwh4
              have G4 := Lib.hid (G3.out.item (it := ⟨any, neg, set⟩) (by rw [HKC.out]; exact hown4) hgrow4 (by rw [World.size_alloc, World.size_alloc]; exact hwh4) HS.out.1 HS.out.2)
              have H8 := Lib.hid (show (l ++ [(⟨any, neg, set⟩ : It)]).length ≤ 8 by rw [List.length_append, HKC.out]; exact HK7.out.1)
              clear hown4 hgrow4 hwh4 G3 HS hkk
              by_cases hc : cp = m
              · have hnm : n = m := by omega
                subst hnm
                subst hc
                have HR0 := Lib.hid (show r' = [] from List.eq_nil_of_length_eq_zero (by omega))
                go_wp2_with fail
                go_roundg r'.length
                case measure => have := HGK.out; rw [HR0.out]; simp; omega
                case rel =>
                  refine ⟨l ++ [⟨any, neg, set⟩], r', rfl, Lib.hid ⟨⟨⟨_, G4.out, HFX2.out⟩, ?_, HL2.out.1, .inl (by simp), by rw [HR0.out]; simp⟩, H8.out⟩⟩
                  rw [HR0.out]
                  exact .inl ⟨rfl, _, _, rfl⟩
              · go_wp2_with fail
                go_roundg r'.length
                case measure => have := HGK.out; have := HK7.out; omega
                case rel =>
                  have hp := ints_part h1 h3 HC4.out m (n - m) (n := n - m) (by rw [← HL2.out.2.1, List.take_of_length_le (by omega), hrl']) (by omega)
                  rw [← HL2.out.2.1, List.take_of_length_le (by omega)] at hp
                  exact ⟨l ++ [⟨any, neg, set⟩], r', rfl, Lib.hid ⟨⟨⟨_, G4.out, HFX2.out⟩, hp, HL2.out.1, .inl (by simp), by omega⟩, H8.out⟩⟩
end Go.Proofs.YteenleedonmkmaaDoor
