/- Stage 13's law ClosureFlags by contract: ten rules with a flag each; which forms there are. -/
import Derived.Test.YtcbmfkgekhadkaaGreatDoorZCounts
import Derived.Test.YtcbmfkgekhadkaaGreatDoorZGrowPlain
namespace Go.Proofs.YtcbmfkgekhadkaaGreatDoor
open Go Go.RowKit Go.Lib

theorem word_cut : ∀ k : Fin 10, (⟨#[97, 98, 99, 100, 101, 102, 103, 104, 105, 106]⟩ : ByteArray).extract 0 (1 + k.1) = wordT k.1 := by decide
theorem dig10_cut : ∀ i : Fin 10, (⟨#[48, 49, 50, 51, 52, 53, 54, 55, 56, 57]⟩ : ByteArray).extract i.1 (i.1 + 1) = dig10 i.1 := by decide
theorem wordT_size : ∀ k : Fin 10, (wordT k.1).size = k.1 + 1 := by decide
theorem formT_at : ∀ k d : Fin 10, (formT k.1 d.1).size = k.1 + 2 ∧ (formT k.1 d.1).extract 0 (k.1 + 1) = wordT k.1 ∧ ((formT k.1 d.1).get! (k.1 + 1)).toNat = 48 + d.1 := by decide +kernel
/-- How many flags there are. -/
def cntF (ks : List Nat) : Nat := ((List.range 10).filter fun d => decide (d ∈ ks)).length
theorem cnt_snoc (ks : List Nat) (d : Nat) (hk : d ∉ ks) : ∀ (L : List Nat), L.Nodup → d ∈ L → (L.filter fun x => decide (x ∈ ks ++ [d])).length = (L.filter fun x => decide (x ∈ ks)).length + 1
  | [], _, h => by simp at h
  | a :: L, hn, h => by
    obtain ⟨h1, h2⟩ := List.nodup_cons.1 hn
    by_cases e : a = d
    · subst e
      have hs : (L.filter fun x => decide (x ∈ ks ++ [a])) = L.filter fun x => decide (x ∈ ks) := by
        refine List.filter_congr fun x hx => ?_
        have : x ≠ a := fun e => h1 (e ▸ hx)
        simp [this]
      rw [List.filter_cons, List.filter_cons, hs]
      simp [hk]
    · have hd : d ∈ L := by
        rcases List.mem_cons.1 h with e' | e'
        · exact absurd e'.symm e
        · exact e'
      have ih := cnt_snoc ks d hk L h2 hd
      rw [List.filter_cons, List.filter_cons]
      by_cases hak : a ∈ ks
      · simp only [List.mem_append, hak, true_or, decide_true, if_true, List.length_cons]
        simp only [List.mem_append] at ih
        omega
      · simp only [List.mem_append, hak, List.mem_singleton, e, or_self, decide_false, Bool.false_eq_true, if_false]
        simpa using ih
theorem cntF_more {ks : List Nat} {d : Nat} (hd : d < 10) : cntF (ks ++ [d]) = if d ∈ ks then cntF ks else cntF ks + 1 := by
  unfold cntF
  split
  · rename_i h
    congr 1
    refine List.filter_congr fun x _ => ?_
    by_cases e : x = d
    · subst e; simp [h]
    · simp [e]
  · rename_i h
    exact cnt_snoc ks d h _ List.nodup_range (List.mem_range.2 hd)
theorem cntF_le (ks : List Nat) : cntF ks ≤ 10 := by
  unfold cntF
  have := List.length_filter_le (fun d => decide (d ∈ ks)) (List.range 10)
  simpa using this
/-- What flags are seen. -/
def hasC (ks : List Nat) : Array Value := ((List.range 10).map fun d => Value.bool (decide (d ∈ ks))).toArray
theorem hasC_at (ks : List Nat) {d : Nat} (hd : d < 10) : (hasC ks)[d]? = some (.bool (decide (d ∈ ks))) := by
  unfold hasC
  rw [List.getElem?_toArray, List.getElem?_map, List.getElem?_range hd]
  rfl
theorem hasC_set (ks : List Nat) {d : Nat} (hd : d < 10) : (hasC ks).setIfInBounds d (.bool true) = hasC (ks ++ [d]) := by
  apply Array.ext_getElem?
  intro i
  rw [Array.getElem?_setIfInBounds]
  by_cases hi : i < 10
  · rw [hasC_at _ hi, hasC_at _ hi]
    by_cases e : d = i
    · subst e; simp [hasC, hd]
    · have : i ≠ d := fun h => e h.symm
      simp [e, this]
  · have h1 : (hasC ks)[i]? = none := by rw [Array.getElem?_eq_none_iff]; simp [hasC]; omega
    have h2 : (hasC (ks ++ [d]))[i]? = none := by rw [Array.getElem?_eq_none_iff]; simp [hasC]; omega
    rw [h1, h2]
    split
    · split
      · rename_i h; exfalso; simp [hasC] at h; omega
      · rfl
    · rfl
def flags10 (ks : List Nat) : List Int := ks.map fun (d : Nat) => 97 + (d : Int)
theorem flags10_mem (ks : List Nat) (d : Nat) : (97 + (d : Int)) ∈ flags10 ks ↔ d ∈ ks := by
  unfold flags10
  rw [List.mem_map]
  constructor
  · rintro ⟨e, h, h1⟩
    have : e = d := by omega
    exact this ▸ h
  · exact fun h => ⟨d, h, rfl⟩
theorem want_len (k : Nat) (ks : List Nat) : (wantT k (flags10 ks)).length = 1 + cntF ks := by
  unfold wantT cntF
  rw [List.length_cons, List.length_map]
  simp only [flags10_mem]
  omega
theorem want_at {k : Nat} {ks : List Nat} {i : Nat} {x : ByteArray} (h : (wantT k (flags10 ks))[i + 1]? = some x) : ∃ d, d < 10 ∧ d ∈ ks ∧ x = formT k d := by
  unfold wantT at h
  rw [List.getElem?_cons_succ, List.getElem?_map] at h
  obtain ⟨d, hd, rfl⟩ := Option.map_eq_some_iff.1 h
  have hm := List.mem_of_getElem? hd
  obtain ⟨h1, h2⟩ := List.mem_filter.1 hm
  exact ⟨d, List.mem_range.1 h1, (flags10_mem ks d).1 (of_decide_eq_true h2), rfl⟩
theorem rsT_arg (c : Bool) (wd : ByteArray) (fl : List Int) (hw : wd.size ≤ 1000) (hf : ∀ f ∈ fl, In64 f) (hl : fl.length ≤ 100) : ZArg (rsT c) ⟨wd, fl⟩ := by
  have hr : ∀ r ∈ rsT c, (97 ≤ r.flag ∧ r.flag ≤ 106) ∧ r.cond = anyT ∧ r.strip.size ≤ 1 ∧ r.add.size ≤ 1 := fun r hr => by
    obtain ⟨i, hi, rfl⟩ := List.mem_map.1 hr
    have := List.mem_range.1 hi
    exact ⟨by simp only [flR]; omega, rfl, by simp [flR, ByteArray.size], by simp [flR, dig10, ByteArray.size]⟩
  refine ⟨fun r h => ?_, fun r h => ?_, hf, by show wd.size ≤ _; omega, by simp [rsT], by show fl.length ≤ _; omega⟩
  · obtain ⟨_, h1, h2, h3⟩ := hr r h
    exact ⟨by rw [h1]; decide, fun it hit => by rw [h1] at hit; simp [anyT] at hit; subst hit; decide, by omega, by omega⟩
  · have := (hr r h).1
    exact ⟨by omega, by omega⟩
theorem u8_dig : ∀ d : Fin 10, IntKind.u8.wrap (d.1 : Int) = (d.1 : Int) := by decide
theorem getZ_at (s : ByteArray) (q : Nat) (h : q < s.size) : s.get! q = s[q]'h := by
  rw [ByteArray.get!]
  exact getElem!_pos s.data q h
theorem cell_set (w : World) (g i : Nat) (v : Value) (cs : Array Value) (t : TypeId) (h : w.heap[g]? = some (.cells cs t (0, 0))) : (w.setCell ⟨g, i, none⟩ v).heap[g]? = some (.cells (cs.setIfInBounds i v) t (0, 0)) := by
  simp [World.setCell, Array.getElem?_modify, h]

set_option maxRecDepth 100000 in
set_option maxHeartbeats 1000000 in
theorem flags_law (w : World) (x : Int) (v : Value) (fl : List Int) (cr : Bool) (hI : IntsAt w v fl) (_hfin : ∀ f ∈ fl, In64 f) (hT : Tabs9 w) :
    Calls Tryz.prog 6 #[.int .i64 x, v, .bool cr] w fun e w' => e = .returned (.bool true) ∧ Below w.heap.size w w' := by
  have PX := Lib.hid (place9 x 10 w (by omega) (by omega))
  obtain ⟨K, hK⟩ : ∃ a : Nat, x % 10 = a := ⟨(x % 10).toNat, by omega⟩
  rw [hK] at PX
  have hk10 : K < 10 := by omega
  obtain ⟨A, cap, rfl, hA⟩ := ints_open hI
  have hbd := ints_bd hI
  obtain ⟨n, hn⟩ : ∃ n, n = fl.length := ⟨_, rfl⟩
  rw [← hn] at hA hbd hI ⊢
  have HA := Lib.hid hA
  have HN := Lib.hid hn
  have HT := Lib.hid hT
  obtain ⟨i0, hi, hz0, hz1, hz2⟩ := info_parts Tryz.infosZ51
  obtain ⟨Wb, hWb⟩ : ∃ Wb, Wb = w.alloc (.cells #[.bool true, .bool false, .slice none 0 0] 48) := ⟨_, rfl⟩
  obtain ⟨q, hq⟩ : ∃ q, q = w.heap.size := ⟨_, rfl⟩
  have hbb : Below w.heap.size w Wb := by rw [hWb]; exact (Below.refl _ _).alloc (Nat.le_refl _) _
  have hit : ItemsAt Wb (.slice (some ⟨q, 0, none⟩) 1 1) anyC := any_items (by rw [hWb, hq]; exact World.alloc_heap_new _ _)
  have HB := Lib.hid (And.intro hbb hit)
  have hcut := word_cut ⟨K, hk10⟩
  dsimp only at hcut
  have h1k : (1 : Int) + K ≤ 10 := by omega
  clear hK hT hbb hit hA hn hI
  go_enter Tryz.func6, Tryz.ntmps6
  go_upto_region 2 with (go_at_call 19; refine PX.out.mono ?_; rintro e wx ⟨rfl, hwx⟩; subst hwx)
  go_upto_region 4 with fail
  rw [← hWb, ← hq]
  clear hWb hq PX h1k
  rw [hcut]
  have hws := wordT_size ⟨K, hk10⟩
  dsimp only at hws
  obtain ⟨wd, hwd⟩ : ∃ wd, wd = wordT K := ⟨_, rfl⟩
  rw [← hwd] at hws ⊢
  have HWD := Lib.hid hwd
  clear hcut hwd
  go_wp2_with fail
  go_loopg [8, 10] 10 (fun gh s8 s10 wr => ∃ k : Nat, k + gh = 10 ∧ s10 = .int .i64 k ∧ Hid (RG Wb s8 ((List.range k).map (flR cr)) wr))
  case atStart => exact ⟨0, by omega, rfl, Lib.hid (RG.start Wb)⟩
  case round =>
    obtain ⟨k, hk, rfl, HR⟩ := hrel
    by_cases hlt : k < 10
    · have d1 : (k : Int) < 10 := by omega
      obtain ⟨xs, ho, hz⟩ := HR.out.row
      rw [List.length_map, List.length_range] at ho
      have HX := Lib.hid (And.intro ho hz)
      have hcut := dig10_cut ⟨k, hlt⟩
      dsimp only at hcut
      have hka : (k : Int) + 1 ≤ 10 := by omega
      have HNK := Lib.hid (show k = ((List.range k).map (flR cr)).length by rw [List.length_map, List.length_range])
      clear ho hz hlt
      go_wp2_with (at_builtin; refine wpList_append_own _ rfl _ _ 22 rfl Wb.heap.size 51 i0 _ 6 80 Tryz.underlying22 hi hz0 hz1 hz2 rfl (by decide) _ _ _ rfl (own_keep9 HX.out.1 ((Below.refl _ _).alloc (Nat.le_refl _) _)) ⟨wr.heap.size, 0, none⟩ 1 1 [.bool false, .int .i64 (97 + (k : Int)), .bool cr, .string ⟨#[]⟩, .string (dig10 k), .slice (some ⟨q, 0, none⟩) 1 1] rfl rfl (World.news_of_block (cs := #[.bool false, .int .i64 (97 + (k : Int)), .bool cr, .string ⟨#[]⟩, .string (dig10 k), .slice (some ⟨q, 0, none⟩) 1 1]) (t := 51) (fr := (0, 0)) (World.alloc_heap_new wr _)) (rule_one _ _ _ _ _ _ _ _) (by unfold maxLen; omega) (by omega) (by have := HR.out.below.size; rw [World.size_alloc]; omega) ?_; intro v1 w1 ho1 hg1 hn1; have HRN : Hid (RG Wb v1 ((List.range (k + 1)).map (flR cr)) w1) := Lib.hid (by rw [range_snoc]; exact RG.more (r := flR cr k) HNK.out HX.out.1 HX.out.2 (HR.out.below.alloc HR.out.below.size _) HB.out.2 ho1 hg1); clear ho1 hg1 hn1)
      go_roundg (gk - 1)
      case measure => omega
      case rel => exact ⟨k + 1, by omega, by go_num, HRN⟩
    · obtain rfl : k = 10 := by omega
      clear hlt hk
      obtain ⟨W1, hW1⟩ : ∃ W1, W1 = wr := ⟨_, rfl⟩
      rw [← hW1] at HR ⊢
      clear hW1
      obtain ⟨h0, hh0⟩ : ∃ h, h = W1.heap.size := ⟨_, rfl⟩
      go_upto_region 10 with fail
      have HX0 := Lib.hid (show (W1.alloc (.cells #[.bool false, .bool false, .bool false, .bool false, .bool false, .bool false, .bool false, .bool false, .bool false, .bool false] 53)).heap[h0]? = some (.cells (hasC []) 53 (0, 0)) from by rw [hh0]; exact World.alloc_heap_new _ _)
      have HX1 := Lib.hid (show Below W1.heap.size W1 (W1.alloc (.cells #[.bool false, .bool false, .bool false, .bool false, .bool false, .bool false, .bool false, .bool false, .bool false, .bool false] 53)) from (Below.refl _ _).alloc (Nat.le_refl _) _)
      have HH := Lib.hid hh0
      rw [← hh0]
      clear hh0
      obtain ⟨W2, hW2⟩ : ∃ W2, W2 = W1.alloc (.cells #[.bool false, .bool false, .bool false, .bool false, .bool false, .bool false, .bool false, .bool false, .bool false, .bool false] 53) := ⟨_, rfl⟩
      rw [← hW2] at HX0 HX1 ⊢
      clear hW2
      obtain ⟨m, hm⟩ : ∃ m, m = min 20 n := ⟨_, rfl⟩
      have hmn : m ≤ n := by omega
      have hm20 : m ≤ 20 := by omega
      have HM := Lib.hid (show m = n ∨ m = 20 by omega)
      clear hm
      obtain ⟨i1, hi1, hy0, hy1, hy2⟩ := info_parts Tryz.infosY3
      go_wp2_with fail
      go_loopg [11, 13, 14] m (fun gh s11 s13 s14 wr => ∃ (i c : Nat) (ks : List Nat), i + gh = m ∧ s14 = .int .i64 i ∧ s13 = .int .i64 c ∧ c ≤ 11 ∧ Hid (c = 1 + cntF ks ∧ ks.length = i ∧ (∀ d ∈ ks, d < 10) ∧ wr.ownsRow (h0 + 1) 3 1 s11 i ((flags10 ks).map (Value.int .i64)) ∧ wr.heap[h0]? = some (.cells (hasC ks) 53 (0, 0)) ∧ Below W1.heap.size W1 wr))
      case atStart => exact ⟨0, 1, [], by omega, rfl, rfl, by omega, Lib.hid ⟨rfl, rfl, (fun d h => by cases h), World.ownsRow_nil _ _ _ _, HX0.out, HX1.out⟩⟩
      case round =>
        obtain ⟨i, c, ks, hk, rfl, rfl, hc11, HS⟩ := hrel
        rcases Nat.eq_zero_or_pos gk with hg0 | hg0
        · obtain rfl : i = m := by omega
          clear hg0 hk
          obtain ⟨hc, hkl, hkd, hown, hhas, hbel⟩ := HS.out
          obtain ⟨FA, fc, rfl⟩ := own_shape hown
          have hfi : IntsAt wr (.slice FA i fc) (flags10 ks) := by
            have e : i = (flags10 ks).length := by rw [flags10, List.length_map, hkl]
            rw [e] at hown ⊢
            exact ints_own hown
          have hR8 : RG Wb u8 (rsT cr) wr := HR.out.keep hbel
          have hbw : Below w.heap.size w wr := HB.out.1.trans (hR8.below.mono HB.out.1.size)
          have hfl : ∀ f ∈ flags10 ks, In64 f := fun f hf => by
            obtain ⟨d, hd, rfl⟩ := List.mem_map.1 hf
            have := hkd d hd
            exact ⟨by omega, by omega⟩
          have hCF := forms_any wr u8 (rsT cr) FA i fc wd (flags10 ks) hR8.reads hfi (tabs_below HT.out hbw) (rsT_arg cr wd _ (by omega) hfl (by rw [flags10, List.length_map, hkl]; omega))
          have hff := fun l => forms_T ⟨K, hk10⟩ l cr
          dsimp only at hff
          rw [← HWD.out] at hff
          rw [hff] at hCF
          have CF := Lib.hid hCF
          have CG := Lib.hid (fun W (h : Below wr.heap.size wr W) => forms_any W u8 (rsT cr) none 0 0 wd [] (hR8.keep h).reads (.inl ⟨rfl, _, _, rfl⟩) (tabs_below HT.out (hbw.trans (h.mono hbw.size))) (rsT_arg cr wd _ (by omega) (by simp) (by decide)))
          rw [hff] at CG
          have HK := Lib.hid (And.intro hc (And.intro hkd (And.intro hhas hbw)))
          have hex : (¬ (i : Int) < n) ∨ ((i : Int) < n ∧ ¬ (i : Int) < 20) := by
            rcases HM.out with h | h
            · left; omega
            · by_cases h2 : (i : Int) < n
              · exact .inr ⟨h2, by omega⟩
              · exact .inl h2
          clear hc hkl hkd hown hhas hbel hfi hR8 hbw hfl hCF hff HS HM HR HX0 HX1
          rcases hex with d1 | ⟨d1, d2⟩
          all_goals
            go_upto_region 20 with (go_at_call 11; refine CF.out.mono ?_; rintro e w5 ⟨v5, rfl, hs5, hb5⟩; obtain ⟨V5, c5, rfl⟩ := strs_form hs5)
            rw [want_len, ← HK.out.1] at hs5 ⊢
            have HS5 := Lib.hid (And.intro hs5 hb5)
            clear hs5 hb5
            go_upto_region 21 with (go_at_call 11; refine (CG.out w5 HS5.out.2).mono ?_; rintro e w6 ⟨v6, rfl, hs6, hb6⟩; obtain ⟨V6, c6, rfl⟩ := strs_form hs6)
            have hs60 := hs6
            obtain ⟨g6, o6, rfl, hg6, hgc6, x6⟩ := strs_open hs6 0 wd (by rw [HWD.out]; rfl)
            have h1 : (wantT K []).length = 1 := want_len K []
            rw [h1] at hgc6 ⊢
            have hs56 := HS5.out.1.keep hb6
            obtain ⟨g5, o5, rfl, hg5, hgc5, x5⟩ := strs_open hs56 0 wd (by rw [HWD.out]; rfl)
            have HS6 := Lib.hid (And.intro (strs_open hs56) (HS5.out.2.trans (hb6.mono HS5.out.2.size)))
            have hc1 : 1 ≤ c := by rw [HK.out.1]; omega
            clear hs6 hs60 hs56 hb6 h1 CF CG
            simp only [Nat.add_zero] at x5 x6
            have hq : (wd.toList == wd.toList) = true := by simp
            have q5 : (0 : Int) < c := by omega
            go_wp2_with fail
            go_loopg [18] (c - 1) (fun gh s18 wx => ∃ k : Nat, k + gh = c ∧ 1 ≤ k ∧ s18 = .int .i64 k ∧ wx = w6)
            case atStart => exact ⟨1, by omega, by omega, rfl, rfl⟩
            case round =>
              obtain ⟨k, hk, hk1, rfl, rfl⟩ := hrel
              by_cases hlt : k < c
              · have e1 : (k : Int) < c := by omega
                have hk0 : (0 : Int) ≤ k := by omega
                obtain ⟨X, hX⟩ : ∃ X, (wantT K (flags10 ks))[k]? = some X := ⟨_, List.getElem?_eq_getElem (by rw [want_len, ← HK.out.1]; exact hlt)⟩
                obtain ⟨g, o, eg, hg, -, y0⟩ := HS6.out.1 k X hX
                cases eg
                rw [show k = (k - 1) + 1 by omega] at hX
                obtain ⟨d, hd10, hdk, rfl⟩ := want_at hX
                obtain ⟨f1, f2, f3⟩ := formT_at ⟨K, hk10⟩ ⟨d, hd10⟩
                dsimp only at f1 f2 f3
                have hhc : wr.cell? ⟨h0, d, none⟩ = some (.bool true) := by
                  have h1 := (HS6.out.2.block h0 (Array.getElem?_eq_some_iff.1 HK.out.2.2.1).1).trans HK.out.2.2.1
                  rw [cell_of_row _ _ _ _ _ _ h1, hasC_at ks hd10, decide_eq_true hdk]
                obtain ⟨X, hXX⟩ : ∃ X, X = formT K d := ⟨_, rfl⟩
                rw [← hXX] at y0 f1 f2 f3
                rw [← HWD.out] at f2
                have hlt2 : wd.size < X.size := by omega
                have f4 : (X[wd.size]'hlt2).toNat = 48 + d := by rw [← getZ_at, ← f3, ← hws]
                obtain ⟨bt, hbt⟩ : ∃ bt, bt = (X[wd.size]'hlt2).toNat := ⟨_, rfl⟩
                rw [← hbt] at f4
                have f8 := hbt.symm
                rw [← hws] at f2
                have f5 : X.size = wd.size + 1 := by omega
                have f6 : (wd.size : Int) < X.size := by omega
                have f7 : (wd.size : Int) ≤ X.size := by omega
                have w8 : IntKind.u8.wrap ((bt : Int) - 48) = (d : Int) := by rw [show ((bt : Int) - 48) = d by omega]; exact u8_dig ⟨d, hd10⟩
                have hd0 : (0 : Int) ≤ d := by omega
                have hd9 : (d : Int) < 10 := by omega
                have g1 : ¬ (bt : Int) < 48 := by omega
                have g2 : ¬ (57 : Int) < (bt : Int) := by omega
                have w9 : IntKind.i64.wrap ((wd.size : Int) + 1) = (wd.size : Int) + 1 := IntWalk.i64_in _ (by omega)
                have hsz : (wd.size : Int) ≤ 10 := by omega
                have hc5 : (c : Int) ≤ c5 := by omega
                clear hX hg hdk f1 f3 f4 hbt hXX hws hlt x5 x6 hd10
                go_upto_region 26 with fail
                go_wp2_with fail
                go_roundg (gk - 1)
                case measure => omega
                case rel => exact ⟨k + 1, by omega, by omega, by go_num, rfl⟩
              · obtain rfl : k = c := by omega
                have e1 : ¬ (k : Int) < k := by omega
                have hbb : Below w.heap.size w wr := HK.out.2.2.2.trans (HS6.out.2.mono HK.out.2.2.2.size)
                have CA := Lib.hid (awake13_any wr (tabs_below HT.out hbb))
                have HBB := Lib.hid hbb
                clear hlt hk hbb x5 x6
                go_wp2_with (go_at_call 9; refine CA.out.mono ?_; rintro e w9 ⟨rfl, hb9⟩; have HB9 := Lib.hid (HBB.out.trans (hb9.mono HBB.out.size)); clear hb9)
                go_ret
                exact ⟨rfl, HB9.out⟩
        · have d1 : (i : Int) < n := by omega
          have d2 : (i : Int) < 20 := by omega
          obtain ⟨x, hx⟩ : ∃ x, fl[i]? = some x := ⟨_, List.getElem?_eq_getElem (by have := HN.out; omega)⟩
          obtain ⟨g, o, rfl, hg, hcap, xc⟩ := HA.out i x hx
          have y0 := ((HB.out.1.trans (HR.out.below.mono HB.out.1.size)).trans (HS.out.2.2.2.2.2.mono (HB.out.1.trans (HR.out.below.mono HB.out.1.size)).size)).cell (p := ⟨g, o + i, none⟩) hg |>.trans xc
          have hcap2 : (n : Int) ≤ cap := by omega
          have PL := Lib.hid (fun wx => place9 x 10 wx (by omega) (by omega))
          obtain ⟨d, hd⟩ : ∃ a : Nat, x % 10 = a := ⟨(x % 10).toNat, by omega⟩
          have hd10 : (d : Int) < 10 := by omega
          have hd0 : (0 : Int) ≤ d := by omega
          have hdn : d < 10 := by omega
          rw [hd] at PL
          clear hx hg hcap xc hd
          go_upto_region 16 with (first
            | (go_at_call 19; refine (PL.out _).mono ?_; rintro e wx ⟨rfl, hwx⟩; subst hwx)
            | (at_builtin; refine wpList_append_own _ rfl _ _ 23 rfl (h0 + 1) 3 i1 _ 1 8 Tryz.underlying23 hi1 hy0 hy1 hy2 rfl (by decide) _ _ _ rfl (own_keep9 HS.out.2.2.2.1 ((Below.refl _ _).alloc (Nat.le_refl _) _)) ⟨wr.heap.size, 0, none⟩ 1 1 [.int .i64 (97 + (d : Int))] rfl rfl (World.news_of_block (cs := #[.int .i64 (97 + (d : Int))]) (t := 3) (fr := (0, 0)) (World.alloc_heap_new wr _)) (int_oneY _) (by unfold maxLen; omega) (by omega) (by have := (Array.getElem?_eq_some_iff.1 HS.out.2.2.2.2.1).1; rw [World.size_alloc]; omega) ?_; intro v1 w1 ho1 hg1 hn1; have HO1 := Lib.hid ho1; have HG1 : Hid ((wr.alloc (.cells #[.int .i64 (97 + (d : Int))] 3)).grownBy w1 u11.ownBlock) := Lib.hid hg1; clear ho1 hg1 hn1))
          have hh := HH.out
          have hlo : ∀ z, u11.ownBlock = some z → W1.heap.size ≤ z := fun z hz => by have := (HS.out.2.2.2.1.lt z hz).1; omega
          have hbw : Below W1.heap.size W1 w1 := (HS.out.2.2.2.2.2.alloc HS.out.2.2.2.2.2.size _).grown HG1.out (by rw [World.size_alloc]; have := HS.out.2.2.2.2.2.size; omega) hlo
          have hlt0 := (Array.getElem?_eq_some_iff.1 HS.out.2.2.2.2.1).1
          have hz1 : w1.heap[h0]? = some (.cells (hasC ks) 53 (0, 0)) := by
            rw [HG1.out.block h0 (by rw [World.size_alloc]; omega) (fun e => by have := (HS.out.2.2.2.1.lt h0 e.symm).1; omega)]
            exact (((Below.refl wr.heap.size wr).alloc (Nat.le_refl _) _).block h0 hlt0).trans HS.out.2.2.2.2.1
          have hc : w1.cell? ⟨h0, d, none⟩ = some (.bool (decide (d ∈ ks))) := by rw [cell_of_row _ _ _ _ _ _ hz1]; exact hasC_at ks hdn
          have hfz : w1.frozen? ⟨h0, d, none⟩ = false := by simp [World.frozen?, hz1]
          obtain ⟨c2, hc2⟩ : ∃ c2, c2 = 1 + cntF (ks ++ [d]) := ⟨_, rfl⟩
          have hc11' : c2 ≤ 11 := by have := cntF_le (ks ++ [d]); omega
          have HNS : Hid (c2 = 1 + cntF (ks ++ [d]) ∧ (ks ++ [d]).length = i + 1 ∧ (∀ e ∈ ks ++ [d], e < 10) ∧ (w1.setCell ⟨h0, d, none⟩ (.bool true)).ownsRow (h0 + 1) 3 1 v1 (i + 1) ((flags10 (ks ++ [d])).map (Value.int .i64)) ∧ (w1.setCell ⟨h0, d, none⟩ (.bool true)).heap[h0]? = some (.cells (hasC (ks ++ [d])) 53 (0, 0)) ∧ Below W1.heap.size W1 (w1.setCell ⟨h0, d, none⟩ (.bool true))) := by
            refine Lib.hid ⟨hc2, by rw [List.length_append, HS.out.2.1]; rfl, fun e he => ?_, ?_, ?_, hbw.setCell (p := ⟨h0, d, none⟩) (by show W1.heap.size ≤ h0; omega) _⟩
            · rcases List.mem_append.1 he with h | h
              · exact HS.out.2.2.1 e h
              · rw [List.mem_singleton] at h; omega
            · refine own_blk (w := w1) ?_ fun z hz => set_other _ _ _ _ (by have := (HO1.out.lt z hz).1; omega)
              have := HO1.out
              simpa [flags10] using this
            · rw [cell_set _ _ _ _ _ _ hz1, hasC_set ks hdn]
          have hcc : c2 = if d ∈ ks then c else c + 1 := by rw [hc2, cntF_more hdn, HS.out.1]; split <;> omega
          clear hh hlo hbw hlt0 hz1 hc2 HG1 HO1 y0
          by_cases hm : d ∈ ks
          · rw [decide_eq_true hm] at hc
            rw [if_pos hm] at hcc
            subst hcc
            clear hm
            go_wp2_with fail
            go_roundg (gk - 1)
            case measure => omega
            case rel => exact ⟨i + 1, c2, ks ++ [d], by omega, by go_num, rfl, by omega, HNS⟩
          · rw [decide_eq_false hm] at hc
            rw [if_neg hm] at hcc
            subst hcc
            clear hm
            go_wp2_with fail
            go_roundg (gk - 1)
            case measure => omega
            case rel => exact ⟨i + 1, c + 1, ks ++ [d], by omega, by go_num, by go_num, by omega, HNS⟩
end Go.Proofs.YtcbmfkgekhadkaaGreatDoor
