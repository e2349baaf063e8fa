/- StoreBytes out of what is asked of a store's calls. -/
import Derived.Test.YtehgeeknjldjdaaBLawGrows
import Derived.Test.YtehgeeknjldjdaaWhere
import Derived.RangeFuncBox
import Derived.Deep.RegionHeld3
import Derived.Deep.RegionLaw
import Derived.Deep.AppendLies
import Derived.BigRegion
import Derived.Laws.Rows
namespace Go.Proofs.Ytehgeeknjldjdaa
open Go Go.RowKit

variable {Rep : (Nat → Prop) → World → Addr → ByteArray → Prop}

/-- The first j texts, one behind the other. -/
def catL (ss : List ByteArray) : Nat → ByteArray
  | 0 => ⟨#[]⟩
  | j + 1 => catL ss j ++ (ss[j]?.getD ⟨#[]⟩)
/-- Where each of the first j texts begins. -/
def fromL (ss : List ByteArray) (j : Nat) : List Value := (List.range j).map fun i => .int .i64 (catL ss i).size
theorem fromL_succ (ss : List ByteArray) (j : Nat) : fromL ss (j + 1) = fromL ss j ++ [.int .i64 (catL ss j).size] := by
  rw [fromL, List.range_succ, List.map_append]; rfl
theorem catL_size (ss : List ByteArray) : ∀ j, (∀ (i : Nat) (s : ByteArray), i < j → ss[i]? = some s → s.size ≤ 200) → (catL ss j).size ≤ 200 * j
  | 0, _ => Nat.le_refl _
  | j + 1, h => by
    have ih := catL_size ss j (fun i s hi hs => h i s (by omega) hs)
    rw [catL, ByteArray.size_append]
    cases hz : ss[j]? with
    | none =>
      have : ((none : Option ByteArray).getD ⟨#[]⟩).size = 0 := rfl
      omega
    | some s =>
      have := h j s (by omega) hz
      have e : ((some s : Option ByteArray).getD ⟨#[]⟩).size = s.size := rfl
      omega
theorem catL_mono (ss : List ByteArray) {i j : Nat} (h : i ≤ j) : ∃ t, catL ss j = catL ss i ++ t := by
  induction h with
  | refl => exact ⟨⟨#[]⟩, ByteArray.append_empty.symm⟩
  | step _ ih =>
    obtain ⟨t, ht⟩ := ih
    exact ⟨t ++ _, by rw [catL, ht, ByteArray.append_assoc]⟩
/-- A text's bytes within all. -/
theorem catL_cut (ss : List ByteArray) {i n k m : Nat} {s : ByteArray} (hi : i < n) (hs : ss[i]? = some s) (hk : k ≤ m) (hm : m ≤ s.size) :
    (catL ss n).extract ((catL ss i).size + k) ((catL ss i).size + m) = s.extract k m ∧ (catL ss i).size + s.size ≤ (catL ss n).size := by
  obtain ⟨t, ht⟩ := catL_mono ss (show i + 1 ≤ n from hi)
  have hc : catL ss (i + 1) = catL ss i ++ s := by rw [catL, hs]; rfl
  rw [hc] at ht
  refine ⟨?_, by rw [ht, ByteArray.size_append, ByteArray.size_append]; omega⟩
  rw [ht, cut_append (by rw [ByteArray.size_append]; omega)]
  apply bytes_ext
  have hl : (catL ss i).data.toList.length = (catL ss i).size := by simp
  rw [cut_list, cut_list, ByteArray.data_append, Array.toList_append, List.drop_append]
  rw [List.drop_eq_nil_of_le (by omega), List.nil_append, hl, show (catL ss i).size + k - (catL ss i).size = k by omega, show (catL ss i).size + m - ((catL ss i).size + k) = m - k by omega]
theorem cut_two (s : ByteArray) (k : Nat) (hk : k ≤ s.size) : s.extract 0 k ++ s.extract k s.size = s := by
  apply bytes_ext
  have hl : s.data.toList.length = s.size := by simp
  rw [ByteArray.data_append, Array.toList_append, cut_list, cut_list, List.drop_zero, Nat.sub_zero, List.take_of_length_le (l := s.data.toList.drop k) (by rw [List.length_drop]; omega), List.take_append_drop]

theorem cells_new (w : World) (cs : List Value) (t : TypeId) : ∀ j u, cs[j]? = some u → (w.alloc (.cells cs.toArray t)).cell? ((⟨w.heap.size, 0, none⟩ : Addr).add j) = some u := by
  intro j u hu
  have hadd : (⟨w.heap.size, 0, none⟩ : Addr).add j = ⟨w.heap.size, j, none⟩ := by unfold Addr.add; split <;> simp_all
  rw [hadd, cell_of_row _ w.heap.size j cs.toArray t (0, 0) (heap_alloc_new w _)]
  simpa using hu
theorem Try.info3 : (Try.prog.info? 3).map (fun i => (i.zero, i.size, i.bytes)) = some (some (.int .i64 0), 1, 8) := by kernel_rfl

theorem own_open {w : World} {B e size n : Nat} {v : Value} {xs : List Value} (h : w.ownsRow B e size v n xs) (hn : 0 < n) :
    ∃ g cap, v = .slice (some ⟨g, 0, none⟩) n cap ∧ B ≤ g ∧ g < w.heap.size ∧ n ≤ cap ∧ cap ≤ maxLen ∧ ∀ j u, xs[j]? = some u → w.cell? ⟨g, j, none⟩ = some u := by
  have hc := @World.ownsRow.cells _ _ _ _ _ _ _ h
  rcases h.2 with ⟨_, rfl⟩ | ⟨g, cap, cur, rfl, hb, hg, hnc, hcm, _⟩
  · omega
  · refine ⟨g, cap, rfl, hb, (Array.getElem?_eq_some_iff.1 hg).1, hnc, hcm, fun j u hu => ?_⟩
    have hadd : (⟨g, 0, none⟩ : Addr).add j = ⟨g, j, none⟩ := by unfold Addr.add; split <;> simp_all
    rw [← hadd]
    exact hc (g := g) rfl j u hu

/-- A store, and beside it a row of the law's own. -/
def HoldsR (Rep : (Nat → Prop) → World → Addr → ByteArray → Prop) (w : World) (a : Addr) (s : ByteArray) (v : Value) (j : Nat) (xs : List Value) (wr : World) : Prop :=
  ∃ F, (Rep F wr a s ∧ ∀ k, F k → w.heap.size ≤ k) ∧ (wr.ownsRow w.heap.size 3 1 v j xs ∧ ∀ g, v.ownBlock = some g → ¬ F g) ∧ Below w.heap.size w wr
theorem HoldsR.row {w wr : World} {a : Addr} {s : ByteArray} {v : Value} {j : Nat} {xs : List Value} (h : HoldsR Rep w a s v j xs wr) : wr.ownsRow w.heap.size 3 1 v j xs := by
  obtain ⟨_, _, ⟨h, _⟩, _⟩ := h; exact h
theorem HoldsR.below {w wr : World} {a : Addr} {s : ByteArray} {v : Value} {j : Nat} {xs : List Value} (h : HoldsR Rep w a s v j xs wr) : Below w.heap.size w wr := by
  obtain ⟨_, _, _, h⟩ := h; exact h
theorem HoldsR.on {w wr w' : World} {a : Addr} {s : ByteArray} {v : Value} {j : Nat} {xs : List Value} {F F' : Nat → Prop} (hb : Below w.heap.size w wr) (hF : ∀ k, F k → w.heap.size ≤ k) (hr : wr.ownsRow w.heap.size 3 1 v j xs) (hg : ∀ g, v.ownBlock = some g → ¬ F g)
    (h1 : Rep F' w' a s) (h2 : OnlyAt F wr w') (h3 : ∀ k, F' k → F k ∨ wr.heap.size ≤ k) : HoldsR Rep w a s v j xs w' := by
  refine ⟨F', ⟨h1, fun k hk => ?_⟩, ⟨⟨hr.1, ?_⟩, fun g hgv hh => ?_⟩, OnlyAt.below hb h2 hb.size hF⟩
  · rcases h3 k hk with h | h
    · exact hF k h
    · exact Nat.le_trans hb.size h
  · rcases hr.2 with hn | ⟨g, cap, cur, rfl, hgb, hgg, rest⟩
    · exact .inl hn
    · exact .inr ⟨g, cap, cur, rfl, hgb, (h2.block g (Array.getElem?_eq_some_iff.1 hgg).1 (hg g rfl)).trans hgg, rest⟩
  · have := (hr.lt g hgv).2
    rcases h3 g hh with h | h
    · exact hg g hgv h
    · omega
theorem HoldsR.drew (S : Says Rep) {w wr : World} {a : Addr} {s : ByteArray} {v : Value} {j : Nat} {xs : List Value} (h : HoldsR Rep w a s v j xs wr) : HoldsR Rep w a s v j xs wr.drew := by
  obtain ⟨F, ⟨hr, hF⟩, ⟨ho, hg⟩, hb⟩ := h
  exact HoldsR.on hb hF ho hg (S.frame F wr wr.drew a s hr ⟨Nat.le_refl _, fun _ _ _ => rfl⟩) (OnlyAt.drew F wr) (fun _ hk => .inl hk)
theorem HoldsR.add (S : Says Rep) {w wr : World} {a : Addr} {s : ByteArray} {v : Value} {j : Nat} {xs : List Value} (h : HoldsR Rep w a s v j xs wr) (t : ByteArray) (hs : s.size + t.size ≤ 1000000) :
    Calls Try.prog 10 #[.pointer (some a), .string t] wr fun e w' => e = .returned (.int .i64 s.size) ∧ Hid (HoldsR Rep w a (s ++ t) v j xs w') := by
  obtain ⟨F, ⟨hr, hF⟩, ⟨ho, hg⟩, hb⟩ := h
  exact (S.add _ _ _ _ t hr hs).mono fun _ _ ⟨_, he, h1, h2, h3⟩ => ⟨he, HoldsR.on hb hF ho hg h1 h2 h3⟩
theorem HoldsR.yes (S : Says Rep) {w wr : World} {a : Addr} {s : ByteArray} {v : Value} {j : Nat} {xs : List Value} (h : HoldsR Rep w a s v j xs wr) (k m : Nat) (hk : k + m ≤ s.size) (hs : s.size ≤ 1000000) (t : ByteArray) (ht : s.extract k (k + m) = t) :
    Calls Try.prog 11 #[.pointer (some a), .int .i64 k, .int .i64 m] wr fun e w' => e = .returned (.tuple #[.string t, .bool true]) ∧ HoldsR Rep w a s v j xs w' := by
  obtain ⟨F, ⟨hr, hF⟩, ⟨ho, hg⟩, hb⟩ := h
  exact (S.yes _ _ _ _ k m hr hk hs).mono fun _ _ ⟨_, he, h1, h2, h3⟩ => ⟨by rw [he, ht], HoldsR.on hb hF ho hg h1 h2 h3⟩
theorem HoldsR.len (S : Says Rep) {w wr : World} {a : Addr} {s : ByteArray} {v : Value} {j : Nat} {xs : List Value} (h : HoldsR Rep w a s v j xs wr) (hs : s.size ≤ 1000000) :
    Calls Try.prog 12 #[.pointer (some a)] wr fun e w' => e = .returned (.int .i64 s.size) ∧ Hid (HoldsR Rep w a s v j xs w') := by
  obtain ⟨F, ⟨hr, hF⟩, ⟨ho, hg⟩, hb⟩ := h
  exact (S.len _ _ _ _ hr hs).mono fun _ _ ⟨_, he, h1, h2, h3⟩ => ⟨he, HoldsR.on hb hF ho hg h1 h2 h3⟩
theorem HoldsR.grown (S : Says Rep) {w w3 w4 : World} {a : Addr} {s : ByteArray} {v v' : Value} {j : Nat} {xs ys : List Value} {o : Obj} (h : HoldsR Rep w a s v j xs w3)
    (hown : w4.ownsRow w.heap.size 3 1 v' (j + 1) ys) (hg4 : (w3.alloc o).grownBy w4 v.ownBlock) (hwh : v'.ownBlock = v.ownBlock ∨ ∀ g, v'.ownBlock = some g → (w3.alloc o).heap.size ≤ g) : HoldsR Rep w a s v' (j + 1) ys w4 := by
  obtain ⟨F, ⟨hr, hF⟩, ⟨ho, hg⟩, hb⟩ := h
  have hz := hg4.size
  rw [World.size_alloc] at hz
  refine ⟨F, ⟨S.frame F w3 w4 a s hr ⟨by omega, fun k hk hFk => ?_⟩, hF⟩, ⟨hown, fun g hgv => ?_⟩, (hb.alloc hb.size o).grown hg4 (by have := hb.size; simp; omega) (fun k hk => (ho.lt k hk).1)⟩
  · exact (hg4.block k (by simp; omega) (fun e => hg k e.symm hFk)).trans (Below.heap_alloc _ _ _ hk)
  · rcases hwh with e | e
    · exact hg g (e ▸ hgv)
    · intro hFg
      have h1 := e g hgv
      have h2 := S.lt _ _ _ _ hr g hFg
      rw [World.size_alloc] at h1
      omega

set_option maxRecDepth 100000 in
set_option maxHeartbeats 8000000 in
theorem bytes_law (S : Says Rep) (A : Option Addr) (n1 cap1 : Nat) (ss : List ByteArray) (which at_ : Int) (w : World) (hl : Strs w A n1 cap1 ss) :
    Calls Try.prog 5 #[.slice A n1 cap1, .int .i64 which, .int .i64 at_] w fun e w' => e = .returned (.bool true) ∧ Below w.heap.size w w' := by
  obtain ⟨i3, hi3, hz30, hz31, hz32⟩ := info_parts Try.info3
  have W8 := Lib.hid (awake_any S)
  have C1 := Lib.hid (S.new w ⟨#[]⟩ (by decide))
  obtain ⟨g1, g2, g3, hc⟩ := hl
  unfold maxLen at g3
  by_cases hbig : 40 < n1
  · clear S hc g1
    go_enter Try.func5, Try.ntmps5
    go_wp2_with (first
      | (go_at_call 8; refine (C1.out).mono ?_; rintro e w1 ⟨a, F, rfl, hr1, ho1, hf1⟩; have HB1 := Lib.hid (Holds.new hr1 ho1 hf1).2; clear hr1 ho1 hf1)
      | (go_at_call 7; refine (W8.out _).mono ?_; rintro e w2 ⟨rfl, hb2⟩; have HB := Lib.hid (HB1.out.trans (hb2.mono HB1.out.size)); clear hb2))
    go_ret
    exact ⟨rfl, HB.out⟩
  · have hn : n1 ≤ 40 := by omega
    have HS := Lib.hid S
    have HC := Lib.hid hc
    have HN := Lib.hid g1
    have PA := Lib.hid place_any
    clear S hc g1 hbig
    go_enter Try.func5, Try.ntmps5
    go_wp2_with (go_at_call 8; refine (C1.out).mono ?_; rintro e w1 ⟨a, F, rfl, hr1, ho1, hf1⟩; have H1 := Lib.hid (show HoldsR Rep w a (catL ss 0) (.slice none 0 0) 0 (fromL ss 0) w1 from ⟨F, ⟨hr1, hf1⟩, ⟨World.ownsRow_nil _ _ _ _, fun g hg => by simp [Value.ownBlock] at hg⟩, (Holds.new hr1 ho1 hf1).2⟩); clear hr1 ho1 hf1)
    go_loopw [8, 9] (fun v i wr => ∃ j : Nat, j ≤ n1 ∧ i = .int .i64 j ∧ Hid (∀ (i : Nat) (s : ByteArray), i < j → ss[i]? = some s → s.size ≤ 200) ∧ Hid (HoldsR Rep w a (catL ss j) v j (fromL ss j) wr)) (fun _ i _ => n1 - (RowKit.intOf i).toNat)
    case atStart => exact ⟨0, Nat.zero_le _, rfl, (fun i s h _ => by omega), H1⟩
    case round =>
      obtain ⟨j, hj, rfl, HQ, HT⟩ := hrel
      have j0 : (0 : Int) ≤ j := by omega
      have hsz := catL_size ss j HQ.out
      have hzw := HT.out.below.size
      by_cases hjn : j < n1
      · obtain ⟨s, hz⟩ : ∃ s, ss[j]? = some s := ⟨_, List.getElem?_eq_getElem (by rw [HN.out]; exact hjn)⟩
        obtain ⟨⟨b, off, rfl, hlt, hmz⟩, hss⟩ := HC.out j s hz
        have m0 := (HT.out.below.cell (p := ⟨b, off + j, none⟩) hlt).trans hmz
        have jn : (j : Int) < n1 := by omega
        have HZ := Lib.hid hz
        clear hz hmz
        by_cases h200 : 200 < s.size
        · go_wp2_with fail
          refine (W8.out _).mono ?_
          rintro e w3 ⟨rfl, hb3⟩
          have HB := Lib.hid (HT.out.below.trans (hb3.mono HT.out.below.size))
          clear hb3
          go_wp2_with fail
          go_ret
          exact ⟨rfl, HB.out⟩
        · have h2 : s.size ≤ 200 := by omega
          have CA := Lib.hid (HoldsR.add HS.out HT.out s (by omega))
          obtain ⟨N, hN⟩ : ∃ N, N = (catL ss j).size := ⟨_, rfl⟩
          rw [← hN] at CA
          have HNN := Lib.hid hN
          have hcat : catL ss (j + 1) = catL ss j ++ s := by rw [catL, HZ.out]; rfl
          have HCat := Lib.hid hcat
          clear h200 hcat hN hsz
          go_wp2_with (first
            | (go_at_call 10; refine (CA.out).mono ?_; rintro e w3 ⟨rfl, H3⟩)
            | (at_builtin; refine wpList_append_where _ rfl _ _ 33 rfl w.heap.size 3 i3 (.int .i64 0) 1 8 Try.underlying33 hi3 hz30 hz31 hz32 rfl (by decide) _ _ _ rfl (H3.out.row.alloc _) ⟨w3.heap.size, 0, none⟩ 1 1 [.int .i64 N] rfl rfl (cells_new _ _ _) (by simp [Value.oneCell']) (by unfold maxLen; omega) (by omega) (by have := H3.out.below.size; simp; omega) ?_; intro v' w4 hown4 hgrow4 hwh4))
          have H4 := Lib.hid (HoldsR.grown HS.out H3.out hown4 hgrow4 hwh4)
          clear hown4 hgrow4 hwh4
          go_roundw
          case rel => exact ⟨j + 1, by omega, by go_num, (fun i s' hi hs' => by
              rcases Nat.lt_or_ge i j with h | h
              · exact HQ.out i s' h hs'
              · obtain rfl : i = j := by omega
                rw [HZ.out] at hs'
                cases hs'
                exact h2), by rw [fromL_succ, HCat.out, ← HNN.out]; exact H4⟩
          case measure => simp [RowKit.intOf]; omega
      · obtain rfl : j = n1 := by omega
        clear hj hjn
        by_cases hz0 : j = 0
        · subst hz0
          have CL0 := HoldsR.len HS.out HT.out (show (catL ss 0).size ≤ 1000000 from Nat.zero_le _)
          rw [show (catL ss 0).size = 0 from rfl] at CL0
          have CL := Lib.hid CL0
          clear CL0
          clear hsz
          go_wp2_with fail
          refine (CL.out).mono ?_
          rintro e w3 ⟨rfl, H3⟩
          go_wp2_with fail
          refine (W8.out _).mono ?_
          rintro e w4 ⟨rfl, hb4⟩
          have HB := Lib.hid (H3.out.below.trans (hb4.mono H3.out.below.size))
          clear hb4
          go_wp2_with fail
          go_ret
          exact ⟨rfl, HB.out⟩
        · obtain ⟨i, hi⟩ : ∃ i : Nat, (i : Int) = which % (j : Int) := ⟨(which % (j : Int)).toNat, by have := Int.emod_nonneg which (show (j : Int) ≠ 0 by omega); omega⟩
          have hij : i < j := by have := Int.emod_lt_of_pos which (show (0 : Int) < (j : Int) by omega); omega
          have P1 := Lib.hid (fun wx => PA.out which (j : Int) wx (by omega) (by omega))
          rw [← hi] at P1
          obtain ⟨s, hz⟩ : ∃ s, ss[i]? = some s := ⟨_, List.getElem?_eq_getElem (by rw [HN.out]; exact hij)⟩
          obtain ⟨⟨b, off, rfl, hlt, hmz⟩, hss⟩ := HC.out i s hz
          have hs2 := HQ.out i s hij hz
          obtain ⟨k, hk⟩ : ∃ k : Nat, (k : Int) = at_ % ((s.size : Int) + 1) := ⟨(at_ % ((s.size : Int) + 1)).toNat, by have := Int.emod_nonneg at_ (show (s.size : Int) + 1 ≠ 0 by omega); omega⟩
          have hks : k ≤ s.size := by have := Int.emod_lt_of_pos at_ (show (0 : Int) < (s.size : Int) + 1 by omega); omega
          have P2 := Lib.hid (fun wx => PA.out at_ ((s.size : Int) + 1) wx (by omega) (by omega))
          rw [← hk] at P2
          obtain ⟨g, cap, rfl, hgB, hgl, hcp1, hcp2, hcells⟩ := own_open HT.out.row (by omega)
          unfold maxLen at hcp2
          obtain ⟨N, hN⟩ : ∃ N, N = (catL ss i).size := ⟨_, rfl⟩
          have hrow : (fromL ss j)[i]? = some (.int .i64 N) := by rw [fromL, List.getElem?_map, List.getElem?_range hij, hN]; rfl
          obtain ⟨hc1, hc2⟩ := catL_cut ss hij hz (Nat.zero_le k) hks
          obtain ⟨hc3, _⟩ := catL_cut ss hij hz hks (Nat.le_refl _)
          rw [← hN] at hc1 hc2 hc3
          have facts : ∀ wx, HoldsR Rep w a (catL ss j) (.slice (some ⟨g, 0, none⟩) j cap) j (fromL ss j) wx → wx.cell? ⟨g, i, none⟩ = some (.int .i64 N) ∧ wx.cell? ⟨b, off + i, none⟩ = some (.string s) := by
            intro wx hx
            refine ⟨?_, (hx.below.cell (p := ⟨b, off + i, none⟩) hlt).trans hmz⟩
            obtain ⟨g', cap', e, _, _, _, _, hcl⟩ := own_open hx.row (by omega)
            cases e
            exact hcl i _ hrow
          have c1 : ∀ wx, HoldsR Rep w a (catL ss j) (.slice (some ⟨g, 0, none⟩) j cap) j (fromL ss j) wx → Calls Try.prog 11 #[.pointer (some a), .int .i64 N, .int .i64 k] wx fun e w' => e = .returned (.tuple #[.string (s.extract 0 k), .bool true]) ∧ Hid (HoldsR Rep w a (catL ss j) (.slice (some ⟨g, 0, none⟩) j cap) j (fromL ss j) w') := fun wx hx =>
            HoldsR.yes HS.out hx N k (by omega) (by omega) _ hc1
          have c2 : ∀ wx, (wx.cell? ⟨g, i, none⟩ = some (.int .i64 N) ∧ wx.cell? ⟨b, off + i, none⟩ = some (.string s) ∧ Hid (HoldsR Rep w a (catL ss j) (.slice (some ⟨g, 0, none⟩) j cap) j (fromL ss j) wx)) →
              Calls Try.prog 11 #[.pointer (some a), .int .i64 ((N : Int) + (k : Int)), .int .i64 ((s.size : Int) - (k : Int))] wx fun e w' => e = .returned (.tuple #[.string (s.extract k s.size), .bool true]) ∧ (w'.cell? ⟨g, i, none⟩ = some (.int .i64 N) ∧ w'.cell? ⟨b, off + i, none⟩ = some (.string s) ∧ Hid (HoldsR Rep w a (catL ss j) (.slice (some ⟨g, 0, none⟩) j cap) j (fromL ss j) w')) := by
            intro wx hx
            have e1 : ((N + k : Nat) : Int) = (N : Int) + (k : Int) := by omega
            have e2 : ((s.size - k : Nat) : Int) = (s.size : Int) - (k : Int) := by omega
            have := HoldsR.yes HS.out hx.2.2.out (N + k) (s.size - k) (by omega) (by omega) (s.extract k s.size) (by rw [show N + k + (s.size - k) = N + s.size by omega]; exact hc3)
            rw [e1, e2] at this
            refine this.mono ?_
            rintro e w' ⟨he, hh⟩
            exact ⟨he, (facts w' hh).1, (facts w' hh).2, hh⟩
          obtain ⟨m1, m2⟩ := facts wr HT.out
          have C1' := Lib.hid (c1 wr HT.out)
          have C2 := Lib.hid c2
          have FA := Lib.hid facts
          have HTW := Lib.hid (cut_two s k hks)
          have k0 : (0 : Int) ≤ k := by omega
          have ks : (k : Int) ≤ s.size := by omega
          have n0 : (0 : Int) ≤ N := by omega
          have n1' : (N : Int) ≤ 1000000 := by omega
          have i0 : (0 : Int) ≤ i := by omega
          have ij : (i : Int) < j := by omega
          have s0 : (s.size : Int) ≤ 200 := by omega
          have jz : ¬ (j : Int) = 0 := by omega
          clear c1 c2 facts hz hmz hk hi hc1 hc2 hc3 hrow hcells hN hz0 hss
          go_wp2_with fail
          refine (P1.out _).mono ?_
          rintro e w3 ⟨rfl, rfl⟩
          go_wp2_with fail
          refine (P2.out _).mono ?_
          rintro e w3 ⟨rfl, rfl⟩
          go_wp2_with fail
          refine (C1'.out).mono ?_
          rintro e w3 ⟨rfl, H3⟩
          obtain ⟨q1, q2⟩ := FA.out _ H3.out
          have hS : w3.drew.cell? ⟨g, i, none⟩ = some (.int .i64 N) ∧ w3.drew.cell? ⟨b, off + i, none⟩ = some (.string s) ∧ Hid (HoldsR Rep w a (catL ss j) (.slice (some ⟨g, 0, none⟩) j cap) j (fromL ss j) w3.drew) := ⟨q1, q2, HoldsR.drew HS.out H3.out⟩
          have HSS := Lib.hid hS
          have wr1 : IntKind.i64.wrap ((N : Int) + (k : Int)) = (N : Int) + (k : Int) := IntWalk.i64_in _ (by omega)
          have wr2 : IntKind.i64.wrap ((s.size : Int) - (k : Int)) = (s.size : Int) - (k : Int) := IntWalk.i64_in _ (by omega)
          clear m1 m2 hS q1 q2
          go_wp2_with fail
          go_region_held3 (fun wx => wx.cell? ⟨g, i, none⟩ = some (.int .i64 N) ∧ wx.cell? ⟨b, off + i, none⟩ = some (.string s) ∧ Hid (HoldsR Rep w a (catL ss j) (.slice (some ⟨g, 0, none⟩) j cap) j (fromL ss j) wx))
            (first | exact HSS.out | assumption)
            (first | (go_at_call 11; refine (C2.out _ (by assumption)).mono ?_; rintro e w5 ⟨rfl, hs5⟩))
          have hs5' : w5.cell? ⟨g, i, none⟩ = some (.int .i64 N) ∧ w5.cell? ⟨b, off + i, none⟩ = some (.string s) ∧ Hid (HoldsR Rep w a (catL ss j) (.slice (some ⟨g, 0, none⟩) j cap) j (fromL ss j) w5) := by assumption
          obtain ⟨_, z2, H5⟩ := hs5'
          have tw := HTW.out
          clear C2
          go_wp2_with fail
          refine (W8.out _).mono ?_
          rintro e w6 ⟨rfl, hb6⟩
          have HB := Lib.hid (H5.out.below.trans (hb6.mono H5.out.below.size))
          clear hb6
          go_wp2_with fail
          go_ret
          exact ⟨rfl, HB.out⟩
end Go.Proofs.Ytehgeeknjldjdaa
