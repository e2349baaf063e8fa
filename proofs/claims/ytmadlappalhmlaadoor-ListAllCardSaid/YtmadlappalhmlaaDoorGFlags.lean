/- The landed isLetter, flagsOf by contract. -/
import Derived.Test.YtmadlappalhmlaaDoorGCut
import Derived.Laws.IdiomStrings
namespace Go.Proofs.YtmadlappalhmlaaDoor
open Go Go.RowKit Go.Lib

/-- What flagsOf answers. -/
def FlagAns (B : Nat) (fs : List UInt8) (e : Ending) (w' : World) : Prop :=
  ∃ A n c b, e = .returned (.tuple #[.slice A n c, .bool b]) ∧ b = (decide (fs ≠ []) && (flagsL [] fs).isSome) ∧ ∀ f, fs ≠ [] → flagsL [] fs = some f → n = f.length ∧ w'.ownsRow B 3 1 (.slice A n c) n (f.map (Value.int .i64))

set_option maxRecDepth 100000 in
set_option maxHeartbeats 1000000 in
theorem gletter_any (w : World) (x : Nat) :
    Calls Tryd.prog 41 #[.int .i64 x] w fun e w' => e = .returned (.bool (decide ((97 ≤ x ∧ x ≤ 122) ∨ (65 ≤ x ∧ x ≤ 90)))) ∧ w' = w := by
  by_cases c1 : 97 ≤ x
  · have d1 : (97 : Int) ≤ x := by omega
    by_cases c2 : x ≤ 122
    · have d2 : (x : Int) ≤ 122 := by omega
      rw [decide_eq_true (by omega : (97 ≤ x ∧ x ≤ 122) ∨ (65 ≤ x ∧ x ≤ 90))]
      go_enter Tryd.func41, Tryd.ntmps41
      go_wp2_with fail
      go_ret
      exact ⟨rfl, rfl⟩
    · have d2 : ¬ (x : Int) ≤ 122 := by omega
      have d3 : (65 : Int) ≤ x := by omega
      have d4 : ¬ (x : Int) ≤ 90 := by omega
      rw [decide_eq_false (by omega : ¬ ((97 ≤ x ∧ x ≤ 122) ∨ (65 ≤ x ∧ x ≤ 90)))]
      go_enter Tryd.func41, Tryd.ntmps41
      go_wp2_with fail
      go_ret
      exact ⟨rfl, rfl⟩
  · have d1 : ¬ (97 : Int) ≤ x := by omega
    by_cases c3 : 65 ≤ x
    · have d3 : (65 : Int) ≤ x := by omega
      by_cases c4 : x ≤ 90
      · have d4 : (x : Int) ≤ 90 := by omega
        rw [decide_eq_true (by omega : (97 ≤ x ∧ x ≤ 122) ∨ (65 ≤ x ∧ x ≤ 90))]
        go_enter Tryd.func41, Tryd.ntmps41
        go_wp2_with fail
        go_ret
        exact ⟨rfl, rfl⟩
      · have d4 : ¬ (x : Int) ≤ 90 := by omega
        rw [decide_eq_false (by omega : ¬ ((97 ≤ x ∧ x ≤ 122) ∨ (65 ≤ x ∧ x ≤ 90)))]
        go_enter Tryd.func41, Tryd.ntmps41
        go_wp2_with fail
        go_ret
        exact ⟨rfl, rfl⟩
    · have d3 : ¬ (65 : Int) ≤ x := by omega
      rw [decide_eq_false (by omega : ¬ ((97 ≤ x ∧ x ≤ 122) ∨ (65 ≤ x ∧ x ≤ 90)))]
      go_enter Tryd.func41, Tryd.ntmps41
      go_wp2_with fail
      go_ret
      exact ⟨rfl, rfl⟩

theorem flagsL_land (acc : List Int) (b : UInt8) (r : List UInt8) (x : Nat) (hx : b.toNat = x) : flagsL acc (b :: r) = if decide ((97 ≤ x ∧ x ≤ 122) ∨ (65 ≤ x ∧ x ≤ 90)) = true ∧ acc.contains (x : Int) = false then flagsL (acc ++ [(x : Int)]) r else none := by
  subst hx
  show (if isLet b = true ∧ (b.toNat : Int) ∉ acc then _ else _) = _
  have h : (isLet b = true ∧ (b.toNat : Int) ∉ acc) ↔ (decide ((97 ≤ b.toNat ∧ b.toNat ≤ 122) ∨ (65 ≤ b.toNat ∧ b.toNat ≤ 90)) = true ∧ acc.contains (b.toNat : Int) = false) := by
    unfold isLet
    rw [Bool.eq_false_iff, ne_eq, List.contains_iff_mem]
  by_cases hc : isLet b = true ∧ (b.toNat : Int) ∉ acc
  · rw [if_pos hc, if_pos (h.1 hc)]
  · rw [if_neg hc, if_neg (fun e => hc (h.2 e))]

set_option maxRecDepth 100000 in
set_option maxHeartbeats 2000000 in
theorem gflags_any (w : World) (s : ByteArray) (hs : s.size ≤ 1000000000) :
    Calls Tryd.prog 31 #[.string s] w fun e w' => FlagAns w.heap.size s.data.toList e w' ∧ Below w.heap.size w w' := by
  have hsl : s.data.toList.length = s.size := (Lib.size_eq s).symm
  obtain ⟨fs, hL⟩ : ∃ L, L = s.data.toList := ⟨_, rfl⟩
  obtain ⟨n, hn⟩ : ∃ n, n = s.size := ⟨_, rfl⟩
  obtain ⟨C, hC⟩ : ∃ C, C = grownCap w s.size 0 5 := ⟨_, rfl⟩
  have hcv := run_bytes_of_string (P := Tryd.prog) w 9 38 5 s Tryd.underlying9 Tryd.underlying38 Tryd.underlying5
  rw [← hC, ← hn] at hcv
  obtain ⟨W1, hW1⟩ : ∃ W1, W1 = (w.drew.alloc (.cells (bytesRow s C) 5 ((bytesRow s C).size, (bytesRow s C).size + 1))) := ⟨_, rfl⟩
  rw [← hW1] at hcv
  have hb1 : Below w.heap.size w W1 := by rw [hW1]; exact (Below.refl _ _).drew.alloc (Nat.le_refl _) _
  have hsz : W1.heap.size = w.heap.size + 1 := by rw [hW1, World.size_alloc]; rfl
  have hblk : W1.heap[w.heap.size]? = some (.cells (bytesRow s C) 5 ((bytesRow s C).size, (bytesRow s C).size + 1)) := by rw [hW1]; exact World.alloc_heap_new w.drew _
  have hat : ∀ (wx : World), wx.heap[w.heap.size]? = W1.heap[w.heap.size]? → ∀ j c, fs[j]? = some c → wx.cell? ⟨w.heap.size, j, none⟩ = some (.int .u8 (c.toNat : Int)) := fun wx hwx j c hc => by
    rw [hblk] at hwx
    rw [cell_of_row _ w.heap.size j _ _ _ hwx]
    rw [hL] at hc
    have hj : j < s.data.size := by
      have := (List.getElem?_eq_some_iff.1 hc).1
      simpa using this
    rw [bytesRow_at s C j hj]
    have h2 : s.data.toList[j]? = s.data[j]? := Array.getElem?_toList
    rw [hc, Array.getElem?_eq_getElem hj] at h2
    rw [← Option.some.inj h2]
  rw [← hL] at hsl ⊢
  have HAT := Lib.hid hat
  have HS1 := Lib.hid (And.intro hb1 hsz)
  have HN := Lib.hid (show n = fs.length by rw [hn, hsl])
  have hnb : n ≤ 1000000000 := by omega
  obtain ⟨i1, hi1, hz10, hz11, hz12⟩ := info_parts Tryd.infosY3
  clear hL hsl hn hC hW1 hb1 hsz hblk hat hs
  go_enter Tryd.func31, Tryd.ntmps31
  go_wp2_with fail
  go_loopg [4, 6, 7, 11] n (fun g fv _ _ i wr => ∃ (k : Nat) (acc : List Int), k + g = n ∧ i = .int .i64 k ∧ Hid (wr.ownsRow (w.heap.size + 1) 3 1 fv acc.length (acc.map (Value.int .i64)) ∧ flagsL [] fs = flagsL acc (fs.drop k) ∧ acc.length = k ∧ Below w.heap.size w wr ∧ wr.heap[w.heap.size]? = W1.heap[w.heap.size]? ∧ w.heap.size + 1 ≤ wr.heap.size))
  case atStart => exact ⟨0, [], by omega, rfl, Lib.hid ⟨World.ownsRow_nil _ _ _ _, rfl, rfl, HS1.out.1, rfl, by rw [HS1.out.2]; exact Nat.le_refl _⟩⟩
  case round =>
    obtain ⟨k, acc, hk, rfl, HK⟩ := hrel
    have hk0 : (0 : Int) ≤ k := by omega
    obtain ⟨A, cap, rfl⟩ := own_shape HK.out.1
    rcases Nat.eq_zero_or_pos gk with h0 | h0
    · obtain rfl : k = n := by omega
      have hkn : ¬ (k : Int) < k := by omega
      have HF := Lib.hid (show flagsL [] fs = some acc by rw [HK.out.2.1, List.drop_of_length_le (by have := HN.out; omega)]; rfl)
      have HROW := Lib.hid (own_less HK.out.1 (Nat.le_succ w.heap.size))
      have HB := Lib.hid HK.out.2.2.2.1
      have hal := HK.out.2.2.1
      rw [hal] at HROW ⊢
      have HAL := Lib.hid hal
      clear HK hal
      by_cases hz : k = 0
      · subst hz
        have hfs : fs = [] := List.eq_nil_of_length_eq_zero HN.out.symm
        have HR := Lib.hid hfs
        clear hfs
        go_wp2_with fail
        go_ret2
        exact ⟨⟨A, 0, cap, false, rfl, by rw [HR.out]; rfl, fun f hf => absurd HR.out hf⟩, HB.out⟩
      · have hk1 : (0 : Int) < k := by omega
        have HNE := Lib.hid (show fs ≠ [] by
          intro e
          have := HN.out
          rw [e] at this
          exact hz this)
        clear hz
        go_wp2_with fail
        go_ret2
        exact ⟨⟨A, k, cap, decide (0 < k), rfl, by rw [decide_eq_true HNE.out, HF.out, decide_eq_true (by omega : 0 < k)]; rfl, fun f _ he => by
          rw [HF.out] at he
          obtain rfl := Option.some.inj he
          exact ⟨HAL.out.symm, HROW.out⟩⟩, HB.out⟩
    · have hkn : (k : Int) < n := by omega
      obtain ⟨c, hc⟩ : ∃ c, fs[k]? = some c := ⟨_, List.getElem?_eq_getElem (by have := HN.out; omega)⟩
      have x0 := HAT.out wr HK.out.2.2.2.2.1 k c hc
      obtain ⟨x, hx⟩ : ∃ x, x = c.toNat := ⟨_, rfl⟩
      rw [← hx] at x0
      have hx256 : x < 256 := by rw [hx]; exact c.toNat_lt
      have HST := Lib.hid (show flagsL [] fs = if decide ((97 ≤ x ∧ x ≤ 122) ∨ (65 ≤ x ∧ x ≤ 90)) = true ∧ acc.contains (x : Int) = false then flagsL (acc ++ [(x : Int)]) (fs.drop (k + 1)) else none by
        obtain ⟨h1, h2⟩ := List.getElem?_eq_some_iff.1 hc
        rw [HK.out.2.1, List.drop_eq_getElem_cons h1, h2, flagsL_land _ _ _ x hx.symm])
      have HNE := Lib.hid (show fs ≠ [] by rintro rfl; simp at hc)
      have CL := Lib.hid (fun wx => gletter_any wx x)
      have CC := Lib.hid (contains_any wr _ acc (x : Int) (ints_own HK.out.1))
      have hal := HK.out.2.2.1
      rw [hal] at CC
      have HROW := Lib.hid (show (wr.alloc (.cells #[.int .i64 x] 3)).ownsRow (w.heap.size + 1) 3 1 (.slice A k cap) k (acc.map (Value.int .i64)) from by
        have := HK.out.1.alloc (.cells #[.int .i64 x] 3)
        rwa [hal] at this)
      rw [hal]
      have HAL := Lib.hid hal
      obtain ⟨lt, hlt⟩ : ∃ b, b = decide ((97 ≤ x ∧ x ≤ 122) ∨ (65 ≤ x ∧ x ≤ 90)) := ⟨_, rfl⟩
      obtain ⟨ct, hct⟩ : ∃ b, b = acc.contains (x : Int) := ⟨_, rfl⟩
      rw [← hlt, ← hct] at HST
      rw [← hlt] at CL
      rw [← hct] at CC
      clear hc hx hal hlt hct
      have hxm : IntKind.i64.wrap (x : Int) = x := IntWalk.i64_in _ (by omega)
      cases lt with
      | false =>
        have HZ := Lib.hid (show flagsL [] fs = none by rw [HST.out, if_neg (by simp)])
        have HB := Lib.hid HK.out.2.2.2.1
        go_wp2_with (go_at_call 41; refine (CL.out _).mono ?_; rintro e w1 ⟨rfl, hw⟩; have hw2 := hw.symm; clear hw; subst hw2)
        go_ret2
        exact ⟨⟨none, 0, 0, false, rfl, by rw [HZ.out]; simp, fun f _ he => by rw [HZ.out] at he; cases he⟩, HB.out⟩
      | true =>
        cases ct with
        | true =>
          have HZ := Lib.hid (show flagsL [] fs = none by rw [HST.out, if_neg (by simp)])
          have HB := Lib.hid HK.out.2.2.2.1
          go_wp2_with (first
            | (go_at_call 41; refine (CL.out _).mono ?_; rintro e w1 ⟨rfl, hw⟩; have hw2 := hw.symm; clear hw; subst hw2)
            | (go_at_call 42; refine CC.out.mono ?_; rintro e w1 ⟨rfl, hw⟩; have hw2 := hw.symm; clear hw; subst hw2))
          go_ret2
          exact ⟨⟨none, 0, 0, false, rfl, by rw [HZ.out]; simp, fun f _ he => by rw [HZ.out] at he; cases he⟩, HB.out⟩
        | false =>
          have HST2 := Lib.hid (show flagsL [] fs = flagsL (acc ++ [(x : Int)]) (fs.drop (k + 1)) by rw [HST.out, if_pos ⟨rfl, rfl⟩])
          clear HST
          go_wp2_with (first
            | (go_at_call 41; refine (CL.out _).mono ?_; rintro e w1 ⟨rfl, hw⟩; have hw2 := hw.symm; clear hw; subst hw2)
            | (go_at_call 42; refine CC.out.mono ?_; rintro e w1 ⟨rfl, hw⟩; have hw2 := hw.symm; clear hw; subst hw2)
            | (at_builtin; refine wpList_append_where _ rfl _ _ 31 rfl (w.heap.size + 1) 3 i1 (.int .i64 0) 1 8 Tryd.underlying31 hi1 hz10 hz11 hz12 rfl (by decide) (.slice A k cap) k (acc.map (Value.int .i64)) rfl HROW.out ⟨wr.heap.size, 0, none⟩ 1 1 [.int .i64 x] rfl rfl (news_row _ _ _) (int_oneY x) (by unfold maxLen; omega) (by omega) (by have := HK.out.2.2.2.2.2; rw [World.size_alloc]; omega) ?_))
          intro v' w4 hown4 hgrow4 _
          have hlo : ∀ g, (Value.slice A k cap).ownBlock = some g → w.heap.size + 1 ≤ g := fun g hg => (HROW.out.lt g hg).1
          have HK4 := Lib.hid (show w4.ownsRow (w.heap.size + 1) 3 1 v' (acc ++ [(x : Int)]).length ((acc ++ [(x : Int)]).map (Value.int .i64)) ∧ flagsL [] fs = flagsL (acc ++ [(x : Int)]) (fs.drop (k + 1)) ∧ (acc ++ [(x : Int)]).length = k + 1 ∧ Below w.heap.size w w4 ∧ w4.heap[w.heap.size]? = W1.heap[w.heap.size]? ∧ w.heap.size + 1 ≤ w4.heap.size from by
            have hlen : (acc ++ [(x : Int)]).length = k + 1 := by rw [List.length_append, HAL.out]; rfl
            have hsz := HK.out.2.2.2.2.2
            refine ⟨by rw [hlen, List.map_append]; exact hown4, HST2.out, hlen, ?_, ?_, ?_⟩
            · have hba := HK.out.2.2.2.1.alloc HK.out.2.2.2.1.size (.cells #[.int .i64 x] 3)
              exact hba.grown hgrow4 hba.size (fun g hg => by have := hlo g hg; omega)
            · exact (hgrow4.block w.heap.size (by rw [World.size_alloc]; omega) (fun e => by have := hlo _ e.symm; omega)).trans ((Below.heap_alloc _ _ _ (by omega)).trans HK.out.2.2.2.2.1)
            · have := hgrow4.size
              rw [World.size_alloc] at this
              omega)
          clear hown4 hgrow4 hlo x0
          go_wp2_with fail
          go_roundg (gk - 1)
          case measure => omega
          case rel => exact ⟨k + 1, _, by omega, by go_num, HK4⟩
end Go.Proofs.YtmadlappalhmlaaDoor
