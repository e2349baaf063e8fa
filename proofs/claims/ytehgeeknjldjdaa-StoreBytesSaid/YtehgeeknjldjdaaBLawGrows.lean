/- StoreGrows out of what is asked of a store's calls. -/
import Derived.Test.YtehgeeknjldjdaaBLaws
namespace Go.Proofs.Ytehgeeknjldjdaa
open Go Go.RowKit

variable {Rep : (Nat → Prop) → World → Addr → ByteArray → Prop}

/-- A slice of strings as it reads in w. -/
def Strs (w : World) (A : Option Addr) (n cap : Nat) (ss : List ByteArray) : Prop :=
  ss.length = n ∧ n ≤ cap ∧ cap ≤ maxLen ∧ ∀ (i : Nat) (s : ByteArray), ss[i]? = some s → (∃ b off, A = some ⟨b, off, none⟩ ∧ b < w.heap.size ∧ w.cell? ⟨b, off + i, none⟩ = some (.string s)) ∧ s.size ≤ 9223372036854775807

theorem cut_list (s : ByteArray) (i j : Nat) : (s.extract i j).data.toList = (s.data.toList.drop i).take (j - i) := by
  rw [ByteArray.data_extract, Array.toList_extract]
theorem bytes_ext {s t : ByteArray} (h : s.data.toList = t.data.toList) : s = t := ByteArray.ext (Array.ext' h)
theorem cut_append {s t : ByteArray} {i j : Nat} (h : j ≤ s.size) : (s ++ t).extract i j = s.extract i j := by
  apply bytes_ext
  have hl : s.data.toList.length = s.size := by simp
  rw [cut_list, cut_list, ByteArray.data_append, Array.toList_append]
  by_cases hi : i ≤ s.size
  · rw [List.drop_append_of_le_length (by omega), List.take_append_of_le_length (by rw [List.length_drop]; omega)]
  · rw [show j - i = 0 by omega, List.take_zero, List.take_zero]

set_option maxRecDepth 100000 in
set_option maxHeartbeats 8000000 in
theorem grows_law (S : Says Rep) (f : ByteArray) (A : Option Addr) (n1 cap1 : Nat) (ss : List ByteArray) (at_ n : Int) (w : World) (hm : f.size ≤ 9223372036854775807) (hl : Strs w A n1 cap1 ss) :
    Calls Try.prog 3 #[.string f, .slice A n1 cap1, .int .i64 at_, .int .i64 n] w fun e w' => e = .returned (.bool true) ∧ Below w.heap.size w w' := by
  have W8 := Lib.hid (awake_any S)
  obtain ⟨g1, g2, g3, hc⟩ := hl
  unfold maxLen at g3
  by_cases hbig : 500 < f.size ∨ 40 < n1
  · have hcs : 500 < f.size ∨ (f.size ≤ 500 ∧ 40 < n1) := by omega
    clear S hbig hc g1
    rcases hcs with h1 | ⟨h1, h2⟩
    all_goals
      go_enter Try.func3, Try.ntmps3
      go_wp2_with (go_at_call 7; refine (W8.out _).mono ?_; rintro e w1 ⟨rfl, hb1⟩)
      go_ret
      exact ⟨rfl, hb1⟩
  · have hs : f.size ≤ 500 := by omega
    have hn : n1 ≤ 40 := by omega
    obtain ⟨q, hq⟩ : ∃ q : Nat, (q : Int) = at_ % ((f.size : Int) + 1) := ⟨(at_ % ((f.size : Int) + 1)).toNat, by have := Int.emod_nonneg at_ (show (f.size : Int) + 1 ≠ 0 by omega); omega⟩
    have hqf : q ≤ f.size := by have := Int.emod_lt_of_pos at_ (show (0 : Int) < (f.size : Int) + 1 by omega); omega
    obtain ⟨r, hr⟩ : ∃ r : Nat, (r : Int) = n % ((f.size : Int) - q + 1) := ⟨(n % ((f.size : Int) - q + 1)).toNat, by have := Int.emod_nonneg n (show (f.size : Int) - q + 1 ≠ 0 by omega); omega⟩
    have hrf : q + r ≤ f.size := by have := Int.emod_lt_of_pos n (show (0 : Int) < (f.size : Int) - q + 1 by omega); omega
    have P1 := Lib.hid (fun wx => place_any at_ ((f.size : Int) + 1) wx (by omega) (by omega))
    have P2 := Lib.hid (fun wx => place_any n ((f.size : Int) - q + 1) wx (by omega) (by omega))
    rw [← hq] at P1
    rw [← hr] at P2
    have PA := Lib.hid place_any
    have C1 := Lib.hid (S.new w f (by omega))
    have HS := Lib.hid S
    have HC := Lib.hid hc
    have HN := Lib.hid g1
    have q0 : (0 : Int) ≤ q := by omega
    have r0 : (0 : Int) ≤ r := by omega
    have qr : (q : Int) + r ≤ f.size := by omega
    have f5 : (f.size : Int) ≤ 500 := by omega
    have e1 : ((q : Int) + (r : Int)).toNat = q + r := by omega
    clear S hc g1 hq hr hbig
    go_enter Try.func3, Try.ntmps3
    go_wp2_with fail
    refine (C1.out).mono ?_
    rintro e w1 ⟨a, F, rfl, hr1, ho1, hf1⟩
    have H1 := Lib.hid (Holds.new hr1 ho1 hf1)
    clear hr1 ho1 hf1
    go_wp2_with fail
    refine (P1.out _).mono ?_
    rintro e w2 ⟨rfl, rfl⟩
    go_wp2_with fail
    refine (P2.out _).mono ?_
    rintro e w2 ⟨rfl, rfl⟩
    go_wp2_with fail
    go_loopw [10, 13] (fun s i wr => ∃ (j : Nat) (T : ByteArray), j ≤ n1 ∧ i = .int .i64 j ∧ s = .string T ∧ Hid (f.size ≤ T.size ∧ T.size ≤ 500 + 200 * j ∧ T.extract q (q + r) = f.extract q (q + r)) ∧ Hid (Holds Rep w a T wr)) (fun _ i _ => n1 - (RowKit.intOf i).toNat)
    case atStart => exact ⟨0, f, Nat.zero_le _, rfl, rfl, ⟨Nat.le_refl _, by omega, rfl⟩, H1⟩
    case round =>
      obtain ⟨j, T, hj, rfl, rfl, HTe, HT⟩ := hrel
      have j0 : (0 : Int) ≤ j := by omega
      have t1 := HTe.out.1
      have t2 : T.size ≤ 9000 := by have := HTe.out.2.1; omega
      by_cases hjn : j < n1
      · obtain ⟨s, hz⟩ : ∃ s, ss[j]? = some s := ⟨_, List.getElem?_eq_getElem (by rw [HN.out]; exact hjn)⟩
        obtain ⟨⟨b, off, rfl, hlt, hmz⟩, hss⟩ := HC.out j s hz
        have m0 := (HT.out.2.cell (p := ⟨b, off + j, none⟩) hlt).trans hmz
        have HM := Lib.hid hmz
        have jn : (j : Int) < n1 := by omega
        clear hz hmz
        by_cases h200 : 200 < s.size
        · go_wp2_with fail
          refine (W8.out _).mono ?_
          rintro e w3 ⟨rfl, hb3⟩
          have HB := Lib.hid (HT.out.2.trans (hb3.mono HT.out.2.size))
          clear hb3
          go_wp2_with fail
          go_ret
          exact ⟨rfl, HB.out⟩
        · have h2 : s.size ≤ 200 := by omega
          have hsz : (T ++ s).size = T.size + s.size := ByteArray.size_append
          have CA := Lib.hid (Holds.add HS.out HT.out s (by omega))
          have hex : (T ++ s).extract q (q + r) = f.extract q (q + r) := by rw [cut_append (by omega)]; exact HTe.out.2.2
          have CS := Lib.hid (show ∀ wx, Holds Rep w a (T ++ s) wx → Calls Try.prog 11 #[.pointer (some a), .int .i64 q, .int .i64 r] wx fun e w' => e = .returned (.tuple #[.string (f.extract q (q + r)), .bool true]) ∧ Hid (Holds Rep w a (T ++ s) w') from fun wx hx =>
            Holds.yes HS.out hx q r (by omega) (by omega) _ hex)
          have CL := Lib.hid (show ∀ wx, Holds Rep w a (T ++ s) wx → Calls Try.prog 12 #[.pointer (some a)] wx fun e w' => e = .returned (.int .i64 ((T.size : Int) + (s.size : Int))) ∧ Hid (Holds Rep w a (T ++ s) w') from fun wx hx => by
            have := Holds.len HS.out hx (by omega)
            rw [hsz] at this
            simpa using this)
          have HE := Lib.hid (show f.size ≤ (T ++ s).size ∧ (T ++ s).size ≤ 500 + 200 * (j + 1) ∧ (T ++ s).extract q (q + r) = f.extract q (q + r) from ⟨by omega, by have := HTe.out.2.1; omega, hex⟩)
          clear h200 hex hsz
          go_wp2_with fail
          refine (CA.out).mono ?_
          rintro e w3 ⟨rfl, H3⟩
          have m3 := (H3.out.2.cell (p := ⟨b, off + j, none⟩) hlt).trans HM.out
          go_wp2_with fail
          refine (CS.out _ H3.out).mono ?_
          rintro e w4 ⟨rfl, H4⟩
          go_wp2_with fail
          refine (CL.out _ H4.out).mono ?_
          rintro e w5 ⟨rfl, H5⟩
          go_wp2_with fail
          go_roundw
          case rel => exact ⟨j + 1, T ++ s, by omega, by go_num, rfl, HE.out, H5⟩
          case measure => simp [RowKit.intOf]; omega
      · obtain rfl : j = n1 := by omega
        obtain ⟨k, hk⟩ : ∃ k : Nat, (k : Int) = at_ % ((T.size : Int) + 1) := ⟨(at_ % ((T.size : Int) + 1)).toNat, by have := Int.emod_nonneg at_ (show (T.size : Int) + 1 ≠ 0 by omega); omega⟩
        have hkT : k ≤ T.size := by have := Int.emod_lt_of_pos at_ (show (0 : Int) < (T.size : Int) + 1 by omega); omega
        obtain ⟨m, hm2⟩ : ∃ m : Nat, (m : Int) = n % ((T.size : Int) - k + 1) := ⟨(n % ((T.size : Int) - k + 1)).toNat, by have := Int.emod_nonneg n (show (T.size : Int) - k + 1 ≠ 0 by omega); omega⟩
        have hmT : k + m ≤ T.size := by have := Int.emod_lt_of_pos n (show (0 : Int) < (T.size : Int) - k + 1 by omega); omega
        have P3 := Lib.hid (fun wx => PA.out at_ ((T.size : Int) + 1) wx (by omega) (by omega))
        have P4 := Lib.hid (fun wx => PA.out n ((T.size : Int) - k + 1) wx (by omega) (by omega))
        rw [← hk] at P3
        rw [← hm2] at P4
        have CS := Lib.hid (Holds.yes HS.out HT.out k m hmT (by omega) _ rfl)
        have k0 : (0 : Int) ≤ k := by omega
        have m0 : (0 : Int) ≤ m := by omega
        have km : (k : Int) + m ≤ T.size := by omega
        have t9 : (T.size : Int) ≤ 9000 := by omega
        have e2 : ((k : Int) + (m : Int)).toNat = k + m := by omega
        clear hk hm2 hj hjn
        go_wp2_with fail
        refine (P3.out _).mono ?_
        rintro e w2 ⟨rfl, rfl⟩
        go_wp2_with fail
        refine (P4.out _).mono ?_
        rintro e w2 ⟨rfl, rfl⟩
        go_wp2_with fail
        refine (CS.out).mono ?_
        rintro e w3 ⟨rfl, H3⟩
        go_wp2_with fail
        refine (W8.out _).mono ?_
        rintro e w4 ⟨rfl, hb4⟩
        have HB := Lib.hid (H3.out.2.trans (hb4.mono H3.out.2.size))
        clear hb4
        go_wp2_with fail
        go_ret
        exact ⟨rfl, HB.out⟩
end Go.Proofs.Ytehgeeknjldjdaa
