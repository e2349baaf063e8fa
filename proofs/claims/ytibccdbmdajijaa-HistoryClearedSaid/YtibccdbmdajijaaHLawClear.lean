/- HistoryCleared out of what is asked of a history's calls. -/
import Derived.Test.YtibccdbmdajijaaHPlace
namespace Go.Proofs.Ytibccdbmdajijaa
open Go Go.RowKit
variable {R : (Nat → Prop) → World → Addr → Nat → List (List Ed) → List (List Ed) → Prop}

def gr1 (j : Nat) : List Ed := [⟨j, ⟨#[]⟩, ⟨#[]⟩⟩]
def up1 (n : Nat) : List (List Ed) := (List.range n).map gr1
def dn1 (hi n : Nat) : List (List Ed) := (List.range n).map fun j => gr1 (hi - 1 - j)
theorem up1_succ (n : Nat) : up1 (n + 1) = up1 n ++ [gr1 n] := by unfold up1; rw [List.range_succ, List.map_append]; rfl
theorem dn1_succ (hi n : Nat) : dn1 hi (n + 1) = dn1 hi n ++ [gr1 (hi - 1 - n)] := by unfold dn1; rw [List.range_succ, List.map_append]; rfl
theorem up1_len (n : Nat) : (up1 n).length = n := by unfold up1; rw [List.length_map, List.length_range]
theorem dn1_len (hi n : Nat) : (dn1 hi n).length = n := by unfold dn1; rw [List.length_map, List.length_range]
theorem up1_push (g : List Ed) (hg : g.length = 1) (i : Nat) (h : i < 20) : pushU 20 (up1 i) g = up1 i ++ [g] := by
  unfold pushU
  rw [if_neg (by omega), up1_len, show i + 1 - 20 = 0 by omega, List.drop_zero]

set_option maxRecDepth 100000 in
set_option maxHeartbeats 8000000 in
theorem clear_law (S : SaysH R) (x y : Int) (v : Bool) (w : World) :
    Calls Try.prog 5 #[.int .i64 x, .int .i64 y, .bool v] w fun e w' => e = .returned (.bool true) ∧ Below w.heap.size w w' := by
  have W7 := Lib.hid (awake_any S)
  obtain ⟨k, hk⟩ : ∃ k : Nat, x % 15 = k := ⟨(x % 15).toNat, by omega⟩
  have k1 : (k : Int) < 15 := by omega
  have k0 : (0 : Int) ≤ k := by omega
  have wk : IntKind.i64.wrap (1 + (k : Int)) = ((k + 1 : Nat) : Int) := by rw [IntWalk.i64_in _ (by omega)]; omega
  have CP := Lib.hid (fun wx => hk ▸ place_any x 15 wx (by omega) (by omega))
  clear hk
  obtain ⟨K, hK⟩ : ∃ K, K = k + 1 := ⟨_, rfl⟩
  rw [← hK] at wk
  have K1 : 1 ≤ (K : Int) ∧ (K : Int) ≤ 15 := by omega
  obtain ⟨j, hj⟩ : ∃ j : Nat, y % K = j := ⟨(y % K).toNat, by have := Int.emod_nonneg y (show (K : Int) ≠ 0 by omega); omega⟩
  have j1 : (j : Int) < K := by have := Int.emod_lt_of_pos y (show 0 < (K : Int) by omega); omega
  have j0 : (0 : Int) ≤ j := by omega
  have wj : IntKind.i64.wrap (1 + (j : Int)) = ((j + 1 : Nat) : Int) := by rw [IntWalk.i64_in _ (by omega)]; omega
  have CQ := Lib.hid (fun wx => hj ▸ place_any y K wx (by omega) (by omega))
  clear hj hK
  obtain ⟨J, hJ⟩ : ∃ J, J = j + 1 := ⟨_, rfl⟩
  rw [← hJ] at wj
  have J1 : 1 ≤ (J : Int) ∧ (J : Int) ≤ K := by omega
  clear hJ
  obtain ⟨K2, K3⟩ := K1
  obtain ⟨J2, J3⟩ := J1
  have HS := Lib.hid S
  have HF := Lib.hid S.firm
  have C1 := Lib.hid ((Two.start w w (Below.refl _ _)).new S Nil_.firm 20 (by omega) (by omega))
  rw [show cutD 20 = 20 by decide] at C1
  clear S
  go_enter Try.func5, Try.ntmps5
  go_wp2_with fail
  refine C1.out.mono ?_
  rintro e w1 ⟨a, rfl, H1, -⟩
  go_wp2_with fail
  refine (CP.out _).mono ?_
  rintro e wp ⟨rfl, rfl⟩
  go_wp2_with fail
  refine (CQ.out _).mono ?_
  rintro e wq ⟨rfl, rfl⟩
  clear CP CQ C1 k0 k1 j0 j1
  go_wp2_with fail
  go_loopw [10] (fun i wr => ∃ m : Nat, m ≤ K ∧ i = .int .i64 m ∧ Hid (Two R Nil_ w a 20 (up1 m) [] ⟨0, 0, none⟩ 0 [] [] (fun _ => False) wr)) (fun i _ => K - (RowKit.intOf i).toNat)
  case atStart => exact ⟨0, Nat.zero_le _, rfl, H1⟩
  case round =>
    obtain ⟨m, hm, rfl, HL⟩ := hrel
    have m0 : (0 : Int) ≤ m := by omega
    by_cases hmn : m < K
    · have mn : (m : Int) < K := by omega
      have H2 := Lib.hid (HL.out.add HF.out Nil_.firm (.cells #[.int .i64 m, .string ⟨#[]⟩, .string ⟨#[]⟩] /-t-/31))
      have hr := RowAt.lit wr (gr1 m) #[.int .i64 m, .string ⟨#[]⟩, .string ⟨#[]⟩] /-t-/31 rfl (show (1 : Nat) ≤ 1000 by omega)
      have C2 := Lib.hid (H2.out.push HS.out Nil_.firm hr (fun b h => .inr (by cases h; rfl)) (show (1 : Nat) ≤ 20 by omega))
      rw [up1_push _ rfl m (by omega), ← up1_succ] at C2
      have C3 := Lib.hid (show Calls Try.prog 11 #[.pointer (some a), .slice (some ⟨wr.heap.size, 0, none⟩) 1 1] (wr.alloc (.cells #[.int .i64 m, .string ⟨#[]⟩, .string ⟨#[]⟩] /-t-/31)) fun e w' => e = .returned (.tuple #[]) ∧ Hid (Two R Nil_ w a 20 (up1 (m + 1)) [] ⟨0, 0, none⟩ 0 [] [] (fun _ => False) w') from C2.out.mono fun e w' ⟨h1, h2, _⟩ => ⟨h1, Lib.hid (h2.out.less fun _ h => h.elim)⟩)
      clear hr H2 HL C2
      go_wp2_with fail
      refine C3.out.mono ?_
      rintro e w3 ⟨rfl, H3⟩
      go_wp2_with fail
      go_roundw
      case rel => exact ⟨m + 1, by omega, by go_num, H3⟩
      case measure => simp [RowKit.intOf]; omega
    · obtain rfl : m = K := by omega
      clear hm hmn
      go_wp2_with fail
      go_loopw [11] (fun i wr => ∃ p : Nat, p ≤ J ∧ i = .int .i64 p ∧ Hid (Two R Nil_ w a 20 (up1 (m - p)) (dn1 m p) ⟨0, 0, none⟩ 0 [] [] (fun _ => False) wr)) (fun i _ => J - (RowKit.intOf i).toNat)
      case atStart => exact ⟨0, Nat.zero_le _, rfl, HL⟩
      case round =>
        obtain ⟨p, hp, rfl, HM⟩ := hrel
        have p0 : (0 : Int) ≤ p := by omega
        by_cases hpm : p < J
        · have pm : (p : Int) < J := by omega
          obtain ⟨q, hq⟩ : ∃ q, m - p = q + 1 := ⟨m - p - 1, by omega⟩
          have hix : q = m - 1 - p := by omega
          have C4 := Lib.hid (show Calls Try.prog 13 #[.pointer (some a)] wr fun e w' => ∃ v, e = .returned v ∧ Hid (Two R Nil_ w a 20 (up1 (m - (p + 1))) (dn1 m (p + 1)) ⟨0, 0, none⟩ 0 [] [] (fun _ => False) w') from by
            have hx := HM.out
            rw [hq, up1_succ] at hx
            refine (hx.undo HS.out Nil_.firm).mono ?_
            rintro e w' ⟨v, he, _, h1, _⟩
            refine ⟨_, he, Lib.hid ?_⟩
            rw [show m - (p + 1) = q by omega, dn1_succ, ← hix]
            exact h1.out.less fun _ h => h.elim)
          clear HM hq hix
          go_wp2_with fail
          refine C4.out.mono ?_
          rintro e w4 ⟨v4, rfl, H4⟩
          go_wp2_with fail
          go_roundw
          case rel => exact ⟨p + 1, by omega, by go_num, H4⟩
          case measure => simp [RowKit.intOf]; omega
        · obtain rfl : p = J := by omega
          clear hp hpm HL
          obtain ⟨N, hN⟩ : ∃ N : Nat, N = m - p := ⟨_, rfl⟩
          have n0 : (m : Int) - p = N := by omega
          have wn : IntKind.i64.wrap (N : Int) = N := IntWalk.i64_in _ (by omega)
          rw [← hN] at HM
          have C5 := Lib.hid (show Calls Try.prog 18 #[.pointer (some a)] wr fun e w' => e = .returned (.tuple #[.int .i64 N, .int .i64 p]) ∧ Hid (Two R Nil_ w a 20 (up1 N) (dn1 m p) ⟨0, 0, none⟩ 0 [] [] (fun _ => False) w') from by
            refine (HM.out.len HS.out Nil_.firm).mono ?_
            rintro e w' ⟨he, h1, _⟩
            rw [up1_len, dn1_len] at he
            exact ⟨he, h1⟩)
          have HN := Lib.hid hN
          clear HM hN
          go_wp2_with fail
          refine C5.out.mono ?_
          rintro e w5 ⟨rfl, H5⟩
          clear C5
          cases v
          · have H6 := Lib.hid (H5.out.add HF.out Nil_.firm (.cells #[.int .i64 99, .string ⟨#[]⟩, .string ⟨#[]⟩] /-t-/31))
            have hr := RowAt.lit w5 (gr1 99) #[.int .i64 99, .string ⟨#[]⟩, .string ⟨#[]⟩] /-t-/31 rfl (show (1 : Nat) ≤ 1000 by omega)
            have C6 := Lib.hid (H6.out.push HS.out Nil_.firm hr (fun b h => .inr (by cases h; rfl)) (show (1 : Nat) ≤ 20 by omega))
            rw [up1_push _ rfl N (by omega), show pushR (dn1 m p) (gr1 99) = [] from if_neg (show ¬ (1 : Nat) = 0 by omega)] at C6
            have C7 := Lib.hid (show Calls Try.prog 11 #[.pointer (some a), .slice (some ⟨w5.heap.size, 0, none⟩) 1 1] (w5.alloc (.cells #[.int .i64 99, .string ⟨#[]⟩, .string ⟨#[]⟩] /-t-/31)) fun e w' => e = .returned (.tuple #[]) ∧ Hid (Two R Nil_ w a 20 (up1 N ++ [gr1 99]) [] ⟨0, 0, none⟩ 0 [] [] (fun _ => False) w') from C6.out.mono fun e w' ⟨h1, h2, _⟩ => ⟨h1, Lib.hid (h2.out.less fun _ h => h.elim)⟩)
            clear hr H6 H5 C6
            go_wp2_with fail
            refine C7.out.mono ?_
            rintro e w6 ⟨rfl, H6⟩
            have C8 := Lib.hid (H6.out.redo_no HS.out Nil_.firm)
            clear C7
            go_wp2_with fail
            refine C8.out.mono ?_
            rintro e w7 ⟨v7, rfl, -, H7, -⟩
            have C9 := Lib.hid ((H7.out.less (G' := fun _ => False) fun _ h => h.elim).undo HS.out Nil_.firm)
            clear C8 H6 H7
            go_wp2_with fail
            refine C9.out.mono ?_
            rintro e w8 ⟨v8, rfl, ho, H8, -⟩
            obtain ⟨g, cap, rfl, hlt, hn, hm, hc⟩ := own_open ho (show 0 < (gr1 99).length from by show 0 < 1; omega)
            have hn' : 1 ≤ (cap : Int) := by have : 1 ≤ cap := hn; omega
            have HC := Lib.hid (And.intro hlt (hc 0 (.int .i64 99) rfl))
            have C10 := Lib.hid (H8.out.len HS.out Nil_.firm)
            rw [up1_len] at C10
            clear C9 ho hlt hn hm hc H8
            go_wp2_with fail
            refine C10.out.mono ?_
            rintro e w9 ⟨rfl, H9, hk9⟩
            have hcell : w9.cell? ⟨g, 0, none⟩ = some (.int .i64 99) := by
              have hb := hk9.out.block g HC.out.1 (.inr rfl)
              have := HC.out.2
              unfold World.cell? at *
              simp only [hb]
              exact this
            clear C10 hk9
            go_wp2_with fail
            refine (W7.out _).mono ?_
            rintro e w10 ⟨rfl, hb10⟩
            have HB := Lib.hid (H9.out.below.trans (hb10.mono H9.out.below.size))
            clear hb10
            go_wp2_with fail
            go_ret
            exact ⟨rfl, HB.out⟩
          · have C6 := Lib.hid (H5.out.push HS.out Nil_.firm (RowAt.nil w5) (fun b h => by cases h) (show (0 : Nat) ≤ 20 by omega))
            rw [show pushU 20 (up1 N) [] = up1 N from if_pos rfl, show pushR (dn1 m p) [] = dn1 m p from if_pos rfl] at C6
            clear H5
            go_wp2_with fail
            refine C6.out.mono ?_
            rintro e w6 ⟨rfl, H6, -⟩
            obtain ⟨r, hr⟩ : ∃ r, p = r + 1 := ⟨p - 1, by omega⟩
            have hx := H6.out
            rw [hr, dn1_succ, show m - 1 - r = N by have := HN.out; omega] at hx
            have C7 := Lib.hid (hx.redo HS.out Nil_.firm)
            clear hx hr H6 C6
            go_wp2_with fail
            refine C7.out.mono ?_
            rintro e w7 ⟨v7, rfl, ho, H7, -⟩
            obtain ⟨g, cap, rfl, hlt, hn, hm, hc⟩ := own_open ho (show 0 < (gr1 N).length from by show 0 < 1; omega)
            have hn' : 1 ≤ (cap : Int) := by have : 1 ≤ cap := hn; omega
            have hcell := hc 0 (.int .i64 N) rfl
            clear ho hlt hn hm hc C7
            go_wp2_with fail
            refine (W7.out _).mono ?_
            rintro e w10 ⟨rfl, hb10⟩
            have HB := Lib.hid (H7.out.below.trans (hb10.mono H7.out.below.size))
            clear hb10
            go_wp2_with fail
            go_ret
            exact ⟨rfl, HB.out⟩
end Go.Proofs.Ytibccdbmdajijaa
