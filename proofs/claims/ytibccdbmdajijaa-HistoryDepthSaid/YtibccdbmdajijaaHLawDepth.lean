/- HistoryDepth out of what is asked of a history's calls. -/
import Derived.Test.YtibccdbmdajijaaHPlace
import Derived.Deep.DeepCutAuto
import Derived.Deep.LoopGhost
namespace Go.Proofs.Ytibccdbmdajijaa
open Go Go.RowKit
variable {R : (Nat → Prop) → World → Addr → Nat → List (List Ed) → List (List Ed) → Prop}

/-- The law's group of a number; so many of them from one on; and back. -/
def grp (j : Nat) : List Ed := [⟨j, ⟨#[]⟩, ⟨#[]⟩⟩, ⟨j, ⟨#[]⟩, ⟨#[121]⟩⟩]
def ups (lo n : Nat) : List (List Ed) := (List.range n).map fun j => grp (lo + j)
def downs (hi n : Nat) : List (List Ed) := (List.range n).map fun j => grp (hi - 1 - j)
theorem ups_succ (lo n : Nat) : ups lo (n + 1) = ups lo n ++ [grp (lo + n)] := by unfold ups; rw [List.range_succ, List.map_append]; rfl
theorem downs_succ (hi n : Nat) : downs hi (n + 1) = downs hi n ++ [grp (hi - 1 - n)] := by unfold downs; rw [List.range_succ, List.map_append]; rfl
theorem ups_drop (lo n : Nat) : (ups lo (n + 1)).drop 1 = ups (lo + 1) n := by
  unfold ups
  rw [List.range_succ_eq_map, List.map_cons, List.drop_succ_cons, List.drop_zero, List.map_map]
  apply List.map_congr_left
  intro j _
  show grp (lo + (j + 1)) = grp (lo + 1 + j)
  rw [show lo + (j + 1) = lo + 1 + j by omega]
theorem ups_push (D i : Nat) : pushU D (ups (i - min i D) (min i D)) (grp i) = ups (i + 1 - min (i + 1) D) (min (i + 1) D) := by
  have hl : (ups (i - min i D) (min i D)).length = min i D := by unfold ups; rw [List.length_map, List.length_range]
  have h2 : ¬ (grp i).length = 0 := by show ¬ (2 : Nat) = 0; omega
  unfold pushU
  rw [if_neg h2, hl]
  rcases Nat.lt_or_ge i D with h | h
  · rw [show min i D = i by omega, show min (i + 1) D = i + 1 by omega, show i + 1 - D = 0 by omega, List.drop_zero, Nat.sub_self, Nat.sub_self, ups_succ, Nat.zero_add]
  · rw [show min i D = D by omega, show min (i + 1) D = D by omega, show D + 1 - D = 1 by omega]
    have := ups_succ (i - D) D
    rw [show i - D + D = i by omega] at this
    rw [← this, ups_drop, show i - D + 1 = i + 1 - D by omega]

theorem int_eq {a b : Int} (h : a = b) : Value.int .i64 a = .int .i64 b := by rw [h]

set_option maxRecDepth 100000 in
set_option maxHeartbeats 8000000 in
theorem depth_law (S : SaysH R) (x y : Int) (w : World) :
    Calls Try.prog 4 #[.int .i64 x, .int .i64 y] w fun e w' => e = .returned (.bool true) ∧ Below w.heap.size w w' := by
  have W7 := Lib.hid (awake_any S)
  obtain ⟨d, hd⟩ : ∃ d : Nat, x % 70 = d := ⟨(x % 70).toNat, by omega⟩
  obtain ⟨K, hK⟩ : ∃ K : Nat, y % 120 = K := ⟨(y % 120).toNat, by omega⟩
  have d1 : (d : Int) < 70 := by omega
  have k1 : (K : Int) < 120 := by omega
  have CP := Lib.hid (fun wx => hd ▸ place_any x 70 wx (by omega) (by omega))
  have CQ := Lib.hid (fun wx => hK ▸ place_any y 120 wx (by omega) (by omega))
  have HS := Lib.hid S
  have HF := Lib.hid S.firm
  have C1 := Lib.hid (fun wx (hb : Below w.heap.size w wx) => (Two.start w wx hb).new S Nil_.firm d (by omega) (by omega))
  obtain ⟨D, hD⟩ : ∃ D, D = cutD d := ⟨_, rfl⟩
  have hD2 : D = min d 50 := by rw [hD]; unfold cutD; omega
  rw [← hD] at C1
  clear S hd hK hD
  go_enter Try.func4, Try.ntmps4
  go_wp2_with fail
  refine (CP.out _).mono ?_
  rintro e wp ⟨rfl, rfl⟩
  go_wp2_with fail
  refine (CQ.out _).mono ?_
  rintro e wq ⟨rfl, rfl⟩
  go_wp2_with fail
  refine (C1.out _ (Below.refl _ _)).mono ?_
  rintro e w1 ⟨a, rfl, H1, -⟩
  clear CP CQ C1
  go_wp2_with fail
  have k0 : (0 : Int) ≤ K := by omega
  go_loopw [8] (fun i wr => ∃ j : Nat, j ≤ K ∧ i = .int .i64 j ∧ Hid (Two R Nil_ w a D (ups (j - min j D) (min j D)) [] ⟨0, 0, none⟩ 0 [] [] (fun _ => False) wr)) (fun i _ => K - (RowKit.intOf i).toNat)
  case atStart => exact ⟨0, Nat.zero_le _, rfl, Lib.hid (by rw [Nat.zero_min]; exact H1.out)⟩
  case round =>
    obtain ⟨j, hj, rfl, HL⟩ := hrel
    have j0 : (0 : Int) ≤ j := by omega
    by_cases hjn : j < K
    · have jn : (j : Int) < K := by omega
      have H2 := Lib.hid (HL.out.add HF.out Nil_.firm (.cells #[.int .i64 j, .string ⟨#[]⟩, .string ⟨#[]⟩, .int .i64 j, .string ⟨#[]⟩, .string ⟨#[121]⟩] /-t-/31))
      have hr := RowAt.lit wr (grp j) #[.int .i64 j, .string ⟨#[]⟩, .string ⟨#[]⟩, .int .i64 j, .string ⟨#[]⟩, .string ⟨#[121]⟩] /-t-/31 rfl (show (2 : Nat) ≤ 1000 by omega)
      have C2 := Lib.hid (H2.out.push HS.out Nil_.firm hr (fun b h => .inr (by cases h; rfl)) (show (2 : Nat) ≤ 20 by omega))
      rw [ups_push] at C2
      have C3 := Lib.hid (show Calls Try.prog 11 #[.pointer (some a), .slice (some ⟨wr.heap.size, 0, none⟩) 2 2] (wr.alloc (.cells #[.int .i64 j, .string ⟨#[]⟩, .string ⟨#[]⟩, .int .i64 j, .string ⟨#[]⟩, .string ⟨#[121]⟩] /-t-/31)) fun e w' => e = .returned (.tuple #[]) ∧ Hid (Two R Nil_ w a D (ups (j + 1 - min (j + 1) D) (min (j + 1) D)) [] ⟨0, 0, none⟩ 0 [] [] (fun _ => False) w') from C2.out.mono fun e w' ⟨h1, h2, _⟩ => ⟨h1, Lib.hid (h2.out.less fun _ h => h.elim)⟩)
      clear hr H2 HL C2
      go_wp2_with fail
      refine C3.out.mono ?_
      rintro e w3 ⟨rfl, H3⟩
      go_wp2_with fail
      go_roundw
      case rel => exact ⟨j + 1, by omega, by go_num, H3⟩
      case measure => simp [RowKit.intOf]; omega
    · obtain rfl : j = K := by omega
      clear hj hjn
      obtain ⟨c, hc⟩ : ∃ c, c = min j D := ⟨_, rfl⟩
      rw [← hc] at HL
      have c1 : c ≤ j ∧ c ≤ 50 := by omega
      have hmin : min (min (j : Int) (d : Int)) 50 = c := by omega
      have hmin2 : min (j : Int) (min (d : Int) 50) = c := by omega
      have hcj : c ≤ j := c1.1
      clear hc hD2 c1
      go_upto_region 9 with fail
      go_cut [9] (fun v wx => v = .int .i64 c ∧ wx = wr)
      case first =>
        go_wp2_with fail
        all_goals
          go_meet
          exact ⟨int_eq (by omega), rfl⟩
      case rest =>
        obtain ⟨rfl, rfl⟩ := hcut
        clear hmin hmin2
        have HCJ := Lib.hid hcj
        clear hcj
        have cj0 : (0 : Int) ≤ c := by omega
        have cj1 : (c : Int) ≤ j := by have := HCJ.out; omega
        go_wp2_with fail
        go_loopw [10] (fun i wr => ∃ m : Nat, m ≤ c ∧ i = .int .i64 m ∧ Hid (Two R Nil_ w a D (ups (j - c) (c - m)) (downs j m) ⟨0, 0, none⟩ 0 [] [] (fun _ => False) wr)) (fun i _ => c - (RowKit.intOf i).toNat)
        case atStart => exact ⟨0, Nat.zero_le _, rfl, Lib.hid (by rw [Nat.sub_zero]; exact HL.out)⟩
        case round =>
          obtain ⟨m, hm, rfl, HM⟩ := hrel
          have m0 : (0 : Int) ≤ m := by omega
          by_cases hmc : m < c
          · have mc : (m : Int) < c := by omega
            obtain ⟨q, hq⟩ : ∃ q, c - m = q + 1 := ⟨c - m - 1, by omega⟩
            have hix : j - c + q = j - 1 - m := by have := HCJ.out; omega
            have C4 := Lib.hid (show Calls Try.prog 13 #[.pointer (some a)] wr fun e w' => ∃ g cap, e = .returned (.tuple #[.slice (some ⟨g, 0, none⟩) 2 cap, .bool true]) ∧ (2 ≤ cap ∧ w'.cell? ⟨g, 3, none⟩ = some (.int .i64 ((j - 1 - m : Nat) : Int))) ∧ Hid (Two R Nil_ w a D (ups (j - c) (c - (m + 1))) (downs j (m + 1)) ⟨0, 0, none⟩ 0 [] [] (fun _ => False) w') from by
              have hx := HM.out
              rw [hq, ups_succ, hix] at hx
              refine (hx.undo HS.out Nil_.firm).mono ?_
              rintro e w' ⟨v, he, ho, h1, _⟩
              obtain ⟨g, cap, rfl, _, hn, _, hcc⟩ := own_open ho (show 0 < (grp (j - 1 - m)).length from by show 0 < 2; omega)
              refine ⟨g, cap, he, ⟨hn, hcc 3 _ rfl⟩, Lib.hid ?_⟩
              rw [show c - (m + 1) = q by omega, downs_succ]
              exact h1.out.less fun _ h => h.elim)
            have e1 : ((j - 1 - m : Nat) : Int) = (j : Int) - 1 - m := by have := HCJ.out; omega
            rw [e1] at C4
            have wf1 : IntKind.i64.wrap ((j : Int) - 1) = (j : Int) - 1 := IntWalk.i64_in _ (by omega)
            have wf2 : IntKind.i64.wrap ((j : Int) - 1 - m) = (j : Int) - 1 - m := IntWalk.i64_in _ (by omega)
            clear HM hq hix e1
            go_wp2_with fail
            refine C4.out.mono ?_
            rintro e w4 ⟨g, cap, rfl, ⟨hcap, hcell⟩, H4⟩
            have hcapI : (2 : Int) ≤ cap := by omega
            go_wp2_with fail
            go_roundw
            case rel => exact ⟨m + 1, by omega, by go_num, H4⟩
            case measure => simp [RowKit.intOf]; omega
          · obtain rfl : m = c := by omega
            clear hm hmc
            have C5 := Lib.hid (show Calls Try.prog 13 #[.pointer (some a)] wr fun e w' => ∃ v, e = .returned (.tuple #[v, .bool false]) ∧ Hid (Two R Nil_ w a D [] (downs j m) ⟨0, 0, none⟩ 0 [] [] (fun _ => False) w') from by
              have hx := HM.out
              rw [Nat.sub_self] at hx
              refine (Two.undo_no HS.out Nil_.firm hx).mono ?_
              rintro e w' ⟨v, he, _, h1, _⟩
              exact ⟨v, he, Lib.hid (h1.out.less fun _ h => h.elim)⟩)
            clear HM
            go_wp2_with fail
            refine C5.out.mono ?_
            rintro e w5 ⟨v5, rfl, H5⟩
            clear C5
            go_wp2_with fail
            go_loopw [15] (fun i wr => ∃ p : Nat, p ≤ m ∧ i = .int .i64 p ∧ Hid (Two R Nil_ w a D (ups (j - m) p) (downs j (m - p)) ⟨0, 0, none⟩ 0 [] [] (fun _ => False) wr)) (fun i _ => m - (RowKit.intOf i).toNat)
            case atStart => exact ⟨0, Nat.zero_le _, rfl, Lib.hid (by rw [Nat.sub_zero]; exact H5.out)⟩
            case round =>
              obtain ⟨p, hp, rfl, HM⟩ := hrel
              have p0 : (0 : Int) ≤ p := by omega
              by_cases hpm : p < m
              · have pm : (p : Int) < m := by omega
                obtain ⟨q, hq⟩ : ∃ q, m - p = q + 1 := ⟨m - p - 1, by omega⟩
                have hix : j - 1 - q = j - m + p := by have := HCJ.out; omega
                have C6 := Lib.hid (show Calls Try.prog 16 #[.pointer (some a)] wr fun e w' => ∃ g cap, e = .returned (.tuple #[.slice (some ⟨g, 0, none⟩) 2 cap, .bool true]) ∧ (2 ≤ cap ∧ w'.cell? ⟨g, 0, none⟩ = some (.int .i64 ((j - m + p : Nat) : Int))) ∧ Hid (Two R Nil_ w a D (ups (j - m) (p + 1)) (downs j (m - (p + 1))) ⟨0, 0, none⟩ 0 [] [] (fun _ => False) w') from by
                  have hx := HM.out
                  rw [hq, downs_succ, hix] at hx
                  refine (hx.redo HS.out Nil_.firm).mono ?_
                  rintro e w' ⟨v, he, ho, h1, _⟩
                  obtain ⟨g, cap, rfl, _, hn, _, hcc⟩ := own_open ho (show 0 < (grp (j - m + p)).length from by show 0 < 2; omega)
                  refine ⟨g, cap, he, ⟨hn, hcc 0 _ rfl⟩, Lib.hid ?_⟩
                  rw [show m - (p + 1) = q by omega, ups_succ]
                  exact h1.out.less fun _ h => h.elim)
                have e1 : ((j - m + p : Nat) : Int) = (j : Int) - m + p := by have := HCJ.out; omega
                rw [e1] at C6
                have wf1 : IntKind.i64.wrap ((j : Int) - m) = (j : Int) - m := IntWalk.i64_in _ (by have := HCJ.out; omega)
                have wf2 : IntKind.i64.wrap ((j : Int) - m + p) = (j : Int) - m + p := IntWalk.i64_in _ (by have := HCJ.out; omega)
                clear HM hq hix e1
                go_wp2_with fail
                refine C6.out.mono ?_
                rintro e w6 ⟨g, cap, rfl, ⟨hcap, hcell⟩, H6⟩
                have hcapI : (2 : Int) ≤ cap := by omega
                go_wp2_with fail
                go_roundw
                case rel => exact ⟨p + 1, by omega, by go_num, H6⟩
                case measure => simp [RowKit.intOf]; omega
              · obtain rfl : p = m := by omega
                clear hp hpm
                have C7 := Lib.hid (show Calls Try.prog 16 #[.pointer (some a)] wr fun e w' => ∃ v, e = .returned (.tuple #[v, .bool false]) ∧ Hid (Two R Nil_ w a D (ups (j - p) p) [] ⟨0, 0, none⟩ 0 [] [] (fun _ => False) w') from by
                  have hx := HM.out
                  rw [Nat.sub_self] at hx
                  refine (Two.redo_no HS.out Nil_.firm hx).mono ?_
                  rintro e w' ⟨v, he, _, h1, _⟩
                  exact ⟨v, he, Lib.hid (h1.out.less fun _ h => h.elim)⟩)
                clear HM
                go_wp2_with fail
                refine C7.out.mono ?_
                rintro e w7 ⟨v7, rfl, H7⟩
                have C8 := Lib.hid (show Calls Try.prog 18 #[.pointer (some a)] w7 fun e w' => e = .returned (.tuple #[.int .i64 p, .int .i64 0]) ∧ Below w.heap.size w w' from by
                  refine (H7.out.len HS.out Nil_.firm).mono ?_
                  rintro e w' ⟨he, h1, _⟩
                  have hl : (ups (j - p) p).length = p := by unfold ups; rw [List.length_map, List.length_range]
                  rw [hl] at he
                  exact ⟨he, h1.out.below⟩)
                clear C7 H7
                go_wp2_with fail
                refine C8.out.mono ?_
                rintro e w8 ⟨rfl, hb8⟩
                have HB8 := Lib.hid hb8
                clear hb8
                go_wp2_with fail
                refine (W7.out _).mono ?_
                rintro e w9 ⟨rfl, hb9⟩
                have HB9 := Lib.hid (HB8.out.trans (hb9.mono HB8.out.size))
                clear hb9
                go_wp2_with fail
                go_ret
                exact ⟨rfl, HB9.out⟩
end Go.Proofs.Ytibccdbmdajijaa
