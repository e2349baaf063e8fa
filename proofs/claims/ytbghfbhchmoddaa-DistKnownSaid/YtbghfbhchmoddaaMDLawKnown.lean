/- DistKnown by contract. -/
import Derived.Test.YtbghfbhchmoddaaMDLawAll
import Derived.Test.YtbghfbhchmoddaaMDPlace
import Derived.Test.YtbghfbhchmoddaaMDOwn
namespace Go.Proofs.Ytbghfbhchmoddaa
open Go Go.RowKit Go.Lib

def aS : Nat → ByteArray
  | 0 => ⟨#[]⟩
  | 1 => ⟨#[97, 98, 99]⟩
  | 2 => ⟨#[97, 98, 99]⟩
  | 3 => ⟨#[97, 98, 99, 100]⟩
  | 4 => ⟨#[99, 97]⟩
  | 5 => ⟨#[107, 105, 116, 116, 101, 110]⟩
  | 6 => ⟨#[97, 98, 99, 100, 101, 102]⟩
  | 7 => ⟨#[97, 98]⟩
  | 8 => ⟨#[97, 97, 97, 97]⟩
  | 9 => ⟨#[97, 98, 97, 98]⟩
  | _ => ⟨#[]⟩
def bS : Nat → ByteArray
  | 0 => ⟨#[97, 98, 99]⟩
  | 1 => ⟨#[97, 98, 99]⟩
  | 2 => ⟨#[97, 99, 98]⟩
  | 3 => ⟨#[98, 97, 100, 99]⟩
  | 4 => ⟨#[97, 98, 99]⟩
  | 5 => ⟨#[115, 105, 116, 116, 105, 110, 103]⟩
  | 6 => ⟨#[102, 101, 100, 99, 98, 97]⟩
  | 7 => ⟨#[98, 97]⟩
  | 8 => ⟨#[98, 98, 98, 98]⟩
  | 9 => ⟨#[98, 97, 98, 97]⟩
  | _ => ⟨#[]⟩
def wN : Nat → Nat
  | 0 => 3
  | 1 => 0
  | 2 => 1
  | 3 => 2
  | 4 => 3
  | 5 => 3
  | 6 => 5
  | 7 => 1
  | 8 => 4
  | 9 => 2
  | _ => 0
theorem idxA (w : World) : ∀ k : Nat, k < 10 → (Instr.index 31 (.agg #[.string ⟨#[]⟩, .string ⟨#[97, 98, 99]⟩, .string ⟨#[97, 98, 99]⟩, .string ⟨#[97, 98, 99, 100]⟩, .string ⟨#[99, 97]⟩, .string ⟨#[107, 105, 116, 116, 101, 110]⟩, .string ⟨#[97, 98, 99, 100, 101, 102]⟩, .string ⟨#[97, 98]⟩, .string ⟨#[97, 97, 97, 97]⟩, .string ⟨#[97, 98, 97, 98]⟩]) (.int .i64 (k : Int))).run Try.prog w = .ok (.string (aS k)) w
  | 0, _ => by kernel_rfl
  | 1, _ => by kernel_rfl
  | 2, _ => by kernel_rfl
  | 3, _ => by kernel_rfl
  | 4, _ => by kernel_rfl
  | 5, _ => by kernel_rfl
  | 6, _ => by kernel_rfl
  | 7, _ => by kernel_rfl
  | 8, _ => by kernel_rfl
  | 9, _ => by kernel_rfl
  | k + 10, h => by omega
theorem idxB (w : World) : ∀ k : Nat, k < 10 → (Instr.index 31 (.agg #[.string ⟨#[97, 98, 99]⟩, .string ⟨#[97, 98, 99]⟩, .string ⟨#[97, 99, 98]⟩, .string ⟨#[98, 97, 100, 99]⟩, .string ⟨#[97, 98, 99]⟩, .string ⟨#[115, 105, 116, 116, 105, 110, 103]⟩, .string ⟨#[102, 101, 100, 99, 98, 97]⟩, .string ⟨#[98, 97]⟩, .string ⟨#[98, 98, 98, 98]⟩, .string ⟨#[98, 97, 98, 97]⟩]) (.int .i64 (k : Int))).run Try.prog w = .ok (.string (bS k)) w
  | 0, _ => by kernel_rfl
  | 1, _ => by kernel_rfl
  | 2, _ => by kernel_rfl
  | 3, _ => by kernel_rfl
  | 4, _ => by kernel_rfl
  | 5, _ => by kernel_rfl
  | 6, _ => by kernel_rfl
  | 7, _ => by kernel_rfl
  | 8, _ => by kernel_rfl
  | 9, _ => by kernel_rfl
  | k + 10, h => by omega
theorem idxW (w : World) : ∀ k : Nat, k < 10 → (Instr.index 32 (.agg #[.int .i64 3, .int .i64 0, .int .i64 1, .int .i64 2, .int .i64 3, .int .i64 3, .int .i64 5, .int .i64 1, .int .i64 4, .int .i64 2]) (.int .i64 (k : Int))).run Try.prog w = .ok (.int .i64 (wN k : Int)) w
  | 0, _ => by kernel_rfl
  | 1, _ => by kernel_rfl
  | 2, _ => by kernel_rfl
  | 3, _ => by kernel_rfl
  | 4, _ => by kernel_rfl
  | 5, _ => by kernel_rfl
  | 6, _ => by kernel_rfl
  | 7, _ => by kernel_rfl
  | 8, _ => by kernel_rfl
  | 9, _ => by kernel_rfl
  | k + 10, h => by omega
/-- A text's bytes as numbers. -/
def bytesI (s : ByteArray) : List Int := s.data.toList.map fun c => (c.toNat : Int)
theorem known_far : ∀ k, k < 10 → farL (bytesI (aS k)) (bytesI (bS k)) = wN k := by unfold farL osa; decide +kernel
theorem known_size : ∀ k, k < 10 → (aS k).size ≤ 7 ∧ (bS k).size ≤ 7 ∧ wN k ≤ 7 := by decide +kernel
theorem bytes_len (s : ByteArray) : (bytesI s).length = s.size := by unfold bytesI; rw [List.length_map, Array.length_toList]; rfl
theorem bytes_take (s : ByteArray) (i : Nat) (h : i < s.size) : (bytesI s).take (i + 1) = (bytesI s).take i ++ [((s[i]'h).toNat : Int)] := by
  rw [List.take_add_one]
  congr 1
  have h2 : s.data.toList[i]? = some (s[i]'h) := by
    rw [Array.getElem?_toList]
    exact Array.getElem?_eq_getElem (show i < s.data.size from h)
  unfold bytesI
  rw [List.getElem?_map, h2]
  rfl
theorem far_more (a b : List Int) (c : Int) : ∀ z, farL a (b ++ List.replicate z c) ≤ farL a b + z
  | 0 => by simp
  | z + 1 => by
    have ih := far_more a b c z
    have h : farL a ((b ++ List.replicate z c) ++ [c]) ≤ farL a (b ++ List.replicate z c) + 1 := by
      unfold farL
      rw [List.reverse_append]
      exact osa_le ((osa_way _ _).ins c)
    rw [List.append_assoc, ← List.replicate_succ'] at h
    omega
set_option maxRecDepth 100000 in
set_option maxHeartbeats 8000000 in
theorem known_law (w : World) (y0 y1 : Int) : Calls Try.prog 6 #[.int .i64 y0, .int .i64 y1] w fun e w' => e = .returned (.bool true) ∧ Below w.heap.size w w' := by
  have CA := Lib.hid awake_any
  obtain ⟨k, hk, hk10⟩ : ∃ k : Nat, y0 % 10 = k ∧ k < 10 := ⟨(y0 % 10).toNat, by omega, by omega⟩
  obtain ⟨z, hz, hz9⟩ : ∃ z : Nat, y1 % 9 = z ∧ z < 9 := ⟨(y1 % 9).toNat, by omega, by omega⟩
  have CP := Lib.hid (place9 y0 10 w (by omega) (by omega))
  rw [hk] at CP
  have CZ := Lib.hid (fun wx => place9 y1 9 wx (by omega) (by omega))
  rw [hz] at CZ
  clear hk hz
  obtain ⟨sa, hsa⟩ : ∃ s, s = aS k := ⟨_, rfl⟩
  obtain ⟨sb, hsb⟩ : ∃ s, s = bS k := ⟨_, rfl⟩
  obtain ⟨wn, hwn⟩ : ∃ n, n = wN k := ⟨_, rfl⟩
  have hfar := known_far k hk10
  have hsz := known_size k hk10
  rw [← hsa, ← hsb, ← hwn] at hfar hsz
  have hI1 := fun wx => idxA wx k hk10
  have hI2 := fun wx => idxB wx k hk10
  have hI3 := fun wx => idxW wx k hk10
  rw [← hsa] at hI1
  rw [← hsb] at hI2
  rw [← hwn] at hI3
  have HF := Lib.hid (And.intro hfar hsz)
  clear hsa hsb hwn hfar hsz hk10
  go_enter Try.func6, Try.ntmps6
  go_upto_region 2 with (go_at_call 12; refine CP.out.mono ?_; rintro e wx ⟨rfl, rfl⟩)
  have hu8 : ∀ c : UInt8, IntKind.i64.wrap (c.toNat : Int) = (c.toNat : Int) := fun c => by
    rw [IntWalk.i64_in _ (by have := c.toNat_lt; omega)]
  obtain ⟨na, hna⟩ : ∃ n, n = sa.size := ⟨_, rfl⟩
  obtain ⟨nb, hnb⟩ : ∃ n, n = sb.size := ⟨_, rfl⟩
  have HNN := Lib.hid (show na = sa.size ∧ nb = sb.size ∧ na ≤ 7 ∧ nb ≤ 7 by have := HF.out; omega)
  clear hna hnb
  go_wp2_with fail
  clear hI1 hI2 hI3
  go_loopg [9, 11] na (fun g x xi wr => ∃ (i : Nat) (A : Option Addr) (c : Nat), i + g = na ∧ xi = .int .i64 i ∧ x = .slice A i c ∧ Hid (wr.ownsRow w.heap.size 3 1 (.slice A i c) i (((bytesI sa).take i).map (Value.int .i64)) ∧ Below w.heap.size w wr))
  case atStart => exact ⟨0, none, 0, by omega, rfl, rfl, Lib.hid ⟨by simpa using World.ownsRow_nil _ _ _ _, Below.refl _ _⟩⟩
  case round =>
    obtain ⟨i, A, c, hi, rfl, rfl, HP⟩ := hrel
    by_cases hlt : i < na
    · have e1 : (i : Int) < sa.size := by have := HNN.out; omega
      have e2 : i < sa.size := by have := HNN.out; omega
      have wi : IntKind.i64.wrap ((i : Int) + 1) = ((i + 1 : Nat) : Int) := by rw [IntWalk.i64_in _ (by have := HNN.out; omega)]; omega
      have HT := Lib.hid (And.intro (bytes_take sa i e2) (And.intro (show ((bytesI sa).take i).length = i by rw [List.length_take, bytes_len]; omega) (show ((bytesI sa).take (i + 1)).length = i + 1 by rw [List.length_take, bytes_len]; omega)))
      go_upto_region 9 with fail
      go_wp2_with (at_builtin; refine wpList_append_nums rfl _ _ rfl w.heap.size (.slice A i c) ((bytesI sa).take i) _ [((sa[i]'e2).toNat : Int)] rfl (own_len (HP.out.1.alloc _) HT.out.2.1.symm) rfl (lit_intsQ wr [((sa[i]'e2).toNat : Int)] _ _ rfl (by simp)) (by rw [HT.out.2.1]; simp; have := HNN.out; omega) (by have := HP.out.2.size; simp; omega) ?_; intro v2 w2 ho2 hg2; rw [← HT.out.1, HT.out.2.2] at ho2; obtain ⟨A2, c2, rfl⟩ := row_shape ho2; have HO2 := Lib.hid (And.intro ho2 (hg2.next (HP.out.2.alloc HP.out.2.size _) (Nat.le_refl _) (HP.out.1.alloc _))); clear ho2 hg2)
      go_roundg (gk - 1)
      case measure => omega
      case rel => exact ⟨i + 1, A2, c2, by omega, by go_num, rfl, HO2⟩
    · obtain rfl : na = i := by omega
      have e1 : ¬ (na : Int) < sa.size := by have := HNN.out; omega
      have HX := Lib.hid (show IntsQ wr (.slice A na c) (bytesI sa) ∧ Below w.heap.size w wr from ⟨own_intsQ (by have := HP.out.1; rwa [List.take_of_length_le (by rw [bytes_len]; omega)] at this) (by rw [bytes_len]; exact HNN.out.1), HP.out.2⟩)
      obtain ⟨w1, hw1⟩ : ∃ x, x = wr := ⟨_, rfl⟩
      rw [← hw1] at HX ⊢
      obtain ⟨A1, hA1⟩ : ∃ x, x = A := ⟨_, rfl⟩
      obtain ⟨c1, hc1⟩ : ∃ x, x = c := ⟨_, rfl⟩
      rw [← hA1, ← hc1] at HX ⊢
      clear HP hlt hw1 hA1 hc1
      go_wp2_with fail
      go_loopg [10, 12] nb (fun g x xi wr => ∃ (i : Nat) (A : Option Addr) (c : Nat), i + g = nb ∧ xi = .int .i64 i ∧ x = .slice A i c ∧ Hid (wr.ownsRow w1.heap.size 3 1 (.slice A i c) i (((bytesI sb).take i).map (Value.int .i64)) ∧ Below w1.heap.size w1 wr))
      case atStart => exact ⟨0, none, 0, by omega, rfl, rfl, Lib.hid ⟨by simpa using World.ownsRow_nil _ _ _ _, Below.refl _ _⟩⟩
      case round =>
        obtain ⟨i, A, c, hi, rfl, rfl, HP⟩ := hrel
        by_cases hlt : i < nb
        · have e1 : (i : Int) < sb.size := by have := HNN.out; omega
          have e2 : i < sb.size := by have := HNN.out; omega
          have wi : IntKind.i64.wrap ((i : Int) + 1) = ((i + 1 : Nat) : Int) := by rw [IntWalk.i64_in _ (by have := HNN.out; omega)]; omega
          have HT := Lib.hid (And.intro (bytes_take sb i e2) (And.intro (show ((bytesI sb).take i).length = i by rw [List.length_take, bytes_len]; omega) (show ((bytesI sb).take (i + 1)).length = i + 1 by rw [List.length_take, bytes_len]; omega)))
          go_upto_region 13 with fail
          go_wp2_with (at_builtin; refine wpList_append_nums rfl _ _ rfl w1.heap.size (.slice A i c) ((bytesI sb).take i) _ [((sb[i]'e2).toNat : Int)] rfl (own_len (HP.out.1.alloc _) HT.out.2.1.symm) rfl (lit_intsQ wr [((sb[i]'e2).toNat : Int)] _ _ rfl (by simp)) (by rw [HT.out.2.1]; simp; have := HNN.out; omega) (by have := HP.out.2.size; simp; omega) ?_; intro v2 w2 ho2 hg2; rw [← HT.out.1, HT.out.2.2] at ho2; obtain ⟨A2, c2, rfl⟩ := row_shape ho2; have HO2 := Lib.hid (And.intro ho2 (hg2.next (HP.out.2.alloc HP.out.2.size _) (Nat.le_refl _) (HP.out.1.alloc _))); clear ho2 hg2)
          go_roundg (gk - 1)
          case measure => omega
          case rel => exact ⟨i + 1, A2, c2, by omega, by go_num, rfl, HO2⟩
        · obtain rfl : nb = i := by omega
          have e1 : ¬ (nb : Int) < sb.size := by have := HNN.out; omega
          have HY := Lib.hid (show wr.ownsRow w1.heap.size 3 1 (.slice A nb c) nb ((bytesI sb).map (Value.int .i64)) ∧ Below w1.heap.size w1 wr from ⟨by have := HP.out.1; rwa [List.take_of_length_le (by rw [bytes_len]; have := HNN.out; omega)] at this, HP.out.2⟩)
          obtain ⟨w2, hw2⟩ : ∃ x, x = wr := ⟨_, rfl⟩
          obtain ⟨A2, hA2⟩ : ∃ x, x = A := ⟨_, rfl⟩
          obtain ⟨c2, hc2⟩ : ∃ x, x = c := ⟨_, rfl⟩
          rw [← hw2, ← hA2, ← hc2] at HY ⊢
          clear HP hlt hw2 hA2 hc2
          have CF := Lib.hid (show Calls Try.prog 10 #[.slice A1 na c1, .slice A2 nb c2] w2 fun e w' => e = .returned (.int .i64 wn) ∧ Below w2.heap.size w2 w' from by
            obtain ⟨n1, n2, n3, n4⟩ := HNN.out
            have h := far_any w2 _ _ _ _ (HX.out.1.keep HY.out.2).at_ (own_intsQ HY.out.1 (by rw [bytes_len]; exact n2)).at_ (by rw [bytes_len]; omega) (by rw [bytes_len]; omega)
            rw [HF.out.1] at h
            exact h)
          go_wp2_with fail
          refine CF.out.mono ?_
          rintro e w3 ⟨rfl, h3⟩
          have HY3 := Lib.hid (show w3.ownsRow w1.heap.size 3 1 (.slice A2 nb c2) nb ((bytesI sb).map (Value.int .i64)) ∧ Below w1.heap.size w1 w3 from ⟨own_below HY.out.1 h3, HY.out.2.trans (h3.mono HY.out.2.size)⟩)
          clear h3 CF HY
          go_wp2_with fail
          go_loopg [10, 14] z (fun g x xi wr => ∃ (j : Nat) (A : Option Addr) (n c : Nat), j + g = z ∧ xi = .int .i64 j ∧ x = .slice A n c ∧ Hid (n = nb + j ∧ wr.ownsRow w1.heap.size 3 1 (.slice A n c) n ((bytesI sb ++ List.replicate j 122).map (Value.int .i64)) ∧ Below w1.heap.size w1 wr))
          case atStart => exact ⟨0, A2, nb, c2, by omega, rfl, rfl, Lib.hid ⟨by omega, by simpa using HY3.out.1, HY3.out.2⟩⟩
          case round =>
            obtain ⟨j, A, n, c, hj, rfl, rfl, HP⟩ := hrel
            by_cases hlt : j < z
            · have e3 : (j : Int) < z := by omega
              have wj : IntKind.i64.wrap ((j : Int) + 1) = ((j + 1 : Nat) : Int) := by rw [IntWalk.i64_in _ (by omega)]; omega
              have HT := Lib.hid (show (bytesI sb ++ List.replicate j (122 : Int)).length = n ∧ (bytesI sb ++ List.replicate (j + 1) (122 : Int)).length = n + 1 ∧ bytesI sb ++ List.replicate (j + 1) (122 : Int) = (bytesI sb ++ List.replicate j (122 : Int)) ++ [122] ∧ n ≤ 20 from by
                have h1 := HP.out.1
                obtain ⟨n1, n2, n3, n4⟩ := HNN.out
                refine ⟨by rw [List.length_append, List.length_replicate, bytes_len]; omega, by rw [List.length_append, List.length_replicate, bytes_len]; omega, ?_, by omega⟩
                rw [List.append_assoc, ← List.replicate_succ'])
              go_upto_region 18 with (go_at_call 12; refine (CZ.out _).mono ?_; rintro e wx ⟨rfl, rfl⟩)
              go_wp2_with (at_builtin; refine wpList_append_nums rfl _ _ rfl w1.heap.size (.slice A n c) (bytesI sb ++ List.replicate j 122) _ [122] rfl (own_len (HP.out.2.1.alloc _) HT.out.1.symm) rfl (lit_intsQ _ [122] _ _ rfl (by decide)) (by rw [HT.out.1]; have := HT.out.2.2.2; simp; omega) (by have := HP.out.2.2.size; simp; omega) ?_; intro v5 w5 ho5 hg5; rw [← HT.out.2.2.1, HT.out.2.1] at ho5; obtain ⟨A5, c5, rfl⟩ := row_shape ho5; have HO5 := Lib.hid (And.intro ho5 (hg5.next (HP.out.2.2.alloc HP.out.2.2.size _) (Nat.le_refl _) (HP.out.2.1.alloc _))); clear ho5 hg5)
              have HO6 := Lib.hid (And.intro (show n + 1 = nb + (j + 1) by have := HP.out.1; omega) HO5.out)
              go_roundg (gk - 1)
              case measure => omega
              case rel => exact ⟨j + 1, A5, n + 1, c5, by omega, by go_num, rfl, HO6⟩
            · have e3 : ¬ (j : Int) < z := by omega
              obtain rfl : z = j := by omega
              obtain ⟨e, he⟩ : ∃ e, e = farL (bytesI sa) (bytesI sb ++ List.replicate z 122) := ⟨_, rfl⟩
              have hlo : sb.size + z ≤ e + sa.size := by
                have := (farL_len (bytesI sa) (bytesI sb ++ List.replicate z 122)).2
                rw [← he, List.length_append, List.length_replicate, bytes_len, bytes_len] at this
                exact this
              have hhi : e ≤ wn + z := by rw [he, ← HF.out.1]; exact far_more _ _ _ z
              have hs7 : sa.size ≤ 7 ∧ sb.size ≤ 7 ∧ wn ≤ 7 := HF.out.2
              have CF2 := Lib.hid (fun wx v v' (hv : IntsAt wx v (bytesI sa)) (hv' : IntsAt wx v' (bytesI sb ++ List.replicate z 122)) => show (Calls Try.prog 10 #[v, v'] wx fun e' w' => e' = .returned (.int .i64 e) ∧ Below wx.heap.size wx w') ∧ (Calls Try.prog 9 #[v, v', .int .i64 ((e : Int) - 1)] wx fun e' w' => e' = .returned (.tuple #[.int .i64 0, .bool false]) ∧ Below wx.heap.size wx w') from by
                have b1 : (bytesI sa).length ≤ 1000 := by rw [bytes_len]; omega
                have b2 : (bytesI sb ++ List.replicate z (122 : Int)).length ≤ 1000 := by rw [List.length_append, List.length_replicate, bytes_len]; omega
                have h1 := far_any wx v v' _ _ hv hv' b1 b2
                have h2 := near_any wx v v' _ _ ((e : Int) - 1) hv hv' b1 b2
                rw [← he] at h1 h2
                have h3 : nearV e ((e : Int) - 1) = .tuple #[.int .i64 0, .bool false] := by
                  unfold nearV
                  rw [if_neg (by omega), decide_eq_false (by omega)]
                rw [h3] at h2
                exact ⟨h1, h2⟩)
              have we1 : IntKind.i64.wrap ((e : Int) - 1) = (e : Int) - 1 := IntWalk.i64_in _ (by omega)
              have wz1 : IntKind.i64.wrap ((z : Int) + sb.size) = (z : Int) + sb.size := IntWalk.i64_in _ (by omega)
              have wz2 : IntKind.i64.wrap ((z : Int) + sb.size - sa.size) = (z : Int) + sb.size - sa.size := IntWalk.i64_in _ (by omega)
              have wz3 : IntKind.i64.wrap ((wn : Int) + z) = (wn : Int) + z := IntWalk.i64_in _ (by omega)
              have q1 : (z : Int) + sb.size - sa.size ≤ e := by omega
              have q2 : (e : Int) ≤ (wn : Int) + z := by omega
              have HXE := Lib.hid (show IntsAt wr (.slice A1 na c1) (bytesI sa) ∧ IntsAt wr (.slice A n c) (bytesI sb ++ List.replicate z 122) ∧ Below w.heap.size w wr from ⟨(HX.out.1.keep HP.out.2.2).at_, (own_intsQ HP.out.2.1 (by rw [List.length_append, List.length_replicate, bytes_len]; have := HP.out.1; have := HNN.out; omega)).at_, HX.out.2.trans (HP.out.2.2.mono HX.out.2.size)⟩)
              clear HP he hlo hhi hs7 hlt
              go_upto_region 19 with (go_at_call 12; refine (CZ.out _).mono ?_; rintro e9 wx ⟨rfl, rfl⟩)
              go_wp2_with fail
              refine (CF2.out _ _ _ HXE.out.1 HXE.out.2.1).1.mono ?_
              rintro e9 w6 ⟨rfl, h6⟩
              have HX6 := Lib.hid (And.intro (HXE.out.1.keep h6) (And.intro (HXE.out.2.1.keep h6) (HXE.out.2.2.trans (h6.mono HXE.out.2.2.size))))
              clear h6
              go_wp2_with fail
              refine (CF2.out _ _ _ HX6.out.1 HX6.out.2.1).2.mono ?_
              rintro e9 w7 ⟨rfl, h7⟩
              have HX7 := Lib.hid (HX6.out.2.2.trans (h7.mono HX6.out.2.2.size))
              clear h7
              go_wp2_with fail
              refine (CZ.out _).mono ?_
              rintro e9 w8 ⟨rfl, rfl⟩
              go_wp2_with fail
              refine (CZ.out _).mono ?_
              rintro e9 w9 ⟨rfl, rfl⟩
              go_wp2_with fail
              refine (CA.out _).mono ?_
              rintro e9 w10 ⟨rfl, h10⟩
              have HX10 := Lib.hid (HX7.out.trans (h10.mono HX7.out.size))
              clear h10
              go_wp2_with fail
              go_ret
              exact ⟨rfl, HX10.out⟩
end Go.Proofs.Ytbghfbhchmoddaa
