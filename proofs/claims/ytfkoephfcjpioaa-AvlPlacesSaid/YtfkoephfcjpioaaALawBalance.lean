/- AvlBalance out of what is asked of a tree's calls. -/
import Derived.Test.YtfkoephfcjpioaaALaws
namespace Go.Proofs.Ytfkoephfcjpioaa
open Go Go.RowKit

variable {Rep : Nat → World → Addr → List It → Nat → Prop}

/-- A slice of numbers as it reads in w. -/
def Nums (w : World) (A : Option Addr) (n cap : Nat) (zs : List Int) : Prop :=
  zs.length = n ∧ n ≤ cap ∧ cap ≤ maxLen ∧ ∀ (i : Nat) (z : Int), zs[i]? = some z → ∃ b off, A = some ⟨b, off, none⟩ ∧ b < w.heap.size ∧ w.cell? ⟨b, off + i, none⟩ = some (.int .i64 z)

/-- Items such as the laws put: their sizes are from 1 to 5. -/
def Fine (L : List It) : Prop := ∀ x ∈ L, 0 < x.2 ∧ x.2 ≤ 5

/-- Between two calls: a tree of so many items. -/
def Stands (Rep : Nat → World → Addr → List It → Nat → Prop) (w : World) (a : Addr) (m : Nat) (wr : World) : Prop :=
  (∃ L h, Rep w.heap.size wr a L h ∧ L.length = m ∧ Fine L) ∧ Below w.heap.size w wr

theorem Stands.insert (S : Says Rep) {w wr : World} {a : Addr} {m : Nat} (h : Stands Rep w a m wr) (hm : m < 65536) (i : Nat) (hi : i ≤ m) (key : Int) (size : Nat) (h1 : 0 < size) (h2 : size ≤ 5) :
    Calls Try.prog 8 #[.pointer (some a), .int .i64 i, .int .i64 key, .int .i64 size] wr fun e w' => e = .returned (.bool true) ∧ Hid (Stands Rep w a (m + 1) w') := by
  obtain ⟨⟨L, ht, hr, hl, hf⟩, hb⟩ := h
  refine (S.insert _ _ _ _ _ i key size hr hb.size (by omega) (by omega) (by omega)).mono ?_
  rintro e w' ⟨he, ⟨h', hr'⟩, hb'⟩
  exact ⟨he, ⟨_, _, hr', by rw [putL_length L i _ (by omega), hl], putL_all hf ⟨h1, h2⟩⟩, hb.trans hb'⟩
theorem Stands.remove (S : Says Rep) {w wr : World} {a : Addr} {m : Nat} (h : Stands Rep w a m wr) (i : Nat) (hi : i < m) :
    Calls Try.prog 12 #[.pointer (some a), .int .i64 i] wr fun e w' => e = .returned (.bool true) ∧ Hid (Stands Rep w a (m - 1) w') := by
  obtain ⟨⟨L, ht, hr, hl, hf⟩, hb⟩ := h
  refine (S.remove _ _ _ _ _ i hr hb.size (by omega)).mono ?_
  rintro e w' ⟨he, ⟨h', hr'⟩, hb'⟩
  exact ⟨he, ⟨_, _, hr', by rw [dropL_length L i (by omega), hl], dropL_all hf⟩, hb.trans hb'⟩
theorem Stands.len (S : Says Rep) {w wr : World} {a : Addr} {m : Nat} (h : Stands Rep w a m wr) :
    Calls Try.prog 9 #[.pointer (some a)] wr fun e w' => e = .returned (.int .i64 m) ∧ Hid (Stands Rep w a m w') := by
  obtain ⟨⟨L, ht, hr, hl, hf⟩, hb⟩ := h
  refine (S.len _ _ _ _ _ hr hb.size).mono ?_
  rintro e w' ⟨he, hr', hb'⟩
  exact ⟨by rw [he, hl], ⟨_, _, hr', hl, hf⟩, hb.trans hb'⟩
theorem Stands.height (S : Says Rep) {w wr : World} {a : Addr} {m : Nat} (h : Stands Rep w a m wr) :
    Calls Try.prog 11 #[.pointer (some a)] wr fun e w' => (∃ ht : Nat, e = .returned (.int .i64 ht) ∧ Hid (least ht ≤ m ∧ ht ≤ 1000)) ∧ Hid (Stands Rep w a m w') := by
  obtain ⟨⟨L, ht, hr, hl, hf⟩, hb⟩ := h
  obtain ⟨l1, _, l3⟩ := S.low _ _ _ _ _ hr
  refine (S.height _ _ _ _ _ hr hb.size).mono ?_
  rintro e w' ⟨he, hr', hb'⟩
  exact ⟨⟨ht, he, by rw [← hl]; exact l1, l3⟩, ⟨_, _, hr', hl, hf⟩, hb.trans hb'⟩
theorem Stands.ahead (S : Says Rep) {w wr : World} {a : Addr} {m : Nat} (h : Stands Rep w a m wr) (i : Nat) (hi : i < m) (hm : m ≤ 1000) :
    Calls Try.prog 14 #[.pointer (some a), .int .i64 i] wr fun e w' => ∃ p : Nat, e = .returned (.int .i64 p) ∧ p ≤ 9223372036854775807 ∧
      Hid ((∃ L h, Rep w.heap.size w' a L h ∧ L.length = m ∧ Fine L ∧ findL L p = (i, 0)) ∧ Below w.heap.size w w') := by
  obtain ⟨⟨L, ht, hr, hl, hf⟩, hb⟩ := h
  have hbd : ∀ (L : List It) (j : Nat), Fine L → before L (j : Int) ≤ 5 * j := by
    intro L
    induction L with
    | nil => intro j _; simp [before]
    | cons x t ih =>
      intro j hf
      match j with
      | 0 => exact Nat.le_of_eq (before_zero _)
      | j + 1 =>
        rw [before_cons]
        have := ih j (fun y hy => hf y (List.mem_cons_of_mem _ hy))
        have := (hf x (by simp)).2
        omega
  refine (S.before _ _ _ _ _ i hr hb.size (by omega)).mono ?_
  rintro e w' ⟨he, hr', hb'⟩
  have hh := hbd L i hf
  exact ⟨_, he, by omega, ⟨_, _, hr', hl, hf, find_before L i (fun x hx => (hf x hx).1) (by omega)⟩, hb.trans hb'⟩
theorem Stands.find (S : Says Rep) {w wr : World} {a : Addr} {m i p : Nat} (h : (∃ L h, Rep w.heap.size wr a L h ∧ L.length = m ∧ Fine L ∧ findL L p = (i, 0)) ∧ Below w.heap.size w wr) (hp : p ≤ 9223372036854775807) :
    Calls Try.prog 13 #[.pointer (some a), .int .i64 p] wr fun e w' => e = .returned (.tuple #[.int .i64 i, .int .i64 0]) ∧ Hid (Stands Rep w a m w') := by
  obtain ⟨⟨L, ht, hr, hl, hf, hfi⟩, hb⟩ := h
  refine (S.find _ _ _ _ _ p hr hb.size hp).mono ?_
  rintro e w' ⟨he, hr', hb'⟩
  rw [hfi] at he
  exact ⟨he, ⟨_, _, hr', hl, hf⟩, hb.trans hb'⟩

theorem tmod_nat (j n : Nat) : ((j : Int).tmod (n : Int)) = ((j % n : Nat) : Int) := by
  rw [Int.tmod_eq_emod_of_nonneg (by omega)]; rfl

set_option maxRecDepth 100000 in
set_option maxHeartbeats 8000000 in
theorem balance_law (S : Says Rep) (n : Int) (A1 A2 : Option Addr) (n1 cap1 n2 cap2 : Nat) (zs1 zs2 : List Int) (w : World) (h1 : Nums w A1 n1 cap1 zs1) (h2 : Nums w A2 n2 cap2 zs2) :
    Calls Try.prog 3 #[.int .i64 n, .slice A1 n1 cap1, .slice A2 n2 cap2] w fun e w' => e = .returned (.bool true) ∧ Below w.heap.size w w' := by
  obtain ⟨kk, hkk⟩ : ∃ kk : Nat, (kk : Int) = n % 300 := ⟨(n % 300).toNat, by omega⟩
  have hk3 : kk < 300 := by omega
  have P1 := Lib.hid (fun wx => place_any n 300 wx (by omega) (by omega))
  rw [← hkk] at P1
  have PA := Lib.hid place_any
  have LA := Lib.hid least_any
  obtain ⟨g1, g2, g3, hc1⟩ := h1
  obtain ⟨e1, e2, e3, hc2⟩ := h2
  unfold maxLen at g3 e3
  have HC1 := Lib.hid hc1
  have HC2 := Lib.hid hc2
  have HN1 := Lib.hid g1
  have HN2 := Lib.hid e1
  have HS := Lib.hid S
  have W8 := Lib.hid (awake_any S)
  clear S hc1 hc2 hkk g1 e1
  by_cases hbig : 300 < n1 ∨ 300 < n2
  · have hcs : 300 < n1 ∨ (n1 ≤ 300 ∧ 300 < n2) := by omega
    clear hbig
    rcases hcs with hb1 | ⟨hb1, hb2⟩
    all_goals
      go_enter Try.func3, Try.ntmps3
      go_wp2_with (first
        | (go_at_call 5; refine (HS.out.new _).mono ?_; rintro e w1 ⟨a, rfl, hr1, hb1⟩; have HB1 := Lib.hid hb1; clear hr1 hb1)
        | (go_at_call 6; refine (P1.out _).mono ?_; rintro e w2 ⟨rfl, rfl⟩)
        | (go_at_call 7; refine (W8.out _).mono ?_; rintro e w3 ⟨rfl, hb3⟩; have HB3 := Lib.hid (HB1.out.trans (hb3.mono HB1.out.size)); clear hb3))
      go_ret
      exact ⟨rfl, HB3.out⟩
  · have s1 : n1 ≤ 300 := by omega
    have s2 : n2 ≤ 300 := by omega
    clear hbig
    go_enter Try.func3, Try.ntmps3
    go_wp2_with (first
      | (go_at_call 5; refine (HS.out.new _).mono ?_; rintro e w1 ⟨a, rfl, hr1, hb1⟩; have HS1 := Lib.hid (show Stands Rep w a 0 w1 from ⟨⟨[], 0, hr1, rfl, fun x hx => by simp at hx⟩, hb1⟩); clear hr1 hb1)
      | (go_at_call 6; refine (P1.out _).mono ?_; rintro e w2 ⟨rfl, rfl⟩))
    go_loopw [9] (fun i wr => ∃ j : Nat, j ≤ kk ∧ i = .int .i64 j ∧ Hid (Stands Rep w a j wr)) (fun i _ => kk - (RowKit.intOf i).toNat)
    case atStart => exact ⟨0, Nat.zero_le _, rfl, HS1.out⟩
    case round =>
      obtain ⟨j, hj, rfl, HT⟩ := hrel
      have j0 : (0 : Int) ≤ j := by omega
      have k300 : (kk : Int) < 300 := by omega
      by_cases hjk : j < kk
      · have jk : (j : Int) < kk := by omega
        have htm : ((j : Int).tmod 5) = ((j % 5 : Nat) : Int) := tmod_nat j 5
        obtain ⟨y, hy⟩ : ∃ y, y = j % 5 := ⟨_, rfl⟩
        rw [← hy] at htm
        have hy5 : (y : Int) < 5 := by omega
        have hy0 : (0 : Int) ≤ y := by omega
        have cI : ∀ q : Nat, q ≤ j → Calls Try.prog 8 #[.pointer (some a), .int .i64 q, .int .i64 j, .int .i64 (1 + (y : Int))] wr fun e w' => e = .returned (.bool true) ∧ Hid (Stands Rep w a (j + 1) w') := by
          intro q hq
          have := Stands.insert HS.out HT.out (by omega) q hq j (1 + y) (by omega) (by omega)
          simpa using this
        have CI := Lib.hid cI
        have HY := Lib.hid hy
        clear hy cI
        by_cases hw : j < n1
        · obtain ⟨z, hz⟩ : ∃ z, zs1[j]? = some z := ⟨_, List.getElem?_eq_getElem (by rw [HN1.out]; exact hw)⟩
          obtain ⟨b, off, rfl, hlt, hm⟩ := HC1.out j z hz
          have m0 := (HT.out.2.cell (p := ⟨b, off + j, none⟩) hlt).trans hm
          obtain ⟨q, hq⟩ : ∃ q : Nat, (q : Int) = z % ((j : Int) + 1) := ⟨(z % ((j : Int) + 1)).toNat, by have := Int.emod_nonneg z (show (j : Int) + 1 ≠ 0 by omega); omega⟩
          have hqj : q ≤ j := by have := Int.emod_lt_of_pos z (show (0 : Int) < (j : Int) + 1 by omega); omega
          have PZ := Lib.hid (fun wx => PA.out z ((j : Int) + 1) wx (by omega) (by omega))
          rw [← hq] at PZ
          have CQ := Lib.hid (CI.out q hqj)
          have jw : (j : Int) < n1 := by omega
          clear hz hm hq
          go_wp2_with (first
            | (go_at_call 6; refine (PZ.out _).mono ?_; rintro e w2 ⟨rfl, rfl⟩)
            | (go_at_call 8; refine (CQ.out).mono ?_; rintro e w3 ⟨rfl, H3⟩)
            | (go_at_call 9; refine (Stands.len HS.out H3.out).mono ?_; rintro e w4 ⟨rfl, H4⟩)
            | (go_at_call 11; refine (Stands.height HS.out H4.out).mono ?_; rintro e w5 ⟨⟨ht, rfl, hl⟩, H5⟩)
            | (go_at_call 10; refine (LA.out ht _ (by have := hl.out.2; omega)).mono ?_; rintro e w6 ⟨⟨c, rfl, hcl, hcm⟩, rfl⟩; have hcj : (c : Int) ≤ (j : Int) + 1 := by have := hl.out.1; omega))
          go_roundw
          case rel => exact ⟨j + 1, by omega, by go_num, H5⟩
          case measure => simp [RowKit.intOf]; omega
        · have jw : (n1 : Int) ≤ j := by omega
          have CQ := Lib.hid (CI.out j (Nat.le_refl _))
          clear hw
          go_wp2_with (first
            | (go_at_call 8; refine (CQ.out).mono ?_; rintro e w3 ⟨rfl, H3⟩)
            | (go_at_call 9; refine (Stands.len HS.out H3.out).mono ?_; rintro e w4 ⟨rfl, H4⟩)
            | (go_at_call 11; refine (Stands.height HS.out H4.out).mono ?_; rintro e w5 ⟨⟨ht, rfl, hl⟩, H5⟩)
            | (go_at_call 10; refine (LA.out ht _ (by have := hl.out.2; omega)).mono ?_; rintro e w6 ⟨⟨c, rfl, hcl, hcm⟩, rfl⟩; have hcj : (c : Int) ≤ (j : Int) + 1 := by have := hl.out.1; omega))
          go_roundw
          case rel => exact ⟨j + 1, by omega, by go_num, H5⟩
          case measure => simp [RowKit.intOf]; omega
      · obtain rfl : j = kk := by omega
        have HT0 := HT
        clear HT hj hjk
        go_wp2
        go_loopw [11, 12] (fun m i wr => ∃ i' m' : Nat, i' ≤ n2 ∧ m' ≤ j ∧ m = .int .i64 m' ∧ i = .int .i64 i' ∧ Hid (Stands Rep w a m' wr)) (fun _ i _ => n2 - (RowKit.intOf i).toNat)
        case atStart => exact ⟨0, j, Nat.zero_le _, Nat.le_refl _, rfl, rfl, HT0⟩
        case round =>
          obtain ⟨i', m', hi, hm, rfl, rfl, HT⟩ := hrel
          have i0 : (0 : Int) ≤ i' := by omega
          have m0' : (0 : Int) ≤ m' := by omega
          have m300 : (m' : Int) ≤ 300 := by omega
          by_cases hc : i' < n2 ∧ 0 < m'
          · obtain ⟨c1, c2⟩ := hc
            obtain ⟨m, rfl⟩ : ∃ m, m' = m + 1 := ⟨m' - 1, by omega⟩
            obtain ⟨z, hz⟩ : ∃ z, zs2[i']? = some z := ⟨_, List.getElem?_eq_getElem (by rw [HN2.out]; exact c1)⟩
            obtain ⟨b, off, rfl, hlt, hmz⟩ := HC2.out i' z hz
            have mz := (HT.out.2.cell (p := ⟨b, off + i', none⟩) hlt).trans hmz
            obtain ⟨q, hq⟩ : ∃ q : Nat, (q : Int) = z % ((m : Int) + 1) := ⟨(z % ((m : Int) + 1)).toNat, by have := Int.emod_nonneg z (show (m : Int) + 1 ≠ 0 by omega); omega⟩
            have hqm : q < m + 1 := by have := Int.emod_lt_of_pos z (show (0 : Int) < (m : Int) + 1 by omega); omega
            have PZ := Lib.hid (fun wx => PA.out z ((m : Int) + 1) wx (by omega) (by omega))
            rw [← hq] at PZ
            have CQ := Lib.hid (Stands.remove HS.out HT.out q hqm)
            have t1 : (i' : Int) < n2 := by omega
            have t2 : (0 : Int) < (m : Int) + 1 := by omega
            clear hz hmz hq c1 c2
            go_wp2_with (first
              | (go_at_call 6; refine (PZ.out _).mono ?_; rintro e w2 ⟨rfl, rfl⟩)
              | (go_at_call 12; refine (CQ.out).mono ?_; rintro e w3 ⟨rfl, H3⟩; simp only [Nat.add_sub_cancel] at H3)
              | (go_at_call 9; refine (Stands.len HS.out H3.out).mono ?_; rintro e w4 ⟨rfl, H4⟩)
              | (go_at_call 11; refine (Stands.height HS.out H4.out).mono ?_; rintro e w5 ⟨⟨ht, rfl, hl⟩, H5⟩)
              | (go_at_call 10; refine (LA.out ht _ (by have := hl.out.2; omega)).mono ?_; rintro e w6 ⟨⟨c, rfl, hcl, hcm⟩, rfl⟩; have hcj : (c : Int) ≤ (m : Int) := by have := hl.out.1; omega))
            go_roundw
            case rel => exact ⟨i' + 1, m, by omega, by omega, by go_num, by go_num, H5⟩
            case measure => simp [RowKit.intOf]; omega
          · have hcs : (i' < n2 ∧ m' = 0) ∨ n2 ≤ i' := by omega
            clear hc
            have HT1 := HT
            clear HT
            rcases hcs with ⟨c1, rfl⟩ | c1
            · have t1 : (i' : Int) < n2 := by omega
              clear c1
              go_wp2
              go_loopw [13] (fun i wr => ∃ q : Nat, q ≤ 0 ∧ i = .int .i64 q ∧ Hid (Stands Rep w a 0 wr)) (fun i _ => 0 - (RowKit.intOf i).toNat)
              case atStart => exact ⟨0, Nat.zero_le _, rfl, HT1⟩
              case round =>
                obtain ⟨q, hq, rfl, HT⟩ := hrel
                have q0 : (0 : Int) ≤ q := by omega
                obtain rfl : q = 0 := by omega
                go_wp2_with (go_at_call 7; refine (W8.out _).mono ?_; rintro e w4 ⟨rfl, hb4⟩; have HB4 := Lib.hid (HT.out.2.trans (hb4.mono HT.out.2.size)); clear hb4)
                go_ret
                exact ⟨rfl, HB4.out⟩
            · have t1 : (n2 : Int) ≤ i' := by omega
              clear c1
              go_wp2
              go_loopw [13] (fun i wr => ∃ q : Nat, q ≤ m' ∧ i = .int .i64 q ∧ Hid (Stands Rep w a m' wr)) (fun i _ => m' - (RowKit.intOf i).toNat)
              case atStart => exact ⟨0, Nat.zero_le _, rfl, HT1⟩
              case round =>
                obtain ⟨q, hq, rfl, HT⟩ := hrel
                have q0 : (0 : Int) ≤ q := by omega
                by_cases hql : q < m'
                · have ql : (q : Int) < m' := by omega
                  have CB := Lib.hid (Stands.ahead HS.out HT.out q hql (by omega))
                  go_wp2_with (first
                    | (go_at_call 14; refine (CB.out).mono ?_; rintro e w2 ⟨pp, rfl, hpp, H2⟩)
                    | (go_at_call 13; refine (Stands.find HS.out H2.out hpp).mono ?_; rintro e w3 ⟨rfl, H3⟩))
                  go_roundw
                  case rel => exact ⟨q + 1, by omega, by go_num, H3⟩
                  case measure => simp [RowKit.intOf]; omega
                · obtain rfl : q = m' := by omega
                  go_wp2_with (go_at_call 7; refine (W8.out _).mono ?_; rintro e w4 ⟨rfl, hb4⟩; have HB4 := Lib.hid (HT.out.2.trans (hb4.mono HT.out.2.size)); clear hb4)
                  go_ret
                  exact ⟨rfl, HB4.out⟩
end Go.Proofs.Ytfkoephfcjpioaa
