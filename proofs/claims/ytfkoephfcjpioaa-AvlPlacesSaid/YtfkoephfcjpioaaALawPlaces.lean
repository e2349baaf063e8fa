/- AvlPlaces out of what is asked of a tree's calls. -/
import Derived.Test.YtfkoephfcjpioaaALawBalance
namespace Go.Proofs.Ytfkoephfcjpioaa
open Go Go.RowKit

variable {Rep : Nat → World → Addr → List It → Nat → Prop}

/-- The items that the law puts: their sizes by numbers. -/
def itemsOf (zs : List Int) : Nat → List It
  | 0 => []
  | k + 1 => itemsOf zs k ++ [((k : Int), ((zs[k]?.getD 0) % 5).toNat)]
theorem items_len (zs : List Int) : ∀ k, (itemsOf zs k).length = k
  | 0 => rfl
  | k + 1 => by rw [itemsOf, List.length_append, items_len zs k]; rfl
theorem items_put (zs : List Int) (k : Nat) : itemsOf zs (k + 1) = putL (itemsOf zs k) k ((k : Int), ((zs[k]?.getD 0) % 5).toNat) := by
  have := putL_end (itemsOf zs k) ((k : Int), ((zs[k]?.getD 0) % 5).toNat)
  rw [items_len] at this
  rw [this, itemsOf]
theorem items_total (zs : List Int) (k : Nat) : total (itemsOf zs (k + 1)) = total (itemsOf zs k) + ((zs[k]?.getD 0) % 5).toNat := by
  rw [itemsOf, total_append, total_one]
theorem items_le (zs : List Int) : ∀ k, total (itemsOf zs k) ≤ 5 * k
  | 0 => by simp [itemsOf, total]
  | k + 1 => by
    have := items_le zs k
    rw [items_total]
    omega

/-- A tree of just these items. -/
def Holds (Rep : Nat → World → Addr → List It → Nat → Prop) (w : World) (a : Addr) (L : List It) (wr : World) : Prop :=
  (∃ h, Rep w.heap.size wr a L h) ∧ Below w.heap.size w wr

theorem Holds.insert (S : Says Rep) {w wr : World} {a : Addr} {L : List It} (h : Holds Rep w a L wr) (hm : L.length < 65536) (i : Nat) (hi : i ≤ L.length) (key : Int) (size : Nat) (h2 : size ≤ 5) :
    Calls Try.prog 8 #[.pointer (some a), .int .i64 i, .int .i64 key, .int .i64 size] wr fun e w' => e = .returned (.bool true) ∧ Hid (Holds Rep w a (putL L i (key, size)) w') := by
  obtain ⟨⟨ht, hr⟩, hb⟩ := h
  refine (S.insert _ _ _ _ _ i key size hr hb.size hi (by omega) hm).mono ?_
  rintro e w' ⟨he, hr', hb'⟩
  exact ⟨he, hr', hb.trans hb'⟩
theorem Holds.sum (S : Says Rep) {w wr : World} {a : Addr} {L : List It} (h : Holds Rep w a L wr) :
    Calls Try.prog 15 #[.pointer (some a)] wr fun e w' => e = .returned (.int .i64 (total L)) ∧ Hid (Holds Rep w a L w') := by
  obtain ⟨⟨ht, hr⟩, hb⟩ := h
  exact (S.sum _ _ _ _ _ hr hb.size).mono fun _ _ ⟨he, hr', hb'⟩ => ⟨he, ⟨_, hr'⟩, hb.trans hb'⟩
theorem Holds.find (S : Says Rep) {w wr : World} {a : Addr} {L : List It} (h : Holds Rep w a L wr) (p i o : Nat) (hp : p ≤ 9223372036854775807) (hf : findL L p = (i, o)) :
    Calls Try.prog 13 #[.pointer (some a), .int .i64 p] wr fun e w' => e = .returned (.tuple #[.int .i64 i, .int .i64 o]) ∧ Hid (Holds Rep w a L w') := by
  obtain ⟨⟨ht, hr⟩, hb⟩ := h
  refine (S.find _ _ _ _ _ p hr hb.size hp).mono ?_
  rintro e w' ⟨he, hr', hb'⟩
  rw [hf] at he
  exact ⟨he, ⟨_, hr'⟩, hb.trans hb'⟩
theorem Holds.get (S : Says Rep) {w wr : World} {a : Addr} {L : List It} (h : Holds Rep w a L wr) (i : Nat) (x : It) (hx : L[i]? = some x) :
    Calls Try.prog 16 #[.pointer (some a), .int .i64 i] wr fun e w' => e = .returned (.tuple #[.int .i64 x.1, .int .i64 x.2, .bool true]) ∧ Hid (Holds Rep w a L w') := by
  obtain ⟨⟨ht, hr⟩, hb⟩ := h
  exact (S.get _ _ _ _ _ i x hr hb.size hx).mono fun _ _ ⟨he, hr', hb'⟩ => ⟨he, ⟨_, hr'⟩, hb.trans hb'⟩
theorem Holds.ahead (S : Says Rep) {w wr : World} {a : Addr} {L : List It} (h : Holds Rep w a L wr) (i : Nat) (hi : i ≤ 9223372036854775807) :
    Calls Try.prog 14 #[.pointer (some a), .int .i64 i] wr fun e w' => e = .returned (.int .i64 (before L (i : Int))) ∧ Hid (Holds Rep w a L w') := by
  obtain ⟨⟨ht, hr⟩, hb⟩ := h
  exact (S.before _ _ _ _ _ i hr hb.size hi).mono fun _ _ ⟨he, hr', hb'⟩ => ⟨he, ⟨_, hr'⟩, hb.trans hb'⟩

set_option maxRecDepth 100000 in
set_option maxHeartbeats 8000000 in
theorem places_law (S : Says Rep) (A1 : Option Addr) (n1 cap1 : Nat) (zs1 : List Int) (at_ : Int) (w : World) (h1 : Nums w A1 n1 cap1 zs1) :
    Calls Try.prog 4 #[.slice A1 n1 cap1, .int .i64 at_] w fun e w' => e = .returned (.bool true) ∧ Below w.heap.size w w' := by
  obtain ⟨kk, hkk⟩ : ∃ kk : Nat, (kk : Int) = at_ % 50 := ⟨(at_ % 50).toNat, by omega⟩
  have hk3 : kk < 50 := by omega
  have P1 := Lib.hid (fun wx => place_any at_ 50 wx (by omega) (by omega))
  rw [← hkk] at P1
  have PA := Lib.hid place_any
  obtain ⟨g1, g2, g3, hc1⟩ := h1
  unfold maxLen at g3
  have HC1 := Lib.hid hc1
  have HN1 := Lib.hid g1
  have HS := Lib.hid S
  have W8 := Lib.hid (awake_any S)
  clear S hc1 hkk g1
  by_cases hbig : 100 < n1
  · go_enter Try.func4, Try.ntmps4
    go_wp2_with (first
      | (go_at_call 5; refine (HS.out.new _).mono ?_; rintro e w1 ⟨a, rfl, hr1, hb1⟩; have HB1 := Lib.hid hb1; clear hr1 hb1)
      | (go_at_call 7; refine (W8.out _).mono ?_; rintro e w3 ⟨rfl, hb3⟩; have HB3 := Lib.hid (HB1.out.trans (hb3.mono HB1.out.size)); clear hb3))
    go_ret
    exact ⟨rfl, HB3.out⟩
  · have s1 : n1 ≤ 100 := by omega
    clear hbig
    go_enter Try.func4, Try.ntmps4
    go_wp2_with (first
      | (go_at_call 5; refine (HS.out.new _).mono ?_; rintro e w1 ⟨a, rfl, hr1, hb1⟩; have HS1 := Lib.hid (show Holds Rep w a (itemsOf zs1 0) w1 from ⟨⟨0, hr1⟩, hb1⟩); clear hr1 hb1))
    go_loopw [6, 7] (fun s i wr => ∃ (j : Nat) (T : Int), j ≤ n1 ∧ s = .int .i64 T ∧ i = .int .i64 j ∧ Hid (T = (total (itemsOf zs1 j) : Nat)) ∧ Hid (Holds Rep w a (itemsOf zs1 j) wr)) (fun _ i _ => n1 - (RowKit.intOf i).toNat)
    case atStart => exact ⟨0, 0, Nat.zero_le _, rfl, rfl, rfl, HS1.out⟩
    case round =>
      obtain ⟨j, T, hj, rfl, rfl, HTo, HT⟩ := hrel
      have hle := items_le zs1 j
      have j0 : (0 : Int) ≤ j := by omega
      have hT0 : 0 ≤ T := by have := HTo.out; omega
      have hT1 : T ≤ 500 := by have := HTo.out; omega
      clear hle
      by_cases hjn : j < n1
      · obtain ⟨z, hz⟩ : ∃ z, zs1[j]? = some z := ⟨_, List.getElem?_eq_getElem (by rw [HN1.out]; exact hjn)⟩
        obtain ⟨b, off, rfl, hlt, hm⟩ := HC1.out j z hz
        have m0 := (HT.out.2.cell (p := ⟨b, off + j, none⟩) hlt).trans hm
        obtain ⟨q, hq⟩ : ∃ q : Nat, (q : Int) = z % 5 := ⟨(z % 5).toNat, by omega⟩
        have hq5 : (q : Int) < 5 := by omega
        have hq0 : (0 : Int) ≤ q := by omega
        have PZ := Lib.hid (fun wx => PA.out z 5 wx (by omega) (by omega))
        rw [← hq] at PZ
        have hqz : (zs1[j]?.getD 0 % 5).toNat = q := by rw [hz]; show (z % 5).toNat = q; omega
        have CQ := Lib.hid (show Calls Try.prog 8 #[.pointer (some a), .int .i64 j, .int .i64 j, .int .i64 q] wr fun e w' => e = .returned (.bool true) ∧ Hid (Holds Rep w a (itemsOf zs1 (j + 1)) w') by
          have := Holds.insert HS.out HT.out (by rw [items_len]; omega) j (by rw [items_len]; omega) j q (by omega)
          rw [items_put, hqz]; exact this)
        have HTq := Lib.hid (show T + q = (total (itemsOf zs1 (j + 1)) : Nat) by rw [items_total, hqz]; have := HTo.out; omega)
        have hlt' := hlt
        have HM := Lib.hid hm
        have jn : (j : Int) < n1 := by omega
        clear hz hm hq hqz
        go_wp2_with (first
          | (go_at_call 8; refine (CQ.out).mono ?_; rintro e w3 ⟨rfl, H3⟩; have m3 := (H3.out.2.cell (p := ⟨b, off + j, none⟩) hlt').trans HM.out)
          | (go_at_call 6; refine (PZ.out _).mono ?_; rintro e w2 ⟨rfl, rfl⟩))
        go_roundw
        case rel => exact ⟨j + 1, T + q, by omega, rfl, by go_num, HTq.out, H3⟩
        case measure => simp [RowKit.intOf]; omega
      · obtain rfl : j = n1 := by omega
        obtain ⟨tt, rfl⟩ : ∃ tt : Nat, T = tt := ⟨T.toNat, by omega⟩
        have htt : tt = total (itemsOf zs1 j) := by have := HTo.out; omega
        obtain ⟨L, hL⟩ : ∃ L, L = itemsOf zs1 j := ⟨_, rfl⟩
        have hlen : L.length = j := by rw [hL, items_len]
        rw [← hL] at HT htt
        have CF := Lib.hid (show ∀ wx, Holds Rep w a L wx → Calls Try.prog 13 #[.pointer (some a), .int .i64 ((tt : Int) + (kk : Int))] wx fun e w' => e = .returned (.tuple #[.int .i64 j, .int .i64 0]) ∧ Hid (Holds Rep w a L w') by
          intro wx hx
          have := Holds.find HS.out hx (tt + kk) j 0 (by omega) (by rw [find_above L (tt + kk) (by omega), hlen])
          simpa using this)
        have CS := Lib.hid (show ∀ wx, Holds Rep w a L wx → Calls Try.prog 15 #[.pointer (some a)] wx fun e w' => e = .returned (.int .i64 tt) ∧ Hid (Holds Rep w a L w') by
          intro wx hx
          have := Holds.sum HS.out hx
          rwa [← htt] at this)
        have k50 : (kk : Int) < 50 := by omega
        have k0 : (0 : Int) ≤ kk := by omega
        have HLn := Lib.hid hlen
        have HTT := Lib.hid htt
        clear hL htt hlen HTo hj hjn
        by_cases h0 : tt = 0
        · have H0 := Lib.hid (show (tt : Int) = 0 by omega)
          clear h0
          go_wp2_with (first
            | (go_at_call 6; refine (P1.out _).mono ?_; rintro e w2 ⟨rfl, rfl⟩)
            | (go_at_call 13; refine (CF.out _ HT.out).mono ?_; rintro e w3 ⟨rfl, H3⟩)
            | (go_at_call 15; refine (CS.out _ H3.out).mono ?_; rintro e w4 ⟨rfl, H4⟩; have e9 := H0.out)
            | (go_at_call 7; refine (W8.out _).mono ?_; rintro e w5 ⟨rfl, hb5⟩; have HB5 := Lib.hid (H4.out.2.trans (hb5.mono H4.out.2.size)); clear hb5))
          go_ret
          exact ⟨rfl, HB5.out⟩
        · obtain ⟨p, hp⟩ : ∃ p : Nat, (p : Int) = at_ % tt := ⟨(at_ % tt).toNat, by have := Int.emod_nonneg at_ (show (tt : Int) ≠ 0 by omega); omega⟩
          have hpt : p < tt := by have := Int.emod_lt_of_pos at_ (show (0 : Int) < tt by omega); omega
          have P2 := Lib.hid (fun wx => PA.out at_ tt wx (by omega) (by omega))
          rw [← hp] at P2
          obtain ⟨x, f1, f2, f3, f4⟩ := find_within L p (by rw [← HTT.out]; exact hpt)
          obtain ⟨i, hi⟩ : ∃ i, i = (findL L p).1 := ⟨_, rfl⟩
          obtain ⟨o, ho⟩ : ∃ o, o = (findL L p).2 := ⟨_, rfl⟩
          have hil : i < L.length := by rw [hi]; exact (List.getElem?_eq_some_iff.1 f1).1
          rw [← hi] at f1 f3 f4
          rw [← ho] at f2 f3
          obtain ⟨b1, hb1⟩ : ∃ b1, b1 = before L (i : Nat) := ⟨_, rfl⟩
          have hx5 : x.2 ≤ 1000000 := by
            have := HTT.out
            have h2 : before L ((i + 1 : Nat) : Int) ≤ total L := by
              have : ∀ (L : List It) (k : Nat), before L (k : Int) ≤ total L := by
                intro L
                induction L with
                | nil => intro k; simp [before]
                | cons y t ih =>
                  intro k
                  match k with
                  | 0 => rw [show ((0 : Nat) : Int) = 0 from rfl, before_zero]; omega
                  | k + 1 =>
                    have := ih k
                    rw [before_cons, show total (y :: t) = y.2 + total t by simp [total]]
                    omega
              exact this L (i + 1)
            omega
          have c2 : ∀ wx, Holds Rep w a L wx → Calls Try.prog 13 #[.pointer (some a), .int .i64 p] wx fun e w' => e = .returned (.tuple #[.int .i64 i, .int .i64 o]) ∧ Hid (Holds Rep w a L w') := fun wx hx => Holds.find HS.out hx p i o (by omega) (by rw [hi, ho])
          have c3 : ∀ wx, Holds Rep w a L wx → Calls Try.prog 16 #[.pointer (some a), .int .i64 i] wx fun e w' => e = .returned (.tuple #[.int .i64 x.1, .int .i64 x.2, .bool true]) ∧ Hid (Holds Rep w a L w') := fun wx hx => Holds.get HS.out hx i x f1
          have c4 : ∀ wx, Holds Rep w a L wx → Calls Try.prog 14 #[.pointer (some a), .int .i64 i] wx fun e w' => e = .returned (.int .i64 b1) ∧ Hid (Holds Rep w a L w') := fun wx hx => by
            have := HLn.out
            rw [hb1]; exact Holds.ahead HS.out hx i (by omega)
          have c5 : ∀ wx, Holds Rep w a L wx → Calls Try.prog 14 #[.pointer (some a), .int .i64 ((i : Int) + 1)] wx fun e w' => e = .returned (.int .i64 ((b1 : Int) + (x.2 : Int))) ∧ Hid (Holds Rep w a L w') := fun wx hx => by
            have hl := HLn.out
            have := Holds.ahead HS.out hx (i + 1) (by omega)
            rw [f4, ← hb1] at this
            simpa using this
          rw [← hb1] at f3
          have C2 := Lib.hid c2
          have C3 := Lib.hid c3
          have C4 := Lib.hid c4
          have C5 := Lib.hid c5
          have hij : i < j := by rw [← HLn.out]; exact hil
          obtain ⟨xk, xs⟩ := x
          dsimp only at f2 hx5
          have e1 : (o : Int) < xs := by omega
          have e2 : (0 : Int) ≤ o := by omega
          have e3 : (b1 : Int) + o = p := by omega
          have e4 : (b1 : Int) ≤ 500 := by omega
          have e5 : (i : Int) < 100 := by omega
          have e6 : (0 : Int) ≤ i := by omega
          have e7 : (xs : Int) ≤ 1000000 := by omega
          have e8 : (0 : Int) ≤ b1 := by omega
          have HE9 := Lib.hid (show ¬ (tt : Int) = 0 by omega)
          have e10 : (o : Int) ≤ 1000000 := by omega
          clear c2 c3 c4 c5 f1 f2 f3 f4 hi ho hb1 hx5 hp h0 hil hij
          go_wp2_with fail
          refine (P1.out _).mono ?_
          rintro e w2 ⟨rfl, rfl⟩
          clear P1
          go_wp2_with fail
          refine (CF.out _ HT.out).mono ?_
          rintro e w3 ⟨rfl, H3⟩
          clear CF
          go_wp2_with fail
          refine (CS.out _ H3.out).mono ?_
          rintro e w4 ⟨rfl, H4⟩
          have e9 := HE9.out
          go_wp2_with fail
          refine (P2.out _).mono ?_
          rintro e w5 ⟨rfl, rfl⟩
          clear P2 e9
          go_wp2_with fail
          refine (C2.out _ H4.out).mono ?_
          rintro e w6 ⟨rfl, H5⟩
          go_wp2_with fail
          refine (C3.out _ H5.out).mono ?_
          rintro e w7 ⟨rfl, H6⟩
          go_wp2_with fail
          refine (C4.out _ H6.out).mono ?_
          rintro e w8 ⟨rfl, H7⟩
          go_wp2_with fail
          refine (C5.out _ H7.out).mono ?_
          rintro e w9 ⟨rfl, H8⟩
          go_wp2_with fail
          refine (C4.out _ H8.out).mono ?_
          rintro e w10 ⟨rfl, H9⟩
          go_wp2_with fail
          refine (W8.out _).mono ?_
          rintro e w11 ⟨rfl, hb11⟩
          have HB := Lib.hid (H9.out.2.trans (hb11.mono H9.out.2.size))
          clear hb11
          go_wp2_with fail
          go_ret
          exact ⟨rfl, HB.out⟩
end Go.Proofs.Ytfkoephfcjpioaa
