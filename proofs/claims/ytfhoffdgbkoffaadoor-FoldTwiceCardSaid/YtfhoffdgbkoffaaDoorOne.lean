/- The document's own reading of one unit, by its contract. -/
import Derived.Test.YtfhoffdgbkoffaaDoorBits
namespace Go.Proofs.YtfhoffdgbkoffaaDoor
open Go Go.RowKit Go.Lib

/-- One theorem's conclusion, for short. -/
def OneSays (s : ByteArray) (i : Nat) (N C : Int) (w : World) : Prop :=
  Calls Tryd.prog 43 #[.string s, .int .i64 i] w fun e w' => e = .returned (.agg #[.int .i64 i, .int .i64 N, .int .i64 C]) ∧ Below w.heap.size w w'

set_option maxRecDepth 100000 in
set_option maxHeartbeats 1000000 in
theorem one_ascii (s : ByteArray) (i : Nat) (w : World) (hi : i < s.size) (_hs : s.size ≤ 1000000000000) (hb : s[i].toNat < 128) : OneSays s i 1 s[i].toNat w := by
  unfold OneSays
  go_enter Tryd.func43, Tryd.ntmps43
  go_wp2
  exact bodyPost_ret (v := .agg #[.int .i64 i, .int .i64 1, .int .i64 s[i].toNat]) (by simp [results, Tryd.results43, go_sem]) rfl ⟨rfl, ((Below.refl _ _).alloc (Nat.le_refl _) _).alloc (by simp) _⟩

set_option maxRecDepth 100000 in
set_option maxHeartbeats 1000000 in
theorem one_none (s : ByteArray) (i : Nat) (w : World) (hi : i < s.size) (_hs : s.size ≤ 1000000000000) (hb : (128 ≤ s[i].toNat ∧ s[i].toNat < 194) ∨ 244 < s[i].toNat) : OneSays s i 1 (-1 - s[i].toNat) w := by
  unfold OneSays
  have hbb := s[i].toNat_lt
  rcases hb with ⟨h1, h2⟩ | h1
  all_goals
    go_enter Tryd.func43, Tryd.ntmps43
    go_wp2
    exact bodyPost_ret (v := .agg #[.int .i64 i, .int .i64 1, .int .i64 (-1 - s[i].toNat)]) (by simp [results, Tryd.results43, go_sem]) rfl ⟨rfl, ((Below.refl _ _).alloc (Nat.le_refl _) _).alloc (by simp) _⟩

set_option maxRecDepth 100000 in
set_option maxHeartbeats 1000000 in
theorem one_short (s : ByteArray) (i : Nat) (w : World) (hi : i < s.size) (hs : s.size ≤ 1000000000000) (hb : (194 ≤ s[i].toNat ∧ s[i].toNat ≤ 223 ∧ s.size < i + 2) ∨ (224 ≤ s[i].toNat ∧ s[i].toNat ≤ 239 ∧ s.size < i + 3) ∨ (240 ≤ s[i].toNat ∧ s[i].toNat ≤ 244 ∧ s.size < i + 4)) : OneSays s i 1 (-1 - s[i].toNat) w := by
  unfold OneSays
  have hbb := s[i].toNat_lt
  rcases hb with ⟨h1, h2, h3⟩ | ⟨h1, h2, h3⟩ | ⟨h1, h2, h3⟩
  all_goals
    go_enter Tryd.func43, Tryd.ntmps43
    go_wp2
    exact bodyPost_ret (v := .agg #[.int .i64 i, .int .i64 1, .int .i64 (-1 - s[i].toNat)]) (by simp [results, Tryd.results43, go_sem]) rfl ⟨rfl, ((Below.refl _ _).alloc (Nat.le_refl _) _).alloc (by simp) _⟩

/-- The j-th byte from a place on. -/
def bt (s : ByteArray) (i j : Nat) : Nat := ((s.data.toList.drop i).getD j 0).toNat
def vv (s : ByteArray) (i m : Nat) : Nat → Nat
  | 0 => m
  | k + 1 => vv s i m k * 64 + bt s i (k + 1) % 64
theorem bt_at (s : ByteArray) (i j : Nat) (h : i + j < s.size) : bt s i j = s[i + j].toNat := by
  have hl : i + j < s.data.toList.length := by rw [← Lib.size_eq]; exact h
  rw [bt, List.getD, List.getElem?_drop, List.getElem?_eq_getElem hl]
  rfl
theorem dec_bt (s : ByteArray) (i : Nat) : decodeL (s.data.toList.drop i) = decodeN (s.size - i) (bt s i 0) (bt s i 1) (bt s i 2) (bt s i 3) := by
  rw [decodeL_N, List.length_drop, ← Lib.size_eq]; rfl

theorem bad_val (s : ByteArray) (i : Nat) (hi : i < s.size) (h : decodeL (s.data.toList.drop i) = (65533, 1)) : uVal i (s.data.toList.drop i) = .agg #[.int .i64 i, .int .i64 1, .int .i64 (-1 - s[i].toNat)] := by
  have hb : uBad (s.data.toList.drop i) = true := by simp [uBad, h]
  simp only [uVal, uCode, hb, if_true, getD_drop_at s i hi, h]
  rfl
theorem good_val (s : ByteArray) (i n V : Nat) (hn : 2 ≤ n) (h : decodeL (s.data.toList.drop i) = (V, n)) : uVal i (s.data.toList.drop i) = .agg #[.int .i64 i, .int .i64 n, .int .i64 V] := by
  have hb : uBad (s.data.toList.drop i) = false := by simp [uBad, h]; omega
  simp [uVal, uCode, hb, h]
theorem ascii_val (s : ByteArray) (i : Nat) (hi : i < s.size) (hb : s[i].toNat < 128) : uVal i (s.data.toList.drop i) = .agg #[.int .i64 i, .int .i64 1, .int .i64 s[i].toNat] := by
  have h : decodeL (s.data.toList.drop i) = (s[i].toNat, 1) := by
    rw [dec_bt, bt_at s i 0 (by omega)]
    exact decodeN_ascii _ _ _ _ _ hb
  have hbd : uBad (s.data.toList.drop i) = false := by simp [uBad, h]; omega
  simp [uVal, uCode, hbd, h]

theorem dec2 (L b0 b1 b2 b3 : Nat) (h1 : 194 ≤ b0) (h2 : b0 ≤ 223) : decodeN L b0 b1 b2 b3 = if 1 < L ∧ b1 / 64 = 2 then (b0 % 32 * 64 + b1 % 64, 2) else (65533, 1) := by
  unfold decodeN
  repeat' split
  all_goals first | rfl | (exfalso; omega)
theorem dec3 (L b0 b1 b2 b3 : Nat) (h1 : 224 ≤ b0) (h2 : b0 ≤ 239) : decodeN L b0 b1 b2 b3 = if (1 < L ∧ b1 / 64 = 2) ∧ (2 < L ∧ b2 / 64 = 2) ∧ 2048 ≤ (b0 % 16 * 64 + b1 % 64) * 64 + b2 % 64 ∧ ((b0 % 16 * 64 + b1 % 64) * 64 + b2 % 64 < 55296 ∨ 57344 ≤ (b0 % 16 * 64 + b1 % 64) * 64 + b2 % 64) then ((b0 % 16 * 64 + b1 % 64) * 64 + b2 % 64, 3) else (65533, 1) := by
  unfold decodeN
  repeat' split
  all_goals first | rfl | (exfalso; omega) | (congr 1; omega)
theorem dec4 (L b0 b1 b2 b3 : Nat) (h1 : 240 ≤ b0) (h2 : b0 ≤ 244) : decodeN L b0 b1 b2 b3 = if (1 < L ∧ b1 / 64 = 2) ∧ (2 < L ∧ b2 / 64 = 2) ∧ (3 < L ∧ b3 / 64 = 2) ∧ 65536 ≤ ((b0 % 8 * 64 + b1 % 64) * 64 + b2 % 64) * 64 + b3 % 64 ∧ ((b0 % 8 * 64 + b1 % 64) * 64 + b2 % 64) * 64 + b3 % 64 ≤ 1114111 then (((b0 % 8 * 64 + b1 % 64) * 64 + b2 % 64) * 64 + b3 % 64, 4) else (65533, 1) := by
  unfold decodeN
  repeat' split
  all_goals first | rfl | (exfalso; omega) | (congr 1; omega)


set_option maxRecDepth 100000 in
set_option maxHeartbeats 2000000 in
theorem one_lead2 (s : ByteArray) (i : Nat) (w : World) (hi : i < s.size) (hs : s.size ≤ 1000000000000) (h1 : 194 ≤ s[i].toNat) (h2 : s[i].toNat ≤ 223) (h3 : i + 2 ≤ s.size) :
    Calls Tryd.prog 43 #[.string s, .int .i64 i] w fun e w' => e = .returned (uVal i (s.data.toList.drop i)) ∧ Below w.heap.size w w' := by
  have hbb := s[i].toNat_lt
  have e1 := and31 s[i].toNat (by omega)
  have hd := dec_bt s i
  rw [dec2 _ _ _ _ _ (by rw [bt_at s i 0 (by omega)]; exact h1) (by rw [bt_at s i 0 (by omega)]; exact h2)] at hd
  have hb0 : bt s i 0 = s[i].toNat := bt_at s i 0 (by omega)
  obtain ⟨m, hm⟩ : ∃ m, m = s[i].toNat % 32 := ⟨_, rfl⟩
  have hm0 : vv s i m 0 = m := rfl
  have hmb : bt s i 0 % 32 = m := by rw [hb0, hm]
  have hmlt : m < 32 := by omega
  rw [← hm] at e1
  have HD := Lib.hid hd
  have HMB := Lib.hid hmb
  clear hm hd hb0 hmb hm0
  have g0 : decide ((s[i].toNat : Int) < 128) = false := by simp; omega
  have g1 : decide ((194 : Int) ≤ (s[i].toNat : Int)) = true := by simp; omega
  have g2 : decide ((s[i].toNat : Int) ≤ 223) = true := by simp; omega
  have gz : decide ((s.size : Int) < (i : Int) + 2) = false := by simp; omega
  go_enter Tryd.func43, Tryd.ntmps43
  go_wp2
  have hbad0 := bad_val s i hi
  have HBV := Lib.hid hbad0
  clear hbad0
  go_loop [8, 9] (fun v k => ∃ kk V : Nat, 1 ≤ kk ∧ kk ≤ 2 ∧ k = .int .i64 kk ∧ v = .int .i64 V ∧ V < 32 * 64 ^ (kk - 1) ∧ Hid (V = vv s i m (kk - 1) ∧ ∀ j, 1 ≤ j → j < kk → bt s i j / 64 = 2)) (fun _ k => 2 - (RowKit.intOf k).toNat)
  case atStart => exact ⟨1, m, by omega, by omega, rfl, rfl, by simpa using hmlt, ⟨rfl, fun j a b => by omega⟩⟩
  case round =>
    obtain ⟨kk, V, hk1, hk2, rfl, rfl, hVlt, HV⟩ := hrel
    by_cases hkn : kk < 2
    · have hin : i + kk < s.size := by omega
      have hx := s[i + kk].toNat_lt
      have hbt := bt_at s i kk hin
      have ht := u8_top s[i + kk]
      by_cases hc : s[i + kk].toNat / 64 = 2
      · have hc1 : (bits .and .u8 (s[i + kk].toNat : Int) 192 != 128) = false := by rw [ht, hc]; rfl
        obtain ⟨X, hX⟩ : ∃ X, X = s[i + kk].toNat % 64 := ⟨_, rfl⟩
        have hlow := u8_low s[i + kk]
        rw [← hX] at hlow
        have hXlt : X < 64 := by omega
        have hVb : V < 2 ^ 20 := by
          have hkc : kk = 1 ∨ kk = 2 ∨ kk = 3 := by omega
          rcases hkc with rfl | rfl | rfl <;> simp at hVlt <;> omega
        have hor := or_i64 (V * 64) X (by omega) (by omega) hXlt
        have hV64 : ((V * 64 : Nat) : Int) = (V : Int) * 64 := by omega
        rw [hV64] at hor
        obtain ⟨V', hV'⟩ : ∃ V', V' = V * 64 + X := ⟨_, rfl⟩
        rw [← hV'] at hor
        have HN := Lib.hid (show V' = vv s i m kk ∧ ∀ j, 1 ≤ j → j < kk + 1 → bt s i j / 64 = 2 from by
          obtain ⟨q1, q2⟩ := HV.out
          refine ⟨?_, fun j a b => ?_⟩
          · obtain ⟨kp, rfl⟩ : ∃ kp, kk = kp + 1 := ⟨kk - 1, by omega⟩
            rw [hV', hX, vv, hbt, q1]; rfl
          · by_cases hjk : j = kk
            · subst hjk; rw [hbt]; exact hc
            · exact q2 j a (by omega))
        have hVn : V' < 32 * 64 ^ (kk + 1 - 1) := by
          have hkc : kk = 1 ∨ kk = 2 ∨ kk = 3 := by omega
          rcases hkc with rfl | rfl | rfl <;> simp at hVlt ⊢ <;> omega
        have hkp : kk + 1 - 1 = kk := by omega
        have HKP := Lib.hid hkp
        have HVN := Lib.hid hVn
        clear hX hV' hV64 ht hbt hVlt hc hkp hVn
        go_wp2
        go_round
        case rel => exact ⟨kk + 1, V', by omega, by omega, by go_num, rfl, HVN.out, by rw [HKP.out]; exact HN.out⟩
        case measure => simp [RowKit.intOf]; omega
      · have hc1 : (bits .and .u8 (s[i + kk].toNat : Int) 192 != 128) = true := by
          rw [ht]; simp; omega
        have hbad : decodeL (s.data.toList.drop i) = (65533, 1) := by
          rw [HD.out, if_neg]
          intro hall
          apply hc
          rw [← hbt]
          have hkc : kk = 1 := by omega
          subst hkc; exact hall.2
        have HR := Lib.hid (HBV.out hbad)
        clear ht hbt hVlt hc hbad
        go_wp2
        exact bodyPost_ret (v := .agg #[.int .i64 i, .int .i64 1, .int .i64 (-1 - s[i].toNat)]) (by simp [results, Tryd.results43, go_sem]) rfl ⟨by rw [HR.out], ((Below.refl _ _).alloc (Nat.le_refl _) _).alloc (by simp) _⟩
    · obtain rfl : kk = 2 := by omega
      obtain ⟨q1, q2⟩ := HV.out
      have hV : V = m * 64 + bt s i 1 % 64 := q1
      have hdec : decodeL (s.data.toList.drop i) = (V, 2) := by
        rw [HD.out, if_pos ⟨by omega, q2 1 (by omega) (by omega)⟩, HMB.out, ← hV]
      have HR := Lib.hid (good_val s i 2 V (by omega) hdec)
      have hV1 : V < 2048 := by simp at hVlt; omega
      clear q1 q2 hV hdec hVlt
      go_wp2
      exact bodyPost_ret (v := .agg #[.int .i64 i, .int .i64 2, .int .i64 V]) (by simp [results, Tryd.results43, go_sem]) rfl ⟨by rw [HR.out]; rfl, ((Below.refl _ _).alloc (Nat.le_refl _) _).alloc (by simp) _⟩

set_option maxRecDepth 100000 in
set_option maxHeartbeats 2000000 in
theorem one_lead3 (s : ByteArray) (i : Nat) (w : World) (hi : i < s.size) (hs : s.size ≤ 1000000000000) (h1 : 224 ≤ s[i].toNat) (h2 : s[i].toNat ≤ 239) (h3 : i + 3 ≤ s.size) :
    Calls Tryd.prog 43 #[.string s, .int .i64 i] w fun e w' => e = .returned (uVal i (s.data.toList.drop i)) ∧ Below w.heap.size w w' := by
  have hbb := s[i].toNat_lt
  have e1 := and15 s[i].toNat (by omega)
  have hd := dec_bt s i
  rw [dec3 _ _ _ _ _ (by rw [bt_at s i 0 (by omega)]; exact h1) (by rw [bt_at s i 0 (by omega)]; exact h2)] at hd
  have hb0 : bt s i 0 = s[i].toNat := bt_at s i 0 (by omega)
  obtain ⟨m, hm⟩ : ∃ m, m = s[i].toNat % 16 := ⟨_, rfl⟩
  have hm0 : vv s i m 0 = m := rfl
  have hmb : bt s i 0 % 16 = m := by rw [hb0, hm]
  have hmlt : m < 16 := by omega
  rw [← hm] at e1
  have HD := Lib.hid hd
  have HMB := Lib.hid hmb
  clear hm hd hb0 hmb hm0
  have g0 : decide ((s[i].toNat : Int) < 128) = false := by simp; omega
  have g1 : decide ((194 : Int) ≤ (s[i].toNat : Int)) = true := by simp; omega
  have g2 : decide ((s[i].toNat : Int) ≤ 223) = false := by simp; omega
  have g3 : decide ((224 : Int) ≤ (s[i].toNat : Int)) = true := by simp; omega
  have g4 : decide ((s[i].toNat : Int) ≤ 239) = true := by simp; omega
  have gz : decide ((s.size : Int) < (i : Int) + 3) = false := by simp; omega
  go_enter Tryd.func43, Tryd.ntmps43
  go_wp2
  have hbad0 := bad_val s i hi
  have HBV := Lib.hid hbad0
  clear hbad0
  go_loop [8, 9] (fun v k => ∃ kk V : Nat, 1 ≤ kk ∧ kk ≤ 3 ∧ k = .int .i64 kk ∧ v = .int .i64 V ∧ V < 16 * 64 ^ (kk - 1) ∧ Hid (V = vv s i m (kk - 1) ∧ ∀ j, 1 ≤ j → j < kk → bt s i j / 64 = 2)) (fun _ k => 3 - (RowKit.intOf k).toNat)
  case atStart => exact ⟨1, m, by omega, by omega, rfl, rfl, by simpa using hmlt, ⟨rfl, fun j a b => by omega⟩⟩
  case round =>
    obtain ⟨kk, V, hk1, hk2, rfl, rfl, hVlt, HV⟩ := hrel
    by_cases hkn : kk < 3
    · have hin : i + kk < s.size := by omega
      have hx := s[i + kk].toNat_lt
      have hbt := bt_at s i kk hin
      have ht := u8_top s[i + kk]
      by_cases hc : s[i + kk].toNat / 64 = 2
      · have hc1 : (bits .and .u8 (s[i + kk].toNat : Int) 192 != 128) = false := by rw [ht, hc]; rfl
        obtain ⟨X, hX⟩ : ∃ X, X = s[i + kk].toNat % 64 := ⟨_, rfl⟩
        have hlow := u8_low s[i + kk]
        rw [← hX] at hlow
        have hXlt : X < 64 := by omega
        have hVb : V < 2 ^ 20 := by
          have hkc : kk = 1 ∨ kk = 2 ∨ kk = 3 := by omega
          rcases hkc with rfl | rfl | rfl <;> simp at hVlt <;> omega
        have hor := or_i64 (V * 64) X (by omega) (by omega) hXlt
        have hV64 : ((V * 64 : Nat) : Int) = (V : Int) * 64 := by omega
        rw [hV64] at hor
        obtain ⟨V', hV'⟩ : ∃ V', V' = V * 64 + X := ⟨_, rfl⟩
        rw [← hV'] at hor
        have HN := Lib.hid (show V' = vv s i m kk ∧ ∀ j, 1 ≤ j → j < kk + 1 → bt s i j / 64 = 2 from by
          obtain ⟨q1, q2⟩ := HV.out
          refine ⟨?_, fun j a b => ?_⟩
          · obtain ⟨kp, rfl⟩ : ∃ kp, kk = kp + 1 := ⟨kk - 1, by omega⟩
            rw [hV', hX, vv, hbt, q1]; rfl
          · by_cases hjk : j = kk
            · subst hjk; rw [hbt]; exact hc
            · exact q2 j a (by omega))
        have hVn : V' < 16 * 64 ^ (kk + 1 - 1) := by
          have hkc : kk = 1 ∨ kk = 2 ∨ kk = 3 := by omega
          rcases hkc with rfl | rfl | rfl <;> simp at hVlt ⊢ <;> omega
        have hkp : kk + 1 - 1 = kk := by omega
        have HKP := Lib.hid hkp
        have HVN := Lib.hid hVn
        clear hX hV' hV64 ht hbt hVlt hc hkp hVn
        go_wp2
        go_round
        case rel => exact ⟨kk + 1, V', by omega, by omega, by go_num, rfl, HVN.out, by rw [HKP.out]; exact HN.out⟩
        case measure => simp [RowKit.intOf]; omega
      · have hc1 : (bits .and .u8 (s[i + kk].toNat : Int) 192 != 128) = true := by
          rw [ht]; simp; omega
        have hbad : decodeL (s.data.toList.drop i) = (65533, 1) := by
          rw [HD.out, if_neg]
          intro hall
          apply hc
          rw [← hbt]
          have hkc : kk = 1 ∨ kk = 2 := by omega
          rcases hkc with rfl | rfl
          · exact hall.1.2
          · exact hall.2.1.2
        have HR := Lib.hid (HBV.out hbad)
        clear ht hbt hVlt hc hbad
        go_wp2
        exact bodyPost_ret (v := .agg #[.int .i64 i, .int .i64 1, .int .i64 (-1 - s[i].toNat)]) (by simp [results, Tryd.results43, go_sem]) rfl ⟨by rw [HR.out], ((Below.refl _ _).alloc (Nat.le_refl _) _).alloc (by simp) _⟩
    · obtain rfl : kk = 3 := by omega
      obtain ⟨q1, q2⟩ := HV.out
      have hV : V = (m * 64 + bt s i 1 % 64) * 64 + bt s i 2 % 64 := q1
      have hVlt' : V < 2097152 := by simp at hVlt; omega
      have hdec := HD.out
      rw [HMB.out, ← hV] at hdec
      clear q1 hV hVlt
      have hcase : (V < 2048) ∨ (2048 ≤ V ∧ V < 55296) ∨ (55296 ≤ V ∧ V ≤ 57343) ∨ (57344 ≤ V) := by omega
      rcases hcase with v1 | ⟨v1, v2⟩ | ⟨v1, v2⟩ | v1
      · have hde : decodeL (s.data.toList.drop i) = (65533, 1) := by rw [hdec, if_neg (by omega)]
        have HR := Lib.hid (HBV.out hde)
        clear q2 hdec hde
        go_wp2
        exact bodyPost_ret (v := .agg #[.int .i64 i, .int .i64 1, .int .i64 (-1 - s[i].toNat)]) (by simp [results, Tryd.results43, go_sem]) rfl ⟨by rw [HR.out], ((Below.refl _ _).alloc (Nat.le_refl _) _).alloc (by simp) _⟩
      · have hde : decodeL (s.data.toList.drop i) = (V, 3) := by rw [hdec, if_pos ⟨⟨by omega, q2 1 (by omega) (by omega)⟩, ⟨by omega, q2 2 (by omega) (by omega)⟩, by omega, by omega⟩]
        have HR := Lib.hid (good_val s i 3 V (by omega) hde)
        clear q2 hdec hde
        go_wp2
        exact bodyPost_ret (v := .agg #[.int .i64 i, .int .i64 3, .int .i64 V]) (by simp [results, Tryd.results43, go_sem]) rfl ⟨by rw [HR.out]; rfl, ((Below.refl _ _).alloc (Nat.le_refl _) _).alloc (by simp) _⟩
      · have hde : decodeL (s.data.toList.drop i) = (65533, 1) := by rw [hdec, if_neg (by omega)]
        have HR := Lib.hid (HBV.out hde)
        clear q2 hdec hde
        go_wp2
        exact bodyPost_ret (v := .agg #[.int .i64 i, .int .i64 1, .int .i64 (-1 - s[i].toNat)]) (by simp [results, Tryd.results43, go_sem]) rfl ⟨by rw [HR.out], ((Below.refl _ _).alloc (Nat.le_refl _) _).alloc (by simp) _⟩
      · have hde : decodeL (s.data.toList.drop i) = (V, 3) := by rw [hdec, if_pos ⟨⟨by omega, q2 1 (by omega) (by omega)⟩, ⟨by omega, q2 2 (by omega) (by omega)⟩, by omega, by omega⟩]
        have HR := Lib.hid (good_val s i 3 V (by omega) hde)
        clear q2 hdec hde
        go_wp2
        exact bodyPost_ret (v := .agg #[.int .i64 i, .int .i64 3, .int .i64 V]) (by simp [results, Tryd.results43, go_sem]) rfl ⟨by rw [HR.out]; rfl, ((Below.refl _ _).alloc (Nat.le_refl _) _).alloc (by simp) _⟩


set_option maxRecDepth 100000 in
set_option maxHeartbeats 2000000 in
theorem one_lead4 (s : ByteArray) (i : Nat) (w : World) (hi : i < s.size) (hs : s.size ≤ 1000000000000) (h1 : 240 ≤ s[i].toNat) (h2 : s[i].toNat ≤ 244) (h3 : i + 4 ≤ s.size) :
    Calls Tryd.prog 43 #[.string s, .int .i64 i] w fun e w' => e = .returned (uVal i (s.data.toList.drop i)) ∧ Below w.heap.size w w' := by
  have hbb := s[i].toNat_lt
  have e1 := and7 s[i].toNat (by omega)
  have hd := dec_bt s i
  rw [dec4 _ _ _ _ _ (by rw [bt_at s i 0 (by omega)]; exact h1) (by rw [bt_at s i 0 (by omega)]; exact h2)] at hd
  have hb0 : bt s i 0 = s[i].toNat := bt_at s i 0 (by omega)
  obtain ⟨m, hm⟩ : ∃ m, m = s[i].toNat % 8 := ⟨_, rfl⟩
  have hm0 : vv s i m 0 = m := rfl
  have hmb : bt s i 0 % 8 = m := by rw [hb0, hm]
  have hmlt : m < 8 := by omega
  rw [← hm] at e1
  have HD := Lib.hid hd
  have HMB := Lib.hid hmb
  clear hm hd hb0 hmb hm0
  have g0 : decide ((s[i].toNat : Int) < 128) = false := by simp; omega
  have g1 : decide ((194 : Int) ≤ (s[i].toNat : Int)) = true := by simp; omega
  have g2 : decide ((s[i].toNat : Int) ≤ 223) = false := by simp; omega
  have g3 : decide ((224 : Int) ≤ (s[i].toNat : Int)) = true := by simp; omega
  have g4 : decide ((s[i].toNat : Int) ≤ 239) = false := by simp; omega
  have g5 : decide ((240 : Int) ≤ (s[i].toNat : Int)) = true := by simp; omega
  have g6 : decide ((s[i].toNat : Int) ≤ 244) = true := by simp; omega
  have gz : decide ((s.size : Int) < (i : Int) + 4) = false := by simp; omega
  go_enter Tryd.func43, Tryd.ntmps43
  go_wp2
  have hbad0 := bad_val s i hi
  have HBV := Lib.hid hbad0
  clear hbad0
  go_loop [8, 9] (fun v k => ∃ kk V : Nat, 1 ≤ kk ∧ kk ≤ 4 ∧ k = .int .i64 kk ∧ v = .int .i64 V ∧ V < 8 * 64 ^ (kk - 1) ∧ Hid (V = vv s i m (kk - 1) ∧ ∀ j, 1 ≤ j → j < kk → bt s i j / 64 = 2)) (fun _ k => 4 - (RowKit.intOf k).toNat)
  case atStart => exact ⟨1, m, by omega, by omega, rfl, rfl, by simpa using hmlt, ⟨rfl, fun j a b => by omega⟩⟩
  case round =>
    obtain ⟨kk, V, hk1, hk2, rfl, rfl, hVlt, HV⟩ := hrel
    by_cases hkn : kk < 4
    · have hin : i + kk < s.size := by omega
      have hx := s[i + kk].toNat_lt
      have hbt := bt_at s i kk hin
      have ht := u8_top s[i + kk]
      by_cases hc : s[i + kk].toNat / 64 = 2
      · have hc1 : (bits .and .u8 (s[i + kk].toNat : Int) 192 != 128) = false := by rw [ht, hc]; rfl
        obtain ⟨X, hX⟩ : ∃ X, X = s[i + kk].toNat % 64 := ⟨_, rfl⟩
        have hlow := u8_low s[i + kk]
        rw [← hX] at hlow
        have hXlt : X < 64 := by omega
        have hVb : V < 2 ^ 20 := by
          have hkc : kk = 1 ∨ kk = 2 ∨ kk = 3 := by omega
          rcases hkc with rfl | rfl | rfl <;> simp at hVlt <;> omega
        have hor := or_i64 (V * 64) X (by omega) (by omega) hXlt
        have hV64 : ((V * 64 : Nat) : Int) = (V : Int) * 64 := by omega
        rw [hV64] at hor
        obtain ⟨V', hV'⟩ : ∃ V', V' = V * 64 + X := ⟨_, rfl⟩
        rw [← hV'] at hor
        have HN := Lib.hid (show V' = vv s i m kk ∧ ∀ j, 1 ≤ j → j < kk + 1 → bt s i j / 64 = 2 from by
          obtain ⟨q1, q2⟩ := HV.out
          refine ⟨?_, fun j a b => ?_⟩
          · obtain ⟨kp, rfl⟩ : ∃ kp, kk = kp + 1 := ⟨kk - 1, by omega⟩
            rw [hV', hX, vv, hbt, q1]; rfl
          · by_cases hjk : j = kk
            · subst hjk; rw [hbt]; exact hc
            · exact q2 j a (by omega))
        have hVn : V' < 8 * 64 ^ (kk + 1 - 1) := by
          have hkc : kk = 1 ∨ kk = 2 ∨ kk = 3 := by omega
          rcases hkc with rfl | rfl | rfl <;> simp at hVlt ⊢ <;> omega
        have hkp : kk + 1 - 1 = kk := by omega
        have HKP := Lib.hid hkp
        have HVN := Lib.hid hVn
        clear hX hV' hV64 ht hbt hVlt hc hkp hVn
        go_wp2
        go_round
        case rel => exact ⟨kk + 1, V', by omega, by omega, by go_num, rfl, HVN.out, by rw [HKP.out]; exact HN.out⟩
        case measure => simp [RowKit.intOf]; omega
      · have hc1 : (bits .and .u8 (s[i + kk].toNat : Int) 192 != 128) = true := by
          rw [ht]; simp; omega
        have hbad : decodeL (s.data.toList.drop i) = (65533, 1) := by
          rw [HD.out, if_neg]
          intro hall
          apply hc
          rw [← hbt]
          have hkc : kk = 1 ∨ kk = 2 ∨ kk = 3 := by omega
          rcases hkc with rfl | rfl | rfl
          · exact hall.1.2
          · exact hall.2.1.2
          · exact hall.2.2.1.2
        have HR := Lib.hid (HBV.out hbad)
        clear ht hbt hVlt hc hbad
        go_wp2
        exact bodyPost_ret (v := .agg #[.int .i64 i, .int .i64 1, .int .i64 (-1 - s[i].toNat)]) (by simp [results, Tryd.results43, go_sem]) rfl ⟨by rw [HR.out], ((Below.refl _ _).alloc (Nat.le_refl _) _).alloc (by simp) _⟩
    · obtain rfl : kk = 4 := by omega
      obtain ⟨q1, q2⟩ := HV.out
      have hV : V = ((m * 64 + bt s i 1 % 64) * 64 + bt s i 2 % 64) * 64 + bt s i 3 % 64 := q1
      have hVlt' : V < 2097152 := by simp at hVlt; omega
      have hdec := HD.out
      rw [HMB.out, ← hV] at hdec
      clear q1 hV hVlt
      have hcase : (V < 65536) ∨ (65536 ≤ V ∧ V ≤ 1114111) ∨ (1114111 < V) := by omega
      rcases hcase with v1 | ⟨v1, v2⟩ | v1
      · have hde : decodeL (s.data.toList.drop i) = (65533, 1) := by rw [hdec, if_neg (by omega)]
        have HR := Lib.hid (HBV.out hde)
        clear q2 hdec hde
        go_wp2
        exact bodyPost_ret (v := .agg #[.int .i64 i, .int .i64 1, .int .i64 (-1 - s[i].toNat)]) (by simp [results, Tryd.results43, go_sem]) rfl ⟨by rw [HR.out], ((Below.refl _ _).alloc (Nat.le_refl _) _).alloc (by simp) _⟩
      · have hde : decodeL (s.data.toList.drop i) = (V, 4) := by rw [hdec, if_pos ⟨⟨by omega, q2 1 (by omega) (by omega)⟩, ⟨by omega, q2 2 (by omega) (by omega)⟩, ⟨by omega, q2 3 (by omega) (by omega)⟩, by omega, by omega⟩]
        have HR := Lib.hid (good_val s i 4 V (by omega) hde)
        clear q2 hdec hde
        go_wp2
        exact bodyPost_ret (v := .agg #[.int .i64 i, .int .i64 4, .int .i64 V]) (by simp [results, Tryd.results43, go_sem]) rfl ⟨by rw [HR.out]; rfl, ((Below.refl _ _).alloc (Nat.le_refl _) _).alloc (by simp) _⟩
      · have hde : decodeL (s.data.toList.drop i) = (65533, 1) := by rw [hdec, if_neg (by omega)]
        have HR := Lib.hid (HBV.out hde)
        clear q2 hdec hde
        go_wp2
        exact bodyPost_ret (v := .agg #[.int .i64 i, .int .i64 1, .int .i64 (-1 - s[i].toNat)]) (by simp [results, Tryd.results43, go_sem]) rfl ⟨by rw [HR.out], ((Below.refl _ _).alloc (Nat.le_refl _) _).alloc (by simp) _⟩



/-- The document's own reading of the unit at a place. -/
theorem one_any (s : ByteArray) (i : Nat) (w : World) (hi : i < s.size) (hs : s.size ≤ 1000000000000) :
    Calls Tryd.prog 43 #[.string s, .int .i64 i] w fun e w' => e = .returned (uVal i (s.data.toList.drop i)) ∧ Below w.heap.size w w' := by
  have hbb := s[i].toNat_lt
  have hb0 : bt s i 0 = s[i].toNat := bt_at s i 0 (by omega)
  by_cases h0 : s[i].toNat < 128
  · rw [ascii_val s i hi h0]
    exact one_ascii s i w hi hs h0
  · by_cases h1 : (128 ≤ s[i].toNat ∧ s[i].toNat < 194) ∨ 244 < s[i].toNat
    · rw [bad_val s i hi (by rw [dec_bt]; exact decodeN_bad _ _ _ _ _ (by rw [hb0]; omega))]
      exact one_none s i w hi hs h1
    · by_cases h2 : (194 ≤ s[i].toNat ∧ s[i].toNat ≤ 223 ∧ s.size < i + 2) ∨ (224 ≤ s[i].toNat ∧ s[i].toNat ≤ 239 ∧ s.size < i + 3) ∨ (240 ≤ s[i].toNat ∧ s[i].toNat ≤ 244 ∧ s.size < i + 4)
      · rw [bad_val s i hi (by
          rw [dec_bt]
          rcases h2 with ⟨a, b, c⟩ | ⟨a, b, c⟩ | ⟨a, b, c⟩
          · rw [dec2 _ _ _ _ _ (by omega) (by omega), if_neg (by omega)]
          · rw [dec3 _ _ _ _ _ (by omega) (by omega), if_neg (by omega)]
          · rw [dec4 _ _ _ _ _ (by omega) (by omega), if_neg (by omega)])]
        exact one_short s i w hi hs h2
      · by_cases h3 : s[i].toNat ≤ 223
        · exact one_lead2 s i w hi hs (by omega) h3 (by omega)
        · by_cases h4 : s[i].toNat ≤ 239
          · exact one_lead3 s i w hi hs (by omega) h4 (by omega)
          · exact one_lead4 s i w hi hs (by omega) (by omega) (by omega)
end Go.Proofs.YtfhoffdgbkoffaaDoor
