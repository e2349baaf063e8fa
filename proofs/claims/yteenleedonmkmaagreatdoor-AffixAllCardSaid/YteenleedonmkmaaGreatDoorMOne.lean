/- Plain: the bit operations of a reading of UTF-8, as arithmetic. -/
import Derived.Test.YteenleedonmkmaaGreatDoorMCodes
import Derived.IntWalk
import Derived.Laws.BitsAllLaws
import Derived.Lib.EndianBits
import Derived.Test.YteenleedonmkmaaGreatDoorMPlain
namespace Go.Proofs.YteenleedonmkmaaGreatDoor
section
open Go Go.Lib

theorem wrap62 : ∀ n : Int, 0 ≤ n → n < 2 ^ 62 → IntKind.i64.wrap n = n := fun n h1 h2 => IntWalk.i64_in n (by omega)

theorem and_i64 (a b : Nat) (ha : a < 2 ^ 62) (hb : b < 2 ^ 62) : bits .and .i64 (a : Int) (b : Int) = ((a &&& b : Nat) : Int) := (bits_nat .i64 62 (by decide) wrap62 a b ha hb).1
theorem or_i64 (x y : Nat) (hx : x < 2 ^ 62) (h64 : x % 64 = 0) (hy : y < 64) : bits .or .i64 (x : Int) (y : Int) = ((x + y : Nat) : Int) := by
  rw [bits_join .i64 62 (by decide) wrap62 6 x y (by omega) (by omega) (by omega) (by omega) (by omega) (by omega), Int.natCast_add]

theorem mask3 (a : Nat) : a &&& 7 = a % 8 := Nat.and_two_pow_sub_one_eq_mod a 3
theorem mask4 (a : Nat) : a &&& 15 = a % 16 := Nat.and_two_pow_sub_one_eq_mod a 4
theorem mask5 (a : Nat) : a &&& 31 = a % 32 := Nat.and_two_pow_sub_one_eq_mod a 5
theorem mask6 (a : Nat) : a &&& 63 = a % 64 := Nat.and_two_pow_sub_one_eq_mod a 6
theorem and7 (a : Nat) (ha : a < 2 ^ 62) : bits .and .i64 (a : Int) 7 = ((a % 8 : Nat) : Int) := (and_i64 a 7 ha (by decide)).trans (by rw [mask3])
theorem and15 (a : Nat) (ha : a < 2 ^ 62) : bits .and .i64 (a : Int) 15 = ((a % 16 : Nat) : Int) := (and_i64 a 15 ha (by decide)).trans (by rw [mask4])
theorem and31 (a : Nat) (ha : a < 2 ^ 62) : bits .and .i64 (a : Int) 31 = ((a % 32 : Nat) : Int) := (and_i64 a 31 ha (by decide)).trans (by rw [mask5])
theorem and63 (a : Nat) (ha : a < 2 ^ 62) : bits .and .i64 (a : Int) 63 = ((a % 64 : Nat) : Int) := (and_i64 a 63 ha (by decide)).trans (by rw [mask6])
set_option maxRecDepth 100000 in
theorem u8_192 : ∀ x : Fin 256, bits .and .u8 ((x.val : Nat) : Int) 192 = ((x.val / 64 * 64 : Nat) : Int) := by decide
set_option maxRecDepth 100000 in
theorem u8_63 : ∀ x : Fin 256, bits .and .u8 ((x.val : Nat) : Int) 63 = ((x.val % 64 : Nat) : Int) := by decide
theorem u8_top (b : UInt8) : bits .and .u8 (b.toNat : Int) 192 = ((b.toNat / 64 * 64 : Nat) : Int) := u8_192 ⟨b.toNat, b.toNat_lt⟩
theorem u8_low (b : UInt8) : bits .and .u8 (b.toNat : Int) 63 = ((b.toNat % 64 : Nat) : Int) := u8_63 ⟨b.toNat, b.toNat_lt⟩
end
section
open Go Go.RowKit Go.Lib

/-- One theorem's conclusion, for short. -/
def OneSays (s : ByteArray) (i : Nat) (N C : Int) (w : World) : Prop :=
  Calls Tryz.prog 82 #[.string s, .int .i64 i] w fun e w' => e = .returned (.agg #[.int .i64 i, .int .i64 N, .int .i64 C]) ∧ Below w.heap.size w w'

set_option maxRecDepth 100000 in
set_option maxHeartbeats 1000000 in
theorem one_ascii (s : ByteArray) (i : Nat) (w : World) (hi : i < s.size) (_hs : s.size ≤ 1000000000000) (hb : s[i].toNat < 128) : OneSays s i 1 s[i].toNat w := by
  unfold OneSays
  go_enter Tryz.func82, Tryz.ntmps82
  go_wp2
  exact bodyPost_ret (v := .agg #[.int .i64 i, .int .i64 1, .int .i64 s[i].toNat]) (by simp [results, Tryz.results82, go_sem]) rfl ⟨rfl, ((Below.refl _ _).alloc (Nat.le_refl _) _).alloc (by simp) _⟩

set_option maxRecDepth 100000 in
set_option maxHeartbeats 1000000 in
theorem one_none (s : ByteArray) (i : Nat) (w : World) (hi : i < s.size) (_hs : s.size ≤ 1000000000000) (hb : (128 ≤ s[i].toNat ∧ s[i].toNat < 194) ∨ 244 < s[i].toNat) : OneSays s i 1 (-1 - s[i].toNat) w := by
  unfold OneSays
  have hbb := s[i].toNat_lt
  rcases hb with ⟨h1, h2⟩ | h1
  all_goals
    go_enter Tryz.func82, Tryz.ntmps82
    go_wp2
    exact bodyPost_ret (v := .agg #[.int .i64 i, .int .i64 1, .int .i64 (-1 - s[i].toNat)]) (by simp [results, Tryz.results82, go_sem]) rfl ⟨rfl, ((Below.refl _ _).alloc (Nat.le_refl _) _).alloc (by simp) _⟩

set_option maxRecDepth 100000 in
set_option maxHeartbeats 1000000 in
theorem one_short (s : ByteArray) (i : Nat) (w : World) (hi : i < s.size) (hs : s.size ≤ 1000000000000) (hb : (194 ≤ s[i].toNat ∧ s[i].toNat ≤ 223 ∧ s.size < i + 2) ∨ (224 ≤ s[i].toNat ∧ s[i].toNat ≤ 239 ∧ s.size < i + 3) ∨ (240 ≤ s[i].toNat ∧ s[i].toNat ≤ 244 ∧ s.size < i + 4)) : OneSays s i 1 (-1 - s[i].toNat) w := by
  unfold OneSays
  have hbb := s[i].toNat_lt
  rcases hb with ⟨h1, h2, h3⟩ | ⟨h1, h2, h3⟩ | ⟨h1, h2, h3⟩
  all_goals
    go_enter Tryz.func82, Tryz.ntmps82
    go_wp2
    exact bodyPost_ret (v := .agg #[.int .i64 i, .int .i64 1, .int .i64 (-1 - s[i].toNat)]) (by simp [results, Tryz.results82, go_sem]) rfl ⟨rfl, ((Below.refl _ _).alloc (Nat.le_refl _) _).alloc (by simp) _⟩

/-- The j-th byte from a place on. -/
def bt (s : ByteArray) (i j : Nat) : Nat := ((s.data.toList.drop i).getD j 0).toNat
def vv (s : ByteArray) (i m : Nat) : Nat → Nat
  | 0 => m
  | k + 1 => vv s i m k * 64 + bt s i (k + 1) % 64
theorem bt_at (s : ByteArray) (i j : Nat) (h : i + j < s.size) : bt s i j = s[i + j].toNat := by
  have hl : i + j < s.data.toList.length := by rw [← Lib.size_eq]; exact h
  rw [bt, List.getD, List.getElem?_drop, List.getElem?_eq_getElem hl]
  rfl
theorem dec_bt (s : ByteArray) (i : Nat) : decodeL (s.data.toList.drop i) = decodeN (s.size - i) (bt s i 0) (bt s i 1) (bt s i 2) (bt s i 3) := by
  rw [decodeL_N, List.length_drop, ← Lib.size_eq]; rfl

theorem bad_val (s : ByteArray) (i : Nat) (hi : i < s.size) (h : decodeL (s.data.toList.drop i) = (65533, 1)) : uVal i (s.data.toList.drop i) = .agg #[.int .i64 i, .int .i64 1, .int .i64 (-1 - s[i].toNat)] := by
  have hb : uBad (s.data.toList.drop i) = true := by simp [uBad, h]
  simp only [uVal, uCode, hb, if_true, getD_drop_at s i hi, h]
  rfl
theorem good_val (s : ByteArray) (i n V : Nat) (hn : 2 ≤ n) (h : decodeL (s.data.toList.drop i) = (V, n)) : uVal i (s.data.toList.drop i) = .agg #[.int .i64 i, .int .i64 n, .int .i64 V] := by
  have hb : uBad (s.data.toList.drop i) = false := by simp [uBad, h]; omega
  simp [uVal, uCode, hb, h]
theorem ascii_val (s : ByteArray) (i : Nat) (hi : i < s.size) (hb : s[i].toNat < 128) : uVal i (s.data.toList.drop i) = .agg #[.int .i64 i, .int .i64 1, .int .i64 s[i].toNat] := by
  have h : decodeL (s.data.toList.drop i) = (s[i].toNat, 1) := by
    rw [dec_bt, bt_at s i 0 (by omega)]
    exact decodeN_ascii _ _ _ _ _ hb
  have hbd : uBad (s.data.toList.drop i) = false := by simp [uBad, h]; omega
  simp [uVal, uCode, hbd, h]

theorem dec2 (L b0 b1 b2 b3 : Nat) (h1 : 194 ≤ b0) (h2 : b0 ≤ 223) : decodeN L b0 b1 b2 b3 = if 1 < L ∧ b1 / 64 = 2 then (b0 % 32 * 64 + b1 % 64, 2) else (65533, 1) := by
  unfold decodeN
  repeat' split
  all_goals first | rfl | (exfalso; omega)
theorem dec3 (L b0 b1 b2 b3 : Nat) (h1 : 224 ≤ b0) (h2 : b0 ≤ 239) : decodeN L b0 b1 b2 b3 = if (1 < L ∧ b1 / 64 = 2) ∧ (2 < L ∧ b2 / 64 = 2) ∧ 2048 ≤ (b0 % 16 * 64 + b1 % 64) * 64 + b2 % 64 ∧ ((b0 % 16 * 64 + b1 % 64) * 64 + b2 % 64 < 55296 ∨ 57344 ≤ (b0 % 16 * 64 + b1 % 64) * 64 + b2 % 64) then ((b0 % 16 * 64 + b1 % 64) * 64 + b2 % 64, 3) else (65533, 1) := by
  unfold decodeN
  repeat' split
  all_goals first | rfl | (exfalso; omega) | (congr 1; omega)
theorem dec4 (L b0 b1 b2 b3 : Nat) (h1 : 240 ≤ b0) (h2 : b0 ≤ 244) : decodeN L b0 b1 b2 b3 = if (1 < L ∧ b1 / 64 = 2) ∧ (2 < L ∧ b2 / 64 = 2) ∧ (3 < L ∧ b3 / 64 = 2) ∧ 65536 ≤ ((b0 % 8 * 64 + b1 % 64) * 64 + b2 % 64) * 64 + b3 % 64 ∧ ((b0 % 8 * 64 + b1 % 64) * 64 + b2 % 64) * 64 + b3 % 64 ≤ 1114111 then (((b0 % 8 * 64 + b1 % 64) * 64 + b2 % 64) * 64 + b3 % 64, 4) else (65533, 1) := by
  unfold decodeN
  repeat' split
  all_goals first | rfl | (exfalso; omega) | (congr 1; omega)


set_option maxRecDepth 100000 in
set_option maxHeartbeats 2000000 in
theorem one_lead2 (s : ByteArray) (i : Nat) (w : World) (hi : i < s.size) (hs : s.size ≤ 1000000000000) (h1 : 194 ≤ s[i].toNat) (h2 : s[i].toNat ≤ 223) (h3 : i + 2 ≤ s.size) :
    Calls Tryz.prog 82 #[.string s, .int .i64 i] w fun e w' => e = .returned (uVal i (s.data.toList.drop i)) ∧ Below w.heap.size w w' := by
  have hbb := s[i].toNat_lt
  have e1 := and31 s[i].toNat (by omega)
  have hd := dec_bt s i
  rw [dec2 _ _ _ _ _ (by rw [bt_at s i 0 (by omega)]; exact h1) (by rw [bt_at s i 0 (by omega)]; exact h2)] at hd
  have hb0 : bt s i 0 = s[i].toNat := bt_at s i 0 (by omega)
  obtain ⟨m, hm⟩ : ∃ m, m = s[i].toNat % 32 := ⟨_, rfl⟩
  have hm0 : vv s i m 0 = m := rfl
  have hmb : bt s i 0 % 32 = m := by rw [hb0, hm]
  have hmlt : m < 32 := by omega
  rw [← hm] at e1
  have HD := Lib.hid hd
  have HMB := Lib.hid hmb
  clear hm hd hb0 hmb hm0
  have g0 : decide ((s[i].toNat : Int) < 128) = false := by simp; omega
  have g1 : decide ((194 : Int) ≤ (s[i].toNat : Int)) = true := by simp; omega
  have g2 : decide ((s[i].toNat : Int) ≤ 223) = true := by simp; omega
  have gz : decide ((s.size : Int) < (i : Int) + 2) = false := by simp; omega
  go_enter Tryz.func82, Tryz.ntmps82
  go_wp2
  have hbad0 := bad_val s i hi
  have HBV := Lib.hid hbad0
  clear hbad0
  go_loop [8, 9] (fun v k => ∃ kk V : Nat, 1 ≤ kk ∧ kk ≤ 2 ∧ k = .int .i64 kk ∧ v = .int .i64 V ∧ V < 32 * 64 ^ (kk - 1) ∧ Hid (V = vv s i m (kk - 1) ∧ ∀ j, 1 ≤ j → j < kk → bt s i j / 64 = 2)) (fun _ k => 2 - (RowKit.intOf k).toNat)
  case atStart => exact ⟨1, m, by omega, by omega, rfl, rfl, by simpa using hmlt, ⟨rfl, fun j a b => by omega⟩⟩
  case round =>
    obtain ⟨kk, V, hk1, hk2, rfl, rfl, hVlt, HV⟩ := hrel
    by_cases hkn : kk < 2
    · have hin : i + kk < s.size := by omega
      have hx := s[i + kk].toNat_lt
      have hbt := bt_at s i kk hin
      have ht := u8_top s[i + kk]
      by_cases hc : s[i + kk].toNat / 64 = 2
      · have hc1 : (bits .and .u8 (s[i + kk].toNat : Int) 192 != 128) = false := by rw [ht, hc]; rfl
        obtain ⟨X, hX⟩ : ∃ X, X = s[i + kk].toNat % 64 := ⟨_, rfl⟩
        have hlow := u8_low s[i + kk]
        rw [← hX] at hlow
        have hXlt : X < 64 := by omega
        have hVb : V < 2 ^ 20 := by
          have hkc : kk = 1 ∨ kk = 2 ∨ kk = 3 := by omega
          rcases hkc with rfl | rfl | rfl <;> simp at hVlt <;> omega
        have hor := or_i64 (V * 64) X (by omega) (by omega) hXlt
        have hV64 : ((V * 64 : Nat) : Int) = (V : Int) * 64 := by omega
        rw [hV64] at hor
        obtain ⟨V', hV'⟩ : ∃ V', V' = V * 64 + X := ⟨_, rfl⟩
        rw [← hV'] at hor
        have HN := Lib.hid (show V' = vv s i m kk ∧ ∀ j, 1 ≤ j → j < kk + 1 → bt s i j / 64 = 2 from by
          obtain ⟨q1, q2⟩ := HV.out
          refine ⟨?_, fun j a b => ?_⟩
          · obtain ⟨kp, rfl⟩ : ∃ kp, kk = kp + 1 := ⟨kk - 1, by omega⟩
            rw [hV', hX, vv, hbt, q1]; rfl
          · by_cases hjk : j = kk
            · subst hjk; rw [hbt]; exact hc
            · exact q2 j a (by omega))
        have hVn : V' < 32 * 64 ^ (kk + 1 - 1) := by
          have hkc : kk = 1 ∨ kk = 2 ∨ kk = 3 := by omega
          rcases hkc with rfl | rfl | rfl <;> simp at hVlt ⊢ <;> omega
        have hkp : kk + 1 - 1 = kk := by omega
        have HKP := Lib.hid hkp
        have HVN := Lib.hid hVn
        clear hX hV' hV64 ht hbt hVlt hc hkp hVn
        go_wp2
        go_round
        case rel => exact ⟨kk + 1, V', by omega, by omega, by go_num, rfl, HVN.out, by rw [HKP.out]; exact HN.out⟩
        case measure => simp [RowKit.intOf]; omega
      · have hc1 : (bits .and .u8 (s[i + kk].toNat : Int) 192 != 128) = true := by
          rw [ht]; simp; omega
        have hbad : decodeL (s.data.toList.drop i) = (65533, 1) := by
          rw [HD.out, if_neg]
          intro hall
          apply hc
          rw [← hbt]
          have hkc : kk = 1 := by omega
          subst hkc; exact hall.2
        have HR := Lib.hid (HBV.out hbad)
        clear ht hbt hVlt hc hbad
        go_wp2
        exact bodyPost_ret (v := .agg #[.int .i64 i, .int .i64 1, .int .i64 (-1 - s[i].toNat)]) (by simp [results, Tryz.results82, go_sem]) rfl ⟨by rw [HR.out], ((Below.refl _ _).alloc (Nat.le_refl _) _).alloc (by simp) _⟩
    · obtain rfl : kk = 2 := by omega
      obtain ⟨q1, q2⟩ := HV.out
      have hV : V = m * 64 + bt s i 1 % 64 := q1
      have hdec : decodeL (s.data.toList.drop i) = (V, 2) := by
        rw [HD.out, if_pos ⟨by omega, q2 1 (by omega) (by omega)⟩, HMB.out, ← hV]
      have HR := Lib.hid (good_val s i 2 V (by omega) hdec)
      have hV1 : V < 2048 := by simp at hVlt; omega
      clear q1 q2 hV hdec hVlt
      go_wp2
      exact bodyPost_ret (v := .agg #[.int .i64 i, .int .i64 2, .int .i64 V]) (by simp [results, Tryz.results82, go_sem]) rfl ⟨by rw [HR.out]; rfl, ((Below.refl _ _).alloc (Nat.le_refl _) _).alloc (by simp) _⟩

set_option maxRecDepth 100000 in
set_option maxHeartbeats 2000000 in
theorem one_lead3 (s : ByteArray) (i : Nat) (w : World) (hi : i < s.size) (hs : s.size ≤ 1000000000000) (h1 : 224 ≤ s[i].toNat) (h2 : s[i].toNat ≤ 239) (h3 : i + 3 ≤ s.size) :
    Calls Tryz.prog 82 #[.string s, .int .i64 i] w fun e w' => e = .returned (uVal i (s.data.toList.drop i)) ∧ Below w.heap.size w w' := by
  have hbb := s[i].toNat_lt
  have e1 := and15 s[i].toNat (by omega)
  have hd := dec_bt s i
  rw [dec3 _ _ _ _ _ (by rw [bt_at s i 0 (by omega)]; exact h1) (by rw [bt_at s i 0 (by omega)]; exact h2)] at hd
  have hb0 : bt s i 0 = s[i].toNat := bt_at s i 0 (by omega)
  obtain ⟨m, hm⟩ : ∃ m, m = s[i].toNat % 16 := ⟨_, rfl⟩
  have hm0 : vv s i m 0 = m := rfl
  have hmb : bt s i 0 % 16 = m := by rw [hb0, hm]
  have hmlt : m < 16 := by omega
  rw [← hm] at e1
  have HD := Lib.hid hd
  have HMB := Lib.hid hmb
  clear hm hd hb0 hmb hm0
  have g0 : decide ((s[i].toNat : Int) < 128) = false := by simp; omega
  have g1 : decide ((194 : Int) ≤ (s[i].toNat : Int)) = true := by simp; omega
  have g2 : decide ((s[i].toNat : Int) ≤ 223) = false := by simp; omega
  have g3 : decide ((224 : Int) ≤ (s[i].toNat : Int)) = true := by simp; omega
  have g4 : decide ((s[i].toNat : Int) ≤ 239) = true := by simp; omega
  have gz : decide ((s.size : Int) < (i : Int) + 3) = false := by simp; omega
  go_enter Tryz.func82, Tryz.ntmps82
  go_wp2
  have hbad0 := bad_val s i hi
  have HBV := Lib.hid hbad0
  clear hbad0
  go_loop [8, 9] (fun v k => ∃ kk V : Nat, 1 ≤ kk ∧ kk ≤ 3 ∧ k = .int .i64 kk ∧ v = .int .i64 V ∧ V < 16 * 64 ^ (kk - 1) ∧ Hid (V = vv s i m (kk - 1) ∧ ∀ j, 1 ≤ j → j < kk → bt s i j / 64 = 2)) (fun _ k => 3 - (RowKit.intOf k).toNat)
  case atStart => exact ⟨1, m, by omega, by omega, rfl, rfl, by simpa using hmlt, ⟨rfl, fun j a b => by omega⟩⟩
  case round =>
    obtain ⟨kk, V, hk1, hk2, rfl, rfl, hVlt, HV⟩ := hrel
    by_cases hkn : kk < 3
    · have hin : i + kk < s.size := by omega
      have hx := s[i + kk].toNat_lt
      have hbt := bt_at s i kk hin
      have ht := u8_top s[i + kk]
      by_cases hc : s[i + kk].toNat / 64 = 2
      · have hc1 : (bits .and .u8 (s[i + kk].toNat : Int) 192 != 128) = false := by rw [ht, hc]; rfl
        obtain ⟨X, hX⟩ : ∃ X, X = s[i + kk].toNat % 64 := ⟨_, rfl⟩
        have hlow := u8_low s[i + kk]
        rw [← hX] at hlow
        have hXlt : X < 64 := by omega
        have hVb : V < 2 ^ 20 := by
          have hkc : kk = 1 ∨ kk = 2 ∨ kk = 3 := by omega
          rcases hkc with rfl | rfl | rfl <;> simp at hVlt <;> omega
        have hor := or_i64 (V * 64) X (by omega) (by omega) hXlt
        have hV64 : ((V * 64 : Nat) : Int) = (V : Int) * 64 := by omega
        rw [hV64] at hor
        obtain ⟨V', hV'⟩ : ∃ V', V' = V * 64 + X := ⟨_, rfl⟩
        rw [← hV'] at hor
        have HN := Lib.hid (show V' = vv s i m kk ∧ ∀ j, 1 ≤ j → j < kk + 1 → bt s i j / 64 = 2 from by
          obtain ⟨q1, q2⟩ := HV.out
          refine ⟨?_, fun j a b => ?_⟩
          · obtain ⟨kp, rfl⟩ : ∃ kp, kk = kp + 1 := ⟨kk - 1, by omega⟩
            rw [hV', hX, vv, hbt, q1]; rfl
          · by_cases hjk : j = kk
            · subst hjk; rw [hbt]; exact hc
            · exact q2 j a (by omega))
        have hVn : V' < 16 * 64 ^ (kk + 1 - 1) := by
          have hkc : kk = 1 ∨ kk = 2 ∨ kk = 3 := by omega
          rcases hkc with rfl | rfl | rfl <;> simp at hVlt ⊢ <;> omega
        have hkp : kk + 1 - 1 = kk := by omega
        have HKP := Lib.hid hkp
        have HVN := Lib.hid hVn
        clear hX hV' hV64 ht hbt hVlt hc hkp hVn
        go_wp2
        go_round
        case rel => exact ⟨kk + 1, V', by omega, by omega, by go_num, rfl, HVN.out, by rw [HKP.out]; exact HN.out⟩
        case measure => simp [RowKit.intOf]; omega
      · have hc1 : (bits .and .u8 (s[i + kk].toNat : Int) 192 != 128) = true := by
          rw [ht]; simp; omega
        have hbad : decodeL (s.data.toList.drop i) = (65533, 1) := by
          rw [HD.out, if_neg]
          intro hall
          apply hc
          rw [← hbt]
          have hkc : kk = 1 ∨ kk = 2 := by omega
          rcases hkc with rfl | rfl
          · exact hall.1.2
          · exact hall.2.1.2
        have HR := Lib.hid (HBV.out hbad)
        clear ht hbt hVlt hc hbad
        go_wp2
        exact bodyPost_ret (v := .agg #[.int .i64 i, .int .i64 1, .int .i64 (-1 - s[i].toNat)]) (by simp [results, Tryz.results82, go_sem]) rfl ⟨by rw [HR.out], ((Below.refl _ _).alloc (Nat.le_refl _) _).alloc (by simp) _⟩
    · obtain rfl : kk = 3 := by omega
      obtain ⟨q1, q2⟩ := HV.out
      have hV : V = (m * 64 + bt s i 1 % 64) * 64 + bt s i 2 % 64 := q1
      have hVlt' : V < 2097152 := by simp at hVlt; omega
      have hdec := HD.out
      rw [HMB.out, ← hV] at hdec
      clear q1 hV hVlt
      have hcase : (V < 2048) ∨ (2048 ≤ V ∧ V < 55296) ∨ (55296 ≤ V ∧ V ≤ 57343) ∨ (57344 ≤ V) := by omega
      rcases hcase with v1 | ⟨v1, v2⟩ | ⟨v1, v2⟩ | v1
      · have hde : decodeL (s.data.toList.drop i) = (65533, 1) := by rw [hdec, if_neg (by omega)]
        have HR := Lib.hid (HBV.out hde)
        clear q2 hdec hde
        go_wp2
        exact bodyPost_ret (v := .agg #[.int .i64 i, .int .i64 1, .int .i64 (-1 - s[i].toNat)]) (by simp [results, Tryz.results82, go_sem]) rfl ⟨by rw [HR.out], ((Below.refl _ _).alloc (Nat.le_refl _) _).alloc (by simp) _⟩
      · have hde : decodeL (s.data.toList.drop i) = (V, 3) := by rw [hdec, if_pos ⟨⟨by omega, q2 1 (by omega) (by omega)⟩, ⟨by omega, q2 2 (by omega) (by omega)⟩, by omega, by omega⟩]
        have HR := Lib.hid (good_val s i 3 V (by omega) hde)
        clear q2 hdec hde
        go_wp2
        exact bodyPost_ret (v := .agg #[.int .i64 i, .int .i64 3, .int .i64 V]) (by simp [results, Tryz.results82, go_sem]) rfl ⟨by rw [HR.out]; rfl, ((Below.refl _ _).alloc (Nat.le_refl _) _).alloc (by simp) _⟩
      · have hde : decodeL (s.data.toList.drop i) = (65533, 1) := by rw [hdec, if_neg (by omega)]
        have HR := Lib.hid (HBV.out hde)
        clear q2 hdec hde
        go_wp2
        exact bodyPost_ret (v := .agg #[.int .i64 i, .int .i64 1, .int .i64 (-1 - s[i].toNat)]) (by simp [results, Tryz.results82, go_sem]) rfl ⟨by rw [HR.out], ((Below.refl _ _).alloc (Nat.le_refl _) _).alloc (by simp) _⟩
      · have hde : decodeL (s.data.toList.drop i) = (V, 3) := by rw [hdec, if_pos ⟨⟨by omega, q2 1 (by omega) (by omega)⟩, ⟨by omega, q2 2 (by omega) (by omega)⟩, by omega, by omega⟩]
        have HR := Lib.hid (good_val s i 3 V (by omega) hde)
        clear q2 hdec hde
        go_wp2
        exact bodyPost_ret (v := .agg #[.int .i64 i, .int .i64 3, .int .i64 V]) (by simp [results, Tryz.results82, go_sem]) rfl ⟨by rw [HR.out]; rfl, ((Below.refl _ _).alloc (Nat.le_refl _) _).alloc (by simp) _⟩


set_option maxRecDepth 100000 in
set_option maxHeartbeats 2000000 in
theorem one_lead4 (s : ByteArray) (i : Nat) (w : World) (hi : i < s.size) (hs : s.size ≤ 1000000000000) (h1 : 240 ≤ s[i].toNat) (h2 : s[i].toNat ≤ 244) (h3 : i + 4 ≤ s.size) :
    Calls Tryz.prog 82 #[.string s, .int .i64 i] w fun e w' => e = .returned (uVal i (s.data.toList.drop i)) ∧ Below w.heap.size w w' := by
  have hbb := s[i].toNat_lt
  have e1 := and7 s[i].toNat (by omega)
  have hd := dec_bt s i
  rw [dec4 _ _ _ _ _ (by rw [bt_at s i 0 (by omega)]; exact h1) (by rw [bt_at s i 0 (by omega)]; exact h2)] at hd
  have hb0 : bt s i 0 = s[i].toNat := bt_at s i 0 (by omega)
  obtain ⟨m, hm⟩ : ∃ m, m = s[i].toNat % 8 := ⟨_, rfl⟩
  have hm0 : vv s i m 0 = m := rfl
  have hmb : bt s i 0 % 8 = m := by rw [hb0, hm]
  have hmlt : m < 8 := by omega
  rw [← hm] at e1
  have HD := Lib.hid hd
  have HMB := Lib.hid hmb
  clear hm hd hb0 hmb hm0
  have g0 : decide ((s[i].toNat : Int) < 128) = false := by simp; omega
  have g1 : decide ((194 : Int) ≤ (s[i].toNat : Int)) = true := by simp; omega
  have g2 : decide ((s[i].toNat : Int) ≤ 223) = false := by simp; omega
  have g3 : decide ((224 : Int) ≤ (s[i].toNat : Int)) = true := by simp; omega
  have g4 : decide ((s[i].toNat : Int) ≤ 239) = false := by simp; omega
  have g5 : decide ((240 : Int) ≤ (s[i].toNat : Int)) = true := by simp; omega
  have g6 : decide ((s[i].toNat : Int) ≤ 244) = true := by simp; omega
  have gz : decide ((s.size : Int) < (i : Int) + 4) = false := by simp; omega
  go_enter Tryz.func82, Tryz.ntmps82
  go_wp2
  have hbad0 := bad_val s i hi
  have HBV := Lib.hid hbad0
  clear hbad0
  go_loop [8, 9] (fun v k => ∃ kk V : Nat, 1 ≤ kk ∧ kk ≤ 4 ∧ k = .int .i64 kk ∧ v = .int .i64 V ∧ V < 8 * 64 ^ (kk - 1) ∧ Hid (V = vv s i m (kk - 1) ∧ ∀ j, 1 ≤ j → j < kk → bt s i j / 64 = 2)) (fun _ k => 4 - (RowKit.intOf k).toNat)
  case atStart => exact ⟨1, m, by omega, by omega, rfl, rfl, by simpa using hmlt, ⟨rfl, fun j a b => by omega⟩⟩
  case round =>
    obtain ⟨kk, V, hk1, hk2, rfl, rfl, hVlt, HV⟩ := hrel
    by_cases hkn : kk < 4
    · have hin : i + kk < s.size := by omega
      have hx := s[i + kk].toNat_lt
      have hbt := bt_at s i kk hin
      have ht := u8_top s[i + kk]
      by_cases hc : s[i + kk].toNat / 64 = 2
      · have hc1 : (bits .and .u8 (s[i + kk].toNat : Int) 192 != 128) = false := by rw [ht, hc]; rfl
        obtain ⟨X, hX⟩ : ∃ X, X = s[i + kk].toNat % 64 := ⟨_, rfl⟩
        have hlow := u8_low s[i + kk]
        rw [← hX] at hlow
        have hXlt : X < 64 := by omega
        have hVb : V < 2 ^ 20 := by
          have hkc : kk = 1 ∨ kk = 2 ∨ kk = 3 := by omega
          rcases hkc with rfl | rfl | rfl <;> simp at hVlt <;> omega
        have hor := or_i64 (V * 64) X (by omega) (by omega) hXlt
        have hV64 : ((V * 64 : Nat) : Int) = (V : Int) * 64 := by omega
        rw [hV64] at hor
        obtain ⟨V', hV'⟩ : ∃ V', V' = V * 64 + X := ⟨_, rfl⟩
        rw [← hV'] at hor
        have HN := Lib.hid (show V' = vv s i m kk ∧ ∀ j, 1 ≤ j → j < kk + 1 → bt s i j / 64 = 2 from by
          obtain ⟨q1, q2⟩ := HV.out
          refine ⟨?_, fun j a b => ?_⟩
          · obtain ⟨kp, rfl⟩ : ∃ kp, kk = kp + 1 := ⟨kk - 1, by omega⟩
            rw [hV', hX, vv, hbt, q1]; rfl
          · by_cases hjk : j = kk
            · subst hjk; rw [hbt]; exact hc
            · exact q2 j a (by omega))
        have hVn : V' < 8 * 64 ^ (kk + 1 - 1) := by
          have hkc : kk = 1 ∨ kk = 2 ∨ kk = 3 := by omega
          rcases hkc with rfl | rfl | rfl <;> simp at hVlt ⊢ <;> omega
        have hkp : kk + 1 - 1 = kk := by omega
        have HKP := Lib.hid hkp
        have HVN := Lib.hid hVn
        clear hX hV' hV64 ht hbt hVlt hc hkp hVn
        go_wp2
        go_round
        case rel => exact ⟨kk + 1, V', by omega, by omega, by go_num, rfl, HVN.out, by rw [HKP.out]; exact HN.out⟩
        case measure => simp [RowKit.intOf]; omega
      · have hc1 : (bits .and .u8 (s[i + kk].toNat : Int) 192 != 128) = true := by
          rw [ht]; simp; omega
        have hbad : decodeL (s.data.toList.drop i) = (65533, 1) := by
          rw [HD.out, if_neg]
          intro hall
          apply hc
          rw [← hbt]
          have hkc : kk = 1 ∨ kk = 2 ∨ kk = 3 := by omega
          rcases hkc with rfl | rfl | rfl
          · exact hall.1.2
          · exact hall.2.1.2
          · exact hall.2.2.1.2
        have HR := Lib.hid (HBV.out hbad)
        clear ht hbt hVlt hc hbad
        go_wp2
        exact bodyPost_ret (v := .agg #[.int .i64 i, .int .i64 1, .int .i64 (-1 - s[i].toNat)]) (by simp [results, Tryz.results82, go_sem]) rfl ⟨by rw [HR.out], ((Below.refl _ _).alloc (Nat.le_refl _) _).alloc (by simp) _⟩
    · obtain rfl : kk = 4 := by omega
      obtain ⟨q1, q2⟩ := HV.out
      have hV : V = ((m * 64 + bt s i 1 % 64) * 64 + bt s i 2 % 64) * 64 + bt s i 3 % 64 := q1
      have hVlt' : V < 2097152 := by simp at hVlt; omega
      have hdec := HD.out
      rw [HMB.out, ← hV] at hdec
      clear q1 hV hVlt
      have hcase : (V < 65536) ∨ (65536 ≤ V ∧ V ≤ 1114111) ∨ (1114111 < V) := by omega
      rcases hcase with v1 | ⟨v1, v2⟩ | v1
      · have hde : decodeL (s.data.toList.drop i) = (65533, 1) := by rw [hdec, if_neg (by omega)]
        have HR := Lib.hid (HBV.out hde)
        clear q2 hdec hde
        go_wp2
        exact bodyPost_ret (v := .agg #[.int .i64 i, .int .i64 1, .int .i64 (-1 - s[i].toNat)]) (by simp [results, Tryz.results82, go_sem]) rfl ⟨by rw [HR.out], ((Below.refl _ _).alloc (Nat.le_refl _) _).alloc (by simp) _⟩
      · have hde : decodeL (s.data.toList.drop i) = (V, 4) := by rw [hdec, if_pos ⟨⟨by omega, q2 1 (by omega) (by omega)⟩, ⟨by omega, q2 2 (by omega) (by omega)⟩, ⟨by omega, q2 3 (by omega) (by omega)⟩, by omega, by omega⟩]
        have HR := Lib.hid (good_val s i 4 V (by omega) hde)
        clear q2 hdec hde
        go_wp2
        exact bodyPost_ret (v := .agg #[.int .i64 i, .int .i64 4, .int .i64 V]) (by simp [results, Tryz.results82, go_sem]) rfl ⟨by rw [HR.out]; rfl, ((Below.refl _ _).alloc (Nat.le_refl _) _).alloc (by simp) _⟩
      · have hde : decodeL (s.data.toList.drop i) = (65533, 1) := by rw [hdec, if_neg (by omega)]
        have HR := Lib.hid (HBV.out hde)
        clear q2 hdec hde
        go_wp2
        exact bodyPost_ret (v := .agg #[.int .i64 i, .int .i64 1, .int .i64 (-1 - s[i].toNat)]) (by simp [results, Tryz.results82, go_sem]) rfl ⟨by rw [HR.out], ((Below.refl _ _).alloc (Nat.le_refl _) _).alloc (by simp) _⟩



/-- The document's own reading of the unit at a place. -/
theorem one_any (s : ByteArray) (i : Nat) (w : World) (hi : i < s.size) (hs : s.size ≤ 1000000000000) :
    Calls Tryz.prog 82 #[.string s, .int .i64 i] w fun e w' => e = .returned (uVal i (s.data.toList.drop i)) ∧ Below w.heap.size w w' := by
  have hbb := s[i].toNat_lt
  have hb0 : bt s i 0 = s[i].toNat := bt_at s i 0 (by omega)
  by_cases h0 : s[i].toNat < 128
  · rw [ascii_val s i hi h0]
    exact one_ascii s i w hi hs h0
  · by_cases h1 : (128 ≤ s[i].toNat ∧ s[i].toNat < 194) ∨ 244 < s[i].toNat
    · rw [bad_val s i hi (by rw [dec_bt]; exact decodeN_bad _ _ _ _ _ (by rw [hb0]; omega))]
      exact one_none s i w hi hs h1
    · by_cases h2 : (194 ≤ s[i].toNat ∧ s[i].toNat ≤ 223 ∧ s.size < i + 2) ∨ (224 ≤ s[i].toNat ∧ s[i].toNat ≤ 239 ∧ s.size < i + 3) ∨ (240 ≤ s[i].toNat ∧ s[i].toNat ≤ 244 ∧ s.size < i + 4)
      · rw [bad_val s i hi (by
          rw [dec_bt]
          rcases h2 with ⟨a, b, c⟩ | ⟨a, b, c⟩ | ⟨a, b, c⟩
          · rw [dec2 _ _ _ _ _ (by omega) (by omega), if_neg (by omega)]
          · rw [dec3 _ _ _ _ _ (by omega) (by omega), if_neg (by omega)]
          · rw [dec4 _ _ _ _ _ (by omega) (by omega), if_neg (by omega)])]
        exact one_short s i w hi hs h2
      · by_cases h3 : s[i].toNat ≤ 223
        · exact one_lead2 s i w hi hs (by omega) h3 (by omega)
        · by_cases h4 : s[i].toNat ≤ 239
          · exact one_lead3 s i w hi hs (by omega) h4 (by omega)
          · exact one_lead4 s i w hi hs (by omega) (by omega) (by omega)
end
section
open Go Go.RowKit Go.Lib

/-- What holds at the head of each round. -/
def RallInv (s : ByteArray) (w : World) (B : Nat) (v : Value) (wr : World) (pos : Nat) (us : List (Nat × Nat × Int)) : Prop :=
  pos ≤ s.size ∧ units 0 s.data.toList = us ++ units pos (s.data.toList.drop pos) ∧ us.length ≤ pos ∧ wr.ownsRow B 100 3 v us.length (us.flatMap uCells) ∧ Below B w wr ∧ B ≤ wr.heap.size

theorem RallInv.step {s : ByteArray} {w : World} {B : Nat} {v : Value} {wr : World} {pos : Nat} {us : List (Nat × Nat × Int)} (h : RallInv s w B v wr pos us) (hp : pos < s.size) {N : Nat} {C : Int}
    (hN : N = (decodeL (s.data.toList.drop pos)).2) (hC : C = uCode (s.data.toList.drop pos)) {w3 : World} (hb : Below wr.heap.size wr w3) {v' : Value} {w4 : World}
    (hown : w4.ownsRow B 100 3 v' (us.length + 1) (us.flatMap uCells ++ [.int .i64 pos, .int .i64 N, .int .i64 C])) (hg : w3.grownBy w4 v.ownBlock) : RallInv s w B v' w4 (pos + N) (us ++ [(pos, N, C)]) := by
  obtain ⟨h1, h3, h4, h5, h6, h7⟩ := h
  have hne : s.data.toList.drop pos ≠ [] := by
    intro h0
    have := congrArg List.length h0
    rw [List.length_drop, ← Lib.size_eq, List.length_nil] at this
    omega
  have hle := decodeL_le _ hne
  have hw := decodeL_width (s.data.toList.drop pos)
  rw [List.length_drop, ← Lib.size_eq] at hle
  have hb6 : Below B w w3 := h6.trans (hb.mono h7)
  refine ⟨by omega, ?_, by simp; omega, ?_, hb6.grown hg (Nat.le_trans h7 hb.size) (fun k hk => (h5.lt k hk).1), Nat.le_trans (Nat.le_trans h7 hb.size) hg.size⟩
  · rw [h3, units_step pos _ hne, ← hN, ← hC, List.drop_drop]
    simp
  · have : (us ++ [(pos, N, C)]).flatMap uCells = us.flatMap uCells ++ [.int .i64 pos, .int .i64 N, .int .i64 C] := by simp [uCells]
    rw [this]
    simpa using hown

theorem cells_new2 (w : World) (o : Obj) (cs : List Value) (t : TypeId) : ∀ j u, cs[j]? = some u → ((w.alloc o).alloc (.cells cs.toArray t)).cell? ((⟨w.heap.size + 1, 0, none⟩ : Addr).add j) = some u := by
  have h := cells_new (w.alloc o) cs t
  have e : (w.alloc o).heap.size = w.heap.size + 1 := by simp
  rwa [e] at h

set_option maxHeartbeats 1000000 in
theorem rall_any (s : ByteArray) (w : World) (hs : s.size ≤ 1000000000000) :
    Calls Tryz.prog 62 #[.string s] w fun e w' => ∃ v, e = .returned v ∧ w'.ownsRow w.heap.size 100 3 v (units 0 s.data.toList).length ((units 0 s.data.toList).flatMap uCells) ∧ Below w.heap.size w w' := by
  obtain ⟨i0, hi, hz0, hz1, hz2⟩ := info_parts Tryz.info100
  go_enter Tryz.func62, Tryz.ntmps62
  go_wp2
  have hinv0 : RallInv s w w.heap.size (.slice none 0 0) w 0 [] := ⟨Nat.zero_le _, by simp, Nat.le_refl _, World.ownsRow_nil _ _ _ _, Below.refl _ _, Nat.le_refl _⟩
  go_loopw [3, 4] (fun v i wr => ∃ (pos : Nat) (us : List (Nat × Nat × Int)), i = .int .i64 pos ∧ Hid (RallInv s w w.heap.size v wr pos us)) (fun _ i _ => s.size - (RowKit.intOf i).toNat)
  case atStart => exact ⟨0, [], rfl, hinv0⟩
  case round =>
    obtain ⟨pos, us, rfl, HI⟩ := hrel
    have hpl := HI.out.1
    have hul := HI.out.2.2.1
    clear hinv0
    by_cases hp : pos < s.size
    · have hne : s.data.toList.drop pos ≠ [] := by
        intro h0
        have := congrArg List.length h0
        rw [List.length_drop, ← Lib.size_eq, List.length_nil] at this
        omega
      have hle := decodeL_le _ hne
      rw [List.length_drop, ← Lib.size_eq] at hle
      have hwd := decodeL_width (s.data.toList.drop pos)
      obtain ⟨N, hN⟩ : ∃ N, N = (decodeL (s.data.toList.drop pos)).2 := ⟨_, rfl⟩
      obtain ⟨C, hC⟩ : ∃ C, C = uCode (s.data.toList.drop pos) := ⟨_, rfl⟩
      have cU : ∀ wx, Calls Tryz.prog 82 #[.string s, .int .i64 pos] wx fun e w' => e = .returned (.agg #[.int .i64 pos, .int .i64 N, .int .i64 C]) ∧ Below wx.heap.size wx w' := by
        intro wx
        have := one_any s pos wx hp hs
        rwa [uVal, ← hN, ← hC] at this
      rw [← hN] at hle hwd
      have CU := Lib.hid cU
      have HN := Lib.hid hN
      have HC := Lib.hid hC
      clear hN hC cU hne
      go_wp2_with fail
      refine (CU.out _).mono ?_
      rintro e w3 ⟨rfl, hb3⟩
      have hne3 : some w3.heap.size ≠ u3.ownBlock := by
        intro e
        have := (HI.out.2.2.2.1.lt _ e.symm).2
        have := hb3.size
        omega
      have HNE := Lib.hid hne3
      clear hne3
      go_wp2_with (at_builtin; refine wpList_append_own _ rfl _ _ 97 rfl w.heap.size 100 i0 (.agg #[.int .i64 0, .int .i64 0, .int .i64 0]) 3 24 Tryz.underlying97 hi hz0 hz1 hz2 rfl (by decide) _ _ _ rfl (((own_below HI.out.2.2.2.1 hb3).alloc _).alloc _) ⟨w3.heap.size + 1, 0, none⟩ 1 1 [.int .i64 pos, .int .i64 N, .int .i64 C] rfl rfl (cells_new2 _ _ _ _) (uCells_one (pos, N, C)) (by unfold maxLen; omega) (by omega) (by have := hb3.size; have := HI.out.2.2.2.2.2; simp; omega) ?_; intro v' w4 hown4 hgrow4 _; have m1 := hgrow4.cell (a := ⟨w3.heap.size, 1, none⟩) (v := .int .i64 N) (by simp) HNE.out)
      have hst := Lib.hid (HI.out.step hp HN.out HC.out (((hb3.alloc hb3.size _).alloc (by have := hb3.size; simp; omega) _)) hown4 hgrow4)
      clear hown4 hgrow4 hb3
      go_roundw
      case rel => exact ⟨pos + N, _, by go_num, hst.out⟩
      case measure => simp [RowKit.intOf]; omega
    · go_wp2
      go_ret
      obtain ⟨h1, h3, h4, h5, h6, h7⟩ := HI.out
      have h0 : s.data.toList.drop pos = [] := List.drop_eq_nil_of_le (by rw [← Lib.size_eq]; omega)
      rw [h0, units_nil, List.append_nil] at h3
      exact ⟨_, rfl, by rw [h3]; exact h5, h6⟩
end
section
open Go Go.RowKit Go.Lib

theorem cells3 : ∀ (us : List (Nat × Nat × Int)) (k : Nat) (u : Nat × Nat × Int), us[k]? = some u →
    (us.flatMap uCells)[k * 3]? = some (.int .i64 u.1) ∧ (us.flatMap uCells)[k * 3 + 1]? = some (.int .i64 u.2.1) ∧ (us.flatMap uCells)[k * 3 + 2]? = some (.int .i64 u.2.2)
  | [], k, u, h => by simp at h
  | x :: us, 0, u, h => by
    simp at h; subst h
    simp [uCells]
  | x :: us, k + 1, u, h => by
    have ih := cells3 us k u (by simpa using h)
    have e : (x :: us).flatMap uCells = uCells x ++ us.flatMap uCells := rfl
    have hl : (uCells x).length = 3 := rfl
    rw [e]
    refine ⟨?_, ?_, ?_⟩
    · rw [List.getElem?_append_right (by omega), hl, show (k + 1) * 3 - 3 = k * 3 by omega]; exact ih.1
    · rw [List.getElem?_append_right (by omega), hl, show (k + 1) * 3 + 1 - 3 = k * 3 + 1 by omega]; exact ih.2.1
    · rw [List.getElem?_append_right (by omega), hl, show (k + 1) * 3 + 2 - 3 = k * 3 + 2 by omega]; exact ih.2.2
theorem own_open {w : World} {B e size n : Nat} {v : Value} {xs : List Value} (h : w.ownsRow B e size v n xs) (hn : 0 < n) :
    ∃ g cap, v = .slice (some ⟨g, 0, none⟩) n cap ∧ B ≤ g ∧ g < w.heap.size ∧ n ≤ cap ∧ cap ≤ maxLen ∧ ∀ j u, xs[j]? = some u → w.cell? ⟨g, j, none⟩ = some u := by
  have hc := @World.ownsRow.cells _ _ _ _ _ _ _ h
  rcases h.2 with ⟨_, rfl⟩ | ⟨g, cap, cur, rfl, hb, hg, hnc, hcm, _⟩
  · omega
  · refine ⟨g, cap, rfl, hb, (Array.getElem?_eq_some_iff.1 hg).1, hnc, hcm, fun j u hu => ?_⟩
    have hadd : (⟨g, 0, none⟩ : Addr).add j = ⟨g, j, none⟩ := by unfold Addr.add; split <;> simp_all
    rw [← hadd]
    exact hc (g := g) rfl j u hu

theorem own_apart {w : World} {B e e' size size' n n' : Nat} {v v' : Value} {xs xs' : List Value} (h : w.ownsRow B e size v n xs) (h' : w.ownsRow B e' size' v' n' xs') (hne : e ≠ e') : v.ownBlock = none ∨ v.ownBlock ≠ v'.ownBlock := by
  rcases h.2 with ⟨rfl, _⟩ | ⟨g, cap, cur, rfl, _, hg, _⟩
  · left; rfl
  · right
    rcases h'.2 with ⟨rfl, _⟩ | ⟨g', cap', cur', rfl, _, hg', _⟩
    · simp [Value.ownBlock]
    · simp only [Value.ownBlock]
      intro e1
      obtain rfl : g = g' := Option.some.inj e1
      rw [hg] at hg'
      simp at hg'
      exact hne hg'.2

/-- What holds at the head of each round. -/
def RcodInv (w : World) (B : Nat) (us : List (Nat × Nat × Int)) (vs : Value) (n : Nat) (v : Value) (wr : World) (k : Nat) : Prop :=
  wr.ownsRow B 100 3 vs n (us.flatMap uCells) ∧ wr.ownsRow B 3 1 v k ((us.take k).map fun u => .int .i64 u.2.2) ∧ ((us.take k).all fun u => decide (0 ≤ u.2.2)) = true ∧ Below B w wr ∧ B ≤ wr.heap.size

theorem RcodInv.step {w : World} {B : Nat} {us : List (Nat × Nat × Int)} {vs : Value} {n : Nat} {v : Value} {wr : World} {k : Nat} (h : RcodInv w B us vs n v wr k) {u : Nat × Nat × Int} (hu : us[k]? = some u) (h0 : 0 ≤ u.2.2)
    {v' : Value} {w4 : World} {o o' : Obj} (hown : w4.ownsRow B 3 1 v' (k + 1) (((us.take k).map fun u => .int .i64 u.2.2) ++ [.int .i64 u.2.2])) (hg : ((wr.alloc o).alloc o').grownBy w4 v.ownBlock) : RcodInv w B us vs n v' w4 (k + 1) := by
  obtain ⟨h1, h2, h3, h4, h5⟩ := h
  have ht : us.take (k + 1) = us.take k ++ [u] := by
    rw [List.take_add_one, hu]; rfl
  refine ⟨((h1.alloc o).alloc o').kept hg (own_apart h1 h2 (by decide)), ?_, ?_, ?_, ?_⟩
  · rw [ht, List.map_append]; exact hown
  · rw [ht, List.all_append, h3]; simp [h0]
  · exact ((h4.alloc h5 o).alloc (by simp; omega) o').grown hg (by simp; omega) (fun g hk => (h2.lt g hk).1)
  · have := hg.size; simp at this; omega

set_option maxHeartbeats 1000000 in
theorem rcodes_any (s : ByteArray) (w : World) (hs : s.size ≤ 1000000000000) :
    Calls Tryz.prog 31 #[.string s] w fun e w' => ∃ v, e = .returned (.tuple #[v, .bool (validD s.data.toList)]) ∧ w'.ownsRow w.heap.size 3 1 v (codesL s.data.toList).length ((codesL s.data.toList).map (Value.int .i64)) ∧ Below w.heap.size w w' := by
  obtain ⟨i0, hi, hz0, hz1, hz2⟩ := info_parts Tryz.info3
  have hlen := units_length_le s.data.toList 0
  rw [← Lib.size_eq] at hlen
  have hvu := validD_units s.data.toList 0
  have hcl : codesL s.data.toList = if validD s.data.toList then (units 0 s.data.toList).map (·.2.2) else [] := rfl
  obtain ⟨us, hus⟩ : ∃ us, us = units 0 s.data.toList := ⟨_, rfl⟩
  have cA : ∀ wx, Calls Tryz.prog 62 #[.string s] wx fun e w' => ∃ A cap, e = .returned (.slice A us.length cap) ∧ us.length ≤ cap ∧ cap ≤ maxLen ∧ w'.ownsRow wx.heap.size 100 3 (.slice A us.length cap) us.length (us.flatMap uCells) ∧ Below wx.heap.size wx w' := by
    intro wx
    rw [hus]
    refine (rall_any s wx hs).mono ?_
    rintro e w' ⟨v, he, ho, hb⟩
    rcases ho.2 with ⟨rfl, h0⟩ | ⟨g, cap, cur, rfl, _, _, hnc, hcm, _⟩
    · exact ⟨none, 0, by rw [he, h0], by omega, by simp, by rw [h0] at ho ⊢; exact ho, hb⟩
    · exact ⟨_, cap, he, hnc, hcm, ho, hb⟩
  rw [← hus] at hlen hvu hcl
  obtain ⟨n, hn⟩ : ∃ n, n = us.length := ⟨_, rfl⟩
  rw [← hn] at hlen cA
  have CA := Lib.hid cA
  have HVU := Lib.hid hvu
  have HCL := Lib.hid hcl
  have HN := Lib.hid hn
  clear cA hvu hcl hus hn
  go_enter Tryz.func31, Tryz.ntmps31
  go_wp2_with fail
  refine (CA.out _).mono ?_
  rintro e w1 ⟨A, cap, rfl, hc1, hc2, hown1, hb1⟩
  have hinv0 := Lib.hid (show RcodInv w w.heap.size us (.slice A n cap) n (.slice none 0 0) w1 0 from ⟨hown1, by simpa using World.ownsRow_nil w1 w.heap.size 3 1, by simp, hb1, hb1.size⟩)
  clear hown1 hb1
  go_wp2_with fail
  unfold maxLen at hc2
  go_loopw [4, 10] (fun v i wr => ∃ k : Nat, i = .int .i64 k ∧ k ≤ n ∧ Hid (RcodInv w w.heap.size us (.slice A n cap) n v wr k)) (fun _ i _ => n - (RowKit.intOf i).toNat)
  case atStart => exact ⟨0, rfl, Nat.zero_le _, hinv0.out⟩
  case round =>
    obtain ⟨k, rfl, hkn, HI⟩ := hrel
    clear hinv0
    by_cases hk : k < n
    · obtain ⟨u, hu⟩ : ∃ u, us[k]? = some u := by
        have hql : k < us.length := by rw [← HN.out]; exact hk
        exact ⟨us[k], List.getElem?_eq_getElem hql⟩
      obtain ⟨g, cap', hA, _, hg, hcc, _, hcells⟩ := own_open HI.out.1 (by omega)
      simp only [Value.slice.injEq, true_and] at hA
      obtain ⟨rfl, rfl⟩ := hA
      obtain ⟨x0, x1, x2⟩ := cells3 us k u hu
      have m0 := hcells _ _ x0
      have m1 := hcells _ _ x1
      have m2 := hcells _ _ x2
      have HU := Lib.hid hu
      clear hcells x0 x1 x2 hu
      obtain ⟨ua, ub, uc⟩ := u
      dsimp only at m0 m1 m2
      by_cases hc : uc < 0
      · have hbad : validD s.data.toList = false := by
          rw [HVU.out, Bool.eq_false_iff]
          intro hall
          have := List.all_eq_true.1 hall _ (List.mem_of_getElem? HU.out)
          simp at this
          omega
        have hcod : codesL s.data.toList = [] := by rw [HCL.out, hbad]; rfl
        have HB := Lib.hid (And.intro hbad hcod)
        clear hbad hcod
        go_wp2
        go_ret2
        refine ⟨_, by rw [HB.out.1]; rfl, ?_, HI.out.2.2.2.1.alloc HI.out.2.2.2.2 _⟩
        rw [HB.out.2]
        exact World.ownsRow_nil _ _ _ _
      · have hc0 : 0 ≤ uc := by omega
        go_wp2_with (at_builtin; refine wpList_append_own _ rfl _ _ 37 rfl w.heap.size 3 i0 (.int .i64 0) 1 8 Tryz.underlying37 hi hz0 hz1 hz2 rfl (by decide) _ _ _ rfl ((HI.out.2.1.alloc _).alloc _) ⟨wr.heap.size + 1, 0, none⟩ 1 1 [.int .i64 uc] rfl rfl (cells_new2 _ _ _ _) (ints_oneCell .i64 [uc]) (by unfold maxLen; omega) (by omega) (by have := HI.out.2.2.2.2; simp; omega) ?_; intro v' w4 hown4 hgrow4 _)
        have hst := Lib.hid (HI.out.step HU.out hc0 hown4 hgrow4)
        clear hown4 hgrow4
        go_roundw
        case rel => exact ⟨k + 1, by go_num, by omega, hst.out⟩
        case measure => simp [RowKit.intOf]; omega
    · have hkk : k = n := by omega
      obtain ⟨i1, i2, i3, i4, i5⟩ := HI.out
      have htk : us.take k = us := List.take_of_length_le (by rw [← HN.out]; omega)
      rw [htk] at i2 i3
      have hgood : validD s.data.toList = true := by rw [HVU.out]; exact i3
      have hcod : codesL s.data.toList = us.map (·.2.2) := by rw [HCL.out, hgood]; rfl
      have HB := Lib.hid (And.intro hgood (And.intro hcod (And.intro i2 i4)))
      clear hgood hcod i1 i2 i3 i4 i5 htk
      go_wp2_with fail
      go_ret2
      refine ⟨_, by rw [HB.out.1]; rfl, ?_, HB.out.2.2.2⟩
      rw [HB.out.2.1, List.length_map, List.map_map, ← HN.out, ← hkk]
      exact HB.out.2.2.1
end
section
open Go Go.RowKit Go.Lib

theorem bytes_none (c : Int) (h : c < 0 ∨ 1114111 < c ∨ (55296 ≤ c ∧ c ≤ 57343)) : bytesOf c = ⟨#[]⟩ := by
  have hv : Utf8.valid c = false := by simp [Utf8.valid]; omega
  simp [bytesOf, hv]
theorem bytes_some (k : Nat) (h : k < 55296 ∨ (57344 ≤ k ∧ k ≤ 1114111)) : Utf8.valid (k : Int) = true ∧ bytesOf k = Utf8.encode k := by
  have hv : Utf8.valid (k : Int) = true := by simp [Utf8.valid]; omega
  exact ⟨hv, by simp [bytesOf, hv]⟩


set_option maxRecDepth 100000 in
set_option maxHeartbeats 1000000 in
theorem rbytes_none (c : Int) (w : World) (h : c < 0 ∨ 1114111 < c ∨ (55296 ≤ c ∧ c ≤ 57343)) :
    Calls Tryz.prog 24 #[.int .i64 c] w fun e w' => e = .returned (.string ⟨#[]⟩) ∧ Below w.heap.size w w' := by
  rcases h with h | h | ⟨h1, h2⟩
  all_goals
    go_enter Tryz.func24, Tryz.ntmps24
    go_wp2
    go_ret
    exact ⟨rfl, Below.refl _ _⟩

set_option maxRecDepth 100000 in
theorem conv_new (w : World) (B : List Nat) (s : ByteArray) (n : Nat) (hn : B.length = n) (hb : ∀ b ∈ B, b < 256) (hs : s.data.toList = B.map UInt8.ofNat) :
    (convert 55 9 (.slice (some ⟨w.heap.size, 0, none⟩) n n)).run Tryz.prog (w.alloc (.cells (B.map fun (b : Nat) => Value.int .u8 (b : Int)).toArray 5)) = .ok (.string s) (w.alloc (.cells (B.map fun (b : Nat) => Value.int .u8 (b : Int)).toArray 5)) := by
  have hlen : s.data.toList.length = n := by rw [hs, List.length_map, hn]
  have h := run_convert_bytes_back (P := Tryz.prog) (w.alloc (.cells (B.map fun (b : Nat) => Value.int .u8 (b : Int)).toArray 5)) 55 9 5 ⟨w.heap.size, 0, none⟩ n s.data.toList Tryz.underlying55 Tryz.underlying5 Tryz.underlying9 (fun j hj => by
    apply cells_new
    have hjB : j < B.length := by rw [hn, ← hlen]; exact hj
    have e : s.data.toList[j] = UInt8.ofNat B[j] := by simp [hs]
    rw [List.getElem?_map, List.getElem?_eq_getElem hjB, e, ofNat_toNat _ (hb _ (List.getElem_mem hjB))]
    rfl)
  rw [hlen] at h
  have e2 : (⟨s.data.toList.toArray⟩ : ByteArray) = s := by cases s; simp
  rwa [e2] at h

set_option maxRecDepth 100000 in
set_option maxHeartbeats 1000000 in
theorem rbytes_one (k : Nat) (w : World) (h : k < 128) (E : ByteArray) (hE : E.data.toList = [UInt8.ofNat k]) :
    Calls Tryz.prog 24 #[.int .i64 k] w fun e w' => e = .returned (.string E) ∧ Below w.heap.size w w' := by
  have hc := conv_new w [k] E 1 rfl (by simp; omega) (by simpa using hE)
  simp only [List.map_cons, List.map_nil] at hc
  clear hE
  go_enter Tryz.func24, Tryz.ntmps24
  go_wp2
  go_ret
  exact ⟨rfl, (Below.refl _ _).alloc (Nat.le_refl _) _⟩

set_option maxRecDepth 100000 in
set_option maxHeartbeats 1000000 in
theorem rbytes_two (k : Nat) (w : World) (h1 : 128 ≤ k) (h2 : k < 2048) (E : ByteArray) (hE : E.data.toList = [UInt8.ofNat (192 + k / 64), UInt8.ofNat (128 + k % 64)]) :
    Calls Tryz.prog 24 #[.int .i64 k] w fun e w' => e = .returned (.string E) ∧ Below w.heap.size w w' := by
  obtain ⟨B0, hB0⟩ : ∃ B, B = 192 + k / 64 := ⟨_, rfl⟩
  obtain ⟨X1, hX1⟩ : ∃ X, X = k % 64 := ⟨_, rfl⟩
  obtain ⟨B1, hB1⟩ : ∃ B, B = 128 + X1 := ⟨_, rfl⟩
  have hc := conv_new w [B0, B1] E 2 rfl (by simp; omega) (by rw [hE, hB0, hB1, hX1]; rfl)
  simp only [List.map_cons, List.map_nil] at hc
  have f0 : bits .or .i64 192 ((k : Int) / 64) = (B0 : Int) := by rw [hB0]; exact or_i64 192 (k / 64) (by omega) (by omega) (by omega)
  have f1 : bits .and .i64 (k : Int) 63 = (X1 : Int) := by rw [hX1]; exact and63 k (by omega)
  have f2 : bits .or .i64 128 (X1 : Int) = (B1 : Int) := by rw [hB1]; exact or_i64 128 X1 (by omega) (by omega) (by omega)
  have b0 : B0 < 256 := by omega
  have b1 : B1 < 256 := by omega
  have c0 : (B0 : Int) % 256 = B0 := by omega
  have c1 : (B1 : Int) % 256 = B1 := by omega
  clear hE hB0 hB1 hX1
  go_enter Tryz.func24, Tryz.ntmps24
  go_wp2
  go_ret
  exact ⟨rfl, (Below.refl _ _).alloc (Nat.le_refl _) _⟩

set_option maxRecDepth 100000 in
set_option maxHeartbeats 1000000 in
theorem rbytes_three (c : Int) (k : Nat) (hck : c = (k : Int)) (w : World) (h1 : 2048 ≤ k) (h2 : k < 65536) (h3 : k < 55296 ∨ 57344 ≤ k) (E : ByteArray) (hE : E.data.toList = [UInt8.ofNat (224 + k / 4096), UInt8.ofNat (128 + k / 64 % 64), UInt8.ofNat (128 + k % 64)]) :
    Calls Tryz.prog 24 #[.int .i64 c] w fun e w' => e = .returned (.string E) ∧ Below w.heap.size w w' := by
  obtain ⟨B0, hB0⟩ : ∃ B, B = 224 + k / 4096 := ⟨_, rfl⟩
  obtain ⟨X1, hX1⟩ : ∃ X, X = k / 64 % 64 := ⟨_, rfl⟩
  obtain ⟨B1, hB1⟩ : ∃ B, B = 128 + X1 := ⟨_, rfl⟩
  obtain ⟨X2, hX2⟩ : ∃ X, X = k % 64 := ⟨_, rfl⟩
  obtain ⟨B2, hB2⟩ : ∃ B, B = 128 + X2 := ⟨_, rfl⟩
  have hc := conv_new w [B0, B1, B2] E 3 rfl (by simp; omega) (by rw [hE, hB0, hB1, hX1, hB2, hX2]; rfl)
  simp only [List.map_cons, List.map_nil] at hc
  have f0 : bits .or .i64 224 (c / 4096) = (B0 : Int) := by
    rw [hck, hB0]
    have e := bits_join .i64 62 (by decide) wrap62 5 (224 : Int) ((k : Int) / 4096) (by omega) (by omega) (by omega) (by omega) (by omega) (by omega)
    rw [e]; omega
  have f1 : bits .and .i64 (c / 64) 63 = (X1 : Int) := by rw [hck, hX1]; exact and63 (k / 64) (by omega)
  have f2 : bits .or .i64 128 (X1 : Int) = (B1 : Int) := by rw [hB1]; exact or_i64 128 X1 (by omega) (by omega) (by omega)
  have f3 : bits .and .i64 c 63 = (X2 : Int) := by rw [hck, hX2]; exact and63 k (by omega)
  have f4 : bits .or .i64 128 (X2 : Int) = (B2 : Int) := by rw [hB2]; exact or_i64 128 X2 (by omega) (by omega) (by omega)
  have b0 : B0 < 256 := by omega
  have b1 : B1 < 256 := by omega
  have b2 : B2 < 256 := by omega
  have c0 : (B0 : Int) % 256 = B0 := by omega
  have c1 : (B1 : Int) % 256 = B1 := by omega
  have c2 : (B2 : Int) % 256 = B2 := by omega
  have i1 : (2048 : Int) ≤ c := by omega
  have i2 : c < 65536 := by omega
  have i3 : c < 55296 ∨ 57344 ≤ c := by omega
  clear hck hE hB0 hB1 hX1 hB2 hX2 h1 h2 h3
  rcases i3 with h3 | h3
  all_goals
    go_enter Tryz.func24, Tryz.ntmps24
    go_wp2
    go_ret
    exact ⟨rfl, (Below.refl _ _).alloc (Nat.le_refl _) _⟩

set_option maxRecDepth 100000 in
set_option maxHeartbeats 1000000 in
theorem rbytes_four (c : Int) (k : Nat) (hck : c = (k : Int)) (w : World) (h1 : 65536 ≤ k) (h2 : k ≤ 1114111) (E : ByteArray) (hE : E.data.toList = [UInt8.ofNat (240 + k / 262144), UInt8.ofNat (128 + k / 4096 % 64), UInt8.ofNat (128 + k / 64 % 64), UInt8.ofNat (128 + k % 64)]) :
    Calls Tryz.prog 24 #[.int .i64 c] w fun e w' => e = .returned (.string E) ∧ Below w.heap.size w w' := by
  obtain ⟨B0, hB0⟩ : ∃ B, B = 240 + k / 262144 := ⟨_, rfl⟩
  obtain ⟨X3, hX3⟩ : ∃ X, X = k / 4096 % 64 := ⟨_, rfl⟩
  obtain ⟨B3, hB3⟩ : ∃ B, B = 128 + X3 := ⟨_, rfl⟩
  obtain ⟨X1, hX1⟩ : ∃ X, X = k / 64 % 64 := ⟨_, rfl⟩
  obtain ⟨B1, hB1⟩ : ∃ B, B = 128 + X1 := ⟨_, rfl⟩
  obtain ⟨X2, hX2⟩ : ∃ X, X = k % 64 := ⟨_, rfl⟩
  obtain ⟨B2, hB2⟩ : ∃ B, B = 128 + X2 := ⟨_, rfl⟩
  have hc := conv_new w [B0, B3, B1, B2] E 4 rfl (by simp; omega) (by rw [hE, hB0, hB1, hX1, hB2, hX2, hB3, hX3]; rfl)
  simp only [List.map_cons, List.map_nil] at hc
  have f0 : bits .or .i64 240 (c / 262144) = (B0 : Int) := by
    rw [hck, hB0]
    have e := bits_join .i64 62 (by decide) wrap62 4 (240 : Int) ((k : Int) / 262144) (by omega) (by omega) (by omega) (by omega) (by omega) (by omega)
    rw [e]; omega
  have f5 : bits .and .i64 (c / 4096) 63 = (X3 : Int) := by rw [hck, hX3]; exact and63 (k / 4096) (by omega)
  have f6 : bits .or .i64 128 (X3 : Int) = (B3 : Int) := by rw [hB3]; exact or_i64 128 X3 (by omega) (by omega) (by omega)
  have f1 : bits .and .i64 (c / 64) 63 = (X1 : Int) := by rw [hck, hX1]; exact and63 (k / 64) (by omega)
  have f2 : bits .or .i64 128 (X1 : Int) = (B1 : Int) := by rw [hB1]; exact or_i64 128 X1 (by omega) (by omega) (by omega)
  have f3 : bits .and .i64 c 63 = (X2 : Int) := by rw [hck, hX2]; exact and63 k (by omega)
  have f4 : bits .or .i64 128 (X2 : Int) = (B2 : Int) := by rw [hB2]; exact or_i64 128 X2 (by omega) (by omega) (by omega)
  have b0 : B0 < 256 := by omega
  have b1 : B1 < 256 := by omega
  have b2 : B2 < 256 := by omega
  have b3 : B3 < 256 := by omega
  have c0 : (B0 : Int) % 256 = B0 := by omega
  have c1 : (B1 : Int) % 256 = B1 := by omega
  have c2 : (B2 : Int) % 256 = B2 := by omega
  have c3 : (B3 : Int) % 256 = B3 := by omega
  have i1 : 65536 ≤ c := by omega
  have i2 : c ≤ 1114111 := by omega
  clear hck hE hB0 hB1 hX1 hB2 hX2 hB3 hX3 h1 h2
  go_enter Tryz.func24, Tryz.ntmps24
  go_wp2
  go_ret
  exact ⟨rfl, (Below.refl _ _).alloc (Nat.le_refl _) _⟩

/-- The document's own bytes of a code. -/
theorem rbytes_any (c : Int) (w : World) : Calls Tryz.prog 24 #[.int .i64 c] w fun e w' => e = .returned (.string (bytesOf c)) ∧ Below w.heap.size w w' := by
  by_cases h : c < 0 ∨ 1114111 < c ∨ (55296 ≤ c ∧ c ≤ 57343)
  · rw [bytes_none c h]
    exact rbytes_none c w h
  · obtain ⟨k, rfl⟩ : ∃ k : Nat, c = k := ⟨c.toNat, by omega⟩
    obtain ⟨hv, hb⟩ := bytes_some k (by omega)
    rw [hb]
    rcases enc_cases k hv with ⟨h1, e⟩ | ⟨h1, h2, e⟩ | ⟨h1, h2, h3, e⟩ | ⟨h1, h2, e⟩
    · exact rbytes_one k w h1 _ e
    · exact rbytes_two k w h1 h2 _ e
    · exact rbytes_three _ k rfl w h1 h2 h3 _ e
    · exact rbytes_four _ k rfl w h1 h2 _ e
end
end Go.Proofs.YteenleedonmkmaaGreatDoor
