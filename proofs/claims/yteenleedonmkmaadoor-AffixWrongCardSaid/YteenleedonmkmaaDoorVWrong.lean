/- Stage 11's law AffixWrong, out of what is asked of affix's calls. -/
import Derived.Test.YteenleedonmkmaaDoorVBack
import Derived.Deep.CutRange
import Derived.Deep.DeepCutAuto
namespace Go.Proofs.YteenleedonmkmaaDoor
open Go Go.RowKit Go.Lib

def ah (i : Nat) : ByteArray := if i % 3 = 0 then ⟨#[83, 70, 88, 32, 83, 32, 89, 32, 48, 32, 115, 32, 46, 10]⟩ else if i % 3 = 1 then ⟨#[10]⟩ else ⟨#[35, 32, 119, 111, 114, 100, 115, 10]⟩
def ahead : Nat → ByteArray
  | 0 => ⟨#[]⟩
  | i + 1 => ahead i ++ ah i
theorem ah_size (i : Nat) : (ah i).size ≤ 14 := by
  unfold ah
  split
  · decide
  · split <;> decide
theorem ahead_size : ∀ i, (ahead i).size ≤ 14 * i
  | 0 => by decide
  | i + 1 => by
    have h1 := ahead_size i
    have h2 := ah_size i
    show (ahead i ++ ah i).size ≤ _
    rw [ByteArray.size_append]
    omega
def wrongW : List ByteArray := [⟨#[104, 111, 112]⟩, ⟨#[83, 70, 88, 32, 83, 32, 89, 32, 48, 32, 115]⟩, ⟨#[83, 70, 88, 32, 83, 32, 89, 32, 48, 32, 115, 32, 46, 32, 46]⟩, ⟨#[83, 70, 88, 32, 49, 32, 89, 32, 48, 32, 115, 32, 46]⟩, ⟨#[83, 70, 88, 32, 83, 32, 88, 32, 48, 32, 115, 32, 46]⟩, ⟨#[83, 70, 88, 32, 83, 32, 89, 32, 32, 115, 32, 46]⟩, ⟨#[83, 70, 88, 32, 83, 32, 89, 32, 48, 32, 115, 32, 91]⟩, ⟨#[83, 70, 88, 32, 83, 32, 89, 32, 48, 32, 115, 32, 91, 93]⟩, ⟨#[67, 65, 83, 69, 32, 195, 137]⟩, ⟨#[67, 65, 83, 69, 32, 195, 137, 195, 137]⟩, ⟨#[67, 65, 83, 69, 32, 65, 195, 169]⟩, ⟨#[32, 83, 70, 88, 32, 83, 32, 89, 32, 48, 32, 115, 32, 46]⟩, ⟨#[80, 70, 88, 32, 83, 83, 32, 89, 32, 48, 32, 115, 32, 46]⟩, ⟨#[80, 70, 88, 32, 83, 32, 89, 32, 48, 32, 115, 32, 46]⟩]
def wk (k : Nat) : ByteArray := wrongW.getD k ⟨#[]⟩
def hopB : ByteArray := ⟨#[10, 104, 111, 112]⟩
theorem wk_size : ∀ k : Fin 14, (wk k.1).size ≤ 15 := by decide
theorem wrong_one : ∀ (k : Fin 13) (n : Fin 20), (parseA (ahead n.1 ++ wk k.1)).2 = (n.1 + 1, 5) ∧ (parseA (ahead n.1 ++ wk k.1 ++ hopB)).2 = (n.1 + 1, 5) := by decide +kernel
theorem wrong_flag : ∀ (n : Fin 20), (parseA (ahead n.1 ++ wk 13)).2 = (if n.1 = 0 then (0, 0) else (n.1 + 1, 6)) ∧ (parseA (ahead n.1 ++ wk 13 ++ hopB)).2 = (n.1 + 2, 5) := by decide +kernel
variable {T : World → Prop}
set_option maxRecDepth 100000 in
theorem pick3 (w : World) : ∀ h : Nat, h < 3 → (Instr.index 36 (.agg #[.string ⟨#[83, 70, 88, 32, 83, 32, 89, 32, 48, 32, 115, 32, 46, 10]⟩, .string ⟨#[10]⟩, .string ⟨#[35, 32, 119, 111, 114, 100, 115, 10]⟩]) (.int .i64 h)).run Tryd.prog w = .ok (.string (ah h)) w
  | 0, _ => by kernel_rfl
  | 1, _ => by kernel_rfl
  | 2, _ => by kernel_rfl
  | h + 3, hh => by omega
set_option maxRecDepth 100000 in
theorem pick14 (w : World) : ∀ k : Nat, k < 14 → (Instr.index 37 (.agg #[.string ⟨#[104, 111, 112]⟩, .string ⟨#[83, 70, 88, 32, 83, 32, 89, 32, 48, 32, 115]⟩, .string ⟨#[83, 70, 88, 32, 83, 32, 89, 32, 48, 32, 115, 32, 46, 32, 46]⟩, .string ⟨#[83, 70, 88, 32, 49, 32, 89, 32, 48, 32, 115, 32, 46]⟩, .string ⟨#[83, 70, 88, 32, 83, 32, 88, 32, 48, 32, 115, 32, 46]⟩, .string ⟨#[83, 70, 88, 32, 83, 32, 89, 32, 32, 115, 32, 46]⟩, .string ⟨#[83, 70, 88, 32, 83, 32, 89, 32, 48, 32, 115, 32, 91]⟩, .string ⟨#[83, 70, 88, 32, 83, 32, 89, 32, 48, 32, 115, 32, 91, 93]⟩, .string ⟨#[67, 65, 83, 69, 32, 195, 137]⟩, .string ⟨#[67, 65, 83, 69, 32, 195, 137, 195, 137]⟩, .string ⟨#[67, 65, 83, 69, 32, 65, 195, 169]⟩, .string ⟨#[32, 83, 70, 88, 32, 83, 32, 89, 32, 48, 32, 115, 32, 46]⟩, .string ⟨#[80, 70, 88, 32, 83, 83, 32, 89, 32, 48, 32, 115, 32, 46]⟩, .string ⟨#[80, 70, 88, 32, 83, 32, 89, 32, 48, 32, 115, 32, 46]⟩]) (.int .i64 k)).run Tryd.prog w = .ok (.string (wk k)) w
  | 0, _ => by kernel_rfl
  | 1, _ => by kernel_rfl
  | 2, _ => by kernel_rfl
  | 3, _ => by kernel_rfl
  | 4, _ => by kernel_rfl
  | 5, _ => by kernel_rfl
  | 6, _ => by kernel_rfl
  | 7, _ => by kernel_rfl
  | 8, _ => by kernel_rfl
  | 9, _ => by kernel_rfl
  | 10, _ => by kernel_rfl
  | 11, _ => by kernel_rfl
  | 12, _ => by kernel_rfl
  | 13, _ => by kernel_rfl
  | h + 14, hh => by omega
theorem mod3 (i : Nat) : (i % 3 = 0 → (i : Int).tmod 3 = 0) ∧ (i % 3 = 1 → (i : Int).tmod 3 = 1) ∧ (i % 3 = 2 → (i : Int).tmod 3 = 2) := by
  have h : (i : Int).tmod 3 = ((i % 3 : Nat) : Int) := by
    rw [Int.tmod_eq_emod_of_nonneg (by omega)]; omega
  rw [h]
  exact ⟨fun e => by rw [e]; rfl, fun e => by rw [e]; rfl, fun e => by rw [e]; rfl⟩

set_option maxRecDepth 100000 in
set_option maxHeartbeats 1000000 in
theorem awrong_law (S : SaysA T) (w : World) (hT : T w) (x y : Int) :
    Calls Tryd.prog 4 #[.int .i64 x, .int .i64 y] w fun e w' => e = .returned (.bool true) ∧ Below w.heap.size w w' := by
  have HT := Lib.hid (fun wx (hb : Below w.heap.size w wx) => S.kept w wx hT hb)
  have AW := Lib.hid (fun wx (hb : Below w.heap.size w wx) => aawake_any S wx (S.kept w wx hT hb))
  have HS := Lib.hid S
  have P1 := Lib.hid (fun wx => place9 y 20 wx (by omega) (by omega))
  have P2 := Lib.hid (fun wx => place9 x 14 wx (by omega) (by omega))
  obtain ⟨n, hn⟩ : ∃ n : Nat, y % 20 = n := ⟨(y % 20).toNat, by omega⟩
  obtain ⟨k, hk⟩ : ∃ n : Nat, x % 14 = n := ⟨(x % 14).toNat, by omega⟩
  have n20 : n < 20 := by omega
  have k14 : k < 14 := by omega
  rw [hn] at P1
  rw [hk] at P2
  clear S hT hn hk
  have n20' : (n : Int) < 20 := by omega
  go_enter Tryd.func4, Tryd.ntmps4
  go_wp2_with (go_at_call 11; refine (P1.out _).mono ?_; rintro e wx ⟨rfl, rfl⟩)
  go_loopg [5, 7] n (fun g sv i wr => ∃ j : Nat, j + g = n ∧ sv = .string (ahead j) ∧ i = .int .i64 j ∧ w = wr)
  case atStart => exact ⟨0, by omega, rfl, rfl, rfl⟩
  case round =>
    obtain ⟨j, hj, rfl, rfl, rfl⟩ := hrel
    have hj0 : (0 : Int) ≤ j := by omega
    rcases Nat.eq_zero_or_pos gk with h0 | h0
    · have hjn : ¬ (j : Int) < n := by omega
      obtain rfl : j = n := by omega
      have pk := fun wx => pick14 wx k k14
      have hsz := ahead_size j
      have hwz := wk_size ⟨k, k14⟩
      have hA1 : (ahead j ++ wk k).size ≤ 400 := by rw [ByteArray.size_append]; dsimp only at hwz; omega
      have hA2 : (ahead j ++ wk k ++ hopB).size ≤ 500 := by rw [ByteArray.size_append]; show _ + 4 ≤ _; omega
      have q1 : ¬ 9223372036854775807 < (ahead j).size + (wk k).size := by dsimp only at hwz; omega
      have q2 : ¬ 9223372036854775807 < (ahead j).size + (wk k).size + 4 := by dsimp only at hwz; omega
      have C1 := Lib.hid (fun wx (hb : Below w.heap.size w wx) => HS.out.parse wx (ahead j ++ wk k) (HT.out _ hb) (by omega))
      have C2 := Lib.hid (fun wx (hb : Below w.heap.size w wx) => HS.out.parse wx (ahead j ++ wk k ++ hopB) (HT.out _ hb) (by omega))
      by_cases h13 : k = 13
      · subst h13
        obtain ⟨e1, e2⟩ := wrong_flag ⟨j, n20⟩
        dsimp only at e1 e2
        rw [e2] at C2
        rw [e1] at C1
        rw [show hopB = ⟨#[10, 104, 111, 112]⟩ from rfl] at C2
        have w2 : IntKind.i64.wrap ((j : Int) + 2) = ((j + 2 : Nat) : Int) := by rw [IntWalk.i64_in _ (by omega)]; omega
        obtain ⟨X, hX⟩ : ∃ X, X = wk 13 := ⟨_, rfl⟩
        rw [← hX] at pk q1 q2 C1 C2
        clear e1 e2 hsz hwz hA1 hA2 hX
        simp only [Int.cast_ofNat_Int] at pk P2
        by_cases hz : j = 0
        · subst hz
          simp only [if_true] at C1
          simp only [Int.cast_ofNat_Int] at P1
          go_wp2_with (go_at_call 11; refine (P2.out _).mono ?_; rintro e wx ⟨rfl, rfl⟩)
          refine (C1.out _ (Below.refl _ _)).mono ?_
          rintro e w1 ⟨v1, rfl, hv1, hb1⟩
          obtain ⟨A, n', cA, B, m', cB, rfl, -, -⟩ := af_at hv1
          have HB1 := Lib.hid (hb1.alloc hb1.size (.cells #[.slice A n' cA, .slice B m' cB] 28))
          clear hv1 hb1
          go_wp2_with (go_at_call 8; refine (C2.out _ HB1.out).mono ?_)
          rintro e w2 ⟨v2, rfl, hv2, hb2⟩
          obtain ⟨A2, n2, cA2, B2, m2, cB2, rfl, -, -⟩ := af_at hv2
          have HB2 := Lib.hid (HB1.out.trans ((hb2.alloc hb2.size (.cells #[.slice A2 n2 cA2, .slice B2 m2 cB2] 28)).mono HB1.out.size))
          clear hv2 hb2
          go_wp2_with fail
          refine (AW.out _ HB2.out).mono ?_
          rintro e w5 ⟨rfl, hb⟩
          have HB5 := Lib.hid (HB2.out.trans (hb.mono HB2.out.size))
          clear hb
          go_wp2_with fail
          go_ret
          exact ⟨rfl, HB5.out⟩
        · rw [if_neg hz] at C1
          have hz0 : ((j : Int) == 0) = false := by simp; omega
          clear hz
          go_wp2_with (go_at_call 11; refine (P2.out _).mono ?_; rintro e wx ⟨rfl, rfl⟩)
          refine (C1.out _ (Below.refl _ _)).mono ?_
          rintro e w1 ⟨v1, rfl, hv1, hb1⟩
          obtain ⟨A, n', cA, B, m', cB, rfl, -, -⟩ := af_at hv1
          have HB1 := Lib.hid (hb1.alloc hb1.size (.cells #[.slice A n' cA, .slice B m' cB] 28))
          clear hv1 hb1
          go_wp2_with (go_at_call 8; refine (C2.out _ HB1.out).mono ?_)
          rintro e w2 ⟨v2, rfl, hv2, hb2⟩
          obtain ⟨A2, n2, cA2, B2, m2, cB2, rfl, -, -⟩ := af_at hv2
          have HB2 := Lib.hid (HB1.out.trans ((hb2.alloc hb2.size (.cells #[.slice A2 n2 cA2, .slice B2 m2 cB2] 28)).mono HB1.out.size))
          clear hv2 hb2
          go_wp2_with fail
          refine (AW.out _ HB2.out).mono ?_
          rintro e w5 ⟨rfl, hb⟩
          have HB5 := Lib.hid (HB2.out.trans (hb.mono HB2.out.size))
          clear hb
          go_wp2_with fail
          go_ret
          exact ⟨rfl, HB5.out⟩
      · obtain ⟨e1, e2⟩ := wrong_one ⟨k, by omega⟩ ⟨j, n20⟩
        dsimp only at e1 e2
        rw [e1] at C1
        rw [e2] at C2
        rw [show hopB = ⟨#[10, 104, 111, 112]⟩ from rfl] at C2
        have hk13 : ((k : Int) == 13) = false := by simp; omega
        have hq : (k : Int).tdiv 13 = 0 := by rw [Int.tdiv_eq_ediv_of_nonneg (by omega)]; omega
        have w1 : IntKind.i64.wrap ((j : Int) + 1) = ((j + 1 : Nat) : Int) := by rw [IntWalk.i64_in _ (by omega)]; omega
        have w2 : IntKind.i64.wrap ((j : Int) + 2) = ((j + 2 : Nat) : Int) := by rw [IntWalk.i64_in _ (by omega)]; omega
        obtain ⟨X, hX⟩ : ∃ X, X = wk k := ⟨_, rfl⟩
        rw [← hX] at pk q1 q2 C1 C2
        clear e1 e2 h13 hsz hwz hA1 hA2 hX
        go_wp2_with (go_at_call 11; refine (P2.out _).mono ?_; rintro e wx ⟨rfl, rfl⟩)
        refine (C1.out _ (Below.refl _ _)).mono ?_
        rintro e w1 ⟨v1, rfl, hv1, hb1⟩
        obtain ⟨A, n', cA, B, m', cB, rfl, -, -⟩ := af_at hv1
        have HB1 := Lib.hid (hb1.alloc hb1.size (.cells #[.slice A n' cA, .slice B m' cB] 28))
        clear hv1 hb1
        go_wp2_with (go_at_call 8; refine (C2.out _ HB1.out).mono ?_)
        rintro e w2 ⟨v2, rfl, hv2, hb2⟩
        obtain ⟨A2, n2, cA2, B2, m2, cB2, rfl, -, -⟩ := af_at hv2
        have HB2 := Lib.hid (HB1.out.trans ((hb2.alloc hb2.size (.cells #[.slice A2 n2 cA2, .slice B2 m2 cB2] 28)).mono HB1.out.size))
        clear hv2 hb2
        go_wp2_with fail
        refine (AW.out _ HB2.out).mono ?_
        rintro e w5 ⟨rfl, hb⟩
        have HB5 := Lib.hid (HB2.out.trans (hb.mono HB2.out.size))
        clear hb
        go_wp2_with fail
        go_ret
        exact ⟨rfl, HB5.out⟩
    · have hjn : (j : Int) < n := by omega
      have hsz := ahead_size j
      have q1 : ¬ 9223372036854775807 < (ahead j).size + 14 := by omega
      have q2 : ¬ 9223372036854775807 < (ahead j).size + 1 := by omega
      have q3 : ¬ 9223372036854775807 < (ahead j).size + 8 := by omega
      obtain ⟨m0, m1, m2⟩ := mod3 j
      have pk0 := pick3 w 0 (by omega)
      have pk1 := pick3 w 1 (by omega)
      have pk2 := pick3 w 2 (by omega)
      rw [show ah 0 = ⟨#[83, 70, 88, 32, 83, 32, 89, 32, 48, 32, 115, 32, 46, 10]⟩ from rfl] at pk0
      rw [show ah 1 = ⟨#[10]⟩ from rfl] at pk1
      rw [show ah 2 = ⟨#[35, 32, 119, 111, 114, 100, 115, 10]⟩ from rfl] at pk2
      simp only [Int.cast_ofNat_Int] at pk0 pk1 pk2
      have hcs : j % 3 = 0 ∨ j % 3 = 1 ∨ j % 3 = 2 := by omega
      rcases hcs with h | h | h
      · have hm := m0 h
        have HA := Lib.hid (show ahead (j + 1) = ahead j ++ ⟨#[83, 70, 88, 32, 83, 32, 89, 32, 48, 32, 115, 32, 46, 10]⟩ by show ahead j ++ ah j = _; unfold ah; rw [if_pos h])
        clear m0 m1 m2 h hsz
        go_wp2_with fail
        go_roundg (gk - 1)
        case measure => omega
        case rel => exact ⟨j + 1, by omega, by rw [HA.out], by go_num, rfl⟩
      · have hm := m1 h
        have HA := Lib.hid (show ahead (j + 1) = ahead j ++ ⟨#[10]⟩ by show ahead j ++ ah j = _; unfold ah; rw [if_neg (by omega), if_pos h])
        clear m0 m1 m2 h hsz
        go_wp2_with fail
        go_roundg (gk - 1)
        case measure => omega
        case rel => exact ⟨j + 1, by omega, by rw [HA.out], by go_num, rfl⟩
      · have hm := m2 h
        have HA := Lib.hid (show ahead (j + 1) = ahead j ++ ⟨#[35, 32, 119, 111, 114, 100, 115, 10]⟩ by show ahead j ++ ah j = _; unfold ah; rw [if_neg (by omega), if_neg (by omega)])
        clear m0 m1 m2 h hsz
        go_wp2_with fail
        go_roundg (gk - 1)
        case measure => omega
        case rel => exact ⟨j + 1, by omega, by rw [HA.out], by go_num, rfl⟩
end Go.Proofs.YteenleedonmkmaaDoor
