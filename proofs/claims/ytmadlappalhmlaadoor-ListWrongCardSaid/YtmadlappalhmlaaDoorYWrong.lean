/- Stage 12's law ListWrong, out of what is asked of list's calls. -/
import Derived.Test.YtmadlappalhmlaaDoorYLaws
import Derived.Test.YtmadlappalhmlaaDoorNPlace
import Derived.Deep.CutRange
import Derived.Deep.DeepCutAuto
namespace Go.Proofs.YtmadlappalhmlaaDoor
open Go Go.RowKit Go.Lib

def ah (i : Nat) : ByteArray := if i % 3 = 0 then ⟨#[99, 97, 116, 47, 83, 10]⟩ else if i % 3 = 1 then ⟨#[10]⟩ else ⟨#[35, 32, 119, 111, 114, 100, 115, 10]⟩
def ahead : Nat → ByteArray
  | 0 => ⟨#[]⟩
  | i + 1 => ahead i ++ ah i
theorem ah_size (i : Nat) : (ah i).size ≤ 14 := by
  unfold ah
  split
  · decide
  · split <;> decide
theorem ahead_size : ∀ i, (ahead i).size ≤ 14 * i
  | 0 => by decide
  | i + 1 => by
    have h1 := ahead_size i
    have h2 := ah_size i
    show (ahead i ++ ah i).size ≤ _
    rw [ByteArray.size_append]
    omega
def wrongW : List ByteArray := [⟨#[97, 32, 98]⟩, ⟨#[47, 83]⟩, ⟨#[97, 47]⟩, ⟨#[97, 47, 49]⟩, ⟨#[97, 47, 83, 83]⟩, ⟨#[97, 47, 83, 47, 84]⟩, ⟨#[97, 35]⟩, ⟨#[255]⟩, ⟨#[97, 9, 98]⟩, ⟨#[97, 47, 195, 169]⟩]
def wk (k : Nat) : ByteArray := wrongW.getD k ⟨#[]⟩
def goodB : ByteArray := ⟨#[103, 111, 111, 100, 47, 83, 97]⟩
theorem wk_size : ∀ k : Fin 10, (wk k.1).size ≤ 5 := by decide
theorem wrong_all : ∀ (k : Fin 10) (n : Fin 20), (parseE (ahead n.1 ++ wk k.1)).2 = (n.1 + 1, 5) := by decide +kernel
theorem good_all : ∀ (n : Fin 20), (parseE (ahead n.1 ++ goodB)).2 = (0, 0) ∧ (parseE (ahead n.1 ++ goodB)).1.length = (n.1 + 2) / 3 + 1 := by decide +kernel
variable {T : World → Prop}
set_option maxRecDepth 100000 in
theorem pick3 (w : World) : ∀ h : Nat, h < 3 → (Instr.index 35 (.agg #[.string ⟨#[99, 97, 116, 47, 83, 10]⟩, .string ⟨#[10]⟩, .string ⟨#[35, 32, 119, 111, 114, 100, 115, 10]⟩]) (.int .i64 h)).run Tryd.prog w = .ok (.string (ah h)) w
  | 0, _ => by kernel_rfl
  | 1, _ => by kernel_rfl
  | 2, _ => by kernel_rfl
  | h + 3, hh => by omega
set_option maxRecDepth 100000 in
theorem pick10 (w : World) : ∀ k : Nat, k < 10 → (Instr.index 36 (.agg #[.string ⟨#[97, 32, 98]⟩, .string ⟨#[47, 83]⟩, .string ⟨#[97, 47]⟩, .string ⟨#[97, 47, 49]⟩, .string ⟨#[97, 47, 83, 83]⟩, .string ⟨#[97, 47, 83, 47, 84]⟩, .string ⟨#[97, 35]⟩, .string ⟨#[255]⟩, .string ⟨#[97, 9, 98]⟩, .string ⟨#[97, 47, 195, 169]⟩]) (.int .i64 k)).run Tryd.prog w = .ok (.string (wk k)) w
  | 0, _ => by kernel_rfl
  | 1, _ => by kernel_rfl
  | 2, _ => by kernel_rfl
  | 3, _ => by kernel_rfl
  | 4, _ => by kernel_rfl
  | 5, _ => by kernel_rfl
  | 6, _ => by kernel_rfl
  | 7, _ => by kernel_rfl
  | 8, _ => by kernel_rfl
  | 9, _ => by kernel_rfl
  | h + 10, hh => by omega
theorem mod3 (i : Nat) : (i % 3 = 0 → (i : Int).tmod 3 = 0) ∧ (i % 3 = 1 → (i : Int).tmod 3 = 1) ∧ (i % 3 = 2 → (i : Int).tmod 3 = 2) := by
  have h : (i : Int).tmod 3 = ((i % 3 : Nat) : Int) := by
    rw [Int.tmod_eq_emod_of_nonneg (by omega)]; omega
  rw [h]
  exact ⟨fun e => by rw [e]; rfl, fun e => by rw [e]; rfl, fun e => by rw [e]; rfl⟩

set_option maxRecDepth 100000 in
set_option maxHeartbeats 1000000 in
theorem ewrong_law (S : SaysL T) (w : World) (hT : T w) (x y : Int) :
    Calls Tryd.prog 5 #[.int .i64 x, .int .i64 y] w fun e w' => e = .returned (.bool true) ∧ Below w.heap.size w w' := by
  have HT := Lib.hid (fun wx (hb : Below w.heap.size w wx) => S.kept w wx hT hb)
  have AW := Lib.hid (fun wx (hb : Below w.heap.size w wx) => eawake_any S wx (S.kept w wx hT hb))
  have HS := Lib.hid S
  have P1 := Lib.hid (fun wx => place9 y 20 wx (by omega) (by omega))
  have P2 := Lib.hid (fun wx => place9 x 10 wx (by omega) (by omega))
  obtain ⟨n, hn⟩ : ∃ n : Nat, y % 20 = n := ⟨(y % 20).toNat, by omega⟩
  obtain ⟨k, hk⟩ : ∃ n : Nat, x % 10 = n := ⟨(x % 10).toNat, by omega⟩
  have n20 : n < 20 := by omega
  have k10 : k < 10 := by omega
  rw [hn] at P1
  rw [hk] at P2
  clear S hT hn hk
  have n20' : (n : Int) < 20 := by omega
  go_enter Tryd.func5, Tryd.ntmps5
  go_wp2_with (go_at_call 16; refine (P1.out _).mono ?_; rintro e wx ⟨rfl, rfl⟩)
  go_loopg [5, 7] n (fun g sv i wr => ∃ j : Nat, j + g = n ∧ sv = .string (ahead j) ∧ i = .int .i64 j ∧ w = wr)
  case atStart => exact ⟨0, by omega, rfl, rfl, rfl⟩
  case round =>
    obtain ⟨j, hj, rfl, rfl, rfl⟩ := hrel
    have hj0 : (0 : Int) ≤ j := by omega
    rcases Nat.eq_zero_or_pos gk with h0 | h0
    · have hjn : ¬ (j : Int) < n := by omega
      obtain rfl : j = n := by omega
      have pk := fun wx => pick10 wx k k10
      have hsz := ahead_size j
      have hwz := wk_size ⟨k, k10⟩
      dsimp only at hwz
      have hA1 : (ahead j ++ wk k).size ≤ 400 := by rw [ByteArray.size_append]; omega
      have hA2 : (ahead j ++ goodB).size ≤ 500 := by rw [ByteArray.size_append]; show _ + 7 ≤ _; omega
      have q1 : ¬ 9223372036854775807 < (ahead j).size + (wk k).size := by omega
      have q2 : ¬ 9223372036854775807 < (ahead j).size + 7 := by omega
      have C1 := Lib.hid (fun wx (hb : Below w.heap.size w wx) => HS.out.parse wx (ahead j ++ wk k) (HT.out _ hb) (by omega))
      have C2 := Lib.hid (fun wx (hb : Below w.heap.size w wx) => HS.out.parse wx (ahead j ++ goodB) (HT.out _ hb) (by omega))
      have e1 := wrong_all ⟨k, k10⟩ ⟨j, n20⟩
      obtain ⟨e2, e3⟩ := good_all ⟨j, n20⟩
      dsimp only at e1 e2 e3
      rw [parseE_err (s := ahead j ++ wk k) (by rw [e1]; show (5 : Int) ≠ 0; decide), e1] at C1
      rw [e2] at C2
      obtain ⟨M, hM⟩ : ∃ M, M = (parseE (ahead j ++ goodB)).1 := ⟨_, rfl⟩
      rw [← hM] at C2 e3
      rw [show goodB = ⟨#[103, 111, 111, 100, 47, 83, 97]⟩ from rfl] at C2
      obtain ⟨K, hK⟩ : ∃ K, K = (j + 2) / 3 := ⟨_, rfl⟩
      rw [← hK] at e3
      have w1 : IntKind.i64.wrap ((j : Int) + 1) = ((j + 1 : Nat) : Int) := by rw [IntWalk.i64_in _ (by omega)]; omega
      have w2 : IntKind.i64.wrap ((j : Int) + 2) = ((j + 2 : Nat) : Int) := by rw [IntWalk.i64_in _ (by omega)]; omega
      have w3 : ((j + 2 : Nat) : Int).tdiv 3 = (K : Int) := by rw [Int.tdiv_eq_ediv_of_nonneg (by omega), hK]; omega
      have w31 : ((j : Int) + 2).tdiv 3 = (K : Int) := by rw [Int.tdiv_eq_ediv_of_nonneg (by omega), hK]; omega
      have w4 : IntKind.i64.wrap (K : Int) = (K : Int) := IntWalk.i64_in _ (by omega)
      have w5 : IntKind.i64.wrap ((K : Int) + 1) = ((K + 1 : Nat) : Int) := by rw [IntWalk.i64_in _ (by omega)]; omega
      obtain ⟨X, hX⟩ : ∃ X, X = wk k := ⟨_, rfl⟩
      rw [← hX] at pk q1 C1
      have HE3 := Lib.hid e3
      clear e1 e2 e3 hsz hwz hA1 hA2 hX hM hK
      go_wp2_with (first
        | (have z := hpar2; go_at_call 9; refine (AW.out _ HB2.out).mono ?_; rintro e w5 ⟨rfl, hb⟩; have HB5 := Lib.hid (HB2.out.trans (hb.mono HB2.out.size)); clear hb)
        | (go_at_call 16; refine (P2.out _).mono ?_; rintro e wx ⟨rfl, hwx⟩; have hwy := hwx.symm; clear hwx; subst hwy)
        | (have z := hpar1; go_at_call 10; refine (C2.out _ HB1.out).mono ?_; rintro e w2 ⟨v2, rfl, hv2, hb2⟩; obtain ⟨A2, c2, rfl⟩ := ents_form hv2; rw [HE3.out]; have HB2 := Lib.hid (HB1.out.trans (hb2.mono HB1.out.size)); clear hv2 hb2; have hpar2 : True := trivial)
        | (go_at_call 10; refine (C1.out _ (Below.refl _ _)).mono ?_; rintro e w1 ⟨v1, rfl, hv1, hb1⟩; obtain ⟨A1, c1, rfl⟩ := ents_nil hv1; have HB1 := Lib.hid hb1; clear hv1 hb1; have hpar1 : True := trivial))
      go_ret
      exact ⟨rfl, HB5.out⟩
    · have hjn : (j : Int) < n := by omega
      have hsz := ahead_size j
      have q1 : ¬ 9223372036854775807 < (ahead j).size + 6 := by omega
      have q2 : ¬ 9223372036854775807 < (ahead j).size + 1 := by omega
      have q3 : ¬ 9223372036854775807 < (ahead j).size + 8 := by omega
      obtain ⟨m0, m1, m2⟩ := mod3 j
      have pk0 := pick3 w 0 (by omega)
      have pk1 := pick3 w 1 (by omega)
      have pk2 := pick3 w 2 (by omega)
      rw [show ah 0 = ⟨#[99, 97, 116, 47, 83, 10]⟩ from rfl] at pk0
      rw [show ah 1 = ⟨#[10]⟩ from rfl] at pk1
      rw [show ah 2 = ⟨#[35, 32, 119, 111, 114, 100, 115, 10]⟩ from rfl] at pk2
      simp only [Int.cast_ofNat_Int] at pk0 pk1 pk2
      have hcs : j % 3 = 0 ∨ j % 3 = 1 ∨ j % 3 = 2 := by omega
      rcases hcs with h | h | h
      · have hm := m0 h
        have HA := Lib.hid (show ahead (j + 1) = ahead j ++ ⟨#[99, 97, 116, 47, 83, 10]⟩ by show ahead j ++ ah j = _; unfold ah; rw [if_pos h])
        clear m0 m1 m2 h hsz
        go_wp2_with fail
        go_roundg (gk - 1)
        case measure => omega
        case rel => exact ⟨j + 1, by omega, by rw [HA.out], by go_num, rfl⟩
      · have hm := m1 h
        have HA := Lib.hid (show ahead (j + 1) = ahead j ++ ⟨#[10]⟩ by show ahead j ++ ah j = _; unfold ah; rw [if_neg (by omega), if_pos h])
        clear m0 m1 m2 h hsz
        go_wp2_with fail
        go_roundg (gk - 1)
        case measure => omega
        case rel => exact ⟨j + 1, by omega, by rw [HA.out], by go_num, rfl⟩
      · have hm := m2 h
        have HA := Lib.hid (show ahead (j + 1) = ahead j ++ ⟨#[35, 32, 119, 111, 114, 100, 115, 10]⟩ by show ahead j ++ ah j = _; unfold ah; rw [if_neg (by omega), if_neg (by omega)])
        clear m0 m1 m2 h hsz
        go_wp2_with fail
        go_roundg (gk - 1)
        case measure => omega
        case rel => exact ⟨j + 1, by omega, by rw [HA.out], by go_num, rfl⟩
end Go.Proofs.YtmadlappalhmlaaDoor
