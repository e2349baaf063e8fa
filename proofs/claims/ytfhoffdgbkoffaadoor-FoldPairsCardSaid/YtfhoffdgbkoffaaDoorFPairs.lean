/- FoldPairs. -/
import Derived.Test.YtfhoffdgbkoffaaDoorFSides
import Derived.Test.YtfhoffdgbkoffaaDoorFPairP
import Derived.Laws.Runes
import Derived.Deep.RegionHeld3
import Derived.Deep.DeepCutAuto
import Derived.Deep.CutRange
namespace Go.Proofs.YtfhoffdgbkoffaaDoor
open Go Go.RowKit Go.Lib

set_option maxRecDepth 100000 in
set_option maxHeartbeats 4000000 in
theorem pairs_law (w : World) (hT : TU w) (y0 y1 y2 : Int) :
    Calls Tryd.prog 5 #[.int .i64 y0, .int .i64 y1, .int .i64 y2] w fun e w' => e = .returned (.bool true) ∧ Below w.heap.size w w' := by
  have HT := Lib.hid hT
  clear hT
  obtain ⟨k0, hk0⟩ : ∃ k : Int, k = y0 % 1000 := ⟨_, rfl⟩
  obtain ⟨k1, hk1⟩ : ∃ k : Int, k = y1 % 1000 := ⟨_, rfl⟩
  have CP0 := Lib.hid (fun wx => place9 y0 1000 wx (by omega) (by omega))
  have CP1 := Lib.hid (fun wx => place9 y1 1000 wx (by omega) (by omega))
  have CP2 := Lib.hid (fun wx => place9 y2 10 wx (by omega) (by omega))
  rw [← hk0] at CP0
  rw [← hk1] at CP1
  obtain ⟨K, hK⟩ : ∃ K : Nat, y2 % 10 = (K : Int) := ⟨(y2 % 10).toNat, by omega⟩
  rw [hK] at CP2
  have hK10 : K ≤ 9 := by omega
  obtain ⟨G, hG⟩ : ∃ G : Int, G = 12288 + k0 := ⟨_, rfl⟩
  obtain ⟨S, hS⟩ : ∃ S : Int, S = 20480 + k1 := ⟨_, rfl⟩
  have g1 : IntKind.i64.wrap ((12288 : Int) + k0) = G := by rw [hG]; exact IntWalk.i64_in _ (by omega)
  have g2 : IntKind.i64.wrap ((20480 : Int) + k1) = S := by rw [hS]; exact IntWalk.i64_in _ (by omega)
  have hown : OwnP G S := ⟨by omega, by omega⟩
  have r1 : IntKind.i32.wrap G = G := Go.IntWalk.i32_in G (by omega)
  have r2 : IntKind.i32.wrap S = S := Go.IntWalk.i32_in S (by omega)
  have HO := Lib.hid hown
  clear hk0 hk1 hK hG hS hown
  go_enter Tryd.func5, Tryd.ntmps5
  go_wp2_with fail
  refine (CP0.out _).mono ?_
  rintro e w1 ⟨rfl, rfl⟩
  go_wp2_with fail
  refine (CP1.out _).mono ?_
  rintro e w1 ⟨rfl, rfl⟩
  go_wp2_with fail
  refine (CP2.out _).mono ?_
  rintro e w1 ⟨rfl, rfl⟩
  obtain ⟨wl, hwl⟩ : ∃ wl, wl = w.alloc (.cells #[.int .i64 G, .int .i64 S] 37) := ⟨_, rfl⟩
  have hp := one_pair w G S ⟨by have := HO.out.g; omega, by have := HO.out.g; omega⟩ ⟨by have := HO.out.s; omega, by have := HO.out.s; omega⟩ 37
  have hbl : Below w.heap.size w (w.alloc (.cells #[.int .i64 G, .int .i64 S] 37)) := (Below.refl _ _).alloc (Nat.le_refl _) _
  rw [← hwl] at hp hbl ⊢
  have HP := Lib.hid (And.intro hp hbl)
  clear hwl hp hbl
  have ha : (Utf8.encode G).data.toList = byC G := (byC_pt HO.out.pts.1).symm
  have hb : (Utf8.encode S).data.toList = byC S := (byC_pt HO.out.pts.2).symm
  go_upto_region 5 with fail
  generalize Utf8.encode G = a at *
  generalize Utf8.encode S = b at *
  have hsa : a.size ≤ 4 := by rw [Lib.size_eq, ha]; exact (enc_len_pos HO.out.pts.1).2.2
  have hsb : b.size ≤ 4 := by rw [Lib.size_eq, hb]; exact (enc_len_pos HO.out.pts.2).2.2
  have q1 : ¬ 9223372036854775807 < a.size + 5 := by omega
  have q2 : ¬ 9223372036854775807 < b.size + 5 := by omega
  have HA := Lib.hid (And.intro ha (And.intro hb (And.intro hsa hsb)))
  clear ha hb hsa hsb
  go_upto_region 7 with fail
  go_wp2_with fail
  go_loopg [14, 15, 16] K (fun gh x y i wr => ∃ j : Nat, j + gh = K ∧ x = .string (rowB a j) ∧ y = .string (rowB b j) ∧ i = .int .i64 j ∧ wr = wl)
  case atStart => exact ⟨0, by omega, rfl, rfl, rfl, rfl⟩
  case round =>
    obtain ⟨j, hj, rfl, rfl, rfl, rfl⟩ := hrel
    by_cases hlt : j < K
    · have hm : j * a.size ≤ 10 * 4 := Nat.mul_le_mul (by omega) HA.out.2.2.1
      have hm2 : j * b.size ≤ 10 * 4 := Nat.mul_le_mul (by omega) HA.out.2.2.2
      have c1 : ¬ 9223372036854775807 < (rowB a j).size + a.size := by rw [rowB_size]; have := HA.out.2.2.1; omega
      have c2 : ¬ 9223372036854775807 < (rowB b j).size + b.size := by rw [rowB_size]; have := HA.out.2.2.2; omega
      clear hm hm2
      go_wp2_with fail
      go_roundg (gk - 1)
      case measure => omega
      case rel => exact ⟨j + 1, by omega, rfl, rfl, by go_num, rfl⟩
    · obtain rfl : j = K := by omega
      obtain ⟨ha, hb, hsa, hsb⟩ := HA.out
      obtain ⟨X, hX⟩ : ∃ X, X = rowB a j := ⟨_, rfl⟩
      obtain ⟨Y, hY⟩ : ∃ Y, Y = rowB b j := ⟨_, rfl⟩
      obtain ⟨sh, hsh⟩ : ∃ sh : Int, sh = if j = 0 then 1 else 2 := ⟨_, rfl⟩
      have hm : j * a.size ≤ 10 * 4 := Nat.mul_le_mul (by omega) hsa
      have hm2 : j * b.size ≤ 10 * 4 := Nat.mul_le_mul (by omega) hsb
      have hXs : X.size ≤ 1000 := by rw [hX, rowB_size]; omega
      have hYs : Y.size ≤ 1000 ∧ b.size ≤ Y.size := by rw [hY, rowB_size]; omega
      have l1 : smallT [(G, S)] X.data.toList = Y.data.toList := by rw [hX, hY]; exact pairs_small HO.out ha hb j
      have l2 : titleT [(G, S)] Y.data.toList = (a ++ Y.extract b.size Y.size).data.toList := by rw [hY]; exact pairs_title HO.out ha hb j
      have l3 : shapeT [(G, S)] X.data.toList = sh := by rw [hX, hsh]; exact pairs_shape HO.out ha j
      have l4 : shapeT [(G, S)] Y.data.toList = 0 := by rw [hY]; exact pairs_flat HO.out hb j
      have l5 : smallT [] X.data.toList = X.data.toList := by rw [hX]; exact pairs_same HO.out ha j
      have HL := Lib.hid (And.intro l1 (And.intro l2 (And.intro l3 (And.intro l4 (And.intro l5 (And.intro hXs hYs))))))
      have HS := Lib.hid hsh
      rw [← hX, ← hY]
      clear hX hY hm hm2 hXs hYs l1 l2 l3 l4 l5 hsh ha hb hsa hsb
      go_upto_if 54 with fail
      go_cut [17] (fun t wz => t = .int .i64 sh ∧ wz = wr)
      case first =>
        by_cases hj0 : j = 0
        · subst hj0
          have hs1 : sh = 1 := HS.out
          subst hs1
          go_wp2_with fail
          go_meet
          exact ⟨rfl, rfl⟩
        · have hs2 : sh = 2 := by rw [HS.out, if_neg hj0]
          have d1 : decide ((0 : Int) < j) = true := by simp; omega
          subst hs2
          go_wp2_with fail
          go_meet
          exact ⟨rfl, rfl⟩
      case rest =>
      obtain ⟨rfl, rfl⟩ := hcut
      generalize Value.slice (some ⟨w.heap.size, 0, none⟩) 1 1 = sl at *
      obtain ⟨l1, l2, l3, l4, l5, hXs, hYs, hbY⟩ := HL.out
      obtain ⟨-, -, hsa, hsb⟩ := HA.out
      obtain ⟨T, hTt⟩ : ∃ T, T = a ++ Y.extract b.size Y.size := ⟨_, rfl⟩
      rw [← hTt] at l2
      have D1 := Lib.hid (fun wx (hb : Hid (Below wc.heap.size wc wx)) => (fsmall (HP.out.1.keep hb.out) (s := X) (t := Y) (by omega) l1).mono fun e w' h => (⟨h.1, Lib.hid (hb.out.trans (h.2.mono hb.out.size))⟩ : e = .returned (.string Y) ∧ Hid (Below wc.heap.size wc w')))
      have D2 := Lib.hid (fun wx (hb : Hid (Below wc.heap.size wc wx)) => (ftitle (HP.out.1.keep hb.out) (tabs_below HT.out (HP.out.2.trans (hb.out.mono HP.out.2.size))) (s := Y) (t := T) (by omega) l2).mono fun e w' h => (⟨h.1, Lib.hid (hb.out.trans (h.2.mono hb.out.size))⟩ : e = .returned (.string T) ∧ Hid (Below wc.heap.size wc w')))
      have D3 := Lib.hid (fun wx (hb : Hid (Below wc.heap.size wc wx)) => (fshape (HP.out.1.keep hb.out) (s := X) (by omega) l3).mono fun e w' h => (⟨h.1, Lib.hid (hb.out.trans (h.2.mono hb.out.size))⟩ : e = .returned (.int .i64 sh) ∧ Hid (Below wc.heap.size wc w')))
      have D4 := Lib.hid (fun wx (hb : Hid (Below wc.heap.size wc wx)) => (fshape (HP.out.1.keep hb.out) (s := Y) (by omega) l4).mono fun e w' h => (⟨h.1, Lib.hid (hb.out.trans (h.2.mono hb.out.size))⟩ : e = .returned (.int .i64 0) ∧ Hid (Below wc.heap.size wc w')))
      have D5 := Lib.hid (fun wx (hb : Hid (Below wc.heap.size wc wx)) => (fsmall (Prs.nil wx) (s := X) (t := X) (by omega) l5).mono fun e w' h => (⟨h.1, Lib.hid (hb.out.trans (h.2.mono hb.out.size))⟩ : e = .returned (.string X) ∧ Hid (Below wc.heap.size wc w')))
      have D6 := Lib.hid (fun wx (hb : Hid (Below wc.heap.size wc wx)) => (ftitle (HP.out.1.keep hb.out) (tabs_below HT.out (HP.out.2.trans (hb.out.mono HP.out.2.size))) (s := ⟨#[]⟩) (t := ⟨#[]⟩) (by decide) rfl).mono fun e w' h => (⟨h.1, Lib.hid (hb.out.trans (h.2.mono hb.out.size))⟩ : e = .returned (.string ⟨#[]⟩) ∧ Hid (Below wc.heap.size wc w')))
      have D7 := Lib.hid (fun wx (hb : Hid (Below wc.heap.size wc wx)) => (fawake_any wx (tabs_below HT.out (HP.out.2.trans (hb.out.mono HP.out.2.size)))).mono fun e w' h => (⟨h.1, Lib.hid (hb.out.trans (h.2.mono hb.out.size))⟩ : e = .returned (.bool true) ∧ Hid (Below wc.heap.size wc w')))
      have HS0 := Lib.hid (Below.refl wc.heap.size wc).drew
      have c1 : ¬ 9223372036854775807 < a.size + (Y.extract b.size Y.size).size := by rw [ByteArray.size_extract]; omega
      have c2 : ¬ 9223372036854775807 < a.size + (Y.size - b.size) := by omega
      have c3 : ¬ 9223372036854775807 < a.size + (min Y.size Y.size - b.size) := by omega
      have hTt2 := hTt.symm
      clear l1 l2 l3 l4 l5 hXs hsa hsb q1 q2 g1 g2 r1 r2 hK10 CP0 CP1 CP2 HS HL HA HO hj hlt hTt
      go_upto_region 14 with fail
      go_region_held3 (fun wx => Hid (Below wc.heap.size wc wx))
        (first | exact HS0 | assumption)
        (first
          | (go_at_call 9; have hz := hdone1; clear hz; refine (D5.out _ (by assumption)).mono ?_; rintro e w5 ⟨rfl, hs⟩)
          | (go_at_call 9; refine (D1.out _ (by assumption)).mono ?_; rintro e w5 ⟨rfl, hs⟩; have hdone1 : True := trivial)
          | (go_at_call 11; have hz := hdone2; clear hz; refine (D6.out _ (by assumption)).mono ?_; rintro e w5 ⟨rfl, hs⟩)
          | (go_at_call 11; refine (D2.out _ (by assumption)).mono ?_; rintro e w5 ⟨rfl, hs⟩; have hdone2 : True := trivial)
          | (go_at_call 10; have hz := hdone3; clear hz; refine (D4.out _ (by assumption)).mono ?_; rintro e w5 ⟨rfl, hs⟩)
          | (go_at_call 10; refine (D3.out _ (by assumption)).mono ?_; rintro e w5 ⟨rfl, hs⟩; have hdone3 : True := trivial)
          | (go_at_call 7; refine (D7.out _ (by assumption)).mono ?_; rintro e w5 ⟨rfl, hs⟩))
      have HE := Lib.hid (HP.out.2.trans (hs.out.mono HP.out.2.size))
      clear hs
      go_wp2_with fail
      go_ret
      exact ⟨rfl, HE.out⟩
end Go.Proofs.YtfhoffdgbkoffaaDoor
