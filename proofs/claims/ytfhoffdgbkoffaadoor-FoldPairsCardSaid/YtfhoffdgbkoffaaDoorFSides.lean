/- FoldSides. -/
import Derived.Test.YtfhoffdgbkoffaaDoorFAwake
import Derived.Test.YtfhoffdgbkoffaaDoorNPlace
import Derived.Laws.MakeOwn
namespace Go.Proofs.YtfhoffdgbkoffaaDoor
open Go Go.RowKit Go.Lib

/-- A slice's literal of one pair. -/
theorem one_pair (w : World) (g s : Int) (hg : I64 g) (hs : I64 s) (t : TypeId) : Prs (w.alloc (.cells #[.int .i64 g, .int .i64 s] t)) (.slice (some ⟨w.heap.size, 0, none⟩) 1 1) [(g, s)] := by
  have hb : (w.alloc (.cells #[.int .i64 g, .int .i64 s] t)).heap[w.heap.size]? = some (.cells #[.int .i64 g, .int .i64 s] t (0, 0)) := World.alloc_heap_new _ _
  refine ⟨.inr ⟨w.heap.size, 0, 1, rfl, by simp, Nat.le_refl _, by unfold maxLen; omega, fun i p hp => ?_⟩, by simp, fun p hp => ?_⟩
  · have h0 : i = 0 := by
      have := (List.getElem?_eq_some_iff.1 hp).1
      simp at this; omega
    subst h0
    simp at hp
    subst hp
    exact ⟨by rw [Lib.cell_of_heap hb]; rfl, by rw [Lib.cell_of_heap hb]; rfl⟩
  · simp at hp
    subst hp
    exact ⟨hg, hs⟩
theorem sides_small (ps : List (Int × Int)) (a b : List UInt8) : smallT ps ((a ++ [32]) ++ (b ++ [32])) = smallT ps (a ++ [32]) ++ smallT ps (b ++ [32]) := by
  rw [List.append_assoc]
  exact smallT_cut a (b ++ [32]) 32 (by decide)
theorem sides_title {g s : Int} (h : s ≠ 32) (a : List UInt8) : titleT [(g, s)] (32 :: a) = 32 :: a := by
  have hu : uCode (32 :: a) = 32 := by
    have h1 := cuts_ascii 32 (by decide) a
    rw [cuts_step _ (by simp)] at h1
    have := (List.cons.inj h1).1
    have := congrArg Prod.snd this
    simpa using this
  have hg : grC [(g, s)] 32 = none := by
    unfold grC
    rw [List.find?_cons_of_neg (by simpa using h)]
    simp
  unfold titleT
  rw [if_neg (by simp), hu, hg]

set_option maxRecDepth 100000 in
set_option maxHeartbeats 2000000 in
theorem sides_law (w : World) (hT : TU w) (a b : ByteArray) (y : Int) (_hy : I64 y) (ha : a.size ≤ 140737488355328) (hb : b.size ≤ 140737488355328) :
    Calls Tryd.prog 6 #[.string a, .string b, .int .i64 y] w fun e w' => e = .returned (.bool true) ∧ Below w.heap.size w w' := by
  have HT := Lib.hid hT
  clear hT
  by_cases hsz : 600 < a.size + b.size
  · have CW := Lib.hid (fawake_any w HT.out)
    have hw : IntKind.i64.wrap ((a.size : Int) + b.size) = ((a.size + b.size : Nat) : Int) := by rw [IntWalk.i64_in _ (by omega)]; omega
    have hd : decide ((600 : Int) < ((a.size + b.size : Nat) : Int)) = true := by simp; omega
    generalize a.size + b.size = N at *
    go_enter Tryd.func6, Tryd.ntmps6
    go_wp2_with fail
    refine CW.out.mono ?_
    rintro e w1 ⟨rfl, hb1⟩
    have HB1 := Lib.hid hb1
    clear hb1
    go_wp2_with fail
    go_ret
    exact ⟨rfl, HB1.out⟩
  · have hw : IntKind.i64.wrap ((a.size : Int) + b.size) = ((a.size + b.size : Nat) : Int) := by rw [IntWalk.i64_in _ (by omega)]; omega
    have hd : decide ((600 : Int) < (a.size : Int) + (b.size : Int)) = false := by simp; omega
    obtain ⟨k, hk⟩ : ∃ k : Int, k = y % 100 := ⟨_, rfl⟩
    have hk0 : 0 ≤ k ∧ k < 100 := by omega
    have CP := Lib.hid (fun wx => place9 y 100 wx (by omega) (by omega))
    rw [← hk] at CP
    obtain ⟨G, hG⟩ : ∃ G : Int, G = 1024 + k := ⟨_, rfl⟩
    have g1 : IntKind.i64.wrap ((1024 : Int) + k) = G := by rw [hG]; exact IntWalk.i64_in _ (by omega)
    obtain ⟨S, hS⟩ : ∃ S : Int, S = G + 200 := ⟨_, rfl⟩
    have g2 : IntKind.i64.wrap (G + 200) = S := by rw [hS]; exact IntWalk.i64_in _ (by omega)
    have hfit : I64 G ∧ I64 S ∧ S ≠ 32 := ⟨⟨by omega, by omega⟩, ⟨by omega, by omega⟩, by omega⟩
    have c1 : ¬ 9223372036854775807 < a.size + 1 := by omega
    have c2 : ¬ 9223372036854775807 < b.size + 1 := by omega
    have c3 : ¬ 9223372036854775807 < a.size + 1 + (b.size + 1) := by omega
    have c4 : ¬ 9223372036854775807 < 1 + a.size := by omega
    have hab : a.size + b.size ≤ 600 := by omega
    obtain ⟨RX, hRX⟩ : ∃ RX : ByteArray, RX = ⟨(smallT [(G, S)] (a.data.toList ++ [32])).toArray⟩ := ⟨_, rfl⟩
    obtain ⟨RY, hRY⟩ : ∃ RY : ByteArray, RY = ⟨(smallT [(G, S)] (b.data.toList ++ [32])).toArray⟩ := ⟨_, rfl⟩
    have sx : RX.size ≤ 100000 := by
      have h1 := small_size [(G, S)] (a.data.toList ++ [32])
      rw [List.length_append, ← Lib.size_eq] at h1
      rw [hRX, Lib.size_eq]
      show (smallT _ _).length ≤ _
      simp at h1 ⊢; omega
    have sy : RY.size ≤ 100000 := by
      have h1 := small_size [(G, S)] (b.data.toList ++ [32])
      rw [List.length_append, ← Lib.size_eq] at h1
      rw [hRY, Lib.size_eq]
      show (smallT _ _).length ≤ _
      simp at h1 ⊢; omega
    have c5 : ¬ 9223372036854775807 < RX.size + RY.size := by omega
    have lx : (a ++ ⟨#[32]⟩).data.toList = a.data.toList ++ [32] := by rw [ByteArray.data_append, Array.toList_append]
    have ly : (b ++ ⟨#[32]⟩).data.toList = b.data.toList ++ [32] := by rw [ByteArray.data_append, Array.toList_append]
    have lt : ((⟨#[32]⟩ : ByteArray) ++ a).data.toList = 32 :: a.data.toList := by rw [ByteArray.data_append, Array.toList_append]; rfl
    have z32 : (⟨#[32]⟩ : ByteArray).size = 1 := rfl
    have C1 := Lib.hid (fun wx v (hp : Prs wx v [(G, S)]) => fsmall hp (s := a ++ ⟨#[32]⟩ ++ (b ++ ⟨#[32]⟩)) (t := RX ++ RY) (by simp only [ByteArray.size_append, z32]; omega) (by
      rw [ByteArray.data_append, Array.toList_append, lx, ly, sides_small, ByteArray.data_append, Array.toList_append, hRX, hRY]))
    have C2 := Lib.hid (fun wx v (hp : Prs wx v [(G, S)]) => fsmall hp (s := a ++ ⟨#[32]⟩) (t := RX) (by simp only [ByteArray.size_append, z32]; omega) (by rw [lx, hRX]))
    have C3 := Lib.hid (fun wx v (hp : Prs wx v [(G, S)]) => fsmall hp (s := b ++ ⟨#[32]⟩) (t := RY) (by simp only [ByteArray.size_append, z32]; omega) (by rw [ly, hRY]))
    have C4 := Lib.hid (fun wx v (hp : Prs wx v [(G, S)]) (ht : TU wx) => ftitle hp ht (s := ⟨#[32]⟩ ++ a) (t := ⟨#[32]⟩ ++ a) (by simp only [ByteArray.size_append, z32]; omega) (by rw [lt]; exact sides_title hfit.2.2 _))
    have C5 := Lib.hid (fun wx => fsmall (Prs.nil wx) (s := ⟨#[]⟩) (t := ⟨#[]⟩) (by decide) (by decide +kernel))
    have HF := Lib.hid (And.intro hfit hab)
    clear hk hG hS hfit hk0 hsz hab ha hb _hy hRX hRY sx sy lx ly lt z32
    go_enter Tryd.func6, Tryd.ntmps6
    go_wp2_with fail
    refine (CP.out _).mono ?_
    rintro e w1 ⟨rfl, rfl⟩
    go_wp2_with fail
    obtain ⟨wl, hwl⟩ : ∃ wl, wl = w.alloc (.cells #[.int .i64 G, .int .i64 S] 37) := ⟨_, rfl⟩
    have hp := one_pair w G S HF.out.1.1 HF.out.1.2.1 37
    have hbl : Below w.heap.size w (w.alloc (.cells #[.int .i64 G, .int .i64 S] 37)) := (Below.refl _ _).alloc (Nat.le_refl _) _
    rw [← hwl] at hp hbl ⊢
    have HP := Lib.hid (And.intro hp hbl)
    clear hwl hp hbl
    generalize Value.slice (some ⟨w.heap.size, 0, none⟩) 1 1 = sl at *
    refine (C1.out _ _ HP.out.1).mono ?_
    rintro e w1 ⟨rfl, hb1⟩
    have HB1 := Lib.hid hb1
    clear hb1
    go_wp2_with fail
    refine (C2.out _ _ (HP.out.1.keep HB1.out)).mono ?_
    rintro e w2 ⟨rfl, hb2⟩
    have HB2 := Lib.hid (HB1.out.trans (hb2.mono HB1.out.size))
    clear hb2
    go_wp2_with fail
    refine (C3.out _ _ (HP.out.1.keep HB2.out)).mono ?_
    rintro e w3 ⟨rfl, hb3⟩
    have HB3 := Lib.hid (HB2.out.trans (hb3.mono HB2.out.size))
    clear hb3
    go_wp2_with fail
    refine (C4.out _ _ (HP.out.1.keep HB3.out) (tabs_below HT.out (HP.out.2.trans (HB3.out.mono HP.out.2.size)))).mono ?_
    rintro e w4 ⟨rfl, hb4⟩
    have HB4 := Lib.hid (HB3.out.trans (hb4.mono HB3.out.size))
    clear hb4
    go_wp2_with fail
    refine (C5.out _).mono ?_
    rintro e w5 ⟨rfl, hb5⟩
    have HB5 := Lib.hid (HP.out.2.trans ((HB4.out.trans (hb5.mono HB4.out.size)).mono HP.out.2.size))
    clear hb5
    go_wp2_with fail
    refine (fawake_any w5 (tabs_below HT.out HB5.out)).mono ?_
    rintro e w6 ⟨rfl, hb6⟩
    have HB6 := Lib.hid (HB5.out.trans (hb6.mono HB5.out.size))
    clear hb6
    go_wp2_with fail
    go_ret
    exact ⟨rfl, HB6.out⟩
end Go.Proofs.YtfhoffdgbkoffaaDoor
