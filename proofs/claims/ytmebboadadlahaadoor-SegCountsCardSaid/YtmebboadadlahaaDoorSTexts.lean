/- The laws' own texts by numbers, by contract: how long they may be. -/
import Derived.Test.YtmebboadadlahaaDoorSText
import Derived.Deep.RegionWith
namespace Go.Proofs.YtmebboadadlahaaDoor
open Go Go.RowKit Go.Lib

def gapArr : Array Value := #[.string ⟨#[32]⟩, .string ⟨#[32]⟩, .string ⟨#[44, 32]⟩, .string ⟨#[10]⟩, .string ⟨#[45]⟩, .string ⟨#[32, 52, 50, 32]⟩, .string ⟨#[39]⟩, .string ⟨#[32, 255]⟩, .string ⟨#[49, 32]⟩]
def gapVal : Value := .agg #[.string ⟨#[32]⟩, .string ⟨#[32]⟩, .string ⟨#[44, 32]⟩, .string ⟨#[10]⟩, .string ⟨#[45]⟩, .string ⟨#[32, 52, 50, 32]⟩, .string ⟨#[39]⟩, .string ⟨#[32, 255]⟩, .string ⟨#[49, 32]⟩]
def gapOf (i : Nat) : ByteArray := match gapArr.getD i (.string ⟨#[]⟩) with | .string s => s | _ => ⟨#[]⟩
theorem gap_size : ∀ i, i < 9 → (gapOf i).size ≤ 4 := by decide
theorem gap_at0 (w : World) : (Instr.index 52 gapVal (.int .i64 0)).run Tryd.prog w = .ok (.string (gapOf 0)) w := by kernel_rfl
theorem gap_at1 (w : World) : (Instr.index 52 gapVal (.int .i64 1)).run Tryd.prog w = .ok (.string (gapOf 1)) w := by kernel_rfl
theorem gap_at2 (w : World) : (Instr.index 52 gapVal (.int .i64 2)).run Tryd.prog w = .ok (.string (gapOf 2)) w := by kernel_rfl
theorem gap_at3 (w : World) : (Instr.index 52 gapVal (.int .i64 3)).run Tryd.prog w = .ok (.string (gapOf 3)) w := by kernel_rfl
theorem gap_at4 (w : World) : (Instr.index 52 gapVal (.int .i64 4)).run Tryd.prog w = .ok (.string (gapOf 4)) w := by kernel_rfl
theorem gap_at5 (w : World) : (Instr.index 52 gapVal (.int .i64 5)).run Tryd.prog w = .ok (.string (gapOf 5)) w := by kernel_rfl
theorem gap_at6 (w : World) : (Instr.index 52 gapVal (.int .i64 6)).run Tryd.prog w = .ok (.string (gapOf 6)) w := by kernel_rfl
theorem gap_at7 (w : World) : (Instr.index 52 gapVal (.int .i64 7)).run Tryd.prog w = .ok (.string (gapOf 7)) w := by kernel_rfl
theorem gap_at8 (w : World) : (Instr.index 52 gapVal (.int .i64 8)).run Tryd.prog w = .ok (.string (gapOf 8)) w := by kernel_rfl
theorem gap_at (i : Nat) (h : i < 9) (w : World) : (Instr.index 52 (.agg #[.string ⟨#[32]⟩, .string ⟨#[32]⟩, .string ⟨#[44, 32]⟩, .string ⟨#[10]⟩, .string ⟨#[45]⟩, .string ⟨#[32, 52, 50, 32]⟩, .string ⟨#[39]⟩, .string ⟨#[32, 255]⟩, .string ⟨#[49, 32]⟩]) (.int .i64 i)).run Tryd.prog w = .ok (.string (gapOf i)) w := by
  have hc : i = 0 ∨ i = 1 ∨ i = 2 ∨ i = 3 ∨ i = 4 ∨ i = 5 ∨ i = 6 ∨ i = 7 ∨ i = 8 := by omega
  rcases hc with rfl | rfl | rfl | rfl | rfl | rfl | rfl | rfl | rfl
  · exact gap_at0 w
  · exact gap_at1 w
  · exact gap_at2 w
  · exact gap_at3 w
  · exact gap_at4 w
  · exact gap_at5 w
  · exact gap_at6 w
  · exact gap_at7 w
  · exact gap_at8 w

set_option maxHeartbeats 1000000 in
theorem text_none (A : Option Addr) (cap : Nat) (w : World) : Calls Tryd.prog 13 #[.slice A 0 cap] w (Short 1000 w) := by
  go_enter Tryd.func13, Tryd.ntmps13
  go_wp2_with fail
  go_loop [3, 4] (fun s i => s = .string ⟨#[]⟩ ∧ i = .int .i64 0) (fun _ _ => 0)
  case atStart => exact ⟨rfl, rfl⟩
  case round =>
    obtain ⟨rfl, rfl⟩ := hrel
    go_wp2
    go_ret
    exact ⟨_, rfl, by decide, Below.refl _ _⟩

set_option maxRecDepth 100000 in
set_option maxHeartbeats 4000000 in
theorem text_some (b off cap n : Nat) (zs : List Int) (w : World) (hn : zs.length = n) (hlt : b < w.heap.size) (_h1 : n ≤ cap) (_h2 : cap ≤ maxLen)
    (hcell : ∀ (i : Nat) (z : Int), zs[i]? = some z → w.cell? ⟨b, off + i, none⟩ = some (.int .i64 z)) :
    Calls Tryd.prog 13 #[.slice (some ⟨b, off, none⟩) n cap] w (Short 1000 w) := by
  unfold maxLen at _h2
  have HC := Lib.hid hcell
  have HN := Lib.hid hn
  clear hcell hn
  go_enter Tryd.func13, Tryd.ntmps13
  go_wp2_with fail
  go_loopw [3, 4] (fun s i wr => ∃ (j : Nat) (acc : ByteArray), j ≤ n ∧ j ≤ 60 ∧ i = .int .i64 j ∧ s = .string acc ∧ acc.size ≤ 16 * j ∧ Hid (Below w.heap.size w wr)) (fun _ i _ => n - (RowKit.intOf i).toNat)
  case atStart => exact ⟨0, ⟨#[]⟩, Nat.zero_le _, by omega, rfl, rfl, Nat.le_refl _, Below.refl _ _⟩
  case round =>
    obtain ⟨j, acc, hj, hj6, rfl, rfl, hacc, HB⟩ := hrel
    have hcs : (j < n ∧ j < 60) ∨ (j < n ∧ 60 ≤ j) ∨ n ≤ j := by omega
    rcases hcs with ⟨c1, c2⟩ | ⟨c1, c2⟩ | c1
    · have HA := Lib.hid (And.intro hacc hj6)
      obtain ⟨z, hz⟩ : ∃ z, zs[j]? = some z := ⟨_, List.getElem?_eq_getElem (by rw [HN.out]; exact c1)⟩
      have m0 := (HB.out.cell (p := ⟨b, off + j, none⟩) hlt).trans (HC.out j z hz)
      obtain ⟨k, hk⟩ : ∃ k : Int, z % 67108864 = k := ⟨_, rfl⟩
      have k0 : 0 ≤ k := by omega
      have k1 : k < 67108864 := by omega
      have c17 : ∀ wx, Calls Tryd.prog 17 #[.int .i64 z, .int .i64 67108864] wx fun e w' => e = .returned (.int .i64 k) ∧ wx = w' := fun wx => by
        rw [← hk]; exact place_any z 67108864 wx (by omega) (by omega)
      have C17 := Lib.hid c17
      have hix := fun wx => gap_at (k % 9).toNat (by omega) wx
      rw [show (((k % 9).toNat : Nat) : Int) = k % 9 by omega] at hix
      have hgs := gap_size (k % 9).toNat (by omega)
      obtain ⟨T, hT⟩ : ∃ T, T = gapOf (k % 9).toNat := ⟨_, rfl⟩
      rw [← hT] at hix hgs
      have c20 : ∀ wx x, Hid (Below w.heap.size w wx) → Calls Tryd.prog 21 #[.int .i64 x] wx fun e w' => ∃ s : ByteArray, e = .returned (.string s) ∧ s.size ≤ 12 ∧ Hid (Below w.heap.size w w') := fun wx x hx => by
        refine (word_any _ wx).mono ?_
        rintro e w' ⟨s, he, hs, hb⟩
        exact ⟨s, he, hs, hx.out.trans (hb.mono hx.out.size)⟩
      have C20 := Lib.hid c20
      have tj1 : (0 : Int) ≤ j := by omega
      have tj2 : (j : Int) < n := by omega
      have hac2 : acc.size ≤ 960 := by omega
      clear hz hk c17 hT c20 hacc hj6
      go_wp2_with fail
      refine (C17.out _).mono ?_
      rintro e w1 ⟨rfl, rfl⟩
      go_wp2_with fail
      have q1 : k.tmod 9 = k % 9 := by rw [Int.tmod_eq_emod]; simp [k0]
      have q2 : IntKind.i64.wrap (k % 9) = k % 9 := IntWalk.i64_in _ (by omega)
      have HS : Hid (Hid (Below w.heap.size w wr.drew)) := below_dr HB.out 1
      go_region_with ((go_at_call 21; refine (C20.out _ _ HS.out).mono ?_; rintro e w5 ⟨s5, rfl, hs5, hb5⟩))
      all_goals
        have hsz : (acc ++ s5 ++ T).size ≤ 16 * (j + 1) := by
          have := HA.out
          rw [ByteArray.size_append, ByteArray.size_append]
          omega
        have HSZ := Lib.hid hsz
        clear hsz q1 q2 hix
        go_wp2_with fail
        go_roundw
        case rel => exact ⟨j + 1, acc ++ s5 ++ T, by omega, by omega, by go_num, rfl, HSZ.out, hb5⟩
        case measure => simp [RowKit.intOf]; omega
    · have HA := Lib.hid (And.intro hacc hj6)
      clear hacc hj6 hj
      go_wp2_with fail
      go_ret
      exact ⟨_, rfl, by have := HA.out; omega, HB.out⟩
    · have HA := Lib.hid (And.intro hacc hj6)
      clear hacc hj6 hj
      go_wp2_with fail
      go_ret
      exact ⟨_, rfl, by have := HA.out; omega, HB.out⟩
end Go.Proofs.YtmebboadadlahaaDoor
