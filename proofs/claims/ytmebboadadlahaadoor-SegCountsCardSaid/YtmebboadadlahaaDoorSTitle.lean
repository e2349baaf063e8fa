/- The laws' own words, with a great letter ahead. -/
import Derived.Test.YtmebboadadlahaaDoorSWord
namespace Go.Proofs.YtmebboadadlahaaDoor
open Go Go.RowKit Go.Lib

theorem conv_one (x : Int) (hx0 : 0 ≤ x) (hx1 : x < 256) : ∃ S : ByteArray, S.size = 1 ∧ ∀ wx : World, (convert 64 9 (.slice (some ⟨wx.heap.size, 0, none⟩) 1 1)).run Tryd.prog ((wx.alloc (.cells #[.int .u8 x] 5)).drew) = .ok (.string S) ((wx.alloc (.cells #[.int .u8 x] 5)).drew) := by
  refine ⟨⟨[UInt8.ofNat x.toNat].toArray⟩, rfl, fun wx => ?_⟩
  exact run_convert_bytes_back (P := Tryd.prog) ((wx.alloc (.cells #[.int .u8 x] 5)).drew) 64 9 5 ⟨wx.heap.size, 0, none⟩ 1 [UInt8.ofNat x.toNat] Tryd.underlying64 Tryd.underlying5 Tryd.underlying9 (fun j hj => by
    have hj0 : j = 0 := by simpa using hj
    subst hj0
    have he : ((UInt8.ofNat x.toNat).toNat : Int) = x := by simp; omega
    have hc : ((wx.alloc (.cells #[.int .u8 x] 5)).drew).cell? ⟨wx.heap.size, 0, none⟩ = some (.int .u8 x) := by simp
    rw [show (⟨wx.heap.size, 0, none⟩ : Addr).add 0 = ⟨wx.heap.size, 0, none⟩ from rfl, hc]
    show _ = some (Value.int .u8 ((UInt8.ofNat x.toNat).toNat : Int))
    rw [he])

set_option maxRecDepth 100000 in
set_option maxHeartbeats 1000000 in
theorem word_title (v : Int) (k : Nat) (w : World) (hk : v % 16777216 = k) (ht : (k : Int) / 24 % 9 = 6) : Calls Tryd.prog 21 #[.int .i64 v] w (Short 12 w) := by
  have hkl : k < 16777216 := by omega
  obtain ⟨hW1, hW2⟩ := word_size (k % 24) (by omega)
  have hix := fun wx => word_at (k % 24) (by omega) wx
  rw [show ((k % 24 : Nat) : Int) = (k : Int) % 24 by omega] at hix
  obtain ⟨W, hW⟩ : ∃ W, W = wordOf (k % 24) := ⟨_, rfl⟩
  rw [← hW] at hix hW1 hW2
  have P := Lib.hid (place_any v 16777216 w (by omega) (by omega))
  rw [hk] at P
  have WS := Lib.hid words_any
  have k0 : (0 : Int) ≤ k := by omega
  have k1 : (k : Int) < 16777216 := by omega
  clear hW hk
  have hpos : 0 < W.size := by omega
  have hbb := W[0].toNat_lt
  by_cases hlow : 97 ≤ W[0].toNat ∧ W[0].toNat ≤ 122
  · obtain ⟨l1, l2⟩ := hlow
    have q1 : (97 : Int) ≤ (W[0].toNat : Int) := by omega
    have q2 : (W[0].toNat : Int) ≤ 122 := by omega
    obtain ⟨S, hS1, hS2⟩ := conv_one ((W[0].toNat : Int) - 32) (by omega) (by omega)
    have hS3 : S.size ≤ 1 := by omega
    have HS1 := Lib.hid hS1
    have s1 : (0 : Int) < W.size := by omega
    have s2 : (1 : Int) ≤ W.size := by omega
    have u1 : IntKind.u8.wrap ((W[0].toNat : Int) - 32) = (W[0].toNat : Int) - 32 := IntWalk.u8_in _ (by omega)
    clear hS1
    go_enter Tryd.func21, Tryd.ntmps21
    go_wp2_with fail
    refine (P.out).mono ?_
    rintro e w1 ⟨rfl, rfl⟩
    go_wp2_with fail
    refine (WS.out _).mono ?_
    rintro e w2 ⟨rfl, hb2⟩
    have HB := Lib.hid hb2
    clear hb2
    go_wp2_with fail
    go_region
    go_wp2_with fail
    go_ret
    refine ⟨_, rfl, ?_, below_dr (HB.out.alloc HB.out.size _) 1⟩
    have := HS1.out
    simp only [ByteArray.size_append, ByteArray.size_extract]
    omega
  · have hcs : W[0].toNat < 97 ∨ 122 < W[0].toNat := by omega
    have HW := Lib.hid hW2
    have s1 : (0 : Int) < W.size := by omega
    rcases hcs with hc | hc
    · have d1 : decide ((97 : Int) ≤ (W[0].toNat : Int)) = false := by simp; omega
      have d2 : decide (97 ≤ W[0].toNat) = false := by simp; omega
      clear hlow hc
      go_enter Tryd.func21, Tryd.ntmps21
      go_wp2_with fail
      refine (P.out).mono ?_
      rintro e w1 ⟨rfl, rfl⟩
      go_wp2_with fail
      refine (WS.out _).mono ?_
      rintro e w2 ⟨rfl, hb2⟩
      have HB := Lib.hid hb2
      clear hb2
      go_wp2_with fail
      go_ret
      exact ⟨_, rfl, by have := HW.out; omega, HB.out⟩
    · have e1 : (97 : Int) ≤ (W[0].toNat : Int) := by omega
      have d1 : decide ((W[0].toNat : Int) ≤ 122) = false := by simp; omega
      have d2 : decide (W[0].toNat ≤ 122) = false := by simp; omega
      clear hlow hc
      go_enter Tryd.func21, Tryd.ntmps21
      go_wp2_with fail
      refine (P.out).mono ?_
      rintro e w1 ⟨rfl, rfl⟩
      go_wp2_with fail
      refine (WS.out _).mono ?_
      rintro e w2 ⟨rfl, hb2⟩
      have HB := Lib.hid hb2
      clear hb2
      go_wp2_with fail
      go_ret
      exact ⟨_, rfl, by have := HW.out; omega, HB.out⟩
end Go.Proofs.YtmebboadadlahaaDoor
