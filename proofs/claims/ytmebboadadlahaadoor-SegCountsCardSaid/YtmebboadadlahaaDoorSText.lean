/- The laws' own words, all great; every word; texts by numbers. -/
import Derived.Test.YtmebboadadlahaaDoorSTitle
namespace Go.Proofs.YtmebboadadlahaaDoor
open Go Go.RowKit Go.Lib

/-- A block begins with so many bytes that may be written. -/
def BytesAt (w : World) (g n : Nat) : Prop := ∀ q, q < n → (∃ x : Int, 0 ≤ x ∧ x < 256 ∧ w.cell? ⟨g, q, none⟩ = some (.int .u8 x)) ∧ w.frozen? ⟨g, q, none⟩ = false
theorem BytesAt.set {w : World} {g n : Nat} (h : BytesAt w g n) (k : Nat) (y : Int) (hy0 : 0 ≤ y) (hy1 : y < 256) : BytesAt (w.setCell ⟨g, k, none⟩ (.int .u8 y)) g n := by
  intro q hq
  obtain ⟨⟨x, hx0, hx1, hx⟩, hf⟩ := h q hq
  refine ⟨?_, ?_⟩
  · by_cases hk : k = q
    · subst hk
      exact ⟨y, hy0, hy1, World.cell?_setCell_same (h := hx) ..⟩
    · exact ⟨x, hx0, hx1, (World.cell?_setCell_other (h := by intro e; injection e; omega) ..).trans hx⟩
  · rw [← hf]
    exact World.frozen?_setCell ..
theorem BytesAt.back {w : World} {g n cap : Nat} (h : BytesAt w g n) : ∃ S : ByteArray, S.size = n ∧ (convert 64 9 (.slice (some ⟨g, 0, none⟩) n cap)).run Tryd.prog w = .ok (.string S) w := by
  have hex : ∀ q, q < n → ∃ b : UInt8, w.cell? ⟨g, q, none⟩ = some (.int .u8 (b.toNat : Int)) := fun q hq => by
    obtain ⟨⟨x, hx0, hx1, hx⟩, _⟩ := h q hq
    refine ⟨UInt8.ofNat x.toNat, ?_⟩
    have he : ((UInt8.ofNat x.toNat).toNat : Int) = x := by simp; omega
    rw [he]; exact hx
  obtain ⟨f, hf⟩ : ∃ f : Nat → UInt8, ∀ q, q < n → w.cell? ⟨g, q, none⟩ = some (.int .u8 ((f q).toNat : Int)) := by
    classical
    exact ⟨fun q => if hq : q < n then Classical.choose (hex q hq) else 0, fun q hq => by simp only [dif_pos hq]; exact Classical.choose_spec (hex q hq)⟩
  have hl : ((List.range n).map f).length = n := by simp
  refine ⟨⟨((List.range n).map f).toArray⟩, by show ((List.range n).map f).toArray.size = n; simp, ?_⟩
  have := run_convert_bytes_back (P := Tryd.prog) w 64 9 5 ⟨g, 0, none⟩ cap ((List.range n).map f) Tryd.underlying64 Tryd.underlying5 Tryd.underlying9 (fun j hj => by
    rw [hl] at hj
    have hadd : (⟨g, 0, none⟩ : Addr).add j = ⟨g, j, none⟩ := by unfold Addr.add; split <;> simp_all
    rw [hadd, hf j hj]
    simp)
  rwa [hl] at this

theorem bytes_below (w : World) (s : ByteArray) : Below w.heap.size w (bytesWorld w 5 s) := by
  refine ⟨?_, ?_, ?_, by rw [bytesWorld_size]; omega, fun k hk => bytesWorld_at_old w 5 s k hk⟩
  all_goals (simp [bytesWorld, World.freeze]; try rfl)
theorem bytes_at (w : World) (s : ByteArray) : BytesAt (bytesWorld w 5 s) w.heap.size s.size := by
  intro q hq
  refine ⟨⟨_, ?_, ?_, bytesWorld_cell w 5 s q hq⟩, ?_⟩
  · omega
  · have := (s.data.toList.getD q 0).toNat_lt; omega
  · have hsz : s.size ≤ (bytesCells w 5 s).size := by
      unfold bytesCells
      rw [Array.size_append, Array.size_map]
      show s.data.size ≤ _
      omega
    simp [World.frozen?, bytesWorld_at_new]
    omega

set_option maxRecDepth 100000 in
set_option maxHeartbeats 4000000 in
theorem word_great (v : Int) (k : Nat) (w : World) (hk : v % 16777216 = k) (ht : (k : Int) / 24 % 9 = 5) : Calls Tryd.prog 21 #[.int .i64 v] w (Short 12 w) := by
  have hkl : k < 16777216 := by omega
  obtain ⟨hW1, hW2⟩ := word_size (k % 24) (by omega)
  have hix := fun wx => word_at (k % 24) (by omega) wx
  rw [show ((k % 24 : Nat) : Int) = (k : Int) % 24 by omega] at hix
  obtain ⟨W, hW⟩ : ∃ W, W = wordOf (k % 24) := ⟨_, rfl⟩
  rw [← hW] at hix hW1 hW2
  have P := Lib.hid (place_any v 16777216 w (by omega) (by omega))
  rw [hk] at P
  have WS := Lib.hid words_any
  have k0 : (0 : Int) ≤ k := by omega
  have k1 : (k : Int) < 16777216 := by omega
  clear hW hk
  have hconv := fun wx : World => Lib.run_convert_string_bytes (P := Tryd.prog) wx 9 64 5 W Tryd.underlying9 Tryd.underlying64 Tryd.underlying5
  go_enter Tryd.func21, Tryd.ntmps21
  go_wp2_with fail
  refine (P.out).mono ?_
  rintro e w1 ⟨rfl, rfl⟩
  go_wp2_with fail
  refine (WS.out _).mono ?_
  rintro e w2 ⟨rfl, hb2⟩
  have HB := Lib.hid hb2
  clear hb2
  go_wp2_with fail
  have hbw := bytes_below w2 W
  have hba := bytes_at w2 W
  have hsz := bytesWorld_size w2 5 W
  obtain ⟨g, hg⟩ : ∃ g, g = w2.heap.size := ⟨_, rfl⟩
  obtain ⟨cap, hcap⟩ : ∃ cap, cap = grownCap w2 W.size 0 5 := ⟨_, rfl⟩
  have hgb : w.heap.size ≤ g := by rw [hg]; exact HB.out.size
  have HB3 := Lib.hid (HB.out.trans (hbw.mono HB.out.size))
  rw [← hg] at hba
  rw [← hg, ← hcap]
  generalize bytesWorld w2 5 W = w3 at hba HB3 ⊢
  have HBA := Lib.hid hba
  clear hbw hba hsz hg hcap hconv
  have HW2 := Lib.hid hW2
  go_loopw [6] (fun i wr => ∃ j : Nat, j ≤ W.size ∧ i = .int .i64 j ∧ Hid (BytesAt wr g W.size) ∧ Hid (Below w.heap.size w wr)) (fun i _ => W.size - (RowKit.intOf i).toNat)
  case atStart => exact ⟨0, Nat.zero_le _, rfl, HBA.out, HB3.out⟩
  case round =>
    obtain ⟨j, hj, rfl, HA, HL⟩ := hrel
    by_cases hjn : j < W.size
    · obtain ⟨⟨x, hx0, hx1, hx⟩, hf⟩ := HA.out j hjn
      have tj1 : (0 : Int) ≤ j := by omega
      have tj2 : (j : Int) < W.size := by omega
      have HX := Lib.hid hx
      have HF := Lib.hid hf
      by_cases hin : 97 ≤ x ∧ x ≤ 122
      · obtain ⟨i1, i2⟩ := hin
        have HA2 := Lib.hid (HA.out.set j (x - 32) (by omega) (by omega))
        have HL2 := Lib.hid (HL.out.setCell (p := ⟨g, j, none⟩) hgb (.int .u8 (x - 32)))
        go_wp2_with fail
        go_roundw
        case rel => exact ⟨j + 1, by omega, by go_num, HA2.out, HL2.out⟩
        case measure => simp [RowKit.intOf]; omega
      · have hcs : x < 97 ∨ 122 < x := by omega
        clear hin
        rcases hcs with hc | hc
        · have d1 : decide ((97 : Int) ≤ x) = false := by simp; omega
          clear hc
          go_wp2_with fail
          go_roundw
          case rel => exact ⟨j + 1, by omega, by go_num, HA.out, HL.out⟩
          case measure => simp [RowKit.intOf]; omega
        · have e1 : (97 : Int) ≤ x := by omega
          have d1 : decide (x ≤ 122) = false := by simp; omega
          clear hc
          go_wp2_with fail
          go_roundw
          case rel => exact ⟨j + 1, by omega, by go_num, HA.out, HL.out⟩
          case measure => simp [RowKit.intOf]; omega
    · obtain ⟨S, hS1, hS2⟩ := HA.out.back (cap := cap)
      have HS := Lib.hid hS1
      clear hS1
      go_wp2_with fail
      go_ret
      exact ⟨_, rfl, by have := HS.out; have := HW2.out; omega, HL.out⟩

/-- A word by a number: not long. -/
theorem word_any (v : Int) (w : World) : Calls Tryd.prog 21 #[.int .i64 v] w (Short 12 w) := by
  obtain ⟨k, hk⟩ : ∃ k : Nat, v % 16777216 = k := ⟨(v % 16777216).toNat, by omega⟩
  obtain ⟨t, ht⟩ : ∃ t : Int, (k : Int) / 24 % 9 = t := ⟨_, rfl⟩
  have hc : (t = 0 ∨ t = 1 ∨ t = 3 ∨ t = 7 ∨ t = 8) ∨ t = 2 ∨ t = 4 ∨ t = 5 ∨ t = 6 := by omega
  rcases hc with h | rfl | rfl | rfl | rfl
  · exact word_plain v k w hk t ht h
  · exact word_turn v k w hk ht
  · exact word_cut v k w hk ht
  · exact word_great v k w hk ht
  · exact word_title v k w hk ht
end Go.Proofs.YtmebboadadlahaaDoor
