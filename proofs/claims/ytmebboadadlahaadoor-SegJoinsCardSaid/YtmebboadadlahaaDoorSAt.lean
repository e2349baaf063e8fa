/- runes.At at a place of the text, by its contract; seg.carries, seg.solid. -/
import Derived.Test.YtmebboadadlahaaDoorUAll
import Derived.Test.YtmebboadadlahaaDoorSPlain
namespace Go.Proofs.YtmebboadadlahaaDoor
open Go Go.RowKit Go.Lib

theorem tabs_below {w w' : World} (h : Lib.Utf8Tabs 0 1 w) (hb : Below w.heap.size w w') : Lib.Utf8Tabs 0 1 w' := by
  have h0 : 0 < w.heap.size := World.block_lt_of_cell? _ _ (h.1 0 (by omega))
  have h1 : 1 < w.heap.size := World.block_lt_of_cell? _ _ (h.2 0 (by omega)).1
  exact ⟨fun c hc => (hb.cell (p := ⟨0, c, none⟩) h0).trans (h.1 c hc), fun i hi => ⟨(hb.cell (p := ⟨1, 2 * i, none⟩) h1).trans (h.2 i hi).1, (hb.cell (p := ⟨1, 2 * i + 1, none⟩) h1).trans (h.2 i hi).2⟩⟩

/-- A box of three cells that the call has laid, as it reads and may be written later. -/
theorem box3 {w w' : World} {a b c : Value} {t : TypeId} (hb : Below (w.alloc (.cells #[a, b, c] t)).heap.size (w.alloc (.cells #[a, b, c] t)) w') :
    (w'.cell? ⟨w.heap.size, 0, none⟩ = some a ∧ w'.cell? ⟨w.heap.size, 1, none⟩ = some b ∧ w'.cell? ⟨w.heap.size, 2, none⟩ = some c) ∧
    (w'.frozen? ⟨w.heap.size, 0, none⟩ = false ∧ w'.frozen? ⟨w.heap.size, 1, none⟩ = false ∧ w'.frozen? ⟨w.heap.size, 2, none⟩ = false) := by
  have hl : w.heap.size < (w.alloc (.cells #[a, b, c] t)).heap.size := by simp
  refine ⟨⟨(hb.cell (p := ⟨w.heap.size, 0, none⟩) hl).trans (by simp), (hb.cell (p := ⟨w.heap.size, 1, none⟩) hl).trans (by simp), (hb.cell (p := ⟨w.heap.size, 2, none⟩) hl).trans (by simp)⟩,
    ⟨(hb.frozen (p := ⟨w.heap.size, 0, none⟩) hl).trans (by simp), (hb.frozen (p := ⟨w.heap.size, 1, none⟩) hl).trans (by simp), (hb.frozen (p := ⟨w.heap.size, 2, none⟩) hl).trans (by simp)⟩⟩

set_option maxHeartbeats 400000 in
/-- runes.At, at a place of the text. -/
theorem at_some (s : ByteArray) (p : Nat) (w : World) (hp : p < s.size) (hm : s.size ≤ 9223372036854775807) (hT : Lib.Utf8Tabs 0 1 w) :
    Calls Tryd.prog 33 #[.string s, .int .i64 p] w fun e w' => e = .returned (.tuple #[uVal p (s.data.toList.drop p), .bool true]) ∧ Below w.heap.size w w' := by
  obtain ⟨c, hc⟩ : ∃ c, c = (decodeL (s.data.toList.drop p)).1 := ⟨_, rfl⟩
  obtain ⟨N, hN⟩ : ∃ N, N = (decodeL (s.data.toList.drop p)).2 := ⟨_, rfl⟩
  obtain ⟨C, hC⟩ : ∃ C, C = uCode (s.data.toList.drop p) := ⟨_, rfl⟩
  have hd : Lib.decodeGo (s.extract p s.size) = (c, N) := by
    have h0 : (s.extract p s.size).size ≠ 0 := by simp; omega
    rw [Lib.decodeGo, if_neg h0, ← decodeL_drop, List.drop_zero, Lib.extract_to_end, hc, hN]
  have cD : ∀ wx, Lib.Utf8Tabs 0 1 wx → Calls Tryd.prog 36 #[.string (s.extract p s.size)] wx fun e w' => e = .returned (.tuple #[.int .i32 c, .int .i64 N]) ∧ Below wx.heap.size wx w' := by
    intro wx ht
    have := Tryd.utf8_DecodeRuneInString (s.extract p s.size) wx ht
    rwa [hd] at this
  have cU : ∀ wx, Calls Tryd.prog 37 #[.string s, .int .i64 p, .int .i32 c] wx fun e w' => e = .returned (.agg #[.int .i64 p, .int .i64 N, .int .i64 C]) ∧ Below wx.heap.size wx w' := by
    intro wx
    have := unit_any s p wx hp (by omega) c hc
    rwa [uVal, ← hN, ← hC] at this
  rw [uVal, ← hN, ← hC]
  have CD := Lib.hid cD
  have CU := Lib.hid cU
  have hT2 : ∀ o, Lib.Utf8Tabs 0 1 (w.alloc o) := fun o => tabs_below hT ((Below.refl _ _).alloc (Nat.le_refl _) _)
  have HT := Lib.hid hT2
  clear cD cU hT hT2 hd hc hN hC
  go_enter Tryd.func33, Tryd.ntmps33
  go_wp2_with (first
    | (go_at_call 36; refine (CD.out _ (HT.out _)).mono ?_; rintro e w1 ⟨rfl, hb1⟩)
    | (go_at_call 37; refine (CU.out _).mono ?_; rintro e w2 ⟨rfl, hb2⟩; obtain ⟨⟨z0, z1, z2⟩, f0, f1, f2⟩ := box3 (hb1.trans (hb2.mono hb1.size))))
  exact bodyPost_ret (v := .tuple #[.agg #[.int .i64 p, .int .i64 N, .int .i64 C], .bool true]) (by simp [results, Tryd.results33, go_sem, z0, z1, z2]) rfl ⟨rfl, (((((Below.refl _ _).alloc (Nat.le_refl _) _).trans ((hb1.trans (hb2.mono hb1.size)).mono (by simp))).setCell (Nat.le_refl _) _).setCell (Nat.le_refl _) _).setCell (Nat.le_refl _) _⟩

theorem tabs_kept {w w' : World} (h : Lib.Utf8Tabs 0 1 w) (h0 : w'.heap[0]? = w.heap[0]?) (h1 : w'.heap[1]? = w.heap[1]?) : Lib.Utf8Tabs 0 1 w' :=
  ⟨fun c hc => (World.cell?_of_block (w := w) (a := ⟨0, c, none⟩) h0).trans (h.1 c hc), fun i hi => ⟨(World.cell?_of_block (w := w) (a := ⟨1, 2 * i, none⟩) h1).trans (h.2 i hi).1, (World.cell?_of_block (w := w) (a := ⟨1, 2 * i + 1, none⟩) h1).trans (h.2 i hi).2⟩⟩
theorem tabs_lt {w : World} (h : Lib.Utf8Tabs 0 1 w) : 0 < w.heap.size ∧ 1 < w.heap.size :=
  ⟨World.block_lt_of_cell? _ _ (h.1 0 (by omega)), World.block_lt_of_cell? _ _ (h.2 0 (by omega)).1⟩

theorem carries_any (k : Int) (w : World) : Calls Tryd.prog 35 #[.int .i64 k] w fun e w' => e = .returned (.bool (firmB k)) ∧ w = w' := by
  by_cases h1 : k = 1
  · subst h1
    go_enter Tryd.func35, Tryd.ntmps35
    go_wp2
    go_ret
    exact ⟨rfl, rfl⟩
  · by_cases h2 : k = 2
    · subst h2
      go_enter Tryd.func35, Tryd.ntmps35
      go_wp2
      go_ret
      exact ⟨rfl, rfl⟩
    · have hf : firmB k = false := by simp [firmB, h1, h2]
      rw [hf]
      have d1 : (k == 1) = false := by simpa using h1
      have d2 : (k == 2) = false := by simpa using h2
      clear h1 h2 hf
      go_enter Tryd.func35, Tryd.ntmps35
      go_wp2
      go_ret
      exact ⟨rfl, rfl⟩

set_option maxHeartbeats 1000000 in
theorem solid_any (p k n : Int) (w : World) : Calls Tryd.prog 31 #[.int .i64 p, .int .i64 k, .int .i64 n] w fun e w' => e = .returned (.bool (solidB p k n)) ∧ w = w' := by
  have C := Lib.hid carries_any
  cases hk : firmB k
  · by_cases h3 : k = 3
    · subst h3
      cases hp : firmB p
      · rw [solid_left hk hp]
        go_enter Tryd.func31, Tryd.ntmps31
        go_wp2_with (go_at_call 35; refine (C.out _ _).mono ?_; rintro e w1 ⟨rfl, rfl⟩)
        go_ret
        exact ⟨rfl, rfl⟩
      · cases hn : firmB n
        · rw [solid_right hk hn]
          go_enter Tryd.func31, Tryd.ntmps31
          go_wp2_with (go_at_call 35; refine (C.out _ _).mono ?_; rintro e w1 ⟨rfl, rfl⟩)
          go_ret
          exact ⟨rfl, rfl⟩
        · rw [solid_join hp hn]
          go_enter Tryd.func31, Tryd.ntmps31
          go_wp2_with (go_at_call 35; refine (C.out _ _).mono ?_; rintro e w1 ⟨rfl, rfl⟩)
          go_ret
          exact ⟨rfl, rfl⟩
    · rw [solid_other hk h3]
      have d3 : (k == 3) = false := by simpa using h3
      clear h3
      go_enter Tryd.func31, Tryd.ntmps31
      go_wp2_with (go_at_call 35; refine (C.out _ _).mono ?_; rintro e w1 ⟨rfl, rfl⟩)
      go_ret
      exact ⟨rfl, rfl⟩
  · rw [solid_firm hk]
    go_enter Tryd.func31, Tryd.ntmps31
    go_wp2_with (go_at_call 35; refine (C.out _ _).mono ?_; rintro e w1 ⟨rfl, rfl⟩)
    go_ret
    exact ⟨rfl, rfl⟩
end Go.Proofs.YtmebboadadlahaaDoor
