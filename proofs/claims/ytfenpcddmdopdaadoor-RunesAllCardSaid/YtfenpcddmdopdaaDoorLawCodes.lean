/- RunesCodes: each code point by its bytes; cut, they are none: the walk. -/
import Derived.Test.YtfenpcddmdopdaaDoorAwake
import Derived.Test.YtfenpcddmdopdaaDoorEnc
namespace Go.Proofs.YtfenpcddmdopdaaDoor
open Go Go.RowKit Go.Lib

theorem bytes_none (c : Int) (h : c < 0 ∨ 1114111 < c ∨ (55296 ≤ c ∧ c ≤ 57343)) : bytesOf c = ⟨#[]⟩ := by
  have hv : Utf8.valid c = false := by simp [Utf8.valid]; omega
  simp [bytesOf, hv]
theorem bytes_some (k : Nat) (h : k < 55296 ∨ (57344 ≤ k ∧ k ≤ 1114111)) : Utf8.valid (k : Int) = true ∧ bytesOf k = Utf8.encode k := by
  have hv : Utf8.valid (k : Int) = true := by simp [Utf8.valid]; omega
  exact ⟨hv, by simp [bytesOf, hv]⟩

theorem bytes_at (c : Int) (b : ByteArray) (h : bytesOf c = b) (w : World) : Calls Tryd.prog 15 #[.int .i64 c] w fun e w' => e = .returned (.string b) ∧ w = w' := by
  subst h; exact bytes_any c w

theorem place_at (v n : Int) (k : Nat) (h : v % n = k) (hn : 0 < n) (hn2 : n ≤ 1000000000) (w : World) :
    Calls Tryd.prog 18 #[.int .i64 v, .int .i64 n] w fun e w' => e = .returned (.int .i64 k) ∧ w = w' := by
  rw [← h]; exact place_any v n w hn hn2

set_option maxHeartbeats 1000000 in
theorem codes_sur (v cut : Int) (w : World) (hT : Lib.Utf8Tabs 0 1 w) (k : Nat) (hk : v % 1114112 = k) (h1 : 55296 ≤ k) (h2 : k ≤ 57343) :
    Calls Tryd.prog 5 #[.int .i64 v, .int .i64 cut] w fun e w' => e = .returned (.bool true) ∧ Below w.heap.size w w' := by
  have P := Lib.hid (place_at v 1114112 k hk (by omega) (by omega))
  have B := Lib.hid (bytes_at k ⟨#[]⟩ (bytes_none k (by omega)))
  have HT := Lib.hid hT
  clear hk hT
  go_enter Tryd.func5, Tryd.ntmps5
  go_wp2_with (first
    | (go_at_call 18; refine (P.out _).mono ?_; rintro e w1 ⟨rfl, rfl⟩)
    | (go_at_call 15; refine (B.out _).mono ?_; rintro e w1 ⟨rfl, rfl⟩)
    | (go_at_call 7; refine (awake_any _ HT.out).mono ?_; rintro e w2 ⟨rfl, hb2⟩))
  go_ret
  exact ⟨rfl, hb2⟩

/-- What Codes answers of a cut. -/
def cutOk (n : Nat) : Bool := decide (n = 0)

set_option maxRecDepth 100000 in
set_option maxHeartbeats 2000000 in
theorem codes_pt (v cut : Int) (w : World) (hT : Lib.Utf8Tabs 0 1 w) (k : Nat) (hk : v % 1114112 = k) (h1 : k < 55296 ∨ (57344 ≤ k ∧ k ≤ 1114111)) :
    Calls Tryd.prog 5 #[.int .i64 v, .int .i64 cut] w fun e w' => e = .returned (.bool true) ∧ Below w.heap.size w w' := by
  obtain ⟨hv, hb⟩ := bytes_some k h1
  obtain ⟨-, z1, z2, -⟩ := decode_encode k hv
  obtain ⟨u1, u2⟩ := units_encode k hv
  have hcut := valid_cut k
  obtain ⟨s, hs⟩ : ∃ s, s = Utf8.encode (k : Int) := ⟨_, rfl⟩
  have hcv : True → (Utf8.encode (k : Int)) = s := fun _ => hs.symm
  rw [← hs] at hb z1 z2 u1 u2
  obtain ⟨n, hn⟩ : ∃ n : Nat, cut % (s.size : Int) = n := ⟨(cut % (s.size : Int)).toNat, by have := Int.emod_nonneg cut (show (s.size : Int) ≠ 0 by omega); omega⟩
  have hnlt : n < s.size := by have := Int.emod_lt_of_pos cut (show 0 < (s.size : Int) by omega); omega
  have P1 := Lib.hid (place_at v 1114112 k hk (by omega) (by omega))
  have P2 := Lib.hid (place_at cut s.size n hn (by omega) (by omega))
  have B1 := Lib.hid (bytes_at k s hb)
  have B2 := Lib.hid (bytes_at (-1 - k) ⟨#[]⟩ (bytes_none _ (by omega)))
  have B3 := Lib.hid (bytes_at (1114112 + k) ⟨#[]⟩ (bytes_none _ (by omega)))
  have c1 : ∀ wx, Lib.Utf8Tabs 0 1 wx → Calls Tryd.prog 10 #[.string s] wx fun e w' => ∃ g cap, e = .returned (.tuple #[.slice (some ⟨g, 0, none⟩) 1 cap, .bool true]) ∧ (g < w'.heap.size ∧ 1 ≤ cap ∧ cap ≤ maxLen) ∧ w'.cell? ⟨g, 0, none⟩ = some (.int .i64 k) ∧ Below wx.heap.size wx w' := by
    intro wx ht
    refine (codes_yes s wx (by omega) ht u1).mono ?_
    rintro e w' ⟨v, he, ho, hb⟩
    rw [u2] at ho
    obtain ⟨g, cap, rfl, _, hg, hc1, hc2, hc⟩ := own_open ho (by simp)
    exact ⟨g, cap, he, ⟨hg, hc1, hc2⟩, hc 0 _ rfl, hb⟩
  have c2 : ∀ wx, Lib.Utf8Tabs 0 1 wx → Calls Tryd.prog 10 #[.string (s.extract 0 n)] wx fun e w' => ∃ A cap, e = .returned (.tuple #[.slice A 0 cap, .bool (decide (n = 0))]) ∧ Below wx.heap.size wx w' := by
    intro wx ht
    by_cases h0 : n = 0
    · subst h0
      have he : (s.extract 0 0).data.toList = [] := by rw [Lib.extract_data]; simp
      refine (codes_yes (s.extract 0 0) wx (by simp) ht (by rw [he]; rfl)).mono ?_
      rintro e w' ⟨v, he', ho, hb⟩
      rw [he, units_nil] at ho
      rcases ho.2 with ⟨rfl, _⟩ | ⟨g, cap, cur, rfl, _⟩
      · exact ⟨_, _, he', hb⟩
      · exact ⟨_, _, he', hb⟩
    · have hx : (s.extract 0 n).data.toList = s.data.toList.take n := by rw [Lib.extract_data]; simp
      refine (codes_no (s.extract 0 n) wx (by simp; omega) ht (by rw [hx, hs]; exact hcut n hv (by omega) (by rw [← hs]; exact hnlt))).mono ?_
      rintro e w' ⟨he', hb⟩
      rw [decide_eq_false h0]
      exact ⟨_, _, he', hb⟩
  have C1 := Lib.hid c1
  have C2 := Lib.hid c2
  have HT := Lib.hid hT
  clear c1 c2 hcut hT hk hn hb u1 u2 hv hs
  obtain ⟨b, hb⟩ : ∃ b, b = decide (n = 0) := ⟨_, rfl⟩
  rw [← hb] at C2
  have hzb : ((n : Int) == 0) = b := by
    rw [hb, Bool.eq_iff_iff]; simp
  clear hb
  have hge : decide ((55296 : Int) ≤ k) = false ∨ (decide ((55296 : Int) ≤ k) = true ∧ decide ((k : Int) ≤ 57343) = false) := by
    rcases h1 with h1 | h1
    · left; simp; omega
    · right; simp; omega
  have hk0 : (k : Int) ≤ 1114111 := by omega
  clear h1
  rcases hge with h1 | ⟨h1, h2⟩ <;> cases b
  all_goals
    go_enter Tryd.func5, Tryd.ntmps5
    go_wp2_with fail
    refine (P1.out _).mono ?_
    rintro e w1 ⟨rfl, rfl⟩
    go_wp2_with fail
    refine (B1.out _).mono ?_
    rintro e w1 ⟨rfl, rfl⟩
    go_wp2_with fail
    refine (C1.out _ HT.out).mono ?_
    rintro e w1 ⟨g1, cap1, rfl, ⟨hg1, hc1, hc2⟩, z1, hb1⟩
    unfold maxLen at hc2
    go_wp2_with fail
    refine (P2.out _).mono ?_
    rintro e w1 ⟨rfl, rfl⟩
    go_wp2_with fail
    refine (C2.out _ (tabs_below HT.out hb1)).mono ?_
    rintro e w2 ⟨A2, cap2, rfl, hb2⟩
    go_wp2_with fail
    refine (B2.out _).mono ?_
    rintro e w1 ⟨rfl, rfl⟩
    go_wp2_with fail
    refine (B3.out _).mono ?_
    rintro e w1 ⟨rfl, rfl⟩
    go_wp2_with fail
    refine (awake_any _ (tabs_below (tabs_below HT.out hb1) hb2)).mono ?_
    rintro e w3 ⟨rfl, hb3⟩
    go_wp2_with fail
    go_ret
    exact ⟨rfl, (hb1.trans (hb2.mono hb1.size)).trans (hb3.mono (Nat.le_trans hb1.size hb2.size))⟩

theorem codes_law (v cut : Int) (w : World) (hT : Lib.Utf8Tabs 0 1 w) :
    Calls Tryd.prog 5 #[.int .i64 v, .int .i64 cut] w fun e w' => e = .returned (.bool true) ∧ Below w.heap.size w w' := by
  have h0 := Int.emod_nonneg v (show (1114112 : Int) ≠ 0 by omega)
  have h1 := Int.emod_lt_of_pos v (show (0 : Int) < 1114112 by omega)
  obtain ⟨k, hk⟩ : ∃ k : Nat, v % 1114112 = k := ⟨(v % 1114112).toNat, by omega⟩
  by_cases hs : 55296 ≤ k ∧ k ≤ 57343
  · exact codes_sur v cut w hT k hk hs.1 hs.2
  · exact codes_pt v cut w hT k hk (by omega)
end Go.Proofs.YtfenpcddmdopdaaDoor
