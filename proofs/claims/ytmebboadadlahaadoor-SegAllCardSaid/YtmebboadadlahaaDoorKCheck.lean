/- class.Check and Place by their contracts. -/
import Derived.Test.YtmebboadadlahaaDoorProg
import Derived.Test.YtmebboadadlahaaDoorKPlain
import Derived.WalkKit
import Derived.WalkSpells
import Derived.WalkLawsBesides
import Derived.IntWalk
import Derived.BigQuiet
import Derived.Deep.QuietTactic
import Derived.Below
import Derived.Outline
namespace Go.Proofs.YtmebboadadlahaaDoor.Cls
open Go Go.RowKit

theorem tmod_facts (v n : Int) (hn : 0 < n) : (v.tmod n < 0 → v % n = v.tmod n + n) ∧ (0 ≤ v.tmod n → v % n = v.tmod n) ∧ -n < v.tmod n ∧ v.tmod n < n := by
  have h1 := Int.emod_nonneg v (show n ≠ 0 by omega)
  have h2 := Int.emod_lt_of_pos v hn
  have ht : v.tmod n = if 0 ≤ v then v % n else if v % n = 0 then 0 else v % n - n := by
    rw [Int.tmod_eq_emod]
    have hd : (n ∣ v) ↔ v % n = 0 := Int.dvd_iff_emod_eq_zero
    by_cases h0 : 0 ≤ v
    · simp [h0]
    · by_cases hz : v % n = 0
      · simp [h0, hd, hz]
      · have : (n.natAbs : Int) = n := by omega
        simp [h0, hd, hz, this]
  by_cases h0 : 0 ≤ v
  · have h : v.tmod n = v % n := by rw [ht, if_pos h0]
    omega
  · by_cases hz : v % n = 0
    · have h : v.tmod n = 0 := by rw [ht, if_neg h0, if_pos hz]
      omega
    · have h : v.tmod n = v % n - n := by rw [ht, if_neg h0, if_neg hz]
      omega

theorem ret_int {k : IntKind} {a b : Int} (h : a = b) : Ending.returned (.int k a) = .returned (.int k b) := by rw [h]

theorem ret_bool {a b : Bool} (h : a = b) : Ending.returned (.bool a) = .returned (.bool b) := by rw [h]

set_option maxHeartbeats 400000 in
theorem place_any (v n : Int) (w : World) (hn : 0 < n) (hn2 : n ≤ 1000000000) :
    Calls Tryd.prog 17 #[.int .i64 v, .int .i64 n] w fun e w' => e = .returned (.int .i64 (v % n)) ∧ w = w' := by
  obtain ⟨hneg, hpos, hb1, hb2⟩ := tmod_facts v n hn
  have hz0 : (n == 0) = false := by simp; omega
  have HN := Lib.hid hneg
  have HP := Lib.hid hpos
  clear hneg hpos
  go_enter Tryd.func17, Tryd.ntmps17
  go_wp2
  all_goals go_ret
  · exact ⟨ret_int (HN.out (by assumption)).symm, rfl⟩
  · exact ⟨ret_int (HP.out (by omega)).symm, rfl⟩

/-- A slice value reads as a table. -/
def Tbl (w : World) (v : Value) (rs : List R3) : Prop :=
  ((∃ A cap, v = .slice A 0 cap) ∧ rs = []) ∨ ∃ b off cap, v = .slice (some ⟨b, off, none⟩) rs.length cap ∧ b < w.heap.size ∧ rs.length ≤ cap ∧ cap ≤ maxLen ∧
    ∀ (i : Nat) (r : R3), rs[i]? = some r → w.cell? ⟨b, off + i * 3, none⟩ = some (.int .i64 r.1) ∧ w.cell? ⟨b, off + i * 3 + 1, none⟩ = some (.int .i64 r.2.1) ∧ w.cell? ⟨b, off + i * 3 + 2, none⟩ = some (.int .i64 r.2.2)

theorem Tbl.below {w w' : World} {v : Value} {rs : List R3} (h : Tbl w v rs) (hb : Below w.heap.size w w') : Tbl w' v rs := by
  rcases h with h | ⟨b, off, cap, hv, hlt, h1, h2, hc⟩
  · exact .inl h
  · refine .inr ⟨b, off, cap, hv, Nat.lt_of_lt_of_le hlt hb.size, h1, h2, fun i r hr => ?_⟩
    obtain ⟨c0, c1, c2⟩ := hc i r hr
    exact ⟨(hb.cell (p := ⟨b, _, none⟩) hlt).trans c0, (hb.cell (p := ⟨b, _, none⟩) hlt).trans c1, (hb.cell (p := ⟨b, _, none⟩) hlt).trans c2⟩

set_option maxHeartbeats 1000000 in
theorem check_some (b off cap n : Nat) (rs : List R3) (w : World) (hn : rs.length = n) (hlt : b < w.heap.size) (_h1 : n ≤ cap) (_h2 : cap ≤ maxLen)
    (hc : ∀ (i : Nat) (r : R3), rs[i]? = some r → w.cell? ⟨b, off + i * 3, none⟩ = some (.int .i64 r.1) ∧ w.cell? ⟨b, off + i * 3 + 1, none⟩ = some (.int .i64 r.2.1) ∧ w.cell? ⟨b, off + i * 3 + 2, none⟩ = some (.int .i64 r.2.2)) :
    Calls Tryd.prog 34 #[.slice (some ⟨b, off, none⟩) n cap] w fun e w' => e = .returned (.bool (okT rs)) ∧ Below w.heap.size w w' := by
  unfold maxLen at _h2
  by_cases hbig : 100 < n
  · have hf : okT rs = false := by
      rw [okT, show decide (rs.length ≤ 100) = false from by simp; omega]; rfl
    rw [hf]
    clear hf hc hn
    go_enter Tryd.func34, Tryd.ntmps34
    go_wp2
    go_ret
    exact ⟨rfl, Below.refl _ _⟩
  · have HN := Lib.hid hn
    have HC := Lib.hid hc
    clear hn hc
    go_enter Tryd.func34, Tryd.ntmps34
    go_wp2
    go_loopw [3, 11] (fun a i wr => ∃ (k : Nat) (x : Int), k ≤ n ∧ i = .int .i64 k ∧ a = .int .i64 x ∧ Hid (chain (-1) rs = chain x (rs.drop k)) ∧ Hid (Below w.heap.size w wr)) (fun _ i _ => n - (RowKit.intOf i).toNat)
    case atStart => exact ⟨0, -1, Nat.zero_le _, rfl, rfl, by rw [List.drop_zero]; exact rfl, Below.refl _ _⟩
    case round =>
      obtain ⟨k, x, hk, rfl, rfl, HX, HB⟩ := hrel
      by_cases hkn : k < n
      · obtain ⟨r, hr⟩ : ∃ r, rs[k]? = some r := ⟨_, List.getElem?_eq_getElem (by rw [HN.out]; exact hkn)⟩
        obtain ⟨c0, c1, c2⟩ := HC.out k r hr
        have m0 := (HB.out.cell (p := ⟨b, off + k * 3, none⟩) hlt).trans c0
        have m1 := (HB.out.cell (p := ⟨b, off + k * 3 + 1, none⟩) hlt).trans c1
        have m2 := (HB.out.cell (p := ⟨b, off + k * 3 + 2, none⟩) hlt).trans c2
        obtain ⟨f, t, c⟩ := r
        dsimp only at m0 m1 m2
        have HR := Lib.hid hr
        clear c0 c1 c2 hr
        by_cases ho : okR x (f, t, c) = true
        · have hst := Lib.hid (chain_step HR.out HX.out ho)
          obtain ⟨o1, o2, o3, o4, o5⟩ := (okR_iff _ _).1 ho
          dsimp only at o1 o2 o3 o4 o5
          clear ho
          go_wp2
          go_roundw
          case rel => exact ⟨k + 1, t, by omega, by go_num, rfl, hst.out, HB.out.alloc HB.out.size _⟩
          case measure => simp [RowKit.intOf]; omega
        · have hst := Lib.hid (chain_stop HR.out HX.out (by simpa using ho))
          have ho' : ¬ (x < f ∧ f ≤ t ∧ t ≤ 1114111 ∧ 1 ≤ c ∧ c ≤ 3) := (okR_not _ _).1 (by simpa using ho)
          have HO := Lib.hid ho'
          clear ho ho'
          go_wp2
          all_goals first
            | (exfalso; have := HO.out; omega)
            | (go_ret; exact ⟨ret_bool hst.out.symm, HB.out.alloc HB.out.size _⟩)
      · have hst := Lib.hid (chain_end (by rw [HN.out]; omega) HX.out true (by rw [HN.out]; simp; omega))
        go_wp2
        go_ret
        exact ⟨ret_bool hst.out.symm, HB.out⟩

theorem okT_nil : okT [] = true := rfl
set_option maxHeartbeats 1000000 in
theorem check_none (A : Option Addr) (cap : Nat) (w : World) : Calls Tryd.prog 34 #[.slice A 0 cap] w fun e w' => e = .returned (.bool true) ∧ Below w.heap.size w w' := by
  go_enter Tryd.func34, Tryd.ntmps34
  go_wp2
  go_loop [11] (fun i => i = .int .i64 0) (fun _ => 0)
  case atStart => rfl
  case round =>
    subst hrel
    go_wp2
    go_ret
    exact ⟨rfl, Below.refl _ _⟩

/-- class.Check of a slice that reads as a table. -/
theorem check_any (v : Value) (rs : List R3) (w : World) (h : Tbl w v rs) : Calls Tryd.prog 34 #[v] w fun e w' => e = .returned (.bool (okT rs)) ∧ Below w.heap.size w w' := by
  rcases h with ⟨⟨A, cap, rfl⟩, rfl⟩ | ⟨b, off, cap, rfl, hlt, h1, h2, hc⟩
  · exact check_none A cap w
  · exact check_some b off cap _ rs w rfl hlt h1 h2 hc
end Go.Proofs.YtmebboadadlahaaDoor.Cls
