/- The document's word of chapter 12 by contract. -/
import Derived.Test.YtmadlappalhmlaaDoorYLaws
import Derived.Test.YtmadlappalhmlaaDoorPPart
namespace Go.Proofs.YtmadlappalhmlaaDoor
open Go Go.RowKit Go.Lib

def okB (b : UInt8) : Bool := decide (33 ≤ b.toNat ∧ b ≠ 47 ∧ b ≠ 35)
theorem wordOk_eq (w : List UInt8) : wordOk w = (decide (w ≠ []) && w.all okB && validD w) := rfl
theorem byte_at {s : ByteArray} {k : Nat} (h : k < s.size) : ∃ c, s.data.toList[k]? = some c ∧ s[k]'h = c := by
  have h1 : s.data.toList[k]? = s.data[k]? := Array.getElem?_toList
  have h2 : s.data[k]? = some (s.data[k]'h) := Array.getElem?_eq_getElem h
  exact ⟨_, h1.trans h2, rfl⟩

set_option maxRecDepth 100000 in
set_option maxHeartbeats 1000000 in
theorem eword_any (w : World) (s : ByteArray) (hs : s.size ≤ 1000000000) :
    Calls Tryd.prog 32 #[.string s] w fun e w' => e = .returned (.bool (wordOk s.data.toList)) ∧ Below w.heap.size w w' := by
  have hsl : s.data.toList.length = s.size := (Lib.size_eq s).symm
  obtain ⟨L, hL⟩ : ∃ L, L = s.data.toList := ⟨_, rfl⟩
  obtain ⟨R, hR⟩ : ∃ R, R = wordOk s.data.toList := ⟨_, rfl⟩
  have CV := Lib.hid (rvalid_any s w (by omega))
  rw [← hL] at CV hsl
  rw [← hR]
  have HL := Lib.hid (And.intro hL hsl)
  have HR := Lib.hid (show R = (decide (L ≠ []) && L.all okB && validD L) by rw [hR, hL]; rfl)
  have HE := Lib.hid (show s.toList.isEmpty = decide (L = []) by rw [toL_data, ← hL]; cases L <;> rfl)
  clear hL hsl hR
  go_enter Tryd.func32, Tryd.ntmps32
  go_wp2_with fail
  go_loopg [3] s.size (fun g i wr => ∃ k : Nat, k + g = s.size ∧ i = .int .i64 k ∧ w = wr ∧ Hid (∀ j c, j < k → L[j]? = some c → okB c = true))
  case atStart => exact ⟨0, by omega, rfl, rfl, Lib.hid fun j c hj => absurd hj (Nat.not_lt_zero _)⟩
  case round =>
    obtain ⟨k, hk, rfl, rfl, HK⟩ := hrel
    have hk0 : (0 : Int) ≤ k := by omega
    rcases Nat.eq_zero_or_pos gk with h0 | h0
    · have hkn : ¬ (k : Int) < s.size := by omega
      have hall : L.all okB = true := by
        rw [List.all_eq_true]
        intro c hc
        obtain ⟨j, hj, hje⟩ := List.getElem_of_mem hc
        exact HK.out j c (by have := HL.out.2; omega) (by rw [List.getElem?_eq_getElem hj, hje])
      by_cases hz : L = []
      · have hR0 : R = false := by rw [HR.out, hz]; rfl
        subst hR0
        have he : s.toList.isEmpty = true := by rw [HE.out]; exact decide_eq_true hz
        clear hz hall
        go_wp2_with fail
        go_ret
        exact ⟨rfl, Below.refl _ _⟩
      · have hR1 : R = validD L := by rw [HR.out, hall, decide_eq_true (p := L ≠ []) hz]; simp
        rw [← hR1] at CV
        have he : s.toList.isEmpty = false := by rw [HE.out]; exact decide_eq_false hz
        clear hz hall hR1
        go_wp2_with (go_at_call 43; refine CV.out.mono ?_; rintro e w2 ⟨rfl, hb⟩; have HB := Lib.hid hb; clear hb)
        go_ret
        exact ⟨rfl, HB.out⟩
    · have hkn : (k : Int) < s.size := by omega
      have hks : k < s.size := by omega
      obtain ⟨c, hc, hget⟩ := byte_at hks
      rw [← HL.out.1] at hc
      obtain ⟨x, hx⟩ : ∃ x, x = c.toNat := ⟨_, rfl⟩
      have hgx : (s[k]'hks).toNat = x := by rw [hget, hx]
      have HC := Lib.hid hc
      have NO := Lib.hid (show okB c = false → R = false from fun h => by
        have h2 : L.all okB = false := by
          rw [List.all_eq_false]
          exact ⟨c, List.mem_of_getElem? hc, by rw [h]; decide⟩
        rw [HR.out, h2]; simp)
      have OK := Lib.hid (show okB c = decide (33 ≤ x ∧ x ≠ 47 ∧ x ≠ 35) by
        unfold okB
        rw [hx]
        exact decide_eq_decide.2 ⟨fun h => ⟨h.1, fun e => h.2.1 (UInt8.toNat_inj.1 e), fun e => h.2.2 (UInt8.toNat_inj.1 e)⟩, fun h => ⟨h.1, fun e => h.2.1 (by rw [e]; rfl), fun e => h.2.2 (by rw [e]; rfl)⟩⟩)
      clear hget hc hx
      by_cases c1 : x < 33
      · have hR0 : R = false := NO.out (by rw [OK.out]; exact decide_eq_false (by omega))
        subst hR0
        have d1 : (x : Int) < 33 := by omega
        go_wp2_with fail
        go_ret
        exact ⟨rfl, Below.refl _ _⟩
      have d1 : ¬ (x : Int) < 33 := by omega
      by_cases c2 : x = 47
      · have hR0 : R = false := NO.out (by rw [OK.out]; exact decide_eq_false (by omega))
        subst hR0
        have d2 : ((x : Int) == 47) = true := by simp; omega
        clear c2
        go_wp2_with fail
        go_ret
        exact ⟨rfl, Below.refl _ _⟩
      have d2 : ((x : Int) == 47) = false := by simp; omega
      by_cases c3 : x = 35
      · have hR0 : R = false := NO.out (by rw [OK.out]; exact decide_eq_false (by omega))
        subst hR0
        have d3 : ((x : Int) == 35) = true := by simp; omega
        clear c3
        go_wp2_with fail
        go_ret
        exact ⟨rfl, Below.refl _ _⟩
      have d3 : ((x : Int) == 35) = false := by simp; omega
      have HK2 := Lib.hid (show ∀ j c, j < k + 1 → L[j]? = some c → okB c = true from fun j c' hj hj' => by
        rcases Nat.lt_or_ge j k with h | h
        · exact HK.out j c' h hj'
        · obtain rfl : j = k := by omega
          rw [HC.out] at hj'
          rw [← Option.some.inj hj', OK.out]
          exact decide_eq_true (by omega))
      clear c1 c2 c3
      go_wp2_with fail
      go_roundg (gk - 1)
      case measure => omega
      case rel => exact ⟨k + 1, by omega, by go_num, rfl, HK2⟩
end Go.Proofs.YtmadlappalhmlaaDoor
