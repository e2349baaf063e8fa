/- Stage 15's laws: few, has by contract. -/
import Derived.Test.YtkabdieenijnlaaIAwake
import Derived.Test.YtkabdieenijnlaaISame
namespace Go.Proofs.Ytkabdieenijnlaa
open Go Go.RowKit Go.Lib

/-- What few says. -/
def Few15 (l : List ByteArray) : Prop := l.length ≤ 40 ∧ ∀ s ∈ l, s.size ≤ 20 ∧ ∀ c ∈ s.data.toList, c ≠ 0
def FewE15 (e : Ending) (l : List ByteArray) : Prop := ∃ b, e = .returned (.bool b) ∧ (b = true → Few15 l)
def memB (l : List ByteArray) (s : ByteArray) : Bool := l.any fun x => decide (x = s)
theorem memB_iff {l : List ByteArray} {s : ByteArray} : memB l s = true ↔ s ∈ l := by
  unfold memB
  rw [List.any_eq_true]
  constructor
  · rintro ⟨x, hx, h⟩
    rw [← of_decide_eq_true h]; exact hx
  · intro h; exact ⟨s, h, decide_eq_true rfl⟩
theorem memB_false {l : List ByteArray} {s : ByteArray} (h : ¬ s ∈ l) : memB l s = false := by
  cases e : memB l s with
  | true => exact absurd (memB_iff.1 e) h
  | false => rfl
set_option maxRecDepth 100000 in
set_option maxHeartbeats 2000000 in
theorem few15_any (w : World) (v : Value) (l : List ByteArray) (h : StrsAt w v l) :
    Calls Try.prog 8 #[v] w fun e w' => FewE15 e l ∧ w' = w := by
  have hbd := strs_bd h
  obtain ⟨A, cap, rfl⟩ := strs_form h
  obtain ⟨n, hn⟩ : ∃ n, n = l.length := ⟨_, rfl⟩
  rw [← hn] at h hbd ⊢
  have HO := Lib.hid (strs_open h)
  have HN := Lib.hid hn
  clear h hn
  go_enter Try.func8, Try.ntmps8
  go_wp2_with fail
  go_loopg [3] 41 (fun gh i wr => ∃ k : Nat, k + gh = 41 ∧ i = .int .i64 k ∧ k ≤ n ∧ k ≤ 40 ∧ wr = w ∧ Hid (∀ s ∈ l.take k, s.size ≤ 20 ∧ ∀ c ∈ s.data.toList, c ≠ 0))
  case atStart => exact ⟨0, by omega, rfl, Nat.zero_le _, by omega, rfl, Lib.hid (by simp)⟩
  case round =>
    obtain ⟨k, hk, rfl, hkn, hk40, rfl, HP⟩ := hrel
    have hcs : (k < n ∧ k < 40) ∨ (¬ k < n) ∨ (k < n ∧ ¬ k < 40) := by omega
    rcases hcs with ⟨h1, h2⟩ | h1 | ⟨h1, h2⟩
    · have d1 : (k : Int) < n := by omega
      have d2 : (k : Int) < 40 := by omega
      obtain ⟨s, hs⟩ : ∃ s, l[k]? = some s := ⟨_, List.getElem?_eq_getElem (by have := HN.out; omega)⟩
      obtain ⟨b, off, rfl, hb, hnc, cx⟩ := HO.out k s hs
      have HS := Lib.hid hs
      clear hs
      by_cases hlong : 20 < s.size
      · have d3 : (20 : Int) < s.size := by omega
        clear hlong
        go_wp2_with fail
        go_ret
        exact ⟨⟨_, rfl, fun e => (by cases e)⟩, rfl⟩
      · have d3 : ¬ (20 : Int) < s.size := by omega
        obtain ⟨gz, hgz⟩ : ∃ gz, gz = gk := ⟨_, rfl⟩
        obtain ⟨sz, hszn⟩ : ∃ sz, sz = s.size := ⟨_, rfl⟩
        have HL := Lib.hid hlong
        clear hlong
        go_wp2_with fail
        go_loopg [4] s.size (fun gh i wq => ∃ j : Nat, j + gh = s.size ∧ i = .int .i64 j ∧ wq = wr ∧ Hid (∀ c ∈ s.data.toList.take j, c ≠ 0))
        case atStart => exact ⟨0, by omega, rfl, rfl, Lib.hid (by simp)⟩
        case round =>
          obtain ⟨j, hj, rfl, rfl, HQ⟩ := hrel
          rcases Nat.eq_zero_or_pos gk with h0 | h0
          · have hje : j = s.size := by omega
            have d4 : ¬ (j : Int) < s.size := by omega
            have HNX := Lib.hid (show ∀ t ∈ l.take (k + 1), t.size ≤ 20 ∧ ∀ c ∈ t.data.toList, c ≠ 0 from fun t ht => by
              rw [List.take_add_one, HS.out, List.mem_append] at ht
              rcases ht with ht | ht
              · exact HP.out t ht
              · simp at ht
                subst ht
                refine ⟨by have := HL.out; omega, ?_⟩
                have := HQ.out
                rwa [List.take_of_length_le (by rw [size_toList]; omega)] at this)
            clear h0
            go_wp2_with fail
            go_roundg (gz - 1)
            case measure => omega
            case rel => exact ⟨k + 1, by omega, by go_num, by omega, by omega, rfl, HNX⟩
          · have hjs : j < s.size := by omega
            have d4 : (j : Int) < s.size := by omega
            have j0 : (0 : Int) ≤ j := by omega
            obtain ⟨c, hc, hget⟩ := byte_at hjs
            have HC := Lib.hid hc
            clear hc
            by_cases hcz : c = 0
            · have d5 : ((c.toNat : Int) == 0) = true := by rw [hcz]; rfl
              clear hcz
              go_wp2_with fail
              go_ret
              exact ⟨⟨_, rfl, fun e => (by cases e)⟩, rfl⟩
            · have d5 : ((c.toNat : Int) == 0) = false := by
                rw [beq_eq_false_iff_ne]
                intro e
                exact hcz (UInt8.toNat_inj.1 (by show c.toNat = 0; omega))
              have HNX := Lib.hid (show ∀ c ∈ s.data.toList.take (j + 1), c ≠ 0 from fun c' hc' => by
                rw [List.take_add_one, HC.out, List.mem_append] at hc'
                rcases hc' with hc' | hc'
                · exact HQ.out c' hc'
                · simp at hc'
                  subst hc'
                  exact hcz)
              clear hcz
              go_wp2_with fail
              go_roundg (gk - 1)
              case measure => omega
              case rel => exact ⟨j + 1, by omega, by go_num, rfl, HNX⟩
    · have d1 : ¬ (k : Int) < n := by omega
      obtain rfl : k = n := by omega
      have d2 : (k : Int) ≤ 40 := by omega
      have HF := Lib.hid (show Few15 l from ⟨by have := HN.out; omega, by
        have := HP.out
        rwa [List.take_of_length_le (by have := HN.out; omega)] at this⟩)
      clear h1
      go_wp2_with fail
      go_ret
      exact ⟨⟨_, rfl, fun _ => HF.out⟩, rfl⟩
    · have d1 : (k : Int) < n := by omega
      have d2 : ¬ (k : Int) < 40 := by omega
      by_cases hn4 : n = 40
      · omega
      · have d3 : ¬ (n : Int) ≤ 40 := by omega
        clear h1 h2
        go_wp2_with fail
        go_ret
        exact ⟨⟨_, rfl, fun e => (by cases e)⟩, rfl⟩
set_option maxRecDepth 100000 in
set_option maxHeartbeats 2000000 in
theorem has15_any (w : World) (v : Value) (l : List ByteArray) (s : ByteArray) (h : StrsAt w v l) :
    Calls Try.prog 13 #[v, .string s] w fun e w' => e = .returned (.bool (memB l s)) ∧ w' = w := by
  have hbd := strs_bd h
  obtain ⟨A, cap, rfl⟩ := strs_form h
  obtain ⟨n, hn⟩ : ∃ n, n = l.length := ⟨_, rfl⟩
  rw [← hn] at h hbd ⊢
  obtain ⟨R, hR⟩ : ∃ R, R = memB l s := ⟨_, rfl⟩
  rw [← hR]
  have HR := Lib.hid hR
  have HO := Lib.hid (strs_open h)
  have HN := Lib.hid hn
  clear h hn hR
  go_enter Try.func13, Try.ntmps13
  go_wp2_with fail
  go_loopg [5] n (fun gh i wr => ∃ k : Nat, k + gh = n ∧ i = .int .i64 k ∧ wr = w ∧ Hid (¬ s ∈ l.take k))
  case atStart => exact ⟨0, by omega, rfl, rfl, Lib.hid (by simp)⟩
  case round =>
    obtain ⟨k, hk, rfl, rfl, HP⟩ := hrel
    rcases Nat.eq_zero_or_pos gk with h0 | h0
    · have d1 : ¬ (k : Int) < n := by omega
      have hR0 : R = false := by
        rw [HR.out]
        refine memB_false ?_
        have := HP.out
        rwa [List.take_of_length_le (by have := HN.out; omega)] at this
      subst hR0
      go_wp2_with fail
      go_ret
      exact ⟨rfl, rfl⟩
    · have d1 : (k : Int) < n := by omega
      obtain ⟨x, hx⟩ : ∃ x, l[k]? = some x := ⟨_, List.getElem?_eq_getElem (by have := HN.out; omega)⟩
      obtain ⟨b, off, rfl, hb, hnc, cx⟩ := HO.out k x hx
      have HX := Lib.hid hx
      clear hx
      by_cases he : x = s
      · subst he
        have hR1 : R = true := by rw [HR.out]; exact memB_iff.2 (List.mem_of_getElem? HX.out)
        subst hR1
        have d2 : (x.toList == x.toList) = true := by simp
        go_wp2_with fail
        go_ret
        exact ⟨rfl, rfl⟩
      · have d2 : (x.toList == s.toList) = false := by rw [eq_eq]; exact decide_eq_false he
        have HNX := Lib.hid (show ¬ s ∈ l.take (k + 1) from by
          rw [List.take_add_one, HX.out, List.mem_append]
          rintro (h | h)
          · exact HP.out h
          · simp at h; exact he h.symm)
        clear he
        go_wp2_with fail
        go_roundg (gk - 1)
        case measure => omega
        case rel => exact ⟨k + 1, by omega, by go_num, rfl, HNX⟩
end Go.Proofs.Ytkabdieenijnlaa
