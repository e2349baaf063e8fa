/- The document's Same of chapter 9, where the items are the same. -/
import Derived.Test.YteenleedonmkmaaGreatDoorMMem
namespace Go.Proofs.YteenleedonmkmaaGreatDoor
open Go Go.RowKit

set_option maxRecDepth 100000 in
set_option maxHeartbeats 2000000 in
theorem same_true (w : World) (v v' : Value) (l : List It) (h : ItemsAt w v l) (h' : ItemsAt w v' l) (hl : l.length ≤ 8) (hs : ∀ it ∈ l, it.set.length ≤ 1200) :
    Calls Tryz.prog 37 #[v, v'] w fun e w' => e = .returned (.bool true) ∧ Below w.heap.size w w' := by
  obtain ⟨hn, a, cap, rfl⟩ | ⟨b, off, cap, rfl, hlt, hcap, hm, hc⟩ := h
  · obtain ⟨_, a', cap', rfl⟩ | ⟨b', off', cap', rfl, _⟩ := h'
    all_goals
      subst hn
      try simp only [List.length_nil]
      go_enter Tryz.func37, Tryz.ntmps37
      go_wp2
      go_loop [5] (fun i => i = .int .i64 0) (fun _ => 0)
      case atStart => rfl
      case round =>
        subst hrel
        go_wp2
        go_ret
        exact ⟨rfl, Below.refl _ _⟩
  obtain ⟨hn, a', cap', rfl⟩ | ⟨b', off', cap', rfl, hlt', hcap', hm', hc'⟩ := h'
  · subst hn
    simp only [List.length_nil]
    go_enter Tryz.func37, Tryz.ntmps37
    go_wp2
    go_loop [5] (fun i => i = .int .i64 0) (fun _ => 0)
    case atStart => rfl
    case round =>
      subst hrel
      go_wp2
      go_ret
      exact ⟨rfl, Below.refl _ _⟩
  obtain ⟨n, hn⟩ : ∃ n, n = l.length := ⟨_, rfl⟩
  rw [← hn] at hl hcap hcap' ⊢
  have HC := Lib.hid (And.intro hc hc')
  have HN := Lib.hid hn
  have HS := Lib.hid hs
  clear hc hc' hn hs
  go_enter Tryz.func37, Tryz.ntmps37
  go_wp2
  go_loopg [5] n (fun g i wr => ∃ k : Nat, k + g = n ∧ i = .int .i64 k ∧ Hid (Below w.heap.size w wr))
  case atStart => exact ⟨0, by omega, rfl, Lib.hid (Below.refl _ _)⟩
  case round =>
    obtain ⟨k, hk, rfl, HB⟩ := hrel
    rcases Nat.eq_zero_or_pos gk with h0 | h0
    · have hkn : k = n := by omega
      subst hkn
      go_wp2
      go_ret
      exact ⟨rfl, HB.out⟩
    · have hkn : (k : Int) < n := by omega
      obtain ⟨it, hit⟩ : ∃ it, l[k]? = some it := ⟨_, List.getElem?_eq_getElem (by have := HN.out; omega)⟩
      obtain ⟨x0, x1, sv, x2, xs⟩ := HC.out.1 k it hit
      obtain ⟨y0, y1, sv', y2, ys⟩ := HC.out.2 k it hit
      obtain ⟨A, cp, rfl, hA⟩ := ints_open xs
      obtain ⟨A', cp', rfl, hA'⟩ := ints_open ys
      have hset := HS.out it (List.mem_of_getElem? hit)
      have m0 := (HB.out.cell (p := ⟨b, off + k * 3, none⟩) hlt).trans x0
      have m1 := (HB.out.cell (p := ⟨b, off + k * 3 + 1, none⟩) hlt).trans x1
      have m2 := (HB.out.cell (p := ⟨b, off + k * 3 + 2, none⟩) hlt).trans x2
      have n0 := (HB.out.cell (p := ⟨b', off' + k * 3, none⟩) hlt').trans y0
      have n1 := (HB.out.cell (p := ⟨b', off' + k * 3 + 1, none⟩) hlt').trans y1
      have n2 := (HB.out.cell (p := ⟨b', off' + k * 3 + 2, none⟩) hlt').trans y2
      have HA := Lib.hid (And.intro hA hA')
      have HX := Lib.hid (And.intro x2 y2)
      have tk1 : (0 : Int) ≤ k := by omega
      clear x0 x1 x2 xs y0 y1 y2 ys hA hA' hit
      obtain ⟨any, neg, set⟩ := it
      dsimp only at m0 m1 m2 n0 n1 n2 HA HX hset
      have db1 : (any != any) = false := by simp
      have db2 : (neg != neg) = false := by simp
      go_wp2_with fail
      go_quiet (fail)
      go_wp2_with fail
      obtain ⟨g1, hg1⟩ : ∃ g1, g1 = gk := ⟨_, rfl⟩
      have HBn := Lib.hid (below_drewN HB.out nq)
      clear m0 m1 m2 n0 n1 n2 HB db1 db2
      go_loopg [6] set.length (fun g i wr => ∃ j : Nat, j + g = set.length ∧ i = .int .i64 j ∧ Hid (Below w.heap.size w wr))
      case atStart => exact ⟨0, by omega, rfl, HBn⟩
      case round =>
        obtain ⟨j, hj, rfl, HB⟩ := hrel
        have m2 := (HB.out.cell (p := ⟨b, off + k * 3 + 2, none⟩) hlt).trans HX.out.1
        have n2 := (HB.out.cell (p := ⟨b', off' + k * 3 + 2, none⟩) hlt').trans HX.out.2
        have tj1 : (0 : Int) ≤ j := by omega
        rcases Nat.eq_zero_or_pos gk with h00 | h00
        · have hjm : j = set.length := by omega
          subst hjm
          go_wp2_with fail
          go_roundg (g1 - 1)
          case measure => omega
          case rel => exact ⟨k + 1, by omega, by go_num, HB⟩
        · have hjm : (j : Int) < set.length := by omega
          obtain ⟨c, hc⟩ : ∃ c, set[j]? = some c := ⟨_, List.getElem?_eq_getElem (by omega)⟩
          obtain ⟨q, o, rfl, hq, hqc, cq⟩ := HA.out.1 j c hc
          obtain ⟨q', o', rfl, hq', hqc', cq'⟩ := HA.out.2 j c hc
          have p2 := (HB.out.cell (p := ⟨q, o + j, none⟩) hq).trans cq
          have r2 := (HB.out.cell (p := ⟨q', o' + j, none⟩) hq').trans cq'
          have dc : (c != c) = false := by simp
          have HC2 := Lib.hid hc
          clear cq cq' hc
          go_wp2_with fail
          go_quiet (fail)
          go_wp2_with fail
          go_roundg (gk - 1)
          case measure => omega
          case rel => exact ⟨j + 1, by omega, by go_num, Lib.hid (below_drewN HB.out _)⟩
end Go.Proofs.YteenleedonmkmaaGreatDoor
