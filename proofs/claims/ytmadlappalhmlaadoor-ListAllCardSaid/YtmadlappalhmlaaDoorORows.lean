/- slices.Index, Contains, Equal, Clone at []int, over slices that read as numbers. -/
import Derived.Test.YtmadlappalhmlaaDoorNGrow
import Derived.Lib.Hide
import Derived.Lib.SliceRun
namespace Go.Proofs.YtmadlappalhmlaaDoor
open Go Go.RowKit

theorem ints_bd {w : World} {v : Value} {cs : List Int} (h : IntsAt w v cs) : cs.length ≤ 9223372036854775807 := by
  rcases h with ⟨rfl, _⟩ | ⟨b, off, cap, rfl, h1, h2, h3, h4⟩
  · exact Nat.zero_le _
  · unfold maxLen at h3; omega

set_option maxHeartbeats 1000000 in
theorem index_any (w : World) (v : Value) (cs : List Int) (x : Int) (h : IntsAt w v cs) :
    Calls Tryd.prog 53 #[v, .int .i64 x] w fun e w' => ∃ r : Int, e = .returned (.int .i64 r) ∧ w' = w ∧ ((r = -1 ∧ ∀ c ∈ cs, c ≠ x) ∨ ∃ k : Nat, r = k ∧ cs[k]? = some x ∧ ∀ j, j < k → cs[j]? ≠ some x) := by
  have hbig := ints_bd h
  obtain ⟨A, cap, rfl, hA⟩ := ints_open h
  clear h
  have HA := Lib.hid hA
  clear hA
  obtain ⟨n, hn⟩ : ∃ n, n = cs.length := ⟨_, rfl⟩
  rw [← hn] at hbig ⊢
  have HN := Lib.hid hn
  clear hn
  go_enter Tryd.func53, Tryd.ntmps53
  go_wp2
  go_loopg [5, 8] n (fun g _s5 s8 wr => ∃ k : Nat, k + g = n ∧ s8 = .int .i64 k ∧ wr = w ∧ Hid (∀ j, j < k → cs[j]? ≠ some x))
  case atStart => exact ⟨0, by omega, rfl, rfl, Lib.hid fun j hj => absurd hj (Nat.not_lt_zero _)⟩
  case round =>
    obtain ⟨k, hk, rfl, rfl, HP⟩ := hrel
    rcases Nat.eq_zero_or_pos gk with h0 | h0
    · have hkn : k = n := by omega
      subst hkn
      go_wp2
      go_ret
      refine ⟨_, rfl, rfl, .inl ⟨rfl, fun c hc e => ?_⟩⟩
      obtain ⟨j, hj, hjc⟩ := List.getElem_of_mem hc
      exact HP.out j (by have := HN.out; omega) (by rw [List.getElem?_eq_getElem hj, hjc, e])
    · have hkn : (k : Int) < n := by omega
      obtain ⟨c, hc⟩ : ∃ c, cs[k]? = some c := ⟨_, List.getElem?_eq_getElem (by have := HN.out; omega)⟩
      obtain ⟨q, o, rfl, hq, hqc, cq⟩ := HA.out k c hc
      have HC := Lib.hid hc
      clear hc hqc
      have tk1 : (0 : Int) ≤ k := by omega
      by_cases hx : x = c
      · subst hx
        have d : (x == x) = true := by simp
        go_wp2_with fail
        go_ret
        exact ⟨_, rfl, rfl, .inr ⟨k, rfl, HC.out, HP.out⟩⟩
      · have d : (x == c) = false := by simpa using hx
        have HX := Lib.hid hx
        clear hx
        go_wp2_with fail
        go_roundg (gk - 1)
        case measure => omega
        case rel =>
          refine ⟨k + 1, by omega, by go_num, rfl, Lib.hid fun j hj => ?_⟩
          rcases Nat.lt_or_ge j k with hjk | hjk
          · exact HP.out j hjk
          · obtain rfl : j = k := by omega
            rw [HC.out]
            intro e
            exact HX.out (Option.some.inj e).symm

theorem contains_any (w : World) (v : Value) (cs : List Int) (x : Int) (h : IntsAt w v cs) :
    Calls Tryd.prog 42 #[v, .int .i64 x] w fun e w' => e = .returned (.bool (cs.contains x)) ∧ w' = w := by
  have C := Lib.hid (index_any w v cs x h)
  obtain ⟨A, cap, rfl, hA⟩ := ints_open h
  clear h hA
  go_enter Tryd.func42, Tryd.ntmps42
  go_wp2_with (go_at_call 53; refine C.out.mono ?_; rintro e w1 ⟨r, rfl, rfl, hi⟩; rcases hi with ⟨rfl, hno⟩ | ⟨k, rfl, hk, -⟩)
  · have hb : cs.contains x = false := by
      rw [Bool.eq_false_iff]
      intro hc
      exact hno x (List.contains_iff_mem.1 hc) rfl
    rw [hb]
    go_ret
    exact ⟨rfl, rfl⟩
  · have hb : cs.contains x = true := List.contains_iff_mem.2 (List.mem_of_getElem? hk)
    rw [hb]
    go_ret
    exact ⟨rfl, rfl⟩

theorem ret_bool {a b : Bool} (h : a = b) : Ending.returned (.bool a) = .returned (.bool b) := by rw [h]
set_option maxRecDepth 100000 in
theorem int_info : ∃ i0 : TypeInfo, Tryd.prog.info? 3 = some i0 ∧ i0.zero = some (.int .i64 0) ∧ i0.size = 1 ∧ i0.bytes = 8 := ⟨_, rfl, rfl, rfl, rfl⟩

set_option maxHeartbeats 2000000 in
theorem equal_any (w : World) (v v' : Value) (cs ds : List Int) (h : IntsAt w v cs) (h' : IntsAt w v' ds) :
    Calls Tryd.prog 36 #[v, v'] w fun e w' => e = .returned (.bool (decide (cs = ds))) ∧ Below w.heap.size w w' := by
  have hbig := ints_bd h
  have hbig' := ints_bd h'
  obtain ⟨A, cap, rfl, hA⟩ := ints_open h
  obtain ⟨A', cap', rfl, hA'⟩ := ints_open h'
  have HA := Lib.hid hA
  have HA' := Lib.hid hA'
  clear hA hA' h h'
  by_cases hne : cs.length = ds.length
  · obtain ⟨n, hn⟩ : ∃ n, n = cs.length := ⟨_, rfl⟩
    rw [← hne, ← hn]
    rw [← hn] at hbig
    have HN := Lib.hid (And.intro hn hne)
    clear hn hne hbig'
    go_enter Tryd.func36, Tryd.ntmps36
    go_wp2
    go_loopg [5, 13] n (fun g _s5 i wr => ∃ k : Nat, k + g = n ∧ i = .int .i64 k ∧ Hid (Below w.heap.size w wr) ∧ Hid (∀ j, j < k → cs[j]? = ds[j]?))
    case atStart => exact ⟨0, by omega, rfl, Lib.hid (Below.refl _ _), Lib.hid fun j hj => absurd hj (Nat.not_lt_zero _)⟩
    case round =>
      obtain ⟨k, hk, rfl, HB, HP⟩ := hrel
      rcases Nat.eq_zero_or_pos gk with h0 | h0
      · have hkn : k = n := by omega
        subst hkn
        go_wp2
        go_ret
        have he : cs = ds := by
          apply List.ext_getElem?
          intro j
          rcases Nat.lt_or_ge j k with hjk | hjk
          · exact HP.out j hjk
          · have h1 := HN.out
            rw [List.getElem?_eq_none (by omega), List.getElem?_eq_none (by omega)]
        exact ⟨ret_bool (decide_eq_true he).symm, HB.out⟩
      · have hkn : (k : Int) < n := by omega
        obtain ⟨c, hc⟩ : ∃ c, cs[k]? = some c := ⟨_, List.getElem?_eq_getElem (by have := HN.out; omega)⟩
        obtain ⟨d, hd⟩ : ∃ d, ds[k]? = some d := ⟨_, List.getElem?_eq_getElem (by have := HN.out; omega)⟩
        obtain ⟨q, o, rfl, hq, -, cq⟩ := HA.out k c hc
        obtain ⟨q', o', rfl, hq', -, cq'⟩ := HA'.out k d hd
        have p2 := (HB.out.cell (p := ⟨q, o + k, none⟩) hq).trans cq
        have r2 := (HB.out.cell (p := ⟨q', o' + k, none⟩) hq').trans cq'
        have tk1 : (0 : Int) ≤ k := by omega
        have HC := Lib.hid (And.intro hc hd)
        clear cq cq' hc hd
        by_cases hx : c = d
        · subst hx
          have dc : (c != c) = false := by simp
          go_wp2_with fail
          go_quiet (fail)
          go_wp2_with fail
          go_roundg (gk - 1)
          case measure => omega
          case rel =>
            refine ⟨k + 1, by omega, by go_num, Lib.hid (below_drewN HB.out _), Lib.hid fun j hj => ?_⟩
            rcases Nat.lt_or_ge j k with hjk | hjk
            · exact HP.out j hjk
            · obtain rfl : j = k := by omega
              rw [HC.out.1, HC.out.2]
        · have dc : (c != d) = true := by simpa using hx
          have he : ¬ cs = ds := fun e => by
            have h1 := HC.out
            rw [e] at h1
            exact hx (Option.some.inj (h1.1.symm.trans h1.2))
          have HE := Lib.hid he
          clear hx he
          go_wp2_with fail
          go_quiet (fail)
          go_wp2_with fail
          go_ret
          exact ⟨ret_bool (decide_eq_false HE.out).symm, below_drewN HB.out _⟩
  · have he : ¬ cs = ds := fun e => hne (by rw [e])
    rw [decide_eq_false he]
    have hn1 : ¬ ((cs.length : Int) = ds.length) := by omega
    clear he
    go_enter Tryd.func36, Tryd.ntmps36
    go_wp2
    go_ret
    exact ⟨rfl, Below.refl _ _⟩
end Go.Proofs.YtmadlappalhmlaaDoor
