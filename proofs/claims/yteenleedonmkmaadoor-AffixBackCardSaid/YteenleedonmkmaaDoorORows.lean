/- slices.Index, Contains, Equal, Clone at []int, over slices that read as numbers. -/
import Derived.Test.YteenleedonmkmaaDoorNGrow
import Derived.Lib.Hide
import Derived.Lib.SliceRun
namespace Go.Proofs.YteenleedonmkmaaDoor
open Go Go.RowKit

theorem ints_bd {w : World} {v : Value} {cs : List Int} (h : IntsAt w v cs) : cs.length ≤ 9223372036854775807 := by
  rcases h with ⟨rfl, _⟩ | ⟨b, off, cap, rfl, h1, h2, h3, h4⟩
  · exact Nat.zero_le _
  · unfold maxLen at h3; omega

set_option maxHeartbeats 1000000 in
theorem index_any (w : World) (v : Value) (cs : List Int) (x : Int) (h : IntsAt w v cs) :
    Calls Tryd.prog 88 #[v, .int .i64 x] w fun e w' => ∃ r : Int, e = .returned (.int .i64 r) ∧ w' = w ∧ ((r = -1 ∧ ∀ c ∈ cs, c ≠ x) ∨ ∃ k : Nat, r = k ∧ cs[k]? = some x ∧ ∀ j, j < k → cs[j]? ≠ some x) := by
  have hbig := ints_bd h
  obtain ⟨A, cap, rfl, hA⟩ := ints_open h
  clear h
  have HA := Lib.hid hA
  clear hA
  obtain ⟨n, hn⟩ : ∃ n, n = cs.length := ⟨_, rfl⟩
  rw [← hn] at hbig ⊢
  have HN := Lib.hid hn
  clear hn
  go_enter Tryd.func88, Tryd.ntmps88
  go_wp2
  go_loopg [5, 8] n (fun g _s5 s8 wr => ∃ k : Nat, k + g = n ∧ s8 = .int .i64 k ∧ wr = w ∧ Hid (∀ j, j < k → cs[j]? ≠ some x))
  case atStart => exact ⟨0, by omega, rfl, rfl, Lib.hid fun j hj => absurd hj (Nat.not_lt_zero _)⟩
  case round =>
    obtain ⟨k, hk, rfl, rfl, HP⟩ := hrel
    rcases Nat.eq_zero_or_pos gk with h0 | h0
    · have hkn : k = n := by omega
      subst hkn
      go_wp2
      go_ret
      refine ⟨_, rfl, rfl, .inl ⟨rfl, fun c hc e => ?_⟩⟩
      obtain ⟨j, hj, hjc⟩ := List.getElem_of_mem hc
      exact HP.out j (by have := HN.out; omega) (by rw [List.getElem?_eq_getElem hj, hjc, e])
    · have hkn : (k : Int) < n := by omega
      obtain ⟨c, hc⟩ : ∃ c, cs[k]? = some c := ⟨_, List.getElem?_eq_getElem (by have := HN.out; omega)⟩
      obtain ⟨q, o, rfl, hq, hqc, cq⟩ := HA.out k c hc
      have HC := Lib.hid hc
      clear hc hqc
      have tk1 : (0 : Int) ≤ k := by omega
      by_cases hx : x = c
      · subst hx
        have d : (x == x) = true := by simp
        go_wp2_with fail
        go_ret
        exact ⟨_, rfl, rfl, .inr ⟨k, rfl, HC.out, HP.out⟩⟩
      · have d : (x == c) = false := by simpa using hx
        have HX := Lib.hid hx
        clear hx
        go_wp2_with fail
        go_roundg (gk - 1)
        case measure => omega
        case rel =>
          refine ⟨k + 1, by omega, by go_num, rfl, Lib.hid fun j hj => ?_⟩
          rcases Nat.lt_or_ge j k with hjk | hjk
          · exact HP.out j hjk
          · obtain rfl : j = k := by omega
            rw [HC.out]
            intro e
            exact HX.out (Option.some.inj e).symm

theorem ret_bool {a b : Bool} (h : a = b) : Ending.returned (.bool a) = .returned (.bool b) := by rw [h]
set_option maxRecDepth 100000 in
theorem int_info : ∃ i0 : TypeInfo, Tryd.prog.info? 3 = some i0 ∧ i0.zero = some (.int .i64 0) ∧ i0.size = 1 ∧ i0.bytes = 8 := ⟨_, rfl, rfl, rfl, rfl⟩

set_option maxHeartbeats 2000000 in
theorem clone_any (w : World) (v : Value) (cs : List Int) (h : IntsAt w v cs) (h0 : 0 < cs.length) (hn : cs.length ≤ 1000000000000) :
    Calls Tryd.prog 89 #[v] w fun e w' => ∃ v', e = .returned v' ∧ w'.ownsRow w.heap.size 3 1 v' cs.length (cs.map (Value.int .i64)) ∧ Below w.heap.size w w' := by
  obtain ⟨i0, hi, hz0, hz1, hz2⟩ := int_info
  obtain ⟨rfl, _⟩ | ⟨b, off, cap, rfl, h1, h2, h3, h4⟩ := h
  · simp at h0
  have HC := Lib.hid h4
  clear h4
  obtain ⟨n, hN⟩ : ∃ n, n = cs.length := ⟨_, rfl⟩
  rw [← hN] at h0 hn h2 ⊢
  have hq : ∀ W, (binOp .eql 88 (.slice (some ⟨b, off, none⟩) n cap) (.slice none 0 0)).run Tryd.prog W = .ok (.bool false) W := fun W => Lib.run_eql_slice_nil W _ _ _ _ _ _ _ Tryd.underlying88
  have hcell : ∀ o j u, (cs.map (Value.int .i64))[j]? = some u → (w.alloc o).cell? ((⟨b, off, none⟩ : Addr).add j) = some u := by
    intro o j u hj
    rw [Addr.add_lit]
    rw [List.getElem?_map, Option.map_eq_some_iff] at hj
    obtain ⟨c, hc, rfl⟩ := hj
    exact (cell_old (p := ⟨b, off + j, none⟩) ((Below.refl _ w).alloc (Nat.le_refl _) o) h1).trans (HC.out j c hc)
  have hone : ∀ u ∈ cs.map (Value.int .i64), u.oneCell' = true := by
    intro u hu; obtain ⟨x, _, rfl⟩ := List.mem_map.1 hu; rfl
  have hlen : (cs.map (Value.int .i64)).length = n * 1 := by simp [hN]
  have HL := Lib.hid (And.intro hcell (And.intro hone hlen))
  clear hcell hone hlen hN
  go_enter Tryd.func89, Tryd.ntmps89
  go_wp2_with (at_builtin; refine wpList_append_own _ rfl _ _ 88 rfl w.heap.size 3 i0 (.int .i64 0) 1 8 Tryd.underlying88 hi hz0 hz1 hz2 rfl (by decide) _ _ _ rfl (World.ownsRow_made w #[] 0 (Nat.le_refl _) (Nat.zero_le _) rfl) ⟨b, off, none⟩ n cap (cs.map (Value.int .i64)) rfl HL.out.2.2 (HL.out.1 _) HL.out.2.1 (by unfold maxLen; omega) (by omega) (by simp) ?_)
  intro v' w1 hown hgrow _
  go_wp2
  go_ret
  refine ⟨v', rfl, by simpa using hown, ?_⟩
  exact ((Below.refl _ w).alloc (Nat.le_refl _) _).grown hgrow (by simp) (by intro k hk; simp [Value.ownBlock] at hk; omega)

set_option maxHeartbeats 2000000 in
theorem equal_any (w : World) (v v' : Value) (cs ds : List Int) (h : IntsAt w v cs) (h' : IntsAt w v' ds) :
    Calls Tryd.prog 71 #[v, v'] w fun e w' => e = .returned (.bool (decide (cs = ds))) ∧ Below w.heap.size w w' := by
  have hbig := ints_bd h
  have hbig' := ints_bd h'
  obtain ⟨A, cap, rfl, hA⟩ := ints_open h
  obtain ⟨A', cap', rfl, hA'⟩ := ints_open h'
  have HA := Lib.hid hA
  have HA' := Lib.hid hA'
  clear hA hA' h h'
  by_cases hne : cs.length = ds.length
  · obtain ⟨n, hn⟩ : ∃ n, n = cs.length := ⟨_, rfl⟩
    rw [← hne, ← hn]
    rw [← hn] at hbig
    have HN := Lib.hid (And.intro hn hne)
    clear hn hne hbig'
    go_enter Tryd.func71, Tryd.ntmps71
    go_wp2
    go_loopg [5, 13] n (fun g _s5 i wr => ∃ k : Nat, k + g = n ∧ i = .int .i64 k ∧ Hid (Below w.heap.size w wr) ∧ Hid (∀ j, j < k → cs[j]? = ds[j]?))
    case atStart => exact ⟨0, by omega, rfl, Lib.hid (Below.refl _ _), Lib.hid fun j hj => absurd hj (Nat.not_lt_zero _)⟩
    case round =>
      obtain ⟨k, hk, rfl, HB, HP⟩ := hrel
      rcases Nat.eq_zero_or_pos gk with h0 | h0
      · have hkn : k = n := by omega
        subst hkn
        go_wp2
        go_ret
        have he : cs = ds := by
          apply List.ext_getElem?
          intro j
          rcases Nat.lt_or_ge j k with hjk | hjk
          · exact HP.out j hjk
          · have h1 := HN.out
            rw [List.getElem?_eq_none (by omega), List.getElem?_eq_none (by omega)]
        exact ⟨ret_bool (decide_eq_true he).symm, HB.out⟩
      · have hkn : (k : Int) < n := by omega
        obtain ⟨c, hc⟩ : ∃ c, cs[k]? = some c := ⟨_, List.getElem?_eq_getElem (by have := HN.out; omega)⟩
        obtain ⟨d, hd⟩ : ∃ d, ds[k]? = some d := ⟨_, List.getElem?_eq_getElem (by have := HN.out; omega)⟩
        obtain ⟨q, o, rfl, hq, -, cq⟩ := HA.out k c hc
        obtain ⟨q', o', rfl, hq', -, cq'⟩ := HA'.out k d hd
        have p2 := (HB.out.cell (p := ⟨q, o + k, none⟩) hq).trans cq
        have r2 := (HB.out.cell (p := ⟨q', o' + k, none⟩) hq').trans cq'
        have tk1 : (0 : Int) ≤ k := by omega
        have HC := Lib.hid (And.intro hc hd)
        clear cq cq' hc hd
        by_cases hx : c = d
        · subst hx
          have dc : (c != c) = false := by simp
          go_wp2_with fail
          go_quiet (fail)
          go_wp2_with fail
          go_roundg (gk - 1)
          case measure => omega
          case rel =>
            refine ⟨k + 1, by omega, by go_num, Lib.hid (below_drewN HB.out _), Lib.hid fun j hj => ?_⟩
            rcases Nat.lt_or_ge j k with hjk | hjk
            · exact HP.out j hjk
            · obtain rfl : j = k := by omega
              rw [HC.out.1, HC.out.2]
        · have dc : (c != d) = true := by simpa using hx
          have he : ¬ cs = ds := fun e => by
            have h1 := HC.out
            rw [e] at h1
            exact hx (Option.some.inj (h1.1.symm.trans h1.2))
          have HE := Lib.hid he
          clear hx he
          go_wp2_with fail
          go_quiet (fail)
          go_wp2_with fail
          go_ret
          exact ⟨ret_bool (decide_eq_false HE.out).symm, below_drewN HB.out _⟩
  · have he : ¬ cs = ds := fun e => hne (by rw [e])
    rw [decide_eq_false he]
    have hn1 : ¬ ((cs.length : Int) = ds.length) := by omega
    clear he
    go_enter Tryd.func71, Tryd.ntmps71
    go_wp2
    go_ret
    exact ⟨rfl, Below.refl _ _⟩
end Go.Proofs.YteenleedonmkmaaDoor
