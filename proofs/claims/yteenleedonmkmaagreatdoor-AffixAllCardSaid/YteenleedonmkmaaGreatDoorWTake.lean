/- The landed reader's taken by contract; slices.ContainsFunc over pairs, over numbers. -/
import Derived.Test.YteenleedonmkmaaGreatDoorVSame
import Derived.Test.YteenleedonmkmaaGreatDoorMPlain
import Derived.Test.YteenleedonmkmaaGreatDoorMFirst
namespace Go.Proofs.YteenleedonmkmaaGreatDoor
open Go Go.RowKit Go.Lib

set_option maxRecDepth 100000 in
set_option maxHeartbeats 1000000 in
theorem wt1_any (w : World) (q : Nat) (c g s : Int) (hq : w.heap[q]? = some (.cells #[.int .i64 c] 3 (0, 0))) :
    Calls Tryz.prog 80 #[.agg #[.int .i64 g, .int .i64 s], .pointer (some ⟨q, 0, none⟩)] w fun e w' => e = .returned (.bool (g == c || s == c)) ∧ Below w.heap.size w w' := by
  have hlt : q < w.heap.size := (Array.getElem?_eq_some_iff.1 hq).1
  have HB := Lib.hid ((Below.refl w.heap.size w).alloc (Nat.le_refl _) (.cells #[.int .i64 g, .int .i64 s] 48))
  have z0 : (w.alloc (.cells #[.int .i64 g, .int .i64 s] 48)).cell? ⟨q, 0, none⟩ = some (.int .i64 c) := by
    refine (HB.out.cell (p := ⟨q, 0, none⟩) hlt).trans ?_
    simp [World.cell?, hq]
  clear hq
  by_cases h1 : c = g
  · subst h1
    have d1 : (c == c) = true := by simp
    rw [d1, Bool.true_or]
    go_enter Tryz.func80, Tryz.ntmps80
    go_wp2_with fail
    go_ret
    exact ⟨rfl, HB.out⟩
  · have d1 : (g == c) = false := by simpa using fun e => h1 e.symm
    have d2 : (c == g) = false := by simpa using h1
    have d3 : decide (c = g) = false := decide_eq_false h1
    rw [d1, Bool.false_or]
    by_cases h2 : c = s
    · subst h2
      have e1 : (c == c) = true := by simp
      rw [e1]
      clear d1 h1
      go_enter Tryz.func80, Tryz.ntmps80
      go_wp2_with fail
      go_ret
      exact ⟨rfl, HB.out⟩
    · have e1 : (s == c) = false := by simpa using fun e => h2 e.symm
      have e2 : (c == s) = false := by simpa using h2
      have e3 : decide (c = s) = false := decide_eq_false h2
      rw [e1]
      clear d1 h1 e1 h2
      go_enter Tryz.func80, Tryz.ntmps80
      go_wp2_with fail
      go_ret
      exact ⟨rfl, HB.out⟩

set_option maxRecDepth 100000 in
set_option maxHeartbeats 1000000 in
theorem wip_any (w : World) (v : Value) (ps : List (Int × Int)) (q : Nat) (c : Int) (h : PairsAt w v ps) (hq : w.heap[q]? = some (.cells #[.int .i64 c] 3 (0, 0))) :
    Calls Tryz.prog 96 #[v, .func (.func 80) #[] #[.pointer (some ⟨q, 0, none⟩)]] w fun e w' => (∃ r : Int, e = .returned (.int .i64 r) ∧ decide (0 ≤ r) = usedP ps c) ∧ Below w.heap.size w w' := by
  have hlt : q < w.heap.size := (Array.getElem?_eq_some_iff.1 hq).1
  obtain ⟨B, m, cB, rfl, hm⟩ : ∃ B m cB, v = .slice B m cB ∧ m = ps.length := by
    rcases h with ⟨rfl, a, c, rfl⟩ | ⟨b, off, c, rfl, _⟩
    · exact ⟨_, _, _, rfl, rfl⟩
    · exact ⟨_, _, _, rfl, rfl⟩
  have l2 := h.bd.1
  unfold maxLen at l2
  rw [← hm] at l2
  have HP := Lib.hid (pairs_open h)
  have HM := Lib.hid hm
  have CT := Lib.hid (fun wx (hb : Below w.heap.size w wx) g s => wt1_any wx q c g s ((hb.block q hlt).trans hq))
  clear h hm hq hlt
  go_enter Tryz.func96, Tryz.ntmps96
  go_wp2_with fail
  go_loopg [5, 8] m (fun g _s5 i wr => ∃ k : Nat, k + g = m ∧ i = .int .i64 k ∧ Hid (Below w.heap.size w wr ∧ usedP (ps.take k) c = false))
  case atStart => exact ⟨0, by omega, rfl, Lib.hid ⟨Below.refl _ _, by simp [usedP]⟩⟩
  case round =>
    obtain ⟨k, hk, rfl, HK⟩ := hrel
    have hk0 : (0 : Int) ≤ k := by omega
    rcases Nat.eq_zero_or_pos gk with h0 | h0
    · have hkm : ¬ (k : Int) < m := by omega
      have HF := Lib.hid (show usedP ps c = false by
        have h := HK.out.2
        rwa [List.take_of_length_le (by have := HM.out; omega)] at h)
      go_wp2_with fail
      go_ret
      exact ⟨⟨_, rfl, by rw [HF.out]; rfl⟩, HK.out.1⟩
    · have hkm : (k : Int) < m := by omega
      obtain ⟨p, hp⟩ : ∃ p, ps[k]? = some p := ⟨_, List.getElem?_eq_getElem (by have := HM.out; omega)⟩
      obtain ⟨b, off, rfl, hb, hc, e0, e1⟩ := HP.out k p hp
      have f0 := (HK.out.1.cell (p := ⟨b, off + k * 2, none⟩) hb).trans e0
      have f1 := (HK.out.1.cell (p := ⟨b, off + k * 2 + 1, none⟩) hb).trans e1
      have hm1 : (m : Int) ≤ cB := by omega
      have C1 := Lib.hid (CT.out wr HK.out.1 p.1 p.2)
      have HU := Lib.hid (used_take1 (c := c) hp)
      have HI := Lib.hid (used_in1 (c := c) hp)
      clear e0 e1 hb hc hp
      obtain ⟨g1, g2⟩ := p
      dsimp only at f0 f1 C1 HU HI
      cases hz : (g1 == c || g2 == c) with
      | true =>
        rw [hz] at C1 HI
        have HI2 := Lib.hid (HI.out rfl)
        clear hz HU HI
        go_wp2_with (go_at_call 80; refine C1.out.mono ?_)
        rintro e w2 ⟨rfl, hb2⟩
        have HB2 := Lib.hid (HK.out.1.trans (hb2.mono HK.out.1.size))
        clear hb2
        go_wp2_with fail
        go_ret
        exact ⟨⟨_, rfl, by rw [HI2.out]; exact decide_eq_true (by omega)⟩, HB2.out⟩
      | false =>
        rw [hz] at C1 HU
        have HU2 := Lib.hid (show usedP (ps.take (k + 1)) c = false by rw [HU.out, HK.out.2]; rfl)
        clear hz HU HI
        go_wp2_with (go_at_call 80; refine C1.out.mono ?_)
        rintro e w2 ⟨rfl, hb2⟩
        have HB2 := Lib.hid (HK.out.1.trans (hb2.mono HK.out.1.size))
        clear hb2
        go_wp2_with fail
        go_roundg (gk - 1)
        case measure => omega
        case rel => exact ⟨k + 1, by omega, by go_num, Lib.hid ⟨HB2.out, HU2.out⟩⟩

set_option maxHeartbeats 1000000 in
theorem wcp_any (w : World) (v : Value) (ps : List (Int × Int)) (q : Nat) (c : Int) (h : PairsAt w v ps) (hq : w.heap[q]? = some (.cells #[.int .i64 c] 3 (0, 0))) :
    Calls Tryz.prog 79 #[v, .func (.func 80) #[] #[.pointer (some ⟨q, 0, none⟩)]] w fun e w' => e = .returned (.bool (usedP ps c)) ∧ Below w.heap.size w w' := by
  have C := Lib.hid (wip_any w v ps q c h hq)
  obtain ⟨B, m, cB, rfl, hm⟩ : ∃ B m cB, v = .slice B m cB ∧ m = ps.length := by
    rcases h with ⟨rfl, a, c, rfl⟩ | ⟨b, off, c, rfl, _⟩
    · exact ⟨_, _, _, rfl, rfl⟩
    · exact ⟨_, _, _, rfl, rfl⟩
  clear h hq hm
  go_enter Tryz.func79, Tryz.ntmps79
  go_wp2_with (go_at_call 96; refine C.out.mono ?_; rintro e w1 ⟨⟨r, rfl, hr⟩, hb⟩; have HR := Lib.hid hr; have HB := Lib.hid hb; clear hr hb)
  go_ret
  exact ⟨ret_bool HR.out, HB.out⟩

/-- A code that is in a pair already, or a plain letter. -/
def takenP (ps : List (Int × Int)) (c : Int) : Bool := plainC c || usedP ps c

set_option maxRecDepth 100000 in
set_option maxHeartbeats 1000000 in
theorem wtaken_any (w : World) (H : Nat) (v : Value) (ps : List (Int × Int)) (c : Int) (hv : w.cell? ⟨H, 1, none⟩ = some v) (hH : H < w.heap.size) (h : PairsAt w v ps) :
    Calls Tryz.prog 58 #[.pointer (some ⟨H, 0, none⟩), .int .i64 c] w fun e w' => e = .returned (.bool (takenP ps c)) ∧ Below w.heap.size w w' := by
  have hb0 := (Below.refl w.heap.size w).alloc (Nat.le_refl _) (.cells #[.int .i64 c] 3)
  have HB := Lib.hid hb0
  have C := Lib.hid (wcp_any (w.alloc (.cells #[.int .i64 c] 3)) v ps w.heap.size c (h.keep hb0) (World.alloc_heap_new w _))
  have hv1 := (hb0.cell (p := ⟨H, 1, none⟩) hH).trans hv
  obtain ⟨B, m, cB, rfl⟩ : ∃ B m cB, v = .slice B m cB := by
    rcases h with ⟨rfl, a, c, rfl⟩ | ⟨b, off, c, rfl, _⟩
    · exact ⟨_, _, _, rfl⟩
    · exact ⟨_, _, _, rfl⟩
  clear h hb0 hv
  unfold takenP plainC
  by_cases c1 : 65 ≤ c
  · by_cases c2 : c ≤ 90
    · rw [decide_eq_true (.inl ⟨c1, c2⟩), Bool.true_or]
      clear C
      go_enter Tryz.func58, Tryz.ntmps58
      go_wp2_with fail
      go_ret
      exact ⟨rfl, HB.out⟩
    · by_cases c3 : 97 ≤ c
      · by_cases c4 : c ≤ 122
        · rw [decide_eq_true (.inr ⟨c3, c4⟩), Bool.true_or]
          clear C
          go_enter Tryz.func58, Tryz.ntmps58
          go_wp2_with fail
          go_ret
          exact ⟨rfl, HB.out⟩
        · rw [decide_eq_false (by omega), Bool.false_or]
          go_enter Tryz.func58, Tryz.ntmps58
          go_wp2_with (go_at_call 79; refine C.out.mono ?_; rintro e w1 ⟨rfl, hb⟩; have HB1 := Lib.hid (HB.out.trans (hb.mono HB.out.size)); clear hb)
          go_ret
          exact ⟨rfl, HB1.out⟩
      · rw [decide_eq_false (by omega), Bool.false_or]
        go_enter Tryz.func58, Tryz.ntmps58
        go_wp2_with (go_at_call 79; refine C.out.mono ?_; rintro e w1 ⟨rfl, hb⟩; have HB1 := Lib.hid (HB.out.trans (hb.mono HB.out.size)); clear hb)
        go_ret
        exact ⟨rfl, HB1.out⟩
  · rw [decide_eq_false (by omega), Bool.false_or]
    have c3 : ¬ 97 ≤ c := by omega
    go_enter Tryz.func58, Tryz.ntmps58
    go_wp2_with (go_at_call 79; refine C.out.mono ?_; rintro e w1 ⟨rfl, hb⟩; have HB1 := Lib.hid (HB.out.trans (hb.mono HB.out.size)); clear hb)
    go_ret
    exact ⟨rfl, HB1.out⟩

set_option maxRecDepth 100000 in
set_option maxHeartbeats 1000000 in
theorem wii_any (w : World) (H : Nat) (v u : Value) (ps : List (Int × Int)) (cs : List Int) (hv : w.cell? ⟨H, 1, none⟩ = some v) (hH : H < w.heap.size) (h : PairsAt w v ps) (hc : IntsAt w u cs) :
    Calls Tryz.prog 78 #[u, .func (.func 58) #[.pointer (some ⟨H, 0, none⟩)] #[]] w fun e w' => (∃ r : Int, e = .returned (.int .i64 r) ∧ decide (0 ≤ r) = cs.any (takenP ps)) ∧ Below w.heap.size w w' := by
  have hbig := ints_bd hc
  obtain ⟨A, cap, rfl, hA⟩ := ints_open hc
  have HA := Lib.hid hA
  have CT := Lib.hid (fun wx (hb : Below w.heap.size w wx) c => wtaken_any wx H v ps c ((hb.cell (p := ⟨H, 1, none⟩) hH).trans hv) (Nat.lt_of_lt_of_le hH hb.size) (h.keep hb))
  obtain ⟨n, hn⟩ : ∃ n, n = cs.length := ⟨_, rfl⟩
  rw [← hn] at hbig ⊢
  have HN := Lib.hid hn
  clear hn hc hA h hv hH
  go_enter Tryz.func78, Tryz.ntmps78
  go_wp2_with fail
  go_loopg [5, 8] n (fun g _s5 i wr => ∃ k : Nat, k + g = n ∧ i = .int .i64 k ∧ Hid (Below w.heap.size w wr ∧ (cs.take k).any (takenP ps) = false))
  case atStart => exact ⟨0, by omega, rfl, Lib.hid ⟨Below.refl _ _, by simp⟩⟩
  case round =>
    obtain ⟨k, hk, rfl, HK⟩ := hrel
    have hk0 : (0 : Int) ≤ k := by omega
    rcases Nat.eq_zero_or_pos gk with h0 | h0
    · have hkm : ¬ (k : Int) < n := by omega
      have HF := Lib.hid (show cs.any (takenP ps) = false by
        have h := HK.out.2
        rwa [List.take_of_length_le (by have := HN.out; omega)] at h)
      go_wp2_with fail
      go_ret
      exact ⟨⟨_, rfl, by rw [HF.out]; rfl⟩, HK.out.1⟩
    · have hkm : (k : Int) < n := by omega
      obtain ⟨c, hc⟩ : ∃ c, cs[k]? = some c := ⟨_, List.getElem?_eq_getElem (by have := HN.out; omega)⟩
      obtain ⟨q, o, rfl, hq, hqc, cq⟩ := HA.out k c hc
      have f0 := (HK.out.1.cell (p := ⟨q, o + k, none⟩) hq).trans cq
      have hm1 : (n : Int) ≤ cap := by have := HN.out; omega
      have C1 := Lib.hid (CT.out wr HK.out.1 c)
      obtain ⟨hlt, hce⟩ := List.getElem?_eq_some_iff.1 hc
      have HU := Lib.hid (show (cs.take (k + 1)).any (takenP ps) = ((cs.take k).any (takenP ps) || takenP ps c) by rw [List.take_succ_eq_append_getElem hlt, hce, List.any_append]; simp)
      have HI := Lib.hid (show takenP ps c = true → cs.any (takenP ps) = true from fun ht => List.any_eq_true.2 ⟨c, List.mem_of_getElem? hc, ht⟩)
      clear cq hqc hc hq hlt hce
      cases hz : takenP ps c with
      | true =>
        rw [hz] at C1 HI
        have HI2 := Lib.hid (HI.out rfl)
        clear hz HU HI
        go_wp2_with (go_at_call 58; refine C1.out.mono ?_)
        rintro e w2 ⟨rfl, hb2⟩
        have HB2 := Lib.hid (HK.out.1.trans (hb2.mono HK.out.1.size))
        clear hb2
        go_wp2_with fail
        go_ret
        exact ⟨⟨_, rfl, by rw [HI2.out]; exact decide_eq_true (by omega)⟩, HB2.out⟩
      | false =>
        rw [hz] at C1 HU
        have HU2 := Lib.hid (show (cs.take (k + 1)).any (takenP ps) = false by rw [HU.out, HK.out.2]; rfl)
        clear hz HU HI
        go_wp2_with (go_at_call 58; refine C1.out.mono ?_)
        rintro e w2 ⟨rfl, hb2⟩
        have HB2 := Lib.hid (HK.out.1.trans (hb2.mono HK.out.1.size))
        clear hb2
        go_wp2_with fail
        go_roundg (gk - 1)
        case measure => omega
        case rel => exact ⟨k + 1, by omega, by go_num, Lib.hid ⟨HB2.out, HU2.out⟩⟩

set_option maxHeartbeats 1000000 in
theorem wci_any (w : World) (H : Nat) (v u : Value) (ps : List (Int × Int)) (cs : List Int) (hv : w.cell? ⟨H, 1, none⟩ = some v) (hH : H < w.heap.size) (h : PairsAt w v ps) (hc : IntsAt w u cs) :
    Calls Tryz.prog 57 #[u, .func (.func 58) #[.pointer (some ⟨H, 0, none⟩)] #[]] w fun e w' => e = .returned (.bool (cs.any (takenP ps))) ∧ Below w.heap.size w w' := by
  have C := Lib.hid (wii_any w H v u ps cs hv hH h hc)
  obtain ⟨A, cap, rfl, -⟩ := ints_open hc
  clear h hc hv hH
  go_enter Tryz.func57, Tryz.ntmps57
  go_wp2_with (go_at_call 78; refine C.out.mono ?_; rintro e w1 ⟨⟨r, rfl, hr⟩, hb⟩; have HR := Lib.hid hr; have HB := Lib.hid hb; clear hr hb)
  go_ret
  exact ⟨ret_bool HR.out, HB.out⟩
end Go.Proofs.YteenleedonmkmaaGreatDoor
