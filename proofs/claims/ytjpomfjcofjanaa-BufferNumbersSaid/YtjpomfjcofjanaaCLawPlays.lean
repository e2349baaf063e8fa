/- BufferPlays out of what is asked of a buffer's calls. -/
import Derived.Test.YtjpomfjcofjanaaCStepAll
namespace Go.Proofs.Ytjpomfjcofjanaa
open Go Go.RowKit
variable {R : Nat → (Nat → Prop) → World → Addr → ByteArray → Nat → Nat → Nat → Prop}

/-- A call, by its four parts. -/
structure OpD where
  K : Int
  A : Int
  B : Int
  S : ByteArray
/-- What lies at a slice of calls. -/
def OpsAt (W : World) (b off : Nat) (os : List OpD) : Prop :=
  ∀ (i : Nat) (o : OpD), os[i]? = some o → (b < W.heap.size ∧ W.cell? ⟨b, off + i * 4, none⟩ = some (.int .i64 o.K) ∧ W.cell? ⟨b, off + i * 4 + 1, none⟩ = some (.int .i64 o.A) ∧ W.cell? ⟨b, off + i * 4 + 2, none⟩ = some (.int .i64 o.B) ∧ W.cell? ⟨b, off + i * 4 + 3, none⟩ = some (.string o.S)) ∧
    (-9223372036854775808 ≤ o.A ∧ o.A ≤ 9223372036854775807) ∧ (-9223372036854775808 ≤ o.B ∧ o.B ≤ 9223372036854775807) ∧ o.S.size ≤ 9223372036854775807
/-- A slice of calls. -/
def Ops (W : World) (A : Option Addr) (n cap : Nat) (os : List OpD) : Prop :=
  os.length = n ∧ n ≤ cap ∧ cap ≤ maxLen ∧ (n = 0 ∨ ∃ b off, A = some ⟨b, off, none⟩ ∧ OpsAt W b off os)

set_option maxRecDepth 100000 in
set_option maxHeartbeats 4000000 in
theorem plays_out (S : Says R) (s : ByteArray) (most : Int) (A : Option Addr) (n cap : Nat) (w : World) (h : 500 < s.size ∨ 100 < n) :
    Calls Try.prog 3 #[.string s, .int .i64 most, .slice A n cap] w fun e w' => e = .returned (.bool true) ∧ Below w.heap.size w w' := by
  have W7 := Lib.hid (awake_any S)
  clear S
  have hh : (500 : Int) < s.size ∨ ((s.size : Int) ≤ 500 ∧ (100 : Int) < n) := by omega
  clear h
  rcases hh with h1 | ⟨h1, h2⟩
  all_goals
    go_enter Try.func3, Try.ntmps3
    go_wp2_with fail
    refine (W7.out _).mono ?_
    rintro e w7 ⟨rfl, hb7⟩
    have HB := Lib.hid hb7
    clear hb7
    go_wp2_with fail
    go_ret
    exact ⟨rfl, HB.out⟩

theorem JJ.start (S0 : Says R) {w w1 : World} {a : Addr} {s : ByteArray} {m p h : Nat} {F : Nat → Prop} (h1 : (R 0) F w1 a s m p h) (h2 : OnlyAt (fun _ => False) w w1) (h3 : ∀ k, F k → w.heap.size ≤ k) :
    JJ (R 0) w a w1.heap.size s m (w1.alloc (.cells #[.string s, .int .i64 m] /-t-/30)) := by
  have ho : OnlyAt (fun _ => False) w1 (w1.alloc (.cells #[.string s, .int .i64 m] /-t-/30)) := OnlyAt.alloc _ _ _
  refine ⟨⟨⟨F, p, h, S0.frame F w1 _ a _ _ p h h1 (KeepsAt.of_only ho (fun _ _ e => e)), trivial, fun k hk => ⟨h3 k hk, fun e => by have := S0.lt F w1 a _ _ p h h1 k hk; omega⟩⟩, OnlyAt.below (Below.refl _ _) (h2.trans ho) (Nat.le_refl _) (fun _ e => e.elim)⟩, World.alloc_heap_new w1 _, h2.size⟩
theorem JJ.drew {u : Nat} (S0 : Says R) {w : World} {a : Addr} {mb : Nat} {s : ByteArray} {m : Nat} {wr : World} (h : JJ (R u) w a mb s m wr) : JJ (R u) w a mb s m wr.drew := by
  obtain ⟨⟨F, p, hh, hr, hp, hF⟩, hb⟩ := h.buf
  exact ⟨⟨⟨F, p, hh, S0.frame F wr _ a _ _ p hh hr ⟨Nat.le_refl _, fun _ _ _ => rfl⟩, hp, hF⟩, below_drewN hb 1⟩, h.mod.keep (T := fun _ => True) ⟨Nat.le_refl _, fun _ _ _ => rfl⟩ trivial, h.low⟩

set_option maxRecDepth 100000 in
set_option maxHeartbeats 4000000 in
theorem plays_big_a (S : Says R) (s : ByteArray) (most : Int) (A : Option Addr) (n cap : Nat) (w : World) (hs : s.size ≤ 500) (hn : n ≤ 100) (h0 : most < 0) (hc : clamp most < s.size) (hcl : clamp most = 0) (b1 : -9223372036854775808 ≤ most) (b2 : most ≤ 9223372036854775807) :
    Calls Try.prog 3 #[.string s, .int .i64 most, .slice A n cap] w fun e w' => e = .returned (.bool true) ∧ Below w.heap.size w w' := by
  have W7 := Lib.hid (awake_any S)
  have C1 := Lib.hid ((S.big w s most hc (by omega) b1 b2).mono fun e w' (h : e = .returned (.tuple #[.pointer none, .int .i64 3]) ∧ OnlyAt (fun _ => False) w w') => show e = .returned (.tuple #[.pointer none, .int .i64 3]) ∧ Below w.heap.size w w' from ⟨h.1, OnlyAt.below (Below.refl _ _) h.2 (Nat.le_refl _) (fun _ h => h.elim)⟩)
  have s5 : (s.size : Int) ≤ 500 := by omega
  have n5 : (n : Int) ≤ 100 := by omega
  have hm : ((0 : Nat) : Int) < s.size := by omega
  clear S hs hn hc hcl b1 b2
  go_enter Try.func3, Try.ntmps3
  go_wp2_with fail
  refine C1.out.mono ?_
  rintro e w1 ⟨rfl, hb1⟩
  have HB1 := Lib.hid hb1
  clear hb1
  go_wp2_with fail
  refine (W7.out _).mono ?_
  rintro e w7 ⟨rfl, hb7⟩
  have HB := Lib.hid (HB1.out.trans (((Below.refl _ _).alloc (Nat.le_refl _) _).trans (hb7.mono (by simp)) |>.mono HB1.out.size))
  clear hb7
  go_wp2_with fail
  go_ret
  exact ⟨rfl, HB.out⟩

set_option maxRecDepth 100000 in
set_option maxHeartbeats 4000000 in
theorem plays_run_a (S : Says R) (s : ByteArray) (most : Int) (b off n cap : Nat) (os : List OpD) (w : World) (hol : os.length = n) (hnc : n ≤ cap) (hos : OpsAt w b off os) (hs : s.size ≤ 500) (hn : n ≤ 100) (h0 : most < 0) (hc : s.size ≤ 0) (hcl : clamp most = 0) (b1 : -9223372036854775808 ≤ most) (b2 : most ≤ 9223372036854775807) :
    Calls Try.prog 3 #[.string s, .int .i64 most, .slice (some ⟨b, off, none⟩) n cap] w fun e w' => e = .returned (.bool true) ∧ Below w.heap.size w w' := by
  have W7 := Lib.hid (awake_any S)
  have C1 := Lib.hid (S.new w s most (by omega) b1 b2)
  rw [hcl] at C1
  have s5 : (s.size : Int) ≤ 500 := by omega
  have n5 : (n : Int) ≤ 100 := by omega
  have hm : (s.size : Int) ≤ ((0 : Nat) : Int) := by omega
  have HO := Lib.hid (And.intro hol hos)
  have HN := Lib.hid hn
  have HS := Lib.hid S
  clear S hs hn hc hcl b1 b2 hos hol
  go_enter Try.func3, Try.ntmps3
  go_wp2_with fail
  refine C1.out.mono ?_
  rintro e w1 ⟨a, F, p, h, rfl, hr1, ho1, hf1⟩
  have hjj : JJ (R 0) w a w1.heap.size s 0 (w1.alloc (.cells #[.string s, .int .i64 (0 : Int)] /-t-/30)) := JJ.start HS.out hr1 ho1 hf1
  obtain ⟨w2, hw2⟩ : ∃ w2, w2 = w1.alloc (.cells #[.string s, .int .i64 (0 : Int)] /-t-/30) := ⟨_, rfl⟩
  obtain ⟨mb, hmb⟩ : ∃ mb, mb = w1.heap.size := ⟨_, rfl⟩
  rw [← hw2, ← hmb] at hjj
  obtain ⟨m0, m1⟩ := hjj.mod.cells
  have HJ := Lib.hid hjj
  have HW := Lib.hid (And.intro hw2 hmb)
  clear hjj hr1 ho1 hf1 hw2 hmb
  go_wp2_with fail
  rw [← HW.out.1, ← HW.out.2]
  have hdz : decide (0 < s.size) = false := decide_eq_false (by omega)
  try simp only [hdz]
  clear hdz
  go_loopw [10] (fun i wr => ∃ (j : Nat) (t : ByteArray), j ≤ n ∧ i = .int .i64 j ∧ Hid (∃ u, u ≤ 200 * j ∧ JJ (R u) w a mb t 0 wr)) (fun i _ => n - (RowKit.intOf i).toNat)
  case atStart => exact ⟨0, s, Nat.zero_le _, rfl, 0, Nat.zero_le _, HJ.out⟩
  case round =>
    obtain ⟨j, t, hj, rfl, HT0⟩ := hrel
    obtain ⟨u, hu0, hT0⟩ := HT0.out
    have HT := Lib.hid hT0
    have HU := Lib.hid (And.intro hu0 (And.intro hj HN.out))
    clear hu0 hT0 HT0
    have j0 : (0 : Int) ≤ j := by omega
    obtain ⟨ol, og⟩ := HO.out
    by_cases hjn : j < n
    · have jn : (j : Int) < n := by omega
      obtain ⟨o, ho⟩ : ∃ o, os[j]? = some o := ⟨_, List.getElem?_eq_getElem (by rw [ol]; exact hjn)⟩
      obtain ⟨⟨hb, k0, k1, k2, k3⟩, ⟨a1, a2⟩, ⟨a3, a4⟩, a5⟩ := og j o ho
      have hbel := HT.out.buf.2
      have l0 := (hbel.cell (p := ⟨b, _, none⟩) hb).trans k0
      have l1 := (hbel.cell (p := ⟨b, _, none⟩) hb).trans k1
      have l2 := (hbel.cell (p := ⟨b, _, none⟩) hb).trans k2
      have l3 := (hbel.cell (p := ⟨b, _, none⟩) hb).trans k3
      obtain ⟨K, P, Q, T⟩ := o
      dsimp only at l0 l1 l2 l3 a1 a2 a3 a4 a5
      clear k0 k1 k2 k3 hbel og ho hjn ol
      by_cases hT : T.size ≤ 200
      · have C9 := Lib.hid (step_any HS.out HT.out K P Q T (by have := HU.out; omega) a1 a2 a3 a4)
        have t2 : (T.size : Int) ≤ 200 := by omega
        have HT2 := Lib.hid hT
        clear hT a1 a2 a3 a4 a5
        go_wp2_with fail
        refine C9.out.mono ?_
        rintro e w3 ⟨rfl, u', hu', hj3⟩
        have HJ3 := Lib.hid (show ∃ u, u ≤ 200 * (j + 1) ∧ JJ (R u) w a mb _ _ w3 from ⟨u', by have := HU.out; have := HT2.out; omega, hj3⟩)
        clear hu' hj3
        go_wp2_with fail
        go_roundw
        case rel => exact ⟨j + 1, stepS t 0 K P Q T, by omega, by go_num, HJ3.out⟩
        case measure => simp [RowKit.intOf]; omega
      · have t2 : (200 : Int) < T.size := by omega
        clear hT a1 a2 a3 a4
        go_wp2_with fail
        refine (W7.out _).mono ?_
        rintro e w7 ⟨rfl, hb7⟩
        have HB := Lib.hid (HT.out.buf.2.trans (hb7.mono HT.out.buf.2.size))
        clear hb7
        go_wp2_with fail
        go_ret
        exact ⟨rfl, HB.out⟩
    · obtain rfl : j = n := by omega
      clear og ol hjn hj
      go_wp2_with fail
      refine (W7.out _).mono ?_
      rintro e w7 ⟨rfl, hb7⟩
      have HB := Lib.hid (HT.out.buf.2.trans (hb7.mono HT.out.buf.2.size))
      clear hb7
      go_wp2_with fail
      go_ret
      exact ⟨rfl, HB.out⟩

set_option maxRecDepth 100000 in
set_option maxHeartbeats 4000000 in
theorem plays_none_a (S : Says R) (s : ByteArray) (most : Int) (A : Option Addr) (cap : Nat) (w : World) (hs : s.size ≤ 500) (h0 : most < 0) (hc : s.size ≤ 0) (hcl : clamp most = 0) (b1 : -9223372036854775808 ≤ most) (b2 : most ≤ 9223372036854775807) :
    Calls Try.prog 3 #[.string s, .int .i64 most, .slice A 0 cap] w fun e w' => e = .returned (.bool true) ∧ Below w.heap.size w w' := by
  have W7 := Lib.hid (awake_any S)
  have C1 := Lib.hid (S.new w s most (by omega) b1 b2)
  rw [hcl] at C1
  have s5 : (s.size : Int) ≤ 500 := by omega
  have hm : (s.size : Int) ≤ ((0 : Nat) : Int) := by omega
  have HS := Lib.hid S
  clear S hs hc hcl b1 b2
  go_enter Try.func3, Try.ntmps3
  go_wp2_with fail
  refine C1.out.mono ?_
  rintro e w1 ⟨a, F, p, h, rfl, hr1, ho1, hf1⟩
  have hjj : JJ (R 0) w a w1.heap.size s 0 (w1.alloc (.cells #[.string s, .int .i64 (0 : Int)] /-t-/30)) := JJ.start HS.out hr1 ho1 hf1
  obtain ⟨w2, hw2⟩ : ∃ w2, w2 = w1.alloc (.cells #[.string s, .int .i64 (0 : Int)] /-t-/30) := ⟨_, rfl⟩
  obtain ⟨mb, hmb⟩ : ∃ mb, mb = w1.heap.size := ⟨_, rfl⟩
  rw [← hw2, ← hmb] at hjj
  obtain ⟨m0, m1⟩ := hjj.mod.cells
  have HJ := Lib.hid hjj
  have HW := Lib.hid (And.intro hw2 hmb)
  clear hjj hr1 ho1 hf1 hw2 hmb
  go_wp2_with fail
  rw [← HW.out.1]
  go_loopw [10] (fun i wr => i = .int .i64 0 ∧ Hid (JJ (R 0) w a mb s 0 wr)) (fun i _ => 0)
  case atStart => exact ⟨rfl, HJ.out⟩
  case round =>
    obtain ⟨rfl, HT⟩ := hrel
    go_wp2_with fail
    refine (W7.out _).mono ?_
    rintro e w7 ⟨rfl, hb7⟩
    have HB := Lib.hid (HT.out.buf.2.trans (hb7.mono HT.out.buf.2.size))
    clear hb7
    go_wp2_with fail
    go_ret
    exact ⟨rfl, HB.out⟩

set_option maxRecDepth 100000 in
set_option maxHeartbeats 4000000 in
theorem plays_big_b (S : Says R) (s : ByteArray) (q : Nat) (A : Option Addr) (n cap : Nat) (w : World) (hs : s.size ≤ 500) (hn : n ≤ 100) (h0 : (q : Int) ≤ 65536) (hc : clamp (q : Int) < s.size) (hcl : clamp (q : Int) = q) (b1 : -9223372036854775808 ≤ (q : Int)) (b2 : (q : Int) ≤ 9223372036854775807) :
    Calls Try.prog 3 #[.string s, .int .i64 (q : Int), .slice A n cap] w fun e w' => e = .returned (.bool true) ∧ Below w.heap.size w w' := by
  have W7 := Lib.hid (awake_any S)
  have C1 := Lib.hid ((S.big w s (q : Int) hc (by omega) b1 b2).mono fun e w' (h : e = .returned (.tuple #[.pointer none, .int .i64 3]) ∧ OnlyAt (fun _ => False) w w') => show e = .returned (.tuple #[.pointer none, .int .i64 3]) ∧ Below w.heap.size w w' from ⟨h.1, OnlyAt.below (Below.refl _ _) h.2 (Nat.le_refl _) (fun _ h => h.elim)⟩)
  have s5 : (s.size : Int) ≤ 500 := by omega
  have n5 : (n : Int) ≤ 100 := by omega
  have hm : ((q : Nat) : Int) < s.size := by omega
  clear S hs hn hc hcl b1 b2
  go_enter Try.func3, Try.ntmps3
  go_wp2_with fail
  refine C1.out.mono ?_
  rintro e w1 ⟨rfl, hb1⟩
  have HB1 := Lib.hid hb1
  clear hb1
  go_wp2_with fail
  refine (W7.out _).mono ?_
  rintro e w7 ⟨rfl, hb7⟩
  have HB := Lib.hid (HB1.out.trans (((Below.refl _ _).alloc (Nat.le_refl _) _).trans (hb7.mono (by simp)) |>.mono HB1.out.size))
  clear hb7
  go_wp2_with fail
  go_ret
  exact ⟨rfl, HB.out⟩

set_option maxRecDepth 100000 in
set_option maxHeartbeats 4000000 in
theorem plays_run_b (S : Says R) (s : ByteArray) (q : Nat) (b off n cap : Nat) (os : List OpD) (w : World) (hol : os.length = n) (hnc : n ≤ cap) (hos : OpsAt w b off os) (hs : s.size ≤ 500) (hn : n ≤ 100) (h0 : (q : Int) ≤ 65536) (hc : s.size ≤ q) (hcl : clamp (q : Int) = q) (b1 : -9223372036854775808 ≤ (q : Int)) (b2 : (q : Int) ≤ 9223372036854775807) :
    Calls Try.prog 3 #[.string s, .int .i64 (q : Int), .slice (some ⟨b, off, none⟩) n cap] w fun e w' => e = .returned (.bool true) ∧ Below w.heap.size w w' := by
  have W7 := Lib.hid (awake_any S)
  have C1 := Lib.hid (S.new w s (q : Int) (by omega) b1 b2)
  rw [hcl] at C1
  have s5 : (s.size : Int) ≤ 500 := by omega
  have n5 : (n : Int) ≤ 100 := by omega
  have hm : (s.size : Int) ≤ ((q : Nat) : Int) := by omega
  have HO := Lib.hid (And.intro hol hos)
  have HN := Lib.hid hn
  have HS := Lib.hid S
  clear S hs hn hc hcl b1 b2 hos hol
  go_enter Try.func3, Try.ntmps3
  go_wp2_with fail
  refine C1.out.mono ?_
  rintro e w1 ⟨a, F, p, h, rfl, hr1, ho1, hf1⟩
  have hjj : JJ (R 0) w a w1.heap.size s q (w1.alloc (.cells #[.string s, .int .i64 (q : Int)] /-t-/30)) := JJ.start HS.out hr1 ho1 hf1
  obtain ⟨w2, hw2⟩ : ∃ w2, w2 = w1.alloc (.cells #[.string s, .int .i64 (q : Int)] /-t-/30) := ⟨_, rfl⟩
  obtain ⟨mb, hmb⟩ : ∃ mb, mb = w1.heap.size := ⟨_, rfl⟩
  rw [← hw2, ← hmb] at hjj
  obtain ⟨m0, m1⟩ := hjj.mod.cells
  have HJ := Lib.hid hjj
  have HW := Lib.hid (And.intro hw2 hmb)
  clear hjj hr1 ho1 hf1 hw2 hmb
  go_wp2_with fail
  rw [← HW.out.1, ← HW.out.2]
  have hdz : decide (q < s.size) = false := decide_eq_false (by omega)
  try simp only [hdz]
  clear hdz
  go_loopw [10] (fun i wr => ∃ (j : Nat) (t : ByteArray), j ≤ n ∧ i = .int .i64 j ∧ Hid (∃ u, u ≤ 200 * j ∧ JJ (R u) w a mb t q wr)) (fun i _ => n - (RowKit.intOf i).toNat)
  case atStart => exact ⟨0, s, Nat.zero_le _, rfl, 0, Nat.zero_le _, HJ.out⟩
  case round =>
    obtain ⟨j, t, hj, rfl, HT0⟩ := hrel
    obtain ⟨u, hu0, hT0⟩ := HT0.out
    have HT := Lib.hid hT0
    have HU := Lib.hid (And.intro hu0 (And.intro hj HN.out))
    clear hu0 hT0 HT0
    have j0 : (0 : Int) ≤ j := by omega
    obtain ⟨ol, og⟩ := HO.out
    by_cases hjn : j < n
    · have jn : (j : Int) < n := by omega
      obtain ⟨o, ho⟩ : ∃ o, os[j]? = some o := ⟨_, List.getElem?_eq_getElem (by rw [ol]; exact hjn)⟩
      obtain ⟨⟨hb, k0, k1, k2, k3⟩, ⟨a1, a2⟩, ⟨a3, a4⟩, a5⟩ := og j o ho
      have hbel := HT.out.buf.2
      have l0 := (hbel.cell (p := ⟨b, _, none⟩) hb).trans k0
      have l1 := (hbel.cell (p := ⟨b, _, none⟩) hb).trans k1
      have l2 := (hbel.cell (p := ⟨b, _, none⟩) hb).trans k2
      have l3 := (hbel.cell (p := ⟨b, _, none⟩) hb).trans k3
      obtain ⟨K, P, Q, T⟩ := o
      dsimp only at l0 l1 l2 l3 a1 a2 a3 a4 a5
      clear k0 k1 k2 k3 hbel og ho hjn ol
      by_cases hT : T.size ≤ 200
      · have C9 := Lib.hid (step_any HS.out HT.out K P Q T (by have := HU.out; omega) a1 a2 a3 a4)
        have t2 : (T.size : Int) ≤ 200 := by omega
        have HT2 := Lib.hid hT
        clear hT a1 a2 a3 a4 a5
        go_wp2_with fail
        refine C9.out.mono ?_
        rintro e w3 ⟨rfl, u', hu', hj3⟩
        have HJ3 := Lib.hid (show ∃ u, u ≤ 200 * (j + 1) ∧ JJ (R u) w a mb _ _ w3 from ⟨u', by have := HU.out; have := HT2.out; omega, hj3⟩)
        clear hu' hj3
        go_wp2_with fail
        go_roundw
        case rel => exact ⟨j + 1, stepS t q K P Q T, by omega, by go_num, HJ3.out⟩
        case measure => simp [RowKit.intOf]; omega
      · have t2 : (200 : Int) < T.size := by omega
        clear hT a1 a2 a3 a4
        go_wp2_with fail
        refine (W7.out _).mono ?_
        rintro e w7 ⟨rfl, hb7⟩
        have HB := Lib.hid (HT.out.buf.2.trans (hb7.mono HT.out.buf.2.size))
        clear hb7
        go_wp2_with fail
        go_ret
        exact ⟨rfl, HB.out⟩
    · obtain rfl : j = n := by omega
      clear og ol hjn hj
      go_wp2_with fail
      refine (W7.out _).mono ?_
      rintro e w7 ⟨rfl, hb7⟩
      have HB := Lib.hid (HT.out.buf.2.trans (hb7.mono HT.out.buf.2.size))
      clear hb7
      go_wp2_with fail
      go_ret
      exact ⟨rfl, HB.out⟩

set_option maxRecDepth 100000 in
set_option maxHeartbeats 4000000 in
theorem plays_none_b (S : Says R) (s : ByteArray) (q : Nat) (A : Option Addr) (cap : Nat) (w : World) (hs : s.size ≤ 500) (h0 : (q : Int) ≤ 65536) (hc : s.size ≤ q) (hcl : clamp (q : Int) = q) (b1 : -9223372036854775808 ≤ (q : Int)) (b2 : (q : Int) ≤ 9223372036854775807) :
    Calls Try.prog 3 #[.string s, .int .i64 (q : Int), .slice A 0 cap] w fun e w' => e = .returned (.bool true) ∧ Below w.heap.size w w' := by
  have W7 := Lib.hid (awake_any S)
  have C1 := Lib.hid (S.new w s (q : Int) (by omega) b1 b2)
  rw [hcl] at C1
  have s5 : (s.size : Int) ≤ 500 := by omega
  have hm : (s.size : Int) ≤ ((q : Nat) : Int) := by omega
  have HS := Lib.hid S
  clear S hs hc hcl b1 b2
  go_enter Try.func3, Try.ntmps3
  go_wp2_with fail
  refine C1.out.mono ?_
  rintro e w1 ⟨a, F, p, h, rfl, hr1, ho1, hf1⟩
  have hjj : JJ (R 0) w a w1.heap.size s q (w1.alloc (.cells #[.string s, .int .i64 (q : Int)] /-t-/30)) := JJ.start HS.out hr1 ho1 hf1
  obtain ⟨w2, hw2⟩ : ∃ w2, w2 = w1.alloc (.cells #[.string s, .int .i64 (q : Int)] /-t-/30) := ⟨_, rfl⟩
  obtain ⟨mb, hmb⟩ : ∃ mb, mb = w1.heap.size := ⟨_, rfl⟩
  rw [← hw2, ← hmb] at hjj
  obtain ⟨m0, m1⟩ := hjj.mod.cells
  have HJ := Lib.hid hjj
  have HW := Lib.hid (And.intro hw2 hmb)
  clear hjj hr1 ho1 hf1 hw2 hmb
  go_wp2_with fail
  rw [← HW.out.1]
  go_loopw [10] (fun i wr => i = .int .i64 0 ∧ Hid (JJ (R 0) w a mb s q wr)) (fun i _ => 0)
  case atStart => exact ⟨rfl, HJ.out⟩
  case round =>
    obtain ⟨rfl, HT⟩ := hrel
    go_wp2_with fail
    refine (W7.out _).mono ?_
    rintro e w7 ⟨rfl, hb7⟩
    have HB := Lib.hid (HT.out.buf.2.trans (hb7.mono HT.out.buf.2.size))
    clear hb7
    go_wp2_with fail
    go_ret
    exact ⟨rfl, HB.out⟩

set_option maxRecDepth 100000 in
set_option maxHeartbeats 4000000 in
theorem plays_run_c (S : Says R) (s : ByteArray) (most : Int) (b off n cap : Nat) (os : List OpD) (w : World) (hol : os.length = n) (hnc : n ≤ cap) (hos : OpsAt w b off os) (hs : s.size ≤ 500) (hn : n ≤ 100) (h0 : 65536 < most) (_hc : s.size ≤ 65536) (hcl : clamp most = 65536) (b1 : -9223372036854775808 ≤ most) (b2 : most ≤ 9223372036854775807) :
    Calls Try.prog 3 #[.string s, .int .i64 most, .slice (some ⟨b, off, none⟩) n cap] w fun e w' => e = .returned (.bool true) ∧ Below w.heap.size w w' := by
  have W7 := Lib.hid (awake_any S)
  have C1 := Lib.hid (S.new w s most (by omega) b1 b2)
  rw [hcl] at C1
  have s5 : (s.size : Int) ≤ 500 := by omega
  have n5 : (n : Int) ≤ 100 := by omega
  have hm : (s.size : Int) ≤ ((65536 : Nat) : Int) := by omega
  have HO := Lib.hid (And.intro hol hos)
  have HN := Lib.hid hn
  have HS := Lib.hid S
  clear S hs hn _hc hcl b1 b2 hos hol
  go_enter Try.func3, Try.ntmps3
  go_wp2_with fail
  refine C1.out.mono ?_
  rintro e w1 ⟨a, F, p, h, rfl, hr1, ho1, hf1⟩
  have hjj : JJ (R 0) w a w1.heap.size s 65536 (w1.alloc (.cells #[.string s, .int .i64 (65536 : Int)] /-t-/30)) := JJ.start HS.out hr1 ho1 hf1
  obtain ⟨w2, hw2⟩ : ∃ w2, w2 = w1.alloc (.cells #[.string s, .int .i64 (65536 : Int)] /-t-/30) := ⟨_, rfl⟩
  obtain ⟨mb, hmb⟩ : ∃ mb, mb = w1.heap.size := ⟨_, rfl⟩
  rw [← hw2, ← hmb] at hjj
  obtain ⟨m0, m1⟩ := hjj.mod.cells
  have HJ := Lib.hid hjj
  have HW := Lib.hid (And.intro hw2 hmb)
  clear hjj hr1 ho1 hf1 hw2 hmb
  go_wp2_with fail
  rw [← HW.out.1, ← HW.out.2]
  have hdz : decide (65536 < s.size) = false := decide_eq_false (by omega)
  try simp only [hdz]
  clear hdz
  go_loopw [10] (fun i wr => ∃ (j : Nat) (t : ByteArray), j ≤ n ∧ i = .int .i64 j ∧ Hid (∃ u, u ≤ 200 * j ∧ JJ (R u) w a mb t 65536 wr)) (fun i _ => n - (RowKit.intOf i).toNat)
  case atStart => exact ⟨0, s, Nat.zero_le _, rfl, 0, Nat.zero_le _, HJ.out⟩
  case round =>
    obtain ⟨j, t, hj, rfl, HT0⟩ := hrel
    obtain ⟨u, hu0, hT0⟩ := HT0.out
    have HT := Lib.hid hT0
    have HU := Lib.hid (And.intro hu0 (And.intro hj HN.out))
    clear hu0 hT0 HT0
    have j0 : (0 : Int) ≤ j := by omega
    obtain ⟨ol, og⟩ := HO.out
    by_cases hjn : j < n
    · have jn : (j : Int) < n := by omega
      obtain ⟨o, ho⟩ : ∃ o, os[j]? = some o := ⟨_, List.getElem?_eq_getElem (by rw [ol]; exact hjn)⟩
      obtain ⟨⟨hb, k0, k1, k2, k3⟩, ⟨a1, a2⟩, ⟨a3, a4⟩, a5⟩ := og j o ho
      have hbel := HT.out.buf.2
      have l0 := (hbel.cell (p := ⟨b, _, none⟩) hb).trans k0
      have l1 := (hbel.cell (p := ⟨b, _, none⟩) hb).trans k1
      have l2 := (hbel.cell (p := ⟨b, _, none⟩) hb).trans k2
      have l3 := (hbel.cell (p := ⟨b, _, none⟩) hb).trans k3
      obtain ⟨K, P, Q, T⟩ := o
      dsimp only at l0 l1 l2 l3 a1 a2 a3 a4 a5
      clear k0 k1 k2 k3 hbel og ho hjn ol
      by_cases hT : T.size ≤ 200
      · have C9 := Lib.hid (step_any HS.out HT.out K P Q T (by have := HU.out; omega) a1 a2 a3 a4)
        have t2 : (T.size : Int) ≤ 200 := by omega
        have HT2 := Lib.hid hT
        clear hT a1 a2 a3 a4 a5
        go_wp2_with fail
        refine C9.out.mono ?_
        rintro e w3 ⟨rfl, u', hu', hj3⟩
        have HJ3 := Lib.hid (show ∃ u, u ≤ 200 * (j + 1) ∧ JJ (R u) w a mb _ _ w3 from ⟨u', by have := HU.out; have := HT2.out; omega, hj3⟩)
        clear hu' hj3
        go_wp2_with fail
        go_roundw
        case rel => exact ⟨j + 1, stepS t 65536 K P Q T, by omega, by go_num, HJ3.out⟩
        case measure => simp [RowKit.intOf]; omega
      · have t2 : (200 : Int) < T.size := by omega
        clear hT a1 a2 a3 a4
        go_wp2_with fail
        refine (W7.out _).mono ?_
        rintro e w7 ⟨rfl, hb7⟩
        have HB := Lib.hid (HT.out.buf.2.trans (hb7.mono HT.out.buf.2.size))
        clear hb7
        go_wp2_with fail
        go_ret
        exact ⟨rfl, HB.out⟩
    · obtain rfl : j = n := by omega
      clear og ol hjn hj
      go_wp2_with fail
      refine (W7.out _).mono ?_
      rintro e w7 ⟨rfl, hb7⟩
      have HB := Lib.hid (HT.out.buf.2.trans (hb7.mono HT.out.buf.2.size))
      clear hb7
      go_wp2_with fail
      go_ret
      exact ⟨rfl, HB.out⟩

set_option maxRecDepth 100000 in
set_option maxHeartbeats 4000000 in
theorem plays_none_c (S : Says R) (s : ByteArray) (most : Int) (A : Option Addr) (cap : Nat) (w : World) (hs : s.size ≤ 500) (h0 : 65536 < most) (_hc : s.size ≤ 65536) (hcl : clamp most = 65536) (b1 : -9223372036854775808 ≤ most) (b2 : most ≤ 9223372036854775807) :
    Calls Try.prog 3 #[.string s, .int .i64 most, .slice A 0 cap] w fun e w' => e = .returned (.bool true) ∧ Below w.heap.size w w' := by
  have W7 := Lib.hid (awake_any S)
  have C1 := Lib.hid (S.new w s most (by omega) b1 b2)
  rw [hcl] at C1
  have s5 : (s.size : Int) ≤ 500 := by omega
  have hm : (s.size : Int) ≤ ((65536 : Nat) : Int) := by omega
  have HS := Lib.hid S
  clear S hs _hc hcl b1 b2
  go_enter Try.func3, Try.ntmps3
  go_wp2_with fail
  refine C1.out.mono ?_
  rintro e w1 ⟨a, F, p, h, rfl, hr1, ho1, hf1⟩
  have hjj : JJ (R 0) w a w1.heap.size s 65536 (w1.alloc (.cells #[.string s, .int .i64 (65536 : Int)] /-t-/30)) := JJ.start HS.out hr1 ho1 hf1
  obtain ⟨w2, hw2⟩ : ∃ w2, w2 = w1.alloc (.cells #[.string s, .int .i64 (65536 : Int)] /-t-/30) := ⟨_, rfl⟩
  obtain ⟨mb, hmb⟩ : ∃ mb, mb = w1.heap.size := ⟨_, rfl⟩
  rw [← hw2, ← hmb] at hjj
  obtain ⟨m0, m1⟩ := hjj.mod.cells
  have HJ := Lib.hid hjj
  have HW := Lib.hid (And.intro hw2 hmb)
  clear hjj hr1 ho1 hf1 hw2 hmb
  go_wp2_with fail
  rw [← HW.out.1]
  go_loopw [10] (fun i wr => i = .int .i64 0 ∧ Hid (JJ (R 0) w a mb s 65536 wr)) (fun i _ => 0)
  case atStart => exact ⟨rfl, HJ.out⟩
  case round =>
    obtain ⟨rfl, HT⟩ := hrel
    go_wp2_with fail
    refine (W7.out _).mono ?_
    rintro e w7 ⟨rfl, hb7⟩
    have HB := Lib.hid (HT.out.buf.2.trans (hb7.mono HT.out.buf.2.size))
    clear hb7
    go_wp2_with fail
    go_ret
    exact ⟨rfl, HB.out⟩

theorem plays_law (S : Says R) (s : ByteArray) (most : Int) (A : Option Addr) (n cap : Nat) (os : List OpD) (w : World) (hos : Ops w A n cap os) (b1 : -9223372036854775808 ≤ most) (b2 : most ≤ 9223372036854775807) :
    Calls Try.prog 3 #[.string s, .int .i64 most, .slice A n cap] w fun e w' => e = .returned (.bool true) ∧ Below w.heap.size w w' := by
  by_cases h : 500 < s.size ∨ 100 < n
  · exact plays_out S s most A n cap w h
  · have hs : s.size ≤ 500 := by omega
    have hn : n ≤ 100 := by omega
    by_cases h0 : most < 0
    · have hcl : clamp most = 0 := by unfold clamp; omega
      by_cases hc : s.size ≤ 0
      · rcases hos with ⟨ol, oc, om, rfl | ⟨b, off, rfl, og⟩⟩
        · exact plays_none_a S s most A cap w hs h0 hc hcl b1 b2
        · exact plays_run_a S s most b off n cap os w ol oc og hs hn h0 hc hcl b1 b2
      · exact plays_big_a S s most A n cap w hs hn h0 (by omega) hcl b1 b2
    · by_cases h1 : most ≤ 65536
      · obtain ⟨q, rfl⟩ : ∃ q : Nat, most = q := ⟨most.toNat, by omega⟩
        have hcl : clamp (q : Int) = q := clamp_le (by omega)
        by_cases hc : s.size ≤ q
        · rcases hos with ⟨ol, oc, om, rfl | ⟨b, off, rfl, og⟩⟩
          · exact plays_none_b S s q A cap w hs h1 hc hcl b1 b2
          · exact plays_run_b S s q b off n cap os w ol oc og hs hn h1 hc hcl b1 b2
        · exact plays_big_b S s q A n cap w hs hn h1 (by omega) hcl b1 b2
      · have hcl : clamp most = 65536 := by unfold clamp; omega
        rcases hos with ⟨ol, oc, om, rfl | ⟨b, off, rfl, og⟩⟩
        · exact plays_none_c S s most A cap w hs (by omega) (by omega) hcl b1 b2
        · exact plays_run_c S s most b off n cap os w ol oc og hs hn (by omega) (by omega) hcl b1 b2
end Go.Proofs.Ytjpomfjcofjanaa
