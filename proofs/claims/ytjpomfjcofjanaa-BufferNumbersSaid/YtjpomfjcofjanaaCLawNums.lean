/- BufferNumbers out of what is asked of a buffer's calls. -/
import Derived.Test.YtjpomfjcofjanaaCLawPlays
import Derived.Test.YtjpomfjcofjanaaSTexts
import Derived.Deep.RegionWith
namespace Go.Proofs.Ytjpomfjcofjanaa
open Go Go.RowKit
variable {R : Nat → (Nat → Prop) → World → Addr → ByteArray → Nat → Nat → Nat → Prop}

set_option maxRecDepth 100000 in
set_option maxHeartbeats 4000000 in
theorem nums_out (S : Says R) (A0 A : Option Addr) (n0 cap0 n cap : Nat) (w : World) (h : 120 < n) :
    Calls Try.prog 4 #[.slice A0 n0 cap0, .slice A n cap] w fun e w' => e = .returned (.bool true) ∧ Below w.heap.size w w' := by
  have W7 := Lib.hid (awake_any S)
  have h1 : (120 : Int) < n := by omega
  clear S h
  go_enter Try.func4, Try.ntmps4
  go_wp2_with fail
  refine (W7.out _).mono ?_
  rintro e w7 ⟨rfl, hb7⟩
  have HB := Lib.hid hb7
  clear hb7
  go_wp2_with fail
  go_ret
  exact ⟨rfl, HB.out⟩

theorem JJ.begin (_S0 : Says R) {w w0 w1 : World} {a : Addr} {s : ByteArray} {m p h : Nat} {F : Nat → Prop} (hb : Below w.heap.size w w0) (h1 : R 0 F w1 a s m p h) (h2 : OnlyAt (fun _ => False) (w0.alloc (.cells #[.string s, .int .i64 m] /-t-/30)) w1) (h3 : ∀ k, F k → w0.heap.size < k) :
    JJ (R 0) w a w0.heap.size s m w1 := by
  have ho : OnlyAt (fun _ => False) w0 (w0.alloc (.cells #[.string s, .int .i64 m] /-t-/30)) := OnlyAt.alloc _ _ _
  have hsz : (w0.alloc (.cells #[.string s, .int .i64 m] /-t-/30)).heap.size = w0.heap.size + 1 := World.size_alloc _ _
  refine ⟨⟨⟨F, p, h, h1, trivial, fun k hk => ⟨by have := h3 k hk; have := hb.size; omega, fun e => by have := h3 k hk; omega⟩⟩, OnlyAt.below hb (ho.trans h2) hb.size (fun _ e => e.elim)⟩, ?_, hb.size⟩
  exact (h2.block w0.heap.size (by omega) id).trans (World.alloc_heap_new w0 _)

theorem JJ.on {u : Nat} (S0 : Says R) {w : World} {a : Addr} {mb : Nat} {s : ByteArray} {m : Nat} {wr w' : World} (h : JJ (R u) w a mb s m wr) (hb : Below wr.heap.size wr w') : JJ (R u) w a mb s m w' := by
  obtain ⟨⟨F, p, hh, hr, hp, hF⟩, hb0⟩ := h.buf
  have hk : ∀ T : Nat → Prop, KeepsAt T wr w' := fun T => ⟨hb.size, fun k hk _ => hb.block k hk⟩
  exact ⟨⟨⟨F, p, hh, S0.frame F wr w' a _ _ p hh hr (hk _), hp, hF⟩, hb0.trans (hb.mono hb0.size)⟩, h.mod.keep (hk (fun _ => True)) trivial, h.low⟩
theorem J.on {u : Nat} (S0 : Says R) {w : World} {a : Addr} {mb ob : Nat} {K A B : Int} {S s1 s2 : ByteArray} {m : Nat} {P : Nat → Nat → Prop} {wr w' : World} (h : J (R u) w a mb ob K A B S s1 s2 m P wr) (hb : Below wr.heap.size wr w') : J (R u) w a mb ob K A B S s1 s2 m P w' := by
  obtain ⟨⟨F, p, hh, hr, hp, hF⟩, hb0⟩ := h.buf
  have hk : ∀ T : Nat → Prop, KeepsAt T wr w' := fun T => ⟨hb.size, fun k hk _ => hb.block k hk⟩
  exact ⟨⟨⟨F, p, hh, S0.frame F wr w' a _ _ p hh hr (hk _), hp, hF⟩, hb0.trans (hb.mono hb0.size)⟩, h.mod.keep (hk (fun _ => True)) trivial, (hb.block ob (h.lt ob (.inr rfl))).trans h.box, h.ne, h.low⟩
theorem J.put {u : Nat} (S0 : Says R) {w : World} {a : Addr} {mb ob : Nat} {K A B K' A' B' : Int} {S S' s1 s2 : ByteArray} {m : Nat} {P : Nat → Nat → Prop} {wr w' : World} (h : J (R u) w a mb ob K A B S s1 s2 m P wr) (ho : OnlyAt (fun z => z = ob) wr w') (hb : w'.heap[ob]? = some (.cells #[.int .i64 K', .int .i64 A', .int .i64 B', .string S'] /-t-/32 (0, 0))) : J (R u) w a mb ob K' A' B' S' s1 s2 m P w' := by
  obtain ⟨⟨F, p, hh, hr, hp, hF⟩, hb0⟩ := h.buf
  refine ⟨⟨⟨F, p, hh, S0.frame F wr w' a _ _ p hh hr (KeepsAt.of_only ho (fun k hk e => (hF k hk).2 (.inr e))), hp, hF⟩, OnlyAt.below hb0 ho hb0.size (fun k e => by have := h.low.2; omega)⟩, (ho.block mb h.mod.lt (fun e => h.ne e)).trans h.mod, hb, h.ne, h.low⟩

theorem J.four {u : Nat} (S0 : Says R) {w : World} {a : Addr} {mb ob : Nat} {K A B K' A' B' : Int} {S S' s1 s2 : ByteArray} {m : Nat} {P : Nat → Nat → Prop} {wr : World} (h : J (R u) w a mb ob K A B S s1 s2 m P wr) :
    J (R u) w a mb ob K' A' B' S' s1 s2 m P ((((wr.setCell ⟨ob, 0, none⟩ (.int .i64 K')).setCell ⟨ob, 1, none⟩ (.int .i64 A')).setCell ⟨ob, 2, none⟩ (.int .i64 B')).setCell ⟨ob, 3, none⟩ (.string S')) := by
  have hset : ∀ (u : World) (o : Nat) (v : Value) (cs : Array Value), u.heap[ob]? = some (.cells cs /-t-/32 (0, 0)) → (u.setCell ⟨ob, o, none⟩ v).heap[ob]? = some (.cells (cs.setIfInBounds o v) /-t-/32 (0, 0)) := fun u o v cs h => by
    simp [World.setCell, Array.getElem?_modify, h]
  exact h.put S0 (((only1 _ ⟨ob, 0, none⟩ _).trans (only1 _ ⟨ob, 1, none⟩ _)).trans ((only1 _ ⟨ob, 2, none⟩ _).trans (only1 _ ⟨ob, 3, none⟩ _))) (hset _ _ _ _ (hset _ _ _ _ (hset _ _ _ _ (hset _ _ _ _ h.box))))
theorem J.third {u : Nat} (S0 : Says R) {w : World} {a : Addr} {mb ob : Nat} {K A B B' : Int} {S s1 s2 : ByteArray} {m : Nat} {P : Nat → Nat → Prop} {wr : World} (h : J (R u) w a mb ob K A B S s1 s2 m P wr) :
    J (R u) w a mb ob K A B' S s1 s2 m P (wr.setCell ⟨ob, 2, none⟩ (.int .i64 B')) := by
  have hset : ∀ (u : World) (o : Nat) (v : Value) (cs : Array Value), u.heap[ob]? = some (.cells cs /-t-/32 (0, 0)) → (u.setCell ⟨ob, o, none⟩ v).heap[ob]? = some (.cells (cs.setIfInBounds o v) /-t-/32 (0, 0)) := fun u o v cs h => by
    simp [World.setCell, Array.getElem?_modify, h]
  exact h.put S0 (only1 _ ⟨ob, 2, none⟩ _) (hset _ _ _ _ h.box)

/-- A slice of numbers. -/
def NumsAt (W : World) (b off : Nat) (zs : List Int) : Prop := ∀ (i : Nat) (z : Int), zs[i]? = some z → b < W.heap.size ∧ W.cell? ⟨b, off + i, none⟩ = some (.int .i64 z)

set_option maxRecDepth 100000 in
set_option maxHeartbeats 4000000 in
theorem nums_some (S : Says R) (A0 : Option Addr) (n0 cap0 b off n cap : Nat) (zs : List Int) (w : World) (hT : ∀ wx, Below w.heap.size w wx → Calls Try.prog 10 #[.slice A0 n0 cap0] wx (Short 1000 wx)) (hl : zs.length = n) (hnc : n ≤ cap) (hzs : NumsAt w b off zs) (hn : n ≤ 120) :
    Calls Try.prog 4 #[.slice A0 n0 cap0, .slice (some ⟨b, off, none⟩) n cap] w fun e w' => e = .returned (.bool true) ∧ Below w.heap.size w w' := by
  have W7 := Lib.hid (awake_any S)
  have CT := Lib.hid (hT w (Below.refl _ _))
  have hcl : clamp 3000 = 3000 := by decide
  have C1 := Lib.hid (fun wx (s : ByteArray) (hs : s.size ≤ 1000) => S.new wx s 3000 (by rw [hcl]; omega) (by omega) (by omega))
  rw [hcl] at C1
  have n5 : (n : Int) ≤ 120 := by omega
  have HO := Lib.hid (And.intro hl hzs)
  have HN := Lib.hid hn
  have HS := Lib.hid S
  clear S hn hT hcl hl hzs
  go_enter Try.func4, Try.ntmps4
  go_wp2_with fail
  refine CT.out.mono ?_
  rintro e w0 ⟨s, rfl, hs, hb0⟩
  have H0 := Lib.hid (And.intro hs hb0)
  clear hs hb0
  go_wp2_with fail
  refine (C1.out _ _ H0.out.1).mono ?_
  rintro e w1 ⟨a, F, p, h, rfl, hr1, ho1, hf1⟩
  have hjj : JJ (R 0) w a w0.heap.size s 3000 w1 := JJ.begin HS.out H0.out.2 hr1 ho1 (fun k hk => by have := hf1 k hk; rw [World.size_alloc] at this; omega)
  obtain ⟨mb, hmb⟩ : ∃ mb, mb = w0.heap.size := ⟨_, rfl⟩
  rw [← hmb] at hjj
  have HJ := Lib.hid hjj
  have HW := Lib.hid hmb
  clear hjj hr1 ho1 hf1 hmb
  go_wp2_with fail
  rw [← HW.out]
  have hdz : decide ((120 : Int) < n) = false := decide_eq_false (by omega)
  try simp only [hdz]
  clear hdz
  go_loopw [8] (fun i wr => ∃ (j : Nat) (t : ByteArray), j ≤ n ∧ i = .int .i64 j ∧ Hid (∃ u, u ≤ 13 * j ∧ JJ (R u) w a mb t 3000 wr)) (fun i _ => n - (RowKit.intOf i).toNat)
  case atStart => exact ⟨0, s, Nat.zero_le _, rfl, 0, Nat.zero_le _, HJ.out⟩
  case round =>
    obtain ⟨j, t, hj, rfl, HT0⟩ := hrel
    obtain ⟨u, hu0, hT0⟩ := HT0.out
    have HT := Lib.hid hT0
    have HU := Lib.hid (And.intro hu0 (And.intro hj HN.out))
    clear hu0 hT0 HT0
    have j0 : (0 : Int) ≤ j := by omega
    obtain ⟨ol, og⟩ := HO.out
    by_cases hjn : j < n
    · have jn : (j : Int) < n := by omega
      obtain ⟨z, hz⟩ : ∃ z, zs[j]? = some z := ⟨_, List.getElem?_eq_getElem (by rw [ol]; exact hjn)⟩
      obtain ⟨hb, k0⟩ := og j z hz
      have l0 := (HT.out.buf.2.cell (p := ⟨b, _, none⟩) hb).trans k0
      obtain ⟨m0, m1⟩ := HT.out.mod.cells
      obtain ⟨i1, i2⟩ : t.size ≤ 3000 ∧ True := by
        obtain ⟨⟨F, p, hh, hr, hp, hF⟩, hb⟩ := HT.out.buf
        exact ⟨(HS.out.inv F wr a _ _ p hh hr).1, trivial⟩
      obtain ⟨k, hk⟩ : ∃ k : Int, z % 1073741824 = k := ⟨_, rfl⟩
      have q0 : 0 ≤ k := by omega
      have q1 : k < 1073741824 := by omega
      have c11 : ∀ wx, Calls Try.prog 11 #[.int .i64 z, .int .i64 1073741824] wx fun e w' => e = .returned (.int .i64 k) ∧ wx = w' := fun wx => by
        rw [← hk]; exact place_any z 1073741824 wx (by omega) (by omega)
      have C11 := Lib.hid c11
      clear c11 hz k0 hk og ol hb
      go_wp2_with fail
      refine (C11.out _).mono ?_
      rintro e wq ⟨rfl, rfl⟩
      go_wp2_with fail
      obtain ⟨K, eK⟩ : ∃ K : Int, k.tmod 7 = K := ⟨_, rfl⟩
      obtain ⟨P7, e7⟩ : ∃ P7 : Int, k.tdiv 7 = P7 := ⟨_, rfl⟩
      obtain ⟨X, eX⟩ : ∃ X : Int, k.tdiv 700 = X := ⟨_, rfl⟩
      obtain ⟨Y, eY⟩ : ∃ Y : Int, k.tdiv 7000 = Y := ⟨_, rfl⟩
      have bK : 0 ≤ K ∧ K < 7 := by rw [Int.tmod_eq_emod_of_nonneg q0] at eK; omega
      have b7 : 0 ≤ P7 ∧ P7 < 1073741824 := by rw [Int.tdiv_eq_ediv_of_nonneg q0] at e7; omega
      have bX : 0 ≤ X ∧ X < 1073741824 := by rw [Int.tdiv_eq_ediv_of_nonneg q0] at eX; omega
      have bY : 0 ≤ Y ∧ Y < 1073741824 := by rw [Int.tdiv_eq_ediv_of_nonneg q0] at eY; omega
      obtain ⟨N, hN⟩ : ∃ N : Int, (t.size : Int) = N := ⟨_, rfl⟩
      have bN : 0 ≤ N ∧ N ≤ 3000 := by omega
      obtain ⟨A, eA⟩ : ∃ A : Int, P7.tmod (N + 1) = A := ⟨_, rfl⟩
      have bA : 0 ≤ A ∧ A ≤ N := by
        rw [Int.tmod_eq_emod_of_nonneg b7.1] at eA
        have := Int.emod_nonneg P7 (show N + 1 ≠ 0 by omega)
        have := Int.emod_lt_of_pos P7 (show 0 < N + 1 by omega)
        omega
      have wf1 : IntKind.i64.wrap K = K := IntWalk.i64_in _ (by omega)
      have wf2 : IntKind.i64.wrap P7 = P7 := IntWalk.i64_in _ (by omega)
      have wf3 : IntKind.i64.wrap X = X := IntWalk.i64_in _ (by omega)
      have wf4 : IntKind.i64.wrap (N + 1) = N + 1 := IntWalk.i64_in _ (by omega)
      have wf5 : IntKind.i64.wrap A = A := IntWalk.i64_in _ (by omega)
      have nz : ¬ (N + 1 = 0) := by omega
      have HJr := Lib.hid (HT.out.drew HS.out)
      have CPA := Lib.hid (show ∀ x, Calls Try.prog 12 #[.int .i64 x] wr.drew fun e w' => ∃ S : ByteArray, e = .returned (.string S) ∧ S.size ≤ 13 ∧ (w'.cell? ⟨mb, 0, none⟩ = some (.string t) ∧ (w'.alloc (.cells #[.int .i64 0, .int .i64 0, .int .i64 0, .string ⟨#[]⟩] /-t-/32)).cell? ⟨mb, 0, none⟩ = some (.string t)) ∧ Hid (JJ (R u) w a mb t 3000 w') from fun x => by
        refine (piece_any x wr.drew).mono ?_
        rintro e w' ⟨S, he, hs, hb⟩
        have h1 := JJ.on HS.out HJr.out hb
        exact ⟨S, he, hs, ⟨h1.mod.cells.1, (h1.box HS.out 0 0 0 ⟨#[]⟩).cells.2.2.2.2⟩, Lib.hid h1⟩)
      have HJb := Lib.hid ((HT.out.box HS.out 0 0 0 ⟨#[]⟩).drew HS.out)
      have CPB := Lib.hid (show ∀ x, Calls Try.prog 12 #[.int .i64 x] (wr.alloc (.cells #[.int .i64 0, .int .i64 0, .int .i64 0, .string ⟨#[]⟩] /-t-/32)).drew fun e w' => ∃ S : ByteArray, e = .returned (.string S) ∧ S.size ≤ 13 ∧ (w'.cell? ⟨mb, 0, none⟩ = some (.string t) ∧ w'.cell? ⟨wr.heap.size, 0, none⟩ = some (.int .i64 0) ∧ w'.cell? ⟨wr.heap.size, 1, none⟩ = some (.int .i64 0) ∧ w'.cell? ⟨wr.heap.size, 2, none⟩ = some (.int .i64 0) ∧ w'.cell? ⟨wr.heap.size, 3, none⟩ = some (.string ⟨#[]⟩) ∧ ∀ o, w'.frozen? ⟨wr.heap.size, o, none⟩ = false) ∧ Hid (J (R u) w a mb wr.heap.size 0 0 0 ⟨#[]⟩ t t 3000 AnyP w') from fun x => by
        refine (piece_any x _).mono ?_
        rintro e w' ⟨S, he, hs, hb⟩
        have h1 := J.on HS.out HJb.out hb
        obtain ⟨z0, z1, z2, z3, z4⟩ := h1.cells
        have hbx := h1.box
        exact ⟨S, he, hs, ⟨z4, z0, z1, z2, z3, fun o => by simp [World.frozen?, hbx]⟩, Lib.hid h1⟩)
      have m0b : (wr.alloc (.cells #[.int .i64 0, .int .i64 0, .int .i64 0, .string ⟨#[]⟩] /-t-/32)).drew.cell? ⟨mb, 0, none⟩ = some (.string t) := HJb.out.cells.2.2.2.2
      have m0c : (wr.alloc (.cells #[.int .i64 0, .int .i64 0, .int .i64 0, .string ⟨#[]⟩] /-t-/32)).cell? ⟨mb, 0, none⟩ = some (.string t) := HJb.out.cells.2.2.2.2
      have HXX := Lib.hid (And.intro bK (And.intro bA (And.intro bN (And.intro bY eY))))
      clear bK b7 bX bY bA bN i1 i2
      have m0d : wr.drew.cell? ⟨mb, 0, none⟩ = some (.string t) := m0
      go_region_with ((go_at_call 12; first | ((with_reducible refine (CPA.out X).mono ?_); rintro e w5 ⟨S, rfl, hS, ⟨mS, mS2⟩, HJS⟩) | ((with_reducible refine (CPB.out X).mono ?_); rintro e w5 ⟨S, rfl, hS, ⟨mS, z0, z1, z2, z3, zf⟩, HJS⟩)))
      all_goals
        first
          | (obtain ⟨ob, hob⟩ : ∃ ob, ob = w5.heap.size := ⟨_, rfl⟩
             obtain ⟨wy, hwy⟩ : ∃ wy, wy = w5.alloc (.cells #[.int .i64 K, .int .i64 A, .int .i64 0, .string S] /-t-/32) := ⟨_, rfl⟩
             rw [← hwy, ← hob]
             have hj : J (R u) w a mb ob K A 0 S t t 3000 AnyP wy := by rw [hob, hwy]; exact HJS.out.box HS.out K A 0 S
             clear mS mS2)
          | (obtain ⟨ob, hob⟩ : ∃ ob, ob = wr.heap.size := ⟨_, rfl⟩
             obtain ⟨wy, hwy⟩ : ∃ wy, wy = ((((w5.setCell ⟨wr.heap.size, 0, none⟩ (.int .i64 K)).setCell ⟨wr.heap.size, 1, none⟩ (.int .i64 A)).setCell ⟨wr.heap.size, 2, none⟩ (.int .i64 0)).setCell ⟨wr.heap.size, 3, none⟩ (.string S)) := ⟨_, rfl⟩
             rw [← hwy, ← hob]
             have hj : J (R u) w a mb ob K A 0 S t t 3000 AnyP wy := by rw [hob, hwy]; exact J.four HS.out HJS.out
             clear mS z0 z1 z2 z3 zf)
        clear hob hwy HJS
        obtain ⟨c0, c1, c2, c3, c4⟩ := hj.cells
        have cf : ∀ o, wy.frozen? ⟨ob, o, none⟩ = false := fun o => by have := hj.box; simp [World.frozen?, this]
        obtain ⟨bK, bA, bN, bY, eY⟩ := HXX.out
        obtain ⟨B0, eB0⟩ : ∃ B0 : Int, Y.tmod (N - A + 1) = B0 := ⟨_, rfl⟩
        have bB0 : 0 ≤ B0 := by
          rw [Int.tmod_eq_emod_of_nonneg bY.1] at eB0
          have := Int.emod_nonneg Y (show N - A + 1 ≠ 0 by omega)
          omega
        have bB1 : B0 ≤ 3001 := by
          rw [Int.tmod_eq_emod_of_nonneg bY.1] at eB0
          have := Int.emod_lt_of_pos Y (show 0 < N - A + 1 by omega)
          omega
        obtain ⟨B, eB⟩ : ∃ B : Int, B0.tmod 40 = B := ⟨_, rfl⟩
        have bB : 0 ≤ B ∧ B < 40 := by rw [Int.tmod_eq_emod_of_nonneg bB0] at eB; omega
        have v1 : IntKind.i64.wrap Y = Y := IntWalk.i64_in _ (by omega)
        have v2 : IntKind.i64.wrap (N - A) = N - A := IntWalk.i64_in _ (by omega)
        have v3 : IntKind.i64.wrap (N - A + 1) = N - A + 1 := IntWalk.i64_in _ (by omega)
        have v4 : IntKind.i64.wrap B0 = B0 := IntWalk.i64_in _ (by omega)
        have v5 : IntKind.i64.wrap B = B := IntWalk.i64_in _ (by omega)
        have nz2 : ¬ (N - A + 1 = 0) := by omega
        have HJy := Lib.hid hj
        have HB := Lib.hid (And.intro bA (And.intro bN (And.intro bB hS)))
        clear hj bK bA bN bY bB bB0 bB1 wf1 wf2 wf3 wf4 wf5 eK e7 eX eA hS
        go_wp2_with fail
        go_region
        obtain ⟨wz, hwz⟩ : ∃ wz, wz = (wy.setCell ⟨ob, 2, none⟩ (.int .i64 B)).drew := ⟨_, rfl⟩
        rw [← hwz]
        have hjz : J (R u) w a mb ob K A B S t t 3000 AnyP wz := by rw [hwz]; exact (J.third HS.out HJy.out).drew HS.out
        obtain ⟨d0, d1, d2, d3, -⟩ := hjz.cells
        have C9 := Lib.hid (step_any HS.out hjz.unbox K A B S (by have := HU.out; have := HB.out; omega) (by have := HB.out; omega) (by have := HB.out; omega) (by have := HB.out; omega) (by have := HB.out; omega))
        clear hwz hjz c0 c1 c2 c3 c4 cf eB eB0 v1 v2 v3 v4 v5 nz nz2 eY
        go_wp2_with fail
        refine C9.out.mono ?_
        rintro e w3 ⟨rfl, u', hu', hj3⟩
        have HJ3 := Lib.hid (show ∃ u, u ≤ 13 * (j + 1) ∧ JJ (R u) w a mb _ _ w3 from ⟨u', by have := HU.out; have := HB.out; omega, hj3⟩)
        clear hu' hj3
        go_wp2_with fail
        go_roundw
        case rel => exact ⟨j + 1, stepS t 3000 K A B S, by omega, by go_num, HJ3.out⟩
        case measure => simp [RowKit.intOf]; omega
    · obtain rfl : j = n := by omega
      clear og ol hjn hj
      go_wp2_with fail
      refine (W7.out _).mono ?_
      rintro e w7 ⟨rfl, hb7⟩
      have HB := Lib.hid (HT.out.buf.2.trans (hb7.mono HT.out.buf.2.size))
      clear hb7
      go_wp2_with fail
      go_ret
      exact ⟨rfl, HB.out⟩

set_option maxRecDepth 100000 in
set_option maxHeartbeats 4000000 in
theorem nums_none (S : Says R) (A0 A : Option Addr) (n0 cap0 cap : Nat) (w : World) (hT : ∀ wx, Below w.heap.size w wx → Calls Try.prog 10 #[.slice A0 n0 cap0] wx (Short 1000 wx)) :
    Calls Try.prog 4 #[.slice A0 n0 cap0, .slice A 0 cap] w fun e w' => e = .returned (.bool true) ∧ Below w.heap.size w w' := by
  have W7 := Lib.hid (awake_any S)
  have CT := Lib.hid (hT w (Below.refl _ _))
  have hcl : clamp 3000 = 3000 := by decide
  have C1 := Lib.hid (fun wx (s : ByteArray) (hs : s.size ≤ 1000) => S.new wx s 3000 (by rw [hcl]; omega) (by omega) (by omega))
  rw [hcl] at C1
  have HS := Lib.hid S
  clear S hT hcl
  go_enter Try.func4, Try.ntmps4
  go_wp2_with fail
  refine CT.out.mono ?_
  rintro e w0 ⟨s, rfl, hs, hb0⟩
  have H0 := Lib.hid (And.intro hs hb0)
  clear hs hb0
  go_wp2_with fail
  refine (C1.out _ _ H0.out.1).mono ?_
  rintro e w1 ⟨a, F, p, h, rfl, hr1, ho1, hf1⟩
  have hjj : JJ (R 0) w a w0.heap.size s 3000 w1 := JJ.begin HS.out H0.out.2 hr1 ho1 (fun k hk => by have := hf1 k hk; rw [World.size_alloc] at this; omega)
  obtain ⟨mb, hmb⟩ : ∃ mb, mb = w0.heap.size := ⟨_, rfl⟩
  rw [← hmb] at hjj
  have HJ := Lib.hid hjj
  have HW := Lib.hid hmb
  clear hjj hr1 ho1 hf1 hmb
  go_wp2_with fail
  rw [← HW.out]
  go_loopw [8] (fun i wr => i = .int .i64 0 ∧ Hid (JJ (R 0) w a mb s 3000 wr)) (fun i _ => 0)
  case atStart => exact ⟨rfl, HJ.out⟩
  case round =>
    obtain ⟨rfl, HT⟩ := hrel
    go_wp2_with fail
    refine (W7.out _).mono ?_
    rintro e w7 ⟨rfl, hb7⟩
    have HB := Lib.hid (HT.out.buf.2.trans (hb7.mono HT.out.buf.2.size))
    clear hb7
    go_wp2_with fail
    go_ret
    exact ⟨rfl, HB.out⟩

/-- A slice of numbers that came in. -/
def Nums (W : World) (A : Option Addr) (n cap : Nat) (zs : List Int) : Prop :=
  zs.length = n ∧ n ≤ cap ∧ cap ≤ maxLen ∧ (n = 0 ∨ ∃ b off, A = some ⟨b, off, none⟩ ∧ NumsAt W b off zs)
theorem text_of (A : Option Addr) (n cap : Nat) (zs : List Int) (w : World) (h : Nums w A n cap zs) : ∀ wx, Below w.heap.size w wx → Calls Try.prog 10 #[.slice A n cap] wx (Short 1000 wx) := by
  intro wx hx
  obtain ⟨h1, h2, h3, h4⟩ := h
  rcases h4 with rfl | ⟨b, off, rfl, hz⟩
  · exact text_none A cap wx
  · by_cases h0 : n = 0
    · subst h0
      exact text_none _ cap wx
    · obtain ⟨z, hz0⟩ : ∃ z, zs[0]? = some z := ⟨_, List.getElem?_eq_getElem (by omega)⟩
      have hb := (hz 0 z hz0).1
      exact text_some b off cap n zs wx h1 (Nat.lt_of_lt_of_le hb hx.size) h2 h3 (fun i z hi => (hx.cell (p := ⟨b, off + i, none⟩) hb).trans (hz i z hi).2)
theorem nums_law (S : Says R) (A0 A : Option Addr) (n0 cap0 n cap : Nat) (zs0 zs : List Int) (w : World) (h0 : Nums w A0 n0 cap0 zs0) (h : Nums w A n cap zs) :
    Calls Try.prog 4 #[.slice A0 n0 cap0, .slice A n cap] w fun e w' => e = .returned (.bool true) ∧ Below w.heap.size w w' := by
  have hT := text_of A0 n0 cap0 zs0 w h0
  obtain ⟨h1, h2, h3, h4⟩ := h
  by_cases hn : 120 < n
  · exact nums_out S A0 A n0 cap0 n cap w hn
  · rcases h4 with rfl | ⟨b, off, rfl, hz⟩
    · exact nums_none S A0 A n0 cap0 cap w hT
    · exact nums_some S A0 n0 cap0 b off n cap zs w hT h1 h2 hz (by omega)
end Go.Proofs.Ytjpomfjcofjanaa
