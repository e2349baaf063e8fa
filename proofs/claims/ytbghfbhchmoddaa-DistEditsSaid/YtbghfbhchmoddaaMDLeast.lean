/- least by contract. -/
import Derived.Test.YtbghfbhchmoddaaMDEx
namespace Go.Proofs.Ytbghfbhchmoddaa
open Go Go.RowKit Go.Lib

/-- What least makes of the cells that it asks. -/
def leN (eq ex : Bool) (x y z u : Nat) : Nat := if ex then min (min (min (x + if eq then 0 else 1) (y + 1)) (z + 1)) (u + 1) else min (min (x + if eq then 0 else 1) (y + 1)) (z + 1)
set_option maxRecDepth 100000 in
set_option maxHeartbeats 4000000 in
theorem least_edge (w : World) (p i k : Nat) (hi : i ≤ 1000) (hk : k ≤ 1000) (h0 : i = 0 ∨ k = 0) :
    Calls Try.prog 16 #[.pointer (some ⟨p, 0, none⟩), .int .i64 i, .int .i64 k] w fun e w' => e = .returned (.int .i64 (i + k : Nat)) ∧ ∃ n, w' = w.drewN n := by
  have wk : IntKind.i64.wrap ((i : Int) + k) = ((i + k : Nat) : Int) := by rw [IntWalk.i64_in _ (by omega)]; omega
  obtain ⟨s, hs⟩ : ∃ s, s = i + k := ⟨_, rfl⟩
  rw [← hs] at wk ⊢
  by_cases h1 : i = 0
  · have d1 : ((i : Int) == 0) = true := by simpa using h1
    have d2 : decide ((i : Int) = 0) = true := by simpa using h1
    clear h1 h0 hs hi hk
    go_enter Try.func16, Try.ntmps16
    go_wp2_with fail
    go_ret
    exact ⟨rfl, 0, rfl⟩
  · have h2 : k = 0 := by omega
    have d1 : ((i : Int) == 0) = false := by simpa using h1
    have d2 : decide ((i : Int) = 0) = false := by simpa using h1
    have d3 : ((k : Int) == 0) = true := by simpa using h2
    have d4 : decide ((k : Int) = 0) = true := by simpa using h2
    clear h1 h0 h2 hs hi hk
    go_enter Try.func16, Try.ntmps16
    go_wp2_with fail
    go_ret
    exact ⟨rfl, 0, rfl⟩
theorem ret_int0 {k : IntKind} {a b : Int} (h : a = b) : Ending.returned (.int k a) = .returned (.int k b) := by rw [h]
set_option maxRecDepth 100000 in
set_option maxHeartbeats 8000000 in
theorem least_any (w : World) (p : Nat) (va vb : Value) (B m : Nat) (la lb : List Int) (i k i1 i2 k1 k2 r0 r1 r2 : Nat) (T : Tab w p va vb B m) (ha : IntsAt w va la) (hb : IntsAt w vb lb) (hi : i ≤ la.length) (hk : k ≤ lb.length) (hm : lb.length = m) (na : la.length ≤ 1000) (nb : m ≤ 1000)
    (e1 : i = i1 + 1) (e2 : i2 = i - 2) (e3 : k = k1 + 1) (e4 : k2 = k - 2) (f0 : i % 3 = r0) (f1 : i1 % 3 = r1) (f2 : i2 % 3 = r2) (x y z u : Nat) (hx : x ≤ 10000) (hy : y ≤ 10000) (hz : z ≤ 10000) (hu : u ≤ 10000)
    (cx : w.cell? ⟨p + 1 + r1, k1, none⟩ = some (.int .i64 x)) (cy : w.cell? ⟨p + 1 + r1, k, none⟩ = some (.int .i64 y)) (cz : w.cell? ⟨p + 1 + r0, k1, none⟩ = some (.int .i64 z))
    (cu : exL la lb i k = true → w.cell? ⟨p + 1 + r2, k2, none⟩ = some (.int .i64 u)) :
    Calls Try.prog 16 #[.pointer (some ⟨p, 0, none⟩), .int .i64 i, .int .i64 k] w fun e w' => e = .returned (.int .i64 (leN (decide (la[i1]? = lb[k1]?)) (exL la lb i k) x y z u)) ∧ ∃ n, w' = w.drewN n := by
  obtain ⟨c0, c1, -, c3⟩ := T.cells
  have CR0 := Lib.hid (fun n => row_any (w.drewN n) p i r0 (m + 1) (p + 1 + r0) (by omega) f0 (f0 ▸ c3 i))
  have CR1 := Lib.hid (fun n => row_any (w.drewN n) p i1 r1 (m + 1) (p + 1 + r1) (by omega) f1 (f1 ▸ c3 i1))
  have CR2 := Lib.hid (fun n => row_any (w.drewN n) p i2 r2 (m + 1) (p + 1 + r2) (by omega) f2 (f2 ▸ c3 i2))
  have CE := Lib.hid (fun n => ex_any (w.drewN n) p va vb B m la lb i k T ha hb hi hk na (by omega))
  obtain ⟨b, off, cap, rfl, hlt, hcap, hc⟩ := ints_pos ha (by omega)
  obtain ⟨b', off', cap', rfl, hlt', hcap', hc'⟩ := ints_pos hb (by omega)
  obtain ⟨xa, hxa⟩ : ∃ x, la[i1]? = some x := ⟨_, List.getElem?_eq_getElem (by omega)⟩
  obtain ⟨xb, hxb⟩ : ∃ x, lb[k1]? = some x := ⟨_, List.getElem?_eq_getElem (by omega)⟩
  have ca := hc _ _ hxa
  have cb := hc' _ _ hxb
  have wi1 : IntKind.i64.wrap ((i : Int) - 1) = (i1 : Int) := w64 i 1 i1 (by omega) (by omega)
  have wk1 : IntKind.i64.wrap ((k : Int) - 1) = (k1 : Int) := w64 k 1 k1 (by omega) (by omega)
  have d1 : ((i : Int) == 0) = false := by simp; omega
  have d2 : decide ((i : Int) = 0) = false := by simp; omega
  have d3 : ((k : Int) == 0) = false := by simp; omega
  have d4 : decide ((k : Int) = 0) = false := by simp; omega
  have b1 : k1 < m + 1 := by omega
  have b2 : k < m + 1 := by omega
  have HW2 := Lib.hid (show exL la lb i k = true → IntKind.i64.wrap ((i : Int) - 2) = (i2 : Int) ∧ IntKind.i64.wrap ((k : Int) - 2) = (k2 : Int) ∧ k2 < m + 1 from fun h => by
    have h' := of_decide_eq_true h
    exact ⟨w64 i 2 i2 (by omega) (by omega), w64 k 2 k2 (by omega) (by omega), by omega⟩)
  obtain ⟨la', hla⟩ : ∃ j, j = la.length := ⟨_, rfl⟩
  obtain ⟨lb', hlb⟩ : ∃ j, j = lb.length := ⟨_, rfl⟩
  rw [← hla] at hcap c0
  rw [← hlb] at hcap' c1
  have j1 : i1 < la' := by omega
  have j3 : k1 < lb' := by omega
  rw [hxa, hxb]
  have HEQ := Lib.hid (show decide (some xa = some xb) = decide (xa = xb) by simp)
  rw [HEQ.out]
  obtain ⟨x1, hx1⟩ : ∃ j, j = x + (if decide (xa = xb) = true then 0 else 1) := ⟨_, rfl⟩
  obtain ⟨y1, hy1⟩ : ∃ j, j = y + 1 := ⟨_, rfl⟩
  obtain ⟨z1, hz1⟩ : ∃ j, j = z + 1 := ⟨_, rfl⟩
  obtain ⟨u1, hu1⟩ : ∃ j, j = u + 1 := ⟨_, rfl⟩
  have wy : IntKind.i64.wrap ((y : Int) + 1) = (y1 : Int) := by rw [IntWalk.i64_in _ (by omega)]; omega
  have wz : IntKind.i64.wrap ((z : Int) + 1) = (z1 : Int) := by rw [IntWalk.i64_in _ (by omega)]; omega
  have wu : IntKind.i64.wrap ((u : Int) + 1) = (u1 : Int) := by rw [IntWalk.i64_in _ (by omega)]; omega
  have HX := Lib.hid (And.intro hx hx1)
  have HL := Lib.hid (show leN (decide (xa = xb)) (exL la lb i k) x y z u = if exL la lb i k then min (min (min x1 y1) z1) u1 else min (min x1 y1) z1 by
    unfold leN; rw [hx1, hy1, hz1, hu1])
  clear hla hlb hc hc' T ha hb hi hk hm na nb e1 e2 e3 e4 f0 f1 f2 hx hy hz hu hx1 hy1 hz1 hu1 hxa hxb c3 HEQ
  rcases Bool.eq_false_or_eq_true (exL la lb i k) with dX | dX
  · obtain ⟨wi2, wk2, b3⟩ := HW2.out dX
    have c2 := cu dX
    rw [dX] at CE
    have HL2 := HL.out
    rw [dX, if_pos rfl] at HL2
    have HL3 := Lib.hid HL2
    rw [dX, HL2]
    clear HL HL2 HW2 cu dX
    rcases Bool.eq_false_or_eq_true (decide (xa = xb)) with dE | dE
    · have eE := of_decide_eq_true dE
      subst eE
      obtain rfl : x1 = x := by have := HX.out.2; simpa using this
      clear dE HX
      go_enter Try.func16, Try.ntmps16
      go_wp2_with fail
      refine (CR1.out 0).mono ?_
      rintro e w1 ⟨rfl, h⟩
      obtain rfl : w1 = w := h
      go_wp2_with fail
      refine (CR0.out 0).mono ?_
      rintro e w1' ⟨rfl, h⟩
      obtain rfl : w1' = w1 := h
      go_wp2_with fail
      go_quiet (fail)
      go_wp2_with fail
      go_quiet (fail)
      go_wp2_with fail
      all_goals
        refine (CE.out _).mono ?_
        rintro e w2 ⟨rfl, n2, rfl⟩
        rw [World.drewN_drewN]
        go_wp2_with fail
        refine (CR2.out _).mono ?_
        rintro e w3 ⟨rfl, h3⟩
        rw [h3]
        go_wp2_with fail
      all_goals go_ret
      all_goals exact ⟨ret_int0 (by first | omega | (have := HL.out; omega)), _, rfl⟩
    · have wx : IntKind.i64.wrap ((x : Int) + 1) = (x1 : Int) := by rw [IntWalk.i64_in _ (by have := HX.out; omega)]; have := HX.out.2; rw [dE] at this; simp at this; omega
      have d5 := of_decide_eq_false dE
      clear dE HX
      go_enter Try.func16, Try.ntmps16
      go_wp2_with fail
      refine (CR1.out 0).mono ?_
      rintro e w1 ⟨rfl, h⟩
      obtain rfl : w1 = w := h
      go_wp2_with fail
      refine (CR0.out 0).mono ?_
      rintro e w1' ⟨rfl, h⟩
      obtain rfl : w1' = w1 := h
      go_wp2_with fail
      go_quiet (fail)
      go_wp2_with fail
      go_quiet (fail)
      go_wp2_with fail
      all_goals
        refine (CE.out _).mono ?_
        rintro e w2 ⟨rfl, n2, rfl⟩
        rw [World.drewN_drewN]
        go_wp2_with fail
        refine (CR2.out _).mono ?_
        rintro e w3 ⟨rfl, h3⟩
        rw [h3]
        go_wp2_with fail
      all_goals go_ret
      all_goals exact ⟨ret_int0 (by first | omega | (have := HL.out; omega)), _, rfl⟩
  · rw [dX] at CE
    have HL2 := HL.out
    rw [dX, if_neg Bool.false_ne_true] at HL2
    rw [dX, HL2]
    clear HL HL2 HW2 cu dX CR2
    rcases Bool.eq_false_or_eq_true (decide (xa = xb)) with dE | dE
    · have eE := of_decide_eq_true dE
      subst eE
      obtain rfl : x1 = x := by have := HX.out.2; simpa using this
      clear dE HX
      go_enter Try.func16, Try.ntmps16
      go_wp2_with fail
      refine (CR1.out 0).mono ?_
      rintro e w1 ⟨rfl, h⟩
      obtain rfl : w1 = w := h
      go_wp2_with fail
      refine (CR0.out 0).mono ?_
      rintro e w1' ⟨rfl, h⟩
      obtain rfl : w1' = w1 := h
      go_wp2_with fail
      go_quiet (fail)
      go_wp2_with fail
      go_quiet (fail)
      go_wp2_with fail
      all_goals
        refine (CE.out _).mono ?_
        rintro e w2 ⟨rfl, n2, rfl⟩
        rw [World.drewN_drewN]
        go_wp2_with fail
      all_goals go_ret
      all_goals exact ⟨ret_int0 (by first | omega | (have := HL.out; omega)), _, rfl⟩
    · have wx : IntKind.i64.wrap ((x : Int) + 1) = (x1 : Int) := by rw [IntWalk.i64_in _ (by have := HX.out; omega)]; have := HX.out.2; rw [dE] at this; simp at this; omega
      have d5 := of_decide_eq_false dE
      clear dE HX
      go_enter Try.func16, Try.ntmps16
      go_wp2_with fail
      refine (CR1.out 0).mono ?_
      rintro e w1 ⟨rfl, h⟩
      obtain rfl : w1 = w := h
      go_wp2_with fail
      refine (CR0.out 0).mono ?_
      rintro e w1' ⟨rfl, h⟩
      obtain rfl : w1' = w1 := h
      go_wp2_with fail
      go_quiet (fail)
      go_wp2_with fail
      go_quiet (fail)
      go_wp2_with fail
      all_goals
        refine (CE.out _).mono ?_
        rintro e w2 ⟨rfl, n2, rfl⟩
        rw [World.drewN_drewN]
        go_wp2_with fail
      all_goals go_ret
      all_goals exact ⟨ret_int0 (by first | omega | (have := HL.out; omega)), _, rfl⟩
end Go.Proofs.Ytbghfbhchmoddaa
