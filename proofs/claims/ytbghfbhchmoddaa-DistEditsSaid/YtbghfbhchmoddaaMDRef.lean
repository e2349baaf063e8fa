/- The document's own answer by contract: the recurrence, cell by cell, in one row. -/
import Derived.Test.YtbghfbhchmoddaaMDGood
import Derived.Test.YtbghfbhchmoddaaMDNew
import Derived.Deep.DeepCutAuto
namespace Go.Proofs.Ytbghfbhchmoddaa
open Go Go.RowKit Go.Lib

theorem int_eq1 {k : IntKind} {a b : Int} (h : a = b) : Value.int k a = Value.int k b := by rw [h]
theorem leN_exact (a b : List Int) (i k : Nat) (u : Nat) (hi : i < a.length) (hk : k < b.length) (hu : exL a b (i + 1) (k + 1) = true → u = cellL a b (i + 1 - 2) (k + 1 - 2)) :
    leN (decide (a[i]? = b[k]?)) (exL a b (i + 1) (k + 1)) (cellL a b i k) (cellL a b i (k + 1)) (cellL a b (i + 1) k) u = cellL a b (i + 1) (k + 1) := by
  have h := fun B => leN_good a b B i k _ _ _ u hi hk rfl rfl rfl (fun h => by rw [hu h])
  generalize leN (decide (a[i]? = b[k]?)) (exL a b (i + 1) (k + 1)) (cellL a b i k) (cellL a b i (k + 1)) (cellL a b (i + 1) k) u = v at h ⊢
  have := h (v + cellL a b (i + 1) (k + 1))
  omega
theorem cell_one {M i k i' k' : Nat} (hk : k < M) (hk' : k' < M) (h : i * M + k = i' * M + k') : i = i' ∧ k = k' := by
  have h1 : (i * M + k) / M = i := by rw [Nat.add_comm, Nat.add_mul_div_right _ _ (by omega), Nat.div_eq_of_lt hk, Nat.zero_add]
  have h2 : (i' * M + k') / M = i' := by rw [Nat.add_comm, Nat.add_mul_div_right _ _ (by omega), Nat.div_eq_of_lt hk', Nat.zero_add]
  have h3 : i = i' := by rw [← h1, ← h2, h]
  subst h3
  exact ⟨rfl, by omega⟩
/-- The first c cells are told. -/
structure RefS (w wr : World) (g N M : Nat) (la lb : List Int) (c : Nat) (R : List Int) : Prop where
  row : NRow g R wr
  len : R.length = N
  below : Below w.heap.size w wr
  low : w.heap.size ≤ g
  told : ∀ i k, k < M → i * M + k < c → R[i * M + k]? = some ((cellL la lb i k : Nat) : Int)
theorem RefS.set {w wr : World} {g N M : Nat} {la lb : List Int} {c : Nat} {R : List Int} (h : RefS w wr g N M la lb c R) (i k : Nat) (hk : k < M) (hc : c = i * M + k) (hN : c < N) (n : Nat) (v : Int) (hv : v = (cellL la lb i k : Nat)) :
    RefS w ((wr.drewN n).setCell ⟨g, c, none⟩ (.int .i64 v)) g N M la lb (c + 1) (R.set c v) := by
  refine ⟨(h.row.drewN n).set c v, by rw [List.length_set]; exact h.len, ?_, h.low, fun i' k' hk' hc' => ?_⟩
  · exact (show Below w.heap.size w (wr.drewN n) from h.below.trans ⟨rfl, rfl, rfl, Nat.le_refl _, fun _ _ => rfl⟩).setCell (p := ⟨g, c, none⟩) h.low _
  · by_cases e : i' * M + k' = c
    · obtain ⟨rfl, rfl⟩ := cell_one hk' hk (e.trans hc)
      rw [e, List.getElem?_set_self (by rw [h.len]; exact hN), hv]
    · rw [List.getElem?_set_ne (fun h => e h.symm)]
      exact h.told i' k' hk' (by omega)
theorem RefS.cell {w wr : World} {g N M : Nat} {la lb : List Int} {c : Nat} {R : List Int} (h : RefS w wr g N M la lb c R) {i k q : Nat} (hk : k < M) (hq : i * M + k = q) (hc : q < c) : wr.cell? ⟨g, q, none⟩ = some (.int .i64 (cellL la lb i k : Nat)) := by
  subst hq
  exact h.row.cell (h.told i k hk hc)
theorem cellL_le (a b : List Int) (i k : Nat) : cellL a b i k ≤ a.length + b.length := by
  have := farL_max (a.take i) (b.take k)
  rw [List.length_take, List.length_take] at this
  unfold cellL
  omega
set_option maxHeartbeats 2000000 in
/-- What a cell within is reckoned of. -/
theorem ref_step (w wr : World) (va vb : Value) (g N M n m P at' i k : Nat) (la lb : List Int) (R : List Int) (haw : IntsAt wr va la) (hbw : IntsAt wr vb lb) (hR : RefS w wr g N M la lb at' R)
    (h1 : n = la.length) (h2 : m = lb.length) (h7 : n ≤ 1000) (h8 : m ≤ 1000) (q1 : P + M ≤ N) (q2 : N ≤ 1002001) (q3 : M = m + 1) (hP : P = i * M) (hat : at' = P + k) (hlt : i ≤ n) (hkl : k ≤ m) (hi0 : ¬ i = 0) (hk0 : ¬ k = 0) :
    ∃ (b off cap b' off' cap' i1 k1 a1 a2 a3 a4 x y z c x1 y1 z1 v1 MM a5 a6 i2 k2 u1 : Nat) (xa xb : Int), va = .slice (some ⟨b, off, none⟩) n cap ∧ vb = .slice (some ⟨b', off', none⟩) m cap' ∧ n ≤ cap ∧ m ≤ cap' ∧
      wr.cell? ⟨b, off + i1, none⟩ = some (.int .i64 xa) ∧ wr.cell? ⟨b', off' + k1, none⟩ = some (.int .i64 xb) ∧ IntKind.i64.wrap ((i : Int) - 1) = (i1 : Int) ∧ IntKind.i64.wrap ((k : Int) - 1) = (k1 : Int) ∧ i1 < n ∧ k1 < m ∧
      IntKind.i64.wrap ((at' : Int) - m) = (a1 : Int) ∧ IntKind.i64.wrap ((a1 : Int) - 1) = (a2 : Int) ∧ IntKind.i64.wrap ((at' : Int) - 1) = (a3 : Int) ∧ IntKind.i64.wrap ((a1 : Int) - 2) = (a4 : Int) ∧ a2 < N ∧ a3 < N ∧ a4 < N ∧
      wr.cell? ⟨g, a2, none⟩ = some (.int .i64 y) ∧ wr.cell? ⟨g, a3, none⟩ = some (.int .i64 z) ∧ wr.cell? ⟨g, a4, none⟩ = some (.int .i64 x) ∧
      IntKind.i64.wrap ((x : Int) + c) = (x1 : Int) ∧ IntKind.i64.wrap ((y : Int) + 1) = (y1 : Int) ∧ IntKind.i64.wrap ((z : Int) + 1) = (z1 : Int) ∧ v1 = min (min x1 y1) z1 ∧
      IntKind.i64.wrap ((2 : Int) * M) = (MM : Int) ∧
      (exL la lb i k = false → v1 = cellL la lb i k) ∧
      (exL la lb i k = true → ∃ u : Nat, wr.cell? ⟨g, a6, none⟩ = some (.int .i64 u) ∧ IntKind.i64.wrap ((at' : Int) - MM) = (a5 : Int) ∧ IntKind.i64.wrap ((a5 : Int) - 2) = (a6 : Int) ∧ a6 < N ∧ IntKind.i64.wrap ((u : Int) + 1) = (u1 : Int) ∧ min v1 u1 = cellL la lb i k) ∧
      (1 < i → 1 < k → ∃ y1 y2 : Int, wr.cell? ⟨b', off' + k2, none⟩ = some (.int .i64 y1) ∧ wr.cell? ⟨b, off + i2, none⟩ = some (.int .i64 y2) ∧ IntKind.i64.wrap ((i : Int) - 2) = (i2 : Int) ∧ IntKind.i64.wrap ((k : Int) - 2) = (k2 : Int) ∧ i2 < n ∧ k2 < m ∧ exL la lb i k = (decide (xa = y1) && decide (y2 = xb))) ∧
      c = if decide (xa = xb) = true then 0 else 1 := by
  obtain ⟨b, off, cap2, eA, -, hcap, hca⟩ := ints_pos haw (by omega)
  obtain ⟨b', off', cap2', eB, -, hcap', hcb⟩ := ints_pos hbw (by omega)
  rw [← h1] at eA hcap
  rw [← h2] at eB hcap'
  obtain ⟨i1, hi1⟩ : ∃ i1, i = i1 + 1 := ⟨i - 1, by omega⟩
  obtain ⟨k1, hk1⟩ : ∃ k1, k = k1 + 1 := ⟨k - 1, by omega⟩
  obtain ⟨xa, hxa⟩ : ∃ x, la[i1]? = some x := ⟨_, List.getElem?_eq_getElem (by omega)⟩
  obtain ⟨xb, hxb⟩ : ∃ x, lb[k1]? = some x := ⟨_, List.getElem?_eq_getElem (by omega)⟩
  have ca := hca _ _ hxa
  have cb := hcb _ _ hxb
  have wi' : IntKind.i64.wrap ((i : Int) - 1) = (i1 : Int) := w64 i 1 i1 (by omega) (by omega)
  have wk' : IntKind.i64.wrap ((k : Int) - 1) = (k1 : Int) := w64 k 1 k1 (by omega) (by omega)
  have j1 : i1 < n := by omega
  have j2 : k1 < m := by omega
  obtain ⟨P1, hP1⟩ : ∃ P1, P1 = i1 * M := ⟨_, rfl⟩
  have hPP1 : P = P1 + M := by rw [hP, hi1, Nat.succ_mul, hP1]
  obtain ⟨a1, ha1⟩ : ∃ a1, a1 = P1 + k + 1 := ⟨_, rfl⟩
  obtain ⟨a2, ha2⟩ : ∃ a2, a2 = P1 + k := ⟨_, rfl⟩
  obtain ⟨a3, ha3⟩ : ∃ a3, a3 = P + k1 := ⟨_, rfl⟩
  obtain ⟨a4, ha4⟩ : ∃ a4, a4 = P1 + k1 := ⟨_, rfl⟩
  have wa1 : IntKind.i64.wrap ((at' : Int) - m) = (a1 : Int) := by rw [IntWalk.i64_in _ (by omega)]; omega
  have wa2 : IntKind.i64.wrap ((a1 : Int) - 1) = (a2 : Int) := by rw [IntWalk.i64_in _ (by omega)]; omega
  have wa3 : IntKind.i64.wrap ((at' : Int) - 1) = (a3 : Int) := by rw [IntWalk.i64_in _ (by omega)]; omega
  have wa4 : IntKind.i64.wrap ((a1 : Int) - 2) = (a4 : Int) := by rw [IntWalk.i64_in _ (by omega)]; omega
  have ja2 : a2 < N := by omega
  have ja3 : a3 < N := by omega
  have ja4 : a4 < N := by omega
  obtain ⟨y, hy⟩ : ∃ y, y = cellL la lb i1 k := ⟨_, rfl⟩
  obtain ⟨z, hz⟩ : ∃ z, z = cellL la lb i k1 := ⟨_, rfl⟩
  obtain ⟨x, hx⟩ : ∃ x, x = cellL la lb i1 k1 := ⟨_, rfl⟩
  have by' := cellL_le la lb i1 k
  have bz' := cellL_le la lb i k1
  have bx' := cellL_le la lb i1 k1
  have cy := hR.cell (i := i1) (k := k) (q := a2) (by omega) (by rw [ha2, hP1]) (by omega)
  have cz := hR.cell (i := i) (k := k1) (q := a3) (by omega) (by rw [ha3, hP]) (by omega)
  have cx := hR.cell (i := i1) (k := k1) (q := a4) (by omega) (by rw [ha4, hP1]) (by omega)
  rw [← hy] at cy by'
  rw [← hz] at cz bz'
  rw [← hx] at cx bx'
  obtain ⟨c, hc⟩ : ∃ c : Nat, c = if decide (la[i1]? = lb[k1]?) = true then 0 else 1 := ⟨_, rfl⟩
  obtain ⟨x1, hx1⟩ : ∃ j, j = x + c := ⟨_, rfl⟩
  obtain ⟨y1, hy1⟩ : ∃ j, j = y + 1 := ⟨_, rfl⟩
  obtain ⟨z1, hz1⟩ : ∃ j, j = z + 1 := ⟨_, rfl⟩
  obtain ⟨v1, hv1⟩ : ∃ j, j = min (min x1 y1) z1 := ⟨_, rfl⟩
  have HV1 := Lib.hid hv1
  clear hv1
  have c01 : c ≤ 1 := by rw [hc]; split <;> omega
  have wx1 : IntKind.i64.wrap ((x : Int) + c) = (x1 : Int) := by rw [IntWalk.i64_in _ (by omega)]; omega
  have wy1 : IntKind.i64.wrap ((y : Int) + 1) = (y1 : Int) := by rw [IntWalk.i64_in _ (by omega)]; omega
  have wz1 : IntKind.i64.wrap ((z : Int) + 1) = (z1 : Int) := by rw [IntWalk.i64_in _ (by omega)]; omega
  have hstep : ∀ u, (exL la lb i k = true → u = cellL la lb (i - 2) (k - 2)) → cellL la lb i k = if exL la lb i k = true then min v1 (u + 1) else v1 := fun u hu => by
    have h := leN_exact la lb i1 k1 u (by omega) (by omega) (by rw [← hi1, ← hk1]; exact hu)
    rw [← hi1, ← hk1, ← hx, ← hy, ← hz] at h
    rw [← h]
    unfold leN
    rw [HV1.out, hx1, hy1, hz1, hc]
  have HU0 := (show exL la lb i k = false → v1 = cellL la lb i k from fun h => by
    have := hstep 0 (fun h' => by rw [h] at h'; cases h')
    rw [h, if_neg Bool.false_ne_true] at this
    exact this.symm)
  obtain ⟨MM, hMM⟩ : ∃ MM, MM = 2 * M := ⟨_, rfl⟩
  have w2M : IntKind.i64.wrap ((2 : Int) * M) = (MM : Int) := by rw [IntWalk.i64_in _ (by omega)]; omega
  obtain ⟨a5, ha5⟩ : ∃ a5, a5 = at' - MM := ⟨_, rfl⟩
  have HA5 := Lib.hid ha5
  clear ha5
  obtain ⟨a6, ha6⟩ : ∃ a6, a6 = a5 - 2 := ⟨_, rfl⟩
  have HA6 := Lib.hid ha6
  clear ha6
  obtain ⟨i2, hi2⟩ : ∃ i2, i2 = i - 2 := ⟨_, rfl⟩
  have HI2 := Lib.hid hi2
  clear hi2
  obtain ⟨k2, hk2⟩ : ∃ k2, k2 = k - 2 := ⟨_, rfl⟩
  have HK2 := Lib.hid hk2
  clear hk2
  obtain ⟨u1, hu1⟩ : ∃ u1, u1 = cellL la lb i2 k2 + 1 := ⟨_, rfl⟩
  have HU := (show exL la lb i k = true → ∃ u : Nat, wr.cell? ⟨g, a6, none⟩ = some (.int .i64 u) ∧ IntKind.i64.wrap ((at' : Int) - MM) = (a5 : Int) ∧ IntKind.i64.wrap ((a5 : Int) - 2) = (a6 : Int) ∧ a6 < N ∧ IntKind.i64.wrap ((u : Int) + 1) = (u1 : Int) ∧ min v1 u1 = cellL la lb i k from fun h => by
    have hx' := of_decide_eq_true h
    obtain ⟨hx1', hx2', -⟩ := hx'
    have ha5 := HA5.out
    have ha6 := HA6.out
    have hi2 : i = i2 + 2 := by have := HI2.out; omega
    have hk2 : k = k2 + 2 := by have := HK2.out; omega
    clear wa1 wa2 wa3 wa4 wx1 wy1 wz1 w2M hx1 hy1 hz1
    obtain ⟨i', hi'⟩ : ∃ j, i1 = j + 1 := ⟨i1 - 1, by omega⟩
    have hP2 : P1 = i2 * M + M := by rw [hP1, hi', Nat.succ_mul, show i2 = i' by omega]
    have hb' := cellL_le la lb i2 k2
    refine ⟨cellL la lb i2 k2, hR.cell (i := i2) (k := k2) (q := a6) (by omega) (by omega) (by omega), ?_, ?_, by omega, ?_, ?_⟩
    · rw [IntWalk.i64_in _ (by omega)]; omega
    · rw [IntWalk.i64_in _ (by omega)]; omega
    · rw [IntWalk.i64_in _ (by omega)]; omega
    · have := hstep (cellL la lb i2 k2) (fun _ => by rw [HI2.out, HK2.out])
      rw [h, if_pos rfl] at this
      rw [this, hu1])
  have HX2 := (show 1 < i → 1 < k → ∃ y1 y2 : Int, wr.cell? ⟨b', off' + k2, none⟩ = some (.int .i64 y1) ∧ wr.cell? ⟨b, off + i2, none⟩ = some (.int .i64 y2) ∧ IntKind.i64.wrap ((i : Int) - 2) = (i2 : Int) ∧ IntKind.i64.wrap ((k : Int) - 2) = (k2 : Int) ∧ i2 < n ∧ k2 < m ∧ exL la lb i k = (decide (xa = y1) && decide (y2 = xb)) from fun h1' h2' => by
    have hi2 := HI2.out
    have hk2 := HK2.out
    clear HU0 HU
    obtain ⟨y2, hy2⟩ : ∃ x, la[i2]? = some x := ⟨_, List.getElem?_eq_getElem (by omega)⟩
    obtain ⟨y1, hy1⟩ : ∃ x, lb[k2]? = some x := ⟨_, List.getElem?_eq_getElem (by omega)⟩
    refine ⟨y1, y2, hcb _ _ hy1, hca _ _ hy2, w64 i 2 i2 (by omega) (by omega), w64 k 2 k2 (by omega) (by omega), by omega, by omega, ?_⟩
    unfold exL
    rw [show i - 1 = i1 by omega, show k - 1 = k1 by omega, ← hi2, ← hk2, hxa, hxb, hy1, hy2]
    by_cases e1 : xa = y1 <;> by_cases e2 : y2 = xb <;> simp [h1', h2', e1, e2])
  have HC := (show c = if decide (xa = xb) = true then 0 else 1 by rw [hc, hxa, hxb]; simp)
  exact ⟨b, off, cap2, b', off', cap2', i1, k1, a1, a2, a3, a4, x, y, z, c, x1, y1, z1, v1, MM, a5, a6, i2, k2, u1, xa, xb, eA, eB, hcap, hcap', ca, cb, wi', wk', j1, j2, wa1, wa2, wa3, wa4, ja2, ja3, ja4, cy, cz, cx, wx1, wy1, wz1, HV1.out, w2M, HU0, HU, HX2, HC⟩
set_option maxRecDepth 100000 in
set_option maxHeartbeats 8000000 in
theorem ref_any (w : World) (va vb : Value) (la lb : List Int) (ha : IntsAt w va la) (hb : IntsAt w vb lb) (na : la.length ≤ 1000) (nb : lb.length ≤ 1000) :
    Calls Try.prog 8 #[va, vb] w fun e w' => e = .returned (.int .i64 (farL la lb)) ∧ Below w.heap.size w w' := by
  obtain ⟨A, cap, rfl⟩ := ints_form ha
  obtain ⟨A', cap', rfl⟩ := ints_form hb
  have HA := Lib.hid ha
  have HB := Lib.hid hb
  obtain ⟨n, hn⟩ : ∃ n, n = la.length := ⟨_, rfl⟩
  obtain ⟨m, hm⟩ : ∃ m, m = lb.length := ⟨_, rfl⟩
  rw [← hn] at na HA ⊢
  rw [← hm] at nb HB ⊢
  obtain ⟨M, hM⟩ : ∃ M, M = m + 1 := ⟨_, rfl⟩
  obtain ⟨N, hN⟩ : ∃ N, N = (n + 1) * M := ⟨_, rfl⟩
  have hN2 : N ≤ 1002001 := by rw [hN]; exact Nat.le_trans (Nat.mul_le_mul (show n + 1 ≤ 1001 by omega) (show M ≤ 1001 by omega)) (by decide)
  have wn : IntKind.i64.wrap ((n : Int) + 1) = ((n + 1 : Nat) : Int) := by rw [IntWalk.i64_in _ (by omega)]; omega
  have wm : IntKind.i64.wrap ((m : Int) + 1) = (M : Int) := by rw [IntWalk.i64_in _ (by omega)]; omega
  obtain ⟨n1, hn1⟩ : ∃ n1, n1 = n + 1 := ⟨_, rfl⟩
  rw [← hn1] at wn hN
  have wN : IntKind.i64.wrap ((n1 : Int) * M) = (N : Int) := by
    have e : (n1 : Int) * M = (N : Int) := by rw [hN, Int.natCast_mul]
    rw [e, IntWalk.i64_in _ (by omega)]
  have hmk := make_nums N (by omega)
  obtain ⟨CS, hCS⟩ : ∃ CS, CS = ((List.replicate N (0 : Int)).map (Value.int .i64)).toArray := ⟨_, rfl⟩
  rw [← hCS] at hmk
  obtain ⟨g, hg⟩ : ∃ g, g = w.heap.size := ⟨_, rfl⟩
  have H0 := Lib.hid (show RefS w (w.alloc (.cells CS 3)) g N M la lb 0 (List.replicate N 0) from ⟨by rw [hCS, hg]; exact heap_alloc_new w _, List.length_replicate, (Below.refl _ _).alloc (Nat.le_refl _) _, by rw [hg]; exact Nat.le_refl _, fun i k _ h => absurd h (Nat.not_lt_zero _)⟩)
  have HN := Lib.hid (And.intro hn (And.intro hm (And.intro hM (And.intro hN (And.intro hN2 (And.intro hn1 (And.intro na nb)))))))
  have n1000 : n ≤ 1000 := na
  have m1000 : m ≤ 1000 := nb
  clear ha hb hn hm hM hN hN2 hn1 hCS na nb
  go_enter Try.func8, Try.ntmps8
  go_wp2_with fail
  rw [← hg]
  clear hg
  obtain ⟨w1, hw1⟩ : ∃ w1, w1 = w.alloc (.cells CS 3) := ⟨_, rfl⟩
  rw [← hw1] at H0 ⊢
  clear hw1 hmk
  go_loopg [8] (n + 1) (fun gg i wr => ∃ ik : Nat, ik + gg = n + 1 ∧ i = .int .i64 ik ∧ Hid (∃ R, RefS w wr g N M la lb (ik * M) R))
  case atStart => exact ⟨0, by omega, rfl, Lib.hid ⟨_, by rw [Nat.zero_mul]; exact H0.out⟩⟩
  case round =>
    obtain ⟨i, hi, rfl, HP⟩ := hrel
    by_cases hlt : i ≤ n
    · have e1 : (i : Int) ≤ n := by omega
      have wi1 : IntKind.i64.wrap ((i : Int) + 1) = ((i + 1 : Nat) : Int) := by rw [IntWalk.i64_in _ (by omega)]; omega
      obtain ⟨g1, hg1⟩ : ∃ g1, g1 + 1 = gk := ⟨gk - 1, by omega⟩
      obtain ⟨P, hP⟩ : ∃ P, P = i * M := ⟨_, rfl⟩
      have hPn : P + M ≤ N := by
        obtain ⟨-, -, -, h4, -, h6, -⟩ := HN.out
        rw [h4, h6, Nat.succ_mul, hP]
        exact Nat.add_le_add_right (Nat.mul_le_mul_right M hlt) M
      have hN2 := HN.out.2.2.2.2.1
      have hMm := HN.out.2.2.1
      have wP : IntKind.i64.wrap ((i : Int) * M) = (P : Int) := by
        have e : (i : Int) * M = (P : Int) := by rw [hP, Int.natCast_mul]
        rw [e, IntWalk.i64_in _ (by omega)]
      rw [← hP] at HP
      have HPP := Lib.hid hP
      have HPN := Lib.hid (And.intro hPn (And.intro hN2 hMm))
      clear hP hPn hN2 hMm
      go_wp2_with fail
      go_loopg [9] (m + 1) (fun gg kk wr => ∃ k : Nat, k + gg = m + 1 ∧ kk = .int .i64 k ∧ Hid (∃ R, RefS w wr g N M la lb (P + k) R))
      case atStart => exact ⟨0, by omega, rfl, HP⟩
      case round =>
        obtain ⟨k, hk, rfl, HQ⟩ := hrel
        by_cases hkl : k ≤ m
        · have e2 : (k : Int) ≤ m := by omega
          have wk1 : IntKind.i64.wrap ((k : Int) + 1) = ((k + 1 : Nat) : Int) := by rw [IntWalk.i64_in _ (by omega)]; omega
          obtain ⟨at', hat⟩ : ∃ at', at' = P + k := ⟨_, rfl⟩
          have wat : IntKind.i64.wrap ((P : Int) + k) = (at' : Int) := by rw [IntWalk.i64_in _ (by have := HPN.out; omega)]; omega
          rw [← hat] at HQ
          obtain ⟨R, hR⟩ := HQ.out
          have jat : at' < N := by have := HPN.out; omega
          have HP1 := Lib.hid (fun n v hv => (show RefS w ((wr.drewN n).setCell ⟨g, at', none⟩ (.int .i64 v)) g N M la lb (P + (k + 1)) (R.set at' v) from by
            have := hR.set i k (by have := HPN.out; omega) (by rw [hat, HPP.out]) jat n v hv
            rw [hat] at this ⊢
            exact this))
          obtain ⟨o, ho⟩ : ∃ o, R[at']? = some o := ⟨_, List.getElem?_eq_getElem (by rw [hR.len]; exact jat)⟩
          have co := hR.row.cell ho
          have fz := hR.row.frozen
          have HR := Lib.hid hR
          have HAT := Lib.hid hat
          clear hR HQ ho hat
          by_cases hk0 : k = 0
          · have d1 : ((k : Int) == 0) = true := by simpa using hk0
            have d2 : decide ((k : Int) = 0) = true := by simpa using hk0
            have HV := Lib.hid (show (i : Int) = (cellL la lb i k : Nat) by rw [hk0, cellL_top la lb i (by have := HN.out; omega)])
            clear hk0
            go_wp2_with fail
            go_roundg (gk - 1)
            case measure => omega
            case rel => exact ⟨k + 1, by omega, by go_num, _, HP1.out 0 _ HV.out⟩
          · have d1 : ((k : Int) == 0) = false := by simpa using hk0
            have d2 : decide ((k : Int) = 0) = false := by simpa using hk0
            by_cases hi0 : i = 0
            · have d3 : ((i : Int) == 0) = true := by simpa using hi0
              have d4 : decide ((i : Int) = 0) = true := by simpa using hi0
              have HV := Lib.hid (show (k : Int) = (cellL la lb i k : Nat) by rw [hi0, cellL_left la lb k (by have := HN.out; omega)])
              clear hi0 hk0
              go_wp2_with fail
              go_roundg (gk - 1)
              case measure => omega
              case rel => exact ⟨k + 1, by omega, by go_num, _, HP1.out 0 _ HV.out⟩
            · have d3 : ((i : Int) == 0) = false := by simpa using hi0
              have d4 : decide ((i : Int) = 0) = false := by simpa using hi0
              obtain ⟨b, off, cap2, b', off', cap2', i1, k1, a1, a2, a3, a4, x, y, z, c, x1, y1, z1, v1, MM, a5, a6, i2, k2, u1, xa, xb, eA, eB, hcap, hcap', ca, cb, wi', wk', j1, j2, wa1, wa2, wa3, wa4, ja2, ja3, ja4, cy, cz, cx, wx1, wy1, wz1, hv1, w2M, hu0, hu, hx2, hc⟩ := ref_step w wr _ _ g N M n m P at' i k la lb R (HA.out.keep HR.out.below) (HB.out.keep HR.out.below) HR.out HN.out.1 HN.out.2.1 n1000 m1000 HPN.out.1 HPN.out.2.1 HPN.out.2.2 HPP.out HAT.out hlt hkl hi0 hk0
              injection eA with eA1 eA2 eA3
              injection eB with eB1 eB2 eB3
              subst eA1 eA3 eB1 eB3
              have HV1 := Lib.hid hv1
              have HU0 := Lib.hid hu0
              have HU := Lib.hid hu
              have HX2 := Lib.hid hx2
              have HC := Lib.hid hc
              clear hv1 hu0 hu hx2 hc eA2 eB2 hi0 hk0
              have dEb : (xa == xb) = decide (xa = xb) := by by_cases e : xa = xb <;> simp [e]
              go_upto_region 11 with fail
              go_cut [49] from 39 to 49 (fun t wx => t = .bool (decide (xa = xb)) ∧ ∃ n, wx = wr.drewN n)
              case first =>
                go_quiet (fail)
                go_wp2_with fail
                go_meet
                exact ⟨rfl, _, rfl⟩
              case rest =>
              obtain ⟨rfl, n11, rfl⟩ := hcut
              clear dEb
              go_step
              go_cut [11] from 39 to 49 (fun t wx => t = .int .i64 c ∧ wx = wr.drewN n11)
              case first =>
                rcases Bool.eq_false_or_eq_true (decide (xa = xb)) with dE | dE
                · have hc0 : c = 0 := by rw [HC.out, dE, if_pos rfl]
                  subst hc0
                  rw [dE]
                  clear HC
                  go_wp2_with fail
                  go_meet
                  exact ⟨rfl, rfl⟩
                · have hc1 : c = 1 := by rw [HC.out, dE, if_neg Bool.false_ne_true]
                  subst hc1
                  rw [dE]
                  clear HC
                  go_wp2_with fail
                  go_meet
                  exact ⟨rfl, rfl⟩
              case rest =>
              obtain ⟨rfl, rfl⟩ := hcut
              clear HC
              go_upto_region 13 with fail
              go_cut [12] from 50 to 73 (fun t wx => t = .int .i64 v1 ∧ ∃ n, wx = wr.drewN n)
              case first =>
                go_quiet (fail)
                go_wp2_with fail
                all_goals go_meet
                all_goals exact ⟨int_eq1 (by have := HV1.out; omega), _, rfl⟩
              case rest =>
              obtain ⟨rfl, n13, rfl⟩ := hcut
              go_upto_region 14 with fail
              go_cut [105] from 74 to 105 (fun t wx => t = .bool (exL la lb i k) ∧ ∃ n, wx = wr.drewN n)
              case first =>
                by_cases h1 : 1 < i
                · have g1 : decide ((1 : Int) < i) = true := decide_eq_true (by omega)
                  by_cases h2 : 1 < k
                  · have g2 : decide ((1 : Int) < k) = true := decide_eq_true (by omega)
                    obtain ⟨y1, y2, ub, uc, wi2, wk2, j5, j6, hex⟩ := HX2.out h1 h2
                    have HE := Lib.hid hex
                    clear hex
                    rcases Bool.eq_false_or_eq_true (decide (xa = y1)) with dY | dY
                    · have HE2 := Lib.hid (show exL la lb i k = (true && decide (y2 = xb)) by rw [HE.out, dY])
                      have dY' : (xa == y1) = true := by simpa using dY
                      go_quiet (fail)
                      go_wp2_with fail
                      go_meet
                      exact ⟨congrArg Value.bool HE2.out.symm, _, by rw [World.drewN_drewN]⟩
                    · have HE2 := Lib.hid (show exL la lb i k = (false && decide (y2 = xb)) by rw [HE.out, dY])
                      have dY' : (xa == y1) = false := by simpa using dY
                      go_quiet (fail)
                      go_wp2_with fail
                      go_meet
                      exact ⟨congrArg Value.bool HE2.out.symm, _, by rw [World.drewN_drewN]⟩
                  · have g2 : decide ((1 : Int) < k) = false := decide_eq_false (by omega)
                    have HE2 := Lib.hid (show exL la lb i k = false by unfold exL; simp [h2])
                    go_quiet (fail)
                    go_wp2_with fail
                    go_meet
                    exact ⟨congrArg Value.bool HE2.out.symm, _, by rw [World.drewN_drewN]⟩
                · have g1 : decide ((1 : Int) < i) = false := decide_eq_false (by omega)
                  have HE2 := Lib.hid (show exL la lb i k = false by unfold exL; simp [h1])
                  go_quiet (fail)
                  go_wp2_with fail
                  go_meet
                  exact ⟨congrArg Value.bool HE2.out.symm, _, by rw [World.drewN_drewN]⟩
              case rest =>
              obtain ⟨rfl, n14, rfl⟩ := hcut
              rcases Bool.eq_false_or_eq_true (exL la lb i k) with dX | dX
              · rw [dX]
                obtain ⟨u, cu, wa5, wa6, ja6, wu, hfin⟩ := HU.out dX
                have HF := Lib.hid hfin
                clear hfin
                go_wp2_with fail
                all_goals
                  go_roundg (gk - 1)
                  case measure => omega
                  case rel => exact ⟨k + 1, by omega, by go_num, _, HP1.out _ _ (by have := HF.out; omega)⟩
              · rw [dX]
                have HF := Lib.hid (HU0.out dX)
                go_wp2_with fail
                go_roundg (gk - 1)
                case measure => omega
                case rel => exact ⟨k + 1, by omega, by go_num, _, HP1.out _ _ (by have := HF.out; omega)⟩
        · have e2 : ¬ (k : Int) ≤ m := by omega
          obtain rfl : k = m + 1 := by omega
          have HQ2 := Lib.hid (show ∃ R, RefS w wr g N M la lb ((i + 1) * M) R from by
            have := HQ.out
            rw [HPP.out, ← HPN.out.2.2, ← Nat.succ_mul] at this
            exact this)
          go_wp2_with fail
          go_roundg g1
          case measure => omega
          case rel => exact ⟨i + 1, by omega, by go_num, HQ2⟩
    · have e1 : ¬ (i : Int) ≤ n := by omega
      obtain rfl : i = n + 1 := by omega
      obtain ⟨R, hR⟩ := HP.out
      obtain ⟨h1, h2, h3, h4, h5, h6, h7, h8⟩ := HN.out
      obtain ⟨P, hP⟩ : ∃ P, P = n * M := ⟨_, rfl⟩
      have hPN : P + M = N := by rw [h4, h6, Nat.succ_mul, hP]
      have wP : IntKind.i64.wrap ((n : Int) * M) = (P : Int) := by
        have e : (n : Int) * M = (P : Int) := by rw [hP, Int.natCast_mul]
        rw [e, IntWalk.i64_in _ (by omega)]
      obtain ⟨E, hE⟩ : ∃ E, E = P + m := ⟨_, rfl⟩
      have wE : IntKind.i64.wrap ((P : Int) + m) = (E : Int) := by rw [IntWalk.i64_in _ (by omega)]; omega
      have jE : E < N := by omega
      have hc := hR.cell (i := n) (k := m) (q := E) (by omega) (by rw [hE, hP]) (by rw [← h6, ← h4]; exact jE)
      have hf : cellL la lb n m = farL la lb := by rw [h1, h2]; exact cellL_all la lb
      rw [hf] at hc
      have HBE := Lib.hid hR.below
      clear hR HP h1 h2 h3 h4 h5 h6 h7 h8 hP hPN hE hf
      go_wp2_with fail
      go_ret
      exact ⟨rfl, HBE.out⟩
end Go.Proofs.Ytbghfbhchmoddaa
