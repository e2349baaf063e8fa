/- An argument that is an affix file reads as one. -/
import Derived.Test.YtcbmfkgekhadkaaGreatDoorROpen
import Derived.Test.YtcbmfkgekhadkaaGreatDoorZGb
namespace Go.Proofs.YtcbmfkgekhadkaaGreatDoor
open Go Go.ChangeShapes Go.WideShapes Go.ChangeAt Go.RowKit Go.Deep

theorem Tryz.cellsV34 : Tryz.prog.cellsOf 34 = 2 := by kernel_rfl
theorem Tryz.cellsV75 : Tryz.prog.cellsOf 75 = 2 := by kernel_rfl
theorem Tryz.cellsV22 : Tryz.prog.cellsOf 22 = 1 := by kernel_rfl
theorem Tryz.cellsV32 : Tryz.prog.cellsOf 32 = 1 := by kernel_rfl
instance : Inhabited Ru := ⟨ru0⟩

theorem wts_all {H : Type} {P : Program} {e : TypeId} {n : Nat} : ∀ (l : List (DataW H)) (d : DataW H), d ∈ l → n ∈ DataW.weights P e d → n ∈ DataW.weightsAll P e l
  | [], d, h, _ => by cases h
  | x :: l, d, h, hn => by
    unfold DataW.weightsAll
    rcases List.mem_cons.1 h with rfl | h
    · exact List.mem_append_left _ hn
    · exact List.mem_append_right _ (wts_all l d h hn)
set_option maxRecDepth 100000 in
theorem rule_wts {H : Type} {a b : Bool} {k : Int} {s t : List UInt8} {y : DataW H} :
    s.length ∈ DataW.weights Tryz.prog 51 (.agg [.lit (.bool a), .lit (.int .i64 k), .lit (.bool b), .lit (.string s), .lit (.string t), y] : DataW H) ∧ t.length ∈ DataW.weights Tryz.prog 51 (.agg [.lit (.bool a), .lit (.int .i64 k), .lit (.bool b), .lit (.string s), .lit (.string t), y] : DataW H) := by
  constructor <;> simp [DataW.weights, DataW.weightsEach, Tryz.underlying51]
/-- What is known of a rule that came in. -/
def InR {H : Type} (ns : List Nat) (r : Ru) (_ : H) : Prop := (-9223372036854775808 ≤ r.flag ∧ r.flag ≤ 9223372036854775807) ∧ r.strip.data.toList.length ∈ ns ∧ r.add.data.toList.length ∈ ns

set_option maxRecDepth 100000 in
/-- A slice of rules, within something. -/
theorem r_rules {H : Type} {enc : TypeId × Value → H} {W : World} {fuel : Nat} {v : Value} {x : DataW H × List MemPlace}
    (hf : DataW.trod enc Tryz.prog W 0 (fun _ => true) true fuel 22 [v] = some x) : ∃ rs : List Ru, RulesAt W v rs ∧ ∀ r ∈ rs, InR (DataW.weights Tryz.prog 22 x.1) r () := by
  rcases open_slice Tryz.underlying22 hf with ⟨hcs, _⟩ | ⟨a, len, cap', m, k, D, Pl, hcs, _, hl, hm, hmm, hx, hi⟩
  · obtain rfl : v = .slice none 0 0 := by simpa using hcs
    exact ⟨[], .inl ⟨rfl, _, _, rfl⟩, fun r h => by cases h⟩
  · obtain rfl : v = .slice (some a) len cap' := by simpa using hcs
    simp only [if_true] at hmm
    have each : ∀ i, i < len → ∃ o : Ru, (W.cell? (a.add (i * 6)) = some (.bool o.pre) ∧ W.cell? (a.add (i * 6 + 1)) = some (.int .i64 o.flag) ∧ W.cell? (a.add (i * 6 + 2)) = some (.bool o.cross) ∧ W.cell? (a.add (i * 6 + 3)) = some (.string o.strip) ∧ W.cell? (a.add (i * 6 + 4)) = some (.string o.add) ∧ ∃ A cap, W.cell? (a.add (i * 6 + 5)) = some (.slice A o.cond.length cap) ∧ ItemsAt W (.slice A o.cond.length cap) o.cond) ∧
        (-9223372036854775808 ≤ o.flag ∧ o.flag ≤ 9223372036854775807) ∧ ∃ y, D i = .agg [.lit (.bool o.pre), .lit (.int .i64 o.flag), .lit (.bool o.cross), .lit (.string o.strip.data.toList), .lit (.string o.add.data.toList), y] := by
      intro i hin
      obtain ⟨cs', h1, h2⟩ := hi i (by omega)
      rw [Tryz.cellsR51] at h1
      obtain ⟨_, hlen, hcell⟩ := World.cells?_some h1
      obtain ⟨xs, k', _, hd, _, hxl, hfd⟩ := DataW.trod_struct Tryz.underlying51 h2
      match cs', hlen, xs, hxl with
      | [x0, x1, x2, x3, x4, x5], _, [y0, y1, y2, y3, y4, y5], _ =>
        have g0 := hfd 0 _ rfl
        have g1 := hfd 1 _ rfl
        have g2 := hfd 2 _ rfl
        have g3 := hfd 3 _ rfl
        have g4 := hfd 4 _ rfl
        have g5 := hfd 5 _ rfl
        simp [Tryz.cellsR3, Tryz.cellsR9, Tryz.cellsR4, Tryz.cellsR49] at g0 g1 g2 g3 g4 g5
        obtain ⟨b0, e0, q0⟩ := DataW.trod_bool Tryz.underlying4 g0
        obtain ⟨n1, e1, q1, u1⟩ := DataW.trod_int Tryz.underlying3 g1
        obtain ⟨b2, e2, q2⟩ := DataW.trod_bool Tryz.underlying4 g2
        obtain ⟨s3, e3, q3, _⟩ := DataW.trod_string Tryz.underlying9 g3
        obtain ⟨s4, e4, q4, _⟩ := DataW.trod_string Tryz.underlying9 g4
        obtain ⟨l, hl5⟩ := r_items g5
        simp at e0 e1 e2 e3 e4
        subst e0 e1 e2 e3 e4 q0 q1 q2 q3 q4
        obtain ⟨A, cap, hx5, hA⟩ : ∃ A cap, x5 = .slice A l.length cap ∧ ItemsAt W (.slice A l.length cap) l := by
          rcases id hl5 with ⟨rfl, a, cap, rfl⟩ | ⟨b, off, cap, rfl, _⟩
          · exact ⟨a, cap, rfl, hl5⟩
          · exact ⟨_, cap, rfl, hl5⟩
        subst hx5
        have w0 := hcell 0 (by omega)
        have w1 := hcell 1 (by omega)
        have w2 := hcell 2 (by omega)
        have w3 := hcell 3 (by omega)
        have w4 := hcell 4 (by omega)
        have w5 := hcell 5 (by omega)
        rw [add_add] at w0 w1 w2 w3 w4 w5
        exact ⟨⟨b0, n1, b2, s3, s4, l⟩, ⟨by simpa using w0, by simpa using w1, by simpa using w2, by simpa using w3, by simpa using w4, A, cap, by simpa using w5, hA⟩, bounds_i64 u1, y5.1, (Prod.mk.inj hd).1⟩
    obtain ⟨f, hfc⟩ := choose_lt each
    by_cases h0 : len = 0
    · subst h0
      exact ⟨[], .inl ⟨rfl, _, _, rfl⟩, fun r h => by cases h⟩
    · obtain ⟨b, off, rfl, hb, hadd⟩ := r_spot (a := a) (n := 0) (by simpa using (hfc 0 (by omega)).1.1) ⟨_, by simpa [Addr.add] using (hfc 0 (by omega)).1.1⟩
      have hgl : ((List.range len).map f).length = len := by simp
      refine ⟨(List.range len).map f, .inr ⟨b, off, cap', by rw [hgl], hb, by omega, hm, fun i e he => ?_⟩, fun r hr => ?_⟩
      · have hin : i < len := by rw [← hgl]; exact (List.getElem?_eq_some_iff.1 he).1
        have hfi : e = f i := by
          rw [List.getElem?_map, List.getElem?_range hin] at he
          simpa using he.symm
        obtain ⟨⟨c0, c1, c2, c3, c4, A, cap, c5, c6⟩, -⟩ := hfc i hin
        rw [hadd] at c0 c1 c2 c3 c4 c5
        rw [hfi]
        exact ⟨c0, by rw [Nat.add_assoc]; exact c1, by rw [Nat.add_assoc]; exact c2, by rw [Nat.add_assoc]; exact c3, by rw [Nat.add_assoc]; exact c4, A, cap, by rw [Nat.add_assoc]; exact c5, c6⟩
      · obtain ⟨i, hi1, rfl⟩ := List.mem_map.1 hr
        have hin := List.mem_range.1 hi1
        obtain ⟨-, hfl, y, hD⟩ := hfc i hin
        have hw := rule_wts (H := H) (a := (f i).pre) (b := (f i).cross) (k := (f i).flag) (s := (f i).strip.data.toList) (t := (f i).add.data.toList) (y := y)
        rw [← hD] at hw
        have hmem : D i ∈ (List.range len).map D := List.mem_map.2 ⟨i, hi1, rfl⟩
        have hall : ∀ n, n ∈ DataW.weights Tryz.prog 51 (D i) → n ∈ DataW.weights Tryz.prog 22 x.1 := fun n hn => by
          rw [hx]
          show n ∈ DataW.weights Tryz.prog 22 (.slice _ _)
          unfold DataW.weights
          rw [Tryz.underlying22]
          exact List.mem_cons_of_mem _ (List.mem_append_left _ (wts_all _ _ hmem hn))
        exact ⟨hfl, hall _ hw.1, hall _ hw.2⟩

set_option maxRecDepth 100000 in
/-- A slice of pairs, within something. -/
theorem r_pairs {H : Type} {enc : TypeId × Value → H} {W : World} {fuel : Nat} {v : Value} {x : DataW H × List MemPlace}
    (hf : DataW.trod enc Tryz.prog W 0 (fun _ => true) true fuel 32 [v] = some x) : ∃ ps : List (Int × Int), PairsAt W v ps := by
  rcases open_slice Tryz.underlying32 hf with ⟨hcs, _⟩ | ⟨a, len, cap', m, k, D, Pl, hcs, _, hl, hm, hmm, hx, hi⟩
  · obtain rfl : v = .slice none 0 0 := by simpa using hcs
    exact ⟨[], .inl ⟨rfl, _, _, rfl⟩⟩
  · obtain rfl : v = .slice (some a) len cap' := by simpa using hcs
    simp only [if_true] at hmm
    have each : ∀ i, i < len → ∃ o : Int × Int, W.cell? (a.add (i * 2)) = some (.int .i64 o.1) ∧ W.cell? (a.add (i * 2 + 1)) = some (.int .i64 o.2) := by
      intro i hin
      obtain ⟨cs', h1, h2⟩ := hi i (by omega)
      rw [Tryz.cellsV75] at h1
      obtain ⟨_, hlen, hcell⟩ := World.cells?_some h1
      obtain ⟨xs, k', _, hd, _, hxl, hfd⟩ := DataW.trod_struct Tryz.underlying75 h2
      match cs', hlen, xs, hxl with
      | [x0, x1], _, [y0, y1], _ =>
        have g0 := hfd 0 _ rfl
        have g1 := hfd 1 _ rfl
        simp [Tryz.cellsR3] at g0 g1
        obtain ⟨n0, e0, q0, u0⟩ := DataW.trod_int Tryz.underlying3 g0
        obtain ⟨n1, e1, q1, u1⟩ := DataW.trod_int Tryz.underlying3 g1
        simp at e0 e1
        subst e0 e1
        have w0 := hcell 0 (by omega)
        have w1 := hcell 1 (by omega)
        rw [add_add] at w0 w1
        exact ⟨(n0, n1), by simpa using w0, by simpa using w1⟩
    obtain ⟨f, hfc⟩ := choose_lt each
    by_cases h0 : len = 0
    · subst h0
      exact ⟨[], .inl ⟨rfl, _, _, rfl⟩⟩
    · obtain ⟨b, off, rfl, hb, hadd⟩ := r_spot (a := a) (n := 0) (by simpa using (hfc 0 (by omega)).1) ⟨_, by simpa [Addr.add] using (hfc 0 (by omega)).1⟩
      have hgl : ((List.range len).map f).length = len := by simp
      refine ⟨(List.range len).map f, .inr ⟨b, off, cap', by rw [hgl], hb, by omega, hm, fun i e he => ?_⟩⟩
      have hin : i < len := by rw [← hgl]; exact (List.getElem?_eq_some_iff.1 he).1
      have hfi : e = f i := by
        rw [List.getElem?_map, List.getElem?_range hin] at he
        simpa using he.symm
      obtain ⟨c0, c1⟩ := hfc i hin
      rw [hadd] at c0 c1
      rw [hfi]
      exact ⟨c0, by rw [Nat.add_assoc]; exact c1⟩

set_option maxRecDepth 100000 in
theorem open_aff {H : Type} {enc : TypeId × Value → H} {W : World} {base : Nat} {v : Value} {d : DataW H} {ps : List MemPlace}
    (hval : Value.okWide Tryz.prog W .any base 34 v) (h : DataW.Trod enc Tryz.prog W 0 (fun _ => true) true 34 v d ps) :
    ∃ a : Af, AffAt W v a ∧ ∀ r ∈ a.rules, InR (DataW.weights Tryz.prog 34 d) r () := by
  obtain ⟨cs, rfl, hsz⟩ := okWide_struct Tryz.underlying34 hval
  rw [Tryz.cellsV34] at hsz
  obtain ⟨fuel, hf⟩ := h
  obtain ⟨cl⟩ := cs
  have hcl : (Value.agg ⟨cl⟩).cells.toList = cl := by simp [Value.cells]
  rw [hcl] at hf
  obtain ⟨xs, k', _, hd, _, hxl, hfd⟩ := DataW.trod_struct Tryz.underlying34 hf
  match cl, hsz, xs, hxl with
  | [x0, x1], _, [y0, y1], _ =>
    have g0 := hfd 0 _ rfl
    have g1 := hfd 1 _ rfl
    simp [Tryz.cellsV22, Tryz.cellsV32] at g0 g1
    obtain ⟨rs, hr, hin⟩ := r_rules g0
    obtain ⟨qs, hp⟩ := r_pairs g1
    obtain ⟨A, cA, hx0, hA⟩ : ∃ A cap, x0 = .slice A rs.length cap ∧ RulesAt W (.slice A rs.length cap) rs := by
      rcases id hr with ⟨rfl, a, cap, rfl⟩ | ⟨b, off, cap, rfl, _⟩
      · exact ⟨a, cap, rfl, hr⟩
      · exact ⟨_, cap, rfl, hr⟩
    obtain ⟨B, cB, hx1, hB⟩ : ∃ A cap, x1 = .slice A qs.length cap ∧ PairsAt W (.slice A qs.length cap) qs := by
      rcases id hp with ⟨rfl, a, cap, rfl⟩ | ⟨b, off, cap, rfl, _⟩
      · exact ⟨a, cap, rfl, hp⟩
      · exact ⟨_, cap, rfl, hp⟩
    subst hx0 hx1
    have hd1 : d = .agg [y0.1, y1.1] := (Prod.mk.inj hd).1
    refine ⟨⟨rs, qs⟩, ⟨A, cA, B, cB, rfl, hA, hB⟩, fun r hrm => ?_⟩
    obtain ⟨k1, k2, k3⟩ := hin r hrm
    have hall : ∀ n, n ∈ DataW.weights Tryz.prog 22 y0.1 → n ∈ DataW.weights Tryz.prog 34 d := fun n hn => by
      rw [hd1]
      unfold DataW.weights
      rw [Tryz.underlying34]
      exact List.mem_append_left _ hn
    exact ⟨k1, hall _ k2, hall _ k3⟩
end Go.Proofs.YtcbmfkgekhadkaaGreatDoor
