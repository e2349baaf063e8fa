/- Stage 11's law AffixMany, out of what is asked of affix's calls. -/
import Derived.Test.YteenleedonmkmaaDoorVBack
import Derived.Laws.MakeOwn
import Derived.Laws.IdiomStrings
import Derived.Laws.Runes
import Derived.Deep.CutRange
import Derived.Deep.DeepCutAuto
namespace Go.Proofs.YteenleedonmkmaaDoor
open Go Go.RowKit Go.Lib

/-! ### As many rules -/
def ruleB : ByteArray := ⟨#[83, 70, 88, 32, 83, 32, 89, 32, 48, 32, 115, 32, 46, 10]⟩
def rule0 : List UInt8 := [83, 70, 88, 32, 83, 32, 89, 32, 48, 32, 115, 32, 46]
def ru1 : Ru := ⟨false, 83, true, ⟨#[]⟩, ⟨#[115]⟩, [⟨true, false, []⟩]⟩
theorem rule0_parse : parseR ⟨rule0.toArray⟩ = some ru1 := by decide +kernel
theorem m_app (a b : ByteArray) : (a ++ b).data.toList = a.data.toList ++ b.data.toList := by
  rw [ByteArray.data_append, Array.toList_append]
def manyR : Nat → ByteArray
  | 0 => ⟨#[]⟩
  | i + 1 => manyR i ++ ruleB
theorem manyR_list : ∀ n, (manyR n).data.toList = ((List.replicate n rule0).map fun l => l ++ [10]).flatten
  | 0 => rfl
  | n + 1 => by
    have ih := manyR_list n
    show (manyR n ++ ruleB).data.toList = _
    rw [m_app, ih, List.replicate_succ', List.map_append, List.flatten_append]
    rfl
theorem manyR_size (n : Nat) : (manyR n).size = 14 * n := by
  rw [Lib.size_eq, manyR_list]
  induction n with
  | zero => rfl
  | succ n ih => rw [List.replicate_succ, List.map_cons, List.flatten_cons, List.length_append, ih]; simp [rule0]; omega
theorem step_rule0 (d : Rd) (n : Nat) : stepA d n rule0 = { d with rules := d.rules ++ [ru1], at_ := d.at_ ++ [n] } := by
  have hp : pairL d.pairs rule0 = none := by unfold pairL; rw [if_neg (by decide)]
  unfold stepA
  rw [if_neg (by decide), hp, rule0_parse]
theorem read_rules0 : ∀ (m : Nat) (d : Rd) (n : Nat), ∃ at_, readA d n (List.replicate m rule0) = { d with rules := d.rules ++ List.replicate m ru1, at_ := d.at_ ++ at_ }
  | 0, d, n => ⟨[], by simp [readA]⟩
  | m + 1, d, n => by
    obtain ⟨at_, h⟩ := read_rules0 m { d with rules := d.rules ++ [ru1], at_ := d.at_ ++ [n] } (n + 1)
    refine ⟨n :: at_, ?_⟩
    rw [List.replicate_succ]
    show readA (stepA d n rule0) (n + 1) _ = _
    rw [step_rule0, h]
    simp [List.replicate_succ]
theorem flag_same : ∀ (m : Nat) (seen : List Ru) (at_ : List Nat), (∀ r ∈ seen, r = ru1) → flagA seen (List.replicate m ru1) at_ = 0
  | 0, _, _, _ => rfl
  | m + 1, seen, at_, h => by
    rw [List.replicate_succ]
    unfold flagA
    have hc : clash seen ru1 = false := by
      unfold clash
      rw [List.any_eq_false]
      intro r hr
      rw [h r hr]; simp
    rw [hc]
    simp only [Bool.false_eq_true, if_false]
    exact flag_same m _ _ fun r hr => by
      rcases List.mem_append.1 hr with hr | hr
      · exact h r hr
      · exact List.mem_singleton.1 hr
theorem manyR_parse (n : Nat) (hn : n ≤ 1000) : (parseA (manyR n)).2 = (0, if n ≤ 200 then 0 else 3) := by
  unfold parseA
  rw [if_neg (by rw [manyR_size]; omega), manyR_list, linesL_flat _ (fun l hl => by rw [List.eq_of_mem_replicate hl]; decide)]
  obtain ⟨at_, h⟩ := read_rules0 n rd0 1
  have h' : readA rd0 1 (List.replicate n rule0) = ⟨List.replicate n ru1, at_, [], 0⟩ := by rw [h]; simp [rd0]
  rw [h']
  unfold endA
  dsimp only
  rw [flag_same n [] at_ (fun r hr => by cases hr), List.length_replicate, List.length_nil]
  by_cases h2 : n ≤ 200
  · rw [if_pos h2, if_neg (by omega), if_neg (by omega), if_neg (by omega)]
  · rw [if_neg h2, if_pos (by omega)]

/-! ### As many pairs -/
def pairN (i : Nat) : Int × Int := ((16384 + 2 * i : Nat), (16385 + 2 * i : Nat))
theorem pairN_pt (i : Nat) (hi : i ≤ 1000) : Pt (pairN i).1 ∧ Pt (pairN i).2 ∧ (pairN i).1 ≠ 10 ∧ (pairN i).2 ≠ 10 := by
  unfold Pt Utf8.valid pairN
  simp
  omega
theorem pairsN_ok (n : Nat) (hn : n ≤ 1000) : PairsOk ((List.range n).map pairN) := by
  intro a p b e
  have hl : a.length < n := by
    have := congrArg List.length e
    simp at this; omega
  have hp : p = pairN a.length := by
    have h1 : ((List.range n).map pairN)[a.length]? = some p := by rw [e, List.getElem?_append_right (Nat.le_refl _)]; simp
    rw [List.getElem?_map, List.getElem?_range hl] at h1
    exact (Option.some.inj h1).symm
  have ha : ∀ q ∈ a, ∃ j, j < a.length ∧ q = pairN j := fun q hq => by
    obtain ⟨j, hj, hq2⟩ := List.getElem_of_mem hq
    refine ⟨j, hj, ?_⟩
    have h1 : ((List.range n).map pairN)[j]? = some q := by rw [e, List.getElem?_append_left hj, List.getElem?_eq_getElem hj, hq2]
    rw [List.getElem?_map, List.getElem?_range (by omega)] at h1
    exact (Option.some.inj h1).symm
  have hu : ∀ c : Int, (c = (pairN a.length).1 ∨ c = (pairN a.length).2) → usedP a c = false := fun c hc => by
    unfold usedP
    rw [List.any_eq_false]
    intro q hq
    obtain ⟨j, hj, rfl⟩ := ha q hq
    unfold pairN at hc ⊢
    simp
    dsimp only at hc
    omega
  obtain ⟨k1, k2, k3, k4⟩ := pairN_pt a.length (by omega)
  subst hp
  refine ⟨?_, k1, k2, k3, k4⟩
  have p1 : plainC (pairN a.length).1 = false := by unfold plainC pairN; exact decide_eq_false (by dsimp only; omega)
  have p2 : plainC (pairN a.length).2 = false := by unfold plainC pairN; exact decide_eq_false (by dsimp only; omega)
  have p3 : ((pairN a.length).1 == (pairN a.length).2) = false := by unfold pairN; simp
  unfold okPair
  rw [p1, p2, p3, hu _ (.inl rfl), hu _ (.inr rfl)]
  rfl
def manyP : Nat → ByteArray
  | 0 => ⟨#[]⟩
  | i + 1 => manyP i ++ ⟨#[67, 65, 83, 69, 32]⟩ ++ Utf8.encode (16384 + 2 * (i : Int)) ++ Utf8.encode (16385 + 2 * (i : Int)) ++ ⟨#[10]⟩
theorem manyP_list (n : Nat) (hn : n ≤ 1000) : (manyP n).data.toList = (((List.range n).map pairN).map pairT |>.map fun l => l ++ [10]).flatten := by
  induction n with
  | zero => rfl
  | succ n ih =>
    obtain ⟨k1, k2, _, _⟩ := pairN_pt n (by omega)
    show (manyP n ++ ⟨#[67, 65, 83, 69, 32]⟩ ++ Utf8.encode (16384 + 2 * (n : Int)) ++ Utf8.encode (16385 + 2 * (n : Int)) ++ ⟨#[10]⟩).data.toList = _
    rw [m_app, m_app, m_app, m_app, ih (by omega), List.range_succ, List.map_append, List.map_append, List.map_append, List.flatten_append]
    have hpt : ∀ c ∈ [(pairN n).1, (pairN n).2], Pt c := fun c hc => by
      simp only [List.mem_cons, List.not_mem_nil, or_false] at hc
      rcases hc with rfl | rfl
      · exact k1
      · exact k2
    have hT : pairT (pairN n) = [67, 65, 83, 69, 32] ++ ((Utf8.encode (16384 + 2 * (n : Int))).data.toList ++ (Utf8.encode (16385 + 2 * (n : Int))).data.toList) := by
      unfold pairT
      rw [ptL_enc hpt]
      simp [encL, caseW, pairN]
    simp only [List.map_cons, List.map_nil, List.flatten_cons, List.flatten_nil, List.append_nil, hT, List.append_assoc]
theorem manyP_parse (n : Nat) (hn : n ≤ 1000) : (parseA (manyP n)).2 = (0, if n ≤ 200 then 0 else 3) ∧ (manyP n).size ≤ 14 * n := by
  have h13 : ∀ l ∈ ((List.range n).map pairN).map pairT, (10 : UInt8) ∉ l ∧ l.length ≤ 13 := fun l hl => by
    obtain ⟨p, hp, rfl⟩ := List.mem_map.1 hl
    obtain ⟨i, hi, rfl⟩ := List.mem_map.1 hp
    obtain ⟨k1, k2, k3, k4⟩ := pairN_pt i (by have := List.mem_range.1 hi; omega)
    exact pairT_none k1 k2 k3 k4
  have hsz : (manyP n).size ≤ 14 * n := by
    rw [Lib.size_eq, manyP_list n hn, ← List.flatMap_def, sum_lines]
    have := sum_pairs ((List.range n).map pairN) fun p hp => (h13 _ (List.mem_map_of_mem hp)).2
    simp at this ⊢
    omega
  refine ⟨?_, hsz⟩
  unfold parseA
  rw [if_neg (by omega), manyP_list n hn, linesL_flat _ (fun l hl => (h13 l hl).1)]
  have h' : readA rd0 1 (((List.range n).map pairN).map pairT) = ⟨[], [], (List.range n).map pairN, 0⟩ := by
    rw [readA_pairs _ _ _ (by simpa [rd0] using pairsN_ok n hn)]; simp [rd0]
  rw [h']
  unfold endA
  dsimp only
  rw [List.length_map, List.length_range, List.length_nil]
  by_cases h2 : n ≤ 200
  · rw [if_pos h2, if_neg (by omega), if_neg (by decide)]
    exact congrArg Prod.snd (if_neg (by decide))
  · rw [if_neg h2, if_pos (by omega)]

/-! ### As long -/
def manyN (n : Nat) : ByteArray := ⟨(List.replicate n (10 : UInt8)).toArray⟩
theorem lines_ten : ∀ n, linesL (List.replicate n (10 : UInt8)) = List.replicate n []
  | 0 => rfl
  | n + 1 => by rw [List.replicate_succ, linesL_cons, if_pos rfl, lines_ten n, List.replicate_succ]
theorem read_ten : ∀ (m : Nat) (d : Rd) (n : Nat), readA d n (List.replicate m []) = d
  | 0, _, _ => rfl
  | m + 1, d, n => by
    rw [List.replicate_succ]
    show readA (stepA d n []) (n + 1) _ = d
    rw [show stepA d n [] = d from rfl, read_ten m]
theorem manyN_parse (n : Nat) : (parseA (manyN n)).2 = (0, if n ≤ 65536 then 0 else 3) := by
  have hsz : (manyN n).size = n := by show (List.replicate n (10 : UInt8)).toArray.size = n; simp
  have hl : (manyN n).data.toList = List.replicate n 10 := by unfold manyN; simp
  unfold parseA
  rw [hsz, hl, lines_ten, read_ten]
  by_cases h : n ≤ 65536
  · rw [if_neg (by omega), if_pos h]; rfl
  · rw [if_pos (by omega), if_neg h]

set_option maxRecDepth 100000 in
theorem m_byte : ∃ i0 : TypeInfo, Tryd.prog.info? 5 = some i0 ∧ i0.zero = some (.int .u8 0) ∧ i0.size = 1 ∧ i0.bytes = 1 := ⟨_, rfl, rfl, rfl, rfl⟩
/-! ### The law -/
variable {T : World → Prop}
set_option maxRecDepth 100000 in
set_option maxHeartbeats 1000000 in
theorem amany_law (S : SaysA T) (w : World) (hT : T w) (x y : Int) :
    Calls Tryd.prog 5 #[.int .i64 x, .int .i64 y] w fun e w' => e = .returned (.bool true) ∧ Below w.heap.size w w' := by
  have HT := Lib.hid (fun wx (hb : Below w.heap.size w wx) => S.kept w wx hT hb)
  have AW := Lib.hid (fun wx (hb : Below w.heap.size w wx) => aawake_any S wx (S.kept w wx hT hb))
  have HS := Lib.hid S
  have P1 := Lib.hid (fun wx => place9 y 3 wx (by omega) (by omega))
  have P2 := Lib.hid (fun wx => place9 x 3 wx (by omega) (by omega))
  obtain ⟨k, hk⟩ : ∃ n : Nat, y % 3 = n := ⟨(y % 3).toNat, by omega⟩
  have hx : x % 3 = 0 ∨ x % 3 = 1 ∨ x % 3 = 2 := by omega
  have k3 : k < 3 := by omega
  rw [hk] at P1
  obtain ⟨K, hK0⟩ : ∃ K : Int, K = (k : Int) - 1 := ⟨_, rfl⟩
  have wK : IntKind.i64.wrap ((k : Int) - 1) = K := by rw [IntWalk.i64_in _ (by omega)]; omega
  have K1 : -1 ≤ K := by omega
  have K2 : K ≤ 1 := by omega
  obtain ⟨N, hN⟩ : ∃ N : Nat, N = 199 + k := ⟨_, rfl⟩
  have hNK : (N : Int) = 200 + K := by omega
  have wN : IntKind.i64.wrap (200 + K) = 200 + K := IntWalk.i64_in _ (by omega)
  have HNK := Lib.hid hNK
  have hK01 : (k : Int) - 1 = K := hK0.symm
  clear S hT hk hN hNK hK0
  rcases hx with hx | hx | hx
  · rw [hx] at P2
    clear hx
    go_enter Tryd.func5, Tryd.ntmps5
    go_wp2_with (first
      | (have z := hdone; go_at_call 11; refine (P2.out _).mono ?_; rintro e wx ⟨rfl, rfl⟩)
      | (go_at_call 11; refine (P1.out _).mono ?_; rintro e wx ⟨rfl, rfl⟩; have hdone : True := trivial))
    go_loopg [6, 7] N (fun g sv i wr => ∃ j : Nat, j + g = N ∧ sv = .string (manyR j) ∧ i = .int .i64 j ∧ w = wr)
    case atStart => exact ⟨0, by omega, rfl, rfl, rfl⟩
    case round =>
      obtain ⟨j, hj, rfl, rfl, rfl⟩ := hrel
      have hj0 : (0 : Int) ≤ j := by omega
      have hNK := HNK.out
      rcases Nat.eq_zero_or_pos gk with h0 | h0
      · have hjn : ¬ (j : Int) < 200 + K := by omega
        obtain rfl : j = N := by omega
        have HWB := Lib.hid (Below.refl w.heap.size w)
        have HP := manyR_parse j (by omega)
        have CP := Lib.hid (HS.out.parse _ (manyR j) (HT.out _ HWB.out) (by rw [manyR_size]; omega))
        by_cases hK : K ≤ 0
        · rw [if_pos (show j ≤ 200 by omega)] at HP
          rw [HP] at CP
          obtain ⟨X, hX⟩ : ∃ X, X = (manyR j) := ⟨_, rfl⟩
          rw [← hX] at CP ⊢
          clear hX HP
          go_wp2_with (first
            | (have z := hpar; go_at_call 6; refine (AW.out _ HB2.out).mono ?_; rintro e w5 ⟨rfl, hb⟩; have HB5 := Lib.hid (HB2.out.trans (hb.mono HB2.out.size)); clear hb)
            | (go_at_call 8; refine CP.out.mono ?_; rintro e w2 ⟨v2, rfl, hv2, hb2⟩; obtain ⟨A, n', cA, B, m', cB, rfl, -, -⟩ := af_at hv2; have HB2 := Lib.hid (HWB.out.trans ((hb2.alloc hb2.size (.cells #[.slice A n' cA, .slice B m' cB] 28)).mono HWB.out.size)); clear hv2 hb2; have hpar : True := trivial))
          go_ret
          exact ⟨rfl, HB5.out⟩
        · rw [if_neg (show ¬ j ≤ 200 by omega)] at HP
          rw [parseA_err (s := (manyR j)) (by rw [HP]; decide), HP] at CP
          obtain ⟨X, hX⟩ : ∃ X, X = (manyR j) := ⟨_, rfl⟩
          rw [← hX] at CP ⊢
          clear hX HP
          go_wp2_with (first
            | (have z := hpar; go_at_call 6; refine (AW.out _ HB2.out).mono ?_; rintro e w5 ⟨rfl, hb⟩; have HB5 := Lib.hid (HB2.out.trans (hb.mono HB2.out.size)); clear hb)
            | (go_at_call 8; refine CP.out.mono ?_; rintro e w2 ⟨v2, rfl, hv2, hb2⟩; obtain ⟨A, cA, B, cB, rfl⟩ := af0_at hv2; have HB2 := Lib.hid (HWB.out.trans ((hb2.alloc hb2.size (.cells #[.slice A 0 cA, .slice B 0 cB] 28)).mono HWB.out.size)); obtain ⟨y0, y1⟩ := box2 (Below.refl (w2.alloc (.cells #[.slice A 0 cA, .slice B 0 cB] 28)).heap.size (w2.alloc (.cells #[.slice A 0 cA, .slice B 0 cB] 28))); clear hv2 hb2; have hpar : True := trivial))
          go_ret
          refine ⟨?_, HB5.out⟩
          show Ending.returned (.bool (!decide (K ≤ 0))) = _
          rw [decide_eq_false (show ¬ K ≤ 0 by omega)]
          rfl
      · have hjn : (j : Int) < 200 + K := by omega
        have hsz := manyR_size j
        have q1 : ¬ 9223372036854775807 < (manyR j).size + 14 := by omega
        have HA := Lib.hid (show manyR (j + 1) = manyR j ++ ⟨#[83, 70, 88, 32, 83, 32, 89, 32, 48, 32, 115, 32, 46, 10]⟩ from rfl)
        clear hsz hNK
        go_wp2_with fail
        go_roundg (gk - 1)
        case measure => omega
        case rel => exact ⟨j + 1, by omega, by rw [HA.out], by go_num, rfl⟩
  · rw [hx] at P2
    clear hx
    go_enter Tryd.func5, Tryd.ntmps5
    go_wp2_with (first
      | (have z := hdone; go_at_call 11; refine (P2.out _).mono ?_; rintro e wx ⟨rfl, rfl⟩)
      | (go_at_call 11; refine (P1.out _).mono ?_; rintro e wx ⟨rfl, rfl⟩; have hdone : True := trivial))
    go_loopg [6, 8] N (fun g sv i wr => ∃ j : Nat, j + g = N ∧ sv = .string (manyP j) ∧ i = .int .i64 j ∧ w = wr)
    case atStart => exact ⟨0, by omega, rfl, rfl, rfl⟩
    case round =>
      obtain ⟨j, hj, rfl, rfl, rfl⟩ := hrel
      have hj0 : (0 : Int) ≤ j := by omega
      have hNK := HNK.out
      rcases Nat.eq_zero_or_pos gk with h0 | h0
      · have hjn : ¬ (j : Int) < 200 + K := by omega
        obtain rfl : j = N := by omega
        have HWB := Lib.hid (Below.refl w.heap.size w)
        have HP := (manyP_parse j (by omega)).1
        have CP := Lib.hid (HS.out.parse _ (manyP j) (HT.out _ HWB.out) (by have := (manyP_parse j (by omega)).2; omega))
        by_cases hK : K ≤ 0
        · rw [if_pos (show j ≤ 200 by omega)] at HP
          rw [HP] at CP
          obtain ⟨X, hX⟩ : ∃ X, X = (manyP j) := ⟨_, rfl⟩
          rw [← hX] at CP ⊢
          clear hX HP
          go_wp2_with (first
            | (have z := hpar; go_at_call 6; refine (AW.out _ HB2.out).mono ?_; rintro e w5 ⟨rfl, hb⟩; have HB5 := Lib.hid (HB2.out.trans (hb.mono HB2.out.size)); clear hb)
            | (go_at_call 8; refine CP.out.mono ?_; rintro e w2 ⟨v2, rfl, hv2, hb2⟩; obtain ⟨A, n', cA, B, m', cB, rfl, -, -⟩ := af_at hv2; have HB2 := Lib.hid (HWB.out.trans ((hb2.alloc hb2.size (.cells #[.slice A n' cA, .slice B m' cB] 28)).mono HWB.out.size)); clear hv2 hb2; have hpar : True := trivial))
          go_ret
          exact ⟨rfl, HB5.out⟩
        · rw [if_neg (show ¬ j ≤ 200 by omega)] at HP
          rw [parseA_err (s := (manyP j)) (by rw [HP]; decide), HP] at CP
          obtain ⟨X, hX⟩ : ∃ X, X = (manyP j) := ⟨_, rfl⟩
          rw [← hX] at CP ⊢
          clear hX HP
          go_wp2_with (first
            | (have z := hpar; go_at_call 6; refine (AW.out _ HB2.out).mono ?_; rintro e w5 ⟨rfl, hb⟩; have HB5 := Lib.hid (HB2.out.trans (hb.mono HB2.out.size)); clear hb)
            | (go_at_call 8; refine CP.out.mono ?_; rintro e w2 ⟨v2, rfl, hv2, hb2⟩; obtain ⟨A, cA, B, cB, rfl⟩ := af0_at hv2; have HB2 := Lib.hid (HWB.out.trans ((hb2.alloc hb2.size (.cells #[.slice A 0 cA, .slice B 0 cB] 28)).mono HWB.out.size)); obtain ⟨y0, y1⟩ := box2 (Below.refl (w2.alloc (.cells #[.slice A 0 cA, .slice B 0 cB] 28)).heap.size (w2.alloc (.cells #[.slice A 0 cA, .slice B 0 cB] 28))); clear hv2 hb2; have hpar : True := trivial))
          go_ret
          refine ⟨?_, HB5.out⟩
          show Ending.returned (.bool (!decide (K ≤ 0))) = _
          rw [decide_eq_false (show ¬ K ≤ 0 by omega)]
          rfl
      · have hjn : (j : Int) < 200 + K := by omega
        have hsz := (manyP_parse j (by omega)).2
        have w1 : IntKind.i64.wrap (2 * (j : Int)) = 2 * (j : Int) := IntWalk.i64_in _ (by omega)
        have w2 : IntKind.i64.wrap (16384 + 2 * (j : Int)) = 16384 + 2 * (j : Int) := IntWalk.i64_in _ (by omega)
        have w3 : IntKind.i64.wrap (16385 + 2 * (j : Int)) = 16385 + 2 * (j : Int) := IntWalk.i64_in _ (by omega)
        obtain ⟨E1, hE1⟩ : ∃ E, E = Utf8.encode (16384 + 2 * (j : Int)) := ⟨_, rfl⟩
        obtain ⟨E2, hE2⟩ : ∃ E, E = Utf8.encode (16385 + 2 * (j : Int)) := ⟨_, rfl⟩
        have z1 : E1.size ≤ 4 := by rw [hE1, Lib.size_eq]; exact enc_len _
        have z2 : E2.size ≤ 4 := by rw [hE2, Lib.size_eq]; exact enc_len _
        have HA := Lib.hid (show manyP (j + 1) = manyP j ++ ⟨#[67, 65, 83, 69, 32]⟩ ++ E1 ++ E2 ++ ⟨#[10]⟩ by rw [hE1, hE2]; rfl)
        have he1 : Utf8.encode (16384 + 2 * (j : Int)) = E1 := hE1.symm
        have he2 : Utf8.encode (16385 + 2 * (j : Int)) = E2 := hE2.symm
        have q1 : ¬ 9223372036854775807 < (manyP j).size + 5 := by omega
        have q2 : ¬ 9223372036854775807 < (manyP j).size + 5 + E1.size := by omega
        have q3 : ¬ 9223372036854775807 < (manyP j).size + 5 + E1.size + E2.size := by omega
        have q4 : ¬ 9223372036854775807 < (manyP j).size + 5 + E1.size + E2.size + 1 := by omega
        clear hsz hNK hE1 hE2 z1 z2
        go_wp2_with fail
        go_roundg (gk - 1)
        case measure => omega
        case rel => exact ⟨j + 1, by omega, by rw [HA.out], by go_num, rfl⟩
  · rw [hx] at P2
    clear hx
    obtain ⟨M, hM⟩ : ∃ M : Nat, M = 65535 + k := ⟨_, rfl⟩
    have hMK : (M : Int) = 65536 + K := by have := HNK.out; omega
    have HMK := Lib.hid hMK
    have hM1 : (M : Int) ≤ 65537 := by omega
    have wM : IntKind.i64.wrap (65536 + K) = 65536 + K := IntWalk.i64_in _ (by omega)
    obtain ⟨i0, hi0, hz1, hz2, hz3⟩ := m_byte
    obtain ⟨CS, hCS⟩ : ∃ CS, CS = madeCells (Value.int .u8 0).cells (M * 1) := ⟨_, rfl⟩
    have hCSz : CS.size = M := by rw [hCS, size_madeCells]; omega
    have hmk : ∀ wx : World, (Instr.makeSlice 39 (.int .i64 (65536 + K)) (.int .i64 (65536 + K))).run Tryd.prog wx = .ok (.slice (some ⟨wx.heap.size, 0, none⟩) M M) (wx.alloc (.cells CS 5)) := fun wx => by
      have hr := run_make (P := Tryd.prog) wx 39 5 i0 _ Tryd.underlying39 hi0 hz1 .i64 .i64 M M (by omega) (Int.le_refl _) (by rw [hz3]; omega) (by omega)
      rw [Int.toNat_natCast, hz2, ← hCS] at hr
      rw [← hMK]
      exact hr
    have HC := Lib.hid hCSz
    have m0 : (0 : Int) ≤ 65536 + K := by omega
    clear hCS hCSz hM hMK
    go_enter Tryd.func5, Tryd.ntmps5
    go_wp2_with (first
      | (have z := hdone; go_at_call 11; refine (P2.out _).mono ?_; rintro e wx ⟨rfl, rfl⟩)
      | (go_at_call 11; refine (P1.out _).mono ?_; rintro e wx ⟨rfl, rfl⟩; have hdone : True := trivial))
    obtain ⟨W1, hW1⟩ : ∃ W1, W1 = w.alloc (.cells CS 5) := ⟨_, rfl⟩
    obtain ⟨H, hH⟩ : ∃ H, H = w.heap.size := ⟨_, rfl⟩
    have HH := Lib.hid (show W1.heap[H]? = some (.cells CS 5 (0, 0)) ∧ Below w.heap.size w W1 ∧ w.heap.size ≤ H from by
      rw [hW1, hH]; exact ⟨World.alloc_heap_new _ _, (Below.refl _ _).alloc (Nat.le_refl _) _, Nat.le_refl _⟩)
    rw [← hW1, ← hH]
    clear hW1 hH hmk
    go_loopg [10] M (fun g i wr => ∃ j : Nat, j + g = M ∧ i = .int .i64 j ∧ Hid (∃ cs : Array Value, wr.heap[H]? = some (.cells cs 5 (0, 0)) ∧ cs.size = M ∧ (∀ q, q < j → cs[q]? = some (.int .u8 10)) ∧ Below w.heap.size w wr))
    case atStart => exact ⟨0, by omega, rfl, Lib.hid ⟨CS, HH.out.1, HC.out, fun q hq => absurd hq (Nat.not_lt_zero _), HH.out.2.1⟩⟩
    case round =>
      obtain ⟨j, hj, rfl, HR⟩ := hrel
      have hj0 : (0 : Int) ≤ j := by omega
      obtain ⟨cs, r1, r2, r3, r4⟩ := HR.out
      rcases Nat.eq_zero_or_pos gk with h0 | h0
      · have hjn : ¬ (j : Int) < M := by omega
        have hjM : j = M := by omega
        have hcv : (convert 39 9 (.slice (some ⟨H, 0, none⟩) M M)).run Tryd.prog wr = .ok (.string (manyN M)) wr := by
          have := run_convert_bytes_back (P := Tryd.prog) wr 39 9 5 ⟨H, 0, none⟩ M (List.replicate M (10 : UInt8)) Tryd.underlying39 Tryd.underlying5 Tryd.underlying9 (fun q hq => by
            rw [List.length_replicate] at hq
            have hadd : (⟨H, 0, none⟩ : Addr).add q = ⟨H, q, none⟩ := by unfold Addr.add; split <;> simp_all
            rw [hadd, cell_of_row _ H q cs _ (0, 0) r1, r3 q (by omega), List.getElem_replicate]
            rfl)
          rwa [List.length_replicate] at this
        have HWB := Lib.hid r4
        have hMK := HMK.out
        clear r1 r2 r3 r4 HR hj hjM hj0
        have HP := manyN_parse M
        have CP := Lib.hid (HS.out.parse _ (manyN M) (HT.out _ HWB.out) (by show (List.replicate M (10 : UInt8)).toArray.size ≤ _; rw [List.size_toArray, List.length_replicate]; omega))
        by_cases hK : K ≤ 0
        · rw [if_pos (show M ≤ 65536 by omega)] at HP
          rw [HP] at CP
          obtain ⟨X, hX⟩ : ∃ X, X = (manyN M) := ⟨_, rfl⟩
          rw [← hX] at CP hcv
          clear hX HP
          go_wp2_with (first
            | (have z := hpar; go_at_call 6; refine (AW.out _ HB2.out).mono ?_; rintro e w5 ⟨rfl, hb⟩; have HB5 := Lib.hid (HB2.out.trans (hb.mono HB2.out.size)); clear hb)
            | (go_at_call 8; refine CP.out.mono ?_; rintro e w2 ⟨v2, rfl, hv2, hb2⟩; obtain ⟨A, n', cA, B, m', cB, rfl, -, -⟩ := af_at hv2; have HB2 := Lib.hid (HWB.out.trans ((hb2.alloc hb2.size (.cells #[.slice A n' cA, .slice B m' cB] 28)).mono HWB.out.size)); clear hv2 hb2; have hpar : True := trivial))
          go_ret
          exact ⟨rfl, HB5.out⟩
        · rw [if_neg (show ¬ M ≤ 65536 by omega)] at HP
          rw [parseA_err (s := (manyN M)) (by rw [HP]; decide), HP] at CP
          obtain ⟨X, hX⟩ : ∃ X, X = (manyN M) := ⟨_, rfl⟩
          rw [← hX] at CP hcv
          clear hX HP
          go_wp2_with (first
            | (have z := hpar; go_at_call 6; refine (AW.out _ HB2.out).mono ?_; rintro e w5 ⟨rfl, hb⟩; have HB5 := Lib.hid (HB2.out.trans (hb.mono HB2.out.size)); clear hb)
            | (go_at_call 8; refine CP.out.mono ?_; rintro e w2 ⟨v2, rfl, hv2, hb2⟩; obtain ⟨A, cA, B, cB, rfl⟩ := af0_at hv2; have HB2 := Lib.hid (HWB.out.trans ((hb2.alloc hb2.size (.cells #[.slice A 0 cA, .slice B 0 cB] 28)).mono HWB.out.size)); obtain ⟨y0, y1⟩ := box2 (Below.refl (w2.alloc (.cells #[.slice A 0 cA, .slice B 0 cB] 28)).heap.size (w2.alloc (.cells #[.slice A 0 cA, .slice B 0 cB] 28))); clear hv2 hb2; have hpar : True := trivial))
          go_ret
          refine ⟨?_, HB5.out⟩
          show Ending.returned (.bool (!decide (K ≤ 0))) = _
          rw [decide_eq_false (show ¬ K ≤ 0 by omega)]
          rfl
      · have hjn : (j : Int) < M := by omega
        obtain ⟨c, hc⟩ : ∃ c, cs[j]? = some c := ⟨_, Array.getElem?_eq_getElem (by omega)⟩
        have hcell : wr.cell? ⟨H, j, none⟩ = some c := by rw [cell_of_row _ H j cs _ (0, 0) r1]; exact hc
        have hfz : ∀ o, wr.frozen? ⟨H, o, none⟩ = false := fun o => by simp [World.frozen?, r1]
        have HR2 := Lib.hid (show ∃ cs : Array Value, (wr.setCell ⟨H, j, none⟩ (.int .u8 10)).heap[H]? = some (.cells cs 5 (0, 0)) ∧ cs.size = M ∧ (∀ q, q < j + 1 → cs[q]? = some (.int .u8 10)) ∧ Below w.heap.size w (wr.setCell ⟨H, j, none⟩ (.int .u8 10)) from
          ⟨cs.setIfInBounds j (.int .u8 10), by simp [World.setCell, Array.getElem?_modify, r1], by rw [Array.size_setIfInBounds, r2], fun q hq => by
            rw [Array.getElem?_setIfInBounds]
            by_cases hqj : j = q
            · rw [if_pos hqj, if_pos (by omega)]
            · rw [if_neg hqj]; exact r3 q (by omega), r4.setCell (p := ⟨H, j, none⟩) HH.out.2.2 _⟩)
        clear r1 r2 r3 r4 HR hc
        go_wp2_with fail
        go_roundg (gk - 1)
        case measure => omega
        case rel => exact ⟨j + 1, by omega, by go_num, HR2⟩
end Go.Proofs.YteenleedonmkmaaDoor
