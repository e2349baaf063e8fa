/- Stage 12's law ListMany, out of what is asked of list's calls. -/
import Derived.Test.YtmadlappalhmlaaDoorYLaws
import Derived.Test.YtmadlappalhmlaaDoorYState
import Derived.Test.YtmadlappalhmlaaDoorNPlace
import Derived.Laws.MakeOwn
import Derived.Laws.IdiomStrings
import Derived.Lib.AppendStr
import Derived.Lib.Builder
namespace Go.Proofs.YtmadlappalhmlaaDoor
open Go Go.RowKit Go.Lib

/-- As many lines behind p. -/
def manyL (p : List UInt8) : Nat → List UInt8
  | 0 => p
  | j + 1 => manyL p j ++ [97, 47, 83, 10]
def line1 : List UInt8 := [97, 47, 83]
def badL : List UInt8 := [97, 32, 98]
theorem manyL_len (p : List UInt8) : ∀ j, (manyL p j).length = p.length + 4 * j
  | 0 => rfl
  | j + 1 => by
    have ih := manyL_len p j
    show (manyL p j ++ [97, 47, 83, 10]).length = _
    rw [List.length_append, ih]
    show _ + 4 = _
    omega
theorem manyL_lines (ps : List (List UInt8)) (p : List UInt8) (hp : p = (ps.map fun l => l ++ [10]).flatten) : ∀ j, manyL p j = ((ps ++ List.replicate j line1).map fun l => l ++ [10]).flatten
  | 0 => by rw [List.replicate_zero, List.append_nil, ← hp]; rfl
  | j + 1 => by
    have ih := manyL_lines ps p hp j
    show manyL p j ++ [97, 47, 83, 10] = _
    rw [ih, List.replicate_succ', ← List.append_assoc, List.map_append, List.map_append, List.map_append, List.flatten_append, List.flatten_append]
    simp [line1]
theorem line1_entry : entryL line1 = some ⟨⟨#[97]⟩, [83]⟩ := by decide +kernel
theorem badL_entry : entryL badL = none ∧ noneL badL = true := by decide +kernel
theorem es_many : ∀ k, esOf (List.replicate k line1) = List.replicate k ⟨⟨#[97]⟩, [83]⟩
  | 0 => rfl
  | k + 1 => by
    have ih := es_many k
    rw [List.replicate_succ, List.replicate_succ]
    unfold esOf at ih ⊢
    rw [List.filterMap_cons, line1_entry, ih]
theorem bad_many (k n : Nat) (h : 0 < n) : badE n (List.replicate k line1) = 0 := by
  rw [badE_zero _ n h]
  intro l hl
  rw [List.eq_of_mem_replicate hl]
  decide +kernel
def preL (b : Bool) : List (List UInt8) := if b then [badL] else []
def preB (b : Bool) : List UInt8 := if b then [97, 32, 98, 10] else []
/-- What is read of as many. -/
theorem parse_many (b : Bool) (k : Nat) (hk : k ≤ 5000) : parseE ⟨(manyL (preB b) k).toArray⟩ = if 2000 < k then ([], 0, 3) else if b = true then ([], 1, 5) else (List.replicate k ⟨⟨#[97]⟩, [83]⟩, 0, 0) := by
  have hl : (⟨(manyL (preB b) k).toArray⟩ : ByteArray).data.toList = manyL (preB b) k := by simp
  have hsz : (⟨(manyL (preB b) k).toArray⟩ : ByteArray).size = (manyL (preB b) k).length := by show (manyL (preB b) k).toArray.size = _; rw [List.size_toArray]
  have hpl : (preB b).length ≤ 4 := by cases b <;> decide
  have hm := manyL_len (preB b) k
  have hlines : linesL (manyL (preB b) k) = preL b ++ List.replicate k line1 := by
    rw [manyL_lines (preL b) (preB b) (by cases b <;> rfl) k]
    refine linesL_flat _ fun l hl => ?_
    rcases List.mem_append.1 hl with h | h
    · cases b
      · cases h
      · rw [List.mem_singleton.1 h]; decide
    · rw [List.eq_of_mem_replicate h]; decide
  have hes : esOf (preL b ++ List.replicate k line1) = List.replicate k ⟨⟨#[97]⟩, [83]⟩ := by
    rw [esOf_app, es_many]
    cases b
    · rfl
    · show esOf [badL] ++ _ = _
      unfold esOf
      rw [List.filterMap_cons, badL_entry.1]
      rfl
  have hbad : badE 1 (preL b ++ List.replicate k line1) = if b = true then 1 else 0 := by
    cases b
    · show badE 1 (List.replicate k line1) = 0
      exact bad_many k 1 (by decide)
    · show (if noneL badL = true then 1 else badE 2 (List.replicate k line1)) = 1
      rw [if_pos badL_entry.2]
  unfold parseE endE
  rw [hsz, if_neg (by omega), hl, hlines, hes, hbad, List.length_replicate]
  cases b <;> rfl

variable {T : World → Prop}
set_option maxRecDepth 100000 in
theorem m_byteY : ∃ i0 : TypeInfo, Tryd.prog.info? 5 = some i0 ∧ i0.zero = some (.int .u8 0) ∧ i0.size = 1 ∧ i0.bytes = 1 := ⟨_, rfl, rfl, rfl, rfl⟩
/-- The bytes so far in a row of our own. -/
def Made (w wr : World) (v : Value) (L : List UInt8) : Prop := wr.ownsRow w.heap.size 5 1 v L.length (Lib.byteCells L) ∧ Below w.heap.size w wr
theorem Made.app {w wr w2 : World} {v v' : Value} {L : List UInt8} {s : ByteArray} (h : Made w wr v L) (hown : w2.ownsRow w.heap.size 5 1 v' (L.length + s.size) (Lib.byteCells L ++ Lib.strCells s)) (hg : wr.grownBy w2 v.ownBlock) : Made w w2 v' (L ++ s.data.toList) := by
  refine ⟨?_, h.2.grown hg h.2.size (fun k hk => (h.1.lt k hk).1)⟩
  have e1 : (L ++ s.data.toList).length = L.length + s.size := by rw [List.length_append, ← Lib.size_eq]
  have e2 : Lib.byteCells (L ++ s.data.toList) = Lib.byteCells L ++ Lib.strCells s := by
    have : Lib.strCells s = Lib.byteCells s.data.toList := rfl
    rw [this]
    simp [Lib.byteCells]
  rw [e1, e2]
  exact hown
theorem Made.conv {w wr : World} {v : Value} {L : List UInt8} (h : Made w wr v L) (hL : 0 < L.length) :
    (convert 38 9 v).run Tryd.prog wr = .ok (.string ⟨L.toArray⟩) wr := by
  obtain ⟨g, cap, rfl, hg, hc, hm, hcell⟩ := own_open9 h.1 hL
  exact run_convert_bytes_back (P := Tryd.prog) wr 38 9 5 ⟨g, 0, none⟩ cap L Tryd.underlying38 Tryd.underlying5 Tryd.underlying9 (fun j hj => by
    rw [add9]
    refine hcell j _ ?_
    unfold Lib.byteCells
    rw [List.getElem?_map, List.getElem?_eq_getElem hj]
    rfl)

set_option maxRecDepth 100000 in
set_option maxHeartbeats 2000000 in
theorem emany_law (S : SaysL T) (w : World) (hT : T w) (x : Int) (wrong : Bool) :
    Calls Tryd.prog 6 #[.int .i64 x, .bool wrong] w fun e w' => e = .returned (.bool true) ∧ Below w.heap.size w w' := by
  have HT := Lib.hid (fun wx (hb : Below w.heap.size w wx) => S.kept w wx hT hb)
  have AW := Lib.hid (fun wx (hb : Below w.heap.size w wx) => eawake_any S wx (S.kept w wx hT hb))
  have HS := Lib.hid S
  have P1 := Lib.hid (fun wx => place9 x 3 wx (by omega) (by omega))
  obtain ⟨r, hr⟩ : ∃ n : Int, n = x % 3 := ⟨_, rfl⟩
  have hr0 : 0 ≤ r ∧ r < 3 := by omega
  rw [← hr] at P1
  obtain ⟨k, hk⟩ : ∃ n : Nat, (n : Int) = 1999 + r := ⟨(1999 + r).toNat, by omega⟩
  obtain ⟨A, hA⟩ : ∃ A : Int, A = 2000 + r := ⟨_, rfl⟩
  obtain ⟨C3, hC3⟩ : ∃ A : Int, A = 3 * (k : Int) := ⟨_, rfl⟩
  obtain ⟨c, hc⟩ : ∃ c : Nat, (c : Int) = C3 + 10 := ⟨(C3 + 10).toNat, by omega⟩
  have wA : IntKind.i64.wrap (2000 + r) = A := by rw [IntWalk.i64_in _ (by omega)]; omega
  have wB : IntKind.i64.wrap (A - 1) = (k : Int) := by rw [IntWalk.i64_in _ (by omega)]; omega
  have wC : IntKind.i64.wrap (3 * (k : Int)) = C3 := by rw [IntWalk.i64_in _ (by omega)]; omega
  have wD : IntKind.i64.wrap (C3 + 10) = (c : Int) := by rw [IntWalk.i64_in _ (by omega)]; omega
  have hk5 : k ≤ 5000 := by omega
  have hk1 : 1999 ≤ k := by omega
  have hcb : c ≤ 20000 := by omega
  obtain ⟨i0, hi0, hz1, hz2, hz3⟩ := m_byteY
  obtain ⟨W1, hmk, hrow, hgr⟩ := run_make_own (P := Tryd.prog) w w.heap.size 38 5 i0 (.int .u8 0) 1 Tryd.underlying38 hi0 hz1 hz2 .i64 .i64 c (by rw [hz3]; omega) (by unfold maxLen; omega) (Nat.le_refl _)
  have HM0 := Lib.hid (show Made w W1 (.slice (some ⟨w.heap.size, 0, none⟩) 0 c) [] from ⟨hrow, (Below.refl _ _).grown hgr (Nat.le_refl _) (fun k hk => by cases hk)⟩)
  have PM := Lib.hid (parse_many wrong k hk5)
  have HPL := Lib.hid (show (preB wrong).length ≤ 4 by cases wrong <;> decide)
  clear S hT hr hk hA hC3 hc hrow hgr hr0
  cases wrong with
  | false =>
    have HM1 := Lib.hid (show Made w W1 (.slice (some ⟨w.heap.size, 0, none⟩) 0 c) (manyL (preB false) 0) from HM0.out)
    clear HM0
    go_enter Tryd.func6, Tryd.ntmps6
    go_wp2_with (go_at_call 16; refine (P1.out _).mono ?_; rintro e wx ⟨rfl, rfl⟩)
    go_loopg [6, 7] k (fun g bv i wr => ∃ j : Nat, j + g = k ∧ i = .int .i64 j ∧ Hid (Made w wr bv (manyL (preB false) j)))
    case atStart => exact ⟨0, by omega, rfl, HM1⟩
    case round =>
      obtain ⟨j, hj, rfl, HM⟩ := hrel
      have hj0 : (0 : Int) ≤ j := by omega
      have hlen := manyL_len (preB false) j
      have hpl := HPL.out
      have hmb : (manyL (preB false) j).length ≤ 30000 := by omega
      rcases Nat.eq_zero_or_pos gk with h0 | h0
      · have hjk : ¬ (j : Int) < k := by omega
        obtain rfl : j = k := by omega
        have hk0 : 0 < (manyL (preB false) j).length := by omega
        have hcv := HM.out.conv hk0
        have HB := Lib.hid HM.out.2
        have hXs : (⟨(manyL (preB false) j).toArray⟩ : ByteArray).size ≤ 30000 := by show (manyL (preB false) j).toArray.size ≤ _; rw [List.size_toArray]; exact hmb
        have CP := Lib.hid (HS.out.parse wr ⟨(manyL (preB false) j).toArray⟩ (HT.out _ HB.out) (by omega))
        rw [PM.out] at CP
        obtain ⟨X, hX⟩ : ∃ X : ByteArray, X = ⟨(manyL (preB false) j).toArray⟩ := ⟨_, rfl⟩
        rw [← hX] at hcv CP
        clear hX hXs hk0 HM hlen hpl hmb
        by_cases hbig : 2000 < j
        · rw [if_pos hbig] at CP
          have e1 : (2000 : Int) < j := by omega
          clear hbig
          go_wp2_with (first
            | (go_at_call 10; refine CP.out.mono ?_; rintro e w2 ⟨v2, rfl, hv2, hb2⟩; obtain ⟨A2, c2, rfl⟩ := ents_nil hv2; have HB2 := Lib.hid (HB.out.trans (hb2.mono HB.out.size)); clear hv2 hb2)
            | (go_at_call 9; refine (AW.out _ HB2.out).mono ?_; rintro e w5 ⟨rfl, hb⟩; have HB5 := Lib.hid (HB2.out.trans (hb.mono HB2.out.size)); clear hb))
          go_ret
          exact ⟨rfl, HB5.out⟩
        · rw [if_neg hbig, if_neg (by decide)] at CP
          have e1 : ¬ (2000 : Int) < j := by omega
          clear hbig
          go_wp2_with (first
            | (go_at_call 10; refine CP.out.mono ?_; rintro e w2 ⟨v2, rfl, hv2, hb2⟩; obtain ⟨A2, c2, rfl⟩ := ents_form hv2; rw [List.length_replicate]; have HB2 := Lib.hid (HB.out.trans (hb2.mono HB.out.size)); clear hv2 hb2)
            | (go_at_call 9; refine (AW.out _ HB2.out).mono ?_; rintro e w5 ⟨rfl, hb⟩; have HB5 := Lib.hid (HB2.out.trans (hb.mono HB2.out.size)); clear hb))
          go_ret
          exact ⟨rfl, HB5.out⟩
      · have hjk : (j : Int) < k := by omega
        obtain ⟨BA, bc, rfl⟩ := own_shape HM.out.1
        obtain ⟨m, hm⟩ : ∃ m, m = (manyL (preB false) j).length := ⟨_, rfl⟩
        have hrw := HM.out.1
        rw [← hm] at hrw hmb
        have HROW := Lib.hid hrw
        have HMM := Lib.hid hm
        rw [← hm]
        clear hrw hm hlen hpl
        go_wp2_with (at_builtin; refine Lib.wpList_append_own_string _ rfl _ _ 38 9 rfl w.heap.size 5 i0 Tryd.underlying38 Tryd.underlying9 hi0 hz1 hz2 hz3 (.slice BA m bc) m (Lib.byteCells (manyL (preB false) j)) rfl HROW.out ⟨#[97, 47, 83, 10]⟩ rfl (by show m + 4 ≤ maxLen; unfold maxLen; omega) (by show m + 4 ≤ _; omega) HM.out.2.size ?_)
        intro v' w2 hown' hgrow _
        have HM2 := Lib.hid (show Made w w2 v' (manyL (preB false) (j + 1)) from HM.out.app (s := ⟨#[97, 47, 83, 10]⟩) (by rw [← HMM.out]; exact hown') (by rw [← HMM.out]; exact hgrow))
        clear hown' hgrow
        go_wp2_with fail
        go_roundg (gk - 1)
        case measure => omega
        case rel => exact ⟨j + 1, by omega, by go_num, HM2⟩
  | true =>
    go_enter Tryd.func6, Tryd.ntmps6
    go_wp2_with (first
      | (go_at_call 16; refine (P1.out _).mono ?_; rintro e wx ⟨rfl, rfl⟩)
      | (at_builtin; refine Lib.wpList_append_own_string _ rfl _ _ 38 9 rfl w.heap.size 5 i0 Tryd.underlying38 Tryd.underlying9 hi0 hz1 hz2 hz3 (.slice (some ⟨w.heap.size, 0, none⟩) 0 c) 0 [] rfl HM0.out.1 ⟨#[97, 32, 98, 10]⟩ rfl (by show 0 + 4 ≤ maxLen; unfold maxLen; omega) (by show 0 + 4 ≤ _; omega) HM0.out.2.size ?_))
    intro v1 w2 hown1 hgrow1 _
    have HM1 := Lib.hid (show Made w w2 v1 (manyL (preB true) 0) from HM0.out.app (s := ⟨#[97, 32, 98, 10]⟩) hown1 hgrow1)
    clear hown1 hgrow1 HM0
    go_wp2_with fail
    go_loopg [6, 7] k (fun g bv i wr => ∃ j : Nat, j + g = k ∧ i = .int .i64 j ∧ Hid (Made w wr bv (manyL (preB true) j)))
    case atStart => exact ⟨0, by omega, rfl, HM1⟩
    case round =>
      obtain ⟨j, hj, rfl, HM⟩ := hrel
      have hj0 : (0 : Int) ≤ j := by omega
      have hlen := manyL_len (preB true) j
      have hpl := HPL.out
      have hmb : (manyL (preB true) j).length ≤ 30000 := by omega
      rcases Nat.eq_zero_or_pos gk with h0 | h0
      · have hjk : ¬ (j : Int) < k := by omega
        obtain rfl : j = k := by omega
        have hk0 : 0 < (manyL (preB true) j).length := by omega
        have hcv := HM.out.conv hk0
        have HB := Lib.hid HM.out.2
        have hXs : (⟨(manyL (preB true) j).toArray⟩ : ByteArray).size ≤ 30000 := by show (manyL (preB true) j).toArray.size ≤ _; rw [List.size_toArray]; exact hmb
        have CP := Lib.hid (HS.out.parse wr ⟨(manyL (preB true) j).toArray⟩ (HT.out _ HB.out) (by omega))
        rw [PM.out] at CP
        obtain ⟨X, hX⟩ : ∃ X : ByteArray, X = ⟨(manyL (preB true) j).toArray⟩ := ⟨_, rfl⟩
        rw [← hX] at hcv CP
        clear hX hXs hk0 HM hlen hpl hmb
        by_cases hbig : 2000 < j
        · rw [if_pos hbig] at CP
          have e1 : (2000 : Int) < j := by omega
          clear hbig
          go_wp2_with (first
            | (go_at_call 10; refine CP.out.mono ?_; rintro e w2 ⟨v2, rfl, hv2, hb2⟩; obtain ⟨A2, c2, rfl⟩ := ents_nil hv2; have HB2 := Lib.hid (HB.out.trans (hb2.mono HB.out.size)); clear hv2 hb2)
            | (go_at_call 9; refine (AW.out _ HB2.out).mono ?_; rintro e w5 ⟨rfl, hb⟩; have HB5 := Lib.hid (HB2.out.trans (hb.mono HB2.out.size)); clear hb))
          go_ret
          exact ⟨rfl, HB5.out⟩
        · rw [if_neg hbig, if_pos trivial] at CP
          have e1 : ¬ (2000 : Int) < j := by omega
          clear hbig
          go_wp2_with (first
            | (go_at_call 10; refine CP.out.mono ?_; rintro e w2 ⟨v2, rfl, hv2, hb2⟩; obtain ⟨A2, c2, rfl⟩ := ents_nil hv2; have HB2 := Lib.hid (HB.out.trans (hb2.mono HB.out.size)); clear hv2 hb2)
            | (go_at_call 9; refine (AW.out _ HB2.out).mono ?_; rintro e w5 ⟨rfl, hb⟩; have HB5 := Lib.hid (HB2.out.trans (hb.mono HB2.out.size)); clear hb))
          go_ret
          exact ⟨rfl, HB5.out⟩
      · have hjk : (j : Int) < k := by omega
        obtain ⟨BA, bc, rfl⟩ := own_shape HM.out.1
        obtain ⟨m, hm⟩ : ∃ m, m = (manyL (preB true) j).length := ⟨_, rfl⟩
        have hrw := HM.out.1
        rw [← hm] at hrw hmb
        have HROW := Lib.hid hrw
        have HMM := Lib.hid hm
        rw [← hm]
        clear hrw hm hlen hpl
        go_wp2_with (at_builtin; refine Lib.wpList_append_own_string _ rfl _ _ 38 9 rfl w.heap.size 5 i0 Tryd.underlying38 Tryd.underlying9 hi0 hz1 hz2 hz3 (.slice BA m bc) m (Lib.byteCells (manyL (preB true) j)) rfl HROW.out ⟨#[97, 47, 83, 10]⟩ rfl (by show m + 4 ≤ maxLen; unfold maxLen; omega) (by show m + 4 ≤ _; omega) HM.out.2.size ?_)
        intro v' w2 hown' hgrow _
        have HM2 := Lib.hid (show Made w w2 v' (manyL (preB true) (j + 1)) from HM.out.app (s := ⟨#[97, 47, 83, 10]⟩) (by rw [← HMM.out]; exact hown') (by rw [← HMM.out]; exact hgrow))
        clear hown' hgrow
        go_wp2_with fail
        go_roundg (gk - 1)
        case measure => omega
        case rel => exact ⟨j + 1, by omega, by go_num, HM2⟩
end Go.Proofs.YtmadlappalhmlaaDoor
