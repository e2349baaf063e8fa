/- rule's without, allows, Apply, applies, Both by contract, of whatever rules. -/
import Derived.Test.YtcbmfkgekhadkaaGreatDoorZGc
import Derived.Test.YtcbmfkgekhadkaaGreatDoorOEnds
import Derived.Lib.Strings
namespace Go.Proofs.YtcbmfkgekhadkaaGreatDoor
open Go Go.RowKit Go.Lib

/-! ### Plain -/
def restOf (r : Ru) (wd : ByteArray) : ByteArray := if r.pre then ⟨(Lib.trimPrefix wd.data.toList r.strip.data.toList).toArray⟩ else ⟨(Lib.trimSuffix wd.data.toList r.strip.data.toList).toArray⟩
def thereB (r : Ru) (wd : ByteArray) : Bool := if r.pre then Lib.hasPrefix wd.data.toList r.strip.data.toList else Lib.hasSuffix wd.data.toList r.strip.data.toList
def allowB (r : Ru) (wd : ByteArray) : Bool := match codesB wd.data.toList with
  | none => false
  | some cs => if r.pre then startsP r.cond cs else endsP r.cond cs
def withB (r : Ru) (s : ByteArray) : ByteArray := if r.pre then r.add ++ s else s ++ r.add
theorem r_ext (s : ByteArray) (a b : Nat) : s.extract a b = ⟨((s.data.toList.drop a).take (b - a)).toArray⟩ := by
  rw [← r_mk (s.extract a b), ByteArray.data_extract, Array.toList_extract]
theorem r_eq {a b : List UInt8} : ((⟨a.toArray⟩ : ByteArray) = ⟨b.toArray⟩) ↔ a = b := by
  refine ⟨fun h => ?_, fun h => by rw [h]⟩
  have := congrArg (fun x : ByteArray => x.data.toList) h
  simpa using this
theorem pre_says (wd s : ByteArray) : Lib.hasPrefix wd.data.toList s.data.toList = decide (s.size ≤ wd.size ∧ wd.extract 0 s.size = s) := by
  rw [Bool.eq_iff_iff, decide_eq_true_eq]
  unfold Lib.hasPrefix
  rw [List.isPrefixOf_iff_prefix, r_ext, Lib.size_eq, Lib.size_eq]
  conv => rhs; rw [← r_mk s]
  rw [r_eq, List.drop_zero, Nat.sub_zero]
  simp only
  constructor
  · intro h
    exact ⟨h.length_le, (List.prefix_iff_eq_take.1 h).symm⟩
  · rintro ⟨_, h⟩
    exact List.prefix_iff_eq_take.2 h.symm
theorem suf_says (wd s : ByteArray) : Lib.hasSuffix wd.data.toList s.data.toList = decide (s.size ≤ wd.size ∧ wd.extract (wd.size - s.size) wd.size = s) := by
  rw [Bool.eq_iff_iff, decide_eq_true_eq]
  unfold Lib.hasSuffix
  rw [List.isSuffixOf_iff_suffix, r_ext, Lib.size_eq, Lib.size_eq]
  conv => rhs; rw [← r_mk s]
  rw [r_eq, List.take_of_length_le (by rw [List.length_drop]; exact Nat.le_refl _)]
  simp only
  constructor
  · intro h
    exact ⟨h.length_le, (List.suffix_iff_eq_drop.1 h).symm⟩
  · rintro ⟨_, h⟩
    exact List.suffix_iff_eq_drop.2 h.symm
theorem apply_says (r : Ru) (wd : ByteArray) : applyR r wd = if thereB r wd = true ∧ allowB r wd = true then withB r (restOf r wd) else ⟨#[]⟩ := by
  unfold applyR thereB allowB withB restOf
  cases hc : codesB wd.data.toList with
  | none => simp
  | some cs =>
    dsimp only
    cases hp : r.pre with
    | true =>
      simp only [if_true]
      rw [pre_says]
      by_cases h : r.strip.size ≤ wd.size ∧ wd.extract 0 r.strip.size = r.strip
      · rw [decide_eq_true h]
        by_cases h2 : startsP r.cond cs = true
        · rw [if_pos ⟨h.1, h.2, h2⟩, if_pos ⟨rfl, h2⟩]
          congr 1
          have hpre := pre_says wd r.strip
          rw [decide_eq_true h] at hpre
          unfold Lib.trimPrefix
          rw [if_pos hpre, r_ext, List.take_of_length_le (by rw [List.length_drop, Lib.size_eq]; exact Nat.le_refl _), Lib.size_eq r.strip]
        · rw [if_neg (fun h3 => h2 h3.2.2), if_neg (fun h3 => h2 h3.2)]
      · rw [decide_eq_false h, if_neg (fun h3 => h ⟨h3.1, h3.2.1⟩), if_neg (by simp)]
    | false =>
      simp only [Bool.false_eq_true, if_false]
      rw [suf_says]
      by_cases h : r.strip.size ≤ wd.size ∧ wd.extract (wd.size - r.strip.size) wd.size = r.strip
      · rw [decide_eq_true h]
        by_cases h2 : endsP r.cond cs = true
        · rw [if_pos ⟨h.1, h.2, h2⟩, if_pos ⟨rfl, h2⟩]
          congr 1
          have hsuf := suf_says wd r.strip
          rw [decide_eq_true h] at hsuf
          unfold Lib.trimSuffix
          rw [if_pos hsuf, r_ext, List.drop_zero, Nat.sub_zero, Lib.size_eq r.strip, Lib.size_eq wd]
        · rw [if_neg (fun h3 => h2 h3.2.2), if_neg (fun h3 => h2 h3.2)]
      · rw [decide_eq_false h, if_neg (fun h3 => h ⟨h3.1, h3.2.1⟩), if_neg (by simp)]
theorem rest_size (r : Ru) (wd : ByteArray) : (restOf r wd).size ≤ wd.size := by
  unfold restOf Lib.trimPrefix Lib.trimSuffix
  have h : ∀ l : List UInt8, (⟨l.toArray⟩ : ByteArray).size = l.length := fun l => by show l.toArray.size = _; rw [List.size_toArray]
  rw [Lib.size_eq wd]
  split
  · rw [h]; split <;> simp
  · rw [h]; split <;> simp
theorem r_okB (s : ByteArray) : okB s = !s.toList.isEmpty := by
  unfold okB
  rw [r_toL, Bool.eq_iff_iff, decide_eq_true_eq, Lib.size_eq]
  cases s.data.toList <;> simp
theorem r_codes (l : List UInt8) : (codesB l).isSome = validD l ∧ (codesB l).getD [] = codesL l := by
  unfold codesB codesL
  cases validD l <;> simp

/-! ### Walks -/
set_option maxRecDepth 100000 in
set_option maxHeartbeats 2000000 in
theorem rwithout_any (w : World) (v : Value) (r : Ru) (wd : ByteArray) (h : RuAt w v r) (hw : wd.size ≤ 1000000000) :
    Calls Tryz.prog 75 #[v, .string wd] w fun e w' => e = .returned (.tuple #[.string (restOf r wd), .bool (thereB r wd)]) ∧ Below w.heap.size w w' := by
  obtain ⟨A, cap, rfl, -⟩ := h
  have HB := Lib.hid ((Below.refl w.heap.size w).alloc (Nat.le_refl _) (.cells #[.bool r.pre, .int .i64 r.flag, .bool r.cross, .string r.strip, .string r.add, .slice A r.cond.length cap] 51))
  obtain ⟨n, hn⟩ : ∃ n, n = r.cond.length := ⟨_, rfl⟩
  rw [← hn] at HB ⊢
  clear hn
  obtain ⟨pre, flag, cross, strip, add, cond⟩ := r
  have CP := Lib.hid (fun wx => Tryz.strings_CutPrefix wd strip wx)
  have CS := Lib.hid (fun wx => Tryz.strings_CutSuffix wd strip wx (by omega))
  unfold restOf thereB
  dsimp only at HB ⊢
  cases pre with
  | true =>
    go_enter Tryz.func75, Tryz.ntmps75
    go_wp2_with (go_at_call 98; refine (CP.out _).mono ?_; rintro e w1 ⟨rfl, rfl⟩)
    go_ret2
    exact ⟨rfl, HB.out⟩
  | false =>
    go_enter Tryz.func75, Tryz.ntmps75
    go_wp2_with (go_at_call 99; refine (CS.out _).mono ?_; rintro e w1 ⟨rfl, rfl⟩)
    go_ret2
    exact ⟨rfl, HB.out⟩

theorem r_own {w : World} {B n : Nat} {v : Value} {cs : List Int} (h : w.ownsRow B 3 1 v n (cs.map (Value.int .i64))) (hn : n = cs.length) : IntsAt w v cs := by
  subst hn
  have hadd : ∀ (g j : Nat), (⟨g, 0, none⟩ : Addr).add j = ⟨g, j, none⟩ := fun g j => by unfold Addr.add; split <;> simp_all
  have hc := @World.ownsRow.cells _ _ _ _ _ _ _ h
  rcases h.2 with ⟨rfl, h0⟩ | ⟨g, cap, cur, rfl, hb, hg, hnc, hcm, _⟩
  · exact .inl ⟨List.eq_nil_of_length_eq_zero h0, _, _, rfl⟩
  · refine .inr ⟨g, 0, cap, rfl, (Array.getElem?_eq_some_iff.1 hg).1, hnc, hcm, fun i c hi => ?_⟩
    rw [Nat.zero_add, ← hadd]
    exact hc (g := g) rfl i _ (by rw [List.getElem?_map, hi]; rfl)

set_option maxRecDepth 100000 in
set_option maxHeartbeats 4000000 in
theorem rallows_any (w : World) (v : Value) (r : Ru) (wd : ByteArray) (h : RuAt w v r) (hf : FitR r) (hw : wd.size ≤ 1000000000) (hT : Lib.Utf8Tabs 1 2 w) :
    Calls Tryz.prog 76 #[v, .string wd] w fun e w' => e = .returned (.bool (allowB r wd)) ∧ Below w.heap.size w w' := by
  obtain ⟨A, cap, rfl, hi⟩ := h
  have hB0 := (Below.refl w.heap.size w).alloc (Nat.le_refl _) (.cells #[.bool r.pre, .int .i64 r.flag, .bool r.cross, .string r.strip, .string r.add, .slice A r.cond.length cap] 51)
  have CC := Lib.hid (codes_any wd _ (by omega) (tabs_below hT hB0))
  have HB := Lib.hid hB0
  have CS := Lib.hid (fun wx vc cs (hb : Below w.heap.size w wx) (hc : IntsAt wx vc cs) => cstarts_any wx _ vc r.cond cs (hi.keep hb) hc (by have := hf.items; omega))
  have CE := Lib.hid (fun wx vc cs (hb : Below w.heap.size w wx) (hc : IntsAt wx vc cs) => cends_any wx _ vc r.cond cs (hi.keep hb) hc (by have := hf.items; omega))
  obtain ⟨n, hn⟩ : ∃ n, n = r.cond.length := ⟨_, rfl⟩
  rw [← hn] at HB CC CS CE ⊢
  obtain ⟨e1, e2⟩ := r_codes wd.data.toList
  unfold allowB
  obtain ⟨pre, flag, cross, strip, add, cond⟩ := r
  dsimp only at HB CC CS CE ⊢
  cases hcb : codesB wd.data.toList with
  | none =>
    rw [hcb] at e1
    rw [← e1] at CC
    clear hi hf hT hB0 hn e1 e2 hcb CS CE
    cases pre with
    | true =>
      go_enter Tryz.func76, Tryz.ntmps76
      go_wp2_with (go_at_call 100; refine CC.out.mono ?_)
      rintro e w1 ⟨v1, rfl, -, hb⟩
      obtain ⟨x0, x1, x2, x3, x4, x5⟩ := box6 hb
      have HB1 := Lib.hid (HB.out.trans (hb.mono HB.out.size))
      clear hb
      go_wp2_with fail
      go_ret
      exact ⟨rfl, HB1.out⟩
    | false =>
      go_enter Tryz.func76, Tryz.ntmps76
      go_wp2_with (go_at_call 100; refine CC.out.mono ?_)
      rintro e w1 ⟨v1, rfl, -, hb⟩
      obtain ⟨x0, x1, x2, x3, x4, x5⟩ := box6 hb
      have HB1 := Lib.hid (HB.out.trans (hb.mono HB.out.size))
      clear hb
      go_wp2_with fail
      go_ret
      exact ⟨rfl, HB1.out⟩
  | some cs =>
    rw [hcb] at e1 e2
    rw [← e1, ← e2] at CC
    simp only [Option.getD_some, Option.isSome_some] at CC
    clear hi hf hT hB0 hn e1 e2 hcb
    dsimp only
    cases pre with
    | true =>
      obtain ⟨b, hb⟩ : ∃ b, b = startsP cond cs := ⟨_, rfl⟩
      have CS2 := Lib.hid (fun wx vc hb1 hc1 => CS.out wx vc cs hb1 hc1)
      rw [← hb] at CS2
      simp only [if_true]
      rw [← hb]
      clear hb CS CE
      go_enter Tryz.func76, Tryz.ntmps76
      go_wp2_with (go_at_call 100; refine CC.out.mono ?_)
      rintro e w1 ⟨v1, rfl, hown, hb⟩
      have hin := r_own hown rfl
      obtain ⟨B, bc, rfl, -⟩ := ints_open hin
      obtain ⟨x0, x1, x2, x3, x4, x5⟩ := box6 hb
      have HB1 := Lib.hid (HB.out.trans (hb.mono HB.out.size))
      have CS3 := Lib.hid (CS2.out w1 _ HB1.out hin)
      obtain ⟨m, hm⟩ : ∃ m, m = cs.length := ⟨_, rfl⟩
      rw [← hm] at CS3 ⊢
      clear hb hown hin CS2 hm
      go_wp2_with (go_at_call 101; refine CS3.out.mono ?_; rintro e w2 ⟨rfl, hb⟩; have HB2 := Lib.hid (HB1.out.trans (hb.mono HB1.out.size)); clear hb)
      go_ret
      exact ⟨rfl, HB2.out⟩
    | false =>
      obtain ⟨b, hb⟩ : ∃ b, b = endsP cond cs := ⟨_, rfl⟩
      have CS2 := Lib.hid (fun wx vc hb1 hc1 => CE.out wx vc cs hb1 hc1)
      rw [← hb] at CS2
      simp only [Bool.false_eq_true, if_false]
      rw [← hb]
      clear hb CS CE
      go_enter Tryz.func76, Tryz.ntmps76
      go_wp2_with (go_at_call 100; refine CC.out.mono ?_)
      rintro e w1 ⟨v1, rfl, hown, hb⟩
      have hin := r_own hown rfl
      obtain ⟨B, bc, rfl, -⟩ := ints_open hin
      obtain ⟨x0, x1, x2, x3, x4, x5⟩ := box6 hb
      have HB1 := Lib.hid (HB.out.trans (hb.mono HB.out.size))
      have CS3 := Lib.hid (CS2.out w1 _ HB1.out hin)
      obtain ⟨m, hm⟩ : ∃ m, m = cs.length := ⟨_, rfl⟩
      rw [← hm] at CS3 ⊢
      clear hb hown hin CS2 hm
      go_wp2_with (go_at_call 102; refine CS3.out.mono ?_; rintro e w2 ⟨rfl, hb⟩; have HB2 := Lib.hid (HB1.out.trans (hb.mono HB1.out.size)); clear hb)
      go_ret
      exact ⟨rfl, HB2.out⟩

set_option maxRecDepth 100000 in
set_option maxHeartbeats 4000000 in
theorem rapp_any (w : World) (v : Value) (r : Ru) (wd : ByteArray) (h : RuAt w v r) (hf : FitR r) (hw : wd.size ≤ 1000000000) (hT : Lib.Utf8Tabs 1 2 w) :
    Calls Tryz.prog 61 #[v, .string wd] w fun e w' => e = .returned (.tuple #[.string (applyR r wd), .bool (okB (applyR r wd))]) ∧ Below w.heap.size w w' := by
  have h0 := h
  obtain ⟨A, cap, rfl, -⟩ := h
  obtain ⟨n, hn⟩ : ∃ n, n = r.cond.length := ⟨_, rfl⟩
  rw [← hn] at h0 ⊢
  have hB0 := (Below.refl w.heap.size w).alloc (Nat.le_refl _) (.cells #[.bool r.pre, .int .i64 r.flag, .bool r.cross, .string r.strip, .string r.add, .slice A n cap] 51)
  have HB := Lib.hid hB0
  have CO := Lib.hid (fun wx (hb : Below w.heap.size w wx) => rwithout_any wx _ r wd (h0.keep hb) hw)
  have CA := Lib.hid (fun wx (hb : Below w.heap.size w wx) => rallows_any wx _ r wd (h0.keep hb) hf hw (tabs_below hT hb))
  have hrs := rest_size r wd
  have CW := Lib.hid (fun wx (hb : Below w.heap.size w wx) => rwith_any wx _ r (restOf r wd) (h0.keep hb) (by omega) (by have := hf.add; omega))
  have hap := apply_says r wd
  rw [show (if r.pre then r.add ++ restOf r wd else restOf r wd ++ r.add) = withB r (restOf r wd) from rfl] at CW
  obtain ⟨R, hR⟩ : ∃ R, R = applyR r wd := ⟨_, rfl⟩
  obtain ⟨X, hX⟩ : ∃ X, X = restOf r wd := ⟨_, rfl⟩
  obtain ⟨Z, hZ⟩ : ∃ Z, Z = withB r X := ⟨_, rfl⟩
  obtain ⟨b1, h1⟩ : ∃ b, b = thereB r wd := ⟨_, rfl⟩
  obtain ⟨b2, h2⟩ : ∃ b, b = allowB r wd := ⟨_, rfl⟩
  rw [← hX] at CW CO hap
  rw [← hZ] at CW hap
  rw [← h1] at CO hap
  rw [← h2] at CA hap
  rw [← hR] at hap ⊢
  have BX := Lib.hid (show ∀ wx, Below (w.alloc (.cells #[.bool r.pre, .int .i64 r.flag, .bool r.cross, .string r.strip, .string r.add, .slice A n cap] 51)).heap.size (w.alloc (.cells #[.bool r.pre, .int .i64 r.flag, .bool r.cross, .string r.strip, .string r.add, .slice A n cap] 51)) wx → _ from fun wx hb => box6 hb)
  obtain ⟨pre, flag, cross, strip, add, cond⟩ := r
  dsimp only at HB CO CA CW BX ⊢
  clear h0 hf hT hn hB0 hrs hX hZ h1 h2 hR
  go_enter Tryz.func61, Tryz.ntmps61
  go_wp2_with (go_at_call 75; refine (CO.out _ HB.out).mono ?_)
  rintro e w1 ⟨rfl, hb⟩
  have HX := Lib.hid hb
  obtain ⟨x0, x1, x2, x3, x4, x5⟩ := BX.out w1 hb
  have HB1 := Lib.hid (HB.out.trans (hb.mono HB.out.size))
  clear hb
  cases b1 with
  | false =>
    have hz : R = ⟨#[]⟩ := by rw [hap, if_neg (by simp)]
    subst hz
    clear hap
    go_wp2_with fail
    go_ret2
    exact ⟨rfl, HB1.out⟩
  | true =>
    go_wp2_with (go_at_call 76; refine (CA.out _ HB1.out).mono ?_)
    rintro e w2 ⟨rfl, hb⟩
    have HX2 := Lib.hid (HX.out.trans (hb.mono HX.out.size))
    clear x0 x1 x2 x3 x4 x5
    obtain ⟨x0, x1, x2, x3, x4, x5⟩ := BX.out w2 HX2.out
    have HB2 := Lib.hid (HB1.out.trans (hb.mono HB1.out.size))
    clear hb
    cases b2 with
    | false =>
      have hz : R = ⟨#[]⟩ := by rw [hap, if_neg (by simp)]
      subst hz
      clear hap
      go_wp2_with fail
      go_ret2
      exact ⟨rfl, HB2.out⟩
    | true =>
      have hz : R = Z := by rw [hap, if_pos (by simp)]
      subst hz
      clear hap
      go_wp2_with (go_at_call 77; refine (CW.out _ HB2.out).mono ?_)
      rintro e w3 ⟨rfl, hb⟩
      have HB3 := Lib.hid (HB2.out.trans (hb.mono HB2.out.size))
      clear hb
      go_wp2_with fail
      go_ret2
      exact ⟨by rw [r_okB]; rfl, HB3.out⟩

set_option maxRecDepth 100000 in
set_option maxHeartbeats 2000000 in
theorem rapplies_any (w : World) (v : Value) (r : Ru) (wd : ByteArray) (h : RuAt w v r) (hf : FitR r) (hw : wd.size ≤ 1000000000) (hT : Lib.Utf8Tabs 1 2 w) :
    Calls Tryz.prog 79 #[v, .string wd] w fun e w' => e = .returned (.bool (okB (applyR r wd))) ∧ Below w.heap.size w w' := by
  have h0 := h
  obtain ⟨A, cap, rfl, -⟩ := h
  obtain ⟨n, hn⟩ : ∃ n, n = r.cond.length := ⟨_, rfl⟩
  rw [← hn] at h0 ⊢
  have hB0 := (Below.refl w.heap.size w).alloc (Nat.le_refl _) (.cells #[.bool r.pre, .int .i64 r.flag, .bool r.cross, .string r.strip, .string r.add, .slice A n cap] 51)
  have HB := Lib.hid hB0
  have C := Lib.hid (rapp_any _ _ r wd (h0.keep hB0) hf hw (tabs_below hT hB0))
  obtain ⟨R, hR⟩ : ∃ R, R = applyR r wd := ⟨_, rfl⟩
  obtain ⟨b, hb⟩ : ∃ b, b = okB R := ⟨_, rfl⟩
  rw [← hR] at C ⊢
  rw [← hb] at C ⊢
  obtain ⟨pre, flag, cross, strip, add, cond⟩ := r
  dsimp only at HB C ⊢
  clear h0 hf hT hn hB0 hR hb
  go_enter Tryz.func79, Tryz.ntmps79
  go_wp2_with (go_at_call 61; refine C.out.mono ?_)
  rintro e w1 ⟨rfl, hb⟩
  have HB1 := Lib.hid (HB.out.trans (hb.mono HB.out.size))
  clear hb
  go_wp2_with fail
  go_ret
  exact ⟨rfl, HB1.out⟩
end Go.Proofs.YtcbmfkgekhadkaaGreatDoor
