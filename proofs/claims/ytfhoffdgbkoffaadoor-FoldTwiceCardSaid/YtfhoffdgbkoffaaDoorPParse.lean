/- The document's Parse of chapter 10 by contract. -/
import Derived.Test.YtfhoffdgbkoffaaDoorPPart
import Derived.Test.YtfhoffdgbkoffaaDoorQLaws
import Derived.Test.YtfhoffdgbkoffaaDoorNRefParse
import Derived.StillTailTactics
namespace Go.Proofs.YtfhoffdgbkoffaaDoor
open Go Go.RowKit Go.Lib

theorem codesB_flags (l : List UInt8) : (codesB l).isSome = validD l ∧ (codesB l).getD [] = codesL l := by
  unfold codesB codesL
  cases validD l <;> simp
theorem rparse9_any (w : World) (s : ByteArray) (hs : s.size ≤ 100000) :
    Calls Tryd.prog 29 #[.string s] w fun e w' => ∃ v, e = .returned (.tuple #[v, .bool (parseS s).isSome]) ∧ ItemsNew w.heap.size w' v ((parseS s).getD []) ∧ Below w.heap.size w w' :=
  rparse_any w s hs (by
    obtain ⟨e1, e2⟩ := codesB_flags s.data.toList
    rw [e1, e2]
    exact rcodes_any s w (by omega))
/-- A box of six cells is written anew. -/
def put6 (w : World) (H : Nat) (a b c d e f : Value) : World :=
  (((((w.setCell ⟨H, 0, none⟩ a).setCell ⟨H, 1, none⟩ b).setCell ⟨H, 2, none⟩ c).setCell ⟨H, 3, none⟩ d).setCell ⟨H, 4, none⟩ e).setCell ⟨H, 5, none⟩ f
theorem put6_size (w : World) (H : Nat) (a b c d e f : Value) : (put6 w H a b c d e f).heap.size = w.heap.size := by simp [put6, World.setCell]
theorem put6_block (w : World) (H : Nat) (a b c d e f : Value) {k : Nat} (hk : k ≠ H) : (put6 w H a b c d e f).heap[k]? = w.heap[k]? := by
  unfold put6
  rw [Below.heap_setCell _ _ _ _ hk, Below.heap_setCell _ _ _ _ hk, Below.heap_setCell _ _ _ _ hk, Below.heap_setCell _ _ _ _ hk, Below.heap_setCell _ _ _ _ hk, Below.heap_setCell _ _ _ _ hk]
theorem put6_below {B : Nat} {w w' : World} {H : Nat} (h : Below B w w') (hB : B ≤ H) (a b c d e f : Value) : Below B w (put6 w' H a b c d e f) :=
  (((((h.setCell (p := ⟨H, 0, none⟩) hB _).setCell (p := ⟨H, 1, none⟩) hB _).setCell (p := ⟨H, 2, none⟩) hB _).setCell (p := ⟨H, 3, none⟩) hB _).setCell (p := ⟨H, 4, none⟩) hB _).setCell (p := ⟨H, 5, none⟩) hB _
theorem put6_items {B : Nat} {w : World} {H : Nat} {v : Value} {l : List It} (h : ItemsNew B w v l) (hB : H < B) (a b c d e f : Value) : ItemsNew B (put6 w H a b c d e f) v l :=
  h.still (by rw [put6_size]; exact Nat.le_refl _) fun k hk _ => put6_block _ _ _ _ _ _ _ _ (by omega)
theorem box6f {w w' : World} {a b c d e f : Value} {t : TypeId} (hb : Below (w.alloc (.cells #[a, b, c, d, e, f] t)).heap.size (w.alloc (.cells #[a, b, c, d, e, f] t)) w') : ∀ o, w'.frozen? ⟨w.heap.size, o, none⟩ = false := by
  have h : w'.heap[w.heap.size]? = some (.cells #[a, b, c, d, e, f] t (0, 0)) := (hb.block w.heap.size (by rw [World.size_alloc]; omega)).trans (World.alloc_heap_new w _)
  intro o
  simp [World.frozen?, h]
theorem parseR_len {s : ByteArray} (h : (wordsL s.data.toList).length ≠ 6) : parseR s = none := by
  unfold parseR
  split
  · rename_i hw; rw [hw] at h; exact absurd rfl h
  · rfl
theorem parseR_six {s : ByteArray} {a f c x y z : List UInt8} (h : wordsL s.data.toList = [a, f, c, x, y, z]) : parseR s = parse6 a f c x y z := by
  unfold parseR; rw [h]
theorem beq_lit {a : List UInt8} {A : ByteArray} (hA : A.data.toList = a) (b : List UInt8) : (A.toList == b) = decide (a = b) := by
  rw [Bool.eq_iff_iff, beq_iff_eq, decide_eq_true_eq, toL_data, hA]
/-- A value that reads as a rule, its condition in blocks from B on. -/
def RuNew (B : Nat) (w : World) (v : Value) (r : Ru) : Prop :=
  ∃ A cap, v = .agg #[.bool r.pre, .int .i64 r.flag, .bool r.cross, .string r.strip, .string r.add, .slice A r.cond.length cap] ∧ ItemsNew B w (.slice A r.cond.length cap) r.cond
theorem RuNew.at {B : Nat} {w : World} {v : Value} {r : Ru} (h : RuNew B w v r) : RuAt w v r := by
  obtain ⟨A, cap, e, h1⟩ := h
  exact ⟨A, cap, e, h1.at⟩
def ParseN10 (w w' : World) (o : Option Ru) (e : Ending) : Prop := ∃ v, e = .returned (.tuple #[v, .bool o.isSome]) ∧ RuNew w.heap.size w' v (o.getD ru0) ∧ Below w.heap.size w w'
theorem ParseN10.no {w w' : World} {o : Option Ru} (h : o = none) (hb : Below w.heap.size w w') : ParseN10 w w' o (.returned (.tuple #[.agg #[.bool false, .int .i64 0, .bool false, .string ⟨#[]⟩, .string ⟨#[]⟩, .slice none 0 0], .bool false])) := by
  subst h; exact ⟨_, rfl, ⟨none, 0, rfl, .inl ⟨rfl, _, _, rfl⟩⟩, hb⟩
/-- What is answered. -/
def ParseR10 (w w' : World) (o : Option Ru) (e : Ending) : Prop := ∃ v, e = .returned (.tuple #[v, .bool o.isSome]) ∧ RuAt w' v (o.getD ru0) ∧ Below w.heap.size w w'
theorem ParseR10.no {w w' : World} {o : Option Ru} (h : o = none) (hb : Below w.heap.size w w') : ParseR10 w w' o (.returned (.tuple #[.agg #[.bool false, .int .i64 0, .bool false, .string ⟨#[]⟩, .string ⟨#[]⟩, .slice none 0 0], .bool false])) := by
  subst h; exact ⟨_, rfl, ⟨none, 0, rfl, .inl ⟨rfl, _, _, rfl⟩⟩, hb⟩

set_option maxRecDepth 100000 in
set_option maxHeartbeats 4000000 in
theorem rparse10_new (w : World) (s : ByteArray) (hs : s.size ≤ 100000) :
    Calls Tryd.prog 15 #[.string s] w fun e w' => ParseN10 w w' (parseR s) e := by
  have W := Lib.hid (rwords_any (w.alloc (.cells #[.bool false, .int .i64 0, .bool false, .string ⟨#[]⟩, .string ⟨#[]⟩, .slice none 0 0] 47)) s (by omega))
  have hbA := Lib.hid ((Below.refl w.heap.size w).alloc (Nat.le_refl _) (.cells #[.bool false, .int .i64 0, .bool false, .string ⟨#[]⟩, .string ⟨#[]⟩, .slice none 0 0] 47))
  have hwm := wordsL_mem s.data.toList
  have hsl : s.data.toList.length = s.size := (Lib.size_eq s).symm
  rw [hsl] at hwm
  clear hsl
  by_cases hn : (wordsL s.data.toList).length = 6
  · obtain ⟨a, f, c, x, y, z, hws⟩ : ∃ a f c x y z, wordsL s.data.toList = [a, f, c, x, y, z] := by
      match wordsL s.data.toList, hn with
      | [a, f, c, x, y, z], _ => exact ⟨a, f, c, x, y, z, rfl⟩
    rw [hws] at W hwm
    rw [parseR_six hws]
    have hla : ∀ u ∈ [a, f, c, x, y, z], u.length ≤ s.size := fun u hu => (hwm u hu).2
    have HLA := Lib.hid hla
    clear hwm hla hn hws
    obtain ⟨Z, hZ⟩ : ∃ Z, Z = parse6 a f c x y z := ⟨_, rfl⟩
    rw [← hZ]
    have HZ := Lib.hid hZ
    clear hZ
    obtain ⟨SA, hSA⟩ : ∃ S : ByteArray, S = ⟨a.toArray⟩ := ⟨_, rfl⟩
    obtain ⟨SF, hSF⟩ : ∃ S : ByteArray, S = ⟨f.toArray⟩ := ⟨_, rfl⟩
    obtain ⟨SC, hSC⟩ : ∃ S : ByteArray, S = ⟨c.toArray⟩ := ⟨_, rfl⟩
    obtain ⟨SX, hSX⟩ : ∃ S : ByteArray, S = ⟨x.toArray⟩ := ⟨_, rfl⟩
    obtain ⟨SY, hSY⟩ : ∃ S : ByteArray, S = ⟨y.toArray⟩ := ⟨_, rfl⟩
    obtain ⟨SZ, hSZ⟩ : ∃ S : ByteArray, S = ⟨z.toArray⟩ := ⟨_, rfl⟩
    have hcells : wCells [a, f, c, x, y, z] = [.string SA, .string SF, .string SC, .string SX, .string SY, .string SZ] := by rw [hSA, hSF, hSC, hSX, hSY, hSZ]; rfl
    rw [hcells] at W
    have dA : SA.data.toList = a := by rw [hSA]
    have dF : SF.data.toList = f := by rw [hSF]
    have dC : SC.data.toList = c := by rw [hSC]
    have dX : SX.data.toList = x := by rw [hSX]
    have dY : SY.data.toList = y := by rw [hSY]
    have dZ : SZ.data.toList = z := by rw [hSZ]
    have bA1 := beq_lit dA [80, 70, 88]
    have bA2 := beq_lit dA [83, 70, 88]
    have bC1 := beq_lit dC [89]
    have bC2 := beq_lit dC [78]
    have szs : SF.size ≤ 100000 ∧ SX.size ≤ 100000 ∧ SY.size ≤ 100000 ∧ SZ.size ≤ 100000 := by
      refine ⟨?_, ?_, ?_, ?_⟩
      · rw [Lib.size_eq, dF]; have := HLA.out f (by simp); omega
      · rw [Lib.size_eq, dX]; have := HLA.out x (by simp); omega
      · rw [Lib.size_eq, dY]; have := HLA.out y (by simp); omega
      · rw [Lib.size_eq, dZ]; have := HLA.out z (by simp); omega
    have CF := Lib.hid (fun wx => rflag_any SF wx (by omega))
    rw [dF] at CF
    have HD := Lib.hid (And.intro dX (And.intro dY (And.intro hSZ szs)))
    clear hSA hSF hSC hSX hSY hSZ hcells dA dF dC dX dY dZ szs HLA
    go_enter Tryd.func15, Tryd.ntmps15
    go_wp2_with (go_at_call 26; refine W.out.mono ?_)
    rintro e w1 ⟨v, rfl, hown, hb⟩
    simp only [List.length_cons, List.length_nil] at hown
    obtain ⟨g, cap, rfl, hg, hcap, -, hcell⟩ := own_open9 hown (by omega)
    have k0 := hcell 0 _ rfl
    have k1 := hcell 1 _ rfl
    have k2 := hcell 2 _ rfl
    have k3 := hcell 3 _ rfl
    have k4 := hcell 4 _ rfl
    have k5 := hcell 5 _ rfl
    have hgH : w.heap.size < g := by
      have := (hown.lt g rfl).1
      rw [World.size_alloc] at this
      omega
    obtain ⟨x0, x1, x2, x3, x4, x5⟩ := box6 hb
    have fz := box6f hb
    have HB := Lib.hid (And.intro hb (hbA.out.trans (hb.mono hbA.out.size)))
    clear hown hb hcell W
    by_cases hpa : a = pfx ∨ a = sfx
    · by_cases hff : flagL f = 0
      · have hZ0 : Z = none := by rw [HZ.out]; unfold parse6; rw [if_neg (fun h => h.2.1 hff)]
        subst hZ0
        rw [hff] at CF
        have hA : decide (a = [80, 70, 88]) = true ∨ (decide (a = [80, 70, 88]) = false ∧ decide (a = [83, 70, 88]) = true) := by
          by_cases h1 : a = [80, 70, 88]
          · exact .inl (decide_eq_true h1)
          · exact .inr ⟨decide_eq_false h1, decide_eq_true (hpa.resolve_left h1)⟩
        rcases hA with hA | ⟨hA, hA2⟩
        all_goals
          clear hff hpa
          go_wp2_with (go_at_call 27; refine (CF.out _).mono ?_; rintro e w2 ⟨rfl, rfl⟩)
          exact bodyPost_ret (v := .tuple #[.agg #[.bool false, .int .i64 0, .bool false, .string ⟨#[]⟩, .string ⟨#[]⟩, .slice none 0 0], .bool false]) (by simp [results, Tryd.results15, go_sem, x0, x1, x2, x3, x4, x5]) rfl (ParseN10.no rfl (put6_below HB.out.2 (Nat.le_refl _) _ _ _ _ _ _))
      · by_cases hcc : c = [89] ∨ c = [78]
        · have hZ1 : Z = match partL x, partL y, parseS ⟨z.toArray⟩ with
              | some u, some v, some l => some ⟨decide (a = pfx), flagL f, decide (c = [89]), u, v, l⟩
              | _, _, _ => none := by rw [HZ.out]; unfold parse6; rw [if_pos ⟨hpa, hff, hcc⟩]; rfl
          have CX := Lib.hid (fun wx => rpart_any SX wx (by have := HD.out.2.2.2.2.1; omega))
          have CY := Lib.hid (fun wx => rpart_any SY wx (by have := HD.out.2.2.2.2.2.1; omega))
          have CZ := Lib.hid (fun wx => rparse9_any wx SZ HD.out.2.2.2.2.2.2)
          rw [HD.out.1] at CX
          rw [HD.out.2.1] at CY
          rw [← HD.out.2.2.1] at hZ1
          obtain ⟨F, hF⟩ : ∃ F, F = flagL f := ⟨_, rfl⟩
          rw [← hF] at CF hff hZ1
          have hf0 : (F == 0) = false := by simpa using hff
          have hA : decide (a = [80, 70, 88]) = true ∨ (decide (a = [80, 70, 88]) = false ∧ decide (a = [83, 70, 88]) = true) := by
            by_cases h1 : a = [80, 70, 88]
            · exact .inl (decide_eq_true h1)
            · exact .inr ⟨decide_eq_false h1, decide_eq_true (hpa.resolve_left h1)⟩
          have hC : decide (c = [89]) = true ∨ (decide (c = [89]) = false ∧ decide (c = [78]) = true) := by
            by_cases h1 : c = [89]
            · exact .inl (decide_eq_true h1)
            · exact .inr ⟨decide_eq_false h1, decide_eq_true (hcc.resolve_left h1)⟩
          obtain ⟨pb, hpb⟩ : ∃ p : Bool, p = decide (a = [80, 70, 88]) := ⟨_, rfl⟩
          obtain ⟨qb, hqb⟩ : ∃ p : Bool, p = decide (a = [83, 70, 88]) := ⟨_, rfl⟩
          obtain ⟨cb, hcb⟩ : ∃ p : Bool, p = decide (c = [89]) := ⟨_, rfl⟩
          obtain ⟨nb, hnb⟩ : ∃ p : Bool, p = decide (c = [78]) := ⟨_, rfl⟩
          rw [show decide (a = pfx) = decide (a = [80, 70, 88]) from rfl] at hZ1
          rw [← hpb, ← hqb] at hA
          rw [← hcb, ← hnb] at hC
          rw [← hpb] at hZ1 bA1
          rw [← hqb] at bA2
          rw [← hcb] at bC1 hZ1
          rw [← hnb] at bC2
          have HZ1 := Lib.hid hZ1
          have KEEP := Lib.hid (fun wx (hb' : Below w1.heap.size w1 wx) => (And.intro (And.intro ((hb'.cell (p := ⟨g, 0, none⟩) hg).trans k0) (And.intro ((hb'.cell (p := ⟨g, 1, none⟩) hg).trans k1) (And.intro ((hb'.cell (p := ⟨g, 2, none⟩) hg).trans k2) (And.intro ((hb'.cell (p := ⟨g, 3, none⟩) hg).trans k3) (And.intro ((hb'.cell (p := ⟨g, 4, none⟩) hg).trans k4) ((hb'.cell (p := ⟨g, 5, none⟩) hg).trans k5))))))
            (And.intro (box6 (HB.out.1.trans (hb'.mono HB.out.1.size))) (box6f (HB.out.1.trans (hb'.mono HB.out.1.size))))))
          clear hff hpa hcc hF hZ1 hpb hqb hcb hnb x0 x1 x2 x3 x4 x5 fz
          have hcomb : (pb = true ∨ (pb = false ∧ qb = true)) ∧ (cb = true ∨ (cb = false ∧ nb = true)) := ⟨hA, hC⟩
          clear hA hC
          go_upto_region 2 with fail
          go_cut [46] (fun t wx => t = .bool false ∧ w1 = wx)
          case first =>
            rcases hcomb with ⟨rfl | ⟨rfl, rfl⟩, rfl | ⟨rfl, rfl⟩⟩
            all_goals
              go_wp2_with (go_at_call 27; refine (CF.out _).mono ?_; rintro e w2 ⟨rfl, rfl⟩)
              go_meet
              exact ⟨rfl, rfl⟩
          case rest =>
            obtain ⟨rfl, rfl⟩ := hcut
            go_wp2_with (go_at_call 28; refine (CX.out _).mono ?_)
            rintro e w2 ⟨⟨t1, rfl, ht1⟩, hb2⟩
            have B2 := Lib.hid hb2
            have HT1 := Lib.hid ht1
            have K2 := Lib.hid (KEEP.out w2 hb2)
            obtain ⟨⟨-, -, -, -, k4, -⟩, -⟩ := K2.out
            clear hb2 ht1
            go_wp2_with (go_at_call 28; refine (CY.out _).mono ?_)
            rintro e w3 ⟨⟨t2, rfl, ht2⟩, hb3⟩
            have B3 := Lib.hid (B2.out.trans (hb3.mono B2.out.size))
            have HT2 := Lib.hid ht2
            obtain ⟨⟨-, -, -, -, -, k5⟩, -⟩ := KEEP.out w3 B3.out
            clear hb3 ht2
            go_wp2_with (go_at_call 29; refine (CZ.out _).mono ?_)
            rintro e w4 ⟨v4, rfl, hi4, hb4⟩
            have B4 := Lib.hid (B3.out.trans (hb4.mono B3.out.size))
            have HI4 := Lib.hid (hi4.less (show w1.heap.size ≤ w3.heap.size from B3.out.size))
            obtain ⟨⟨k0, k1, k2, -, -, -⟩, ⟨x0, x1, x2, x3, x4, x5⟩, fz⟩ := KEEP.out w4 B4.out
            have HB4 := Lib.hid (HB.out.2.trans (B4.out.mono HB.out.2.size))
            clear hi4 hb4
            obtain ⟨bx, hbx⟩ : ∃ b, b = (partL x).isSome := ⟨_, rfl⟩
            obtain ⟨bY, hby⟩ : ∃ b, b = (partL y).isSome := ⟨_, rfl⟩
            obtain ⟨bz, hbz⟩ : ∃ b, b = (parseS SZ).isSome := ⟨_, rfl⟩
            rw [← hbx, ← hby, ← hbz]
            by_cases hall : bx = true ∧ bY = true ∧ bz = true
            · obtain ⟨rfl, rfl, rfl⟩ := hall
              obtain ⟨u, hu⟩ := Option.isSome_iff_exists.1 hbx.symm
              obtain ⟨v, hv⟩ := Option.isSome_iff_exists.1 hby.symm
              obtain ⟨l, hl⟩ := Option.isSome_iff_exists.1 hbz.symm
              obtain rfl := HT1.out u hu
              obtain rfl := HT2.out v hv
              have hZ2 := HZ1.out
              rw [hu, hv, hl] at hZ2
              dsimp only at hZ2
              rw [hl] at HI4
              simp only [Option.getD_some] at HI4
              obtain ⟨D, dc, rfl, -⟩ := items_open HI4.out.at
              have HZ2 := Lib.hid hZ2
              clear hZ2 hu hv hl hbx hby hbz HZ1 HT1 HT2
              have y0 : w4.drew.cell? ⟨g, 0, none⟩ = some (.string SA) := k0
              have y1 : w4.drew.cell? ⟨g, 1, none⟩ = some (.string SF) := k1
              have y2 : w4.drew.cell? ⟨g, 2, none⟩ = some (.string SC) := k2
              have z0 : w4.drew.cell? ⟨w.heap.size, 0, none⟩ = some (.bool false) := x0
              have z1 : w4.drew.cell? ⟨w.heap.size, 1, none⟩ = some (.int .i64 0) := x1
              have z2 : w4.drew.cell? ⟨w.heap.size, 2, none⟩ = some (.bool false) := x2
              have z3 : w4.drew.cell? ⟨w.heap.size, 3, none⟩ = some (.string ⟨#[]⟩) := x3
              have z4 : w4.drew.cell? ⟨w.heap.size, 4, none⟩ = some (.string ⟨#[]⟩) := x4
              have z5 : w4.drew.cell? ⟨w.heap.size, 5, none⟩ = some (.slice none 0 0) := x5
              have zf : ∀ o, w4.drew.frozen? ⟨w.heap.size, o, none⟩ = false := fz
              have HBd := Lib.hid (show Below w.heap.size w w4.drew from below_drewN HB4.out 1)
              have HId := Lib.hid (show ItemsNew w1.heap.size w4.drew (.slice D l.length dc) l from HI4.out)
              clear k0 k1 k2 x0 x1 x2 x3 x4 x5 fz
              go_upto_region 9 with fail
              go_still_tail 16, (by kernel_rfl)
              still_call (CF.out _)
              repeat still_step
              refine wpStill_nil ?_
              change wpList _ _ _ _ _ w4.drew
              generalize w4.drew = wd at *
              go_wp2_with fail
              refine bodyPost_ret (v := .tuple #[.agg #[.bool pb, .int .i64 F, .bool cb, .string t1, .string t2, .slice D l.length dc], .bool true]) (by simp [results, Tryd.results15, go_sem, z0, z1, z2, z3, z4, z5]) rfl ?_
              rw [HZ2.out]
              exact ⟨_, rfl, ⟨D, dc, rfl, (put6_items HId.out (by have := HB.out.1.size; rw [World.size_alloc] at this; omega) _ _ _ _ _ _).less (by have := HB.out.1.size; rw [World.size_alloc] at this; omega)⟩, put6_below HBd.out (Nat.le_refl _) _ _ _ _ _ _⟩
            · have HZ0 := Lib.hid (show Z = none by
                rw [HZ1.out]
                split
                · rename_i h1 h2 h3
                  rw [h1] at hbx; rw [h2] at hby; rw [h3] at hbz
                  exact absurd ⟨hbx, hby, hbz⟩ hall
                · rfl)
              obtain ⟨D, dn, dc, rfl⟩ : ∃ D dn dc, v4 = .slice D dn dc := by
                obtain ⟨D, dc, e, -⟩ := items_open HI4.out.at
                exact ⟨D, _, dc, e⟩
              have hcs : bx = false ∨ (bx = true ∧ bY = false) ∨ (bx = true ∧ bY = true ∧ bz = false) := by
                cases bx <;> cases bY <;> cases bz <;> simp_all
              clear hall hbx hby hbz
              rcases hcs with rfl | ⟨rfl, rfl⟩ | ⟨rfl, rfl, rfl⟩
              all_goals
                go_wp2_with fail
                exact bodyPost_ret (v := .tuple #[.agg #[.bool false, .int .i64 0, .bool false, .string ⟨#[]⟩, .string ⟨#[]⟩, .slice none 0 0], .bool false]) (by simp [results, Tryd.results15, go_sem, x0, x1, x2, x3, x4, x5]) rfl (ParseN10.no HZ0.out (put6_below HB4.out (Nat.le_refl _) _ _ _ _ _ _))
        · have hZ0 : Z = none := by rw [HZ.out]; unfold parse6; rw [if_neg (fun h => hcc h.2.2)]
          subst hZ0
          obtain ⟨F, hF⟩ : ∃ F, F = flagL f := ⟨_, rfl⟩
          rw [← hF] at CF hff
          have hf0 : (F == 0) = false := by simpa using hff
          have hA : decide (a = [80, 70, 88]) = true ∨ (decide (a = [80, 70, 88]) = false ∧ decide (a = [83, 70, 88]) = true) := by
            by_cases h1 : a = [80, 70, 88]
            · exact .inl (decide_eq_true h1)
            · exact .inr ⟨decide_eq_false h1, decide_eq_true (hpa.resolve_left h1)⟩
          have hC1 : decide (c = [89]) = false := decide_eq_false (fun e => hcc (.inl e))
          have hC2 : decide (c = [78]) = false := decide_eq_false (fun e => hcc (.inr e))
          rcases hA with hA | ⟨hA, hA2⟩
          all_goals
            clear hff hpa hcc hF
            go_wp2_with (go_at_call 27; refine (CF.out _).mono ?_; rintro e w2 ⟨rfl, rfl⟩)
            exact bodyPost_ret (v := .tuple #[.agg #[.bool false, .int .i64 0, .bool false, .string ⟨#[]⟩, .string ⟨#[]⟩, .slice none 0 0], .bool false]) (by simp [results, Tryd.results15, go_sem, x0, x1, x2, x3, x4, x5]) rfl (ParseN10.no rfl (put6_below HB.out.2 (Nat.le_refl _) _ _ _ _ _ _))
    · have hZ0 : Z = none := by rw [HZ.out]; unfold parse6; rw [if_neg (fun h => hpa h.1)]
      subst hZ0
      have hA : decide (a = [80, 70, 88]) = false := decide_eq_false (fun e => hpa (.inl e))
      have hA2 : decide (a = [83, 70, 88]) = false := decide_eq_false (fun e => hpa (.inr e))
      clear hpa
      go_wp2_with fail
      exact bodyPost_ret (v := .tuple #[.agg #[.bool false, .int .i64 0, .bool false, .string ⟨#[]⟩, .string ⟨#[]⟩, .slice none 0 0], .bool false]) (by simp [results, Tryd.results15, go_sem, x0, x1, x2, x3, x4, x5]) rfl (ParseN10.no rfl (put6_below HB.out.2 (Nat.le_refl _) _ _ _ _ _ _))
  · rw [parseR_len hn]
    obtain ⟨n, hnn⟩ : ∃ n, n = (wordsL s.data.toList).length := ⟨_, rfl⟩
    rw [← hnn] at W hn
    have h6 : ¬ ((n : Int) = 6) := by omega
    clear hnn hn hwm
    go_enter Tryd.func15, Tryd.ntmps15
    go_wp2_with (go_at_call 26; refine W.out.mono ?_)
    rintro e w1 ⟨v, rfl, hown, hb⟩
    obtain ⟨A, cap, rfl⟩ : ∃ A cap, v = .slice A n cap := by
      rcases hown.2 with ⟨e, e0⟩ | ⟨_, _, _, e, _⟩
      · exact ⟨_, _, by rw [e, e0]⟩
      · exact ⟨_, _, e⟩
    obtain ⟨x0, x1, x2, x3, x4, x5⟩ := box6 hb
    have fz := box6f hb
    have HB := Lib.hid (hbA.out.trans (hb.mono hbA.out.size))
    clear hown hb
    go_wp2_with fail
    exact bodyPost_ret (v := .tuple #[.agg #[.bool false, .int .i64 0, .bool false, .string ⟨#[]⟩, .string ⟨#[]⟩, .slice none 0 0], .bool false]) (by simp [results, Tryd.results15, go_sem, x0, x1, x2, x3, x4, x5]) rfl (ParseN10.no rfl (put6_below HB.out (Nat.le_refl _) _ _ _ _ _ _))
theorem rparse10_any (w : World) (s : ByteArray) (hs : s.size ≤ 100000) :
    Calls Tryd.prog 15 #[.string s] w fun e w' => ParseR10 w w' (parseR s) e :=
  (rparse10_new w s hs).mono fun _ _ ⟨v, he, hr, hb⟩ => ⟨v, he, hr.at, hb⟩
end Go.Proofs.YtfhoffdgbkoffaaDoor
