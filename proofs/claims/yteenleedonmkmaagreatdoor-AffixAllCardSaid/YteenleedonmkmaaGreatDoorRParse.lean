/- rule.Parse by contract. -/
import Derived.Test.YteenleedonmkmaaGreatDoorRWord
import Derived.Test.YteenleedonmkmaaGreatDoorMFirst
namespace Go.Proofs.YteenleedonmkmaaGreatDoor
open Go Go.RowKit Go.Lib

/-- A box of six cells is written anew. -/
def rput6 (w : World) (H : Nat) (a b c d e f : Value) : World :=
  (((((w.setCell ⟨H, 0, none⟩ a).setCell ⟨H, 1, none⟩ b).setCell ⟨H, 2, none⟩ c).setCell ⟨H, 3, none⟩ d).setCell ⟨H, 4, none⟩ e).setCell ⟨H, 5, none⟩ f
theorem rput6_size (w : World) (H : Nat) (a b c d e f : Value) : (rput6 w H a b c d e f).heap.size = w.heap.size := by simp [rput6, World.setCell]
theorem rput6_block (w : World) (H : Nat) (a b c d e f : Value) {k : Nat} (hk : k ≠ H) : (rput6 w H a b c d e f).heap[k]? = w.heap[k]? := by
  unfold rput6
  rw [Below.heap_setCell _ _ _ _ hk, Below.heap_setCell _ _ _ _ hk, Below.heap_setCell _ _ _ _ hk, Below.heap_setCell _ _ _ _ hk, Below.heap_setCell _ _ _ _ hk, Below.heap_setCell _ _ _ _ hk]
theorem rput6_below {B : Nat} {w w' : World} {H : Nat} (h : Below B w w') (hB : B ≤ H) (a b c d e f : Value) : Below B w (rput6 w' H a b c d e f) :=
  (((((h.setCell (p := ⟨H, 0, none⟩) hB _).setCell (p := ⟨H, 1, none⟩) hB _).setCell (p := ⟨H, 2, none⟩) hB _).setCell (p := ⟨H, 3, none⟩) hB _).setCell (p := ⟨H, 4, none⟩) hB _).setCell (p := ⟨H, 5, none⟩) hB _
theorem rput6_items {B : Nat} {w : World} {H : Nat} {v : Value} {l : List It} (h : ItemsNew B w v l) (hB : H < B) (a b c d e f : Value) : ItemsNew B (rput6 w H a b c d e f) v l :=
  h.still (by rw [rput6_size]; exact Nat.le_refl _) fun k hk _ => rput6_block _ _ _ _ _ _ _ _ (by omega)
theorem rbox6f {w w' : World} {a b c d e f : Value} {t : TypeId} (hb : Below (w.alloc (.cells #[a, b, c, d, e, f] t)).heap.size (w.alloc (.cells #[a, b, c, d, e, f] t)) w') : ∀ o, w'.frozen? ⟨w.heap.size, o, none⟩ = false := by
  have h : w'.heap[w.heap.size]? = some (.cells #[a, b, c, d, e, f] t (0, 0)) := (hb.block w.heap.size (by rw [World.size_alloc]; omega)).trans (World.alloc_heap_new w _)
  intro o
  simp [World.frozen?, h]
theorem rparse_len {s : ByteArray} (h : (wordsL s.data.toList).length ≠ 6) : parseR s = none := by
  unfold parseR
  split
  · rename_i hw; rw [hw] at h; exact absurd rfl h
  · rfl
theorem rparse_six {s : ByteArray} {a f c x y z : List UInt8} (h : wordsL s.data.toList = [a, f, c, x, y, z]) : parseR s = parse6 a f c x y z := by
  unfold parseR; rw [h]
theorem parse6_yes {a f c x y z : List UInt8} {u v : ByteArray} {l : List It} (h1 : fO a c = true) (h2 : decide (flagL f ≠ 0) = true) (hx : partL x = some u) (hy : partL y = some v) (hz : parseS ⟨z.toArray⟩ = some l) :
    parse6 a f c x y z = some ⟨fP a c, flagL f, fX a c, u, v, l⟩ := by
  unfold fO at h1
  simp only [decide_eq_true_eq] at h1 h2
  unfold parse6
  rw [if_pos ⟨h1.1, h2, h1.2⟩, hx, hy, hz]
  have e1 : fP a c = decide (a = pfx) := by unfold fP; simp [h1.2]
  have e2 : fX a c = decide (c = [89]) := by unfold fX; simp [h1.1]
  rw [e1, e2]
theorem parse6_no {a f c x y z : List UInt8} (h : ¬ (fO a c = true ∧ decide (flagL f ≠ 0) = true ∧ (partL x).isSome = true ∧ (partL y).isSome = true ∧ (parseS ⟨z.toArray⟩).isSome = true)) : parse6 a f c x y z = none := by
  unfold parse6
  split
  · rename_i hc
    split
    · rename_i u v l hx hy hz
      exact absurd ⟨by unfold fO; exact decide_eq_true ⟨hc.1, hc.2.2⟩, decide_eq_true hc.2.1, by rw [hx]; rfl, by rw [hy]; rfl, by rw [hz]; rfl⟩ h
    · rfl
  · rfl
/-- A value that reads as a rule, its items in blocks from B on. -/
def RuNewR (B : Nat) (w : World) (v : Value) (r : Ru) : Prop := ∃ A cap, v = .agg #[.bool r.pre, .int .i64 r.flag, .bool r.cross, .string r.strip, .string r.add, .slice A r.cond.length cap] ∧ ItemsNew B w (.slice A r.cond.length cap) r.cond
/-- What is answered. -/
def RParseE (w w' : World) (o : Option Ru) (e : Ending) : Prop := ∃ v, e = .returned (.tuple #[v, .bool o.isSome]) ∧ RuAt w' v (o.getD ru0) ∧ Below w.heap.size w w'
def RParseN (w w' : World) (o : Option Ru) (e : Ending) : Prop := ∃ v, e = .returned (.tuple #[v, .bool o.isSome]) ∧ RuNewR w.heap.size w' v (o.getD ru0) ∧ Below w.heap.size w w'
theorem RParseN.no {w w' : World} {o : Option Ru} (h : o = none) (hb : Below w.heap.size w w') : RParseN w w' o (.returned (.tuple #[.agg #[.bool false, .int .i64 0, .bool false, .string ⟨#[]⟩, .string ⟨#[]⟩, .slice none 0 0], .bool false])) := by
  subst h; exact ⟨_, rfl, ⟨none, 0, rfl, .inl ⟨rfl, _, _, rfl⟩⟩, hb⟩

set_option maxRecDepth 100000 in
set_option maxHeartbeats 8000000 in
theorem rpar_new (w : World) (s : ByteArray) (hs : s.size ≤ 1000000000) (hT : Lib.Utf8Tabs 1 2 w) :
    Calls Tryz.prog 26 #[.string s] w fun e w' => RParseN w w' (parseR s) e := by
  have hbA := (Below.refl w.heap.size w).alloc (Nat.le_refl _) (.cells #[.bool false, .int .i64 0, .bool false, .string ⟨#[]⟩, .string ⟨#[]⟩, .slice none 0 0] 36)
  have W := Lib.hid (rsplit_any r_index (w.alloc (.cells #[.bool false, .int .i64 0, .bool false, .string ⟨#[]⟩, .string ⟨#[]⟩, .slice none 0 0] 36)) s (by omega))
  have HA := Lib.hid hbA
  have hwm := wordsL_mem s.data.toList
  have hsl : s.data.toList.length = s.size := (Lib.size_eq s).symm
  rw [hsl] at hwm
  obtain ⟨hsix1, hsix2⟩ := splitL_six s.data.toList
  clear hsl
  by_cases hn : (wordsL s.data.toList).length = 6
  · rw [hsix2 hn] at W
    obtain ⟨a, f, c, x, y, z, hws⟩ : ∃ a f c x y z, wordsL s.data.toList = [a, f, c, x, y, z] := by
      match wordsL s.data.toList, hn with
      | [a, f, c, x, y, z], _ => exact ⟨a, f, c, x, y, z, rfl⟩
    rw [hws] at W hwm
    rw [rparse_six hws]
    have hla : ∀ u ∈ [a, f, c, x, y, z], (32 : UInt8) ∉ u ∧ u.length ≤ s.size := fun u hu => hwm u hu
    obtain ⟨Z, hZ⟩ : ∃ Z, Z = parse6 a f c x y z := ⟨_, rfl⟩
    rw [← hZ]
    obtain ⟨SA, hSA⟩ : ∃ S : ByteArray, S = ⟨a.toArray⟩ := ⟨_, rfl⟩
    obtain ⟨SF, hSF⟩ : ∃ S : ByteArray, S = ⟨f.toArray⟩ := ⟨_, rfl⟩
    obtain ⟨SC, hSC⟩ : ∃ S : ByteArray, S = ⟨c.toArray⟩ := ⟨_, rfl⟩
    obtain ⟨SX, hSX⟩ : ∃ S : ByteArray, S = ⟨x.toArray⟩ := ⟨_, rfl⟩
    obtain ⟨SY, hSY⟩ : ∃ S : ByteArray, S = ⟨y.toArray⟩ := ⟨_, rfl⟩
    obtain ⟨SZ, hSZ⟩ : ∃ S : ByteArray, S = ⟨z.toArray⟩ := ⟨_, rfl⟩
    have dA : SA.data.toList = a := by rw [hSA]
    have dF : SF.data.toList = f := by rw [hSF]
    have dC : SC.data.toList = c := by rw [hSC]
    have dX : SX.data.toList = x := by rw [hSX]
    have dY : SY.data.toList = y := by rw [hSY]
    have dZ : SZ.data.toList = z := by rw [hSZ]
    have lA : SA.size ≤ 1000000000 := by rw [Lib.size_eq, dA]; have := (hla a (by simp)).2; omega
    have lF : SF.size ≤ 1000000000 := by rw [Lib.size_eq, dF]; have := (hla f (by simp)).2; omega
    have lC : SC.size ≤ 1000000000 := by rw [Lib.size_eq, dC]; have := (hla c (by simp)).2; omega
    have lX : SX.size ≤ 1000000000 := by rw [Lib.size_eq, dX]; have := (hla x (by simp)).2; omega
    have lY : SY.size ≤ 1000000000 := by rw [Lib.size_eq, dY]; have := (hla y (by simp)).2; omega
    have lZ : SZ.size ≤ 1000000000 := by rw [Lib.size_eq, dZ]; have := (hla z (by simp)).2; omega
    have C1 := Lib.hid (fun wx => rform_any SA SC wx (by omega) (by omega))
    have C2 := Lib.hid (fun wx => rletter_any SF wx (by omega))
    have C3 := Lib.hid (fun wx (hb : Below w.heap.size w wx) => rtextOf_any SX wx (by omega) (by rw [dX]; exact (hla x (by simp)).1) (tabs_below hT hb))
    have C4 := Lib.hid (fun wx (hb : Below w.heap.size w wx) => rtextOf_any SY wx (by omega) (by rw [dY]; exact (hla y (by simp)).1) (tabs_below hT hb))
    have C5 := Lib.hid (fun wx (hb : Below w.heap.size w wx) => parse_any wx SZ (by omega) (tabs_below hT hb))
    rw [dA, dC] at C1
    rw [dF] at C2
    rw [dX] at C3
    rw [dY] at C4
    have HZN := Lib.hid (fun h => hZ.trans (parse6_no h))
    have HZY := Lib.hid (fun (u v : ByteArray) (l : List It) h1 h2 hx hy hz => hZ.trans (parse6_yes (u := u) (v := v) (l := l) h1 h2 hx hy hz))
    rw [← hSZ] at HZN HZY
    obtain ⟨pb, hpb⟩ : ∃ b, b = fP a c := ⟨_, rfl⟩
    obtain ⟨xb, hxb⟩ : ∃ b, b = fX a c := ⟨_, rfl⟩
    obtain ⟨ob, hob⟩ : ∃ b, b = fO a c := ⟨_, rfl⟩
    obtain ⟨fb, hfb⟩ : ∃ b, b = decide (flagL f ≠ 0) := ⟨_, rfl⟩
    unfold FormE at C1
    unfold LetterE at C2
    rw [← hpb, ← hxb, ← hob] at C1
    rw [← hfb] at C2
    rw [← hob, ← hfb] at HZN
    rw [← hob, ← hfb, ← hpb, ← hxb] at HZY
    have HFB := Lib.hid hfb
    unfold PartsAt at W
    have hl6 : [a, f, c, x, y, z].length = 6 := rfl
    rw [hl6] at W
    have EC := Lib.hid (And.intro hSA (And.intro hSF (And.intro hSC (And.intro hSX (And.intro hSY hSZ)))))
    clear hla hn hws hZ hSA hSF hSC hSX hSY hSZ dA dF dC dX dY dZ lA lF lC lX lY lZ hpb hxb hob hfb hsix1 hsix2 hwm hbA hT
    go_enter Tryz.func26, Tryz.ntmps26
    go_wp2_with (go_at_call 50; refine W.out.mono ?_)
    rintro e w1 ⟨v, rfl, ⟨g, cap, rfl, hg, hcap, -, hcell⟩, hb⟩
    have q0 := EC.out.1 ▸ hcell 0 a rfl
    have q1 := EC.out.2.1 ▸ hcell 1 f rfl
    have q2 := EC.out.2.2.1 ▸ hcell 2 c rfl
    have q3 := EC.out.2.2.2.1 ▸ hcell 3 x rfl
    have q4 := EC.out.2.2.2.2.1 ▸ hcell 4 y rfl
    have q5 := EC.out.2.2.2.2.2 ▸ hcell 5 z rfl
    have KX := Lib.hid (fun wx (hx : Below w1.heap.size w1 wx) => And.intro ((hx.cell (p := ⟨g, 0, none⟩) hg).trans q0) (And.intro ((hx.cell (p := ⟨g, 1, none⟩) hg).trans q1) (And.intro ((hx.cell (p := ⟨g, 2, none⟩) hg).trans q2) (And.intro ((hx.cell (p := ⟨g, 3, none⟩) hg).trans q3) (And.intro ((hx.cell (p := ⟨g, 4, none⟩) hg).trans q4) ((hx.cell (p := ⟨g, 5, none⟩) hg).trans q5))))))
    have HB := Lib.hid hb
    have HB1 := Lib.hid (HA.out.trans (hb.mono HA.out.size))
    clear hcell hb
    clear W HA
    go_upto_region 4 with fail
    go_quiet ((go_at_call 51; refine (C1.out _).mono ?_; rintro e w2 ⟨rfl, rfl⟩; exact ⟨rfl, _, rfl⟩))
    have hbd : Below w1.heap.size w1 (w1.drewN nq) := below_drewN (Below.refl _ _) _
    generalize w1.drewN nq = w2 at hbd ⊢
    have HX2 := Lib.hid hbd
    clear q0 q1 q2 q3 q4 q5 C1
    obtain ⟨q0, q1, q2, q3, q4, q5⟩ := KX.out w2 hbd
    clear hbd
    go_wp2_with (go_at_call 52; refine (C2.out _).mono ?_)
    rintro e w3 ⟨⟨k, rfl, hk⟩, hb⟩
    have HK := Lib.hid hk
    have HX3 := Lib.hid (HX2.out.trans (hb.mono HX2.out.size))
    clear q0 q1 q2 q3 q4 q5 C2 hk hb
    obtain ⟨q0, q1, q2, q3, q4, q5⟩ := KX.out w3 HX3.out
    have HB3 := Lib.hid (HB1.out.trans (HX3.out.mono HB1.out.size))
    go_wp2_with (go_at_call 53; refine (C3.out _ HB3.out).mono ?_)
    rintro e w4 ⟨⟨t1, rfl, ht1⟩, hb⟩
    have HT1 := Lib.hid ht1
    have HX4 := Lib.hid (HX3.out.trans (hb.mono HX3.out.size))
    clear q0 q1 q2 q3 q4 q5 C3 ht1 hb
    obtain ⟨q0, q1, q2, q3, q4, q5⟩ := KX.out w4 HX4.out
    have HB4 := Lib.hid (HB1.out.trans (HX4.out.mono HB1.out.size))
    go_wp2_with (go_at_call 53; refine (C4.out _ HB4.out).mono ?_)
    rintro e w5 ⟨⟨t2, rfl, ht2⟩, hb⟩
    have HT2 := Lib.hid ht2
    have HX5 := Lib.hid (HX4.out.trans (hb.mono HX4.out.size))
    clear q0 q1 q2 q3 q4 q5 C4 ht2 hb
    obtain ⟨q0, q1, q2, q3, q4, q5⟩ := KX.out w5 HX5.out
    have HB5 := Lib.hid (HB1.out.trans (HX5.out.mono HB1.out.size))
    go_wp2_with (go_at_call 54; refine (C5.out _ HB5.out).mono ?_)
    rintro e w6 ⟨v6, rfl, hi6, hb⟩
    have HX6 := Lib.hid (HX5.out.trans (hb.mono HX5.out.size))
    have HB6 := Lib.hid (HB1.out.trans (HX6.out.mono HB1.out.size))
    have HI6 := Lib.hid (hi6.less (show w.heap.size + 1 ≤ w5.heap.size from by have := HB.out.size; rw [World.size_alloc] at this; have := HX5.out.size; omega))
    clear q0 q1 q2 q3 q4 q5 C5 hb
    obtain ⟨x0, x1, x2, x3, x4, x5⟩ := box6 (HB.out.trans (HX6.out.mono HB.out.size))
    have fz := rbox6f (HB.out.trans (HX6.out.mono HB.out.size))
    obtain ⟨D, dc, rfl, -⟩ := items_openO hi6.at
    obtain ⟨dn, hdn⟩ : ∃ d, d = ((parseS SZ).getD []).length := ⟨_, rfl⟩
    rw [← hdn] at HI6 ⊢
    have HDN := Lib.hid hdn
    clear hi6 hdn KX HB3 HB4 HB5 HX2 HX3 HX4 HX5
    obtain ⟨bx, hbx⟩ : ∃ b, b = (partL x).isSome := ⟨_, rfl⟩
    obtain ⟨bY, hby⟩ : ∃ b, b = (partL y).isSome := ⟨_, rfl⟩
    obtain ⟨bz, hbz⟩ : ∃ b, b = (parseS SZ).isSome := ⟨_, rfl⟩
    rw [← hbx, ← hby, ← hbz] at HZN
    rw [← hbx, ← hby, ← hbz]
    by_cases hall : ob = true ∧ fb = true ∧ bx = true ∧ bY = true ∧ bz = true
    · obtain ⟨rfl, rfl, rfl, rfl, rfl⟩ := hall
      obtain ⟨u, hu⟩ := Option.isSome_iff_exists.1 hbx.symm
      obtain ⟨v, hv⟩ := Option.isSome_iff_exists.1 hby.symm
      obtain ⟨l, hl⟩ := Option.isSome_iff_exists.1 hbz.symm
      have hZ := HZY.out u v l rfl rfl hu hv hl
      have hkf := HK.out (of_decide_eq_true HFB.out.symm)
      rw [HT1.out u hu, HT2.out v hv]
      rw [hl] at HI6
      simp only [Option.getD_some] at HI6
      rw [← hkf] at hZ
      have HZ := Lib.hid hZ
      have HDL := Lib.hid (show dn = l.length by rw [HDN.out, hl]; rfl)
      clear hu hv hl hbx hby hbz HZN HZY HK HT1 HT2 HFB hZ hkf
      go_wp2_with fail
      refine bodyPost_ret (v := .tuple #[.agg #[.bool pb, .int .i64 k, .bool xb, .string u, .string v, .slice D dn dc], .bool true]) (by simp [results, Tryz.results26, go_sem, x0, x1, x2, x3, x4, x5]) rfl ?_
      rw [HZ.out]
      refine ⟨_, rfl, ⟨D, dc, ?_, ?_⟩, rput6_below HB6.out (Nat.le_refl _) _ _ _ _ _ _⟩
      · show Value.agg _ = Value.agg _
        rw [HDL.out]
        rfl
      · have := (rput6_items (H := w.heap.size) HI6.out (by omega) (.bool pb) (.int .i64 k) (.bool xb) (.string u) (.string v) (.slice D dn dc)).less (Nat.le_succ w.heap.size)
        rw [HDL.out] at this ⊢
        exact this
    · have HZ0 := Lib.hid (HZN.out hall)
      have hcs : ob = false ∨ (ob = true ∧ fb = false) ∨ (ob = true ∧ fb = true ∧ bx = false) ∨ (ob = true ∧ fb = true ∧ bx = true ∧ bY = false) ∨ (ob = true ∧ fb = true ∧ bx = true ∧ bY = true ∧ bz = false) := by
        cases ob <;> cases fb <;> cases bx <;> cases bY <;> cases bz <;> simp_all
      clear hall hbx hby hbz HZN HZY HK HT1 HT2 HFB
      rcases hcs with rfl | ⟨rfl, rfl⟩ | ⟨rfl, rfl, rfl⟩ | ⟨rfl, rfl, rfl, rfl⟩ | ⟨rfl, rfl, rfl, rfl, rfl⟩
      all_goals
        go_wp2_with fail
        exact bodyPost_ret (v := .tuple #[.agg #[.bool false, .int .i64 0, .bool false, .string ⟨#[]⟩, .string ⟨#[]⟩, .slice none 0 0], .bool false]) (by simp [results, Tryz.results26, go_sem, x0, x1, x2, x3, x4, x5]) rfl (RParseN.no HZ0.out (rput6_below HB6.out (Nat.le_refl _) _ _ _ _ _ _))
  · have hn6 : (splitL 6 s.data.toList).length ≠ 6 := fun h => hn (hsix1.1 h)
    have HZ0 := Lib.hid (rparse_len hn)
    obtain ⟨l, hl⟩ : ∃ l, l = splitL 6 s.data.toList := ⟨_, rfl⟩
    rw [← hl] at hn6 W
    unfold PartsAt at W
    obtain ⟨m, hm⟩ : ∃ m, m = l.length := ⟨_, rfl⟩
    rw [← hm] at hn6 W
    have h6 : ((m : Int) == 6) = false := by simp; omega
    clear hsix1 hsix2 hwm hn hbA hT hn6 hl hm
    go_enter Tryz.func26, Tryz.ntmps26
    go_wp2_with (go_at_call 50; refine W.out.mono ?_)
    rintro e w1 ⟨v, rfl, ⟨g, cap, rfl, -, -, -, -⟩, hb⟩
    obtain ⟨x0, x1, x2, x3, x4, x5⟩ := box6 hb
    have fz := rbox6f hb
    have HB1 := Lib.hid (HA.out.trans (hb.mono HA.out.size))
    clear hb
    go_wp2_with fail
    exact bodyPost_ret (v := .tuple #[.agg #[.bool false, .int .i64 0, .bool false, .string ⟨#[]⟩, .string ⟨#[]⟩, .slice none 0 0], .bool false]) (by simp [results, Tryz.results26, go_sem, x0, x1, x2, x3, x4, x5]) rfl (RParseN.no HZ0.out (rput6_below HB1.out (Nat.le_refl _) _ _ _ _ _ _))
theorem rpar_any (w : World) (s : ByteArray) (hs : s.size ≤ 1000000000) (hT : Lib.Utf8Tabs 1 2 w) :
    Calls Tryz.prog 26 #[.string s] w fun e w' => RParseE w w' (parseR s) e := by
  refine (rpar_new w s hs hT).mono ?_
  rintro e w' ⟨v, he, ⟨A, cap, hv, hi⟩, hb⟩
  exact ⟨v, he, ⟨A, cap, hv, hi.at⟩, hb⟩
end Go.Proofs.YteenleedonmkmaaGreatDoor
