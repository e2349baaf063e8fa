/- The document's Parse of chapter 9, by contract, out of the document's Codes. -/
import Derived.Test.YtfhoffdgbkoffaaDoorNRefPlain
import Derived.Deep.AppendLies
import Derived.Deep.RegionLaw
import Derived.StillTailTactics
import Derived.Deep.RegionWith
import Derived.Deep.CutRange
import Derived.Deep.DeepCutAuto
namespace Go.Proofs.YtfhoffdgbkoffaaDoor
open Go Go.RowKit Go.Lib

theorem Tryd.infosP90 : (Tryd.prog.info? 90).map (fun i => (i.zero, i.size, i.bytes)) = some (some (.agg #[.bool false, .bool false, .slice none 0 0]), 3, 32) := by kernel_rfl
theorem Tryd.infosP3 : (Tryd.prog.info? 3).map (fun i => (i.zero, i.size, i.bytes)) = some (some (.int .i64 0), 1, 8) := by kernel_rfl
theorem news_rowP (w : World) (cs : Array Value) (t : TypeId) : ∀ j u, cs.toList[j]? = some u → (w.alloc (.cells cs t)).cell? ((⟨w.heap.size, 0, none⟩ : Addr).add j) = some u := by
  intro j u hu
  have hadd : (⟨w.heap.size, 0, none⟩ : Addr).add j = ⟨w.heap.size, j, none⟩ := by unfold Addr.add; split <;> simp_all
  rw [hadd, cell_of_row _ w.heap.size j cs t (0, 0) (World.alloc_heap_new w _)]
  simpa using hu
theorem news_rowP2 (w : World) (o : Obj) (cs : Array Value) (t : TypeId) : ∀ j u, cs.toList[j]? = some u → ((w.alloc o).alloc (.cells cs t)).cell? ((⟨w.heap.size + 1, 0, none⟩ : Addr).add j) = some u := by
  have := news_rowP (w.alloc o) cs t
  rwa [World.size_alloc] at this
theorem add_plain9 (g j : Nat) : (⟨g, 0, none⟩ : Addr).add j = ⟨g, j, none⟩ := by unfold Addr.add; split <;> simp_all
theorem item_one (a b : Bool) (sv : Value) (h : sv.oneCell' = true) : ∀ u ∈ [Value.bool a, .bool b, sv], u.oneCell' = true := by
  intro u hu
  simp only [List.mem_cons, List.not_mem_nil, or_false] at hu
  rcases hu with rfl | rfl | rfl
  · rfl
  · rfl
  · exact h
theorem lit_ints (w : World) (c : Int) (t : TypeId) (o : Obj) : IntsAt ((w.alloc (.cells #[.int .i64 c] t)).alloc o) (.slice (some ⟨w.heap.size, 0, none⟩) 1 1) [c] :=
  (IntsAt.lit w [c] _ t rfl (by simp)).keep ((Below.refl _ _).alloc (Nat.le_refl _) _)

theorem PM.goes {w0 w w' : World} {v vc : Value} {xs : List Value} {l : List It} {cs : List Int} {N N' : Nat → Prop} (h : PM w0 w v vc xs l cs N) (ho : OnlyAt N w w') (hN : ∀ b, N' b → N b ∨ (w.heap.size ≤ b ∧ b < w'.heap.size)) : PM w0 w' v vc xs l cs N' := by
  have h1 := h.write ho
  refine ⟨h1.row, h1.codes, h.sets.still ho.size (fun b hlt hn => ho.block b hlt (fun e => hn (.inr (.inr e)))) (fun b hlt hn => ?_), h1.below, fun b hb => ?_, h1.fresh⟩
  · rcases hn with hn | hn | hn
    · exact .inl hn
    · exact .inr (.inl hn)
    · rcases hN b hn with e | e
      · exact .inr (.inr e)
      · omega
  · rcases hN b hb with e | e
    · exact h1.mine b e
    · exact ⟨Nat.le_trans h.below.size e.1, e.2, fun e2 => by have := (h.row.lt _ e2).2; omega, fun e2 => by have := (h.codes.lt _ e2).2; omega⟩
theorem ints_ownP {w : World} {B : Nat} {vc : Value} {cs : List Int} (h : w.ownsRow B 3 1 vc cs.length (cs.map (Value.int .i64))) : IntsAt w vc cs := by
  have hc := @World.ownsRow.cells _ _ _ _ _ _ _ h
  rcases h.2 with ⟨rfl, h0⟩ | ⟨g, cap, cur, rfl, hb, hg, hnc, hcm, _⟩
  · exact .inl ⟨List.eq_nil_of_length_eq_zero h0, _, _, rfl⟩
  · refine .inr ⟨g, 0, cap, rfl, (Array.getElem?_eq_some_iff.1 hg).1, hnc, hcm, fun i c hi => ?_⟩
    rw [Nat.zero_add, ← add_plain9]
    exact hc (g := g) rfl i _ (by rw [List.getElem?_map, hi]; rfl)
/-- A set in a box, as far as it has been read. -/
def BoxP (w wr : World) (v vc : Value) (xs : List Value) (done : List It) (cs : List Int) (hb : Nat) (neg : Bool) (k2 q : Nat) (sv : Value) : Prop :=
  PM w wr v vc xs done cs (fun b => b = hb ∨ sv.ownBlock = some b) ∧ wr.heap[hb]? = some (.cells #[.bool false, .bool neg, sv] /-t-/90 (0, 0)) ∧ wr.ownsRow w.heap.size 3 1 sv q (((cs.drop k2).take q).map (Value.int .i64)) ∧ sv.ownBlock ≠ some hb
theorem BoxP.start {w wr : World} {v vc : Value} {xs : List Value} {done : List It} {cs : List Int} {neg : Bool} {k2 : Nat} (h : PM w wr v vc xs done cs (fun _ => False)) : BoxP w (wr.alloc (.cells #[.bool false, .bool neg, .slice none 0 0] /-t-/90)) v vc xs done cs wr.heap.size neg k2 0 (.slice none 0 0) :=
  ⟨(h.alloc _).less fun b hb => hb.elim (fun e => .inr e) (fun e => by cases e), World.alloc_heap_new wr _, by simpa using World.ownsRow_nil _ _ _ _, fun e => by cases e⟩
theorem BoxP.step {w wr w4 : World} {v vc : Value} {xs : List Value} {done : List It} {cs : List Int} {hb k2 q gg cap4 : Nat} {neg : Bool} {sv : Value} {c : Int} {o : Obj} (h : BoxP w wr v vc xs done cs hb neg k2 q sv) (hc : cs[k2 + q]? = some c)
    (hown : w4.ownsRow w.heap.size 3 1 (.slice (some ⟨gg, 0, none⟩) (q + 1) cap4) (q + 1) (((cs.drop k2).take q).map (Value.int .i64) ++ [.int .i64 c])) (hg : ((wr.alloc o).drew).grownBy w4 sv.ownBlock) (hat : sv.ownBlock = some gg ∨ wr.heap.size + 1 ≤ gg) :
    BoxP w (w4.setCell ⟨hb, 2, none⟩ (.slice (some ⟨gg, 0, none⟩) (q + 1) cap4)) v vc xs done cs hb neg k2 (q + 1) (.slice (some ⟨gg, 0, none⟩) (q + 1) cap4) := by
  obtain ⟨h1, h2, h3, h4⟩ := h
  have hbl := (Array.getElem?_eq_some_iff.1 h2).1
  have hgl := (hown.lt gg rfl).2
  have hgb : gg ≠ hb := by
    rcases hat with e | e
    · exact fun e2 => h4 (e2 ▸ e)
    · omega
  have hs4 : wr.heap.size + 1 ≤ w4.heap.size := by have := hg.size; simpa using this
  have ho : OnlyAt (fun b => b = hb ∨ sv.ownBlock = some b) wr (w4.setCell ⟨hb, 2, none⟩ (.slice (some ⟨gg, 0, none⟩) (q + 1) cap4)) :=
    (((OnlyAt.alloc _ wr o).trans (OnlyAt.drew _ _)).trans (OnlyAt.of_grown hg fun k hk => .inr hk)).trans (OnlyAt.setCell _ ⟨hb, 2, none⟩ _ (.inl rfl))
  have hsz : (w4.setCell ⟨hb, 2, none⟩ (.slice (some ⟨gg, 0, none⟩) (q + 1) cap4)).heap.size = w4.heap.size := by simp [World.setCell]
  have h24 : w4.heap[hb]? = some (.cells #[.bool false, .bool neg, sv] /-t-/90 (0, 0)) := by
    refine (hg.block hb (by show hb < (wr.alloc o).heap.size; rw [World.size_alloc]; omega) (fun e => h4 e.symm)).trans ?_
    exact (Below.heap_alloc wr o hb hbl).trans h2
  refine ⟨h1.goes ho fun b hb' => ?_, ?_, ?_, ?_⟩
  · rcases hb' with e | e
    · exact .inl (.inl e)
    · obtain rfl : gg = b := Option.some.inj e
      rcases hat with e2 | e2
      · exact .inl (.inr e2)
      · exact .inr ⟨by omega, by rw [hsz]; exact hgl⟩
  · simp [World.setCell, Array.getElem?_modify, h24]
  · have hrow := own_kept9 hown (w' := w4.setCell ⟨hb, 2, none⟩ (.slice (some ⟨gg, 0, none⟩) (q + 1) cap4)) fun g hg' => by
      obtain rfl : gg = g := Option.some.inj hg'
      exact Below.heap_setCell _ _ _ _ (fun e => hgb e)
    have ht : (cs.drop k2).take (q + 1) = (cs.drop k2).take q ++ [c] := by
      rw [List.take_add_one, List.getElem?_drop, hc]; rfl
    rw [ht, List.map_append]
    exact hrow
  · exact fun e => hgb (Option.some.inj e)
theorem BoxP.facts {w wr : World} {v vc : Value} {xs : List Value} {done : List It} {cs : List Int} {hb k2 q : Nat} {neg : Bool} {sv : Value} (h : BoxP w wr v vc xs done cs hb neg k2 q sv) :
    (wr.cell? ⟨hb, 0, none⟩ = some (.bool false) ∧ wr.cell? ⟨hb, 1, none⟩ = some (.bool neg) ∧ wr.cell? ⟨hb, 2, none⟩ = some sv) ∧ (∀ o, wr.frozen? ⟨hb, o, none⟩ = false) ∧ ∃ S sc, sv = .slice S q sc := by
  obtain ⟨h1, h2, h3, h4⟩ := h
  refine ⟨⟨by simp [World.cell?, h2], by simp [World.cell?, h2], by simp [World.cell?, h2]⟩, fun o => by simp [World.frozen?, h2], ?_⟩
  rcases h3.2 with ⟨rfl, h0⟩ | ⟨g, cap, cur, rfl, _⟩
  · exact ⟨none, 0, by rw [h0]⟩
  · exact ⟨_, cap, rfl⟩

set_option maxRecDepth 100000 in
set_option maxHeartbeats 4000000 in
theorem rparse_any (w : World) (s : ByteArray) (hs : s.size ≤ 100000)
    (hcodes : Calls Tryd.prog 24 #[.string s] w fun e w' => ∃ v, e = .returned (.tuple #[v, .bool (codesB s.data.toList).isSome]) ∧ w'.ownsRow w.heap.size 3 1 v ((codesB s.data.toList).getD []).length (((codesB s.data.toList).getD []).map (Value.int .i64)) ∧ Below w.heap.size w w') :
    Calls Tryd.prog 29 #[.string s] w fun e w' => ∃ v, e = .returned (.tuple #[v, .bool (parseS s).isSome]) ∧ ItemsNew w.heap.size w' v ((parseS s).getD []) ∧ Below w.heap.size w w' := by
  obtain ⟨i1, hi1, hz10, hz11, hz12⟩ := info_parts Tryd.infosP90
  obtain ⟨i2, hi2, hz20, hz21, hz22⟩ := info_parts Tryd.infosP3
  have hps : parseS s = match codesB s.data.toList with | none => none | some cs => parseC cs := rfl
  have CH := Lib.hid hcodes
  clear hcodes
  cases hcb : codesB s.data.toList with
  | none =>
    rw [hcb] at CH hps
    dsimp only at hps
    rw [hps]
    clear hps hcb
    go_enter Tryd.func29, Tryd.ntmps29
    go_wp2_with fail
    refine CH.out.mono ?_
    rintro e w1 ⟨v, rfl, -, hb1⟩
    have HB := Lib.hid hb1
    have e1 : (none : Option (List Int)).isSome = false := rfl
    clear hb1 CH
    go_wp2_with fail
    go_ret2
    exact ⟨_, rfl, .inl ⟨rfl, _, _, rfl⟩, HB.out⟩
  | some cs =>
    rw [hcb] at CH hps
    dsimp only at hps
    rw [hps]
    obtain ⟨Z, hZ⟩ : ∃ Z : Option (List It), Z = parseC cs := ⟨_, rfl⟩
    rw [← hZ]
    have HZ := Lib.hid (And.intro (fun e : parseAll cs = none => hZ.trans (by rw [parseC_all, e])) (fun done (e : parseAll cs = some done) => hZ.trans (show parseC cs = if 0 < done.length ∧ done.length ≤ 8 then some done else none by rw [parseC_all, e])))
    clear hZ
    have hlen := (codesB_says hcb).2
    have hsl : s.data.toList.length = s.size := (Lib.size_eq s).symm
    obtain ⟨n, hn⟩ : ∃ n, n = cs.length := ⟨_, rfl⟩
    have hn5 : n ≤ 100000 := by omega
    have HN := Lib.hid hn
    clear hps hcb hlen hsl hn
    go_enter Tryd.func29, Tryd.ntmps29
    go_wp2_with fail
    refine CH.out.mono ?_
    rintro e w1 ⟨vc, rfl, hown1, hb1⟩
    simp only [Option.getD_some] at hown1
    rw [← HN.out] at hown1
    have hvc : ∃ A cap, vc = .slice A n cap ∧ ∀ (i : Nat) c, cs[i]? = some c → ∃ g, A = some ⟨g, 0, none⟩ ∧ n ≤ cap := by
      rcases hown1.2 with ⟨rfl, h0⟩ | ⟨g, cap, cur, rfl, _, _, hnc, _⟩
      · exact ⟨none, 0, by rw [h0], fun i c hi => by have := (List.getElem?_eq_some_iff.1 hi).1; have := HN.out; omega⟩
      · exact ⟨_, cap, rfl, fun i c hi => ⟨g, rfl, hnc⟩⟩
    obtain ⟨A, cap, rfl, hA⟩ := hvc
    have HA := Lib.hid hA
    have e1 : (some cs).isSome = true := rfl
    have h0 := Lib.hid (show PM w w1 (.slice none 0 0) (.slice A n cap) [] [] cs (fun _ => False) from
      ⟨World.ownsRow_nil _ _ _ _, by rw [← HN.out]; exact hown1, fun i it hi => by simp at hi, hb1, fun b hb => hb.elim, FreshX.nil _⟩)
    clear hown1 hb1 CH hA
    go_wp2_with fail
    go_loopg [6, 7] n (fun g v i wr => ∃ (k : Nat) (done : List It) (xs : List Value), k + g = n ∧ i = .int .i64 k ∧ done.length ≤ k ∧ Hid (Read cs done k) ∧ Hid (PM w wr v (.slice A n cap) xs done cs (fun _ => False)))
    case atStart => exact ⟨0, [], [], by omega, rfl, Nat.zero_le _, Lib.hid (Read.start cs), h0⟩
    case round =>
      obtain ⟨k, done, xs, hk, rfl, hdk, HR, HM⟩ := hrel
      clear h0
      rcases Nat.eq_zero_or_pos gk with g0 | g0
      · have hkn : k = n := by omega
        subst hkn
        have hZ1 := HZ.out.2 done (HR.out.ends (by have := HN.out; omega))
        have hform : ∃ D dc, u6 = .slice D done.length dc := by
          rcases HM.out.row.2 with ⟨h1, h2⟩ | ⟨g, dc, cur, h1, _⟩
          · exact ⟨none, 0, by rw [h1, h2]⟩
          · exact ⟨_, dc, h1⟩
        obtain ⟨D, dc, rfl⟩ := hform
        obtain ⟨dn, hdn⟩ : ∃ dn, dn = done.length := ⟨_, rfl⟩
        have HB := Lib.hid (And.intro HM.out.below (And.intro HM.out.reads hdn))
        rw [← hdn] at hdk HB hZ1 ⊢
        have HZ1 := Lib.hid hZ1
        clear HM HR hdn hZ1
        have hcase : dn = 0 ∨ (0 < dn ∧ 8 < dn) ∨ (0 < dn ∧ dn ≤ 8) := by omega
        rcases hcase with h0 | ⟨h0, h8⟩ | ⟨h0, h8⟩
        · subst h0
          obtain rfl : Z = none := HZ1.out.trans (if_neg (by omega))
          go_wp2_with fail
          go_ret2
          exact ⟨_, rfl, .inl ⟨rfl, _, _, rfl⟩, HB.out.1⟩
        · have t1 : ((dn : Int) == 0) = false := by rw [beq_eq_false_iff_ne]; omega
          have t2 : (8 : Int) < dn := by omega
          obtain rfl : Z = none := HZ1.out.trans (if_neg (by omega))
          go_wp2_with fail
          go_ret2
          exact ⟨_, rfl, .inl ⟨rfl, _, _, rfl⟩, HB.out.1⟩
        · have t1 : ((dn : Int) == 0) = false := by rw [beq_eq_false_iff_ne]; omega
          have t2 : ¬ (8 : Int) < dn := by omega
          obtain rfl : Z = some done := HZ1.out.trans (if_pos ⟨h0, h8⟩)
          go_wp2_with fail
          go_ret2
          exact ⟨_, rfl, HB.out.2.1, HB.out.1⟩
      · have hkn : (k : Int) < n := by omega
        have tk1 : (0 : Int) ≤ k := by omega
        obtain ⟨c, hc⟩ : ∃ c, cs[k]? = some c := ⟨_, List.getElem?_eq_getElem (by have := HN.out; omega)⟩
        obtain ⟨g, rfl, hcap⟩ := HA.out k c hc
        have CELL := Lib.hid (show ∀ (wx : World) v xs done N, PM w wx v (.slice (some ⟨g, 0, none⟩) n cap) xs done cs N → ∀ (i : Nat) c, cs[i]? = some c → wx.cell? ⟨g, i, none⟩ = some (.int .i64 c) from fun wx v xs done N h i c hi => by
          have := @World.ownsRow.cells _ _ _ _ _ _ _ h.codes g rfl i (.int .i64 c) (by rw [List.getElem?_map, hi]; rfl)
          rwa [add_plain9] at this)
        have m0 := CELL.out _ _ _ _ _ HM.out k c hc
        have HC := Lib.hid hc
        clear hc
        by_cases h46 : c = 46
        · subst h46
          have HA1 := Lib.hid (HM.out.alloc (.cells #[.bool true, .bool false, .slice none 0 0] /-t-/90))
          go_wp2_with (at_builtin; refine wpList_append_where _ rfl _ _ 45 rfl w.heap.size 90 i1 (.agg #[.bool false, .bool false, .slice none 0 0]) 3 32 Tryd.underlying45 hi1 hz10 hz11 hz12 rfl (by decide) u6 _ xs rfl HA1.out.row ⟨wr.heap.size, 0, none⟩ 1 1 (iCells9 ⟨true, false, []⟩ (.slice none 0 0)) rfl rfl (news_rowP _ _ _) (item_one _ _ _ rfl) (by unfold maxLen; omega) (by omega) HA1.out.below.size ?_; intro v' w4 hown4 hgrow4 hwh4; have G4 := Lib.hid (HA1.out.item (it := ⟨true, false, []⟩) hown4 hgrow4 hwh4 (.inl ⟨rfl, _, _, rfl⟩) (fun b hb => by cases hb)); clear hown4 hgrow4 hwh4)
          have HR2 := Lib.hid (HR.out.step HC.out (head_any _))
          go_roundg (gk - 1)
          case measure => omega
          case rel => exact ⟨k + 1, _, _, by omega, by go_num, by rw [List.length_append]; show done.length + 1 ≤ k + 1; omega, HR2, G4⟩
        by_cases h93 : c = 93
        · subst h93
          obtain rfl : Z = none := HZ.out.1 (HR.out.fails HC.out (head_bad _))
          have HB := Lib.hid HM.out.below
          clear h46
          go_wp2_with fail
          go_ret2
          exact ⟨_, rfl, .inl ⟨rfl, _, _, rfl⟩, HB.out⟩
        by_cases h91 : c = 91
        · subst h91
          have hneg : ∃ (neg : Bool) (k2 : Nat), k2 = (if neg then k + 2 else k + 1) ∧ k2 ≤ n ∧ headC (91 :: cs.drop (k + 1)) = setC neg (cs.drop k2) ∧ (neg = true → cs[k + 1]? = some 94) ∧ (neg = false → cs[k + 1]? ≠ some 94) := by
            by_cases h94 : cs[k + 1]? = some 94
            · have hl := (List.getElem?_eq_some_iff.1 h94).1
              refine ⟨true, k + 2, rfl, by have := HN.out; omega, ?_, (fun _ => h94), (fun e => by cases e)⟩
              rw [head_set, dropc h94, List.head?_cons, if_pos rfl, List.tail_cons]
            · refine ⟨false, k + 1, rfl, by omega, ?_, (fun e => by cases e), fun _ => h94⟩
              rw [head_set, if_neg]
              rw [List.head?_drop]
              exact h94
          obtain ⟨neg, k2, hk2, hk2n, hhd, hneg1, hneg2⟩ := hneg
          have HH := Lib.hid (And.intro hhd (And.intro hneg1 hneg2))
          clear hhd hneg1 hneg2
          have PA := Lib.hid (HM.out.alloc (.cells #[.bool false, .bool false, .slice none 0 0] /-t-/90))
          go_upto_region 17 with fail
          go_cut [58] (fun b wx => b = .bool neg ∧ wr.alloc (.cells #[.bool false, .bool false, .slice none 0 0] /-t-/90) = wx)
          case first =>
            by_cases hk1 : k + 1 < n
            · obtain ⟨x, hx⟩ : ∃ x, cs[k + 1]? = some x := ⟨_, List.getElem?_eq_getElem (by have := HN.out; omega)⟩
              have m1 := CELL.out _ _ _ _ _ PA.out (k + 1) x hx
              have hk1I : (k : Int) + 1 < n := by omega
              have hk10 : (0 : Int) ≤ (k : Int) + 1 := by omega
              have hbeq : (x == 94) = neg := by
                cases hng : neg
                · rw [beq_eq_false_iff_ne]
                  intro e
                  exact HH.out.2.2 hng (e ▸ hx)
                · have := HH.out.2.1 hng
                  rw [hx] at this
                  rw [Option.some.inj this]; rfl
              clear hx
              go_wp2_with fail
              go_meet
              exact ⟨rfl, rfl⟩
            · have hk1I : ¬ (k : Int) + 1 < n := by omega
              have hng : neg = false := by
                cases hng : neg
                · rfl
                · have := (List.getElem?_eq_some_iff.1 (HH.out.2.1 hng)).1
                  have := HN.out; omega
              subst hng
              go_wp2_with fail
              go_meet
              exact ⟨rfl, rfl⟩
          case rest =>
            obtain ⟨rfl, rfl⟩ := hcut
            have HBX := Lib.hid (show BoxP w (wr.alloc (.cells #[.bool false, .bool neg, .slice none 0 0] /-t-/90)) u6 (.slice (some ⟨g, 0, none⟩) n cap) xs done cs wr.heap.size neg k2 0 (.slice none 0 0) from BoxP.start HM.out)
            have tkk : IntKind.i64.wrap ((k : Int) + 1 + 1) = (k : Int) + 1 + 1 := by rw [IntWalk.i64_in _ (by omega)]
            -- INNER
            cases neg
            ·
              have hk2' : (k2 : Int) = (k : Int) + 1 := by rw [hk2]; simp
              have HK2 := Lib.hid (And.intro hk2' hk2n)
              clear hk2 hk2' hk2n
              obtain ⟨wo, rfl⟩ : ∃ wo : World, wo = wr := ⟨_, rfl⟩
              obtain ⟨g1, hg1⟩ : ∃ g1, g1 = gk := ⟨_, rfl⟩
              go_wp2_with fail
              go_loopg [7] (n - k2) (fun gg2 i wx => ∃ (j q : Nat) (sv : Value), q + gg2 = n - k2 ∧ i = .int .i64 j ∧ Hid (j = k2 + q) ∧ Hid (∀ c ∈ (cs.drop k2).take q, c ≠ 93) ∧ Hid (BoxP w wx u6 (.slice (some ⟨g, 0, none⟩) n cap) xs done cs wo.heap.size false k2 q sv))
              case atStart => exact ⟨k2, 0, _, by omega, by first | (rw [HK2.out.1]; done) | (rw [HK2.out.1]; rfl) | (congr 1; have := HK2.out.1; omega), Lib.hid rfl, Lib.hid (fun c hc => by simp at hc), HBX⟩
              case round =>
                obtain ⟨j, q, sv, hq, rfl, HJ, H93, HX⟩ := hrel
                clear HBX
                obtain ⟨⟨b0, b1, b2⟩, bf, S, sc, rfl⟩ := HX.out.facts
                have hjn : j ≤ n := by have := HJ.out; have := HK2.out.2; omega
                have tj0 : (0 : Int) ≤ j := by omega
                -- what a bracket that is not closed, or empty, comes to
                rcases Nat.eq_zero_or_pos gk with g00 | g00
                · have hje : j = n := by have := HJ.out; have := HK2.out.2; omega
                  have hjI : ¬ (j : Int) < n := by omega
                  have hjG : (n : Int) ≤ j := by omega
                  obtain rfl : Z = none := HZ.out.1 (HR.out.fails HC.out (HH.out.1.trans (set_none (fun c hc => H93.out c (by rw [List.take_of_length_le (by rw [List.length_drop, ← HN.out]; omega)]; exact hc)) _)))
                  have HB := Lib.hid HX.out.1.below
                  clear hje
                  go_wp2_with fail
                  go_ret2
                  exact ⟨_, rfl, .inl ⟨rfl, _, _, rfl⟩, HB.out⟩
                · have hjI : (j : Int) < n := by have := HJ.out; have := HK2.out.2; omega
                  have hjG : ¬ (n : Int) ≤ j := by omega
                  obtain ⟨c2, hc2⟩ : ∃ c2, cs[j]? = some c2 := ⟨_, List.getElem?_eq_getElem (by have := HN.out; omega)⟩
                  have m2 := CELL.out _ _ _ _ _ HX.out.1 j c2 hc2
                  by_cases h2 : c2 = 93
                  · subst h2
                    have hfound := set_found (cs := cs) (k2 := k2) (j := j) (by have := HJ.out; omega) (fun c hc => H93.out c (by rw [show q = j - k2 by have := HJ.out; omega]; exact hc)) hc2 false
                    rw [show j - k2 = q by have := HJ.out; omega] at hfound
                    have HFD := Lib.hid (HH.out.1.trans hfound)
                    clear hfound hc2
                    rcases Nat.eq_zero_or_pos q with q0 | q0
                    · obtain rfl : Z = none := HZ.out.1 (HR.out.fails HC.out (HFD.out.trans (if_pos (by rw [q0]; rfl))))
                      have HB := Lib.hid HX.out.1.below
                      subst q0
                      go_wp2_with fail
                      go_ret2
                      exact ⟨_, rfl, .inl ⟨rfl, _, _, rfl⟩, HB.out⟩
                    · have hqE : ((q : Int) == 0) = false := by rw [beq_eq_false_iff_ne]; omega
                      have hlenq : ((cs.drop k2).take q).length = q := by rw [List.length_take, List.length_drop]; have := HJ.out; have := HN.out; omega
                      have HR2 := Lib.hid (HR.out.step HC.out (HFD.out.trans (if_neg (fun e => by rw [e] at hlenq; simp at hlenq; omega))))
                      have HI := Lib.hid (show IntsAt wr (.slice S q sc) ((cs.drop k2).take q) from by
                        have := ints_ownP (cs := (cs.drop k2).take q) (by rw [hlenq]; exact HX.out.2.2.1)
                        exact this)
                      have HA1 := Lib.hid (HX.out.1.alloc (.cells #[.bool false, .bool false, .slice S q sc] /-t-/90))
                      clear hlenq
                      go_wp2_with (at_builtin; refine wpList_append_where _ rfl _ _ 45 rfl w.heap.size 90 i1 (.agg #[.bool false, .bool false, .slice none 0 0]) 3 32 Tryd.underlying45 hi1 hz10 hz11 hz12 rfl (by decide) u6 _ xs rfl HA1.out.row ⟨wr.heap.size, 0, none⟩ 1 1 (iCells9 ⟨false, false, (cs.drop k2).take q⟩ (.slice S q sc)) rfl rfl (news_rowP _ _ _) (item_one _ _ _ rfl) (by unfold maxLen; omega) (by omega) HA1.out.below.size ?_; intro v' w4 hown4 hgrow4 hwh4; have G4 := Lib.hid (HA1.out.item (it := ⟨false, false, (cs.drop k2).take q⟩) hown4 hgrow4 hwh4 (HI.out.keep ((Below.refl _ _).alloc (Nat.le_refl _) _)) (fun b hb => .inl (.inr hb))); clear hown4 hgrow4 hwh4)
                      have tj1 : IntKind.i64.wrap ((j : Int) + 1) = (j : Int) + 1 := by rw [IntWalk.i64_in _ (by omega)]
                      go_roundg (n - (j + 1))
                      case measure => have := HK2.out; have := HJ.out; omega
                      case rel => exact ⟨j + 1, _, _, by omega, by go_num, by rw [List.length_append]; have := HK2.out; have := HJ.out; show done.length + 1 ≤ j + 1; omega, HR2, G4⟩
                  · have d2 : (c2 != 93) = true := by simpa using h2
                    have H93b := Lib.hid (show ∀ c ∈ (cs.drop k2).take (q + 1), c ≠ 93 from fun c hc => by
                      rw [List.take_add_one, List.getElem?_drop, show k2 + q = j from HJ.out.symm, hc2] at hc
                      rcases List.mem_append.1 hc with e | e
                      · exact H93.out c e
                      · rw [List.mem_singleton.1 e]; exact h2)
                    have HC2 := Lib.hid (show cs[k2 + q]? = some c2 by rw [← HJ.out]; exact hc2)
                    clear h2 hc2
                    have hbl := HX.out.1.mine wo.heap.size (.inl rfl)
                    have HO := Lib.hid (And.intro hbl (show g < wr.heap.size from (HX.out.1.codes.lt g rfl).2))
                    have q2 : (wr.alloc (.cells #[.int .i64 c2] /-t-/3)).cell? ⟨wo.heap.size, 2, none⟩ = some (.slice S q sc) := (((Below.refl wr.heap.size wr).alloc (Nat.le_refl _) _).cell (p := ⟨wo.heap.size, 2, none⟩) hbl.2.1).trans b2
                    have qm : (wr.alloc (.cells #[.int .i64 c2] /-t-/3)).cell? ⟨g, j, none⟩ = some (.int .i64 c2) := (((Below.refl wr.heap.size wr).alloc (Nat.le_refl _) _).cell (p := ⟨g, j, none⟩) HO.out.2).trans m2
                    have hgo : ∀ (w4 : World), ((wr.alloc (.cells #[.int .i64 c2] /-t-/3)).drew).grownBy w4 (Value.slice S q sc).ownBlock → w4.heap[wo.heap.size]? = some (.cells #[.bool false, .bool false, .slice S q sc] /-t-/90 (0, 0)) := fun w4 hg4 => by
                      refine (hg4.block _ (by show wo.heap.size < (wr.alloc _).heap.size; rw [World.size_alloc]; have := HO.out.1.2.1; omega) (fun e => HX.out.2.2.2 e.symm)).trans ?_
                      exact (Below.heap_alloc wr _ _ HO.out.1.2.1).trans HX.out.2.1
                    have HGO := Lib.hid hgo
                    have h1c : ∀ u ∈ [Value.int .i64 c2], u.oneCell' = true := by
                      intro u hu
                      simp only [List.mem_cons, List.not_mem_nil, or_false] at hu
                      subst hu; rfl
                    have hqn : q ≤ 100000 := by omega
                    have hbs := HX.out.1.below.size
                    have tj1 : IntKind.i64.wrap ((j : Int) + 1) = (j : Int) + 1 := by rw [IntWalk.i64_in _ (by omega)]
                    clear hbl hgo
                    go_upto_region 21 with fail
                    go_region_law ((refine step_append_lies _ (by rfl) _ _ _ (by rfl) w.heap.size /-t-/3 i2 _ 1 8 Tryd.underlying42 hi2 hz20 hz21 hz22 rfl (by omega) (.slice S q sc) q (((cs.drop k2).take q).map (Value.int .i64)) (by rfl) ((HX.out.2.2.1.alloc _).drew) ⟨wr.heap.size, 0, none⟩ 1 1 [.int .i64 c2] (by rfl) (by rfl) (World.news_of_block (cs := #[.int .i64 c2]) (t := /-t-/3) (fr := (0, 0)) (World.alloc_heap_new wr _)) h1c (by omega) (by unfold maxLen; omega) (by omega) (by simp; omega) (wr.heap.size + 1) (by simp) ?_; intro gg cap4 w4 hown4 hgrow4 hat4 hlt4; have m4 := (show w4.cell? ⟨wo.heap.size, 2, none⟩ = some (.slice S q sc) by simp [World.cell?, HGO.out _ hgrow4]); have f4 := (show w4.frozen? ⟨wo.heap.size, 2, none⟩ = false by simp [World.frozen?, HGO.out _ hgrow4])))
                    all_goals
                      have HX2 := Lib.hid (HX.out.step HC2.out hown4 hgrow4 (hat4.imp id (fun e => by omega)))
                      have HJ2 := Lib.hid (show j + 1 = k2 + (q + 1) by have := HJ.out; omega)
                      clear hown4 hgrow4 hat4 hlt4 m4 f4 b0 b1 b2 q2 qm m2
                      go_wp2_with fail
                      go_roundg (gk - 1)
                      case measure => omega
                      case rel => exact ⟨j + 1, q + 1, _, by omega, by go_num, HJ2, H93b, HX2⟩
            ·
              have hk2' : (k2 : Int) = (k : Int) + 2 := by rw [hk2]; simp
              have HK2 := Lib.hid (And.intro hk2' hk2n)
              clear hk2 hk2' hk2n
              obtain ⟨wo, rfl⟩ : ∃ wo : World, wo = wr := ⟨_, rfl⟩
              obtain ⟨g1, hg1⟩ : ∃ g1, g1 = gk := ⟨_, rfl⟩
              go_wp2_with fail
              go_loopg [7] (n - k2) (fun gg2 i wx => ∃ (j q : Nat) (sv : Value), q + gg2 = n - k2 ∧ i = .int .i64 j ∧ Hid (j = k2 + q) ∧ Hid (∀ c ∈ (cs.drop k2).take q, c ≠ 93) ∧ Hid (BoxP w wx u6 (.slice (some ⟨g, 0, none⟩) n cap) xs done cs wo.heap.size true k2 q sv))
              case atStart => exact ⟨k2, 0, _, by omega, by first | (rw [HK2.out.1]; done) | (rw [HK2.out.1]; rfl) | (congr 1; have := HK2.out.1; omega), Lib.hid rfl, Lib.hid (fun c hc => by simp at hc), HBX⟩
              case round =>
                obtain ⟨j, q, sv, hq, rfl, HJ, H93, HX⟩ := hrel
                clear HBX
                obtain ⟨⟨b0, b1, b2⟩, bf, S, sc, rfl⟩ := HX.out.facts
                have hjn : j ≤ n := by have := HJ.out; have := HK2.out.2; omega
                have tj0 : (0 : Int) ≤ j := by omega
                -- what a bracket that is not closed, or empty, comes to
                rcases Nat.eq_zero_or_pos gk with g00 | g00
                · have hje : j = n := by have := HJ.out; have := HK2.out.2; omega
                  have hjI : ¬ (j : Int) < n := by omega
                  have hjG : (n : Int) ≤ j := by omega
                  obtain rfl : Z = none := HZ.out.1 (HR.out.fails HC.out (HH.out.1.trans (set_none (fun c hc => H93.out c (by rw [List.take_of_length_le (by rw [List.length_drop, ← HN.out]; omega)]; exact hc)) _)))
                  have HB := Lib.hid HX.out.1.below
                  clear hje
                  go_wp2_with fail
                  go_ret2
                  exact ⟨_, rfl, .inl ⟨rfl, _, _, rfl⟩, HB.out⟩
                · have hjI : (j : Int) < n := by have := HJ.out; have := HK2.out.2; omega
                  have hjG : ¬ (n : Int) ≤ j := by omega
                  obtain ⟨c2, hc2⟩ : ∃ c2, cs[j]? = some c2 := ⟨_, List.getElem?_eq_getElem (by have := HN.out; omega)⟩
                  have m2 := CELL.out _ _ _ _ _ HX.out.1 j c2 hc2
                  by_cases h2 : c2 = 93
                  · subst h2
                    have hfound := set_found (cs := cs) (k2 := k2) (j := j) (by have := HJ.out; omega) (fun c hc => H93.out c (by rw [show q = j - k2 by have := HJ.out; omega]; exact hc)) hc2 true
                    rw [show j - k2 = q by have := HJ.out; omega] at hfound
                    have HFD := Lib.hid (HH.out.1.trans hfound)
                    clear hfound hc2
                    rcases Nat.eq_zero_or_pos q with q0 | q0
                    · obtain rfl : Z = none := HZ.out.1 (HR.out.fails HC.out (HFD.out.trans (if_pos (by rw [q0]; rfl))))
                      have HB := Lib.hid HX.out.1.below
                      subst q0
                      go_wp2_with fail
                      go_ret2
                      exact ⟨_, rfl, .inl ⟨rfl, _, _, rfl⟩, HB.out⟩
                    · have hqE : ((q : Int) == 0) = false := by rw [beq_eq_false_iff_ne]; omega
                      have hlenq : ((cs.drop k2).take q).length = q := by rw [List.length_take, List.length_drop]; have := HJ.out; have := HN.out; omega
                      have HR2 := Lib.hid (HR.out.step HC.out (HFD.out.trans (if_neg (fun e => by rw [e] at hlenq; simp at hlenq; omega))))
                      have HI := Lib.hid (show IntsAt wr (.slice S q sc) ((cs.drop k2).take q) from by
                        have := ints_ownP (cs := (cs.drop k2).take q) (by rw [hlenq]; exact HX.out.2.2.1)
                        exact this)
                      have HA1 := Lib.hid (HX.out.1.alloc (.cells #[.bool false, .bool true, .slice S q sc] /-t-/90))
                      clear hlenq
                      go_wp2_with (at_builtin; refine wpList_append_where _ rfl _ _ 45 rfl w.heap.size 90 i1 (.agg #[.bool false, .bool false, .slice none 0 0]) 3 32 Tryd.underlying45 hi1 hz10 hz11 hz12 rfl (by decide) u6 _ xs rfl HA1.out.row ⟨wr.heap.size, 0, none⟩ 1 1 (iCells9 ⟨false, true, (cs.drop k2).take q⟩ (.slice S q sc)) rfl rfl (news_rowP _ _ _) (item_one _ _ _ rfl) (by unfold maxLen; omega) (by omega) HA1.out.below.size ?_; intro v' w4 hown4 hgrow4 hwh4; have G4 := Lib.hid (HA1.out.item (it := ⟨false, true, (cs.drop k2).take q⟩) hown4 hgrow4 hwh4 (HI.out.keep ((Below.refl _ _).alloc (Nat.le_refl _) _)) (fun b hb => .inl (.inr hb))); clear hown4 hgrow4 hwh4)
                      have tj1 : IntKind.i64.wrap ((j : Int) + 1) = (j : Int) + 1 := by rw [IntWalk.i64_in _ (by omega)]
                      go_roundg (n - (j + 1))
                      case measure => have := HK2.out; have := HJ.out; omega
                      case rel => exact ⟨j + 1, _, _, by omega, by go_num, by rw [List.length_append]; have := HK2.out; have := HJ.out; show done.length + 1 ≤ j + 1; omega, HR2, G4⟩
                  · have d2 : (c2 != 93) = true := by simpa using h2
                    have H93b := Lib.hid (show ∀ c ∈ (cs.drop k2).take (q + 1), c ≠ 93 from fun c hc => by
                      rw [List.take_add_one, List.getElem?_drop, show k2 + q = j from HJ.out.symm, hc2] at hc
                      rcases List.mem_append.1 hc with e | e
                      · exact H93.out c e
                      · rw [List.mem_singleton.1 e]; exact h2)
                    have HC2 := Lib.hid (show cs[k2 + q]? = some c2 by rw [← HJ.out]; exact hc2)
                    clear h2 hc2
                    have hbl := HX.out.1.mine wo.heap.size (.inl rfl)
                    have HO := Lib.hid (And.intro hbl (show g < wr.heap.size from (HX.out.1.codes.lt g rfl).2))
                    have q2 : (wr.alloc (.cells #[.int .i64 c2] /-t-/3)).cell? ⟨wo.heap.size, 2, none⟩ = some (.slice S q sc) := (((Below.refl wr.heap.size wr).alloc (Nat.le_refl _) _).cell (p := ⟨wo.heap.size, 2, none⟩) hbl.2.1).trans b2
                    have qm : (wr.alloc (.cells #[.int .i64 c2] /-t-/3)).cell? ⟨g, j, none⟩ = some (.int .i64 c2) := (((Below.refl wr.heap.size wr).alloc (Nat.le_refl _) _).cell (p := ⟨g, j, none⟩) HO.out.2).trans m2
                    have hgo : ∀ (w4 : World), ((wr.alloc (.cells #[.int .i64 c2] /-t-/3)).drew).grownBy w4 (Value.slice S q sc).ownBlock → w4.heap[wo.heap.size]? = some (.cells #[.bool false, .bool true, .slice S q sc] /-t-/90 (0, 0)) := fun w4 hg4 => by
                      refine (hg4.block _ (by show wo.heap.size < (wr.alloc _).heap.size; rw [World.size_alloc]; have := HO.out.1.2.1; omega) (fun e => HX.out.2.2.2 e.symm)).trans ?_
                      exact (Below.heap_alloc wr _ _ HO.out.1.2.1).trans HX.out.2.1
                    have HGO := Lib.hid hgo
                    have h1c : ∀ u ∈ [Value.int .i64 c2], u.oneCell' = true := by
                      intro u hu
                      simp only [List.mem_cons, List.not_mem_nil, or_false] at hu
                      subst hu; rfl
                    have hqn : q ≤ 100000 := by omega
                    have hbs := HX.out.1.below.size
                    have tj1 : IntKind.i64.wrap ((j : Int) + 1) = (j : Int) + 1 := by rw [IntWalk.i64_in _ (by omega)]
                    clear hbl hgo
                    go_upto_region 21 with fail
                    go_region_law ((refine step_append_lies _ (by rfl) _ _ _ (by rfl) w.heap.size /-t-/3 i2 _ 1 8 Tryd.underlying42 hi2 hz20 hz21 hz22 rfl (by omega) (.slice S q sc) q (((cs.drop k2).take q).map (Value.int .i64)) (by rfl) ((HX.out.2.2.1.alloc _).drew) ⟨wr.heap.size, 0, none⟩ 1 1 [.int .i64 c2] (by rfl) (by rfl) (World.news_of_block (cs := #[.int .i64 c2]) (t := /-t-/3) (fr := (0, 0)) (World.alloc_heap_new wr _)) h1c (by omega) (by unfold maxLen; omega) (by omega) (by simp; omega) (wr.heap.size + 1) (by simp) ?_; intro gg cap4 w4 hown4 hgrow4 hat4 hlt4; have m4 := (show w4.cell? ⟨wo.heap.size, 2, none⟩ = some (.slice S q sc) by simp [World.cell?, HGO.out _ hgrow4]); have f4 := (show w4.frozen? ⟨wo.heap.size, 2, none⟩ = false by simp [World.frozen?, HGO.out _ hgrow4])))
                    all_goals
                      have HX2 := Lib.hid (HX.out.step HC2.out hown4 hgrow4 (hat4.imp id (fun e => by omega)))
                      have HJ2 := Lib.hid (show j + 1 = k2 + (q + 1) by have := HJ.out; omega)
                      clear hown4 hgrow4 hat4 hlt4 m4 f4 b0 b1 b2 q2 qm m2
                      go_wp2_with fail
                      go_roundg (gk - 1)
                      case measure => omega
                      case rel => exact ⟨j + 1, q + 1, _, by omega, by go_num, HJ2, H93b, HX2⟩
        · have d1 : (c == 46) = false := by rw [beq_eq_false_iff_ne]; exact h46
          have d2 : (c == 93) = false := by rw [beq_eq_false_iff_ne]; exact h93
          have d3 : (c == 91) = false := by rw [beq_eq_false_iff_ne]; exact h91
          have HR2 := Lib.hid (HR.out.step HC.out (head_one _ h46 h93 h91))
          have HA1 := Lib.hid ((HM.out.alloc (.cells #[.int .i64 c] /-t-/3)).alloc (.cells #[.bool false, .bool false, .slice (some ⟨wr.heap.size, 0, none⟩) 1 1] /-t-/90))
          clear h46 h93 h91
          go_wp2_with (at_builtin; refine wpList_append_where _ rfl _ _ 45 rfl w.heap.size 90 i1 (.agg #[.bool false, .bool false, .slice none 0 0]) 3 32 Tryd.underlying45 hi1 hz10 hz11 hz12 rfl (by decide) u6 _ xs rfl HA1.out.row ⟨wr.heap.size + 1, 0, none⟩ 1 1 (iCells9 ⟨false, false, [c]⟩ (.slice (some ⟨wr.heap.size, 0, none⟩) 1 1)) rfl rfl (news_rowP2 _ _ _ _) (item_one _ _ _ rfl) (by unfold maxLen; omega) (by omega) HA1.out.below.size ?_; intro v' w4 hown4 hgrow4 hwh4; have G4 := Lib.hid (HA1.out.item (it := ⟨false, false, [c]⟩) hown4 hgrow4 hwh4 (lit_ints _ _ _ _) (fun b hb => by cases hb; exact .inl (.inr rfl))); clear hown4 hgrow4 hwh4)
          go_roundg (gk - 1)
          case measure => omega
          case rel => exact ⟨k + 1, _, _, by omega, by go_num, by rw [List.length_append]; show done.length + 1 ≤ k + 1; omega, HR2, G4⟩
end Go.Proofs.YtfhoffdgbkoffaaDoor
