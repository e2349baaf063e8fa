/- A node whose sides are mended is measured, and turned where one of them is higher by two. -/
import Derived.Test.YtfdnlbeancdajaaTTurn
namespace Go.Proofs.Ytfdnlbeancdajaa.Avl
open Go Go.RowKit

theorem idx0 (p q : Option Addr) (w : World) : (Instr.index 83 (.agg #[.pointer p, .pointer q]) (.int .i64 0)).run Try.prog w = .ok (.pointer p) w := by kernel_rfl
theorem idx1 (p q : Option Addr) (w : World) : (Instr.index 83 (.agg #[.pointer p, .pointer q]) (.int .i64 1)).run Try.prog w = .ok (.pointer q) w := by kernel_rfl
attribute [local go_sem] fld0 fld1 fld2 wrap_one wrap_zero idx0 idx1

theorem SetAt.same {w w' : World} {pb po : Nat} {v : Value} {T : Nat → Prop} (h : PlaceAt w pb po v) (ho : OnlyAt T w w') (hT : ¬ T pb) : SetAt ⟨pb, po, none⟩ v w w' := by
  intro cs ty fr hc
  obtain ⟨cs', ty', h1, h2⟩ := h
  have hc' : w.heap[pb]? = some (.cells cs ty fr) := hc
  rw [h1] at hc'
  cases hc'
  refine (ho.block pb (Array.getElem?_eq_some_iff.1 h1).1 hT).trans ?_
  rw [h1]
  congr 2
  apply Array.ext (by simp)
  intro i i1 i2
  rw [Array.getElem_setIfInBounds]
  split
  · rename_i e
    subst e
    rw [Array.getElem?_eq_getElem i1] at h2
    exact Option.some.inj h2
  · rfl
theorem _root_.Go.Proofs.Ytfdnlbeancdajaa.OnlyAt.old {T : Nat → Prop} {w w' : World} (h : OnlyAt (fun k => T k ∨ w.heap.size ≤ k) w w') : OnlyAt T w w' :=
  ⟨h.os, h.tape, h.output, h.size, fun k hk hn => h.block k hk (fun e => e.elim hn (fun e => by omega))⟩

/-- A place's pointer goes into a variable of its own. -/
theorem turner_of (w : World) (p : Option Addr) : Calls Try.prog 67 #[.pointer p] w fun e w' => e = .returned (.func (.func 76) #[] #[.pointer (some ⟨w.heap.size, 0, none⟩)]) ∧ w' = w.alloc (.cells #[.pointer p] 81) := by
  have hmf : ∀ (fn : Fn) (first cap : Array Value) (w : World), (Instr.makeFunc fn first cap).run Try.prog w = .ok (.func fn first cap) w := fun _ _ _ _ => rfl
  go_enter Try.func67, Try.ntmps67
  go_wp2
  go_ret
  exact ⟨rfl, rfl⟩

theorem cell_new (w : World) (v : Value) (ty : TypeId) : (w.alloc (.cells #[v] ty)).cell? ⟨w.heap.size, 0, none⟩ = some v := by
  simp only [World.cell?, look_same w _ rfl]
  rfl
/-- A side of a node is another tree. -/
theorem AtNode.new_left {w w' : World} {b : Nat} {lp rp : Option Addr} {x : It} {l r t : AT} {Fl Fr : List Nat} (h : AtNode w b lp rp x l r Fl Fr) (ht : Turned w w' b 0 t Fl (fun _ => False)) :
    ∃ p F', AtNode w' b p rp x t r F' Fr ∧ ∀ k ∈ F', k ∈ Fl ∨ w.heap.size ≤ k := by
  obtain ⟨⟨p, F', h1, h2, h3⟩, h4⟩ := ht
  obtain ⟨i, s, k, hb⟩ := h.here
  have hlt := h.lt
  refine ⟨p, F', ⟨⟨i, s, k, h3 _ _ _ hb⟩, h1, h.right.only h4 (fun k hk e => ?_), fun e => ?_, h.nr, fun k hk e => ?_⟩, h2⟩
  · rcases e with e | e | e
    · exact h.nr (e ▸ hk)
    · exact h.apart k e hk
    · exact e
  · rcases h2 b e with e | e
    · exact h.nl e
    · omega
  · rcases h2 k hk with e' | e'
    · exact h.apart k e' e
    · have := h.right.lt k e; omega
theorem AtNode.new_right {w w' : World} {b : Nat} {lp rp : Option Addr} {x : It} {l r t : AT} {Fl Fr : List Nat} (h : AtNode w b lp rp x l r Fl Fr) (ht : Turned w w' b 1 t Fr (fun _ => False)) :
    ∃ p F', AtNode w' b lp p x l t Fl F' ∧ ∀ k ∈ F', k ∈ Fr ∨ w.heap.size ≤ k := by
  obtain ⟨⟨p, F', h1, h2, h3⟩, h4⟩ := ht
  obtain ⟨i, s, k, hb⟩ := h.here
  have hlt := h.lt
  refine ⟨p, F', ⟨⟨i, s, k, h3 _ _ _ hb⟩, h.left.only h4 (fun k hk e => ?_), h1, h.nl, fun e => ?_, fun k hk e => ?_⟩, h2⟩
  · rcases e with e | e | e
    · exact h.nl (e ▸ hk)
    · exact h.apart k hk e
    · exact e
  · rcases h2 b e with e | e
    · exact h.nr e
    · omega
  · rcases h2 k e with e' | e'
    · exact h.apart k hk e'
    · have := h.left.lt k hk; omega
theorem AtNode.side0 {w : World} {b : Nat} {lp rp : Option Addr} {x : It} {l r : AT} {Fl Fr : List Nat} (h : AtNode w b lp rp x l r Fl Fr) : PlaceAt w b 0 (.pointer lp) := by
  obtain ⟨i, s, k, hb⟩ := h.here
  exact ⟨_, _, hb, rfl⟩
theorem AtNode.side1 {w : World} {b : Nat} {lp rp : Option Addr} {x : It} {l r : AT} {Fl Fr : List Nat} (h : AtNode w b lp rp x l r Fl Fr) : PlaceAt w b 1 (.pointer rp) := by
  obtain ⟨i, s, k, hb⟩ := h.here
  exact ⟨_, _, hb, rfl⟩
/-- A place is turned, by the variable that turner lays. -/
theorem turned_box {w w' : World} {pb po : Nat} {t : AT} {F : List Nat} {o : Obj} (_hl : pb < w.heap.size) (h : Turned (w.alloc o) w' pb po t F (fun _ => False)) : Turned w w' pb po t F (fun _ => False) := by
  obtain ⟨⟨p, F', h1, h2, h3⟩, h4⟩ := h
  have hs : (w.alloc o).heap.size = w.heap.size + 1 := World.size_alloc w o
  refine ⟨⟨p, F', h1, fun k hk => (h2 k hk).imp_right (fun e => by omega), h3.before (OnlyAt.alloc (fun _ => False) w o) id⟩, ?_⟩
  exact (OnlyAt.alloc _ w o).trans h4
theorem turned_box0 {w : World} {pb po b : Nat} {lp rp : Option Addr} {x y : It} {a m r : AT} {Fl Fr : List Nat} (hp : PlaceAt w pb po (.pointer (some ⟨b, 0, none⟩)))
    (h : AtNode w b lp rp x (.node a y m) r Fl Fr) (hpn : pb ∉ b :: (Fl ++ Fr))
    (hc : (AT.node (.node a y m) x r).cnt ≤ 1000000) (ht : (AT.node (.node a y m) x r).tot ≤ 1000000000000000000) (hh : (AT.node (.node a y m) x r).ht ≤ 900000) :
    Calls Try.prog 76 #[.int .i64 0, .pointer (some ⟨w.heap.size, 0, none⟩)] (w.alloc (.cells #[.pointer (some ⟨pb, po, none⟩)] 81)) fun e w' => e = .returned (.tuple #[]) ∧ Turned w w' pb po (.node a y (.node m x r)) (b :: (Fl ++ Fr)) (fun _ => False) := by
  have hb : Below w.heap.size w (w.alloc (.cells #[.pointer (some ⟨pb, po, none⟩)] 81)) := (Below.refl _ _).alloc (Nat.le_refl _) _
  refine (turn0 (w := w.alloc (.cells #[.pointer (some ⟨pb, po, none⟩)] 81)) (pb := pb) (po := po) (b := b) ?_ (hp.only (OnlyAt.alloc (fun _ => False) _ _) id) (h.below hb) ?_ hpn hc ht hh).mono fun e w' hw => ⟨hw.1, turned_box hp.lt hw.2⟩
  · exact cell_new _ _ _
  · intro hk
    simp only [List.mem_cons, List.mem_append] at hk
    rcases hk with e | e | e
    · have := h.lt; omega
    · have := h.left.lt _ e; omega
    · have := h.right.lt _ e; omega
theorem turned_box1 {w : World} {pb po b : Nat} {lp rp : Option Addr} {x y : It} {a m r : AT} {Fl Fr : List Nat} (hp : PlaceAt w pb po (.pointer (some ⟨b, 0, none⟩)))
    (h : AtNode w b lp rp x r (.node m y a) Fl Fr) (hpn : pb ∉ b :: (Fl ++ Fr))
    (hc : (AT.node r x (.node m y a)).cnt ≤ 1000000) (ht : (AT.node r x (.node m y a)).tot ≤ 1000000000000000000) (hh : (AT.node r x (.node m y a)).ht ≤ 900000) :
    Calls Try.prog 76 #[.int .i64 1, .pointer (some ⟨w.heap.size, 0, none⟩)] (w.alloc (.cells #[.pointer (some ⟨pb, po, none⟩)] 81)) fun e w' => e = .returned (.tuple #[]) ∧ Turned w w' pb po (.node (.node r x m) y a) (b :: (Fl ++ Fr)) (fun _ => False) := by
  have hb : Below w.heap.size w (w.alloc (.cells #[.pointer (some ⟨pb, po, none⟩)] 81)) := (Below.refl _ _).alloc (Nat.le_refl _) _
  refine (turn1 (w := w.alloc (.cells #[.pointer (some ⟨pb, po, none⟩)] 81)) (pb := pb) (po := po) (b := b) ?_ (hp.only (OnlyAt.alloc (fun _ => False) _ _) id) (h.below hb) ?_ hpn hc ht hh).mono fun e w' hw => ⟨hw.1, turned_box hp.lt hw.2⟩
  · exact cell_new _ _ _
  · intro hk
    simp only [List.mem_cons, List.mem_append] at hk
    rcases hk with e | e | e
    · have := h.lt; omega
    · have := h.left.lt _ e; omega
    · have := h.right.lt _ e; omega
/-- A turn behind what only wrote a tree's blocks. -/
theorem turned_behind {w w1 w' : World} {pb po : Nat} {t : AT} {F F1 : List Nat} (ho : OnlyAt (fun k => k ∈ F) w w1) (hpn : pb ∉ F) (hF : ∀ k ∈ F1, k ∈ F ∨ w.heap.size ≤ k) (h : Turned w1 w' pb po t F1 (fun _ => False)) : Turned w w' pb po t F (fun _ => False) := by
  obtain ⟨⟨p, F', h1, h2, h3⟩, h4⟩ := h
  refine ⟨⟨p, F', h1, fun k hk => ?_, h3.before ho hpn⟩, OnlyAt.old ?_⟩
  · rcases h2 k hk with e | e
    · exact hF k e
    · exact .inr (Nat.le_trans ho.size e)
  · refine (ho.mono (fun k hk => .inl (.inr (.inl hk)))).trans (h4.mono fun k hk => ?_)
    rcases hk with e | e | e
    · exact .inl (.inl e)
    · rcases hF k e with e | e
      · exact .inl (.inr (.inl e))
      · exact .inr e
    · exact e.elim

set_option maxRecDepth 100000 in
set_option maxHeartbeats 4000000 in
theorem mend_bal {w : World} {pb po b : Nat} {lp rp : Option Addr} {x : It} {l r : AT} {Fl Fr : List Nat} (hp : PlaceAt w pb po (.pointer (some ⟨b, 0, none⟩))) (h : AtNode w b lp rp x l r Fl Fr) (hpn : pb ∉ b :: (Fl ++ Fr))
    (hc : (AT.node l x r).cnt ≤ 1000000) (ht : (AT.node l x r).tot ≤ 1000000000000000000) (hh : (AT.node l x r).ht ≤ 800000) (h1 : l.ht ≤ r.ht + 1) (h2 : r.ht ≤ l.ht + 1) :
    Calls Try.prog 54 #[.pointer (some ⟨pb, po, none⟩)] w fun e w' => e = .returned (.tuple #[]) ∧ Turned w w' pb po (.node l x r) (b :: (Fl ++ Fr)) (fun _ => False) := by
  have pc := hp.cell
  have HM := Lib.hid (measure_of h hc ht (by omega))
  have HP := Lib.hid hp
  have HC := Lib.hid hc
  have HT := Lib.hid ht
  have HH := Lib.hid hh
  have HN := Lib.hid hpn
  have H1 := Lib.hid h1
  have H2 := Lib.hid h2
  clear h hp hc ht hh hpn h1 h2
  go_enter Try.func54, Try.ntmps54
  go_wp2_with fail
  refine HM.out.mono ?_
  rintro e w1 ⟨rfl, hl1, ho1⟩
  generalize hF : b :: (Fl ++ Fr) = F at *
  obtain ⟨b', lp', rp', Fl', Fr', e0, e1, hb1, hl, hr, ⟨nl, nr⟩, ap⟩ := id hl1
  cases e0
  have n1 : AtNode w1 b lp' rp' x l r Fl' Fr' := ⟨⟨_, _, _, hb1⟩, hl, hr, nl, nr, ap⟩
  obtain ⟨c0, c1, -, -⟩ := n1.cells
  have hh := HH.out
  simp only [AT.ht] at hh
  have C0 := Lib.hid (fun wx hx => lean0 (w := wx) (n1.below hx) (by (try simp only [AT.ht]); omega) (by (try simp only [AT.ht]); omega))
  have C1 := Lib.hid (fun wx hx => lean1 (w := wx) (n1.below hx) (by (try simp only [AT.ht]); omega) (by (try simp only [AT.ht]); omega))
  have hd0 : (l.ht : Int) - r.ht < 2 := by have := H1.out; omega
  have hd1 : (r.ht : Int) - l.ht < 2 := by have := H2.out; omega
  have HO := Lib.hid ho1
  have HL := Lib.hid hl1
  have HA := Lib.hid n1
  have HE := Lib.hid e1
  have HG := Lib.hid hF
  generalize (l.ht : Int) - r.ht = D0 at *
  generalize (r.ht : Int) - l.ht = D1 at *
  clear hl1 ho1 hr nl nr ap hb1 n1 hh e1 pc hl hF
  go_wp2_with fail
  refine wp_loop_rounds 3 ?_
  rw [rounds_succ]
  go_wp2_with fail
  refine (C0.out _ (Below.refl _ _)).mono ?_
  rintro e w2 ⟨rfl, hb2⟩
  have B2 := Lib.hid hb2
  clear hb2
  go_wp2_with fail
  rw [rounds_succ]
  go_wp2_with fail
  refine (C1.out _ B2.out).mono ?_
  rintro e w3 ⟨rfl, hb3⟩
  have B3 := Lib.hid (B2.out.trans (hb3.mono B2.out.size))
  clear hb3
  go_wp2_with fail
  rw [rounds_succ]
  go_wp2_with fail
  go_end0
  have hbF : b ∈ F := by rw [← HG.out]; simp
  have hO : OnlyAt (fun k => k ∈ F) w w3 := (HO.out.mono (fun k e => e ▸ hbF)).trans (OnlyAt.of_below B3.out)
  rw [HG.out]
  refine ⟨rfl, ⟨_, F, HL.out.below B3.out, fun _ h => .inl h, SetAt.same HP.out hO HN.out⟩, hO.mono fun _ h => .inr (.inl h)⟩

set_option maxRecDepth 100000 in
set_option maxHeartbeats 4000000 in
theorem mend_L1 {w : World} {pb po b : Nat} {lp rp : Option Addr} {x y : It} {a m r : AT} {Fl Fr : List Nat} (hp : PlaceAt w pb po (.pointer (some ⟨b, 0, none⟩))) (h : AtNode w b lp rp x (.node a y m) r Fl Fr) (hpn : pb ∉ b :: (Fl ++ Fr))
    (hc : (AT.node (.node a y m) x r).cnt ≤ 1000000) (ht : (AT.node (.node a y m) x r).tot ≤ 1000000000000000000) (hh : (AT.node (.node a y m) x r).ht ≤ 800000) (h1 : r.ht + 1 < (AT.node a y m).ht) (h2 : m.ht ≤ a.ht) :
    Calls Try.prog 54 #[.pointer (some ⟨pb, po, none⟩)] w fun e w' => e = .returned (.tuple #[]) ∧ Turned w w' pb po (.node a y (.node m x r)) (b :: (Fl ++ Fr)) (fun _ => False) := by
  have pc := hp.cell
  have HM := Lib.hid (measure_of h hc ht (by omega))
  have HP := Lib.hid hp
  have HC := Lib.hid hc
  have HT := Lib.hid ht
  have HH := Lib.hid hh
  have HN := Lib.hid hpn
  have H1 := Lib.hid h1
  have H2 := Lib.hid h2
  clear h hp hc ht hh hpn h1 h2
  go_enter Try.func54, Try.ntmps54
  go_wp2_with fail
  refine HM.out.mono ?_
  rintro e w1 ⟨rfl, hl1, ho1⟩
  generalize hF : b :: (Fl ++ Fr) = F at *
  obtain ⟨b', lp', rp', Fl', Fr', e0, e1, hb1, hl, hr, ⟨nl, nr⟩, ap⟩ := id hl1
  cases e0
  have n1 : AtNode w1 b lp' rp' x (.node a y m) r Fl' Fr' := ⟨⟨_, _, _, hb1⟩, hl, hr, nl, nr, ap⟩
  obtain ⟨c0, c1, -, -⟩ := n1.cells
  have hh := HH.out
  simp only [AT.ht] at hh
  have C0 := Lib.hid (fun wx hx => lean0 (w := wx) (n1.below hx) (by (try simp only [AT.ht]); omega) (by (try simp only [AT.ht]); omega))
  have C1 := Lib.hid (fun wx hx => lean1 (w := wx) (n1.below hx) (by (try simp only [AT.ht]); omega) (by (try simp only [AT.ht]); omega))
  obtain ⟨u, ap2, mp2, Fa, Fm, rfl, eF, hu, ha, hm, ⟨nu1, nu2⟩, aam⟩ := hl
  have n2 : AtNode w1 u ap2 mp2 y a m Fa Fm := ⟨⟨_, _, _, hu⟩, ha, hm, nu1, nu2, aam⟩
  obtain ⟨d0, d1, -, -⟩ := n2.cells
  have CU := Lib.hid (fun wx hx => lean1 (w := wx) (n2.below hx) (by (try simp only [AT.ht] at hh ⊢); omega) (by (try simp only [AT.ht] at hh ⊢); omega))
  have hd0 : 2 ≤ ((AT.node a y m).ht : Int) - (r.ht : Int) := by have := H1.out; omega
  have hd1 : (r.ht : Int) - ((AT.node a y m).ht : Int) < 2 := by have := H1.out; omega
  have hd2 : (m.ht : Int) - a.ht ≤ 0 := by have := H2.out; omega
  have HU := Lib.hid n2
  have HEF := Lib.hid eF
  have HO := Lib.hid ho1
  have HL := Lib.hid hl1
  have HA := Lib.hid n1
  have HE := Lib.hid e1
  have HG := Lib.hid hF
  generalize ((AT.node a y m).ht : Int) - (r.ht : Int) = D0 at *
  generalize (r.ht : Int) - ((AT.node a y m).ht : Int) = D1 at *
  generalize (m.ht : Int) - a.ht = D2 at *
  clear hl1 ho1 hr nl nr ap hb1 n1 hh e1 pc hu ha hm nu1 nu2 aam n2 eF hF
  go_wp2_with fail
  refine wp_loop_rounds 3 ?_
  rw [rounds_succ]
  go_wp2_with fail
  refine (C0.out _ (Below.refl _ _)).mono ?_
  rintro e w2 ⟨rfl, hb2⟩
  have B2 := Lib.hid hb2
  clear hb2
  go_wp2_with fail
  refine (CU.out _ B2.out).mono ?_
  rintro e w4 ⟨rfl, hb4⟩
  have B4 := Lib.hid (B2.out.trans (hb4.mono B2.out.size))
  clear hb4
  have hbF : b ∈ F := by rw [← HG.out]; simp
  have ho4 : OnlyAt (fun k => k ∈ F) w w4 := (HO.out.mono (fun k e => e ▸ hbF)).trans (OnlyAt.of_below B4.out)
  have HO4 := Lib.hid ho4
  have HP4 := Lib.hid (HP.out.only ho4 HN.out)
  have HBF := Lib.hid hbF
  clear ho4 hbF
  go_wp2_with fail
  refine (turner_of _ _).mono ?_
  rintro e w7 ⟨rfl, rfl⟩
  go_wp2_with fail
  refine (turned_box0 (pb := pb) (po := po) (b := b) HP4.out (HA.out.below B4.out) (HE.out ▸ HN.out) ?_ ?_ ?_).mono ?_
  · have := HC.out; simp only [AT.cnt] at this ⊢; omega
  · have := HT.out; simp only [AT.tot] at this ⊢; omega
  · have := HH.out; simp only [AT.ht] at this ⊢; omega
  rintro e w8 ⟨rfl, ht8⟩
  have HT8 := Lib.hid ht8
  clear ht8
  go_wp2_with fail
  refine bodyPost_ret (results_none rfl _ _ _) rfl ?_
  rw [HG.out]
  exact ⟨rfl, turned_behind HO4.out HN.out (fun k hk => .inl (HE.out ▸ hk)) HT8.out⟩

set_option maxRecDepth 100000 in
set_option maxHeartbeats 4000000 in
theorem mend_L2 {w : World} {pb po b : Nat} {lp rp : Option Addr} {x y z : It} {a m1 m2 r : AT} {Fl Fr : List Nat} (hp : PlaceAt w pb po (.pointer (some ⟨b, 0, none⟩))) (h : AtNode w b lp rp x (.node a y (.node m1 z m2)) r Fl Fr) (hpn : pb ∉ b :: (Fl ++ Fr))
    (hc : (AT.node (.node a y (.node m1 z m2)) x r).cnt ≤ 1000000) (ht : (AT.node (.node a y (.node m1 z m2)) x r).tot ≤ 1000000000000000000) (hh : (AT.node (.node a y (.node m1 z m2)) x r).ht ≤ 800000) (h1 : r.ht + 1 < (AT.node a y (.node m1 z m2)).ht) (h2 : a.ht < (AT.node m1 z m2).ht) :
    Calls Try.prog 54 #[.pointer (some ⟨pb, po, none⟩)] w fun e w' => e = .returned (.tuple #[]) ∧ Turned w w' pb po (.node (.node a y m1) z (.node m2 x r)) (b :: (Fl ++ Fr)) (fun _ => False) := by
  have pc := hp.cell
  have HM := Lib.hid (measure_of h hc ht (by omega))
  have HP := Lib.hid hp
  have HC := Lib.hid hc
  have HT := Lib.hid ht
  have HH := Lib.hid hh
  have HN := Lib.hid hpn
  have H1 := Lib.hid h1
  have H2 := Lib.hid h2
  clear h hp hc ht hh hpn h1 h2
  go_enter Try.func54, Try.ntmps54
  go_wp2_with fail
  refine HM.out.mono ?_
  rintro e w1 ⟨rfl, hl1, ho1⟩
  generalize hF : b :: (Fl ++ Fr) = F at *
  obtain ⟨b', lp', rp', Fl', Fr', e0, e1, hb1, hl, hr, ⟨nl, nr⟩, ap⟩ := id hl1
  cases e0
  have n1 : AtNode w1 b lp' rp' x (.node a y (.node m1 z m2)) r Fl' Fr' := ⟨⟨_, _, _, hb1⟩, hl, hr, nl, nr, ap⟩
  obtain ⟨c0, c1, -, -⟩ := n1.cells
  have hh := HH.out
  simp only [AT.ht] at hh
  have C0 := Lib.hid (fun wx hx => lean0 (w := wx) (n1.below hx) (by (try simp only [AT.ht]); omega) (by (try simp only [AT.ht]); omega))
  have C1 := Lib.hid (fun wx hx => lean1 (w := wx) (n1.below hx) (by (try simp only [AT.ht]); omega) (by (try simp only [AT.ht]); omega))
  obtain ⟨u, ap2, mp2, Fa, Fm, rfl, eF, hu, ha, hm, ⟨nu1, nu2⟩, aam⟩ := hl
  have n2 : AtNode w1 u ap2 mp2 y a (.node m1 z m2) Fa Fm := ⟨⟨_, _, _, hu⟩, ha, hm, nu1, nu2, aam⟩
  obtain ⟨d0, d1, -, -⟩ := n2.cells
  have CU := Lib.hid (fun wx hx => lean1 (w := wx) (n2.below hx) (by (try simp only [AT.ht] at hh ⊢); omega) (by (try simp only [AT.ht] at hh ⊢); omega))
  have hd0 : 2 ≤ ((AT.node a y (.node m1 z m2)).ht : Int) - (r.ht : Int) := by have := H1.out; omega
  have hd1 : (r.ht : Int) - ((AT.node a y (.node m1 z m2)).ht : Int) < 2 := by have := H1.out; omega
  have hd2 : 0 < ((AT.node m1 z m2).ht : Int) - a.ht := by have := H2.out; omega
  have HU := Lib.hid n2
  have HEF := Lib.hid eF
  have HO := Lib.hid ho1
  have HL := Lib.hid hl1
  have HA := Lib.hid n1
  have HE := Lib.hid e1
  have HG := Lib.hid hF
  generalize ((AT.node a y (.node m1 z m2)).ht : Int) - (r.ht : Int) = D0 at *
  generalize (r.ht : Int) - ((AT.node a y (.node m1 z m2)).ht : Int) = D1 at *
  generalize ((AT.node m1 z m2).ht : Int) - a.ht = D2 at *
  clear hl1 ho1 hr nl nr ap hb1 n1 hh e1 pc hu ha hm nu1 nu2 aam n2 eF hF
  go_wp2_with fail
  refine wp_loop_rounds 3 ?_
  rw [rounds_succ]
  go_wp2_with fail
  refine (C0.out _ (Below.refl _ _)).mono ?_
  rintro e w2 ⟨rfl, hb2⟩
  have B2 := Lib.hid hb2
  clear hb2
  go_wp2_with fail
  refine (CU.out _ B2.out).mono ?_
  rintro e w4 ⟨rfl, hb4⟩
  have B4 := Lib.hid (B2.out.trans (hb4.mono B2.out.size))
  clear hb4
  have hbF : b ∈ F := by rw [← HG.out]; simp
  have ho4 : OnlyAt (fun k => k ∈ F) w w4 := (HO.out.mono (fun k e => e ▸ hbF)).trans (OnlyAt.of_below B4.out)
  have HO4 := Lib.hid ho4
  have HP4 := Lib.hid (HP.out.only ho4 HN.out)
  have HBF := Lib.hid hbF
  clear ho4 hbF
  go_wp2_with fail
  refine (turner_of _ _).mono ?_
  rintro e w5 ⟨rfl, rfl⟩
  go_wp2_with fail
  refine (turned_box1 (w := w4) (pb := b) (po := 0) (b := u) (HA.out.below B4.out).side0 (HU.out.below B4.out) (HEF.out ▸ HA.out.nl) ?_ ?_ ?_).mono ?_
  · have := HC.out; simp only [AT.cnt] at this ⊢; omega
  · have := HT.out; simp only [AT.tot] at this ⊢; omega
  · have := HH.out; simp only [AT.ht] at this ⊢; omega
  rintro e w6 ⟨rfl, ht6⟩
  have HT6 := Lib.hid ht6
  obtain ⟨p6, F6, n6, hF6⟩ := (HA.out.below B4.out).new_left (HEF.out ▸ ht6)
  have hsub : ∀ k, k = b ∨ k ∈ Fl' → k ∈ F := fun k hk => by rw [HE.out]; rcases hk with e | e <;> simp [e]
  have hsz4 : w.heap.size ≤ w4.heap.size := HO4.out.size
  have ho6 : OnlyAt (fun k => k ∈ F) w w6 := OnlyAt.trans HO4.out (ht6.only.mono (fun k hk => by
    rcases hk with e | e | e
    · exact hsub k (.inl e)
    · exact hsub k (.inr (HEF.out ▸ e))
    · exact e.elim))
  have hF1 : ∀ k ∈ b :: (F6 ++ Fr'), k ∈ F ∨ w.heap.size ≤ k := fun k hk => by
    rw [HE.out]
    simp only [List.mem_cons, List.mem_append] at hk ⊢
    rcases hk with e | e | e
    · exact .inl (.inl e)
    · exact (hF6 k e).imp (fun e => .inr (.inl e)) (fun e => by omega)
    · exact .inl (.inr (.inr e))
  have HO6 := Lib.hid ho6
  have HF1 := Lib.hid hF1
  have HP6 := Lib.hid (HP.out.only ho6 HN.out)
  have HA6 := Lib.hid n6
  have HN6 : Hid (pb ∉ b :: (F6 ++ Fr')) := Lib.hid (fun hk => by
    rcases hF1 pb hk with e | e
    · exact HN.out e
    · have := HP.out.lt; omega)
  clear ho6 hF1 n6 hF6 ht6 hsub hsz4
  go_wp2_with fail
  refine (turner_of _ _).mono ?_
  rintro e w7 ⟨rfl, rfl⟩
  go_wp2_with fail
  refine (turned_box0 (pb := pb) (po := po) (b := b) HP6.out HA6.out HN6.out ?_ ?_ ?_).mono ?_
  · have := HC.out; simp only [AT.cnt] at this ⊢; omega
  · have := HT.out; simp only [AT.tot] at this ⊢; omega
  · have := HH.out; simp only [AT.ht] at this ⊢; omega
  rintro e w8 ⟨rfl, ht8⟩
  have HT8 := Lib.hid ht8
  clear ht8
  go_wp2_with fail
  refine bodyPost_ret (results_none rfl _ _ _) rfl ?_
  rw [HG.out]
  exact ⟨rfl, turned_behind HO6.out HN.out HF1.out HT8.out⟩

set_option maxRecDepth 100000 in
set_option maxHeartbeats 4000000 in
theorem mend_R1 {w : World} {pb po b : Nat} {lp rp : Option Addr} {x y : It} {a m l : AT} {Fl Fr : List Nat} (hp : PlaceAt w pb po (.pointer (some ⟨b, 0, none⟩))) (h : AtNode w b lp rp x l (.node m y a) Fl Fr) (hpn : pb ∉ b :: (Fl ++ Fr))
    (hc : (AT.node l x (.node m y a)).cnt ≤ 1000000) (ht : (AT.node l x (.node m y a)).tot ≤ 1000000000000000000) (hh : (AT.node l x (.node m y a)).ht ≤ 800000) (h1 : l.ht + 1 < (AT.node m y a).ht) (h2 : m.ht ≤ a.ht) :
    Calls Try.prog 54 #[.pointer (some ⟨pb, po, none⟩)] w fun e w' => e = .returned (.tuple #[]) ∧ Turned w w' pb po (.node (.node l x m) y a) (b :: (Fl ++ Fr)) (fun _ => False) := by
  have pc := hp.cell
  have HM := Lib.hid (measure_of h hc ht (by omega))
  have HP := Lib.hid hp
  have HC := Lib.hid hc
  have HT := Lib.hid ht
  have HH := Lib.hid hh
  have HN := Lib.hid hpn
  have H1 := Lib.hid h1
  have H2 := Lib.hid h2
  clear h hp hc ht hh hpn h1 h2
  go_enter Try.func54, Try.ntmps54
  go_wp2_with fail
  refine HM.out.mono ?_
  rintro e w1 ⟨rfl, hl1, ho1⟩
  generalize hF : b :: (Fl ++ Fr) = F at *
  obtain ⟨b', lp', rp', Fl', Fr', e0, e1, hb1, hl, hr, ⟨nl, nr⟩, ap⟩ := id hl1
  cases e0
  have n1 : AtNode w1 b lp' rp' x l (.node m y a) Fl' Fr' := ⟨⟨_, _, _, hb1⟩, hl, hr, nl, nr, ap⟩
  obtain ⟨c0, c1, -, -⟩ := n1.cells
  have hh := HH.out
  simp only [AT.ht] at hh
  have C0 := Lib.hid (fun wx hx => lean0 (w := wx) (n1.below hx) (by (try simp only [AT.ht]); omega) (by (try simp only [AT.ht]); omega))
  have C1 := Lib.hid (fun wx hx => lean1 (w := wx) (n1.below hx) (by (try simp only [AT.ht]); omega) (by (try simp only [AT.ht]); omega))
  obtain ⟨u, mp2, ap2, Fm, Fa, rfl, eF, hu, hm, ha, ⟨nu1, nu2⟩, aam⟩ := hr
  have n2 : AtNode w1 u mp2 ap2 y m a Fm Fa := ⟨⟨_, _, _, hu⟩, hm, ha, nu1, nu2, aam⟩
  obtain ⟨d0, d1, -, -⟩ := n2.cells
  have CU := Lib.hid (fun wx hx => lean0 (w := wx) (n2.below hx) (by (try simp only [AT.ht] at hh ⊢); omega) (by (try simp only [AT.ht] at hh ⊢); omega))
  have hd0 : (l.ht : Int) - ((AT.node m y a).ht : Int) < 2 := by have := H1.out; omega
  have hd1 : 2 ≤ ((AT.node m y a).ht : Int) - (l.ht : Int) := by have := H1.out; omega
  have hd2 : (m.ht : Int) - a.ht ≤ 0 := by have := H2.out; omega
  have HU := Lib.hid n2
  have HEF := Lib.hid eF
  have HO := Lib.hid ho1
  have HL := Lib.hid hl1
  have HA := Lib.hid n1
  have HE := Lib.hid e1
  have HG := Lib.hid hF
  generalize (l.ht : Int) - ((AT.node m y a).ht : Int) = D0 at *
  generalize ((AT.node m y a).ht : Int) - (l.ht : Int) = D1 at *
  generalize (m.ht : Int) - a.ht = D2 at *
  clear hl1 ho1 nl nr ap hb1 n1 hh e1 pc hl hu ha hm nu1 nu2 aam n2 eF hF
  go_wp2_with fail
  refine wp_loop_rounds 3 ?_
  rw [rounds_succ]
  go_wp2_with fail
  refine (C0.out _ (Below.refl _ _)).mono ?_
  rintro e w2 ⟨rfl, hb2⟩
  have B2 := Lib.hid hb2
  clear hb2
  go_wp2_with fail
  rw [rounds_succ]
  go_wp2_with fail
  refine (C1.out _ B2.out).mono ?_
  rintro e w3 ⟨rfl, hb3⟩
  have B3 := Lib.hid (B2.out.trans (hb3.mono B2.out.size))
  clear hb3
  go_wp2_with fail
  refine (CU.out _ B3.out).mono ?_
  rintro e w4 ⟨rfl, hb4⟩
  have B4 := Lib.hid (B3.out.trans (hb4.mono B3.out.size))
  clear hb4
  have hbF : b ∈ F := by rw [← HG.out]; simp
  have ho4 : OnlyAt (fun k => k ∈ F) w w4 := (HO.out.mono (fun k e => e ▸ hbF)).trans (OnlyAt.of_below B4.out)
  have HO4 := Lib.hid ho4
  have HP4 := Lib.hid (HP.out.only ho4 HN.out)
  have HBF := Lib.hid hbF
  clear ho4 hbF
  go_wp2_with fail
  refine (turner_of _ _).mono ?_
  rintro e w7 ⟨rfl, rfl⟩
  go_wp2_with fail
  refine (turned_box1 (pb := pb) (po := po) (b := b) HP4.out (HA.out.below B4.out) (HE.out ▸ HN.out) ?_ ?_ ?_).mono ?_
  · have := HC.out; simp only [AT.cnt] at this ⊢; omega
  · have := HT.out; simp only [AT.tot] at this ⊢; omega
  · have := HH.out; simp only [AT.ht] at this ⊢; omega
  rintro e w8 ⟨rfl, ht8⟩
  have HT8 := Lib.hid ht8
  clear ht8
  go_wp2_with fail
  refine bodyPost_ret (results_none rfl _ _ _) rfl ?_
  rw [HG.out]
  exact ⟨rfl, turned_behind HO4.out HN.out (fun k hk => .inl (HE.out ▸ hk)) HT8.out⟩

set_option maxRecDepth 100000 in
set_option maxHeartbeats 4000000 in
theorem mend_R2 {w : World} {pb po b : Nat} {lp rp : Option Addr} {x y z : It} {a m1 m2 l : AT} {Fl Fr : List Nat} (hp : PlaceAt w pb po (.pointer (some ⟨b, 0, none⟩))) (h : AtNode w b lp rp x l (.node (.node m1 z m2) y a) Fl Fr) (hpn : pb ∉ b :: (Fl ++ Fr))
    (hc : (AT.node l x (.node (.node m1 z m2) y a)).cnt ≤ 1000000) (ht : (AT.node l x (.node (.node m1 z m2) y a)).tot ≤ 1000000000000000000) (hh : (AT.node l x (.node (.node m1 z m2) y a)).ht ≤ 800000) (h1 : l.ht + 1 < (AT.node (.node m1 z m2) y a).ht) (h2 : a.ht < (AT.node m1 z m2).ht) :
    Calls Try.prog 54 #[.pointer (some ⟨pb, po, none⟩)] w fun e w' => e = .returned (.tuple #[]) ∧ Turned w w' pb po (.node (.node l x m1) z (.node m2 y a)) (b :: (Fl ++ Fr)) (fun _ => False) := by
  have pc := hp.cell
  have HM := Lib.hid (measure_of h hc ht (by omega))
  have HP := Lib.hid hp
  have HC := Lib.hid hc
  have HT := Lib.hid ht
  have HH := Lib.hid hh
  have HN := Lib.hid hpn
  have H1 := Lib.hid h1
  have H2 := Lib.hid h2
  clear h hp hc ht hh hpn h1 h2
  go_enter Try.func54, Try.ntmps54
  go_wp2_with fail
  refine HM.out.mono ?_
  rintro e w1 ⟨rfl, hl1, ho1⟩
  generalize hF : b :: (Fl ++ Fr) = F at *
  obtain ⟨b', lp', rp', Fl', Fr', e0, e1, hb1, hl, hr, ⟨nl, nr⟩, ap⟩ := id hl1
  cases e0
  have n1 : AtNode w1 b lp' rp' x l (.node (.node m1 z m2) y a) Fl' Fr' := ⟨⟨_, _, _, hb1⟩, hl, hr, nl, nr, ap⟩
  obtain ⟨c0, c1, -, -⟩ := n1.cells
  have hh := HH.out
  simp only [AT.ht] at hh
  have C0 := Lib.hid (fun wx hx => lean0 (w := wx) (n1.below hx) (by (try simp only [AT.ht]); omega) (by (try simp only [AT.ht]); omega))
  have C1 := Lib.hid (fun wx hx => lean1 (w := wx) (n1.below hx) (by (try simp only [AT.ht]); omega) (by (try simp only [AT.ht]); omega))
  obtain ⟨u, mp2, ap2, Fm, Fa, rfl, eF, hu, hm, ha, ⟨nu1, nu2⟩, aam⟩ := hr
  have n2 : AtNode w1 u mp2 ap2 y (.node m1 z m2) a Fm Fa := ⟨⟨_, _, _, hu⟩, hm, ha, nu1, nu2, aam⟩
  obtain ⟨d0, d1, -, -⟩ := n2.cells
  have CU := Lib.hid (fun wx hx => lean0 (w := wx) (n2.below hx) (by (try simp only [AT.ht] at hh ⊢); omega) (by (try simp only [AT.ht] at hh ⊢); omega))
  have hd0 : (l.ht : Int) - ((AT.node (.node m1 z m2) y a).ht : Int) < 2 := by have := H1.out; omega
  have hd1 : 2 ≤ ((AT.node (.node m1 z m2) y a).ht : Int) - (l.ht : Int) := by have := H1.out; omega
  have hd2 : 0 < ((AT.node m1 z m2).ht : Int) - a.ht := by have := H2.out; omega
  have HU := Lib.hid n2
  have HEF := Lib.hid eF
  have HO := Lib.hid ho1
  have HL := Lib.hid hl1
  have HA := Lib.hid n1
  have HE := Lib.hid e1
  have HG := Lib.hid hF
  generalize (l.ht : Int) - ((AT.node (.node m1 z m2) y a).ht : Int) = D0 at *
  generalize ((AT.node (.node m1 z m2) y a).ht : Int) - (l.ht : Int) = D1 at *
  generalize ((AT.node m1 z m2).ht : Int) - a.ht = D2 at *
  clear hl1 ho1 nl nr ap hb1 n1 hh e1 pc hl hu ha hm nu1 nu2 aam n2 eF hF
  go_wp2_with fail
  refine wp_loop_rounds 3 ?_
  rw [rounds_succ]
  go_wp2_with fail
  refine (C0.out _ (Below.refl _ _)).mono ?_
  rintro e w2 ⟨rfl, hb2⟩
  have B2 := Lib.hid hb2
  clear hb2
  go_wp2_with fail
  rw [rounds_succ]
  go_wp2_with fail
  refine (C1.out _ B2.out).mono ?_
  rintro e w3 ⟨rfl, hb3⟩
  have B3 := Lib.hid (B2.out.trans (hb3.mono B2.out.size))
  clear hb3
  go_wp2_with fail
  refine (CU.out _ B3.out).mono ?_
  rintro e w4 ⟨rfl, hb4⟩
  have B4 := Lib.hid (B3.out.trans (hb4.mono B3.out.size))
  clear hb4
  have hbF : b ∈ F := by rw [← HG.out]; simp
  have ho4 : OnlyAt (fun k => k ∈ F) w w4 := (HO.out.mono (fun k e => e ▸ hbF)).trans (OnlyAt.of_below B4.out)
  have HO4 := Lib.hid ho4
  have HP4 := Lib.hid (HP.out.only ho4 HN.out)
  have HBF := Lib.hid hbF
  clear ho4 hbF
  go_wp2_with fail
  refine (turner_of _ _).mono ?_
  rintro e w5 ⟨rfl, rfl⟩
  go_wp2_with fail
  refine (turned_box0 (w := w4) (pb := b) (po := 1) (b := u) (HA.out.below B4.out).side1 (HU.out.below B4.out) (HEF.out ▸ HA.out.nr) ?_ ?_ ?_).mono ?_
  · have := HC.out; simp only [AT.cnt] at this ⊢; omega
  · have := HT.out; simp only [AT.tot] at this ⊢; omega
  · have := HH.out; simp only [AT.ht] at this ⊢; omega
  rintro e w6 ⟨rfl, ht6⟩
  have HT6 := Lib.hid ht6
  obtain ⟨p6, F6, n6, hF6⟩ := (HA.out.below B4.out).new_right (HEF.out ▸ ht6)
  have hsub : ∀ k, k = b ∨ k ∈ Fr' → k ∈ F := fun k hk => by rw [HE.out]; rcases hk with e | e <;> simp [e]
  have hsz4 : w.heap.size ≤ w4.heap.size := HO4.out.size
  have ho6 : OnlyAt (fun k => k ∈ F) w w6 := OnlyAt.trans HO4.out (ht6.only.mono (fun k hk => by
    rcases hk with e | e | e
    · exact hsub k (.inl e)
    · exact hsub k (.inr (HEF.out ▸ e))
    · exact e.elim))
  have hF1 : ∀ k ∈ b :: (Fl' ++ F6), k ∈ F ∨ w.heap.size ≤ k := fun k hk => by
    rw [HE.out]
    simp only [List.mem_cons, List.mem_append] at hk ⊢
    rcases hk with e | e | e
    · exact .inl (.inl e)
    · exact .inl (.inr (.inl e))
    · exact (hF6 k e).imp (fun e => .inr (.inr e)) (fun e => by omega)
  have HO6 := Lib.hid ho6
  have HF1 := Lib.hid hF1
  have HP6 := Lib.hid (HP.out.only ho6 HN.out)
  have HA6 := Lib.hid n6
  have HN6 : Hid (pb ∉ b :: (Fl' ++ F6)) := Lib.hid (fun hk => by
    rcases hF1 pb hk with e | e
    · exact HN.out e
    · have := HP.out.lt; omega)
  clear ho6 hF1 n6 hF6 ht6 hsub hsz4
  go_wp2_with fail
  refine (turner_of _ _).mono ?_
  rintro e w7 ⟨rfl, rfl⟩
  go_wp2_with fail
  refine (turned_box1 (pb := pb) (po := po) (b := b) HP6.out HA6.out HN6.out ?_ ?_ ?_).mono ?_
  · have := HC.out; simp only [AT.cnt] at this ⊢; omega
  · have := HT.out; simp only [AT.tot] at this ⊢; omega
  · have := HH.out; simp only [AT.ht] at this ⊢; omega
  rintro e w8 ⟨rfl, ht8⟩
  have HT8 := Lib.hid ht8
  clear ht8
  go_wp2_with fail
  refine bodyPost_ret (results_none rfl _ _ _) rfl ?_
  rw [HG.out]
  exact ⟨rfl, turned_behind HO6.out HN.out HF1.out HT8.out⟩

theorem mend_any {w : World} {pb po b : Nat} {lp rp : Option Addr} {x : It} {l r : AT} {Fl Fr : List Nat} (hp : PlaceAt w pb po (.pointer (some ⟨b, 0, none⟩))) (h : AtNode w b lp rp x l r Fl Fr) (hpn : pb ∉ b :: (Fl ++ Fr))
    (hc : (AT.node l x r).cnt ≤ 1000000) (ht : (AT.node l x r).tot ≤ 1000000000000000000) (hh : (AT.node l x r).ht ≤ 800000) :
    Calls Try.prog 54 #[.pointer (some ⟨pb, po, none⟩)] w fun e w' => e = .returned (.tuple #[]) ∧ Turned w w' pb po (AT.fix l x r) (b :: (Fl ++ Fr)) (fun _ => False) := by
  unfold AT.fix
  split
  · rename_i hlt
    cases l with
    | nil => simp [AT.ht] at hlt
    | node a y m =>
      dsimp only
      split
      · rename_i h2
        cases m with
        | nil => simp [AT.ht] at h2
        | node m1 z m2 => exact mend_L2 hp h hpn hc ht hh hlt h2
      · exact mend_L1 hp h hpn hc ht hh hlt (by omega)
  · split
    · rename_i hlt
      cases r with
      | nil => simp [AT.ht] at hlt
      | node m y a =>
        dsimp only
        split
        · rename_i h2
          cases m with
          | nil => simp [AT.ht] at h2
          | node m1 z m2 => exact mend_R2 hp h hpn hc ht hh hlt h2
        · exact mend_R1 hp h hpn hc ht hh hlt (by omega)
    · exact mend_bal hp h hpn hc ht hh (by omega) (by omega)

/-- What stands at a place while it is still to be mended: its root tells old totals. -/
def Stale (w : World) (p : Option Addr) : AT → List Nat → Prop
  | .nil, F => p = none ∧ F = []
  | .node l x r, F => ∃ b lp rp Fl Fr, p = some ⟨b, 0, none⟩ ∧ F = b :: (Fl ++ Fr) ∧ AtNode w b lp rp x l r Fl Fr
theorem Stale.of_lies {w : World} {p : Option Addr} {t : AT} {F : List Nat} (h : LiesT w p t F) : Stale w p t F := by
  cases t with
  | nil => exact h
  | node l x r =>
    obtain ⟨b, lp, rp, Fl, Fr, h1, h2, h3, h4, h5, ⟨h6, h7⟩, h8⟩ := h
    exact ⟨b, lp, rp, Fl, Fr, h1, h2, ⟨_, _, _, h3⟩, h4, h5, h6, h7, h8⟩
def AT.fx : AT → AT
  | .nil => .nil
  | .node l x r => AT.fix l x r

theorem mend_nil {w : World} {pb po : Nat} (hp : PlaceAt w pb po (.pointer none)) :
    Calls Try.prog 54 #[.pointer (some ⟨pb, po, none⟩)] w fun e w' => e = .returned (.tuple #[]) ∧ Turned w w' pb po .nil [] (fun _ => False) := by
  have pc := hp.cell
  have HP := Lib.hid hp
  clear hp
  go_enter Try.func54, Try.ntmps54
  go_wp2_with fail
  refine bodyPost_ret (results_none rfl _ _ _) rfl ?_
  exact ⟨rfl, ⟨none, [], Lies.nil, fun _ h => .inl h, SetAt.same HP.out (OnlyAt.refl (fun _ => False) w) id⟩, OnlyAt.refl _ _⟩
theorem mend_stale {w : World} {pb po : Nat} {p : Option Addr} {t : AT} {F : List Nat} (hp : PlaceAt w pb po (.pointer p)) (h : Stale w p t F) (hpn : pb ∉ F)
    (hc : t.cnt ≤ 1000000) (ht : t.tot ≤ 1000000000000000000) (hh : t.ht ≤ 800000) :
    Calls Try.prog 54 #[.pointer (some ⟨pb, po, none⟩)] w fun e w' => e = .returned (.tuple #[]) ∧ Turned w w' pb po t.fx F (fun _ => False) := by
  cases t with
  | nil =>
    obtain ⟨rfl, rfl⟩ := h
    exact mend_nil hp
  | node l x r =>
    obtain ⟨b, lp, rp, Fl, Fr, rfl, rfl, h⟩ := h
    exact mend_any hp h hpn hc ht hh
end Go.Proofs.Ytfdnlbeancdajaa.Avl
