/- A node is turned: its child on the high side comes up. -/
import Derived.Test.YtfdnlbeancdajaaTMeas
namespace Go.Proofs.Ytfdnlbeancdajaa.Avl
open Go Go.RowKit
attribute [local go_sem] fld0 fld1 fld2 wrap_one wrap_zero

/-- Of a block just the cell at p is another. -/
def SetAt (p : Addr) (v : Value) (w w' : World) : Prop :=
  ∀ cs ty fr, w.heap[p.block]? = some (.cells cs ty fr) → w'.heap[p.block]? = some (.cells (cs.setIfInBounds p.off v) ty fr)
theorem SetAt.of_set (w : World) (p : Addr) (v : Value) (hs : p.spot = none) : SetAt p v w (w.setCell p v) := fun cs ty fr h => by
  obtain ⟨pb, po, ps⟩ := p
  dsimp only at hs
  subst hs
  simp only [World.setCell, Array.getElem?_modify, h]
  simp
theorem SetAt.before {p : Addr} {v : Value} {w w1 w' : World} {T : Nat → Prop} (ho : OnlyAt T w w1) (hT : ¬ T p.block) (h : SetAt p v w1 w') : SetAt p v w w' :=
  fun cs ty fr hc => h cs ty fr ((ho.block _ (Array.getElem?_eq_some_iff.1 hc).1 hT).trans hc)
theorem SetAt.behind {p : Addr} {v : Value} {w w1 w' : World} {T : Nat → Prop} (h : SetAt p v w w1) (ho : OnlyAt T w1 w') (hT : ¬ T p.block) : SetAt p v w w' :=
  fun cs ty fr hc => (ho.block _ (Array.getElem?_eq_some_iff.1 (h cs ty fr hc)).1 hT).trans (h cs ty fr hc)
theorem SetAt.trans {p : Addr} {v v1 : Value} {w w1 w' : World} (h : SetAt p v1 w w1) (k : SetAt p v w1 w') : SetAt p v w w' :=
  fun cs ty fr hc => by
    have := k _ ty fr (h cs ty fr hc)
    rw [this]
    congr 2
    simp

theorem raw_side0 {w : World} {b : Nat} {lp rp : Option Addr} {x : It} {i s h : Int} (hb : w.heap[b]? = some (.cells (raw lp rp x i s h) 85 (0, 0))) (q : Option Addr) :
    (w.setCell ⟨b, 0, none⟩ (.pointer q)).heap[b]? = some (.cells (raw q rp x i s h) 85 (0, 0)) := by
  simp only [World.setCell, Array.getElem?_modify, hb, raw]
  simp
theorem raw_side1 {w : World} {b : Nat} {lp rp : Option Addr} {x : It} {i s h : Int} (hb : w.heap[b]? = some (.cells (raw lp rp x i s h) 85 (0, 0))) (q : Option Addr) :
    (w.setCell ⟨b, 1, none⟩ (.pointer q)).heap[b]? = some (.cells (raw lp q x i s h) 85 (0, 0)) := by
  simp only [World.setCell, Array.getElem?_modify, hb, raw]
  simp
theorem set_other (w : World) (p : Addr) (v : Value) {k : Nat} (h : k ≠ p.block) : (w.setCell p v).heap[k]? = w.heap[k]? := by
  simp only [World.setCell, Array.getElem?_modify]
  rw [if_neg (fun e => h e.symm)]

/-- A place that holds a value, and may be written. -/
def PlaceAt (w : World) (pb po : Nat) (v : Value) : Prop := ∃ cs ty, w.heap[pb]? = some (.cells cs ty (0, 0)) ∧ cs[po]? = some v
theorem PlaceAt.cell {w : World} {pb po : Nat} {v : Value} (h : PlaceAt w pb po v) : w.cell? ⟨pb, po, none⟩ = some v := by
  obtain ⟨cs, ty, h1, h2⟩ := h
  simp [World.cell?, h1, h2]
theorem PlaceAt.free {w : World} {pb po : Nat} {v : Value} (h : PlaceAt w pb po v) : w.frozen? ⟨pb, po, none⟩ = false := by
  obtain ⟨cs, ty, h1, h2⟩ := h
  simp [World.frozen?, h1]
theorem PlaceAt.lt {w : World} {pb po : Nat} {v : Value} (h : PlaceAt w pb po v) : pb < w.heap.size := by
  obtain ⟨cs, ty, h1, h2⟩ := h
  exact (Array.getElem?_eq_some_iff.1 h1).1
theorem PlaceAt.only {w w' : World} {pb po : Nat} {v : Value} {T : Nat → Prop} (h : PlaceAt w pb po v) (ho : OnlyAt T w w') (hT : ¬ T pb) : PlaceAt w' pb po v := by
  have hl := h.lt
  obtain ⟨cs, ty, h1, h2⟩ := h
  exact ⟨cs, ty, (ho.block pb hl hT).trans h1, h2⟩
theorem PlaceAt.set {w w' : World} {pb po : Nat} {v u : Value} (h : PlaceAt w pb po v) (hs : SetAt ⟨pb, po, none⟩ u w w') : PlaceAt w' pb po u := by
  obtain ⟨cs, ty, h1, h2⟩ := h
  refine ⟨_, ty, hs cs ty _ h1, ?_⟩
  rw [Array.getElem?_setIfInBounds]
  have := (Array.getElem?_eq_some_iff.1 h2).1
  simp [this]

theorem only_cell {w w' : World} {B o : Nat} {v : Value} {T : Nat → Prop} (ho : OnlyAt T w w') (hc : w.cell? ⟨B, o, none⟩ = some v) (hT : ¬ T B) : w'.cell? ⟨B, o, none⟩ = some v := by
  have hl : B < w.heap.size := World.block_lt_of_cell? w _ hc
  simp only [World.cell?, ho.block B hl hT] at hc ⊢
  exact hc

/-- What a turned place is: a tree, of blocks that were there, or are new. -/
structure Turned (w w' : World) (pb po : Nat) (t : AT) (F : List Nat) (T : Nat → Prop) : Prop where
  lies : ∃ (p : Option Addr) (F' : List Nat), LiesT w' p t F' ∧ (∀ k ∈ F', k ∈ F ∨ w.heap.size ≤ k) ∧ SetAt ⟨pb, po, none⟩ (.pointer p) w w'
  only : OnlyAt (fun k => k = pb ∨ k ∈ F ∨ T k) w w'

/-! ### The high side is the left one -/
/-- The two sides are exchanged. -/
theorem turn0_one {w : World} {b u : Nat} {dp qp mp : Option Addr} {x y : It} {a m r : AT} {Fq Fm Fr : List Nat} {i s k i' s' k' : Int}
    (hb : w.heap[b]? = some (.cells (raw (some ⟨u, 0, none⟩) dp x i s k) 85 (0, 0))) (hu : w.heap[u]? = some (.cells (raw qp mp y i' s' k') 85 (0, 0)))
    (hq : LiesT w qp a Fq) (hm : LiesT w mp m Fm) (hr : LiesT w dp r Fr) (hbu : b ≠ u) (b1 : b ∉ Fq) (b2 : b ∉ Fm) (b3 : b ∉ Fr) (u1 : u ∉ Fq) (u2 : u ∉ Fm) (u3 : u ∉ Fr) (hd : ∀ z ∈ Fm, z ∉ Fr) :
    AtNode ((w.setCell ⟨b, 0, none⟩ (.pointer mp)).setCell ⟨u, 1, none⟩ (.pointer (some ⟨b, 0, none⟩))).drew b mp dp x m r Fm Fr ∧
    ((w.setCell ⟨b, 0, none⟩ (.pointer mp)).setCell ⟨u, 1, none⟩ (.pointer (some ⟨b, 0, none⟩))).drew.heap[u]? = some (.cells (raw qp (some ⟨b, 0, none⟩) y i' s' k') 85 (0, 0)) ∧
    LiesT ((w.setCell ⟨b, 0, none⟩ (.pointer mp)).setCell ⟨u, 1, none⟩ (.pointer (some ⟨b, 0, none⟩))).drew qp a Fq ∧
    OnlyAt (fun z => z = b ∨ z = u) w ((w.setCell ⟨b, 0, none⟩ (.pointer mp)).setCell ⟨u, 1, none⟩ (.pointer (some ⟨b, 0, none⟩))).drew := by
  have o1 := (only1 w ⟨b, 0, none⟩ (.pointer mp)).mono (T' := fun z => z = b ∨ z = u) (fun _ h => .inl h)
  have o2 := (only1 (w.setCell ⟨b, 0, none⟩ (.pointer mp)) ⟨u, 1, none⟩ (.pointer (some ⟨b, 0, none⟩))).mono (T' := fun z => z = b ∨ z = u) (fun _ h => .inr h)
  have ho := (o1.trans o2).trans (OnlyAt.drew _ _)
  have hb1 := raw_side0 hb mp
  have hu1 : (w.setCell ⟨b, 0, none⟩ (.pointer mp)).heap[u]? = some (.cells (raw qp mp y i' s' k') 85 (0, 0)) := (set_other _ _ _ (fun e => hbu e.symm)).trans hu
  have hu2 := raw_side1 hu1 (some ⟨b, 0, none⟩)
  have hb2 := (set_other (w.setCell ⟨b, 0, none⟩ (.pointer mp)) ⟨u, 1, none⟩ (.pointer (some ⟨b, 0, none⟩)) hbu).trans hb1
  have ne : ∀ {F : List Nat}, b ∉ F → u ∉ F → ∀ z ∈ F, ¬ (z = b ∨ z = u) := fun h1 h2 z hz h => h.elim (fun e => h1 (e ▸ hz)) (fun e => h2 (e ▸ hz))
  exact ⟨⟨⟨_, _, _, hb2⟩, hm.only ho (ne b2 u2), hr.only ho (ne b3 u3), b2, b3, hd⟩, hu2, hq.only ho (ne b1 u1), ho⟩

set_option maxRecDepth 100000 in
set_option maxHeartbeats 4000000 in
theorem turn0 {w : World} {B pb po b : Nat} {lp rp : Option Addr} {x y : It} {a m r : AT} {Fl Fr : List Nat} (hB : w.cell? ⟨B, 0, none⟩ = some (.pointer (some ⟨pb, po, none⟩))) (hp : PlaceAt w pb po (.pointer (some ⟨b, 0, none⟩)))
    (h : AtNode w b lp rp x (.node a y m) r Fl Fr) (hBn : B ∉ b :: (Fl ++ Fr)) (hpn : pb ∉ b :: (Fl ++ Fr))
    (hc : (AT.node (.node a y m) x r).cnt ≤ 1000000) (ht : (AT.node (.node a y m) x r).tot ≤ 1000000000000000000) (hh : (AT.node (.node a y m) x r).ht ≤ 900000) :
    Calls Try.prog 76 #[.int .i64 0, .pointer (some ⟨B, 0, none⟩)] w fun e w' => e = .returned (.tuple #[]) ∧ Turned w w' pb po (.node a y (.node m x r)) (b :: (Fl ++ Fr)) (fun _ => False) := by
  obtain ⟨u, qp, mp, Fq, Fm, rfl, rfl, hu, hq, hm, ⟨huq, hum⟩, hqm⟩ := h.left
  obtain ⟨i, s, k, hb⟩ := h.here
  have hr := h.right
  have hbu : b ≠ u := fun e => h.nl (by simp [e])
  have b1 : b ∉ Fq := fun e => h.nl (by simp [e])
  have b2 : b ∉ Fm := fun e => h.nl (by simp [e])
  have hap := h.apart
  have b3 := h.nr
  have u3 : u ∉ Fr := hap u (by simp)
  have mr : ∀ z ∈ Fm, z ∉ Fr := fun z hz => hap z (by simp [hz])
  have qr : ∀ z ∈ Fq, z ∉ Fr := fun z hz => hap z (by simp [hz])
  obtain ⟨c0, c1, c2, c3⟩ := h.cells
  obtain ⟨d0, d1, d2, d3, -⟩ := raw_cells hu
  have pc := hp.cell
  have pf := hp.free
  have fb := fun o => raw_free hb o
  have fu := fun o => raw_free hu o
  have E1 := Lib.hid (turn0_one hb hu hq hm hr hbu b1 b2 b3 huq hum u3 mr)
  have n1 : ¬ (B = b ∨ B = u) := fun e => hBn (by rcases e with e | e <;> simp [e])
  have n2 : ¬ (pb = b ∨ pb = u) := fun e => hpn (by rcases e with e | e <;> simp [e])
  have HX := Lib.hid hB
  have HP := Lib.hid hp
  have HC := Lib.hid hc
  have HT := Lib.hid ht
  have HK := Lib.hid hh
  have HN := Lib.hid (And.intro n1 n2)
  have HG := Lib.hid (And.intro b1 (And.intro huq (And.intro hbu (And.intro hum (And.intro u3 (And.intro hqm (And.intro qr hpn)))))))
  clear h hp hb hu hq hm hr c2 c3 d2 d3 hc ht hh huq hum hqm hBn hpn b1 b2 b3 hap u3 mr qr n1 n2
  go_enter Try.func76, Try.ntmps76
  go_wp2_with fail
  go_region
  generalize ((w.setCell ⟨b, 0, none⟩ (.pointer mp)).setCell ⟨u, 1, none⟩ (.pointer (some ⟨b, 0, none⟩))).drew = w1 at E1 ⊢
  clear c0 c1 d0 d1 pc pf fb fu hB
  go_wp2_with fail
  refine (measure_of E1.out.1 ?_ ?_ ?_).mono ?_
  · have := HC.out; simp only [AT.cnt] at this ⊢; omega
  · have := HT.out; simp only [AT.tot] at this ⊢; omega
  · have := HK.out; simp only [AT.ht] at this ⊢; omega
  rintro e w2 ⟨rfl, hl2, ho2⟩
  have E2 := Lib.hid (And.intro hl2 ho2)
  clear hl2 ho2
  go_wp2_with fail
  refine (measure_of (b := u) (lp := qp) (rp := some ⟨b, 0, none⟩) (x := y) (l := a) (r := .node m x r) (Fl := Fq) (Fr := b :: (Fm ++ Fr)) ?_ ?_ ?_ ?_).mono ?_
  · obtain ⟨-, f2, f3, f4⟩ := E1.out
    obtain ⟨g1, g2⟩ := E2.out
    obtain ⟨b1, huq, hbu, hum, u3, hqm, qr, -⟩ := HG.out
    exact ⟨⟨_, _, _, (g2.block u (Array.getElem?_eq_some_iff.1 f2).1 (fun e => hbu e.symm)).trans f2⟩, f3.only g2 (fun z hz e => b1 (e ▸ hz)), g1, huq, by simp [hum, u3, Ne.symm hbu], fun z hz => by simp only [List.mem_cons, List.mem_append, not_or]; exact ⟨fun e => b1 (e ▸ hz), hqm z hz, qr z hz⟩⟩
  · have := HC.out; simp only [AT.cnt] at this ⊢; omega
  · have := HT.out; simp only [AT.tot] at this ⊢; omega
  · have := HK.out; simp only [AT.ht] at this ⊢; omega
  rintro e w3 ⟨rfl, hl3, ho3⟩
  have ho : OnlyAt (fun z => z = b ∨ z = u) w w3 := (E1.out.2.2.2.trans (E2.out.2.mono (fun _ h => .inl h))).trans (ho3.mono (fun _ h => .inr h))
  have hB3 := only_cell ho HX.out HN.out.1
  have HP3 := Lib.hid (HP.out.only ho HN.out.2)
  have pc3 := HP3.out.cell
  have pf3 := HP3.out.free
  have HO := Lib.hid ho
  have HL := Lib.hid hl3
  clear ho hl3 ho3
  go_wp2_with fail
  go_end0
  obtain ⟨-, -, -, -, -, -, -, hpn⟩ := HG.out
  have os := (only1 w3 ⟨pb, po, none⟩ (.pointer (some ⟨u, 0, none⟩)))
  refine ⟨rfl, ⟨some ⟨u, 0, none⟩, u :: (Fq ++ b :: (Fm ++ Fr)), HL.out.only os (fun z hz e => hpn ?_), fun z hz => .inl ?_, (SetAt.of_set w3 ⟨pb, po, none⟩ (.pointer (some ⟨u, 0, none⟩)) rfl).before HO.out HN.out.2⟩, (HO.out.mono ?_).trans (os.mono fun z hz => .inl hz)⟩
  · have e : z = pb := e
    rw [← e]
    simp only [List.mem_cons, List.mem_append] at hz ⊢
    rcases hz with e | e | e | e | e <;> simp [e]
  · simp only [List.mem_cons, List.mem_append] at hz ⊢
    rcases hz with e | e | e | e | e <;> simp [e]
  · rintro z (e | e)
    · exact .inr (.inl (by simp [e]))
    · exact .inr (.inl (by simp [e]))

/-! ### The high side is the right one -/
/-- The two sides are exchanged. -/
theorem turn1_one {w : World} {b u : Nat} {dp qp mp : Option Addr} {x y : It} {a m r : AT} {Fq Fm Fr : List Nat} {i s k i' s' k' : Int}
    (hb : w.heap[b]? = some (.cells (raw dp (some ⟨u, 0, none⟩) x i s k) 85 (0, 0))) (hu : w.heap[u]? = some (.cells (raw mp qp y i' s' k') 85 (0, 0)))
    (hq : LiesT w qp a Fq) (hm : LiesT w mp m Fm) (hr : LiesT w dp r Fr) (hbu : b ≠ u) (b1 : b ∉ Fq) (b2 : b ∉ Fm) (b3 : b ∉ Fr) (u1 : u ∉ Fq) (u2 : u ∉ Fm) (u3 : u ∉ Fr) (hd : ∀ z ∈ Fr, z ∉ Fm) :
    AtNode ((w.setCell ⟨b, 1, none⟩ (.pointer mp)).setCell ⟨u, 0, none⟩ (.pointer (some ⟨b, 0, none⟩))).drew b dp mp x r m Fr Fm ∧
    ((w.setCell ⟨b, 1, none⟩ (.pointer mp)).setCell ⟨u, 0, none⟩ (.pointer (some ⟨b, 0, none⟩))).drew.heap[u]? = some (.cells (raw (some ⟨b, 0, none⟩) qp y i' s' k') 85 (0, 0)) ∧
    LiesT ((w.setCell ⟨b, 1, none⟩ (.pointer mp)).setCell ⟨u, 0, none⟩ (.pointer (some ⟨b, 0, none⟩))).drew qp a Fq ∧
    OnlyAt (fun z => z = b ∨ z = u) w ((w.setCell ⟨b, 1, none⟩ (.pointer mp)).setCell ⟨u, 0, none⟩ (.pointer (some ⟨b, 0, none⟩))).drew := by
  have o1 := (only1 w ⟨b, 1, none⟩ (.pointer mp)).mono (T' := fun z => z = b ∨ z = u) (fun _ h => .inl h)
  have o2 := (only1 (w.setCell ⟨b, 1, none⟩ (.pointer mp)) ⟨u, 0, none⟩ (.pointer (some ⟨b, 0, none⟩))).mono (T' := fun z => z = b ∨ z = u) (fun _ h => .inr h)
  have ho := (o1.trans o2).trans (OnlyAt.drew _ _)
  have hb1 := raw_side1 hb mp
  have hu1 : (w.setCell ⟨b, 1, none⟩ (.pointer mp)).heap[u]? = some (.cells (raw mp qp y i' s' k') 85 (0, 0)) := (set_other _ _ _ (fun e => hbu e.symm)).trans hu
  have hu2 := raw_side0 hu1 (some ⟨b, 0, none⟩)
  have hb2 := (set_other (w.setCell ⟨b, 1, none⟩ (.pointer mp)) ⟨u, 0, none⟩ (.pointer (some ⟨b, 0, none⟩)) hbu).trans hb1
  have ne : ∀ {F : List Nat}, b ∉ F → u ∉ F → ∀ z ∈ F, ¬ (z = b ∨ z = u) := fun h1 h2 z hz h => h.elim (fun e => h1 (e ▸ hz)) (fun e => h2 (e ▸ hz))
  exact ⟨⟨⟨_, _, _, hb2⟩, hr.only ho (ne b3 u3), hm.only ho (ne b2 u2), b3, b2, hd⟩, hu2, hq.only ho (ne b1 u1), ho⟩

set_option maxRecDepth 100000 in
set_option maxHeartbeats 4000000 in
theorem turn1 {w : World} {B pb po b : Nat} {lp rp : Option Addr} {x y : It} {a m r : AT} {Fl Fr : List Nat} (hB : w.cell? ⟨B, 0, none⟩ = some (.pointer (some ⟨pb, po, none⟩))) (hp : PlaceAt w pb po (.pointer (some ⟨b, 0, none⟩)))
    (h : AtNode w b lp rp x r (.node m y a) Fl Fr) (hBn : B ∉ b :: (Fl ++ Fr)) (hpn : pb ∉ b :: (Fl ++ Fr))
    (hc : (AT.node r x (.node m y a)).cnt ≤ 1000000) (ht : (AT.node r x (.node m y a)).tot ≤ 1000000000000000000) (hh : (AT.node r x (.node m y a)).ht ≤ 900000) :
    Calls Try.prog 76 #[.int .i64 1, .pointer (some ⟨B, 0, none⟩)] w fun e w' => e = .returned (.tuple #[]) ∧ Turned w w' pb po (.node (.node r x m) y a) (b :: (Fl ++ Fr)) (fun _ => False) := by
  obtain ⟨u, mp, qp, Fm, Fq, rfl, rfl, hu, hm, hq, ⟨hum, huq⟩, hqm⟩ := h.right
  obtain ⟨i, s, k, hb⟩ := h.here
  have hr := h.left
  have hbu : b ≠ u := fun e => h.nr (by simp [e])
  have b1 : b ∉ Fq := fun e => h.nr (by simp [e])
  have b2 : b ∉ Fm := fun e => h.nr (by simp [e])
  have hap := h.apart
  have b3 := h.nl
  have u3 : u ∉ Fl := fun e => hap u e (by simp)
  have mr : ∀ z ∈ Fm, z ∉ Fl := fun z hz e => hap z e (by simp [hz])
  have qr : ∀ z ∈ Fq, z ∉ Fl := fun z hz e => hap z e (by simp [hz])
  obtain ⟨c0, c1, c2, c3⟩ := h.cells
  obtain ⟨d0, d1, d2, d3, -⟩ := raw_cells hu
  have pc := hp.cell
  have pf := hp.free
  have fb := fun o => raw_free hb o
  have fu := fun o => raw_free hu o
  have E1 := Lib.hid (turn1_one hb hu hq hm hr hbu b1 b2 b3 huq hum u3 (fun z hz e => mr z e hz))
  have n1 : ¬ (B = b ∨ B = u) := fun e => hBn (by rcases e with e | e <;> simp [e])
  have n2 : ¬ (pb = b ∨ pb = u) := fun e => hpn (by rcases e with e | e <;> simp [e])
  have HX := Lib.hid hB
  have HP := Lib.hid hp
  have HC := Lib.hid hc
  have HT := Lib.hid ht
  have HK := Lib.hid hh
  have HN := Lib.hid (And.intro n1 n2)
  have HG := Lib.hid (And.intro b1 (And.intro huq (And.intro hbu (And.intro hum (And.intro u3 (And.intro hqm (And.intro qr hpn)))))))
  clear h hp hb hu hq hm hr c2 c3 d2 d3 hc ht hh huq hum hqm hBn hpn b1 b2 b3 hap u3 mr qr n1 n2
  go_enter Try.func76, Try.ntmps76
  go_wp2_with fail
  go_region
  generalize ((w.setCell ⟨b, 1, none⟩ (.pointer mp)).setCell ⟨u, 0, none⟩ (.pointer (some ⟨b, 0, none⟩))).drew = w1 at E1 ⊢
  clear c0 c1 d0 d1 pc pf fb fu hB
  go_wp2_with fail
  refine (measure_of E1.out.1 ?_ ?_ ?_).mono ?_
  · have := HC.out; simp only [AT.cnt] at this ⊢; omega
  · have := HT.out; simp only [AT.tot] at this ⊢; omega
  · have := HK.out; simp only [AT.ht] at this ⊢; omega
  rintro e w2 ⟨rfl, hl2, ho2⟩
  have E2 := Lib.hid (And.intro hl2 ho2)
  clear hl2 ho2
  go_wp2_with fail
  refine (measure_of (b := u) (lp := some ⟨b, 0, none⟩) (rp := qp) (x := y) (l := .node r x m) (r := a) (Fl := b :: (Fl ++ Fm)) (Fr := Fq) ?_ ?_ ?_ ?_).mono ?_
  · obtain ⟨-, f2, f3, f4⟩ := E1.out
    obtain ⟨g1, g2⟩ := E2.out
    obtain ⟨b1, huq, hbu, hum, u3, hqm, qr, -⟩ := HG.out
    exact ⟨⟨_, _, _, (g2.block u (Array.getElem?_eq_some_iff.1 f2).1 (fun e => hbu e.symm)).trans f2⟩, g1, f3.only g2 (fun z hz e => b1 (e ▸ hz)), by simp [hum, u3, Ne.symm hbu], huq, fun z hz => by simp only [List.mem_cons, List.mem_append] at hz; rcases hz with e | hz | hz; exact (e ▸ b1); exact (fun e => qr z e hz); exact hqm z hz⟩
  · have := HC.out; simp only [AT.cnt] at this ⊢; omega
  · have := HT.out; simp only [AT.tot] at this ⊢; omega
  · have := HK.out; simp only [AT.ht] at this ⊢; omega
  rintro e w3 ⟨rfl, hl3, ho3⟩
  have ho : OnlyAt (fun z => z = b ∨ z = u) w w3 := (E1.out.2.2.2.trans (E2.out.2.mono (fun _ h => .inl h))).trans (ho3.mono (fun _ h => .inr h))
  have hB3 := only_cell ho HX.out HN.out.1
  have HP3 := Lib.hid (HP.out.only ho HN.out.2)
  have pc3 := HP3.out.cell
  have pf3 := HP3.out.free
  have HO := Lib.hid ho
  have HL := Lib.hid hl3
  clear ho hl3 ho3
  go_wp2_with fail
  go_end0
  obtain ⟨-, -, -, -, -, -, -, hpn⟩ := HG.out
  have os := (only1 w3 ⟨pb, po, none⟩ (.pointer (some ⟨u, 0, none⟩)))
  refine ⟨rfl, ⟨some ⟨u, 0, none⟩, u :: (b :: (Fl ++ Fm) ++ Fq), HL.out.only os (fun z hz e => hpn ?_), fun z hz => .inl ?_, (SetAt.of_set w3 ⟨pb, po, none⟩ (.pointer (some ⟨u, 0, none⟩)) rfl).before HO.out HN.out.2⟩, (HO.out.mono ?_).trans (os.mono fun z hz => .inl hz)⟩
  · have e : z = pb := e
    rw [← e]
    simp only [List.mem_cons, List.mem_append] at hz ⊢
    rcases hz with e | (e | e | e) | e <;> simp [e]
  · simp only [List.mem_cons, List.mem_append] at hz ⊢
    rcases hz with e | (e | e | e) | e <;> simp [e]
  · rintro z (e | e)
    · exact .inr (.inl (by simp [e]))
    · exact .inr (.inl (by simp [e]))

end Go.Proofs.Ytfdnlbeancdajaa.Avl
