/- A search goes down a tree: its ways, and what it has left on its left side. -/
import Derived.Test.YtfdnlbeancdajaaTTurn
namespace Go.Proofs.Ytfdnlbeancdajaa.Avl
open Go Go.RowKit
attribute [local go_sem] fld0 fld1 fld2 wrap_one wrap_zero

theorem _root_.Go.Proofs.Ytfdnlbeancdajaa.OnlyAt.drew_below (w : World) : Below w.heap.size w w.drew := below_drew (Below.refl _ _)
/-- A search, by what it wants, and how many items, of what size, lie ahead. -/
def SAt (w : World) (sb : Nat) (W A S : Int) : Prop := ∃ H : Int, w.heap[sb]? = some (.cells #[.int .i64 W, .int .i64 A, .int .i64 S, .int .i64 H] 79 (0, 0))
theorem SAt.cells {w : World} {sb : Nat} {W A S : Int} (h : SAt w sb W A S) :
    w.cell? ⟨sb, 0, none⟩ = some (.int .i64 W) ∧ w.cell? ⟨sb, 1, none⟩ = some (.int .i64 A) ∧ w.cell? ⟨sb, 2, none⟩ = some (.int .i64 S) := by
  obtain ⟨H, h⟩ := h
  simp [World.cell?, h]
theorem SAt.free {w : World} {sb : Nat} {W A S : Int} (h : SAt w sb W A S) (o : Nat) : w.frozen? ⟨sb, o, none⟩ = false := by
  obtain ⟨H, h⟩ := h
  simp [World.frozen?, h]
theorem SAt.lt {w : World} {sb : Nat} {W A S : Int} (h : SAt w sb W A S) : sb < w.heap.size := by
  obtain ⟨H, h⟩ := h
  exact (Array.getElem?_eq_some_iff.1 h).1
theorem SAt.only {w w' : World} {sb : Nat} {W A S : Int} {T : Nat → Prop} (h : SAt w sb W A S) (ho : OnlyAt T w w') (hT : ¬ T sb) : SAt w' sb W A S := by
  have hl := h.lt
  obtain ⟨H, h⟩ := h
  exact ⟨H, (ho.block sb hl hT).trans h⟩
theorem SAt.below {w w' : World} {sb : Nat} {W A S : Int} (h : SAt w sb W A S) (hb : Below w.heap.size w w') : SAt w' sb W A S := h.only (OnlyAt.of_below (T := fun _ => False) hb) id
theorem SAt.set {w : World} {sb : Nat} {W A S : Int} (h : SAt w sb W A S) (A' S' : Int) : SAt ((w.setCell ⟨sb, 1, none⟩ (.int .i64 A')).setCell ⟨sb, 2, none⟩ (.int .i64 S')) sb W A' S' := by
  obtain ⟨H, h⟩ := h
  refine ⟨H, ?_⟩
  simp only [World.setCell, Array.getElem?_modify, h]
  simp
theorem SAt.only_set (w : World) (sb : Nat) (A' S' : Int) : OnlyAt (fun z => z = sb) w ((w.setCell ⟨sb, 1, none⟩ (.int .i64 A')).setCell ⟨sb, 2, none⟩ (.int .i64 S')) :=
  (only1 w ⟨sb, 1, none⟩ _).trans (only1 _ ⟨sb, 2, none⟩ _)

set_option maxRecDepth 100000 in
set_option maxHeartbeats 4000000 in
theorem leave_of {w : World} {sb : Nat} {W A S : Int} (h : SAt w sb W A S) (I T H : Int) (hA : 0 ≤ A ∧ A ≤ 1000000) (hS : 0 ≤ S ∧ S ≤ 1000000000000000000) (hI : 0 ≤ I ∧ I ≤ 1000000) (hT : 0 ≤ T ∧ T ≤ 1000000000000000000) :
    Calls Try.prog 68 #[.pointer (some ⟨sb, 0, none⟩), .agg #[.int .i64 I, .int .i64 T, .int .i64 H]] w fun e w' => e = .returned (.tuple #[]) ∧ SAt w' sb W (A + I) (S + T) ∧ OnlyAt (fun z => z = sb) w w' := by
  obtain ⟨wx, hwx⟩ : ∃ wx, wx = w.alloc (.cells #[.int .i64 I, .int .i64 T, .int .i64 H] 77) := ⟨_, rfl⟩
  have hbx : Below w.heap.size w wx := by rw [hwx]; exact (Below.refl _ _).alloc (Nat.le_refl _) _
  have hx := h.below hbx
  obtain ⟨c0, c1, c2⟩ := hx.cells
  have f1 := hx.free 1
  have f2 := hx.free 2
  have hlt := h.lt
  obtain ⟨N, hN⟩ : ∃ N, N = w.heap.size := ⟨_, rfl⟩
  have hne : sb ≠ N := by omega
  have g0 : wx.cell? ⟨N, 0, none⟩ = some (.int .i64 I) := by rw [hwx, hN]; simp only [World.cell?, look_same w _ rfl]; rfl
  have g1 : wx.cell? ⟨N, 1, none⟩ = some (.int .i64 T) := by rw [hwx, hN]; simp only [World.cell?, look_same w _ rfl]; rfl
  have e1 : IntKind.i64.wrap (A + I) = A + I := IntWalk.i64_in _ (by omega)
  have e2 : IntKind.i64.wrap (S + T) = S + T := IntWalk.i64_in _ (by omega)
  have HX := Lib.hid hx
  have HB := Lib.hid hbx
  have HW := Lib.hid hwx
  have HNN := Lib.hid hN
  clear h hbx hx hA hS hI hT hwx hN hlt
  go_enter Try.func68, Try.ntmps68
  go_wp2_with fail
  rw [← HW.out, ← HNN.out]
  go_region
  go_wp2_with fail
  go_region
  go_wp2_with fail
  go_end0
  have hd := (OnlyAt.drew (fun z => z = sb) ((wx.setCell ⟨sb, 1, none⟩ (.int .i64 (A + I))).setCell ⟨sb, 2, none⟩ (.int .i64 (S + T)))).trans (OnlyAt.drew _ _)
  have hd' := (OnlyAt.drew (fun _ => False) ((wx.setCell ⟨sb, 1, none⟩ (.int .i64 (A + I))).setCell ⟨sb, 2, none⟩ (.int .i64 (S + T)))).trans (OnlyAt.drew _ _)
  exact ⟨rfl, (HX.out.set (A + I) (S + T)).only hd' id, ((OnlyAt.of_below HB.out).trans (SAt.only_set wx sb _ _)).trans hd⟩

set_option maxRecDepth 100000 in
set_option maxHeartbeats 4000000 in
theorem pass_of {w : World} {sb : Nat} {W A S : Int} {b : Nat} {lp rp : Option Addr} {x : It} {l r : AT} {Fl Fr : List Nat} (h : SAt w sb W A S) (hn : AtNode w b lp rp x l r Fl Fr) (hs : sb ∉ b :: (Fl ++ Fr))
    (hA : 0 ≤ A ∧ A + l.cnt + 1 ≤ 1000000) (hS : 0 ≤ S ∧ S + l.tot + x.2 ≤ 1000000000000000000) :
    Calls Try.prog 55 #[.pointer (some ⟨sb, 0, none⟩), .pointer (some ⟨b, 0, none⟩)] w fun e w' => e = .returned (.int .i64 1) ∧ SAt w' sb W (A + l.cnt + 1) (S + l.tot + x.2) ∧ OnlyAt (fun z => z = sb) w w' := by
  obtain ⟨c0, c1, c2, c3⟩ := hn.cells
  have HN := Lib.hid hn
  have HS := Lib.hid h
  have CA := Lib.hid (hn.all_left w (Below.refl _ _))
  obtain ⟨C, hC⟩ : ∃ C : Int, C = l.cnt := ⟨_, rfl⟩
  obtain ⟨T, hT⟩ : ∃ T : Int, T = l.tot := ⟨_, rfl⟩
  obtain ⟨X, hX⟩ : ∃ X : Int, X = x.2 := ⟨_, rfl⟩
  obtain ⟨H, hH⟩ : ∃ H : Int, H = l.ht := ⟨_, rfl⟩
  rw [← hC, ← hT, ← hH] at CA
  rw [← hC] at hA
  rw [← hT, ← hX] at hS
  rw [← hX] at c3
  have HA := Lib.hid (And.intro hA (And.intro hS (show 0 ≤ C ∧ 0 ≤ T ∧ 0 ≤ X by omega)))
  have hsb : ∀ z ∈ b :: (Fl ++ Fr), ¬ z = sb := fun z hz e => hs (e ▸ hz)
  have HSB := Lib.hid hsb
  rw [← hC, ← hT, ← hX]
  clear h hn hA hS hs hsb hC hT hX hH c1 c2
  go_enter Try.func55, Try.ntmps55
  go_wp2_with fail
  refine CA.out.mono ?_
  rintro e w2 ⟨rfl, hb2⟩
  have B2 := Lib.hid hb2
  clear hb2
  go_wp2_with fail
  refine (leave_of (HS.out.below B2.out) C T H ?_ ?_ ?_ ?_).mono ?_
  · have := HA.out; omega
  · have := HA.out; omega
  · have := HA.out; omega
  · have := HA.out; omega
  rintro e w3 ⟨rfl, hs3, ho3⟩
  have n3 := HN.out.below B2.out
  have c33 : w3.cell? ⟨b, 3, none⟩ = some (.int .i64 X) := by
    have := only_cell ho3 (((n3.cells).2.2.2)) (HSB.out b (by simp))
    rw [this]
    have h0 := HN.out.cells.2.2.2
    rw [c3] at h0
    exact h0.symm
  have HS3 := Lib.hid hs3
  have HO3 := Lib.hid ho3
  clear hs3 ho3 n3 c3
  go_wp2_with fail
  refine (leave_of HS3.out 1 X 0 ?_ ?_ ?_ ?_).mono ?_
  · have := HA.out; omega
  · have := HA.out; omega
  · have := HA.out; omega
  · have := HA.out; omega
  rintro e w4 ⟨rfl, hs4, ho4⟩
  have HS4 := Lib.hid hs4
  have HO4 := Lib.hid (((OnlyAt.of_below B2.out).trans HO3.out).trans ho4)
  clear hs4 ho4
  go_wp2_with fail
  go_ret
  exact ⟨rfl, HS4.out, HO4.out⟩
set_option maxRecDepth 100000 in
set_option maxHeartbeats 4000000 in
theorem gap_left {w : World} {sb : Nat} {W A S : Int} {b : Nat} {lp rp : Option Addr} {x : It} {l r : AT} {Fl Fr : List Nat} (h : SAt w sb W A S) (hn : AtNode w b lp rp x l r Fl Fr) (hs : sb ∉ b :: (Fl ++ Fr))
    (hA : 0 ≤ A ∧ A + l.cnt + 1 ≤ 1000000) (hS : 0 ≤ S ∧ S + l.tot + x.2 ≤ 1000000000000000000) (hW : W ≤ A + l.cnt) :
    Calls Try.prog 37 #[.pointer (some ⟨sb, 0, none⟩), .pointer (some ⟨b, 0, none⟩)] w fun e w' => e = .returned (.int .i64 0) ∧ SAt w' sb W (A) (S) ∧ OnlyAt (fun z => z = sb) w w' := by
  obtain ⟨c0, c1, c2, c3⟩ := hn.cells
  obtain ⟨d0, d1, d2⟩ := h.cells
  have hlt := hn.lt
  have hls := h.lt
  have HN := Lib.hid hn
  have HS := Lib.hid h
  obtain ⟨C, hC⟩ : ∃ C : Int, C = l.cnt := ⟨_, rfl⟩
  obtain ⟨T, hT⟩ : ∃ T : Int, T = l.tot := ⟨_, rfl⟩
  obtain ⟨X, hX⟩ : ∃ X : Int, X = x.2 := ⟨_, rfl⟩
  have CA : ∀ wx, (wx.cell? ⟨b, 0, none⟩ = some (.pointer lp) ∧ wx.cell? ⟨sb, 0, none⟩ = some (.int .i64 W) ∧ wx.cell? ⟨sb, 1, none⟩ = some (.int .i64 A) ∧ Hid (Below w.heap.size w wx)) →
      Calls Try.prog 53 #[.pointer lp] wx fun e w' => e = .returned (.agg #[.int .i64 l.cnt, .int .i64 l.tot, .int .i64 l.ht]) ∧
        (w'.cell? ⟨b, 0, none⟩ = some (.pointer lp) ∧ w'.cell? ⟨sb, 0, none⟩ = some (.int .i64 W) ∧ w'.cell? ⟨sb, 1, none⟩ = some (.int .i64 A) ∧ Hid (Below w.heap.size w w')) :=
    fun wx hx => (hn.all_left wx hx.2.2.2.out).mono fun e w' ⟨he, hb⟩ => ⟨he, (hb.cell (p := ⟨b, _, none⟩) hlt).trans c0, (hb.cell (p := ⟨sb, _, none⟩) hls).trans d0, (hb.cell (p := ⟨sb, _, none⟩) hls).trans d1, Lib.hid hb⟩
  have HD := Lib.hid (show w.drew.cell? ⟨b, 0, none⟩ = some (.pointer lp) ∧ w.drew.cell? ⟨sb, 0, none⟩ = some (.int .i64 W) ∧ w.drew.cell? ⟨sb, 1, none⟩ = some (.int .i64 A) ∧ Hid (Below w.heap.size w w.drew) from
    ⟨c0, d0, d1, Lib.hid (below_drew (Below.refl _ _))⟩)
  have HA := Lib.hid hA
  have HT := Lib.hid hS
  have HSB := Lib.hid hs
  rw [← hC] at hA hW
  rw [← hT, ← hX] at hS
  rw [← hC, ← hT] at CA
  have hC0 : 0 ≤ C := by omega
  have hT0 : 0 ≤ T := by omega
  have hX0 : 0 ≤ X := by omega
  have CAL := Lib.hid CA
  have hw : IntKind.i64.wrap (A + C) = A + C := IntWalk.i64_in _ (by omega)
  have hcv : W ≤ A + C := by omega
  have HC := Lib.hid (And.intro hC (And.intro hT hX))
  
  clear h hn hA hS hs hC hT hX c1 c2 c3 d1 d2 CA hlt hls
  go_enter Try.func37, Try.ntmps37
  go_wp2_with fail
  go_region_held3 (fun wx => wx.cell? ⟨b, 0, none⟩ = some (.pointer lp) ∧ wx.cell? ⟨sb, 0, none⟩ = some (.int .i64 W) ∧ wx.cell? ⟨sb, 1, none⟩ = some (.int .i64 A) ∧ Hid (Below w.heap.size w wx))
    (first | exact HD.out | assumption)
    (first
      | (go_at_call_of 53 (Value.pointer lp); refine (CAL.out _ (by assumption)).mono ?_; rintro e w2 ⟨rfl, hs2⟩))
  have hb2 := hs2.2.2.2
  obtain ⟨e0, e1, e2, -⟩ := hs2
  have HS2 := Lib.hid (HS.out.below hb2.out)
  have HN2 := Lib.hid (HN.out.below hb2.out)
  clear c0 d0
  go_wp2_with fail
  go_ret
  exact ⟨rfl, HS2.out, OnlyAt.of_below hb2.out⟩

set_option maxRecDepth 100000 in
set_option maxHeartbeats 4000000 in
theorem gap_right {w : World} {sb : Nat} {W A S : Int} {b : Nat} {lp rp : Option Addr} {x : It} {l r : AT} {Fl Fr : List Nat} (h : SAt w sb W A S) (hn : AtNode w b lp rp x l r Fl Fr) (hs : sb ∉ b :: (Fl ++ Fr))
    (hA : 0 ≤ A ∧ A + l.cnt + 1 ≤ 1000000) (hS : 0 ≤ S ∧ S + l.tot + x.2 ≤ 1000000000000000000) (hW : A + l.cnt < W) :
    Calls Try.prog 37 #[.pointer (some ⟨sb, 0, none⟩), .pointer (some ⟨b, 0, none⟩)] w fun e w' => e = .returned (.int .i64 1) ∧ SAt w' sb W (A + l.cnt + 1) (S + l.tot + x.2) ∧ OnlyAt (fun z => z = sb) w w' := by
  obtain ⟨c0, c1, c2, c3⟩ := hn.cells
  obtain ⟨d0, d1, d2⟩ := h.cells
  have hlt := hn.lt
  have hls := h.lt
  have HN := Lib.hid hn
  have HS := Lib.hid h
  obtain ⟨C, hC⟩ : ∃ C : Int, C = l.cnt := ⟨_, rfl⟩
  obtain ⟨T, hT⟩ : ∃ T : Int, T = l.tot := ⟨_, rfl⟩
  obtain ⟨X, hX⟩ : ∃ X : Int, X = x.2 := ⟨_, rfl⟩
  have CA : ∀ wx, (wx.cell? ⟨b, 0, none⟩ = some (.pointer lp) ∧ wx.cell? ⟨sb, 0, none⟩ = some (.int .i64 W) ∧ wx.cell? ⟨sb, 1, none⟩ = some (.int .i64 A) ∧ Hid (Below w.heap.size w wx)) →
      Calls Try.prog 53 #[.pointer lp] wx fun e w' => e = .returned (.agg #[.int .i64 l.cnt, .int .i64 l.tot, .int .i64 l.ht]) ∧
        (w'.cell? ⟨b, 0, none⟩ = some (.pointer lp) ∧ w'.cell? ⟨sb, 0, none⟩ = some (.int .i64 W) ∧ w'.cell? ⟨sb, 1, none⟩ = some (.int .i64 A) ∧ Hid (Below w.heap.size w w')) :=
    fun wx hx => (hn.all_left wx hx.2.2.2.out).mono fun e w' ⟨he, hb⟩ => ⟨he, (hb.cell (p := ⟨b, _, none⟩) hlt).trans c0, (hb.cell (p := ⟨sb, _, none⟩) hls).trans d0, (hb.cell (p := ⟨sb, _, none⟩) hls).trans d1, Lib.hid hb⟩
  have HD := Lib.hid (show w.drew.cell? ⟨b, 0, none⟩ = some (.pointer lp) ∧ w.drew.cell? ⟨sb, 0, none⟩ = some (.int .i64 W) ∧ w.drew.cell? ⟨sb, 1, none⟩ = some (.int .i64 A) ∧ Hid (Below w.heap.size w w.drew) from
    ⟨c0, d0, d1, Lib.hid (below_drew (Below.refl _ _))⟩)
  have HA := Lib.hid hA
  have HT := Lib.hid hS
  have HSB := Lib.hid hs
  rw [← hC] at hA hW
  rw [← hT, ← hX] at hS
  rw [← hC, ← hT] at CA
  have hC0 : 0 ≤ C := by omega
  have hT0 : 0 ≤ T := by omega
  have hX0 : 0 ≤ X := by omega
  have CAL := Lib.hid CA
  have hw : IntKind.i64.wrap (A + C) = A + C := IntWalk.i64_in _ (by omega)
  have hcv : A + C < W := by omega
  have HC := Lib.hid (And.intro hC (And.intro hT hX))
  
  clear h hn hA hS hs hC hT hX c1 c2 c3 d1 d2 CA hlt hls
  go_enter Try.func37, Try.ntmps37
  go_wp2_with fail
  go_region_held3 (fun wx => wx.cell? ⟨b, 0, none⟩ = some (.pointer lp) ∧ wx.cell? ⟨sb, 0, none⟩ = some (.int .i64 W) ∧ wx.cell? ⟨sb, 1, none⟩ = some (.int .i64 A) ∧ Hid (Below w.heap.size w wx))
    (first | exact HD.out | assumption)
    (first
      | (go_at_call_of 53 (Value.pointer lp); refine (CAL.out _ (by assumption)).mono ?_; rintro e w2 ⟨rfl, hs2⟩))
  have hb2 := hs2.2.2.2
  obtain ⟨e0, e1, e2, -⟩ := hs2
  have HS2 := Lib.hid (HS.out.below hb2.out)
  have HN2 := Lib.hid (HN.out.below hb2.out)
  clear c0 d0
  go_wp2_with fail
  refine (pass_of HS2.out HN2.out HSB.out HA.out HT.out).mono ?_
  rintro e w3 ⟨rfl, hs3, ho3⟩
  have HS3 := Lib.hid hs3
  have HO3 := Lib.hid ho3
  clear hs3 ho3
  go_wp2_with fail
  go_ret
  exact ⟨rfl, HS3.out, (OnlyAt.of_below hb2.out).trans HO3.out⟩

set_option maxRecDepth 100000 in
set_option maxHeartbeats 4000000 in
theorem place_left {w : World} {sb : Nat} {W A S : Int} {b : Nat} {lp rp : Option Addr} {x : It} {l r : AT} {Fl Fr : List Nat} (h : SAt w sb W A S) (hn : AtNode w b lp rp x l r Fl Fr) (hs : sb ∉ b :: (Fl ++ Fr))
    (hA : 0 ≤ A ∧ A + l.cnt + 1 ≤ 1000000) (hS : 0 ≤ S ∧ S + l.tot + x.2 ≤ 1000000000000000000) (hW : W < A + l.cnt) :
    Calls Try.prog 63 #[.pointer (some ⟨sb, 0, none⟩), .pointer (some ⟨b, 0, none⟩)] w fun e w' => e = .returned (.int .i64 0) ∧ SAt w' sb W (A) (S) ∧ OnlyAt (fun z => z = sb) w w' := by
  obtain ⟨c0, c1, c2, c3⟩ := hn.cells
  obtain ⟨d0, d1, d2⟩ := h.cells
  have hlt := hn.lt
  have hls := h.lt
  have HN := Lib.hid hn
  have HS := Lib.hid h
  obtain ⟨C, hC⟩ : ∃ C : Int, C = l.cnt := ⟨_, rfl⟩
  obtain ⟨T, hT⟩ : ∃ T : Int, T = l.tot := ⟨_, rfl⟩
  obtain ⟨X, hX⟩ : ∃ X : Int, X = x.2 := ⟨_, rfl⟩
  have CA : ∀ wx, (wx.cell? ⟨b, 0, none⟩ = some (.pointer lp) ∧ wx.cell? ⟨sb, 0, none⟩ = some (.int .i64 W) ∧ wx.cell? ⟨sb, 1, none⟩ = some (.int .i64 A) ∧ Hid (Below w.heap.size w wx)) →
      Calls Try.prog 53 #[.pointer lp] wx fun e w' => e = .returned (.agg #[.int .i64 l.cnt, .int .i64 l.tot, .int .i64 l.ht]) ∧
        (w'.cell? ⟨b, 0, none⟩ = some (.pointer lp) ∧ w'.cell? ⟨sb, 0, none⟩ = some (.int .i64 W) ∧ w'.cell? ⟨sb, 1, none⟩ = some (.int .i64 A) ∧ Hid (Below w.heap.size w w')) :=
    fun wx hx => (hn.all_left wx hx.2.2.2.out).mono fun e w' ⟨he, hb⟩ => ⟨he, (hb.cell (p := ⟨b, _, none⟩) hlt).trans c0, (hb.cell (p := ⟨sb, _, none⟩) hls).trans d0, (hb.cell (p := ⟨sb, _, none⟩) hls).trans d1, Lib.hid hb⟩
  have HD := Lib.hid (show w.drew.cell? ⟨b, 0, none⟩ = some (.pointer lp) ∧ w.drew.cell? ⟨sb, 0, none⟩ = some (.int .i64 W) ∧ w.drew.cell? ⟨sb, 1, none⟩ = some (.int .i64 A) ∧ Hid (Below w.heap.size w w.drew) from
    ⟨c0, d0, d1, Lib.hid (below_drew (Below.refl _ _))⟩)
  have HA := Lib.hid hA
  have HT := Lib.hid hS
  have HSB := Lib.hid hs
  rw [← hC] at hA hW
  rw [← hT, ← hX] at hS
  rw [← hC, ← hT] at CA
  have hC0 : 0 ≤ C := by omega
  have hT0 : 0 ≤ T := by omega
  have hX0 : 0 ≤ X := by omega
  have CAL := Lib.hid CA
  have hw : IntKind.i64.wrap (A + C) = A + C := IntWalk.i64_in _ (by omega)
  have hcv : W < A + C := by omega
  have HC := Lib.hid (And.intro hC (And.intro hT hX))
  
  clear h hn hA hS hs hC hT hX c1 c2 c3 d1 d2 CA hlt hls
  go_enter Try.func63, Try.ntmps63
  go_wp2_with fail
  go_region_held3 (fun wx => wx.cell? ⟨b, 0, none⟩ = some (.pointer lp) ∧ wx.cell? ⟨sb, 0, none⟩ = some (.int .i64 W) ∧ wx.cell? ⟨sb, 1, none⟩ = some (.int .i64 A) ∧ Hid (Below w.heap.size w wx))
    (first | exact HD.out | assumption)
    (first
      | (go_at_call_of 53 (Value.pointer lp); refine (CAL.out _ (by assumption)).mono ?_; rintro e w2 ⟨rfl, hs2⟩))
  have hb2 := hs2.2.2.2
  obtain ⟨e0, e1, e2, -⟩ := hs2
  have HS2 := Lib.hid (HS.out.below hb2.out)
  have HN2 := Lib.hid (HN.out.below hb2.out)
  clear c0 d0
  go_wp2_with fail
  go_ret
  exact ⟨rfl, HS2.out, OnlyAt.of_below hb2.out⟩

set_option maxRecDepth 100000 in
set_option maxHeartbeats 4000000 in
theorem place_here {w : World} {sb : Nat} {W A S : Int} {b : Nat} {lp rp : Option Addr} {x : It} {l r : AT} {Fl Fr : List Nat} (h : SAt w sb W A S) (hn : AtNode w b lp rp x l r Fl Fr) (hs : sb ∉ b :: (Fl ++ Fr))
    (hA : 0 ≤ A ∧ A + l.cnt + 1 ≤ 1000000) (hS : 0 ≤ S ∧ S + l.tot + x.2 ≤ 1000000000000000000) (hW : W = A + l.cnt) :
    Calls Try.prog 63 #[.pointer (some ⟨sb, 0, none⟩), .pointer (some ⟨b, 0, none⟩)] w fun e w' => e = .returned (.int .i64 2) ∧ SAt w' sb W (A) (S) ∧ OnlyAt (fun z => z = sb) w w' := by
  obtain ⟨c0, c1, c2, c3⟩ := hn.cells
  obtain ⟨d0, d1, d2⟩ := h.cells
  have hlt := hn.lt
  have hls := h.lt
  have HN := Lib.hid hn
  have HS := Lib.hid h
  obtain ⟨C, hC⟩ : ∃ C : Int, C = l.cnt := ⟨_, rfl⟩
  obtain ⟨T, hT⟩ : ∃ T : Int, T = l.tot := ⟨_, rfl⟩
  obtain ⟨X, hX⟩ : ∃ X : Int, X = x.2 := ⟨_, rfl⟩
  have CA : ∀ wx, (wx.cell? ⟨b, 0, none⟩ = some (.pointer lp) ∧ wx.cell? ⟨sb, 0, none⟩ = some (.int .i64 W) ∧ wx.cell? ⟨sb, 1, none⟩ = some (.int .i64 A) ∧ Hid (Below w.heap.size w wx)) →
      Calls Try.prog 53 #[.pointer lp] wx fun e w' => e = .returned (.agg #[.int .i64 l.cnt, .int .i64 l.tot, .int .i64 l.ht]) ∧
        (w'.cell? ⟨b, 0, none⟩ = some (.pointer lp) ∧ w'.cell? ⟨sb, 0, none⟩ = some (.int .i64 W) ∧ w'.cell? ⟨sb, 1, none⟩ = some (.int .i64 A) ∧ Hid (Below w.heap.size w w')) :=
    fun wx hx => (hn.all_left wx hx.2.2.2.out).mono fun e w' ⟨he, hb⟩ => ⟨he, (hb.cell (p := ⟨b, _, none⟩) hlt).trans c0, (hb.cell (p := ⟨sb, _, none⟩) hls).trans d0, (hb.cell (p := ⟨sb, _, none⟩) hls).trans d1, Lib.hid hb⟩
  have HD := Lib.hid (show w.drew.cell? ⟨b, 0, none⟩ = some (.pointer lp) ∧ w.drew.cell? ⟨sb, 0, none⟩ = some (.int .i64 W) ∧ w.drew.cell? ⟨sb, 1, none⟩ = some (.int .i64 A) ∧ Hid (Below w.heap.size w w.drew) from
    ⟨c0, d0, d1, Lib.hid (below_drew (Below.refl _ _))⟩)
  have HA := Lib.hid hA
  have HT := Lib.hid hS
  have HSB := Lib.hid hs
  rw [← hC] at hA hW
  rw [← hT, ← hX] at hS
  rw [← hC, ← hT] at CA
  have hC0 : 0 ≤ C := by omega
  have hT0 : 0 ≤ T := by omega
  have hX0 : 0 ≤ X := by omega
  have CAL := Lib.hid CA
  have hw : IntKind.i64.wrap (A + C) = A + C := IntWalk.i64_in _ (by omega)
  have hcv : W = A + C := by omega
  have HC := Lib.hid (And.intro hC (And.intro hT hX))
  
  clear h hn hA hS hs hC hT hX c1 c2 c3 d1 d2 CA hlt hls
  go_enter Try.func63, Try.ntmps63
  go_wp2_with fail
  go_region_held3 (fun wx => wx.cell? ⟨b, 0, none⟩ = some (.pointer lp) ∧ wx.cell? ⟨sb, 0, none⟩ = some (.int .i64 W) ∧ wx.cell? ⟨sb, 1, none⟩ = some (.int .i64 A) ∧ Hid (Below w.heap.size w wx))
    (first | exact HD.out | assumption)
    (first
      | (go_at_call_of 53 (Value.pointer lp); refine (CAL.out _ (by assumption)).mono ?_; rintro e w2 ⟨rfl, hs2⟩))
  have hb2 := hs2.2.2.2
  obtain ⟨e0, e1, e2, -⟩ := hs2
  have HS2 := Lib.hid (HS.out.below hb2.out)
  have HN2 := Lib.hid (HN.out.below hb2.out)
  clear c0 d0
  go_wp2_with fail
  go_ret
  exact ⟨rfl, HS2.out, OnlyAt.of_below hb2.out⟩

set_option maxRecDepth 100000 in
set_option maxHeartbeats 4000000 in
theorem place_right {w : World} {sb : Nat} {W A S : Int} {b : Nat} {lp rp : Option Addr} {x : It} {l r : AT} {Fl Fr : List Nat} (h : SAt w sb W A S) (hn : AtNode w b lp rp x l r Fl Fr) (hs : sb ∉ b :: (Fl ++ Fr))
    (hA : 0 ≤ A ∧ A + l.cnt + 1 ≤ 1000000) (hS : 0 ≤ S ∧ S + l.tot + x.2 ≤ 1000000000000000000) (hW : A + l.cnt < W) :
    Calls Try.prog 63 #[.pointer (some ⟨sb, 0, none⟩), .pointer (some ⟨b, 0, none⟩)] w fun e w' => e = .returned (.int .i64 1) ∧ SAt w' sb W (A + l.cnt + 1) (S + l.tot + x.2) ∧ OnlyAt (fun z => z = sb) w w' := by
  obtain ⟨c0, c1, c2, c3⟩ := hn.cells
  obtain ⟨d0, d1, d2⟩ := h.cells
  have hlt := hn.lt
  have hls := h.lt
  have HN := Lib.hid hn
  have HS := Lib.hid h
  obtain ⟨C, hC⟩ : ∃ C : Int, C = l.cnt := ⟨_, rfl⟩
  obtain ⟨T, hT⟩ : ∃ T : Int, T = l.tot := ⟨_, rfl⟩
  obtain ⟨X, hX⟩ : ∃ X : Int, X = x.2 := ⟨_, rfl⟩
  have CA : ∀ wx, (wx.cell? ⟨b, 0, none⟩ = some (.pointer lp) ∧ wx.cell? ⟨sb, 0, none⟩ = some (.int .i64 W) ∧ wx.cell? ⟨sb, 1, none⟩ = some (.int .i64 A) ∧ Hid (Below w.heap.size w wx)) →
      Calls Try.prog 53 #[.pointer lp] wx fun e w' => e = .returned (.agg #[.int .i64 l.cnt, .int .i64 l.tot, .int .i64 l.ht]) ∧
        (w'.cell? ⟨b, 0, none⟩ = some (.pointer lp) ∧ w'.cell? ⟨sb, 0, none⟩ = some (.int .i64 W) ∧ w'.cell? ⟨sb, 1, none⟩ = some (.int .i64 A) ∧ Hid (Below w.heap.size w w')) :=
    fun wx hx => (hn.all_left wx hx.2.2.2.out).mono fun e w' ⟨he, hb⟩ => ⟨he, (hb.cell (p := ⟨b, _, none⟩) hlt).trans c0, (hb.cell (p := ⟨sb, _, none⟩) hls).trans d0, (hb.cell (p := ⟨sb, _, none⟩) hls).trans d1, Lib.hid hb⟩
  have HD := Lib.hid (show w.drew.cell? ⟨b, 0, none⟩ = some (.pointer lp) ∧ w.drew.cell? ⟨sb, 0, none⟩ = some (.int .i64 W) ∧ w.drew.cell? ⟨sb, 1, none⟩ = some (.int .i64 A) ∧ Hid (Below w.heap.size w w.drew) from
    ⟨c0, d0, d1, Lib.hid (below_drew (Below.refl _ _))⟩)
  have HA := Lib.hid hA
  have HT := Lib.hid hS
  have HSB := Lib.hid hs
  rw [← hC] at hA hW
  rw [← hT, ← hX] at hS
  rw [← hC, ← hT] at CA
  have hC0 : 0 ≤ C := by omega
  have hT0 : 0 ≤ T := by omega
  have hX0 : 0 ≤ X := by omega
  have CAL := Lib.hid CA
  have hw : IntKind.i64.wrap (A + C) = A + C := IntWalk.i64_in _ (by omega)
  have hcv : A + C < W := by omega
  have HC := Lib.hid (And.intro hC (And.intro hT hX))
  
  clear h hn hA hS hs hC hT hX c1 c2 c3 d1 d2 CA hlt hls
  go_enter Try.func63, Try.ntmps63
  go_wp2_with fail
  go_region_held3 (fun wx => wx.cell? ⟨b, 0, none⟩ = some (.pointer lp) ∧ wx.cell? ⟨sb, 0, none⟩ = some (.int .i64 W) ∧ wx.cell? ⟨sb, 1, none⟩ = some (.int .i64 A) ∧ Hid (Below w.heap.size w wx))
    (first | exact HD.out | assumption)
    (first
      | (go_at_call_of 53 (Value.pointer lp); refine (CAL.out _ (by assumption)).mono ?_; rintro e w2 ⟨rfl, hs2⟩))
  have hb2 := hs2.2.2.2
  obtain ⟨e0, e1, e2, -⟩ := hs2
  have HS2 := Lib.hid (HS.out.below hb2.out)
  have HN2 := Lib.hid (HN.out.below hb2.out)
  clear c0 d0
  go_wp2_with fail
  refine (pass_of HS2.out HN2.out HSB.out HA.out HT.out).mono ?_
  rintro e w3 ⟨rfl, hs3, ho3⟩
  have HS3 := Lib.hid hs3
  have HO3 := Lib.hid ho3
  clear hs3 ho3
  go_wp2_with fail
  go_ret
  exact ⟨rfl, HS3.out, (OnlyAt.of_below hb2.out).trans HO3.out⟩

set_option maxRecDepth 100000 in
set_option maxHeartbeats 4000000 in
theorem end_left {w : World} {sb : Nat} {W A S : Int} {b : Nat} {lp rp : Option Addr} {x : It} {l r : AT} {Fl Fr : List Nat} (h : SAt w sb W A S) (hn : AtNode w b lp rp x l r Fl Fr) (hs : sb ∉ b :: (Fl ++ Fr))
    (hA : 0 ≤ A ∧ A + l.cnt + 1 ≤ 1000000) (hS : 0 ≤ S ∧ S + l.tot + x.2 ≤ 1000000000000000000) (hW : W < S + l.tot) :
    Calls Try.prog 62 #[.pointer (some ⟨sb, 0, none⟩), .pointer (some ⟨b, 0, none⟩)] w fun e w' => e = .returned (.int .i64 0) ∧ SAt w' sb W (A) (S) ∧ OnlyAt (fun z => z = sb) w w' := by
  obtain ⟨c0, c1, c2, c3⟩ := hn.cells
  obtain ⟨d0, d1, d2⟩ := h.cells
  have hlt := hn.lt
  have hls := h.lt
  have HN := Lib.hid hn
  have HS := Lib.hid h
  obtain ⟨C, hC⟩ : ∃ C : Int, C = l.cnt := ⟨_, rfl⟩
  obtain ⟨T, hT⟩ : ∃ T : Int, T = l.tot := ⟨_, rfl⟩
  obtain ⟨X, hX⟩ : ∃ X : Int, X = x.2 := ⟨_, rfl⟩
  have CA : ∀ wx, (wx.cell? ⟨b, 0, none⟩ = some (.pointer lp) ∧ wx.cell? ⟨sb, 0, none⟩ = some (.int .i64 W) ∧ wx.cell? ⟨sb, 2, none⟩ = some (.int .i64 S) ∧ Hid (Below w.heap.size w wx)) →
      Calls Try.prog 53 #[.pointer lp] wx fun e w' => e = .returned (.agg #[.int .i64 l.cnt, .int .i64 l.tot, .int .i64 l.ht]) ∧
        (w'.cell? ⟨b, 0, none⟩ = some (.pointer lp) ∧ w'.cell? ⟨sb, 0, none⟩ = some (.int .i64 W) ∧ w'.cell? ⟨sb, 2, none⟩ = some (.int .i64 S) ∧ Hid (Below w.heap.size w w')) :=
    fun wx hx => (hn.all_left wx hx.2.2.2.out).mono fun e w' ⟨he, hb⟩ => ⟨he, (hb.cell (p := ⟨b, _, none⟩) hlt).trans c0, (hb.cell (p := ⟨sb, _, none⟩) hls).trans d0, (hb.cell (p := ⟨sb, _, none⟩) hls).trans d2, Lib.hid hb⟩
  have HD := Lib.hid (show w.drew.cell? ⟨b, 0, none⟩ = some (.pointer lp) ∧ w.drew.cell? ⟨sb, 0, none⟩ = some (.int .i64 W) ∧ w.drew.cell? ⟨sb, 2, none⟩ = some (.int .i64 S) ∧ Hid (Below w.heap.size w w.drew) from
    ⟨c0, d0, d2, Lib.hid (below_drew (Below.refl _ _))⟩)
  have HA := Lib.hid hA
  have HT := Lib.hid hS
  have HSB := Lib.hid hs
  rw [← hC] at hA
  rw [← hT] at hW
  rw [← hT, ← hX] at hS
  rw [← hC, ← hT] at CA
  have hC0 : 0 ≤ C := by omega
  have hT0 : 0 ≤ T := by omega
  have hX0 : 0 ≤ X := by omega
  have CAL := Lib.hid CA
  have hw : IntKind.i64.wrap (S + T) = S + T := IntWalk.i64_in _ (by omega)
  have hcv : W < S + T := by omega
  have HC := Lib.hid (And.intro hC (And.intro hT hX))
  
  clear h hn hA hS hs hC hT hX c1 c2 c3 d1 d2 CA hlt hls
  go_enter Try.func62, Try.ntmps62
  go_wp2_with fail
  go_region_held3 (fun wx => wx.cell? ⟨b, 0, none⟩ = some (.pointer lp) ∧ wx.cell? ⟨sb, 0, none⟩ = some (.int .i64 W) ∧ wx.cell? ⟨sb, 2, none⟩ = some (.int .i64 S) ∧ Hid (Below w.heap.size w wx))
    (first | exact HD.out | assumption)
    (first
      | (go_at_call_of 53 (Value.pointer lp); refine (CAL.out _ (by assumption)).mono ?_; rintro e w2 ⟨rfl, hs2⟩))
  have hb2 := hs2.2.2.2
  obtain ⟨e0, e1, e2, -⟩ := hs2
  have HS2 := Lib.hid (HS.out.below hb2.out)
  have HN2 := Lib.hid (HN.out.below hb2.out)
  clear c0 d0
  go_wp2_with fail
  go_ret
  exact ⟨rfl, HS2.out, OnlyAt.of_below hb2.out⟩

set_option maxRecDepth 100000 in
set_option maxHeartbeats 4000000 in
theorem end_here {w : World} {sb : Nat} {W A S : Int} {b : Nat} {lp rp : Option Addr} {x : It} {l r : AT} {Fl Fr : List Nat} (h : SAt w sb W A S) (hn : AtNode w b lp rp x l r Fl Fr) (hs : sb ∉ b :: (Fl ++ Fr))
    (hA : 0 ≤ A ∧ A + l.cnt + 1 ≤ 1000000) (hS : 0 ≤ S ∧ S + l.tot + x.2 ≤ 1000000000000000000) (hW : S + l.tot ≤ W ∧ W < S + l.tot + x.2) :
    Calls Try.prog 62 #[.pointer (some ⟨sb, 0, none⟩), .pointer (some ⟨b, 0, none⟩)] w fun e w' => e = .returned (.int .i64 2) ∧ SAt w' sb W (A + l.cnt) (S + l.tot) ∧ OnlyAt (fun z => z = sb) w w' := by
  obtain ⟨c0, c1, c2, c3⟩ := hn.cells
  obtain ⟨d0, d1, d2⟩ := h.cells
  have hlt := hn.lt
  have hls := h.lt
  have HN := Lib.hid hn
  have HS := Lib.hid h
  obtain ⟨C, hC⟩ : ∃ C : Int, C = l.cnt := ⟨_, rfl⟩
  obtain ⟨T, hT⟩ : ∃ T : Int, T = l.tot := ⟨_, rfl⟩
  obtain ⟨X, hX⟩ : ∃ X : Int, X = x.2 := ⟨_, rfl⟩
  have CA : ∀ wx, (wx.cell? ⟨b, 0, none⟩ = some (.pointer lp) ∧ wx.cell? ⟨sb, 0, none⟩ = some (.int .i64 W) ∧ wx.cell? ⟨sb, 2, none⟩ = some (.int .i64 S) ∧ Hid (Below w.heap.size w wx)) →
      Calls Try.prog 53 #[.pointer lp] wx fun e w' => e = .returned (.agg #[.int .i64 l.cnt, .int .i64 l.tot, .int .i64 l.ht]) ∧
        (w'.cell? ⟨b, 0, none⟩ = some (.pointer lp) ∧ w'.cell? ⟨sb, 0, none⟩ = some (.int .i64 W) ∧ w'.cell? ⟨sb, 2, none⟩ = some (.int .i64 S) ∧ Hid (Below w.heap.size w w')) :=
    fun wx hx => (hn.all_left wx hx.2.2.2.out).mono fun e w' ⟨he, hb⟩ => ⟨he, (hb.cell (p := ⟨b, _, none⟩) hlt).trans c0, (hb.cell (p := ⟨sb, _, none⟩) hls).trans d0, (hb.cell (p := ⟨sb, _, none⟩) hls).trans d2, Lib.hid hb⟩
  have HD := Lib.hid (show w.drew.cell? ⟨b, 0, none⟩ = some (.pointer lp) ∧ w.drew.cell? ⟨sb, 0, none⟩ = some (.int .i64 W) ∧ w.drew.cell? ⟨sb, 2, none⟩ = some (.int .i64 S) ∧ Hid (Below w.heap.size w w.drew) from
    ⟨c0, d0, d2, Lib.hid (below_drew (Below.refl _ _))⟩)
  have HA := Lib.hid hA
  have HT := Lib.hid hS
  have HSB := Lib.hid hs
  rw [← hC] at hA
  rw [← hT, ← hX] at hS
  rw [← hT, ← hX] at hW
  rw [← hC, ← hT] at CA
  have hC0 : 0 ≤ C := by omega
  have hT0 : 0 ≤ T := by omega
  have hX0 : 0 ≤ X := by omega
  have CAL := Lib.hid CA
  have hw2 : IntKind.i64.wrap (S + T + X) = S + T + X := IntWalk.i64_in _ (by omega)
  have hw : IntKind.i64.wrap (S + T) = S + T := IntWalk.i64_in _ (by omega)
  have hcv : S + T ≤ W ∧ W < S + T + X := by omega
  have HC := Lib.hid (And.intro hC (And.intro hT hX))
  have hv1 : S + T ≤ W := by omega
  have hv2 : W < S + T + X := by omega
  have hvb := Lib.hid (And.intro hC0 (And.intro hT0 (And.intro hX0 (And.intro hA hS))))
  
  clear h hn hA hS hs hC hT hX c1 c2 c3 d1 d2 CA hlt hls
  go_enter Try.func62, Try.ntmps62
  go_wp2_with fail
  go_region_held3 (fun wx => wx.cell? ⟨b, 0, none⟩ = some (.pointer lp) ∧ wx.cell? ⟨sb, 0, none⟩ = some (.int .i64 W) ∧ wx.cell? ⟨sb, 2, none⟩ = some (.int .i64 S) ∧ Hid (Below w.heap.size w wx))
    (first | exact HD.out | assumption)
    (first
      | (go_at_call_of 53 (Value.pointer lp); refine (CAL.out _ (by assumption)).mono ?_; rintro e w2 ⟨rfl, hs2⟩))
  have hb2 := hs2.2.2.2
  obtain ⟨e0, e1, e2, -⟩ := hs2
  have HS2 := Lib.hid (HS.out.below hb2.out)
  have HN2 := Lib.hid (HN.out.below hb2.out)
  have c3' : w2.cell? ⟨b, 3, none⟩ = some (.int .i64 X) := by
    have := HN2.out.cells.2.2.2
    rw [← HC.out.2.2] at this
    exact this
  clear c0 d0 hcv
  go_wp2_with fail
  go_region
  go_wp2_with fail
  refine (HN2.out.all_left _ (OnlyAt.drew_below _)).mono ?_
  rintro e w3 ⟨rfl, hb3⟩
  have HB3 := Lib.hid hb3
  clear hb3
  go_wp2_with fail
  refine (leave_of (HS2.out.below HB3.out) l.cnt l.tot l.ht ?_ ?_ ?_ ?_).mono ?_
  · have := HA.out; omega
  · have := HT.out; omega
  · have := HA.out; omega
  · have := HT.out; omega
  rintro e w4 ⟨rfl, hs4, ho4⟩
  have HS4 := Lib.hid hs4
  have HO4 := Lib.hid ho4
  clear hs4 ho4
  go_wp2_with fail
  go_ret
  exact ⟨rfl, HS4.out, ((OnlyAt.of_below hb2.out).trans (OnlyAt.of_below HB3.out)).trans HO4.out⟩

set_option maxRecDepth 100000 in
set_option maxHeartbeats 4000000 in
theorem end_right {w : World} {sb : Nat} {W A S : Int} {b : Nat} {lp rp : Option Addr} {x : It} {l r : AT} {Fl Fr : List Nat} (h : SAt w sb W A S) (hn : AtNode w b lp rp x l r Fl Fr) (hs : sb ∉ b :: (Fl ++ Fr))
    (hA : 0 ≤ A ∧ A + l.cnt + 1 ≤ 1000000) (hS : 0 ≤ S ∧ S + l.tot + x.2 ≤ 1000000000000000000) (hW : S + l.tot + x.2 ≤ W) :
    Calls Try.prog 62 #[.pointer (some ⟨sb, 0, none⟩), .pointer (some ⟨b, 0, none⟩)] w fun e w' => e = .returned (.int .i64 1) ∧ SAt w' sb W (A + l.cnt + 1) (S + l.tot + x.2) ∧ OnlyAt (fun z => z = sb) w w' := by
  obtain ⟨c0, c1, c2, c3⟩ := hn.cells
  obtain ⟨d0, d1, d2⟩ := h.cells
  have hlt := hn.lt
  have hls := h.lt
  have HN := Lib.hid hn
  have HS := Lib.hid h
  obtain ⟨C, hC⟩ : ∃ C : Int, C = l.cnt := ⟨_, rfl⟩
  obtain ⟨T, hT⟩ : ∃ T : Int, T = l.tot := ⟨_, rfl⟩
  obtain ⟨X, hX⟩ : ∃ X : Int, X = x.2 := ⟨_, rfl⟩
  have CA : ∀ wx, (wx.cell? ⟨b, 0, none⟩ = some (.pointer lp) ∧ wx.cell? ⟨sb, 0, none⟩ = some (.int .i64 W) ∧ wx.cell? ⟨sb, 2, none⟩ = some (.int .i64 S) ∧ Hid (Below w.heap.size w wx)) →
      Calls Try.prog 53 #[.pointer lp] wx fun e w' => e = .returned (.agg #[.int .i64 l.cnt, .int .i64 l.tot, .int .i64 l.ht]) ∧
        (w'.cell? ⟨b, 0, none⟩ = some (.pointer lp) ∧ w'.cell? ⟨sb, 0, none⟩ = some (.int .i64 W) ∧ w'.cell? ⟨sb, 2, none⟩ = some (.int .i64 S) ∧ Hid (Below w.heap.size w w')) :=
    fun wx hx => (hn.all_left wx hx.2.2.2.out).mono fun e w' ⟨he, hb⟩ => ⟨he, (hb.cell (p := ⟨b, _, none⟩) hlt).trans c0, (hb.cell (p := ⟨sb, _, none⟩) hls).trans d0, (hb.cell (p := ⟨sb, _, none⟩) hls).trans d2, Lib.hid hb⟩
  have HD := Lib.hid (show w.drew.cell? ⟨b, 0, none⟩ = some (.pointer lp) ∧ w.drew.cell? ⟨sb, 0, none⟩ = some (.int .i64 W) ∧ w.drew.cell? ⟨sb, 2, none⟩ = some (.int .i64 S) ∧ Hid (Below w.heap.size w w.drew) from
    ⟨c0, d0, d2, Lib.hid (below_drew (Below.refl _ _))⟩)
  have HA := Lib.hid hA
  have HT := Lib.hid hS
  have HSB := Lib.hid hs
  rw [← hC] at hA
  rw [← hT, ← hX] at hS
  rw [← hT, ← hX] at hW
  rw [← hC, ← hT] at CA
  have hC0 : 0 ≤ C := by omega
  have hT0 : 0 ≤ T := by omega
  have hX0 : 0 ≤ X := by omega
  have CAL := Lib.hid CA
  have hw2 : IntKind.i64.wrap (S + T + X) = S + T + X := IntWalk.i64_in _ (by omega)
  have hw : IntKind.i64.wrap (S + T) = S + T := IntWalk.i64_in _ (by omega)
  have hcv : S + T + X ≤ W := by omega
  have HC := Lib.hid (And.intro hC (And.intro hT hX))
  have hv1 : S + T ≤ W := by omega
  have hv2 : S + T + X ≤ W := by omega
  have hvb := Lib.hid (And.intro hC0 (And.intro hT0 (And.intro hX0 (And.intro hA hS))))
  
  clear h hn hA hS hs hC hT hX c1 c2 c3 d1 d2 CA hlt hls
  go_enter Try.func62, Try.ntmps62
  go_wp2_with fail
  go_region_held3 (fun wx => wx.cell? ⟨b, 0, none⟩ = some (.pointer lp) ∧ wx.cell? ⟨sb, 0, none⟩ = some (.int .i64 W) ∧ wx.cell? ⟨sb, 2, none⟩ = some (.int .i64 S) ∧ Hid (Below w.heap.size w wx))
    (first | exact HD.out | assumption)
    (first
      | (go_at_call_of 53 (Value.pointer lp); refine (CAL.out _ (by assumption)).mono ?_; rintro e w2 ⟨rfl, hs2⟩))
  have hb2 := hs2.2.2.2
  obtain ⟨e0, e1, e2, -⟩ := hs2
  have HS2 := Lib.hid (HS.out.below hb2.out)
  have HN2 := Lib.hid (HN.out.below hb2.out)
  have c3' : w2.cell? ⟨b, 3, none⟩ = some (.int .i64 X) := by
    have := HN2.out.cells.2.2.2
    rw [← HC.out.2.2] at this
    exact this
  clear c0 d0 hcv
  go_wp2_with fail
  go_region
  go_wp2_with fail
  refine (pass_of (HS2.out.below (OnlyAt.drew_below _)) (HN2.out.below (OnlyAt.drew_below _)) HSB.out HA.out HT.out).mono ?_
  rintro e w3 ⟨rfl, hs3, ho3⟩
  have HS3 := Lib.hid hs3
  have HO3 := Lib.hid ho3
  clear hs3 ho3
  go_wp2_with fail
  go_ret
  exact ⟨rfl, HS3.out, ((OnlyAt.of_below hb2.out).trans (OnlyAt.drew _ _)).trans HO3.out⟩

end Go.Proofs.Ytfdnlbeancdajaa.Avl
