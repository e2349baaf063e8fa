/- A node is measured. -/
import Derived.Test.YtfdnlbeancdajaaTNode
import Derived.Deep.DeepCutAuto
import Derived.BigRegion
import Derived.StillTailTactics
namespace Go.Proofs.Ytfdnlbeancdajaa.Avl
open Go Go.RowKit
attribute [local go_sem] fld0 fld1 fld2 wrap_one wrap_zero

theorem Held.alloc {w : World} {b : Nat} {lp rp : Option Addr} {wx : World} (hb : b < w.heap.size) (h : Held w b lp rp wx) (o : Obj) : Held w b lp rp (wx.alloc o) := by
  have hx := h.2.2.out
  have hn : Below wx.heap.size wx (wx.alloc o) := (Below.refl _ _).alloc (Nat.le_refl _) o
  have hs := hx.size
  exact ⟨(hn.cell (p := ⟨b, 0, none⟩) (by show b < wx.heap.size; omega)).trans h.1, (hn.cell (p := ⟨b, 1, none⟩) (by show b < wx.heap.size; omega)).trans h.2.1, Lib.hid (hx.trans (hn.mono hs))⟩
theorem Held.set {w : World} {b : Nat} {lp rp : Option Addr} {wx : World} (hb : b < w.heap.size) (h : Held w b lp rp wx) (p : Addr) (v : Value) (hp : w.heap.size ≤ p.block) : Held w b lp rp (wx.setCell p v) := by
  have hx := h.2.2.out
  have hn : OnlyAt (fun k => k = p.block) wx (wx.setCell p v) := OnlyAt.setCell _ _ _ rfl
  have hs := hx.size
  have hk : ∀ o : Nat, (wx.setCell p v).cell? ⟨b, o, none⟩ = wx.cell? ⟨b, o, none⟩ := fun o => by
    simp only [World.cell?, hn.block b (by omega) (by omega)]
  exact ⟨(hk 0).trans h.1, (hk 1).trans h.2.1, Lib.hid (hn.below hx hs (fun k hk => by rw [hk]; exact hp))⟩
theorem Held.drew {w : World} {b : Nat} {lp rp : Option Addr} {wx : World} (h : Held w b lp rp wx) : Held w b lp rp wx.drew := ⟨h.1, h.2.1, Lib.hid (below_drew h.2.2.out)⟩
theorem AtNode.exact_left {w : World} {b : Nat} {lp rp : Option Addr} {x : It} {l r : AT} {Fl Fr : List Nat} (h : AtNode w b lp rp x l r Fl Fr) :
    ∀ wx, Held w b lp rp wx → Calls Try.prog 53 #[.pointer lp] wx fun e w' => e = .returned (.agg #[.int .i64 l.cnt, .int .i64 l.tot, .int .i64 l.ht]) ∧ w' = wx.alloc (totObj l) :=
  fun _ hx => all_exact (h.left.below hx.2.2.out)
theorem AtNode.exact_right {w : World} {b : Nat} {lp rp : Option Addr} {x : It} {l r : AT} {Fl Fr : List Nat} (h : AtNode w b lp rp x l r Fl Fr) :
    ∀ wx, Held w b lp rp wx → Calls Try.prog 53 #[.pointer rp] wx fun e w' => e = .returned (.agg #[.int .i64 r.cnt, .int .i64 r.tot, .int .i64 r.ht]) ∧ w' = wx.alloc (totObj r) :=
  fun _ hx => all_exact (h.right.below hx.2.2.out)

theorem heap_drew (w : World) : w.drew.heap = w.heap := rfl
theorem heap_alloc (w : World) (o : Obj) : (w.alloc o).heap = w.heap.push o := rfl
theorem below_alloc {w wx : World} (h : Below w.heap.size w wx) (o : Obj) : Below w.heap.size w (wx.alloc o) := h.alloc h.size o
theorem look_same (w : World) (o : Obj) {k : Nat} (h : k = w.heap.size) : (w.alloc o).heap[k]? = some o := by rw [h]; exact World.alloc_heap_new w o
theorem look_old (w : World) (o : Obj) {k : Nat} (h : k < w.heap.size) : (w.alloc o).heap[k]? = w.heap[k]? := by rw [heap_alloc, Array.getElem?_push, if_neg (by omega)]
def MeasR (w : World) (l r : AT) (g2 g3 : Nat) (wx : World) : Prop :=
  g2 ≠ g3 ∧ w.heap.size ≤ g2 ∧ w.heap.size ≤ g3 ∧ wx.heap[g2]? = some (totObj l) ∧ wx.heap[g3]? = some (totObj r) ∧ Below w.heap.size w wx

theorem raw_set {w : World} {b : Nat} {lp rp : Option Addr} {x : It} {i s h : Int} (hb : w.heap[b]? = some (.cells (raw lp rp x i s h) 85 (0, 0))) (C S H : Int) :
    (((w.setCell ⟨b, 4, none⟩ (.int .i64 C)).setCell ⟨b, 5, none⟩ (.int .i64 S)).setCell ⟨b, 6, none⟩ (.int .i64 H)).heap[b]? = some (.cells (raw lp rp x C S H) 85 (0, 0)) := by
  have h1 := (Array.getElem?_eq_some_iff.1 hb).1
  simp only [World.setCell, Array.getElem?_modify, hb, raw]
  simp
theorem only1 (w : World) (p : Addr) (v : Value) : OnlyAt (fun k => k = p.block) w (w.setCell p v) := OnlyAt.setCell _ _ _ rfl
theorem raw_free {w : World} {b : Nat} {lp rp : Option Addr} {x : It} {i s h : Int} (hb : w.heap[b]? = some (.cells (raw lp rp x i s h) 85 (0, 0))) (o : Nat) : w.frozen? ⟨b, o, none⟩ = false := by
  simp [World.frozen?, hb]
theorem raw_only (w : World) (b : Nat) (C S H : Int) : OnlyAt (fun k => k = b) w (((w.setCell ⟨b, 4, none⟩ (.int .i64 C)).setCell ⟨b, 5, none⟩ (.int .i64 S)).setCell ⟨b, 6, none⟩ (.int .i64 H)) :=
  ((only1 w ⟨b, 4, none⟩ _).trans (only1 _ ⟨b, 5, none⟩ _)).trans (only1 _ ⟨b, 6, none⟩ _)
theorem measure_done {w wd : World} {b : Nat} {lp rp : Option Addr} {x : It} {l r : AT} {Fl Fr : List Nat} (h : AtNode w b lp rp x l r Fl Fr) (hd : Below w.heap.size w wd) {C S H : Int} (hC : C = (AT.node l x r).cnt) (hS : S = (AT.node l x r).tot) (hH : H = (AT.node l x r).ht) :
    LiesT (((wd.setCell ⟨b, 4, none⟩ (.int .i64 C)).setCell ⟨b, 5, none⟩ (.int .i64 S)).setCell ⟨b, 6, none⟩ (.int .i64 H)) (some ⟨b, 0, none⟩) (AT.node l x r) (b :: (Fl ++ Fr)) ∧
    OnlyAt (fun k => k = b) w (((wd.setCell ⟨b, 4, none⟩ (.int .i64 C)).setCell ⟨b, 5, none⟩ (.int .i64 S)).setCell ⟨b, 6, none⟩ (.int .i64 H)) := by
  have hn := h.below hd
  obtain ⟨i, s, k, hc⟩ := hn.here
  have ho := raw_only wd b C S H
  subst hC hS hH
  refine ⟨Lies.node (raw_set hc _ _ _) (hn.left.only ho fun k hk e => h.nl (e ▸ hk)) (hn.right.only ho fun k hk e => h.nr (e ▸ hk)) h.nl h.nr h.apart, (OnlyAt.of_below hd).trans ho⟩

set_option maxRecDepth 100000 in
set_option maxHeartbeats 4000000 in
theorem measure_of {w : World} {b : Nat} {lp rp : Option Addr} {x : It} {l r : AT} {Fl Fr : List Nat} (h : AtNode w b lp rp x l r Fl Fr) (hc : (AT.node l x r).cnt ≤ 1000000) (ht : (AT.node l x r).tot ≤ 1000000000000000000) (hh : (AT.node l x r).ht ≤ 1000000) :
    Calls Try.prog 65 #[.pointer (some ⟨b, 0, none⟩)] w fun e w' => e = .returned (.tuple #[]) ∧ LiesT w' (some ⟨b, 0, none⟩) (AT.node l x r) (b :: (Fl ++ Fr)) ∧ OnlyAt (fun k => k = b) w w' := by
  have CL := Lib.hid h.exact_left
  have CR := Lib.hid h.exact_right
  have HS := Lib.hid (h.held (Below.refl _ _))
  have HH := Lib.hid h
  have hlt := h.lt
  have HN := Lib.hid hc
  have HM := Lib.hid ht
  have HO := Lib.hid hh
  clear h hc ht hh
  go_enter Try.func65, Try.ntmps65
  go_upto_region 0 with fail
  go_cut [2, 3] (fun p q wx => ∃ g2 g3 : Nat, p = .pointer (some ⟨g2, 0, none⟩) ∧ q = .pointer (some ⟨g3, 0, none⟩) ∧ Hid (MeasR w l r g2 g3 wx))
  case first =>
    go_region_held3 (fun wx => wx.cell? ⟨b, 0, none⟩ = some (.pointer lp) ∧ wx.cell? ⟨b, 1, none⟩ = some (.pointer rp) ∧ Hid (Below w.heap.size w wx))
      (first | assumption | (repeat' (first | exact HS.out | refine Held.drew ?_ | refine Held.alloc hlt ?_ _ | (refine Held.set hlt ?_ _ _ (by simp; done)))))
      (first
        | (go_at_call_of 53 (Value.pointer lp); refine (CL.out _ (by assumption)).mono ?_; rintro e w2 ⟨rfl, rfl⟩)
        | (go_at_call_of 53 (Value.pointer rp); refine (CR.out _ (by assumption)).mono ?_; rintro e w3 ⟨rfl, rfl⟩))
    all_goals
      go_wp2_with fail
      go_meet
      refine ⟨_, _, rfl, rfl, Lib.hid ⟨by omega, by omega, by omega, ?_, ?_, ?_⟩⟩
      · rw [heap_drew]
        repeat (first | (refine look_same _ _ ?_; simp only [World.size_alloc]; done) | (refine (look_old _ _ ?_).trans ?_; (simp only [World.size_alloc]; omega)))
      · rw [heap_drew]
        repeat (first | (refine look_same _ _ ?_; simp only [World.size_alloc]; done) | (refine (look_old _ _ ?_).trans ?_; (simp only [World.size_alloc]; omega)))
      · exact below_drew (below_alloc (below_alloc (below_alloc (below_alloc (Below.refl _ _) _) _) _) _)
  case rest =>
    obtain ⟨g2, g3, rfl, rfl, HR⟩ := hcut
    obtain ⟨r1, r2, r3, r4, r5, r6⟩ := HR.out
    have hbg2 : b ≠ g2 := by omega
    have hbg3 : b ≠ g3 := by omega
    obtain ⟨c0, c1, c2, c3⟩ := (HH.out.below (below_drew r6)).cells
    obtain ⟨i0, s0, k0, hb0⟩ := (HH.out.below (below_drew r6)).here
    obtain ⟨-, -, -, -, c4, c5, c6⟩ := raw_cells hb0
    have z4 := raw_free hb0 4
    have z5 := raw_free hb0 5
    have z6 := raw_free hb0 6
    clear hb0
    have d20 : wc.drew.cell? ⟨g2, 0, none⟩ = some (.int .i64 l.cnt) := by simp [World.cell?, heap_drew, r4]
    have d21 : wc.drew.cell? ⟨g2, 1, none⟩ = some (.int .i64 l.tot) := by simp [World.cell?, heap_drew, r4]
    have d22 : wc.drew.cell? ⟨g2, 2, none⟩ = some (.int .i64 l.ht) := by simp [World.cell?, heap_drew, r4]
    have d30 : wc.drew.cell? ⟨g3, 0, none⟩ = some (.int .i64 r.cnt) := by simp [World.cell?, heap_drew, r5]
    have d31 : wc.drew.cell? ⟨g3, 1, none⟩ = some (.int .i64 r.tot) := by simp [World.cell?, heap_drew, r5]
    have d32 : wc.drew.cell? ⟨g3, 2, none⟩ = some (.int .i64 r.ht) := by simp [World.cell?, heap_drew, r5]
    have hcn := HN.out
    have htn := HM.out
    have hhn := HO.out
    simp only [AT.cnt] at hcn
    simp only [AT.tot] at htn
    simp only [AT.ht] at hhn
    obtain ⟨lc, hlc⟩ : ∃ z : Int, z = l.cnt := ⟨_, rfl⟩
    obtain ⟨ls, hls⟩ : ∃ z : Int, z = l.tot := ⟨_, rfl⟩
    obtain ⟨lh, hlh⟩ : ∃ z : Int, z = l.ht := ⟨_, rfl⟩
    obtain ⟨rc, hrc⟩ : ∃ z : Int, z = r.cnt := ⟨_, rfl⟩
    obtain ⟨rs, hrs⟩ : ∃ z : Int, z = r.tot := ⟨_, rfl⟩
    obtain ⟨rh, hrh⟩ : ∃ z : Int, z = r.ht := ⟨_, rfl⟩
    obtain ⟨xs, hxs⟩ : ∃ z : Int, z = x.2 := ⟨_, rfl⟩
    rw [← hlc] at d20
    rw [← hls] at d21
    rw [← hlh] at d22
    rw [← hrc] at d30
    rw [← hrs] at d31
    rw [← hrh] at d32
    rw [← hxs] at c3
    have e1 : IntKind.i64.wrap (lc + 1) = lc + 1 := IntWalk.i64_in _ (by omega)
    have e2 : IntKind.i64.wrap (lc + 1 + rc) = lc + 1 + rc := IntWalk.i64_in _ (by omega)
    have e3 : IntKind.i64.wrap (ls + xs) = ls + xs := IntWalk.i64_in _ (by omega)
    have e4 : IntKind.i64.wrap (ls + xs + rs) = ls + xs + rs := IntWalk.i64_in _ (by omega)
    have e5 : IntKind.i64.wrap (1 + lh) = 1 + lh := IntWalk.i64_in _ (by omega)
    have e6 : IntKind.i64.wrap (1 + rh) = 1 + rh := IntWalk.i64_in _ (by omega)
    have HLC := Lib.hid hlc
    have HLS := Lib.hid hls
    have HLH := Lib.hid hlh
    have HRC := Lib.hid hrc
    have HRS := Lib.hid hrs
    have HRH := Lib.hid hrh
    have HXS := Lib.hid hxs
    clear r1 r2 r3 r4 r5 r6 hcn htn hhn hlc hls hlh hrc hrs hrh hxs c0 c1 c2
    have HD := Lib.hid (below_drew (HR.out.2.2.2.2.2))
    go_wp2_with fail
    go_still_tail 26, (by kernel_rfl)
    change wpList _ _ _ _ _ wc.drew
    generalize wc.drew = wd at *
    go_wp2_with fail
    · go_end0
      have hM := measure_done HH.out HD.out (C := lc + 1 + rc) (S := ls + xs + rs) (H := 1 + rh)
        (by simp only [AT.cnt]; have := HLC.out; have := HRC.out; omega) (by simp only [AT.tot]; have := HLS.out; have := HRS.out; have := HXS.out; omega)
        (by simp only [AT.ht]; have := HLH.out; have := HRH.out; omega)
      have E : wrap64 (1 + rh) = 1 + rh := IntWalk.wrap64_in (1 + rh) (by have := HLH.out; have := HRH.out; have hh := HO.out; simp only [AT.ht] at hh; omega)
      rw [E]
      exact ⟨rfl, hM⟩
    · go_end0
      have hM := measure_done HH.out HD.out (C := lc + 1 + rc) (S := ls + xs + rs) (H := 1 + lh)
        (by simp only [AT.cnt]; have := HLC.out; have := HRC.out; omega) (by simp only [AT.tot]; have := HLS.out; have := HRS.out; have := HXS.out; omega)
        (by simp only [AT.ht]; have := HLH.out; have := HRH.out; omega)
      have E : wrap64 (1 + lh) = 1 + lh := IntWalk.wrap64_in (1 + lh) (by have := HLH.out; have := HRH.out; have hh := HO.out; simp only [AT.ht] at hh; omega)
      rw [E]
      exact ⟨rfl, hM⟩
end Go.Proofs.Ytfdnlbeancdajaa.Avl
