/- Get, Find, Before keep what is asked of them; a tree's calls, all. -/
import Derived.Test.YtfdnlbeancdajaaTTree
namespace Go.Proofs.Ytfdnlbeancdajaa.Avl
open Go Go.RowKit
attribute [local go_sem] fld0 fld1 fld2 wrap_one wrap_zero

theorem find_le : ∀ (L : List It) (p : Nat), (findL L p).2 ≤ p
  | [], p => Nat.zero_le _
  | x :: L, p => by
    rw [findL]
    split
    · exact Nat.le_refl _
    · exact Nat.le_trans (find_le L (p - x.2)) (Nat.sub_le _ _)
/-- A search goes down a tree that stands: what is known behind it. -/
theorem down_any {kl : Nat} {step : Sea → AT → Way × Sea} {St : Nat → Sea → World → Prop} (hL : ∀ sb, Leads kl #[.pointer (some ⟨sb, 0, none⟩)] #[] (fun z => z = sb) (St sb) Sea.Ok step) (el : ∀ args w, (callFunc kl args).run Try.prog w = .ok (.enter kl args) w)
    (okl : ∀ s l x r, Sea.Ok (.node l x r) s → (step s (.node l x r)).1 = .l → Sea.Ok l (step s (.node l x r)).2) (okr : ∀ s l x r, Sea.Ok (.node l x r) s → (step s (.node l x r)).1 = .r → Sea.Ok r (step s (.node l x r)).2)
    {w : World} {ab : Nat} {p : Option Addr} {t : AT} {F : List Nat} (hT : TreeAt w ab p t F) (hc : t.cnt ≤ 65536) (ht : t.tot ≤ 72057594037927936) (i : Int) (hSt : St w.heap.size (i, 0, 0) (w.alloc (.cells #[.int .i64 i, .int .i64 0, .int .i64 0, .int .i64 0] 79))) :
    Calls Try.prog 61 #[.pointer p, .func (.func kl) #[.pointer (some ⟨w.heap.size, 0, none⟩)] #[]] (w.alloc (.cells #[.int .i64 i, .int .i64 0, .int .i64 0, .int .i64 0] 79)) fun e w' => ∃ q G, e = .returned (.pointer q) ∧ LiesT w' q (fol step t (i, 0, 0)).2 G ∧ St w.heap.size (fol step t (i, 0, 0)).1 w' ∧ Below w.heap.size w w' := by
  have hb : Below w.heap.size w (w.alloc (.cells #[.int .i64 i, .int .i64 0, .int .i64 0, .int .i64 0] 79)) := (Below.refl _ _).alloc (Nat.le_refl _) _
  refine (follow_any (hL w.heap.size) el okl okr (hT.below hb).lies (fun z hz e => by have := hT.lies.lt z hz; omega) hSt ⟨by simp, by simp; omega, by simp, by simp; omega⟩ (by omega) (by omega)).mono ?_
  rintro e w' ⟨q, G, he, h1, h2, h3, h4⟩
  exact ⟨q, G, he, h1, h3, h4.below hb hb.size (fun k hk => by omega)⟩

set_option maxRecDepth 100000 in
set_option maxHeartbeats 4000000 in
theorem get_of {w : World} {ab : Nat} {p : Option Addr} {t : AT} {F : List Nat} (hT : TreeAt w ab p t F) (hc : t.cnt ≤ 65536) (ht : t.tot ≤ 72057594037927936) (i : Nat) (x : It) (hx : t.toL[i]? = some x) :
    Calls Try.prog 45 #[.pointer (some ⟨ab, 0, none⟩), .int .i64 i] w fun e w' => e = .returned (.tuple #[.int .i64 x.1, .int .i64 x.2, .bool true]) ∧ Below w.heap.size w w' := by
  have hb : Below w.heap.size w (w.alloc (.cells #[.int .i64 i, .int .i64 0, .int .i64 0, .int .i64 0] 79)) := (Below.refl _ _).alloc (Nat.le_refl _) _
  have pc := (hT.below hb).place.cell
  have CD := Lib.hid (down_any place_leads Try.enters63 place_okl place_okr hT hc ht (i : Int) (sat_eq (search_new w i) (by simp) rfl rfl))
  have HE := Lib.hid (fol_place t i ((i : Int), 0, 0) x rfl hx)
  have hmf := run_makeFunc
  clear hT hc ht hb hx
  obtain ⟨I, hI⟩ : ∃ I : Int, I = i := ⟨_, rfl⟩
  rw [← hI] at CD HE pc ⊢
  clear hI
  go_enter Try.func45, Try.ntmps45
  go_wp2_with fail
  refine CD.out.mono ?_
  rintro e w2 ⟨q, G, rfl, hl, hS, hb2⟩
  obtain ⟨l, r, e2⟩ := HE.out
  rw [e2] at hl
  obtain ⟨b, lp, rp, Fl, Fr, rfl, -, hbk, -⟩ := hl
  obtain ⟨-, -, c2, c3, -⟩ := raw_cells hbk
  have HB2 := Lib.hid hb2
  clear hb2 hS pc hbk e2
  go_wp2_with fail
  go_region
  go_wp2_with fail
  go_ret3
  exact ⟨rfl, below_drew HB2.out⟩

set_option maxRecDepth 100000 in
set_option maxHeartbeats 4000000 in
theorem find_of {w : World} {ab : Nat} {p : Option Addr} {t : AT} {F : List Nat} (hT : TreeAt w ab p t F) (hc : t.cnt ≤ 65536) (ht : t.tot ≤ 72057594037927936) (i : Nat) (hi : i ≤ 9223372036854775807) :
    Calls Try.prog 43 #[.pointer (some ⟨ab, 0, none⟩), .int .i64 i] w fun e w' => e = .returned (.tuple #[.int .i64 (findL t.toL i).1, .int .i64 (findL t.toL i).2]) ∧ Below w.heap.size w w' := by
  have hb : Below w.heap.size w (w.alloc (.cells #[.int .i64 i, .int .i64 0, .int .i64 0, .int .i64 0] 79)) := (Below.refl _ _).alloc (Nat.le_refl _) _
  have pc := (hT.below hb).place.cell
  have CD := Lib.hid (down_any end_leads Try.enters62 end_okl end_okr hT hc ht (i : Int) (sat_eq (search_new w i) (by simp) rfl rfl))
  obtain ⟨hE1, hE2⟩ := fol_end t i ((i : Int), 0, 0) rfl
  have hab := find_above t.toL i
  rw [AT.total, AT.len] at hab
  have CL := Lib.hid (fun wx (hx : Below w.heap.size w wx) => len_of (hT.below hx))
  have hmf := run_makeFunc
  have h0 : (0 : Int) ≤ i := by omega
  obtain ⟨s2, hs2⟩ : ∃ z, z = (fol endStep t ((i : Int), 0, 0)) := ⟨_, rfl⟩
  rw [← hs2] at CD hE1 hE2
  have CD' := CD.out
  clear CD
  obtain ⟨⟨sI, sA, sS⟩, tq⟩ := s2
  dsimp only at CD' hE1 hE2
  have CD := Lib.hid CD'
  clear CD'
  by_cases hlt : i < t.tot
  · obtain ⟨g1, g2, g3⟩ := hE2 hlt
    have g4 := find_le t.toL i
    have HG := Lib.hid (And.intro g1 (And.intro g2 (And.intro g3 (And.intro g4 (And.intro hi ht)))))
    have HLT := Lib.hid hlt
    clear hE1 hE2 hab hT hc ht hb hs2 g1 g2 g3 g4 hlt
    obtain ⟨I, hI⟩ : ∃ I : Int, I = i := ⟨_, rfl⟩
    rw [← hI] at CD pc h0 ⊢
    have HI := Lib.hid hI
    clear hI hi
    go_enter Try.func43, Try.ntmps43
    go_wp2_with fail
    refine CD.out.mono ?_
    rintro e w2 ⟨q, G, rfl, hl, hS, hb2⟩
    cases q with
    | none => exact absurd ((hl.none_iff).1 rfl) HG.out.1
    | some a =>
      obtain ⟨d0, d1, d2⟩ := hS.cells
      have HB2 := Lib.hid hb2
      have q1 : sA = (findL t.toL i).1 := by have := HG.out.2.1; omega
      have q2 : I - sS = (findL t.toL i).2 := by have := HG.out.2.2.1; have := HI.out; omega
      have hw : IntKind.i64.wrap (I - sS) = I - sS := IntWalk.i64_in _ (by
        have := HG.out.2.2.2
        omega)
      have Q := Lib.hid (And.intro q1 q2)
      clear q1 q2
      clear hb2 hS pc hl
      dsimp only at d0 d1 d2
      go_wp2_with fail
      go_region
      go_wp2_with fail
      go_ret2
      rw [← Q.out.1, ← Q.out.2]
      exact ⟨rfl, below_drew HB2.out⟩
  · have hle : t.tot ≤ i := by omega
    rw [hab hle]
    have HE := Lib.hid (hE1 hle)
    clear hE1 hE2 hab hT hc ht hb hs2 hi hlt hle
    obtain ⟨I, hI⟩ : ∃ I : Int, I = i := ⟨_, rfl⟩
    rw [← hI] at CD pc h0 ⊢
    clear hI
    go_enter Try.func43, Try.ntmps43
    go_wp2_with fail
    refine CD.out.mono ?_
    rintro e w2 ⟨q, G, rfl, hl, hS, hb2⟩
    rw [HE.out] at hl
    obtain ⟨rfl, -⟩ := hl
    have HB2 := Lib.hid hb2
    clear hb2 hS pc
    go_wp2_with fail
    refine (CL.out _ HB2.out).mono ?_
    rintro e w3 ⟨rfl, hb3⟩
    have HB3 := Lib.hid hb3
    clear hb3
    go_wp2_with fail
    go_ret2
    exact ⟨rfl, HB2.out.trans (HB3.out.mono HB2.out.size)⟩

theorem get_says (base : Nat) (w : World) (a : Addr) (L : List It) (h : Nat) (i : Nat) (x : It) (hr : RepT base w a L h) (hs : base ≤ w.heap.size) (hx : L[i]? = some x) :
    Calls Try.prog 45 #[.pointer (some a), .int .i64 i] w fun e w' => e = .returned (.tuple #[.int .i64 x.1, .int .i64 x.2, .bool true]) ∧ RepT base w' a L h ∧ Below base w w' := by
  obtain ⟨ab, p, t, F, rfl, hT, hF, e, eh, hb, h1, h2⟩ := hr
  obtain ⟨b1, b2, b3, b4⟩ := rep_bounds e h1 h2
  exact (get_of hT b3 b4 i x (by rw [e]; exact hx)).mono fun e' w' ⟨he, hw⟩ => ⟨he, ⟨ab, p, t, F, rfl, hT.below hw, hF, e, eh, hb, h1, h2⟩, hw.mono hs⟩
theorem find_says (base : Nat) (w : World) (a : Addr) (L : List It) (h : Nat) (i : Nat) (hr : RepT base w a L h) (hs : base ≤ w.heap.size) (hi : i ≤ 9223372036854775807) :
    Calls Try.prog 43 #[.pointer (some a), .int .i64 i] w fun e w' => e = .returned (.tuple #[.int .i64 (findL L i).1, .int .i64 (findL L i).2]) ∧ RepT base w' a L h ∧ Below base w w' := by
  obtain ⟨ab, p, t, F, rfl, hT, hF, e, eh, hb, h1, h2⟩ := hr
  obtain ⟨b1, b2, b3, b4⟩ := rep_bounds e h1 h2
  rw [← e]
  exact (find_of hT b3 b4 i hi).mono fun e' w' ⟨he, hw⟩ => ⟨he, ⟨ab, p, t, F, rfl, hT.below hw, hF, rfl, eh, hb, e ▸ h1, e ▸ h2⟩, hw.mono hs⟩

end Go.Proofs.Ytfdnlbeancdajaa.Avl
