/- A tree's calls keep what is asked of them. -/
import Derived.Test.YtfdnlbeancdajaaTSpec
import Derived.Shelf.Abstract
namespace Go.Proofs.Ytfdnlbeancdajaa.Avl
open Go Go.RowKit
attribute [local go_sem] fld0 fld1 fld2 wrap_one wrap_zero

theorem least_big : 65536 < least 23 := by
  have l0 : least 0 = 0 := rfl
  have l1 : least 1 = 1 := rfl
  have l2 : least 2 = 2 := by show least 0 + least 1 + 1 = 2; rw [l0, l1]
  have l3 : least 3 = 4 := by show least 1 + least 2 + 1 = 4; rw [l1, l2]
  have l4 : least 4 = 7 := by show least 2 + least 3 + 1 = 7; rw [l2, l3]
  have l5 : least 5 = 12 := by show least 3 + least 4 + 1 = 12; rw [l3, l4]
  have l6 : least 6 = 20 := by show least 4 + least 5 + 1 = 20; rw [l4, l5]
  have l7 : least 7 = 33 := by show least 5 + least 6 + 1 = 33; rw [l5, l6]
  have l8 : least 8 = 54 := by show least 6 + least 7 + 1 = 54; rw [l6, l7]
  have l9 : least 9 = 88 := by show least 7 + least 8 + 1 = 88; rw [l7, l8]
  have l10 : least 10 = 143 := by show least 8 + least 9 + 1 = 143; rw [l8, l9]
  have l11 : least 11 = 232 := by show least 9 + least 10 + 1 = 232; rw [l9, l10]
  have l12 : least 12 = 376 := by show least 10 + least 11 + 1 = 376; rw [l10, l11]
  have l13 : least 13 = 609 := by show least 11 + least 12 + 1 = 609; rw [l11, l12]
  have l14 : least 14 = 986 := by show least 12 + least 13 + 1 = 986; rw [l12, l13]
  have l15 : least 15 = 1596 := by show least 13 + least 14 + 1 = 1596; rw [l13, l14]
  have l16 : least 16 = 2583 := by show least 14 + least 15 + 1 = 2583; rw [l14, l15]
  have l17 : least 17 = 4180 := by show least 15 + least 16 + 1 = 4180; rw [l15, l16]
  have l18 : least 18 = 6764 := by show least 16 + least 17 + 1 = 6764; rw [l16, l17]
  have l19 : least 19 = 10945 := by show least 17 + least 18 + 1 = 10945; rw [l17, l18]
  have l20 : least 20 = 17710 := by show least 18 + least 19 + 1 = 17710; rw [l18, l19]
  have l21 : least 21 = 28656 := by show least 19 + least 20 + 1 = 28656; rw [l19, l20]
  have l22 : least 22 = 46367 := by show least 20 + least 21 + 1 = 46367; rw [l20, l21]
  have l23 : least 23 = 75024 := by show least 21 + least 22 + 1 = 75024; rw [l21, l22]
  omega

/-- A tree's variable, and what lies at it. -/
structure TreeAt (w : World) (ab : Nat) (p : Option Addr) (t : AT) (F : List Nat) : Prop where
  root : w.heap[ab]? = some (.cells #[.pointer p] 73 (0, 0))
  lies : LiesT w p t F
  out : ab ∉ F
theorem TreeAt.place {w : World} {ab : Nat} {p : Option Addr} {t : AT} {F : List Nat} (h : TreeAt w ab p t F) : PlaceAt w ab 0 (.pointer p) := ⟨_, _, h.root, rfl⟩
theorem TreeAt.lt {w : World} {ab : Nat} {p : Option Addr} {t : AT} {F : List Nat} (h : TreeAt w ab p t F) : ab < w.heap.size := h.place.lt
theorem TreeAt.only {w w' : World} {ab : Nat} {p : Option Addr} {t : AT} {F : List Nat} {T : Nat → Prop} (h : TreeAt w ab p t F) (ho : OnlyAt T w w') (hT : ∀ z, z = ab ∨ z ∈ F → ¬ T z) : TreeAt w' ab p t F :=
  ⟨(ho.block ab h.lt (hT ab (.inl rfl))).trans h.root, h.lies.only ho (fun z hz => hT z (.inr hz)), h.out⟩
theorem TreeAt.below {w w' : World} {ab : Nat} {p : Option Addr} {t : AT} {F : List Nat} (h : TreeAt w ab p t F) (hb : Below w.heap.size w w') : TreeAt w' ab p t F :=
  h.only (OnlyAt.of_below (T := fun _ => False) hb) (fun _ _ => id)
theorem TreeAt.low {w : World} {ab : Nat} {p : Option Addr} {t : AT} {F : List Nat} (h : TreeAt w ab p t F) : ∀ z, z = ab ∨ z ∈ F → z < w.heap.size := fun z hz => hz.elim (fun e => e ▸ h.lt) (fun e => h.lies.lt z e)

set_option maxRecDepth 100000 in
theorem len_of {w : World} {ab : Nat} {p : Option Addr} {t : AT} {F : List Nat} (h : TreeAt w ab p t F) :
    Calls Try.prog 34 #[.pointer (some ⟨ab, 0, none⟩)] w fun e w' => e = .returned (.int .i64 t.cnt) ∧ Below w.heap.size w w' := by
  have pc := h.place.cell
  have CA := Lib.hid (all_of h.lies)
  generalize t.cnt = A at *
  generalize t.tot = B at *
  generalize t.ht = C at *
  clear h
  go_enter Try.func34, Try.ntmps34
  go_wp2_with fail
  refine CA.out.mono ?_
  rintro e w2 ⟨rfl, hb2⟩
  have HB2 := Lib.hid hb2
  clear hb2
  go_wp2_with fail
  go_ret
  exact ⟨rfl, HB2.out⟩
set_option maxRecDepth 100000 in
theorem sum_of {w : World} {ab : Nat} {p : Option Addr} {t : AT} {F : List Nat} (h : TreeAt w ab p t F) :
    Calls Try.prog 49 #[.pointer (some ⟨ab, 0, none⟩)] w fun e w' => e = .returned (.int .i64 t.tot) ∧ Below w.heap.size w w' := by
  have pc := h.place.cell
  have CA := Lib.hid (all_of h.lies)
  generalize t.cnt = A at *
  generalize t.tot = B at *
  generalize t.ht = C at *
  clear h
  go_enter Try.func49, Try.ntmps49
  go_wp2_with fail
  refine CA.out.mono ?_
  rintro e w2 ⟨rfl, hb2⟩
  have HB2 := Lib.hid hb2
  clear hb2
  go_wp2_with fail
  go_ret
  exact ⟨rfl, HB2.out⟩
theorem fits_of (w : World) (z : Int) (h0 : 0 ≤ z) (h1 : z ≤ 1099511627776) : Calls Try.prog 35 #[.int .i64 z] w fun e w' => e = .returned (.bool true) ∧ w' = w := by
  go_enter Try.func35, Try.ntmps35
  go_wp2_with fail
  go_ret
  exact ⟨rfl, rfl⟩
set_option maxRecDepth 100000 in
theorem has_of {w : World} {ab : Nat} {p : Option Addr} {t : AT} {F : List Nat} (h : TreeAt w ab p t F) (i : Int) (h0 : 0 ≤ i) (h1 : i < t.cnt) :
    Calls Try.prog 77 #[.pointer (some ⟨ab, 0, none⟩), .int .i64 i] w fun e w' => e = .returned (.bool true) ∧ Below w.heap.size w w' := by
  have CA := Lib.hid (len_of h)
  obtain ⟨A, hA⟩ : ∃ A : Int, A = t.cnt := ⟨_, rfl⟩
  rw [← hA] at CA h1
  clear h hA
  go_enter Try.func77, Try.ntmps77
  go_wp2_with fail
  refine CA.out.mono ?_
  rintro e w2 ⟨rfl, hb2⟩
  have HB2 := Lib.hid hb2
  clear hb2
  go_wp2_with fail
  go_ret
  exact ⟨rfl, HB2.out⟩

/-- A tree of the items L, of height h, in blocks from base on. -/
def RepT (base : Nat) (w : World) (a : Addr) (L : List It) (h : Nat) : Prop :=
  ∃ ab p t F, a = ⟨ab, 0, none⟩ ∧ TreeAt w ab p t F ∧ (∀ z, z = ab ∨ z ∈ F → base ≤ z) ∧ t.toL = L ∧ t.ht = h ∧ t.Bal ∧ (∀ y ∈ L, y.2 ≤ 1099511627776) ∧ L.length ≤ 65536
theorem total_bound : ∀ (L : List It), (∀ y ∈ L, y.2 ≤ 1099511627776) → total L ≤ L.length * 1099511627776
  | [], _ => by simp [total]
  | x :: L, h => by
    have ih := total_bound L (fun y hy => h y (List.mem_cons_of_mem _ hy))
    have hx := h x (by simp)
    rw [show total (x :: L) = x.2 + total L by simp [total], List.length_cons, Nat.succ_mul]
    omega

theorem new_says (w : World) : Calls Try.prog 23 #[] w fun e w' => ∃ a, e = .returned (.pointer (some a)) ∧ RepT w.heap.size w' a [] 0 ∧ Below w.heap.size w w' := by
  go_enter Try.func23, Try.ntmps23
  go_wp2_with fail
  go_ret
  refine ⟨⟨w.heap.size, 0, none⟩, rfl, ⟨w.heap.size, none, .nil, [], rfl, ⟨look_same w _ rfl, Lies.nil, by simp⟩, ?_, rfl, rfl, trivial, by simp, by simp⟩, (Below.refl _ _).alloc (Nat.le_refl _) _⟩
  intro z hz
  rcases hz with e | e
  · omega
  · simp at e

theorem Try.enters37 : ∀ args w, (callFunc 37 args).run Try.prog w = .ok (.enter 37 args) w := enters_of Try.func37 rfl rfl
theorem Try.enters38 : ∀ args w, (callFunc 38 args).run Try.prog w = .ok (.enter 38 args) w := enters_of Try.func38 rfl rfl
theorem Try.enters63 : ∀ args w, (callFunc 63 args).run Try.prog w = .ok (.enter 63 args) w := enters_of Try.func63 rfl rfl
theorem Try.enters79 : ∀ args w, (callFunc 79 args).run Try.prog w = .ok (.enter 79 args) w := enters_of Try.func79 rfl rfl
theorem Try.enters62 : ∀ args w, (callFunc 62 args).run Try.prog w = .ok (.enter 62 args) w := enters_of Try.func62 rfl rfl
theorem run_makeFunc (fn : Fn) (first cap : Array Value) (w : World) : (Instr.makeFunc fn first cap).run Try.prog w = .ok (.func fn first cap) w := rfl

/-- What is known of a tree's numbers. -/
theorem rep_bounds {t : AT} {L : List It} (e : t.toL = L) (h1 : ∀ y ∈ L, y.2 ≤ 1099511627776) (h2 : L.length ≤ 65536) : t.cnt = L.length ∧ t.tot = total L ∧ t.cnt ≤ 65536 ∧ t.tot ≤ 72057594037927936 := by
  have a1 := AT.len t
  have a2 := AT.total t
  have a3 := total_bound L h1
  rw [e] at a1 a2
  have a4 : L.length * 1099511627776 ≤ 65536 * 1099511627776 := Nat.mul_le_mul_right _ h2
  refine ⟨a1.symm, a2.symm, by omega, by omega⟩
theorem rep_low {base : Nat} {w : World} {a : Addr} {L : List It} {h : Nat} (hr : RepT base w a L h) : least h ≤ L.length ∧ L.length < 2 ^ h ∧ h ≤ 1000 := by
  obtain ⟨ab, p, t, F, rfl, hT, hF, e, eh, hb, h1, h2⟩ := hr
  obtain ⟨b1, -, b3, -⟩ := rep_bounds e h1 h2
  subst eh
  rw [← b1]
  exact ⟨AT.low t hb, AT.high t, Nat.le_of_lt (Nat.lt_trans (AT.ht_le hb b3 least_big) (by omega))⟩
theorem rep_below {base : Nat} {w w' : World} {ab : Nat} {p : Option Addr} {t : AT} {F : List Nat} {L : List It} {h : Nat} (hT : TreeAt w ab p t F) (hF : ∀ z, z = ab ∨ z ∈ F → base ≤ z) (e : t.toL = L) (eh : t.ht = h) (hb : t.Bal) (h1 : ∀ y ∈ L, y.2 ≤ 1099511627776) (h2 : L.length ≤ 65536)
    {T : Nat → Prop} (ho : OnlyAt T w w') (hn : ∀ z, z = ab ∨ z ∈ F → ¬ T z) : RepT base w' ⟨ab, 0, none⟩ L h :=
  ⟨ab, p, t, F, rfl, hT.only ho hn, hF, e, eh, hb, h1, h2⟩

theorem len_says (base : Nat) (w : World) (a : Addr) (L : List It) (h : Nat) (hr : RepT base w a L h) (hs : base ≤ w.heap.size) :
    Calls Try.prog 34 #[.pointer (some a)] w fun e w' => e = .returned (.int .i64 L.length) ∧ RepT base w' a L h ∧ Below base w w' := by
  obtain ⟨ab, p, t, F, rfl, hT, hF, e, eh, hb, h1, h2⟩ := hr
  obtain ⟨b1, b2, -⟩ := rep_bounds e h1 h2
  rw [← b1]
  exact (len_of hT).mono fun e' w' ⟨he, hw⟩ => ⟨he, ⟨ab, p, t, F, rfl, hT.below hw, hF, e, eh, hb, h1, h2⟩, hw.mono hs⟩
theorem sum_says (base : Nat) (w : World) (a : Addr) (L : List It) (h : Nat) (hr : RepT base w a L h) (hs : base ≤ w.heap.size) :
    Calls Try.prog 49 #[.pointer (some a)] w fun e w' => e = .returned (.int .i64 (total L)) ∧ RepT base w' a L h ∧ Below base w w' := by
  obtain ⟨ab, p, t, F, rfl, hT, hF, e, eh, hb, h1, h2⟩ := hr
  obtain ⟨b1, b2, -⟩ := rep_bounds e h1 h2
  rw [← b2]
  exact (sum_of hT).mono fun e' w' ⟨he, hw⟩ => ⟨he, ⟨ab, p, t, F, rfl, hT.below hw, hF, e, eh, hb, h1, h2⟩, hw.mono hs⟩
theorem place_leads' (sb : Nat) : Leads 63 #[.pointer (some ⟨sb, 0, none⟩)] #[] (fun z => z = sb) (Sea.St sb) delOk placeStep where
  call := fun s w b lp rp x l r Fl Fr hn hS hO hT hc ht => (place_leads sb).call s w b lp rp x l r Fl Fr hn hS hO.1 hT hc ht
  keep := (place_leads sb).keep
theorem gap_okl : ∀ s l x r, Sea.Ok (.node l x r) s → (gapStep s (.node l x r)).1 = .l → Sea.Ok l (gapStep s (.node l x r)).2 := gap_goes.l
theorem gap_okr : ∀ s l x r, Sea.Ok (.node l x r) s → (gapStep s (.node l x r)).1 = .r → Sea.Ok r (gapStep s (.node l x r)).2 := gap_goes.r
theorem place_okl (s : Sea) (l : AT) (x : It) (r : AT) (h : Sea.Ok (.node l x r) s) (hw : (placeStep s (.node l x r)).1 = .l) : Sea.Ok l (placeStep s (.node l x r)).2 := by
  simp only [placeStep] at hw ⊢
  split at hw
  · rename_i hc; rw [if_pos hc]; exact Sea.ok_l h
  · split at hw <;> cases hw
theorem place_okr (s : Sea) (l : AT) (x : It) (r : AT) (h : Sea.Ok (.node l x r) s) (hw : (placeStep s (.node l x r)).1 = .r) : Sea.Ok r (placeStep s (.node l x r)).2 := by
  simp only [placeStep] at hw ⊢
  split at hw
  · cases hw
  · rename_i hc
    split at hw
    · cases hw
    · rename_i hd; rw [if_neg hc, if_neg hd]; exact Sea.ok_r h
theorem end_okl (s : Sea) (l : AT) (x : It) (r : AT) (h : Sea.Ok (.node l x r) s) (hw : (endStep s (.node l x r)).1 = .l) : Sea.Ok l (endStep s (.node l x r)).2 := by
  simp only [endStep] at hw ⊢
  split at hw
  · rename_i hc; rw [if_pos hc]; exact Sea.ok_l h
  · split at hw <;> cases hw
theorem end_okr (s : Sea) (l : AT) (x : It) (r : AT) (h : Sea.Ok (.node l x r) s) (hw : (endStep s (.node l x r)).1 = .r) : Sea.Ok r (endStep s (.node l x r)).2 := by
  simp only [endStep] at hw ⊢
  split at hw
  · cases hw
  · rename_i hc
    split at hw
    · cases hw
    · rename_i hd; rw [if_neg hc, if_neg hd]; exact Sea.ok_rZ h

/-- A new search. -/
theorem search_new (w : World) (i : Int) : SAt (w.alloc (.cells #[.int .i64 i, .int .i64 0, .int .i64 0, .int .i64 0] 79)) w.heap.size i 0 0 := ⟨0, look_same w _ rfl⟩

set_option maxRecDepth 100000 in
set_option maxHeartbeats 4000000 in
theorem remove_of {w : World} {ab : Nat} {p : Option Addr} {t : AT} {F : List Nat} (hT : TreeAt w ab p t F) (i : Nat) (hi : i < t.cnt) (hb : t.Bal) (hc : t.cnt ≤ 65536) (ht : t.tot ≤ 72057594037927936) :
    Calls Try.prog 72 #[.pointer (some ⟨ab, 0, none⟩), .int .i64 i] w fun e w' => e = .returned (.bool true) ∧
      ∃ p' F' s, s.1 = (i : Int) ∧ TreeAt w' ab p' (delT t s) F' ∧ (∀ z ∈ F', z ∈ F ∨ w.heap.size ≤ z) ∧ OnlyAt (fun z => z = ab ∨ z ∈ F) w w' := by
  have CH := Lib.hid (has_of hT (i : Int) (by omega) (by omega))
  have HT := Lib.hid hT
  have HX := Lib.hid (And.intro hi (And.intro hb (And.intro hc ht)))
  clear hT hi hb hc ht
  go_enter Try.func72, Try.ntmps72
  go_wp2_with fail
  refine CH.out.mono ?_
  rintro e w2 ⟨rfl, hb2⟩
  have HB2 := Lib.hid hb2
  clear hb2
  have hmf := run_makeFunc
  go_wp2_with fail
  obtain ⟨w3, hw3⟩ : ∃ w3, w3 = w2.alloc (.cells #[.int .i64 i, .int .i64 0, .int .i64 0, .int .i64 0] 79) := ⟨_, rfl⟩
  have hb3 : Below w2.heap.size w2 w3 := by rw [hw3]; exact (Below.refl _ _).alloc (Nat.le_refl _) _
  have hS : SAt w3 w2.heap.size i 0 0 := by rw [hw3]; exact search_new w2 i
  rw [← hw3]
  have hz := HB2.out.size
  have hT3 := (HT.out.below HB2.out).below hb3
  have hlow := HT.out.low
  obtain ⟨hi, hb, hc, ht⟩ := HX.out
  refine (change_any (place_leads' w2.heap.size) take_acts Try.enters63 Try.enters79 place_goes (fun _ _ h => h) t ((i : Int), 0, 0) w3 ab 0 p F hT3.place hT3.lies hT3.out (fun z hz' => ?_) ?_ trivial ?_ (by omega) (by omega)).mono ?_
  · rcases hz' with e | e
    · refine ⟨e ▸ hS.lt, fun h => ?_, fun h => ?_⟩
      · have := hlow z (.inr h); omega
      · have := hlow z (.inl h); omega
    · exact e.elim
  · exact sat_eq hS (by simp) rfl rfl
  · exact ⟨⟨by simp, by simp; omega, by simp, by simp; omega⟩, hb, by simp, by simp; omega, by omega, by omega⟩
  rintro e w4 ⟨rfl, ho4, p4, F4, hl4, hF4, hset4, -⟩
  have hr4 : w4.heap[ab]? = some (.cells #[.pointer p4] 73 (0, 0)) := hset4 _ _ _ hT3.root
  have hz3 : w3.heap.size = w2.heap.size + 1 := by rw [hw3]; exact World.size_alloc _ _
  have HR := Lib.hid hr4
  have HL := Lib.hid hl4
  have HF := Lib.hid (And.intro hF4 (And.intro hz3 hz))
  have HO := Lib.hid (((OnlyAt.of_below (T := fun z => (z = ab ∨ z ∈ F) ∨ w.heap.size ≤ z) HB2.out).trans (OnlyAt.of_below hb3)).trans (ho4.mono fun z hz' => by
    rcases hz' with e | e | e | e
    · exact .inl (.inl e)
    · exact .inl (.inr e)
    · exact .inr (by omega)
    · exact e.elim))
  clear hr4 hl4 hF4 hset4 ho4 hT3 hS hb3 hlow hi hb hc ht hz3 hz
  go_wp2_with fail
  go_ret
  obtain ⟨hF4, hz3, hz⟩ := HF.out
  refine ⟨rfl, p4, F4, ((i : Int), 0, 0), rfl, ⟨HR.out, HL.out, fun h => ?_⟩, fun z hz' => (hF4 z hz').imp id (fun h => by omega), HO.out.old⟩
  rcases hF4 ab h with e | e
  · exact HT.out.out e
  · have := HT.out.lt; omega

theorem remove_says (base : Nat) (w : World) (a : Addr) (L : List It) (h : Nat) (i : Nat) (hr : RepT base w a L h) (hs : base ≤ w.heap.size) (hi : i < L.length) :
    Calls Try.prog 72 #[.pointer (some a), .int .i64 i] w fun e w' => e = .returned (.bool true) ∧ (∃ h', RepT base w' a (dropL L i) h') ∧ Below base w w' := by
  obtain ⟨ab, p, t, F, rfl, hT, hF, e, eh, hb, h1, h2⟩ := hr
  obtain ⟨b1, b2, b3, b4⟩ := rep_bounds e h1 h2
  refine (remove_of hT i (by omega) hb b3 b4).mono ?_
  rintro e' w' ⟨he, p', F', s, hs1, hT', hF', ho⟩
  have hi' : i < t.cnt := by omega
  refine ⟨he, ⟨_, ab, p', _, F', rfl, hT', fun z hz => ?_, ?_, rfl, (del_bal t i s hs1 hi' hb).1, dropL_all h1, ?_⟩, ?_⟩
  · rcases hz with e1 | e1
    · exact hF z (.inl e1)
    · exact (hF' z e1).elim (fun h => hF z (.inr h)) (fun h => by omega)
  · rw [del_toL t i s hs1 hi', e]
  · rw [dropL_length L i hi]; omega
  · exact ⟨ho.os, ho.tape, ho.output, ho.size, fun k hk => ho.block k (by omega) (fun hz => by have := hF k hz; omega)⟩

set_option maxRecDepth 100000 in
set_option maxHeartbeats 4000000 in
theorem insert_of {w : World} {ab : Nat} {p : Option Addr} {t : AT} {F : List Nat} (hT : TreeAt w ab p t F) (i : Nat) (key : Int) (size : Nat) (hi : i ≤ t.cnt) (hz : size ≤ 1099511627776) (hb : t.Bal) (hc : t.cnt < 65536) (ht : t.tot ≤ 72057594037927936) :
    Calls Try.prog 25 #[.pointer (some ⟨ab, 0, none⟩), .int .i64 i, .int .i64 key, .int .i64 size] w fun e w' => e = .returned (.bool true) ∧
      ∃ p' F', TreeAt w' ab p' (t.ins i (key, size)) F' ∧ (∀ z ∈ F', z ∈ F ∨ w.heap.size ≤ z) ∧ OnlyAt (fun z => z = ab ∨ z ∈ F) w w' := by
  have CL := Lib.hid (fun wx (hx : Below w.heap.size w wx) => len_of (hT.below hx))
  have HT := Lib.hid hT
  have HX := Lib.hid (And.intro hi (And.intro hz (And.intro hb (And.intro hc ht))))
  obtain ⟨C, hC⟩ : ∃ C : Int, C = t.cnt := ⟨_, rfl⟩
  obtain ⟨I, hI⟩ : ∃ I : Int, I = i := ⟨_, rfl⟩
  obtain ⟨Z, hZ⟩ : ∃ Z : Int, Z = size := ⟨_, rfl⟩
  rw [← hC] at CL
  have i0 : 0 ≤ I := by omega
  have i1 : I ≤ C := by omega
  have c1 : C < 65536 := by omega
  have z0 : 0 ≤ Z := by omega
  have z1 : Z ≤ 1099511627776 := by omega
  have CF := Lib.hid (fun wx => fits_of wx Z z0 z1)
  have HE := Lib.hid (And.intro hC (And.intro hI hZ))
  rw [← hI, ← hZ]
  clear hT hi hz hb hc ht hC hI hZ z0 z1
  obtain ⟨w2, hw2⟩ : ∃ w2, w2 = (w.alloc (.cells #[.int .i64 key] 3)).alloc (.cells #[.int .i64 Z] 3) := ⟨_, rfl⟩
  have hb2 : Below w.heap.size w w2 := by rw [hw2]; exact below_alloc (below_alloc (Below.refl _ _) _) _
  have hk2 : w2.cell? ⟨w.heap.size, 0, none⟩ = some (.int .i64 key) := by
    rw [hw2]; simp only [World.cell?]; rw [look_old _ _ (by rw [World.size_alloc]; omega), look_same _ _ rfl]; rfl
  have hz2 : w2.cell? ⟨w.heap.size + 1, 0, none⟩ = some (.int .i64 Z) := by
    rw [hw2]; simp only [World.cell?]; rw [look_same _ _ (by rw [World.size_alloc])]; rfl
  have HK := Lib.hid (And.intro hk2 hz2)
  have HB2 := Lib.hid hb2
  have HW := Lib.hid hw2
  clear hk2 hb2 hw2
  have hmf := run_makeFunc
  go_enter Try.func25, Try.ntmps25
  go_wp2_with fail
  rw [← HW.out]
  refine (CL.out _ HB2.out).mono ?_
  rintro e w3 ⟨rfl, hb3⟩
  have k3 : w3.cell? ⟨w.heap.size, 0, none⟩ = some (.int .i64 key) := (hb3.cell (p := ⟨_, 0, none⟩) (World.block_lt_of_cell? w2 _ HK.out.1)).trans HK.out.1
  have z3 : w3.cell? ⟨w.heap.size + 1, 0, none⟩ = some (.int .i64 Z) := (hb3.cell (p := ⟨_, 0, none⟩) (World.block_lt_of_cell? w2 _ HK.out.2)).trans HK.out.2
  have HB3 := Lib.hid (HB2.out.trans (hb3.mono HB2.out.size))
  have K3 := Lib.hid k3
  clear hb3 k3
  go_wp2_with fail
  refine (CF.out _).mono ?_
  rintro e w4 ⟨rfl, rfl⟩
  go_wp2_with fail
  refine (CL.out _ HB3.out).mono ?_
  rintro e w5 ⟨rfl, hb5⟩
  have k5 : w5.cell? ⟨w.heap.size, 0, none⟩ = some (.int .i64 key) := (hb5.cell (p := ⟨_, 0, none⟩) (World.block_lt_of_cell? w4 _ K3.out)).trans K3.out
  have z5 : w5.cell? ⟨w.heap.size + 1, 0, none⟩ = some (.int .i64 Z) := (hb5.cell (p := ⟨_, 0, none⟩) (World.block_lt_of_cell? w4 _ z3)).trans z3
  have HB5 := Lib.hid (HB3.out.trans (hb5.mono HB3.out.size))
  have K5 := Lib.hid (And.intro k5 z5)
  clear hb5 k5 z5 z3
  go_wp2_with fail
  obtain ⟨w6, hw6⟩ : ∃ w6, w6 = w5.alloc (.cells #[.int .i64 I, .int .i64 0, .int .i64 0, .int .i64 0] 79) := ⟨_, rfl⟩
  have hb6 : Below w5.heap.size w5 w6 := by rw [hw6]; exact (Below.refl _ _).alloc (Nat.le_refl _) _
  have hS : SAt w6 w5.heap.size I 0 0 := by rw [hw6]; exact search_new w5 I
  rw [← hw6]
  have hz := HB5.out.size
  have hT6 := (HT.out.below HB5.out).below hb6
  have hlow := HT.out.low
  obtain ⟨hi, hzz, hb, hc, ht⟩ := HX.out
  obtain ⟨hC, hI, hZ⟩ := HE.out
  have lk := World.block_lt_of_cell? w5 _ K5.out.1
  have lz := World.block_lt_of_cell? w5 _ K5.out.2
  have k6 : w6.cell? ⟨w.heap.size, 0, none⟩ = some (.int .i64 key) := (hb6.cell (p := ⟨_, 0, none⟩) lk).trans K5.out.1
  have z6 : w6.cell? ⟨w.heap.size + 1, 0, none⟩ = some (.int .i64 size) := by rw [← hZ]; exact (hb6.cell (p := ⟨_, 0, none⟩) lz).trans K5.out.2
  have lk' : w.heap.size < w5.heap.size := lk
  have lz' : w.heap.size + 1 < w5.heap.size := lz
  have hz6 : w6.heap.size = w5.heap.size + 1 := by rw [hw6]; exact World.size_alloc _ _
  have hch : chg gapStep (putAct (key, size)) t (I, 0, 0) = t.ins i (key, size) := put_chg (key, size) t i (I, 0, 0) hI
  refine (change_any (gap_leads w5.heap.size) (put_acts w.heap.size (w.heap.size + 1) (key, size) hzz) Try.enters37 Try.enters38 gap_goes (fun z h k => by omega) t (I, 0, 0) w6 ab 0 p F hT6.place hT6.lies hT6.out (fun z hz' => ?_) ?_ ⟨k6, z6⟩ ?_ (by omega) (by omega)).mono ?_
  · have hzl : z < w6.heap.size ∧ w.heap.size ≤ z := by rcases hz' with e | e | e <;> omega
    refine ⟨hzl.1, fun h => ?_, fun h => ?_⟩
    · have := hlow z (.inr h); omega
    · have := hlow z (.inl h); omega
  · exact sat_eq hS (by simp) rfl rfl
  · exact ⟨by simp, by simp; omega, by simp, by simp; omega⟩
  rintro e w7 ⟨rfl, ho7, p7, F7, hl7, hF7, hset7, -⟩
  rw [hch] at hl7
  have hr7 : w7.heap[ab]? = some (.cells #[.pointer p7] 73 (0, 0)) := hset7 _ _ _ hT6.root
  have HR := Lib.hid hr7
  have HL := Lib.hid hl7
  have HF := Lib.hid (And.intro hF7 (And.intro hz6 lk'))
  have HO := Lib.hid (((OnlyAt.of_below (T := fun z => (z = ab ∨ z ∈ F) ∨ w.heap.size ≤ z) HB5.out).trans (OnlyAt.of_below hb6)).trans (ho7.mono fun z hz' => by
    rcases hz' with e | e | e | e | e
    · exact .inl (.inl e)
    · exact .inl (.inr e)
    · exact .inr (by omega)
    · exact .inr (by omega)
    · exact .inr (by omega)))
  clear hr7 hl7 hF7 hset7 ho7 hT6 hS hb6 hlow hi hzz hb hc ht hz6 hz hC hI hZ lk lz k6 z6 lk' lz' hch
  go_wp2_with fail
  go_ret
  obtain ⟨hF7, hz6, hz⟩ := HF.out
  refine ⟨rfl, p7, F7, ⟨HR.out, HL.out, fun h => ?_⟩, fun z hz' => (hF7 z hz').imp id (fun h => by omega), HO.out.old⟩
  rcases hF7 ab h with e | e
  · exact HT.out.out e
  · have := HT.out.lt; omega

theorem insert_says (base : Nat) (w : World) (a : Addr) (L : List It) (h : Nat) (i : Nat) (key : Int) (size : Nat) (hr : RepT base w a L h) (hs : base ≤ w.heap.size) (hi : i ≤ L.length) (hz : size ≤ 1099511627776) (hn : L.length < 65536) :
    Calls Try.prog 25 #[.pointer (some a), .int .i64 i, .int .i64 key, .int .i64 size] w fun e w' => e = .returned (.bool true) ∧ (∃ h', RepT base w' a (putL L i (key, size)) h') ∧ Below base w w' := by
  obtain ⟨ab, p, t, F, rfl, hT, hF, e, eh, hb, h1, h2⟩ := hr
  obtain ⟨b1, b2, b3, b4⟩ := rep_bounds e h1 h2
  refine (insert_of hT i key size (by omega) hz hb (by omega) b4).mono ?_
  rintro e' w' ⟨he, p', F', hT', hF', ho⟩
  refine ⟨he, ⟨_, ab, p', _, F', rfl, hT', fun z hz => ?_, ?_, rfl, (AT.ins_bal t i (key, size) hb).1, putL_all h1 hz, ?_⟩, ?_⟩
  · rcases hz with e1 | e1
    · exact hF z (.inl e1)
    · exact (hF' z e1).elim (fun h => hF z (.inr h)) (fun h => by omega)
  · rw [AT.ins_toL t i (key, size) (by omega), e]
  · rw [putL_length L i (key, size) hi]; omega
  · exact ⟨ho.os, ho.tape, ho.output, ho.size, fun k hk => ho.block k (by omega) (fun hz => by have := hF k hz; omega)⟩
end Go.Proofs.Ytfdnlbeancdajaa.Avl
