/- take: a node out of its tree; the first one of its right side comes up in its place. -/
import Derived.Test.YtfdnlbeancdajaaTLeads
import Derived.Shelf.Abstract
namespace Go.Proofs.Ytfdnlbeancdajaa.Avl
open Go Go.RowKit
attribute [local go_sem] fld0 fld1 fld2 wrap_one wrap_zero

theorem AT.fx_bal {t : AT} (h : t.Bal) : t.fx = t := by
  cases t with
  | nil => rfl
  | node l x r => exact AT.fix_same h.2.2.1 h.2.2.2

/-- What take's own change does at the first node's place. -/
def popAct : AT → AT
  | .nil => .nil
  | .node _ _ r => r
def popPost (B : Nat) (y : It) (G : Nat → Prop) (w : World) (S : Nat → Prop) : Prop :=
  ∃ n lp rp i s h, PlaceAt w B 0 (.pointer (some ⟨n, 0, none⟩)) ∧ w.heap[n]? = some (.cells (raw lp rp y i s h) 85 (0, 0)) ∧ G n ∧ ¬ S n

set_option maxRecDepth 100000 in
theorem pop_acts (B : Nat) (y : It) : Acts 81 #[] #[.pointer (some ⟨B, 0, none⟩)] (fun z => z = B) (fun w => ∃ v, PlaceAt w B 0 v) (fun t => ∃ r, t = .node .nil y r) popAct (popPost B y) where
  call := fun w pb po p t F hp hl hpn hT hC hO hc ht => by
    obtain ⟨r, rfl⟩ := hO
    obtain ⟨v, hB⟩ := hC
    obtain ⟨n, lp, rp, Fl, Fr, rfl, rfl, hn, ⟨rfl, rfl⟩, hr, ⟨-, nr⟩, -⟩ := hl
    show Calls Try.prog 81 #[.pointer (some ⟨pb, po, none⟩), .pointer (some ⟨B, 0, none⟩)] w _
    have pc := hp.cell
    have pf := hp.free
    have bc := hB.cell
    have bf := hB.free
    obtain ⟨c0, c1, -⟩ := raw_cells hn
    obtain ⟨hBF, hBp⟩ := hT B rfl
    have hnB : n ≠ B := fun e => hBF (by simp [e])
    have hnp : n ≠ pb := fun e => hpn (by simp [e])
    have HP := Lib.hid hp
    have HB := Lib.hid hB
    have HN := Lib.hid hn
    have HR := Lib.hid hr
    have HX := Lib.hid (And.intro nr (And.intro hBF hpn))
    clear hp hpn hT hc ht hB hn hr nr hBF c0
    go_enter Try.func81, Try.ntmps81
    go_wp2_with fail
    go_end0
    obtain ⟨nr, hBF, hpn⟩ := HX.out
    have o1 := only1 w ⟨B, 0, none⟩ (.pointer (some ⟨n, 0, none⟩))
    have o2 := only1 (w.setCell ⟨B, 0, none⟩ (.pointer (some ⟨n, 0, none⟩))) ⟨pb, po, none⟩ (.pointer rp)
    have ho := (o1.mono (T' := fun z => z = pb ∨ z = B) fun z hz => .inr hz).trans (o2.mono fun z hz => .inl hz)
    refine ⟨rfl, ho.mono fun z hz => hz.imp id .inr, rp, Fr, Stale.of_lies (HR.out.only ho fun z hz e => ?_), fun z hz => .inl (by simp [hz]), ?_, n, none, rp, _, _, _, ?_, (set_other _ _ _ hnp).trans ((set_other _ _ _ hnB).trans HN.out), by simp, nr⟩
    · rcases e with e | e
      · exact hpn (by rw [← e]; simp [hz])
      · exact hBF (by rw [← e]; simp [hz])
    · exact (SetAt.of_set _ ⟨pb, po, none⟩ _ rfl).before o1 (fun e => hBp e.symm)
    · exact (HB.out.set (SetAt.of_set _ _ _ rfl)).only o2 hBp
  keep := fun w w' S ⟨v, h⟩ ho hT => ⟨v, h.only ho (hT B rfl)⟩
  size := fun t ⟨r, h⟩ => by subst h; simp only [popAct, AT.cnt, AT.tot]; omega
  up := fun G G' w S S' ⟨n, lp, rp, i, s, h, h1, h2, h3, h4⟩ hG hS => ⟨n, lp, rp, i, s, h, h1, h2, hG n h3, fun e => (hS n e).elim h4 (fun k => k h3)⟩
  mend := fun G w w' S S' pb ⟨n, lp, rp, i, s, h, h1, h2, h3, h4⟩ ho hG hT hS => by
    have hn := (Array.getElem?_eq_some_iff.1 h2).1
    have hnp : ¬ (n = pb ∨ S n) := fun e => e.elim (fun e => hG (e ▸ h3)) h4
    refine ⟨n, lp, rp, i, s, h, h1.only ho (fun e => e.elim (hT B rfl).2 (hT B rfl).1), (ho.block n hn hnp).trans h2, h3, fun e => (hS n e).elim h4 (fun k => by omega)⟩

theorem pop_goes (y : It) : Goes firstStep (fun t => ∃ r, t = .node .nil y r) (fun t _ => ∃ a z m, t = .node a z m ∧ (AT.pop a z m).1 = y) where
  nil := fun s ⟨a, z, m, h, _⟩ => by cases h
  l := fun s l x r ⟨a, z, m, h, hy⟩ hw => by
    cases h
    cases l with
    | nil => cases hw
    | node a' z' m' => exact ⟨a', z', m', rfl, hy⟩
  r := fun s l x r _ hw => by
    cases l with
    | nil => cases hw
    | node a' z' m' => cases hw
  h := fun s l x r ⟨a, z, m, h, hy⟩ hw => by
    cases h
    cases l with
    | nil => exact ⟨_, by rw [← hy]; rfl⟩
    | node a' z' m' => cases hw
theorem pop_chg : ∀ (l : AT) (x : It) (r : AT), (AT.node l x r).Bal → chg firstStep popAct (.node l x r) () = (AT.pop l x r).2
  | .nil, x, r, h => by
    rw [chg_h rfl]
    exact AT.fx_bal h.2.1
  | .node a y m, x, r, h => by
    rw [chg_l rfl, AT.pop]
    have := pop_chg a y m h.1
    show AT.fix (chg firstStep popAct (.node a y m) ()) x r = _
    rw [this]

theorem Try.enters80 : ∀ args w, (callFunc 80 args).run Try.prog w = .ok (.enter 80 args) w := enters_of Try.func80 rfl rfl
theorem Try.enters81 : ∀ args w, (callFunc 81 args).run Try.prog w = .ok (.enter 81 args) w := enters_of Try.func81 rfl rfl

theorem pop_change {w : World} {N pb po : Nat} {p : Option Addr} {v : Value} {a m : AT} {y : It} {F : List Nat} (hN : PlaceAt w N 0 v) (hp : PlaceAt w pb po (.pointer p)) (hl : LiesT w p (.node a y m) F) (hpn : pb ∉ F) (hNF : N ∉ F) (hNp : N ≠ pb)
    (hb : (AT.node a y m).Bal) (hc : (AT.node a y m).cnt ≤ 700000) (ht : (AT.node a y m).tot ≤ 800000000000000000) :
    Calls Try.prog 36 #[.pointer (some ⟨pb, po, none⟩), .func (.func 80) #[] #[], .func (.func 81) #[] #[.pointer (some ⟨N, 0, none⟩)]] w fun e w' => e = .returned (.tuple #[]) ∧
      Changed w w' pb po (AT.pop a y m).2 F (fun z => False ∨ z = N) (popPost N (AT.pop a y m).1) := by
  rw [← pop_chg a y m hb]
  exact change_any (first_leads _) (pop_acts N _) Try.enters80 Try.enters81 (pop_goes _) (fun _ h => h.elim) _ () w pb po p F hp hl hpn (fun z hz => by
    rcases hz with e | e
    · exact e.elim
    · exact ⟨e ▸ hN.lt, e ▸ hNF, e ▸ hNp⟩) trivial ⟨v, hN⟩ ⟨a, y, m, rfl, rfl⟩ hc ht

/-- What take does at a node's place. -/
def takeAct : AT → AT
  | .nil => .nil
  | .node l _ .nil => l
  | .node l _ (.node a y m) => .node l (AT.pop a y m).1 (AT.pop a y m).2

set_option maxRecDepth 100000 in
theorem take_end {w : World} {pb po : Nat} {n : Nat} {lp rp : Option Addr} {l : AT} {x : It} {Fl : List Nat} {T : Nat → Prop} (hp : PlaceAt w pb po (.pointer (some ⟨n, 0, none⟩))) (hn : AtNode w n lp rp x l .nil Fl []) (hpn : pb ∉ n :: (Fl ++ [])) :
    Calls Try.prog 79 #[.pointer (some ⟨pb, po, none⟩)] w fun e w' => e = .returned (.tuple #[]) ∧ OnlyAt (fun z => z = pb ∨ z ∈ n :: (Fl ++ []) ∨ T z) w w' ∧
      ∃ p' F', Stale w' p' l F' ∧ (∀ z ∈ F', z ∈ n :: (Fl ++ []) ∨ w.heap.size ≤ z) ∧ SetAt ⟨pb, po, none⟩ (.pointer p') w w' ∧ True := by
  obtain ⟨rfl, -⟩ := hn.right
  have pc := hp.cell
  have pf := hp.free
  obtain ⟨c0, c1, -⟩ := hn.cells
  have HN := Lib.hid hn
  have HX := Lib.hid hpn
  clear hp hn hpn
  go_enter Try.func79, Try.ntmps79
  go_wp2_with fail
  refine bodyPost_ret (results_none rfl _ _ _) rfl ?_
  have o1 := only1 w ⟨pb, po, none⟩ (.pointer lp)
  exact ⟨rfl, o1.mono fun z hz => .inl hz, lp, Fl, Stale.of_lies (HN.out.left.only o1 fun z hz e => HX.out (by rw [← (show z = pb from e)]; simp [hz])), fun z hz => .inl (by simp [hz]), SetAt.of_set w ⟨pb, po, none⟩ _ rfl, trivial⟩

set_option maxRecDepth 100000 in
set_option maxHeartbeats 4000000 in
theorem take_mid {w : World} {pb po : Nat} {b : Nat} {lp rp : Option Addr} {l a m : AT} {x y : It} {Fl Fr : List Nat} {T : Nat → Prop} (hp : PlaceAt w pb po (.pointer (some ⟨b, 0, none⟩))) (hn : AtNode w b lp rp x l (.node a y m) Fl Fr) (hpn : pb ∉ b :: (Fl ++ Fr))
    (hb : (AT.node a y m).Bal) (hc : (AT.node a y m).cnt ≤ 700000) (ht : (AT.node a y m).tot ≤ 800000000000000000) :
    Calls Try.prog 79 #[.pointer (some ⟨pb, po, none⟩)] w fun e w' => e = .returned (.tuple #[]) ∧ OnlyAt (fun z => z = pb ∨ z ∈ b :: (Fl ++ Fr) ∨ T z) w w' ∧
      ∃ p' F', Stale w' p' (.node l (AT.pop a y m).1 (AT.pop a y m).2) F' ∧ (∀ z ∈ F', z ∈ b :: (Fl ++ Fr) ∨ w.heap.size ≤ z) ∧ SetAt ⟨pb, po, none⟩ (.pointer p') w w' ∧ True := by
  have hmf : ∀ (fn : Fn) (first cap : Array Value) (w : World), (Instr.makeFunc fn first cap).run Try.prog w = .ok (.func fn first cap) w := fun _ _ _ _ => rfl
  obtain ⟨u, ap, mp, Fa, Fm, rfl, -⟩ := id hn.right
  have pc := hp.cell
  obtain ⟨c0, c1, -⟩ := hn.cells
  obtain ⟨wa, hwa⟩ : ∃ wa, wa = w.alloc (.cells #[.pointer none] 71) := ⟨_, rfl⟩
  obtain ⟨N, hN⟩ : ∃ N, N = w.heap.size := ⟨_, rfl⟩
  have hba : Below w.heap.size w wa := by rw [hwa]; exact (Below.refl _ _).alloc (Nat.le_refl _) _
  have hPN : PlaceAt wa N 0 (.pointer none) := ⟨#[.pointer none], 71, by rw [hwa, hN]; exact look_same w _ rfl, rfl⟩
  have na := hn.below hba
  have hlow : ∀ z ∈ b :: (Fl ++ Fr), z < w.heap.size := fun z hz => by
    simp only [List.mem_cons, List.mem_append] at hz
    rcases hz with e | e | e
    · exact e ▸ hn.lt
    · exact hn.left.lt z e
    · exact hn.right.lt z e
  have hNF : N ∉ b :: (Fl ++ Fr) := fun e => by have := hlow N e; omega
  have CP := Lib.hid (pop_change (v := .pointer none) hPN na.side1 na.right na.nr (fun e => hNF (by simp [e])) (fun e => hNF (by simp [e])) hb hc ht)
  have HN := Lib.hid na
  have HP := Lib.hid hp
  have HPN := Lib.hid hPN
  have HW := Lib.hid (And.intro hwa hN)
  have HB := Lib.hid hba
  have HX := Lib.hid (And.intro hpn (And.intro hlow hNF))
  have HL := Lib.hid hp.lt
  clear hp hn hpn hb hc ht na hba hPN hlow hNF hwa hN
  go_enter Try.func79, Try.ntmps79
  go_wp2_with fail
  rw [← HW.out.1, ← HW.out.2]
  refine CP.out.mono ?_
  rintro e w2 ⟨rfl, ho2, p2, F2, hl2, hF2, hset2, n, lp', rp', i', s', h', hB2, hn2, hnG, hnS⟩
  have hz2 := ho2.size
  have hz : wa.heap.size = w.heap.size + 1 := by rw [HW.out.1]; exact World.size_alloc _ _
  obtain ⟨iB, sB, kB, hbB⟩ := HN.out.here
  have hb2 : w2.heap[b]? = some (.cells (raw lp p2 x iB sB kB) 85 (0, 0)) := hset2 _ _ _ hbB
  obtain ⟨e0, e1, -⟩ := raw_cells hb2
  obtain ⟨f0, f1, -⟩ := raw_cells hn2
  have ff := fun o => raw_free hn2 o
  have bc := hB2.cell
  have hnF : n ∈ b :: (Fl ++ Fr) := by simp [show n ∈ Fr from hnG]
  have hbn : b ≠ n := fun e => HN.out.nr (e ▸ hnG)
  have hNn : N ≠ n := fun e => HX.out.2.2 (e ▸ hnF)
  have hpn' : pb ≠ n := fun e => HX.out.1 (e ▸ hnF)
  have hnp' : n ≠ pb := fun e => hpn' e.symm
  have hl := HL.out
  have hpN : pb ≠ N := by have := HW.out.2; omega
  have hp2 : PlaceAt w2 pb po (.pointer (some ⟨b, 0, none⟩)) := (HP.out.only (OnlyAt.of_below (T := fun _ => False) HB.out) id).only ho2 (fun e => by
    rcases e with e | e | e | e
    · exact HX.out.1 (by simp [e])
    · exact HX.out.1 (by simp [e])
    · exact e.elim
    · exact hpN e)
  have pc2 := hp2.cell
  have pf2 := hp2.free
  have HO2 := Lib.hid ho2
  have HL2 := Lib.hid hl2
  have HF2 := Lib.hid hF2
  have HN2 := Lib.hid hn2
  have HY := Lib.hid (And.intro (show n ∈ Fr from hnG) (show n ∉ F2 from hnS))
  have HZ := Lib.hid hz
  clear ho2 hl2 hF2 hset2 hB2 hn2 hnG hnS hz2 hz hbB hb2 hnF hl hp2 c0 c1 pc
  go_wp2_with fail
  go_region
  have o3 := ((only1 w2 ⟨n, 0, none⟩ (.pointer lp)).trans (only1 _ ⟨n, 1, none⟩ (.pointer p2))).trans (OnlyAt.drew _ _)
  have h3 : (((w2.setCell ⟨n, 0, none⟩ (.pointer lp)).setCell ⟨n, 1, none⟩ (.pointer p2)).drew).heap[n]? = some (.cells (raw lp p2 (AT.pop a y m).1 i' s' h') 85 (0, 0)) := raw_side1 (raw_side0 HN2.out lp) p2
  have O3 := Lib.hid o3
  have H3 := Lib.hid h3
  clear o3 h3
  go_wp2_with fail
  go_end0
  rw [← World.setCell_drew]
  generalize ((w2.setCell ⟨n, 0, none⟩ (.pointer lp)).setCell ⟨n, 1, none⟩ (.pointer p2)).drew = w3 at O3 H3 ⊢
  have o4 := only1 w3 ⟨pb, po, none⟩ (.pointer (some ⟨n, 0, none⟩))
  obtain ⟨hnr, hnf⟩ := HY.out
  have hpF2 : pb ∉ F2 := fun e => by
    rcases HF2.out pb e with h | h
    · exact HX.out.1 (by simp [h])
    · have := HZ.out; have := HL.out; omega
  have ho23 : OnlyAt (fun z => z = b ∨ z ∈ Fr ∨ z = N) wa w3 := (HO2.out.mono fun z hz => hz.imp id (fun h => h.imp id (fun h => h.elim False.elim id))).trans (O3.out.mono fun z hz => .inr (.inl (by rw [show z = n from hz]; exact hnr)))
  refine ⟨rfl, OnlyAt.old ((OnlyAt.of_below HB.out).trans ((ho23.mono fun z hz => ?_).trans (o4.mono fun z hz => .inl (.inl hz)))), some ⟨n, 0, none⟩, n :: (Fl ++ F2), ⟨n, lp, p2, Fl, F2, rfl, rfl, ⟨⟨_, _, _, (set_other w3 _ _ hnp').trans H3.out⟩, ?_, ?_, ?_, hnf, ?_⟩⟩, fun z hz => ?_, ?_⟩
  · rcases hz with e | e | e
    · exact .inl (.inr (.inl (by simp [e])))
    · exact .inl (.inr (.inl (by simp [e])))
    · exact .inr (by have := HW.out.2; omega)
  · refine (HN.out.left.only ho23 fun z hz e => ?_).only o4 fun z hz e => HX.out.1 (by rw [← (show z = pb from e)]; simp [hz])
    rcases e with e | e | e
    · exact HN.out.nl (e ▸ hz)
    · exact HN.out.apart z hz e
    · exact HX.out.2.2 (by rw [← e]; simp [hz])
  · exact (HL2.out.only O3.out fun z hz e => hnf (by rw [← (show z = n from e)]; exact hz)).only o4 fun z hz e => hpF2 (by rw [← (show z = pb from e)]; exact hz)
  · exact fun h => HN.out.apart n h hnr
  · intro z hz e
    rcases HF2.out z e with h | h
    · exact HN.out.apart z hz h
    · have := HX.out.2.1 z (by simp [hz]); have := HZ.out; omega
  · simp only [List.mem_cons, List.mem_append] at hz ⊢
    rcases hz with e | e | e
    · exact .inl (.inr (.inr (e ▸ hnr)))
    · exact .inl (.inr (.inl e))
    · exact (HF2.out z e).imp (fun h => .inr (.inr h)) (fun h => by have := HZ.out; omega)
  · refine (SetAt.of_set w3 ⟨pb, po, none⟩ _ rfl).before ((OnlyAt.of_below HB.out).trans ho23) fun e => ?_
    rcases e with e | e | e
    · exact HX.out.1 (by simp [show pb = b from e])
    · exact HX.out.1 (by simp [show pb ∈ Fr from e])
    · exact hpN e

theorem take_acts : Acts 79 #[] #[] (fun _ => False) (fun _ => True) (fun t => t.Bal ∧ t ≠ .nil ∧ t.cnt ≤ 700000 ∧ t.tot ≤ 800000000000000000) takeAct (fun _ _ _ => True) where
  call := fun w pb po p t F hp hl hpn hT hC hO hc ht => by
    show Calls Try.prog 79 #[.pointer (some ⟨pb, po, none⟩)] w _
    obtain ⟨hb, hne, hc', ht'⟩ := hO
    cases t with
    | nil => exact absurd rfl hne
    | node l x r =>
      obtain ⟨b, lp, rp, Fl, Fr, rfl, rfl, hn⟩ := Stale.of_lies hl
      cases r with
      | nil =>
        have hr := hn.right
        obtain ⟨-, rfl⟩ := hr
        exact take_end hp hn hpn
      | node a y m => exact take_mid hp hn hpn hb.2.1 (by simp only [AT.cnt] at hc' ⊢; omega) (by simp only [AT.tot] at ht' ⊢; omega)
  keep := fun _ _ _ _ _ _ => trivial
  size := fun t hO => by
    cases t with
    | nil => simp [takeAct]
    | node l x r =>
      cases r with
      | nil => simp only [takeAct, AT.cnt, AT.tot]; omega
      | node a y m =>
        have h1 := congrArg List.length (AT.pop_toL a y m)
        have h2 := congrArg total (AT.pop_toL a y m)
        simp only [List.length_append, List.length_cons, AT.len] at h1
        rw [total_append, show total (y :: m.toL) = y.2 + total m.toL by simp [total], show total ((AT.pop a y m).1 :: (AT.pop a y m).2.toL) = (AT.pop a y m).1.2 + total (AT.pop a y m).2.toL by simp [total], AT.total, AT.total, AT.total] at h2
        simp only [takeAct, AT.cnt, AT.tot]
        omega
  up := fun _ _ _ _ _ _ _ _ => trivial
  mend := fun _ _ _ _ _ _ _ _ _ _ _ => trivial
end Go.Proofs.Ytfdnlbeancdajaa.Avl
