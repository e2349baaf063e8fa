/- change: down to a place, a change there, and all nodes mended upward. -/
import Derived.Test.YtfdnlbeancdajaaTMend
namespace Go.Proofs.Ytfdnlbeancdajaa.Avl
open Go Go.RowKit

inductive Way where
  | l | r | h
def Way.num : Way → Int
  | .l => 0
  | .r => 1
  | .h => 2

/-- What a change makes of a tree: by the way that its lead goes, and by what is done at its end. -/
def chg {σ : Type} (step : σ → AT → Way × σ) (act : AT → AT) : AT → σ → AT
  | .nil, _ => (act .nil).fx
  | .node l x r, s => match step s (.node l x r) with
    | (.l, s') => AT.fix (chg step act l s') x r
    | (.r, s') => AT.fix l x (chg step act r s')
    | (.h, _) => (act (.node l x r)).fx

theorem fix_cnt (l : AT) (x : It) (r : AT) : (AT.fix l x r).cnt = l.cnt + r.cnt + 1 := by
  rw [← AT.len, AT.fix_toL, List.length_append, List.length_cons, AT.len, AT.len]; omega
theorem fix_tot (l : AT) (x : It) (r : AT) : (AT.fix l x r).tot = l.tot + x.2 + r.tot := by
  rw [← AT.total, AT.fix_toL, total_append, show total (x :: r.toL) = x.2 + total r.toL by simp [total], AT.total, AT.total]; omega
theorem fx_cnt : ∀ t : AT, t.fx.cnt = t.cnt
  | .nil => rfl
  | .node l x r => by rw [AT.fx, fix_cnt]; rfl
theorem fx_tot : ∀ t : AT, t.fx.tot = t.tot
  | .nil => rfl
  | .node l x r => by rw [AT.fx, fix_tot]; rfl
theorem ht_cnt : ∀ t : AT, t.ht ≤ t.cnt
  | .nil => Nat.le_refl _
  | .node l x r => by
    have := ht_cnt l
    have := ht_cnt r
    simp only [AT.ht, AT.cnt]
    omega

/-- The contract of a lead: it tells the way, writes its own blocks T alone, and bears what is written elsewhere. -/
structure Leads {σ : Type} (k : Nat) (first cap : Array Value) (T : Nat → Prop) (St : σ → World → Prop) (Ok : AT → σ → Prop) (step : σ → AT → Way × σ) : Prop where
  call : ∀ s w b lp rp x l r Fl Fr, AtNode w b lp rp x l r Fl Fr → St s w → Ok (.node l x r) s → (∀ z ∈ b :: (Fl ++ Fr), ¬ T z) → (AT.node l x r).cnt ≤ 1000000 → (AT.node l x r).tot ≤ 1000000000000000000 →
    Calls Try.prog k (first.push (.pointer (some ⟨b, 0, none⟩)) ++ cap) w fun e w' => e = .returned (.int .i64 (step s (.node l x r)).1.num) ∧ St (step s (.node l x r)).2 w' ∧ OnlyAt T w w'
  keep : ∀ s w w' S, St s w → OnlyAt S w w' → (∀ z, T z → ¬ S z) → St s w'
/-- The contract of what is done at a place. -/
structure Acts (k : Nat) (first cap : Array Value) (T : Nat → Prop) (Ac : World → Prop) (Ok : AT → Prop) (act : AT → AT) (Post : (Nat → Prop) → World → (Nat → Prop) → Prop) : Prop where
  call : ∀ w pb po p t F, PlaceAt w pb po (.pointer p) → LiesT w p t F → pb ∉ F → (∀ z, T z → z ∉ F ∧ z ≠ pb) → Ac w → Ok t → t.cnt ≤ 900000 → t.tot ≤ 900000000000000000 →
    Calls Try.prog k (first.push (.pointer (some ⟨pb, po, none⟩)) ++ cap) w fun e w' => e = .returned (.tuple #[]) ∧ OnlyAt (fun z => z = pb ∨ z ∈ F ∨ T z) w w' ∧
      ∃ p' F', Stale w' p' (act t) F' ∧ (∀ z ∈ F', z ∈ F ∨ w.heap.size ≤ z) ∧ SetAt ⟨pb, po, none⟩ (.pointer p') w w' ∧ Post (· ∈ F) w' (· ∈ F')
  keep : ∀ w w' S, Ac w → OnlyAt S w w' → (∀ z, T z → ¬ S z) → Ac w'
  size : ∀ t, Ok t → (act t).cnt ≤ t.cnt + 1 ∧ (act t).tot ≤ t.tot + 1099511627776
  up : ∀ G G' w S S', Post G w S → (∀ z, G z → G' z) → (∀ z, S' z → S z ∨ ¬ G z) → Post G' w S'
  mend : ∀ G w w' S S' pb, Post G w S → OnlyAt (fun z => z = pb ∨ S z) w w' → ¬ G pb → (∀ z, T z → ¬ S z ∧ z ≠ pb) → (∀ z, S' z → S z ∨ w.heap.size ≤ z) → Post G w' S'

/-- A changed place. -/
def Changed (w w' : World) (pb po : Nat) (t : AT) (F : List Nat) (T : Nat → Prop) (Post : (Nat → Prop) → World → (Nat → Prop) → Prop) : Prop :=
  OnlyAt (fun z => z = pb ∨ z ∈ F ∨ T z) w w' ∧ ∃ (p : Option Addr) (F' : List Nat), LiesT w' p t F' ∧ (∀ z ∈ F', z ∈ F ∨ w.heap.size ≤ z) ∧ SetAt ⟨pb, po, none⟩ (.pointer p) w w' ∧ Post (· ∈ F) w' (· ∈ F')

section
variable {σ : Type} {kl ka : Nat} {fl cl fa ca : Array Value} {TL TA : Nat → Prop} {St : σ → World → Prop} {step : σ → AT → Way × σ} {Ok : AT → σ → Prop} {Ac : World → Prop} {OkA : AT → Prop} {act : AT → AT} {Post : (Nat → Prop) → World → (Nat → Prop) → Prop}

/-- Behind what was done at a place, the node there is mended. -/
theorem change_mend (hA : Acts ka fa ca TA Ac OkA act Post) {w w1 : World} {pb po : Nat} {p p1 : Option Addr} {t : AT} {F F1 : List Nat} {T : Nat → Prop} (hp : PlaceAt w pb po (.pointer p)) (_hlt : ∀ z ∈ F, z < w.heap.size) (hpn : pb ∉ F)
    (_hT : ∀ z, TA z → T z) (hTl : ∀ z, TA z → z < w.heap.size ∧ z ∉ F ∧ z ≠ pb) (ho : OnlyAt (fun z => z = pb ∨ z ∈ F ∨ T z) w w1) (hs : Stale w1 p1 t F1) (hF : ∀ z ∈ F1, z ∈ F ∨ w.heap.size ≤ z) (hset : SetAt ⟨pb, po, none⟩ (.pointer p1) w w1) (hP : Post (· ∈ F) w1 (· ∈ F1))
    (hc : t.cnt ≤ 800000) (ht : t.tot ≤ 1000000000000000000) :
    Calls Try.prog 54 #[.pointer (some ⟨pb, po, none⟩)] w1 fun e w' => e = .returned (.tuple #[]) ∧ Changed w w' pb po t.fx F T Post := by
  have hl := hp.lt
  have hpn1 : pb ∉ F1 := fun h => (hF _ h).elim hpn (fun e => by omega)
  refine (mend_stale (hp.set hset) hs hpn1 (by omega) ht (Nat.le_trans (ht_cnt t) hc)).mono ?_
  rintro e w2 ⟨he, ⟨p2, F2, h1, h2, h3⟩, h4⟩
  have hF2 : ∀ z ∈ F2, z ∈ F ∨ w.heap.size ≤ z := fun z hz => (h2 z hz).elim (hF z) (fun e => .inr (Nat.le_trans ho.size e))
  refine ⟨he, OnlyAt.old ((ho.mono fun z hz => .inl hz).trans (h4.mono fun z hz => ?_)), p2, F2, h1, hF2, hset.trans h3, ?_⟩
  · rcases hz with e | e | e
    · exact .inl (.inl e)
    · exact (hF z e).imp (fun e => .inr (.inl e)) id
    · exact e.elim
  · refine hA.mend _ w1 w2 (· ∈ F1) _ pb hP (h4.mono fun z hz => ?_) hpn (fun z hz => ⟨fun e => ?_, (hTl z hz).2.2⟩) h2
    · rcases hz with e | e | e
      · exact .inl e
      · exact .inr e
      · exact e.elim
    · have := hTl z hz
      exact (hF z e).elim this.2.1 (fun e => by omega)

theorem Way.num_l : Way.num .l = 0 := rfl

set_option maxRecDepth 100000 in
set_option maxHeartbeats 4000000 in
/-- At an empty place. -/
theorem change_nil (hA : Acts ka fa ca TA Ac OkA act Post) (ea : ∀ args w, (callFunc ka args).run Try.prog w = .ok (.enter ka args) w) {w : World} {pb po : Nat} (lead : Value)
    (hp : PlaceAt w pb po (.pointer none)) (hT : ∀ z, TL z ∨ TA z → z < w.heap.size ∧ z ∉ ([] : List Nat) ∧ z ≠ pb) (hC : Ac w) (hO : OkA .nil) :
    Calls Try.prog 36 #[.pointer (some ⟨pb, po, none⟩), lead, .func (.func ka) fa ca] w fun e w' => e = .returned (.tuple #[]) ∧ Changed w w' pb po (act .nil).fx [] (fun z => TL z ∨ TA z) Post := by
  have pc := hp.cell
  have CA := Lib.hid (hA.call w pb po none .nil [] hp ⟨rfl, rfl⟩ (by simp) (fun z hz => ⟨by simp, (hT z (.inr hz)).2.2⟩) hC hO (by simp [AT.cnt]) (by simp [AT.tot]))
  have HSZ := Lib.hid (hA.size .nil hO)
  have HP := Lib.hid hp
  have HA := Lib.hid hA
  have HT := Lib.hid hT
  clear hp hT hC hO hA
  go_enter Try.func36, Try.ntmps36
  go_wp2_with fail
  refine CA.out.mono ?_
  rintro e w1 ⟨rfl, ho1, p1, F1, hs1, hF1, hset, hP1⟩
  have CM := Lib.hid (change_mend HA.out HP.out (F := []) (by simp) (by simp) (T := fun z => TL z ∨ TA z) (fun z hz => .inr hz) (fun z hz => HT.out z (.inr hz)) (ho1.mono fun z hz => hz.imp id (fun e => e.imp id .inr)) hs1 hF1 hset hP1
    (by have := HSZ.out.1; simp only [AT.cnt] at this; omega) (by have := HSZ.out.2; simp only [AT.tot] at this; omega))
  clear ho1 hs1 hF1 hset hP1
  go_wp2_with fail
  refine CM.out.mono ?_
  rintro e w2 ⟨rfl, hc2⟩
  have HC2 := Lib.hid hc2
  clear hc2
  go_wp2_with fail
  go_end0
  exact ⟨rfl, HC2.out⟩

set_option maxRecDepth 100000 in
set_option maxHeartbeats 4000000 in
/-- At a node that the lead stops at. -/
theorem change_here (hL : Leads kl fl cl TL St Ok step) (hA : Acts ka fa ca TA Ac OkA act Post) (el : ∀ args w, (callFunc kl args).run Try.prog w = .ok (.enter kl args) w) (ea : ∀ args w, (callFunc ka args).run Try.prog w = .ok (.enter ka args) w)
    {w : World} {pb po : Nat} {p : Option Addr} {F : List Nat} {l r : AT} {x : It} {s : σ} (hp : PlaceAt w pb po (.pointer p)) (hl : LiesT w p (.node l x r) F) (hpn : pb ∉ F)
    (hT : ∀ z, TL z ∨ TA z → z < w.heap.size ∧ z ∉ F ∧ z ≠ pb) (hTT : ∀ z, TL z → ¬ TA z) (hS : St s w) (hOk : Ok (.node l x r) s) (hC : Ac w) (hO : OkA (.node l x r)) (hw : (step s (.node l x r)).1 = .h) (hc : (AT.node l x r).cnt ≤ 700000) (ht : (AT.node l x r).tot ≤ 800000000000000000) :
    Calls Try.prog 36 #[.pointer (some ⟨pb, po, none⟩), .func (.func kl) fl cl, .func (.func ka) fa ca] w fun e w' => e = .returned (.tuple #[]) ∧ Changed w w' pb po (act (.node l x r)).fx F (fun z => TL z ∨ TA z) Post := by
  have pc := hp.cell
  obtain ⟨b, lp, rp, Fl, Fr, rfl, eF, hn⟩ := Stale.of_lies hl
  have CL := Lib.hid (hL.call s w b lp rp x l r Fl Fr hn hS hOk (fun z hz e => (hT z (.inl e)).2.1 (eF ▸ hz)) (by omega) (by omega))
  rw [hw] at CL
  have HSZ := Lib.hid (hA.size _ hO)
  have HP := Lib.hid hp
  have HA := Lib.hid hA
  have HT := Lib.hid hT
  have HC := Lib.hid hC
  have HL := Lib.hid hl
  have HX := Lib.hid (And.intro hpn (And.intro hTT (And.intro hO (And.intro hc ht))))
  clear hp hT hC hO hA hl hpn hTT hS hOk hw hc ht hn eF hL
  go_enter Try.func36, Try.ntmps36
  go_wp2_with fail
  refine CL.out.mono ?_
  rintro e w1 ⟨rfl, -, ho1⟩
  have HO1 := Lib.hid ho1
  clear ho1
  simp only [Way.num]
  go_wp2_with fail
  have hlow : ∀ z ∈ F, z < w.heap.size := HL.out.lt
  have hs1 := HO1.out.size
  refine (HA.out.call w1 pb po _ (.node l x r) F (HP.out.only HO1.out (fun e => (HT.out pb (.inl e)).2.2 rfl)) (HL.out.only HO1.out (fun z hz e => (HT.out z (.inl e)).2.1 hz)) HX.out.1 (fun z hz => (HT.out z (.inr hz)).2) (HA.out.keep _ _ _ HC.out HO1.out (fun z hz e => HX.out.2.1 z e hz)) HX.out.2.2.1 ?_ ?_).mono ?_
  · have := HX.out.2.2.2; omega
  · have := HX.out.2.2.2; omega
  rintro e w2 ⟨rfl, ho2, p2, F2, hs2, hF2, hset, hP2⟩
  have CM := Lib.hid (change_mend HA.out HP.out hlow HX.out.1 (T := fun z => TL z ∨ TA z) (fun z hz => .inr hz) (fun z hz => HT.out z (.inr hz)) ((HO1.out.mono fun z hz => .inr (.inr (.inl hz))).trans (ho2.mono fun z hz => hz.imp id (fun e => e.imp id .inr))) hs2
    (fun z hz => (hF2 z hz).imp id (fun e => Nat.le_trans hs1 e)) (hset.before HO1.out (fun e => (HT.out pb (.inl e)).2.2 rfl)) hP2
    (by have := HSZ.out.1; have := HX.out.2.2.2; omega) (by have := HSZ.out.2; have := HX.out.2.2.2; omega))
  clear ho2 hs2 hF2 hset hP2
  go_wp2_with fail
  refine CM.out.mono ?_
  rintro e w3 ⟨rfl, hc3⟩
  have HC3 := Lib.hid hc3
  clear hc3
  go_wp2_with fail
  go_end0
  exact ⟨rfl, HC3.out⟩
set_option maxRecDepth 100000 in
set_option maxHeartbeats 4000000 in
/-- At a node that the lead leaves to the left. -/
theorem change_left (hL : Leads kl fl cl TL St Ok step) (hA : Acts ka fa ca TA Ac OkA act Post) (el : ∀ args w, (callFunc kl args).run Try.prog w = .ok (.enter kl args) w)
    {w : World} {pb po : Nat} {p : Option Addr} {F : List Nat} {l r t' : AT} {x : It} {s s0 : σ} (hp : PlaceAt w pb po (.pointer p)) (hl : LiesT w p (.node l x r) F) (hpn : pb ∉ F)
    (hT : ∀ z, TL z ∨ TA z → z < w.heap.size ∧ z ∉ F ∧ z ≠ pb) (hTT : ∀ z, TL z → ¬ TA z) (hS : St s w) (hOk : Ok (.node l x r) s) (hC : Ac w) (hw : (step s (.node l x r)).1 = .l) (hc : (AT.node l x r).cnt ≤ 700000) (ht : (AT.node l x r).tot ≤ 800000000000000000)
    (ih : ∀ (s : σ) (w : World) (pb po : Nat) (p : Option Addr) (F : List Nat), PlaceAt w pb po (.pointer p) → LiesT w p l F → pb ∉ F → (∀ z, TL z ∨ TA z → z < w.heap.size ∧ z ∉ F ∧ z ≠ pb) → St s w → Ac w → s = (step s0 (.node l x r)).2 →
      Calls Try.prog 36 #[.pointer (some ⟨pb, po, none⟩), .func (.func kl) fl cl, .func (.func ka) fa ca] w fun e w' => e = .returned (.tuple #[]) ∧ Changed w w' pb po t' F (fun z => TL z ∨ TA z) Post)
    (hs0 : s0 = s) (hct : t'.cnt ≤ l.cnt + 1) (htt : t'.tot ≤ l.tot + 1099511627776) :
    Calls Try.prog 36 #[.pointer (some ⟨pb, po, none⟩), .func (.func kl) fl cl, .func (.func ka) fa ca] w fun e w' => e = .returned (.tuple #[]) ∧ Changed w w' pb po (AT.fix t' x r) F (fun z => TL z ∨ TA z) Post := by
  have pc := hp.cell
  obtain ⟨b, lp, rp, Fl, Fr, rfl, eF, hn⟩ := Stale.of_lies hl
  have CL := Lib.hid (hL.call s w b lp rp x l r Fl Fr hn hS hOk (fun z hz e => (hT z (.inl e)).2.1 (eF ▸ hz)) (by omega) (by omega))
  rw [hw] at CL
  have HP := Lib.hid hp
  have HA := Lib.hid hA
  have HT := Lib.hid hT
  have HC := Lib.hid hC
  have HL := Lib.hid hl
  have HN := Lib.hid hn
  have HI := Lib.hid ih
  have HE := Lib.hid (And.intro eF hs0)
  have HX := Lib.hid (And.intro hpn (And.intro hTT (And.intro hc (And.intro ht (And.intro hct htt)))))
  clear hp hT hC hA hl hpn hTT hS hOk hw hc ht hn eF ih hs0 hct htt hL
  go_enter Try.func36, Try.ntmps36
  go_wp2_with fail
  refine CL.out.mono ?_
  rintro e w1 ⟨rfl, hs1, ho1⟩
  have HO1 := Lib.hid ho1
  have HS1 := Lib.hid hs1
  clear ho1 hs1
  simp only [Way.num]
  go_wp2_with fail
  obtain ⟨eF, es0⟩ := HE.out
  obtain ⟨hpn, hTT, hc, ht, hct, htt⟩ := HX.out
  have hlow : ∀ z ∈ F, z < w.heap.size := HL.out.lt
  have hz1 := HO1.out.size
  have avoid : ∀ z ∈ F, ¬ TL z := fun z hz e => (HT.out z (.inl e)).2.1 hz
  have n1 : AtNode w1 b lp rp x l r Fl Fr := by
    obtain ⟨i, s', k, hb⟩ := HN.out.here
    have hbF : b ∈ F := by rw [eF]; simp
    exact ⟨⟨i, s', k, (HO1.out.block b (hlow b hbF) (avoid b hbF)).trans hb⟩, HN.out.left.only HO1.out (fun z hz => avoid z (by rw [eF]; simp [hz])), HN.out.right.only HO1.out (fun z hz => avoid z (by rw [eF]; simp [hz])), HN.out.nl, HN.out.nr, HN.out.apart⟩
  have inF : ∀ z, z = b ∨ z ∈ Fl ∨ z ∈ Fr → z ∈ F := fun z hz => by rw [eF]; simpa using hz
  refine (HI.out _ w1 b 0 lp Fl n1.side0 n1.left n1.nl (fun z hz => ⟨Nat.lt_of_lt_of_le (HT.out z hz).1 hz1, fun e => (HT.out z hz).2.1 (inF z (.inr (.inl e))), fun e => (HT.out z hz).2.1 (inF z (.inl e))⟩) HS1.out
    (HA.out.keep _ _ _ HC.out HO1.out (fun z hz e => hTT z e hz)) (by rw [es0])).mono ?_
  rintro e w2 ⟨rfl, ho2, p2, F2, hl2, hF2, hset2, hP2⟩
  have hz2 := ho2.size
  -- the node, with its new side
  have hb2 : ∃ i s' k, w2.heap[b]? = some (.cells (raw p2 rp x i s' k) 85 (0, 0)) := by
    obtain ⟨i, s', k, hb⟩ := n1.here
    exact ⟨i, s', k, hset2 _ _ _ hb⟩
  have notT : ∀ z, z ∈ F → ¬ (TL z ∨ TA z) := fun z hz e => (HT.out z e).2.1 hz
  have hbF : b ∈ F := inF b (.inl rfl)
  have hbl : b < w.heap.size := hlow b hbF
  have n2 : AtNode w2 b p2 rp x t' r F2 Fr := by
    refine ⟨hb2, hl2, n1.right.only ho2 (fun z hz e => ?_), fun e => ?_, n1.nr, fun z hz e => ?_⟩
    · rcases e with e | e | e
      · exact n1.nr (e ▸ hz)
      · exact n1.apart z e hz
      · exact notT z (inF z (.inr (.inr hz))) e
    · rcases hF2 b e with e | e
      · exact n1.nl e
      · omega
    · rcases hF2 z hz with h | h
      · exact n1.apart z h e
      · have := hlow z (inF z (.inr (.inr e))); omega
  have hF' : ∀ z ∈ b :: (F2 ++ Fr), z ∈ F ∨ w.heap.size ≤ z := fun z hz => by
    simp only [List.mem_cons, List.mem_append] at hz
    rcases hz with e | e | e
    · exact .inl (inF z (.inl e))
    · exact (hF2 z e).imp (fun h => inF z (.inr (.inl h))) (fun h => Nat.le_trans hz1 h)
    · exact .inl (inF z (.inr (.inr e)))
  have ho : OnlyAt (fun z => z = pb ∨ z ∈ F ∨ TL z ∨ TA z) w w2 := (HO1.out.mono fun z hz => .inr (.inr (.inl hz))).trans (ho2.mono fun z hz => by
    rcases hz with e | e | e
    · exact .inr (.inl (inF z (.inl e)))
    · exact .inr (.inl (inF z (.inr (.inl e))))
    · exact .inr (.inr e))
  have hpb : ¬ (pb = b ∨ pb ∈ Fl ∨ TL pb ∨ TA pb) := fun e => by
    rcases e with e | e | e
    · exact hpn (inF pb (.inl e))
    · exact hpn (inF pb (.inr (.inl e)))
    · exact (HT.out pb e).2.2 rfl
  have hset : SetAt ⟨pb, po, none⟩ (.pointer (some ⟨b, 0, none⟩)) w w2 := SetAt.same HP.out ((HO1.out.mono (T' := fun z => z = b ∨ z ∈ Fl ∨ TL z ∨ TA z) fun z hz => .inr (.inr (.inl hz))).trans ho2) hpb
  have hP : Post (· ∈ F) w2 (· ∈ b :: (F2 ++ Fr)) := HA.out.up _ _ _ _ _ hP2 (fun z hz => inF z (.inr (.inl hz))) (fun z hz => by
    simp only [List.mem_cons, List.mem_append] at hz
    rcases hz with e | e | e
    · exact .inr (fun h => n1.nl (e ▸ h))
    · exact .inl e
    · exact .inr (fun h => n1.apart z h e))
  have CM := Lib.hid (change_mend HA.out HP.out hlow hpn (T := fun z => TL z ∨ TA z) (t := .node t' x r) (F1 := b :: (F2 ++ Fr)) (fun z hz => .inr hz) (fun z hz => HT.out z (.inr hz)) ho ⟨b, _, _, _, _, rfl, rfl, n2⟩ hF' hset hP
    (by simp only [AT.cnt] at hc ⊢; omega) (by simp only [AT.tot] at ht ⊢; omega))
  clear ho2 hl2 hF2 hset2 hP2 hb2 notT n2 hF' ho hpb hset hP n1 inF avoid hlow hct htt hc ht hTT
  go_wp2_with fail
  refine CM.out.mono ?_
  rintro e w3 ⟨rfl, hc3⟩
  have HC3 := Lib.hid hc3
  clear hc3
  go_wp2_with fail
  go_end0
  exact ⟨rfl, HC3.out⟩

set_option maxRecDepth 100000 in
set_option maxHeartbeats 4000000 in
/-- At a node that the lead leaves to the right. -/
theorem change_right (hL : Leads kl fl cl TL St Ok step) (hA : Acts ka fa ca TA Ac OkA act Post) (el : ∀ args w, (callFunc kl args).run Try.prog w = .ok (.enter kl args) w)
    {w : World} {pb po : Nat} {p : Option Addr} {F : List Nat} {l r t' : AT} {x : It} {s s0 : σ} (hp : PlaceAt w pb po (.pointer p)) (hl : LiesT w p (.node l x r) F) (hpn : pb ∉ F)
    (hT : ∀ z, TL z ∨ TA z → z < w.heap.size ∧ z ∉ F ∧ z ≠ pb) (hTT : ∀ z, TL z → ¬ TA z) (hS : St s w) (hOk : Ok (.node l x r) s) (hC : Ac w) (hw : (step s (.node l x r)).1 = .r) (hc : (AT.node l x r).cnt ≤ 700000) (ht : (AT.node l x r).tot ≤ 800000000000000000)
    (ih : ∀ (s : σ) (w : World) (pb po : Nat) (p : Option Addr) (F : List Nat), PlaceAt w pb po (.pointer p) → LiesT w p r F → pb ∉ F → (∀ z, TL z ∨ TA z → z < w.heap.size ∧ z ∉ F ∧ z ≠ pb) → St s w → Ac w → s = (step s0 (.node l x r)).2 →
      Calls Try.prog 36 #[.pointer (some ⟨pb, po, none⟩), .func (.func kl) fl cl, .func (.func ka) fa ca] w fun e w' => e = .returned (.tuple #[]) ∧ Changed w w' pb po t' F (fun z => TL z ∨ TA z) Post)
    (hs0 : s0 = s) (hct : t'.cnt ≤ r.cnt + 1) (htt : t'.tot ≤ r.tot + 1099511627776) :
    Calls Try.prog 36 #[.pointer (some ⟨pb, po, none⟩), .func (.func kl) fl cl, .func (.func ka) fa ca] w fun e w' => e = .returned (.tuple #[]) ∧ Changed w w' pb po (AT.fix l x t') F (fun z => TL z ∨ TA z) Post := by
  have pc := hp.cell
  obtain ⟨b, lp, rp, Fl, Fr, rfl, eF, hn⟩ := Stale.of_lies hl
  have CL := Lib.hid (hL.call s w b lp rp x l r Fl Fr hn hS hOk (fun z hz e => (hT z (.inl e)).2.1 (eF ▸ hz)) (by omega) (by omega))
  rw [hw] at CL
  have HP := Lib.hid hp
  have HA := Lib.hid hA
  have HT := Lib.hid hT
  have HC := Lib.hid hC
  have HL := Lib.hid hl
  have HN := Lib.hid hn
  have HI := Lib.hid ih
  have HE := Lib.hid (And.intro eF hs0)
  have HX := Lib.hid (And.intro hpn (And.intro hTT (And.intro hc (And.intro ht (And.intro hct htt)))))
  clear hp hT hC hA hl hpn hTT hS hOk hw hc ht hn eF ih hs0 hct htt hL
  go_enter Try.func36, Try.ntmps36
  go_wp2_with fail
  refine CL.out.mono ?_
  rintro e w1 ⟨rfl, hs1, ho1⟩
  have HO1 := Lib.hid ho1
  have HS1 := Lib.hid hs1
  clear ho1 hs1
  simp only [Way.num]
  go_wp2_with fail
  obtain ⟨eF, es0⟩ := HE.out
  obtain ⟨hpn, hTT, hc, ht, hct, htt⟩ := HX.out
  have hlow : ∀ z ∈ F, z < w.heap.size := HL.out.lt
  have hz1 := HO1.out.size
  have avoid : ∀ z ∈ F, ¬ TL z := fun z hz e => (HT.out z (.inl e)).2.1 hz
  have n1 : AtNode w1 b lp rp x l r Fl Fr := by
    obtain ⟨i, s', k, hb⟩ := HN.out.here
    have hbF : b ∈ F := by rw [eF]; simp
    exact ⟨⟨i, s', k, (HO1.out.block b (hlow b hbF) (avoid b hbF)).trans hb⟩, HN.out.left.only HO1.out (fun z hz => avoid z (by rw [eF]; simp [hz])), HN.out.right.only HO1.out (fun z hz => avoid z (by rw [eF]; simp [hz])), HN.out.nl, HN.out.nr, HN.out.apart⟩
  have inF : ∀ z, z = b ∨ z ∈ Fl ∨ z ∈ Fr → z ∈ F := fun z hz => by rw [eF]; simpa using hz
  refine (HI.out _ w1 b 1 rp Fr n1.side1 n1.right n1.nr (fun z hz => ⟨Nat.lt_of_lt_of_le (HT.out z hz).1 hz1, fun e => (HT.out z hz).2.1 (inF z (.inr (.inr e))), fun e => (HT.out z hz).2.1 (inF z (.inl e))⟩) HS1.out
    (HA.out.keep _ _ _ HC.out HO1.out (fun z hz e => hTT z e hz)) (by rw [es0])).mono ?_
  rintro e w2 ⟨rfl, ho2, p2, F2, hl2, hF2, hset2, hP2⟩
  have hz2 := ho2.size
  -- the node, with its new side
  have hb2 : ∃ i s' k, w2.heap[b]? = some (.cells (raw lp p2 x i s' k) 85 (0, 0)) := by
    obtain ⟨i, s', k, hb⟩ := n1.here
    exact ⟨i, s', k, hset2 _ _ _ hb⟩
  have notT : ∀ z, z ∈ F → ¬ (TL z ∨ TA z) := fun z hz e => (HT.out z e).2.1 hz
  have hbF : b ∈ F := inF b (.inl rfl)
  have hbl : b < w.heap.size := hlow b hbF
  have n2 : AtNode w2 b lp p2 x l t' Fl F2 := by
    refine ⟨hb2, n1.left.only ho2 (fun z hz e => ?_), hl2, n1.nl, fun e => ?_, fun z hz e => ?_⟩
    · rcases e with e | e | e
      · exact n1.nl (e ▸ hz)
      · exact n1.apart z hz e
      · exact notT z (inF z (.inr (.inl hz))) e
    · rcases hF2 b e with e | e
      · exact n1.nr e
      · omega
    · rcases hF2 z e with h | h
      · exact n1.apart z hz h
      · have := hlow z (inF z (.inr (.inl hz))); omega
  have hF' : ∀ z ∈ b :: (Fl ++ F2), z ∈ F ∨ w.heap.size ≤ z := fun z hz => by
    simp only [List.mem_cons, List.mem_append] at hz
    rcases hz with e | e | e
    · exact .inl (inF z (.inl e))
    · exact .inl (inF z (.inr (.inl e)))
    · exact (hF2 z e).imp (fun h => inF z (.inr (.inr h))) (fun h => Nat.le_trans hz1 h)
  have ho : OnlyAt (fun z => z = pb ∨ z ∈ F ∨ TL z ∨ TA z) w w2 := (HO1.out.mono fun z hz => .inr (.inr (.inl hz))).trans (ho2.mono fun z hz => by
    rcases hz with e | e | e
    · exact .inr (.inl (inF z (.inl e)))
    · exact .inr (.inl (inF z (.inr (.inr e))))
    · exact .inr (.inr e))
  have hpb : ¬ (pb = b ∨ pb ∈ Fr ∨ TL pb ∨ TA pb) := fun e => by
    rcases e with e | e | e
    · exact hpn (inF pb (.inl e))
    · exact hpn (inF pb (.inr (.inr e)))
    · exact (HT.out pb e).2.2 rfl
  have hset : SetAt ⟨pb, po, none⟩ (.pointer (some ⟨b, 0, none⟩)) w w2 := SetAt.same HP.out ((HO1.out.mono (T' := fun z => z = b ∨ z ∈ Fr ∨ TL z ∨ TA z) fun z hz => .inr (.inr (.inl hz))).trans ho2) hpb
  have hP : Post (· ∈ F) w2 (· ∈ b :: (Fl ++ F2)) := HA.out.up _ _ _ _ _ hP2 (fun z hz => inF z (.inr (.inr hz))) (fun z hz => by
    simp only [List.mem_cons, List.mem_append] at hz
    rcases hz with e | e | e
    · exact .inr (fun h => n1.nr (e ▸ h))
    · exact .inr (fun h => n1.apart z e h)
    · exact .inl e)
  have CM := Lib.hid (change_mend HA.out HP.out hlow hpn (T := fun z => TL z ∨ TA z) (t := .node l x t') (F1 := b :: (Fl ++ F2)) (fun z hz => .inr hz) (fun z hz => HT.out z (.inr hz)) ho ⟨b, _, _, _, _, rfl, rfl, n2⟩ hF' hset hP
    (by simp only [AT.cnt] at hc ⊢; omega) (by simp only [AT.tot] at ht ⊢; omega))
  clear ho2 hl2 hF2 hset2 hP2 hb2 notT n2 hF' ho hpb hset hP n1 inF avoid hlow hct htt hc ht hTT
  go_wp2_with fail
  refine CM.out.mono ?_
  rintro e w3 ⟨rfl, hc3⟩
  have HC3 := Lib.hid hc3
  clear hc3
  go_wp2_with fail
  go_end0
  exact ⟨rfl, HC3.out⟩

theorem chg_l {s : σ} {l r : AT} {x : It} (h : (step s (.node l x r)).1 = .l) : chg step act (.node l x r) s = AT.fix (chg step act l (step s (.node l x r)).2) x r := by
  rw [chg]
  split
  · rename_i h'; rw [h']
  · rename_i h'; rw [h'] at h; cases h
  · rename_i h'; rw [h'] at h; cases h
theorem chg_r {s : σ} {l r : AT} {x : It} (h : (step s (.node l x r)).1 = .r) : chg step act (.node l x r) s = AT.fix l x (chg step act r (step s (.node l x r)).2) := by
  rw [chg]
  split
  · rename_i h'; rw [h'] at h; cases h
  · rename_i h'; rw [h']
  · rename_i h'; rw [h'] at h; cases h
theorem chg_h {s : σ} {l r : AT} {x : It} (h : (step s (.node l x r)).1 = .h) : chg step act (.node l x r) s = (act (.node l x r)).fx := by
  rw [chg]
  split
  · rename_i h'; rw [h'] at h; cases h
  · rename_i h'; rw [h'] at h; cases h
  · rfl

/-- Where a lead goes to, and what is known there. -/
def fol {σ : Type} (step : σ → AT → Way × σ) : AT → σ → σ × AT
  | .nil, s => (s, .nil)
  | .node l x r, s => match step s (.node l x r) with
    | (.l, s') => fol step l s'
    | (.r, s') => fol step r s'
    | (.h, s') => (s', .node l x r)
theorem fol_l {s : σ} {l r : AT} {x : It} (h : (step s (.node l x r)).1 = .l) : fol step (.node l x r) s = fol step l (step s (.node l x r)).2 := by
  rw [fol]
  split
  · rename_i h'; rw [h']
  · rename_i h'; rw [h'] at h; cases h
  · rename_i h'; rw [h'] at h; cases h
theorem fol_r {s : σ} {l r : AT} {x : It} (h : (step s (.node l x r)).1 = .r) : fol step (.node l x r) s = fol step r (step s (.node l x r)).2 := by
  rw [fol]
  split
  · rename_i h'; rw [h'] at h; cases h
  · rename_i h'; rw [h']
  · rename_i h'; rw [h'] at h; cases h
theorem fol_h {s : σ} {l r : AT} {x : It} (h : (step s (.node l x r)).1 = .h) : fol step (.node l x r) s = ((step s (.node l x r)).2, .node l x r) := by
  rw [fol]
  split
  · rename_i h'; rw [h'] at h; cases h
  · rename_i h'; rw [h'] at h; cases h
  · rename_i h'; rw [h']

/-- Where a lead may go. -/
structure Goes (step : σ → AT → Way × σ) (OkA : AT → Prop) (Ok : AT → σ → Prop) : Prop where
  nil : ∀ s, Ok .nil s → OkA .nil
  l : ∀ s l x r, Ok (.node l x r) s → (step s (.node l x r)).1 = .l → Ok l (step s (.node l x r)).2
  r : ∀ s l x r, Ok (.node l x r) s → (step s (.node l x r)).1 = .r → Ok r (step s (.node l x r)).2
  h : ∀ s l x r, Ok (.node l x r) s → (step s (.node l x r)).1 = .h → OkA (.node l x r)

theorem chg_size (hA : Acts ka fa ca TA Ac OkA act Post) (G : Goes step OkA Ok) : ∀ (t : AT) (s : σ), Ok t s → (chg step act t s).cnt ≤ t.cnt + 1 ∧ (chg step act t s).tot ≤ t.tot + 1099511627776
  | .nil, s, h => by
    have := hA.size .nil (G.nil s h)
    rw [chg, fx_cnt, fx_tot]
    exact this
  | .node l x r, s, h => by
    cases hw : (step s (.node l x r)).1 with
    | l =>
      have ih := chg_size hA G l _ (G.l s l x r h hw)
      rw [chg_l hw, fix_cnt, fix_tot, AT.cnt, AT.tot]
      omega
    | r =>
      have ih := chg_size hA G r _ (G.r s l x r h hw)
      rw [chg_r hw, fix_cnt, fix_tot, AT.cnt, AT.tot]
      omega
    | h =>
      have := hA.size _ (G.h s l x r h hw)
      rw [chg_h hw, fx_cnt, fx_tot]
      exact this

/-- **What change makes of the tree at a place.** -/
theorem change_any (hL : Leads kl fl cl TL St Ok step) (hA : Acts ka fa ca TA Ac OkA act Post) (el : ∀ args w, (callFunc kl args).run Try.prog w = .ok (.enter kl args) w) (ea : ∀ args w, (callFunc ka args).run Try.prog w = .ok (.enter ka args) w)
    (G : Goes step OkA Ok) (hTT : ∀ z, TL z → ¬ TA z) :
    ∀ (t : AT) (s : σ) (w : World) (pb po : Nat) (p : Option Addr) (F : List Nat), PlaceAt w pb po (.pointer p) → LiesT w p t F → pb ∉ F → (∀ z, TL z ∨ TA z → z < w.heap.size ∧ z ∉ F ∧ z ≠ pb) → St s w → Ac w → Ok t s → t.cnt ≤ 700000 → t.tot ≤ 800000000000000000 →
      Calls Try.prog 36 #[.pointer (some ⟨pb, po, none⟩), .func (.func kl) fl cl, .func (.func ka) fa ca] w fun e w' => e = .returned (.tuple #[]) ∧ Changed w w' pb po (chg step act t s) F (fun z => TL z ∨ TA z) Post := by
  intro t
  induction t with
  | nil =>
    intro s w pb po p F hp hl hpn hT hS hC hO hc ht
    obtain ⟨rfl, rfl⟩ := hl
    rw [chg]
    exact change_nil hA ea _ hp hT hC (G.nil s hO)
  | node l x r ihl ihr =>
    intro s w pb po p F hp hl hpn hT hS hC hO hc ht
    cases hw : (step s (.node l x r)).1 with
    | l =>
      have ho := G.l s l x r hO hw
      have hz := chg_size hA G l _ ho
      rw [chg_l hw]
      refine change_left hL hA el hp hl hpn hT hTT hS hO hC hw hc ht (s0 := s) (fun s' w pb po p F h1 h2 h3 h4 h5 h6 h7 => ?_) rfl hz.1 hz.2
      rw [h7] at h5
      exact ihl _ w pb po p F h1 h2 h3 h4 h5 h6 ho (by simp only [AT.cnt] at hc; omega) (by simp only [AT.tot] at ht; omega)
    | r =>
      have ho := G.r s l x r hO hw
      have hz := chg_size hA G r _ ho
      rw [chg_r hw]
      refine change_right hL hA el hp hl hpn hT hTT hS hO hC hw hc ht (s0 := s) (fun s' w pb po p F h1 h2 h3 h4 h5 h6 h7 => ?_) rfl hz.1 hz.2
      rw [h7] at h5
      exact ihr _ w pb po p F h1 h2 h3 h4 h5 h6 ho (by simp only [AT.cnt] at hc; omega) (by simp only [AT.tot] at ht; omega)
    | h =>
      rw [chg_h hw]
      exact change_here hL hA el ea hp hl hpn hT hTT hS hO hC (G.h s l x r hO hw) hw hc ht
end
end Go.Proofs.Ytfdnlbeancdajaa.Avl
