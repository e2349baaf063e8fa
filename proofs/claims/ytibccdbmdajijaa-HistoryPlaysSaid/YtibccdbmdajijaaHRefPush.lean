/- The document's own Push of chapter 8, by contract. -/
import Derived.Test.YtibccdbmdajijaaHRef
namespace Go.Proofs.Ytibccdbmdajijaa
open Go Go.RowKit

theorem cells_set (w : World) (g i : Nat) (v : Value) (cs : Array Value) (t : TypeId) (h : w.heap[g]? = some (.cells cs t (0, 0))) : (w.setCell ⟨g, i, none⟩ v).heap[g]? = some (.cells (cs.setIfInBounds i v) t (0, 0)) := by
  simp [World.setCell, Array.getElem?_modify, h]
theorem only1 (w : World) (g o : Nat) (v : Value) : OnlyAt (fun k => k = g) w (w.setCell ⟨g, o, none⟩ v) := OnlyAt.setCell (T := fun k => k = g) _ ⟨g, o, none⟩ _ rfl
theorem Try.infos31 : (Try.prog.info? 31).map (fun i => (i.zero, i.size, i.bytes)) = some (some (.agg #[.int .i64 0, .string ⟨#[]⟩, .string ⟨#[]⟩]), 3, 40) := by kernel_rfl
theorem Try.infos32 : (Try.prog.info? 32).map (fun i => (i.zero, i.size, i.bytes)) = some (some (.slice none 0 0), 1, 24) := by kernel_rfl
theorem hcells {w : World} {hb : Nat} {E : Int} {vU vR : Value} (h : w.heap[hb]? = some (.cells #[.int .i64 E, vU, vR] /-t-/40 (0, 0))) :
    (w.cell? ⟨hb, 0, none⟩ = some (.int .i64 E) ∧ w.cell? ⟨hb, 1, none⟩ = some vU ∧ w.cell? ⟨hb, 2, none⟩ = some vR) ∧ ∀ o, w.frozen? ⟨hb, o, none⟩ = false := by
  refine ⟨⟨?_, ?_, ?_⟩, fun o => ?_⟩ <;> simp [World.cell?, World.frozen?, h]

theorem own_keep {w w' : World} {B e size n : Nat} {v : Value} {xs : List Value} (h : w.ownsRow B e size v n xs) (hk : ∀ g, v.ownBlock = some g → w'.heap[g]? = w.heap[g]?) : w'.ownsRow B e size v n xs := by
  refine ⟨h.1, ?_⟩
  rcases h.2 with hn | ⟨g, cap, cur, rfl, hgb, hgg, rest⟩
  · exact .inl hn
  · exact .inr ⟨g, cap, cur, rfl, hgb, (hk g rfl).trans hgg, rest⟩
theorem news_one (w : World) (v : Value) (t : TypeId) : ∀ j u, [v][j]? = some u → (w.alloc (.cells #[v] t)).cell? ((⟨w.heap.size, 0, none⟩ : Addr).add j) = some u := by
  intro j u hu
  rw [add_zero_none]
  match j, hu with
  | 0, hu =>
    simp at hu
    subst hu
    rw [cell_of_row _ w.heap.size 0 #[v] t (0, 0) (World.alloc_heap_new w _)]
    rfl
  | j + 1, hu => simp at hu
theorem one_row {w : World} {B e size n : Nat} {v : Value} {xs : List Value} (h : w.ownsRow B e size v n xs) : ∀ u ∈ [v], u.oneCell' = true := by
  intro u hu
  simp at hu
  subst hu
  rcases h.2 with ⟨rfl, _⟩ | ⟨q, cp, cur, rfl, _⟩ <;> rfl
theorem push_below {w w1 w2 w4 : World} {o : Obj} {row : Option Nat} (h1 : w.grownBy w1 none) (h2 : w1.grownBy w2 none) (h4 : (w2.alloc o).grownBy w4 row) (hr : ∀ z, row = some z → w.heap.size ≤ z) : Below w.heap.size w w4 := by
  have b2 : Below w.heap.size w w2 := ((Below.refl w.heap.size w).grown h1 (Nat.le_refl _) (fun _ h => by cases h)).grown h2 h1.size (fun _ h => by cases h)
  exact (b2.alloc b2.size o).grown h4 (by have := b2.size; simp; omega) hr
theorem eCells_one (g : List Ed) : ∀ u ∈ eCells g, u.oneCell' = true := by
  intro u hu
  unfold eCells at hu
  rw [List.mem_flatMap] at hu
  obtain ⟨x, _, hx⟩ := hu
  simp at hx
  rcases hx with rfl | rfl | rfl <;> rfl

theorem push_col {F : Nat → Prop} {hb : Nat} {w w1 w2 w4 w5 : World} {o : Obj} {v1 v2 v4 : Value} {us : List (List Ed)} {g : List Ed} {xU : List Value} {t e1 e2 : Nat} (hF : F hb) (hlt : ∀ k, F k → k < w.heap.size) (hUx : ∀ (i : Nat) x, xU[i]? = some x → ∃ g, us[i]? = some g ∧ Grp F hb w x g)
    (o1 : w1.ownsRow w.heap.size e1 1 v1 us.length xU) (g1 : w.grownBy w1 none) (o2 : w2.ownsRow w1.heap.size e2 3 v2 g.length (eCells g)) (g2 : w1.grownBy w2 none) (o4 : w4.ownsRow w.heap.size t 1 v4 (us.length + 1) (xU ++ [v2])) (g4 : (w2.alloc o).grownBy w4 v1.ownBlock)
    (hb4 : Below w.heap.size w w4) (ho5 : OnlyAt (fun k => k = hb) w4 w5) (hg : 0 < g.length ∧ g.length ≤ 20) : Col (fun k => F k ∨ (w.heap.size ≤ k ∧ k < w5.heap.size)) hb w5 v4 (us ++ [g]) := by
  have hh := hlt hb hF
  have s1 := g1.size
  have s2 := g2.size
  have s4 := g4.size
  rw [World.size_alloc] at s4
  have keep5 : ∀ k, k < w4.heap.size → k ≠ hb → w5.heap[k]? = w4.heap[k]? := fun k hk hne => ho5.block k hk hne
  have hl : xU.length = us.length := by have := o1.1; omega
  refine ⟨xU ++ [v2], ?_, fun b hv => ?_, fun i x hx => ?_⟩
  · rw [List.length_append]
    exact (Vals.own o4).keep (fun b hv => keep5 b (o4.lt b hv).2 (by have := (o4.lt b hv).1; omega))
  · have := o4.lt b hv
    have := ho5.size
    exact ⟨.inr ⟨by omega, by omega⟩, by omega⟩
  · rcases Nat.lt_or_ge i us.length with h | h
    · rw [List.getElem?_append_left (by omega)] at hx
      obtain ⟨gi, hgi, hG⟩ := hUx i x hx
      refine ⟨gi, by rw [List.getElem?_append_left h]; exact hgi, hG.keep (fun k hk => .inl hk) (Nat.le_trans hb4.size ho5.size) (fun k hk hne => ?_)⟩
      have hk' := hlt k hk
      exact (keep5 k (by have := hb4.size; omega) hne).trans (hb4.block k hk')
    · have hi : i = us.length := by
        have := (List.getElem?_eq_some_iff.1 hx).1
        rw [List.length_append, hl] at this
        simp at this
        omega
      subst hi
      rw [List.getElem?_append_right (by omega), hl, Nat.sub_self] at hx
      have hxv : v2 = x := by simpa using hx
      subst hxv
      refine ⟨g, by rw [List.getElem?_append_right (Nat.le_refl _), Nat.sub_self]; rfl, ?_, hg, fun b hv => ?_⟩
      · refine RowAt.keep ⟨Vals.own o2, fun _ b hv => (o2.lt b hv).2⟩ (by have := ho5.size; omega) (fun b _ hv => ?_)
        have hb2 := o2.lt b hv
        refine (keep5 b (by omega) (by omega)).trans ((g4.block b (by rw [World.size_alloc]; omega) (fun e => ?_)).trans (Below.heap_alloc _ _ _ hb2.2))
        have := (o1.lt b e.symm).2
        omega
      · have := o2.lt b hv
        have := ho5.size
        exact ⟨.inr ⟨by omega, by omega⟩, by omega⟩

theorem push_goes {F : Nat → Prop} {hb E : Nat} {w w4 w' : World} {vN : Value} {us' : List (List Ed)} (hF : F hb) (hlt : ∀ k, F k → k < w.heap.size) (hb4 : Below w.heap.size w w4) (ho : OnlyAt (fun k => k = hb) w4 w')
    (h5 : w'.heap[hb]? = some (.cells #[.int .i64 E, vN, .slice none 0 0] /-t-/40 (0, 0))) (hc : Col (fun k => F k ∨ (w.heap.size ≤ k ∧ k < w'.heap.size)) hb w' vN us') (hl : us'.length ≤ E) (hE : E ≤ 50) :
    HGoes RefH F w w' ⟨hb, 0, none⟩ E us' [] (fun _ => False) := by
  have hs := hb4.size
  have hs' := ho.size
  refine ⟨fun k => F k ∨ (w.heap.size ≤ k ∧ k < w'.heap.size), ⟨hb, vN, _, rfl, .inl hF, fun k hk => ?_, h5, hc, Col.nil _ _ _, by simpa using hl, hE⟩, (OnlyAt.of_below hb4).trans (ho.mono fun k hk => hk ▸ hF), fun k hk => ⟨hk.imp id (·.1), fun h => h⟩⟩
  rcases hk with h | h
  · have := hlt k h; omega
  · exact h.2
theorem push_drop {F : Nat → Prop} {hb q n cap : Nat} {w w5 : World} {vN : Value} {us : List (List Ed)} (_hF : F hb) (hc : Col (fun k => F k ∨ (w.heap.size ≤ k ∧ k < w5.heap.size)) hb w5 (.slice (some ⟨q, 0, none⟩) (n + 1) cap) us) (hv : vN = .slice (some ⟨q, 1, none⟩) n (cap - 1) ∨ (vN = .slice (some ⟨q, 0, none⟩) n 0 ∧ n = 0)) (_h : 0 < n + 1) (hl : (us.drop 1).length = n) (nq : Nat) :
    Col (fun k => F k ∨ (w.heap.size ≤ k ∧ k < ((w5.drewN nq).setCell ⟨hb, 1, none⟩ vN).heap.size)) hb ((w5.drewN nq).setCell ⟨hb, 1, none⟩ vN) vN (us.drop 1) := by
  have ho : OnlyAt (fun k => k = hb) w5 ((w5.drewN nq).setCell ⟨hb, 1, none⟩ vN) := (OnlyAt.of_below (below_drewN (Below.refl _ _) nq)).trans (only1 _ hb 1 _)
  have hsz : ((w5.drewN nq).setCell ⟨hb, 1, none⟩ vN).heap.size = w5.heap.size := by simp [World.setCell]
  rw [hsz]
  generalize (w5.drewN nq).setCell ⟨hb, 1, none⟩ vN = w6 at *
  have hk : ∀ k, (F k ∨ (w.heap.size ≤ k ∧ k < w5.heap.size)) → k ≠ hb → w6.heap[k]? = w5.heap[k]? := fun k hk hne => by
    by_cases h : k < w5.heap.size
    · exact ho.block k h hne
    · rw [Array.getElem?_eq_none (by omega), Array.getElem?_eq_none (by omega)]
  obtain ⟨xs, ⟨hl0, ⟨he, _⟩ | ⟨a, cap', he, h1, h2, h3⟩⟩, hblk, hx⟩ := hc
  · cases he
  · have hq := hblk q rfl
    have hn : n + 1 = us.length := by injection he
    have ha : (⟨q, 0, none⟩ : Addr) = a := by injection he with e1; injection e1
    have hcp : cap = cap' := by injection he
    subst ha hcp
    have hown : ∀ b, vN.ownBlock = some b → b = q := by
      intro b hvb
      rcases hv with rfl | ⟨rfl, _⟩ <;> exact (Option.some.inj hvb).symm
    refine ⟨xs.drop 1, ⟨by rw [List.length_drop, hl]; omega, .inr ?_⟩, fun b hvb => (hown b hvb) ▸ hq, fun i x hi => ?_⟩
    · rw [hl]
      rcases hv with rfl | ⟨rfl, hn0⟩
      · refine ⟨_, _, rfl, by omega, by omega, fun j u hu => ?_⟩
        rw [List.getElem?_drop, Nat.add_comm] at hu
        have := h3 _ _ hu
        rw [add_zero_none] at this
        have hadd : (⟨q, 1, none⟩ : Addr).add j = ⟨q, j + 1, none⟩ := by unfold Addr.add; split <;> simp_all <;> omega
        rw [hadd]
        exact (cell_same (p := ⟨q, j + 1, none⟩) (hk q hq.1 hq.2)).trans this
      · refine ⟨_, _, rfl, by omega, Nat.zero_le _, fun j u hu => ?_⟩
        rw [List.getElem?_drop] at hu
        have := (List.getElem?_eq_some_iff.1 hu).1
        omega
    · rw [List.getElem?_drop] at hi
      obtain ⟨g, hg, hG⟩ := hx _ _ hi
      exact ⟨g, by rw [List.getElem?_drop]; exact hg, hG.keep (fun _ h => h) ho.size hk⟩

set_option maxRecDepth 100000 in
set_option maxHeartbeats 4000000 in
theorem refh_push_none (F : Nat → Prop) (w : World) (ad : Addr) (E : Nat) (us rs : List (List Ed)) (v : Value) (hr : RefH F w ad E us rs) (hv : RowAt w v []) :
    Calls Try.prog 12 #[.pointer (some ad), v] w fun e w' => e = .returned (.tuple #[]) ∧ HGoes RefH F w w' ad E us rs (fun _ => False) := by
  have HG := Lib.hid (show HGoes RefH F w w ad E us rs (fun _ => False) from ⟨F, hr, OnlyAt.refl _ _, fun k hk => ⟨.inl hk, fun h => h⟩⟩)
  clear hr
  obtain ⟨⟨_, ⟨rfl, _⟩ | ⟨a, cap, rfl, _⟩⟩, _⟩ := hv
  · go_enter Try.func12, Try.ntmps12
    go_wp2_with fail
    refine bodyPost_ret (results_none rfl _ _ _) rfl ?_
    exact ⟨rfl, HG.out⟩
  · simp only [List.length_nil]
    go_enter Try.func12, Try.ntmps12
    go_wp2_with fail
    refine bodyPost_ret (results_none rfl _ _ _) rfl ?_
    exact ⟨rfl, HG.out⟩

set_option maxRecDepth 100000 in
set_option maxHeartbeats 4000000 in
theorem refh_push_some (F : Nat → Prop) (w : World) (ad : Addr) (E : Nat) (us rs : List (List Ed)) (a : Addr) (cap : Nat) (g : List Ed) (hr : RefH F w ad E us rs) (hv : RowAt w (.slice (some a) g.length cap) g) (h0 : 0 < g.length) (hg : g.length ≤ 20) :
    Calls Try.prog 12 #[.pointer (some ad), .slice (some a) g.length cap] w fun e w' => e = .returned (.tuple #[]) ∧ HGoes RefH F w w' ad E ((us ++ [g]).drop (us.length + 1 - E)) [] (fun _ => False) := by
  obtain ⟨i1, hi1, hz10, hz11, hz12⟩ := info_parts Try.infos31
  obtain ⟨i2, hi2, hz20, hz21, hz22⟩ := info_parts Try.infos32
  obtain ⟨hb, vU, vR, rfl, hF, hlt, hh, ⟨xU, hU, hUb, hUx⟩, hR, hlen, hE⟩ := hr
  obtain ⟨⟨c0, c1, c2⟩, cf⟩ := hcells hh
  have hone := Col.one hUx
  have hl5 : us.length ≤ 50 := by omega
  have HUV := Lib.hid hU
  have HV := Lib.hid hv
  have HH := Lib.hid hh
  have HLT := Lib.hid (hlt hb hF)
  have HG20 := Lib.hid hg
  have HL5 := Lib.hid hl5
  have HONE := Lib.hid hone
  have gI : (0 : Int) < g.length := by omega
  have HG0 := Lib.hid h0
  clear hU hv hh hone hl5 hg h0
  go_enter Try.func12, Try.ntmps12
  go_wp2_with (first
    | (at_builtin; refine wpList_copy _ rfl _ _ 22 rfl 32 i2 (.slice none 0 0) 1 24 Try.underlying22 hi2 hz20 hz21 hz22 rfl (by decide) vU us.length xU rfl rfl HUV.out HONE.out (by have := HL5.out; omega) (by decide) ?_; intro v1 w1 hown1 hgrow1; have B1 := Lib.hid (And.intro hown1 (And.intro hgrow1 (show RowAt w1 (.slice (some a) g.length cap) g from HV.out.keep hgrow1.size (fun b _ hv => hgrow1.block b (HV.out.2 HG0.out b hv) (by simp))))); clear hown1 hgrow1)
    | (at_builtin; refine wpList_copy _ rfl _ _ 32 rfl 31 i1 (.agg #[.int .i64 0, .string ⟨#[]⟩, .string ⟨#[]⟩]) 3 40 Try.underlying32 hi1 hz10 hz11 hz12 rfl (by decide) (.slice (some a) g.length cap) g.length (eCells g) rfl rfl B1.out.2.2.1 (eCells_one g) (by have := HG20.out; omega) (by decide) ?_; intro v2 w2 hown2 hgrow2; obtain ⟨q2, cp2, rfl, -⟩ := own_open hown2 HG0.out; have B2 := Lib.hid (And.intro hown2 hgrow2); clear hown2 hgrow2)
    | (at_builtin; refine wpList_append_where _ rfl _ _ 22 rfl w.heap.size 32 i2 (.slice none 0 0) 1 24 Try.underlying22 hi2 hz20 hz21 hz22 rfl (by decide) v1 us.length xU rfl (own_keep (own_keep B1.out.1 (fun z hz => B2.out.2.block z (B1.out.1.lt z hz).2 (by simp))) (fun z hz => Below.heap_alloc _ _ _ (Nat.lt_of_lt_of_le (B1.out.1.lt z hz).2 B2.out.2.size))) ⟨w2.heap.size, 0, none⟩ 1 1 [.slice (some ⟨q2, 0, none⟩) g.length cp2] rfl rfl (news_one _ _ _) (one_row B2.out.1) (by unfold maxLen; have := HL5.out; omega) (by have := HL5.out; omega) (by have := B1.out.2.1.size; have := B2.out.2.size; simp; omega) ?_; intro v4 w4 hown4 hgrow4 hwh4; obtain ⟨q4, cp4, rfl, -, hc4, hm4, -⟩ := own_open hown4 (Nat.succ_pos _); have hb4 := push_below B1.out.2.1 B2.out.2 hgrow4 (fun z hz => (B1.out.1.lt z hz).1); obtain ⟨⟨e0, e1, e2⟩, ef⟩ := hcells ((hb4.block hb HLT.out).trans HH.out); have B4 := Lib.hid (And.intro hown4 (And.intro hgrow4 (And.intro hwh4 hb4))); clear hown4 hgrow4 hwh4 hb4))
  obtain ⟨w5, hw5⟩ : ∃ w5, w5 = (w4.setCell ⟨hb, 1, none⟩ (.slice (some ⟨q4, 0, none⟩) (us.length + 1) cp4)).setCell ⟨hb, 2, none⟩ (.slice none 0 0) := ⟨_, rfl⟩
  rw [← hw5]
  have h4 := (B4.out.2.2.2.block hb HLT.out).trans HH.out
  have h5 : w5.heap[hb]? = some (.cells #[.int .i64 E, .slice (some ⟨q4, 0, none⟩) (us.length + 1) cp4, .slice none 0 0] /-t-/40 (0, 0)) := by
    rw [hw5]; exact cells_set _ hb 2 _ _ _ (cells_set _ hb 1 _ _ _ h4)
  have ho5 : OnlyAt (fun k => k = hb) w4 w5 := by rw [hw5]; exact (only1 w4 hb 1 _).trans (only1 _ hb 2 _)
  have hcol : Col (fun k => F k ∨ (w.heap.size ≤ k ∧ k < w5.heap.size)) hb w5 (.slice (some ⟨q4, 0, none⟩) (us.length + 1) cp4) (us ++ [g]) :=
    push_col hF hlt hUx B1.out.1 B1.out.2.1 B2.out.1 B2.out.2 B4.out.1 B4.out.2.1 B4.out.2.2.2 ho5 ⟨HG0.out, HG20.out⟩
  obtain ⟨⟨f0, f1, f2⟩, ff⟩ := hcells h5
  have H5 := Lib.hid (And.intro h5 (And.intro ho5 hcol))
  clear hw5 h4 h5 ho5 hcol e0 e1 e2 ef c0 c1 c2 cf
  by_cases hE2 : us.length + 1 ≤ E
  · have hd : decide ((E : Int) < (us.length : Int) + 1) = false := decide_eq_false (by omega)
    have hdr : (us ++ [g]).drop (us.length + 1 - E) = us ++ [g] := by rw [show us.length + 1 - E = 0 by omega, List.drop_zero]
    have HX := Lib.hid (fun nq => push_goes (w' := w5.drewN nq) hF hlt B4.out.2.2.2 (H5.out.2.1.trans (OnlyAt.of_below (below_drewN (Below.refl _ _) nq))) H5.out.1 H5.out.2.2 (by rw [List.length_append]; exact hE2) hE)
    have HDR := Lib.hid hdr
    clear hdr
    go_quiet (fail)
    go_wp2_with fail
    refine bodyPost_end (results_none rfl _ _ _) rfl ?_
    exact ⟨rfl, by rw [HDR.out]; exact HX.out nq⟩
  · have hd : decide ((E : Int) < (us.length : Int) + 1) = true := decide_eq_true (by omega)
    have hdr : (us ++ [g]).drop (us.length + 1 - E) = (us ++ [g]).drop 1 := by rw [show us.length + 1 - E = 1 by omega]
    have hl1 : ((us ++ [g]).drop 1).length = us.length := by rw [List.length_drop, List.length_append]; show us.length + 1 - 1 = us.length; omega
    have HX := Lib.hid (fun nq vN (hv : vN = .slice (some ⟨q4, 1, none⟩) us.length (cp4 - 1) ∨ (vN = .slice (some ⟨q4, 0, none⟩) us.length 0 ∧ us.length = 0)) => push_goes (w' := (w5.drewN nq).setCell ⟨hb, 1, none⟩ vN) (us' := (us ++ [g]).drop 1) hF hlt B4.out.2.2.2 ((H5.out.2.1.trans (OnlyAt.of_below (below_drewN (Below.refl _ _) nq))).trans (only1 _ hb 1 _)) (cells_set (w5.drewN nq) hb 1 vN _ _ H5.out.1) (push_drop hF H5.out.2.2 hv (Nat.succ_pos _) hl1 nq) (by rw [hl1]; omega) hE)
    have HDR := Lib.hid hdr
    clear hdr
    go_quiet (fail)
    go_wp2_with fail
    · refine bodyPost_end (results_none rfl _ _ _) rfl ?_
      exact ⟨rfl, by rw [HDR.out]; exact HX.out nq _ (.inr ⟨rfl, by omega⟩)⟩
    · refine bodyPost_end (results_none rfl _ _ _) rfl ?_
      exact ⟨rfl, by rw [HDR.out]; exact HX.out nq _ (.inl rfl)⟩
end Go.Proofs.Ytibccdbmdajijaa
