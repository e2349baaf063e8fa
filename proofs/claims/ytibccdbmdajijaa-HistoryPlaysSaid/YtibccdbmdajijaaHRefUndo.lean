/- The document's own Undo and Redo of chapter 8, by contract. -/
import Derived.Test.YtibccdbmdajijaaHRefPush
namespace Go.Proofs.Ytibccdbmdajijaa
open Go Go.RowKit

/-- The last group of a row of groups, and the row without it. -/
theorem Col.last {F : Nat → Prop} {hb : Nat} {w : World} {v : Value} {us : List (List Ed)} {g : List Ed} (h : Col F hb w v (us ++ [g])) :
    ∃ q off cap bx cx, v = .slice (some ⟨q, off, none⟩) (us.length + 1) cap ∧ us.length + 1 ≤ cap ∧ w.cell? ⟨q, off + us.length, none⟩ = some (.slice (some bx) g.length cx) ∧ Grp F hb w (.slice (some bx) g.length cx) g ∧ (F q ∧ q ≠ hb) ∧ Col F hb w (.slice (some ⟨q, off, none⟩) us.length cap) us := by
  have hl : (us ++ [g]).length = us.length + 1 := by rw [List.length_append]; rfl
  obtain ⟨xs, ⟨hx0, hv⟩, hblk, hxs⟩ := h
  rw [hl] at hx0 hv
  obtain ⟨_, hz⟩ | ⟨a, cap, rfl, h1, h2, h3⟩ := hv
  · omega
  have hxl : xs.length = us.length + 1 := by omega
  obtain ⟨x, hx⟩ : ∃ x, xs[us.length]? = some x := ⟨_, List.getElem?_eq_getElem (by omega)⟩
  obtain ⟨g', hg', hG⟩ := hxs _ _ hx
  have hgg : g = g' := by
    rw [List.getElem?_append_right (Nat.le_refl _), Nat.sub_self] at hg'
    simpa using hg'
  subst hgg
  have hc := h3 _ _ hx
  obtain ⟨q, off, spot⟩ := a
  have hsp : spot = none := by
    obtain ⟨x0, hx0'⟩ : ∃ x0, xs[0]? = some x0 := ⟨_, List.getElem?_eq_getElem (by omega)⟩
    exact World.cell?_spot (h3 0 x0 hx0')
  subst hsp
  have hadd : ∀ j, (⟨q, off, none⟩ : Addr).add j = ⟨q, off + j, none⟩ := fun j => by unfold Addr.add; split <;> simp_all
  rw [hadd] at hc
  obtain ⟨_, ⟨rfl, hn⟩ | ⟨bx, cx, rfl, _⟩⟩ := hG.1.1
  · have := hG.2.1.1; omega
  refine ⟨q, off, cap, bx, cx, rfl, h1, hc, hG, hblk q rfl, xs.take us.length, ⟨by rw [List.length_take]; omega, .inr ⟨_, cap, rfl, by omega, h2, fun j u hu => ?_⟩⟩, hblk, fun i y hy => ?_⟩
  · rw [List.getElem?_take] at hu
    split at hu
    · exact h3 _ _ hu
    · cases hu
  · rw [List.getElem?_take] at hy
    split at hy
    · obtain ⟨gi, hgi, hGi⟩ := hxs _ _ hy
      rename_i hlt
      rw [List.getElem?_append_left hlt] at hgi
      exact ⟨gi, hgi, hGi⟩
    · cases hy
/-- A group more behind a row that was copied. -/
theorem col_snoc {F F5 : Nat → Prop} {hb t B : Nat} {w w4 w5 : World} {v2 v4 : Value} {us : List (List Ed)} {g : List Ed} {xU : List Value} (hF : ∀ k, F k → F5 k) (hl : xU.length = us.length) (hUx : ∀ (i : Nat) x, xU[i]? = some x → ∃ g, us[i]? = some g ∧ Grp F hb w x g)
    (o4 : w4.ownsRow B t 1 v4 (us.length + 1) (xU ++ [v2])) (k4 : ∀ b, v4.ownBlock = some b → w5.heap[b]? = w4.heap[b]? ∧ F5 b ∧ b ≠ hb) (hs : w.heap.size ≤ w5.heap.size) (hk : ∀ k, F k → k ≠ hb → w5.heap[k]? = w.heap[k]?) (hG : Grp F5 hb w5 v2 g) : Col F5 hb w5 v4 (us ++ [g]) := by
  refine ⟨xU ++ [v2], ?_, fun b hv => (k4 b hv).2, fun i x hx => ?_⟩
  · rw [List.length_append]
    exact (Vals.own o4).keep (fun b hv => (k4 b hv).1)
  · rcases Nat.lt_or_ge i us.length with h | h
    · rw [List.getElem?_append_left (by omega)] at hx
      obtain ⟨gi, hgi, hGi⟩ := hUx i x hx
      exact ⟨gi, by rw [List.getElem?_append_left h]; exact hgi, hGi.keep hF hs hk⟩
    · have hi : i = us.length := by
        have := (List.getElem?_eq_some_iff.1 hx).1
        rw [List.length_append, hl] at this
        simp at this
        omega
      subst hi
      rw [List.getElem?_append_right (by omega), hl, Nat.sub_self] at hx
      have hxv : v2 = x := by simpa using hx
      subst hxv
      exact ⟨g, by rw [List.getElem?_append_right (Nat.le_refl _), Nat.sub_self]; rfl, hG⟩
theorem grown_below {w2 w3 w5 : World} {o : Obj} {row : Option Nat} (h3 : w2.grownBy w3 none) (h5 : (w3.alloc o).grownBy w5 row) (hr : ∀ z, row = some z → w2.heap.size ≤ z) : Below w2.heap.size w2 w5 := by
  have b3 : Below w2.heap.size w2 w3 := (Below.refl w2.heap.size w2).grown h3 (Nat.le_refl _) (fun _ h => by cases h)
  exact (b3.alloc b3.size o).grown h5 (by have := b3.size; simp; omega) hr
/-- What is behind an Undo, a Redo. -/
theorem turn_fin {F : Nat → Prop} {hb t B : Nat} {w w2 w4 w5 : World} {vT v4 x : Value} {us rs : List (List Ed)} {g : List Ed} {xR : List Value} (hF : F hb) (hlt : ∀ k, F k → k < w.heap.size) (ho2 : OnlyAt (fun k => k = hb) w w2) (hb4 : Below w2.heap.size w2 w4) (ho5 : OnlyAt (fun k => k = hb) w4 w5)
    (hT : Col F hb w vT us) (hl : xR.length = rs.length) (hRx : ∀ (i : Nat) x, xR[i]? = some x → ∃ g, rs[i]? = some g ∧ Grp F hb w x g) (o4 : w4.ownsRow B t 1 v4 (rs.length + 1) (xR ++ [x])) (hB : w2.heap.size ≤ B) (hG : Grp F hb w x g) :
    Col (fun k => F k ∨ (w.heap.size ≤ k ∧ k < w5.heap.size)) hb w5 vT us ∧ Col (fun k => F k ∨ (w.heap.size ≤ k ∧ k < w5.heap.size)) hb w5 v4 (rs ++ [g]) ∧ RowAt w5 x g ∧ OnlyAt F w w5 ∧ (∀ k, F k ∨ (w.heap.size ≤ k ∧ k < w5.heap.size) → k < w5.heap.size) := by
  have s2 := ho2.size
  have s4 := hb4.size
  have s5 := ho5.size
  have keep : ∀ k, F k → k ≠ hb → w5.heap[k]? = w.heap[k]? := fun k hk hne => by
    have := hlt k hk
    exact (ho5.block k (by omega) hne).trans ((hb4.block k (by omega)).trans (ho2.block k this hne))
  have hFF : ∀ k, F k → (F k ∨ (w.heap.size ≤ k ∧ k < w5.heap.size)) := fun k hk => .inl hk
  have hsz : w.heap.size ≤ w5.heap.size := by omega
  refine ⟨hT.keep hFF hsz keep, col_snoc hFF hl hRx o4 (fun b hv => ?_) hsz keep (hG.keep hFF hsz keep), (hG.keep hFF hsz keep).1, ?_, ?_⟩
  · have hb := o4.lt b hv
    have := hlt _ hF
    exact ⟨ho5.block b hb.2 (by omega), .inr ⟨by omega, by omega⟩, by omega⟩
  · exact ((ho2.mono fun k hk => hk ▸ hF).trans (OnlyAt.of_below hb4)).trans (ho5.mono fun k hk => hk ▸ hF)
  · rintro k (h | h)
    · have := hlt k h; omega
    · exact h.2

set_option maxRecDepth 100000 in
set_option maxHeartbeats 4000000 in
theorem refh_undo_no (F : Nat → Prop) (w : World) (ad : Addr) (E : Nat) (rs : List (List Ed)) (hr : RefH F w ad E [] rs) :
    Calls Try.prog 14 #[.pointer (some ad)] w fun e w' => e = .returned (.tuple #[.slice none 0 0, .bool false]) ∧ HGoes RefH F w w' ad E [] rs (fun _ => False) := by
  have HG := Lib.hid (show HGoes RefH F w w ad E [] rs (fun _ => False) from ⟨F, hr, OnlyAt.refl _ _, fun k hk => ⟨.inl hk, fun h => h⟩⟩)
  obtain ⟨hb, vU, vR, rfl, hF, hlt, hh, hU, hR, hlen, hE⟩ := hr
  obtain ⟨⟨c0, c1, c2⟩, cf⟩ := hcells hh
  obtain ⟨xs, ⟨_, ⟨he, _⟩ | ⟨a, cap, he, _⟩⟩, _⟩ := hU
  all_goals
    try simp only [List.length_nil] at he
    subst he
    clear hh hR hlen hE hF hlt
    go_enter Try.func14, Try.ntmps14
    go_wp2_with fail
    go_ret2
    exact ⟨rfl, HG.out⟩

set_option maxRecDepth 100000 in
set_option maxHeartbeats 4000000 in
theorem refh_undo (F : Nat → Prop) (w : World) (ad : Addr) (E : Nat) (us rs : List (List Ed)) (g : List Ed) (hr : RefH F w ad E (us ++ [g]) rs) :
    Calls Try.prog 14 #[.pointer (some ad)] w fun e w' => ∃ v, e = .returned (.tuple #[v, .bool true]) ∧ RowAt w' v g ∧ HGoes RefH F w w' ad E us (rs ++ [g]) (fun _ => False) := by
  obtain ⟨i2, hi2, hz20, hz21, hz22⟩ := info_parts Try.infos32
  obtain ⟨hb, vU, vR, rfl, hF, hlt, hh, hU, hR, hlen, hE⟩ := hr
  obtain ⟨⟨c0, c1, c2⟩, cf⟩ := hcells hh
  obtain ⟨q, off, cap, bx, cx, rfl, hcap, hcell, hGx, hq, hT⟩ := hU.last
  obtain ⟨xR, hRv, hRb, hRx⟩ := hR
  have hlen2 : us.length + rs.length + 1 ≤ E := by simp only [List.length_append, List.length_singleton] at hlen; omega
  have h2 : (w.setCell ⟨hb, 1, none⟩ (.slice (some ⟨q, off, none⟩) us.length cap)).heap[hb]? = some (.cells #[.int .i64 E, .slice (some ⟨q, off, none⟩) us.length cap, vR] /-t-/40 (0, 0)) := cells_set w hb 1 _ _ _ hh
  have ho2 : OnlyAt (fun k => k = hb) w (w.setCell ⟨hb, 1, none⟩ (.slice (some ⟨q, off, none⟩) us.length cap)) := only1 _ _ _ _
  have HRV := Lib.hid (show Vals (w.setCell ⟨hb, 1, none⟩ (.slice (some ⟨q, off, none⟩) us.length cap)) 1 vR rs.length xR from hRv.keep (fun b hv => ho2.block b (hlt b (hRb b hv).1) (hRb b hv).2))
  have HONE := Lib.hid (Col.one hRx)
  have HL5 := Lib.hid (show rs.length ≤ 50 by omega)
  have HH2 := Lib.hid h2
  have HO2 := Lib.hid ho2
  have HLT := Lib.hid hlt
  have HFF := Lib.hid hF
  have HGX := Lib.hid hGx
  have hcI : ((us.length : Int) + 1) ≤ cap := by omega
  have hcI0 : (0 : Int) ≤ us.length := by omega
  have wf1 : IntKind.i64.wrap ((us.length : Int) + 1 - 1) = us.length := by rw [IntWalk.i64_in _ (by omega)]; omega
  have ne0 : (((us.length : Int) + 1) == 0) = false := by simp; omega
  clear hh hRv h2 ho2 hlen hlt hF hGx hcap
  go_enter Try.func14, Try.ntmps14
  go_wp2_with (first
    | (at_builtin; refine wpList_copy _ rfl _ _ 22 rfl 32 i2 (.slice none 0 0) 1 24 Try.underlying22 hi2 hz20 hz21 hz22 rfl (by decide) vR rs.length xR rfl rfl HRV.out HONE.out (by have := HL5.out; omega) (by decide) ?_; intro v1 w1 hown1 hgrow1; have B1 := Lib.hid (And.intro hown1 hgrow1); clear hown1 hgrow1)
    | (at_builtin; refine wpList_append_where _ rfl _ _ 22 rfl _ 32 i2 (.slice none 0 0) 1 24 Try.underlying22 hi2 hz20 hz21 hz22 rfl (by decide) v1 rs.length xR rfl (own_keep B1.out.1 (fun z hz => Below.heap_alloc _ _ _ (B1.out.1.lt z hz).2)) ⟨w1.heap.size, 0, none⟩ 1 1 [.slice (some bx) g.length cx] rfl rfl (news_one _ _ _) (by intro u hu; simp at hu; subst hu; rfl) (by unfold maxLen; have := HL5.out; omega) (by have := HL5.out; omega) (by have := B1.out.2.size; rw [World.size_alloc]; omega) ?_; intro v4 w4 hown4 hgrow4 hwh4; obtain ⟨q4, cp4, rfl, -, -, -, -⟩ := own_open hown4 (Nat.succ_pos _); have hb4 := grown_below B1.out.2 hgrow4 (fun z hz => (B1.out.1.lt z hz).1); obtain ⟨⟨e0, e1, e2⟩, ef⟩ := hcells ((hb4.block hb (by have := HLT.out hb HFF.out; simpa [World.setCell] using this)).trans HH2.out); have B4 := Lib.hid (And.intro hown4 (And.intro hgrow4 hb4)); clear hown4 hgrow4 hwh4 hb4))
  go_ret2
  obtain ⟨k1, k2, k3, k4, k5⟩ := turn_fin HFF.out HLT.out HO2.out B4.out.2.2 (only1 w4 hb 2 (.slice (some ⟨q4, 0, none⟩) (rs.length + 1) cp4)) hT (by have := B1.out.1.1; omega) hRx B4.out.1 (Nat.le_refl _) HGX.out
  exact ⟨_, rfl, k3, _, ⟨hb, _, _, rfl, .inl HFF.out, k5, cells_set w4 hb 2 _ _ _ ((B4.out.2.2.block hb (by have := HLT.out hb HFF.out; simpa [World.setCell] using this)).trans HH2.out), k1, k2, by simp only [List.length_append, List.length_singleton]; omega, hE⟩, k4, fun k hk => ⟨hk.imp id (·.1), fun h => h⟩⟩

set_option maxRecDepth 100000 in
set_option maxHeartbeats 4000000 in
theorem refh_redo_no (F : Nat → Prop) (w : World) (ad : Addr) (E : Nat) (us : List (List Ed)) (hr : RefH F w ad E us []) :
    Calls Try.prog 17 #[.pointer (some ad)] w fun e w' => e = .returned (.tuple #[.slice none 0 0, .bool false]) ∧ HGoes RefH F w w' ad E us [] (fun _ => False) := by
  have HG := Lib.hid (show HGoes RefH F w w ad E us [] (fun _ => False) from ⟨F, hr, OnlyAt.refl _ _, fun k hk => ⟨.inl hk, fun h => h⟩⟩)
  obtain ⟨hb, vU, vR, rfl, hF, hlt, hh, hU, hR, hlen, hE⟩ := hr
  obtain ⟨⟨c0, c1, c2⟩, cf⟩ := hcells hh
  obtain ⟨xs, ⟨_, ⟨he, _⟩ | ⟨a, cap, he, _⟩⟩, _⟩ := hR
  all_goals
    try simp only [List.length_nil] at he
    subst he
    clear hh hU hlen hE hF hlt
    go_enter Try.func17, Try.ntmps17
    go_wp2_with fail
    go_ret2
    exact ⟨rfl, HG.out⟩

set_option maxRecDepth 100000 in
set_option maxHeartbeats 4000000 in
theorem refh_redo (F : Nat → Prop) (w : World) (ad : Addr) (E : Nat) (us rs : List (List Ed)) (g : List Ed) (hr : RefH F w ad E us (rs ++ [g])) :
    Calls Try.prog 17 #[.pointer (some ad)] w fun e w' => ∃ v, e = .returned (.tuple #[v, .bool true]) ∧ RowAt w' v g ∧ HGoes RefH F w w' ad E (us ++ [g]) rs (fun _ => False) := by
  obtain ⟨i2, hi2, hz20, hz21, hz22⟩ := info_parts Try.infos32
  obtain ⟨hb, vU, vR, rfl, hF, hlt, hh, hU, hR, hlen, hE⟩ := hr
  obtain ⟨⟨c0, c1, c2⟩, cf⟩ := hcells hh
  obtain ⟨q, off, cap, bx, cx, rfl, hcap, hcell, hGx, hq, hT⟩ := hR.last
  obtain ⟨xR, hRv, hRb, hRx⟩ := hU
  have hlen2 : us.length + rs.length + 1 ≤ E := by simp only [List.length_append, List.length_singleton] at hlen; omega
  have h2 : (w.setCell ⟨hb, 2, none⟩ (.slice (some ⟨q, off, none⟩) rs.length cap)).heap[hb]? = some (.cells #[.int .i64 E, vU, .slice (some ⟨q, off, none⟩) rs.length cap] /-t-/40 (0, 0)) := cells_set w hb 2 _ _ _ hh
  have ho2 : OnlyAt (fun k => k = hb) w (w.setCell ⟨hb, 2, none⟩ (.slice (some ⟨q, off, none⟩) rs.length cap)) := only1 _ _ _ _
  have HRV := Lib.hid (show Vals (w.setCell ⟨hb, 2, none⟩ (.slice (some ⟨q, off, none⟩) rs.length cap)) 1 vU us.length xR from hRv.keep (fun b hv => ho2.block b (hlt b (hRb b hv).1) (hRb b hv).2))
  have HONE := Lib.hid (Col.one hRx)
  have HL5 := Lib.hid (show us.length ≤ 50 by omega)
  have HH2 := Lib.hid h2
  have HO2 := Lib.hid ho2
  have HLT := Lib.hid hlt
  have HFF := Lib.hid hF
  have HGX := Lib.hid hGx
  have hcI : ((rs.length : Int) + 1) ≤ cap := by omega
  have hcI0 : (0 : Int) ≤ rs.length := by omega
  have wf1 : IntKind.i64.wrap ((rs.length : Int) + 1 - 1) = rs.length := by rw [IntWalk.i64_in _ (by omega)]; omega
  have ne0 : (((rs.length : Int) + 1) == 0) = false := by simp; omega
  clear hh hRv h2 ho2 hlen hlt hF hGx hcap
  go_enter Try.func17, Try.ntmps17
  go_wp2_with (first
    | (at_builtin; refine wpList_copy _ rfl _ _ 22 rfl 32 i2 (.slice none 0 0) 1 24 Try.underlying22 hi2 hz20 hz21 hz22 rfl (by decide) vU us.length xR rfl rfl HRV.out HONE.out (by have := HL5.out; omega) (by decide) ?_; intro v1 w1 hown1 hgrow1; have B1 := Lib.hid (And.intro hown1 hgrow1); clear hown1 hgrow1)
    | (at_builtin; refine wpList_append_where _ rfl _ _ 22 rfl _ 32 i2 (.slice none 0 0) 1 24 Try.underlying22 hi2 hz20 hz21 hz22 rfl (by decide) v1 us.length xR rfl (own_keep B1.out.1 (fun z hz => Below.heap_alloc _ _ _ (B1.out.1.lt z hz).2)) ⟨w1.heap.size, 0, none⟩ 1 1 [.slice (some bx) g.length cx] rfl rfl (news_one _ _ _) (by intro u hu; simp at hu; subst hu; rfl) (by unfold maxLen; have := HL5.out; omega) (by have := HL5.out; omega) (by have := B1.out.2.size; rw [World.size_alloc]; omega) ?_; intro v4 w4 hown4 hgrow4 hwh4; obtain ⟨q4, cp4, rfl, -, -, -, -⟩ := own_open hown4 (Nat.succ_pos _); have hb4 := grown_below B1.out.2 hgrow4 (fun z hz => (B1.out.1.lt z hz).1); obtain ⟨⟨e0, e1, e2⟩, ef⟩ := hcells ((hb4.block hb (by have := HLT.out hb HFF.out; simpa [World.setCell] using this)).trans HH2.out); have B4 := Lib.hid (And.intro hown4 (And.intro hgrow4 hb4)); clear hown4 hgrow4 hwh4 hb4))
  go_ret2
  obtain ⟨k1, k2, k3, k4, k5⟩ := turn_fin HFF.out HLT.out HO2.out B4.out.2.2 (only1 w4 hb 1 (.slice (some ⟨q4, 0, none⟩) (us.length + 1) cp4)) hT (by have := B1.out.1.1; omega) hRx B4.out.1 (Nat.le_refl _) HGX.out
  exact ⟨_, rfl, k3, _, ⟨hb, _, _, rfl, .inl HFF.out, k5, cells_set w4 hb 1 _ _ _ ((B4.out.2.2.block hb (by have := HLT.out hb HFF.out; simpa [World.setCell] using this)).trans HH2.out), k2, k1, by simp only [List.length_append, List.length_singleton]; omega, hE⟩, k4, fun k hk => ⟨hk.imp id (·.1), fun h => h⟩⟩
end Go.Proofs.Ytibccdbmdajijaa
