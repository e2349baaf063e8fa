/- The array of pieces: put, drop, add, rest, part, of a buffer that lies somehow. -/
import Derived.Test.YtfdnlbeancdajaaDPut
namespace Go.Proofs.Ytfdnlbeancdajaa
open Go Go.RowKit

variable {w : World} {b m : Nat} {ta oa da : Addr} {F : Nat → Prop} {T : List It} {h : Nat} {O D : ByteArray} {al : List (Bool × Nat)} {fr : List Nat}

theorem put_any (hS : St w b m ta oa da F T h O D al fr) (hfree : ∀ k ∈ fr, k < al.length) (hal : al.length ≤ 1000000) (hfr : fr.length ≤ 1000000) (ad : Bool) (n : Nat) :
    Calls Try.prog 26 #[.pointer (some ⟨b, 2, none⟩), .agg #[.bool ad, .int .i64 n]] w fun e w' => ∃ (key : Nat) (al' : List (Bool × Nat)) (fr' : List Nat) (F' : Nat → Prop), e = .returned (.int .i64 key) ∧ Put al fr (ad, n) key al' fr' ∧ St w' b m ta oa da F' T h O D al' fr' ∧ Moved F w w' F' := by
  obtain ⟨va, vf, hbox, hA, hF, ⟨ne1, ne2, ne3⟩, turn⟩ := hS.rows
  rcases List.eq_nil_or_concat fr with rfl | ⟨fr0, key, hfr0⟩
  · obtain ⟨A, cap, rfl⟩ := row_shape hF
    obtain ⟨Aa, capa, rfl⟩ := row_shape hA
    refine (put_new_raw hbox hA hal ne1 ad n).mono ?_
    rintro e w' ⟨he, g, cap', ho, hg, hb', hrow⟩
    obtain ⟨F', hS', hM⟩ := turn w' (.slice (some ⟨g, 0, none⟩) (al.length + 1) cap') (.slice A 0 cap) (al ++ [(ad, n)]) [] hb' (by rw [List.length_append, cellsA_append]; exact hrow) (row_only hF ho (fun z hz e => by
        rcases e with e | e
        · subst e; exact ne2 hz
        · exact ne3 z e hz)) (ho.mono fun z hz => hz.imp id .inl) (fun g' hg' => by
          simp only [Value.ownBlock, Option.some.injEq] at hg'
          subst hg'
          refine hg.imp id (fun e => ⟨e, fun e' => ?_⟩)
          have := row_lt hF g e'; omega) (fun g' hg' => .inl hg')
    exact ⟨al.length, _, _, F', he, .inr ⟨rfl, rfl, rfl, rfl⟩, hS', hM⟩
  · rw [List.concat_eq_append] at hfr0
    subst hfr0
    have hk := hfree key (by simp)
    obtain ⟨g, cap, cur, rfl, hg, hc1, hc2, hc3, hc4⟩ := row_some hF (by simp)
    obtain ⟨ga, capa, cura, rfl, hga, ha1, ha2, ha3, ha4⟩ := row_some hA (by omega)
    have hfk : (cellsF (fr0 ++ [key]))[fr0.length]? = some (.int .i64 (key : Int)) := cellsF_get _ _ _ (by simp)
    have hck := take_get hc4 hfk
    have hl : (fr0 ++ [key]).length = fr0.length + 1 := by simp
    rw [hl] at hc1 hbox hF ne2 ne3 turn
    have hbg : b ≠ g := fun e => ne2 (by rw [e]; rfl)
    have hba : b ≠ ga := fun e => ne1 (by rw [e]; rfl)
    have hgg : g ≠ ga := fun e => ne3 ga rfl (by rw [← e]; rfl)
    refine (put_old_raw hbox hg hck hc1 hga hk hal (by omega) (by omega) hbg hba hgg ad n).mono ?_
    rintro e w' ⟨he, ho, hb', hga'⟩
    have hr1 : w'.ownsRow 0 /-t-/65 2 (.slice (some ⟨ga, 0, none⟩) al.length capa) (al.set key (ad, n)).length (cellsA (al.set key (ad, n))) := by
      rw [List.length_set]
      refine ⟨by rw [cellsA_length, List.length_set], .inr ⟨ga, capa, _, rfl, Nat.zero_le _, hga', ha1, ha2, by simpa using ha3, ?_⟩⟩
      rw [cellsA_set, ← ha4]
      simp only [Array.toList_setIfInBounds, List.take_set]
    have hr2 : w'.ownsRow 0 /-t-/3 1 (.slice (some ⟨g, 0, none⟩) fr0.length cap) fr0.length (cellsF fr0) := by
      refine ⟨by simp [cellsF], .inr ⟨g, cap, cur, rfl, Nat.zero_le _, (ho.block g (Array.getElem?_eq_some_iff.1 hg).1 (fun e => e.elim (fun e => hbg e.symm) hgg)).trans hg, by omega, hc2, hc3, ?_⟩⟩
      have e2 : cellsF fr0 = (cellsF (fr0 ++ [key])).take (fr0.length * 1) := by
        rw [cellsF_append, Nat.mul_one, List.take_left' (by simp [cellsF])]
      rw [e2, ← hc4, List.take_take]
      congr 1; simp
    obtain ⟨F', hS', hM⟩ := turn w' (.slice (some ⟨ga, 0, none⟩) al.length capa) (.slice (some ⟨g, 0, none⟩) fr0.length cap) (al.set key (ad, n)) fr0 hb' hr1 hr2 (ho.mono fun z hz => hz.imp id (fun e => .inl (by rw [e]; rfl))) (fun g' hg' => .inl hg') (fun g' hg' => .inl hg')
    exact ⟨key, _, _, F', he, .inl ⟨rfl, rfl⟩, hS', hM⟩

theorem drop_any (hS : St w b m ta oa da F T h O D al fr) (hfr : fr.length ≤ 1000000) (key : Nat) :
    Calls Try.prog 71 #[.pointer (some ⟨b, 2, none⟩), .int .i64 key] w fun e w' => ∃ F', e = .returned (.tuple #[]) ∧ St w' b m ta oa da F' T h O D al (fr ++ [key]) ∧ Moved F w w' F' := by
  obtain ⟨va, vf, hbox, hA, hF, ⟨ne1, ne2, ne3⟩, turn⟩ := hS.rows
  obtain ⟨A, cap, rfl⟩ := row_shape hF
  refine (drop_raw hbox hF hfr ne2 key).mono ?_
  rintro e w' ⟨he, g, cap', ho, hg, hb', hrow⟩
  obtain ⟨F', hS', hM⟩ := turn w' va (.slice (some ⟨g, 0, none⟩) (fr.length + 1) cap') al (fr ++ [key]) hb' (row_only hA ho (fun z hz e => by
      rcases e with e | e
      · subst e; exact ne1 hz
      · exact ne3 z hz e)) (by rw [List.length_append, cellsF_append]; exact hrow) (ho.mono fun z hz => hz.imp id .inr) (fun g' hg' => .inl hg') (fun g' hg' => by
        simp only [Value.ownBlock, Option.some.injEq] at hg'
        subst hg'
        refine hg.imp id (fun e => ⟨e, fun e' => ?_⟩)
        have := row_lt hA g e'; omega)
  exact ⟨F', he, hS', hM⟩

set_option maxRecDepth 100000 in
set_option maxHeartbeats 4000000 in
theorem part_any (hS : St w b m ta oa da F T h O D al fr) {key frm : Nat} {ad : Bool} (hk : al[key]? = some (ad, frm)) (hal : al.length ≤ 1000000) (off n : Nat) (hfit : frm + off + n ≤ (if ad then D else O).size) (hO : O.size ≤ 1000000) (hD : D.size ≤ 1000000) :
    Calls Try.prog 47 #[.pointer (some ⟨b, 2, none⟩), .int .i64 key, .int .i64 off, .int .i64 n] w fun e w' => e = .returned (.string ((if ad then D else O).extract (frm + off) (frm + off + n))) ∧ Below w.heap.size w w' := by
  obtain ⟨va, vf, hbox, hA, hF, ⟨ne1, ne2, ne3⟩, turn⟩ := hS.rows
  have hkl := (List.getElem?_eq_some_iff.1 hk).1
  obtain ⟨ga, capa, cura, rfl, hga, ha1, ha2, ha3, ha4⟩ := row_some hA (by omega)
  obtain ⟨g0, g1⟩ := cellsA_get al key _ hk
  have k0 := take_get ha4 g0
  have k1 := take_get ha4 g1
  have d0 : w.cell? ⟨ga, key * 2, none⟩ = some (.bool ad) := by simp [World.cell?, hga, k0]
  have d1 : w.cell? ⟨ga, key * 2 + 1, none⟩ = some (.int .i64 frm) := by simp [World.cell?, hga, k1]
  obtain ⟨-, -, c2, c3⟩ := hS.cells
  have c4 : w.cell? ⟨b, 4, none⟩ = some (.slice (some ⟨ga, 0, none⟩) al.length capa) := by simp [World.cell?, hbox]
  obtain ⟨FO, hRO⟩ := hS.orig
  obtain ⟨FD, hRD, -⟩ := hS.adds
  have CO := Lib.hid (fun wx (hx : Below w.heap.size w wx) (k n : Nat) (hkn : k + n ≤ O.size) => yes_b (store_only hRO (OnlyAt.of_below (T := fun _ => False) hx) (fun _ _ => id)) k n hkn hO)
  have CD := Lib.hid (fun wx (hx : Below w.heap.size w wx) (k n : Nat) (hkn : k + n ≤ D.size) => yes_b (store_only hRD (OnlyAt.of_below (T := fun _ => False) hx) (fun _ _ => id)) k n hkn hD)
  have i0 : (0 : Int) ≤ key := by omega
  have i1 : (key : Int) < al.length := by omega
  have hmf := Avl.run_makeFunc
  clear hS hk hA hF ne1 ne2 ne3 turn hga ha1 ha2 ha3 ha4 g0 g1 k0 k1 hRO hRD hbox hkl
  generalize al.length = N at *
  cases ad with
  | true =>
    have s1 : frm + off + n ≤ D.size := hfit
    have j1 : ((frm : Nat) : Int) + off ≤ 1000000 := by omega
    have j0 : (0 : Int) ≤ (frm : Int) + off := by omega
    have hb1 : Below w.heap.size w (w.alloc (.cells #[.bool true, .int .i64 frm] /-t-/65)) := (Below.refl _ _).alloc (Nat.le_refl _) _
    have e2 := (hb1.cell (p := ⟨b, 2, none⟩) (World.block_lt_of_cell? w _ c2)).trans c2
    have e3 := (hb1.cell (p := ⟨b, 3, none⟩) (World.block_lt_of_cell? w _ c3)).trans c3
    have n0 : (w.alloc (.cells #[.bool true, .int .i64 frm] /-t-/65)).cell? ⟨w.heap.size, 0, none⟩ = some (.bool true) := by simp only [World.cell?]; rw [Avl.look_same w _ rfl]; rfl
    have n1 : (w.alloc (.cells #[.bool true, .int .i64 frm] /-t-/65)).cell? ⟨w.heap.size, 1, none⟩ = some (.int .i64 frm) := by simp only [World.cell?]; rw [Avl.look_same w _ rfl]; rfl
    have CX := Lib.hid (CD.out _ hb1 (frm + off) n s1)
    rw [Int.natCast_add] at CX
    have HB := Lib.hid hb1
    clear hfit s1 hO hD CO CD hb1
    go_enter Try.func47, Try.ntmps47
    go_wp2_with fail
    refine CX.out.mono ?_
    rintro e w2 ⟨rfl, hb2⟩
    have HB2 := Lib.hid (HB.out.trans (hb2.mono HB.out.size))
    clear hb2
    go_wp2_with fail
    go_ret
    exact ⟨rfl, HB2.out⟩
  | false =>
    have s1 : frm + off + n ≤ O.size := hfit
    have j1 : ((frm : Nat) : Int) + off ≤ 1000000 := by omega
    have j0 : (0 : Int) ≤ (frm : Int) + off := by omega
    have hb1 : Below w.heap.size w (w.alloc (.cells #[.bool false, .int .i64 frm] /-t-/65)) := (Below.refl _ _).alloc (Nat.le_refl _) _
    have e2 := (hb1.cell (p := ⟨b, 2, none⟩) (World.block_lt_of_cell? w _ c2)).trans c2
    have e3 := (hb1.cell (p := ⟨b, 3, none⟩) (World.block_lt_of_cell? w _ c3)).trans c3
    have n0 : (w.alloc (.cells #[.bool false, .int .i64 frm] /-t-/65)).cell? ⟨w.heap.size, 0, none⟩ = some (.bool false) := by simp only [World.cell?]; rw [Avl.look_same w _ rfl]; rfl
    have n1 : (w.alloc (.cells #[.bool false, .int .i64 frm] /-t-/65)).cell? ⟨w.heap.size, 1, none⟩ = some (.int .i64 frm) := by simp only [World.cell?]; rw [Avl.look_same w _ rfl]; rfl
    have CX := Lib.hid (CO.out _ hb1 (frm + off) n s1)
    rw [Int.natCast_add] at CX
    have HB := Lib.hid hb1
    clear hfit s1 hO hD CO CD hb1
    go_enter Try.func47, Try.ntmps47
    go_wp2_with fail
    refine CX.out.mono ?_
    rintro e w2 ⟨rfl, hb2⟩
    have HB2 := Lib.hid (HB.out.trans (hb2.mono HB.out.size))
    clear hb2
    go_wp2_with fail
    go_ret
    exact ⟨rfl, HB2.out⟩

set_option maxRecDepth 100000 in
set_option maxHeartbeats 4000000 in
theorem rest_any (hS : St w b m ta oa da F T h O D al fr) {key frm : Nat} {ad : Bool} (hk : al[key]? = some (ad, frm)) (hfree : ∀ k ∈ fr, k < al.length) (hal : al.length ≤ 1000000) (hfr : fr.length ≤ 1000000) (off : Nat) (hoff : frm + off ≤ 1000000) :
    Calls Try.prog 70 #[.pointer (some ⟨b, 2, none⟩), .int .i64 key, .int .i64 off] w fun e w' => ∃ (key' : Nat) (al' : List (Bool × Nat)) (fr' : List Nat) (F' : Nat → Prop), e = .returned (.int .i64 key') ∧ Put al fr (ad, frm + off) key' al' fr' ∧ St w' b m ta oa da F' T h O D al' fr' ∧ Moved F w w' F' := by
  obtain ⟨va, vf, hbox, hA, hF, ⟨ne1, ne2, ne3⟩, turn⟩ := hS.rows
  have hkl := (List.getElem?_eq_some_iff.1 hk).1
  obtain ⟨ga, capa, cura, rfl, hga, ha1, ha2, ha3, ha4⟩ := row_some hA (by omega)
  obtain ⟨g0, g1⟩ := cellsA_get al key _ hk
  have k0 := take_get ha4 g0
  have k1 := take_get ha4 g1
  have d0 : w.cell? ⟨ga, key * 2, none⟩ = some (.bool ad) := by simp [World.cell?, hga, k0]
  have d1 : w.cell? ⟨ga, key * 2 + 1, none⟩ = some (.int .i64 frm) := by simp [World.cell?, hga, k1]
  have c4 : w.cell? ⟨b, 4, none⟩ = some (.slice (some ⟨ga, 0, none⟩) al.length capa) := by simp [World.cell?, hbox]
  have i0 : (0 : Int) ≤ key := by omega
  have i1 : (key : Int) < al.length := by omega
  have hb1 : Below w.heap.size w (w.alloc (.cells #[.bool ad, .int .i64 frm] /-t-/65)) := (Below.refl _ _).alloc (Nat.le_refl _) _
  have n0 : (w.alloc (.cells #[.bool ad, .int .i64 frm] /-t-/65)).cell? ⟨w.heap.size, 0, none⟩ = some (.bool ad) := by simp only [World.cell?]; rw [Avl.look_same w _ rfl]; rfl
  have n1 : (w.alloc (.cells #[.bool ad, .int .i64 frm] /-t-/65)).cell? ⟨w.heap.size, 1, none⟩ = some (.int .i64 frm) := by simp only [World.cell?]; rw [Avl.look_same w _ rfl]; rfl
  have CP := Lib.hid (put_any (hS.below hb1) hfree hal hfr ad (frm + off))
  rw [Int.natCast_add] at CP
  have j1 : ((frm : Nat) : Int) + off ≤ 1000000 := by omega
  have j0 : (0 : Int) ≤ (frm : Int) + off := by omega
  have HB := Lib.hid hb1
  clear hS hk hA hF ne1 ne2 ne3 turn hga ha1 ha2 ha3 ha4 g0 g1 k0 k1 hbox hkl hb1 hfree hal hfr hoff
  generalize al.length = N at *
  go_enter Try.func70, Try.ntmps70
  go_wp2_with fail
  refine CP.out.mono ?_
  rintro e w2 ⟨key', al', fr', F', rfl, hp, hS', hM⟩
  have H2 := Lib.hid (And.intro hp (And.intro hS' ((Moved.below HB.out).trans hM)))
  clear hp hS' hM
  go_wp2_with fail
  go_ret
  exact ⟨key', al', fr', F', rfl, H2.out⟩

set_option maxRecDepth 100000 in
set_option maxHeartbeats 4000000 in
theorem add_any (hS : St w b m ta oa da F T h O D al fr) (hfree : ∀ k ∈ fr, k < al.length) (hal : al.length ≤ 1000000) (hfr : fr.length ≤ 1000000) (t : ByteArray) (ht : D.size + t.size ≤ 1000000) :
    Calls Try.prog 57 #[.pointer (some ⟨b, 2, none⟩), .string t] w fun e w' => ∃ (key : Nat) (al' : List (Bool × Nat)) (fr' : List Nat) (F' : Nat → Prop), e = .returned (.int .i64 key) ∧ Put al fr (true, D.size) key al' fr' ∧ St w' b m ta oa da F' T h O (D ++ t) al' fr' ∧ Moved F w w' F' := by
  obtain ⟨-, -, c2, c3⟩ := hS.cells
  obtain ⟨FD, hRD, turn⟩ := hS.adds
  have CA := Lib.hid (Sto.store_says.add FD w da D t hRD ht)
  have HT := Lib.hid turn
  have HF := Lib.hid (And.intro hfree (And.intro hal hfr))
  clear hS hRD turn hfree hal hfr ht
  go_enter Try.func57, Try.ntmps57
  go_wp2_with fail
  refine CA.out.mono ?_
  rintro e w1 ⟨FD', rfl, hR, hO, hN⟩
  obtain ⟨F1, hS1, hM1⟩ := HT.out w1 FD' (D ++ t) hR hO hN
  have CP := Lib.hid (put_any hS1 HF.out.1 HF.out.2.1 HF.out.2.2 true D.size)
  have HM := Lib.hid hM1
  clear hR hO hN hS1 hM1
  go_wp2_with fail
  refine CP.out.mono ?_
  rintro e w2 ⟨key', al', fr', F', rfl, hp, hS', hM⟩
  have H2 := Lib.hid (And.intro hp (And.intro hS' (HM.out.trans hM)))
  clear hp hS' hM
  go_wp2_with fail
  go_ret
  exact ⟨key', al', fr', F', rfl, H2.out⟩
end Go.Proofs.Ytfdnlbeancdajaa
