/- DawgOrder: true of any words and number. -/
import Derived.Test.YtkabdieenijnlaaIApp
import Derived.Test.YtkabdieenijnlaaIPlace
import Derived.Test.YtkabdieenijnlaaIRef
import Derived.Deep.RegionLaw
import Derived.Deep.RegionHeld3
namespace Go.Proofs.Ytkabdieenijnlaa
open Go Go.RowKit Go.Lib

theorem few_long {l : List ByteArray} (h : Few15 l) {m : List ByteArray} (hm : ∀ x ∈ m, x ∈ l) : longL m = false := by
  unfold longL
  rw [List.any_eq_false]
  intro x hx
  have := (h.2 x (hm x hx)).1
  simp
  omega
/-- What Build answers of few words, in any order. -/
theorem build_same (w : World) (v : Value) (l l' : List ByteArray) (hf : Few15 l) (h : StrsAt w v l') (hl : l'.length ≤ 20000) (hm : ∀ x, x ∈ l' ↔ x ∈ l) :
    Calls Try.prog 10 #[v] w fun e w' => ∃ (p : Nat) (g : GA) (st : Nat), e = .returned (.tuple #[.pointer (some ⟨p, 0, none⟩), .int .i64 0]) ∧ AutoAt w' p g st ∧ AutoOf g st ((sortedL l).map (tailD 0)) ∧ Below w.heap.size w w' :=
  build_few w v l' (sortedL l) h hl (few_long hf fun x hx => (hm x).1 hx) (foldl_put_rising l [] List.Pairwise.nil) fun x => by
    unfold sortedL
    rw [foldl_put_mem, hm]
    simp
theorem few_sorted {l : List ByteArray} (h : Few15 l) : (sortedL l).length ≤ 40 ∧ ∀ s ∈ sortedL l, s.size ≤ 20 ∧ ∀ c ∈ s.data.toList, c ≠ 0 := by
  unfold sortedL
  refine ⟨Nat.le_trans (foldl_put_len l []) (by have := h.1; simp; omega), fun s hs => ?_⟩
  rw [foldl_put_mem] at hs
  rcases hs with hs | hs
  · cases hs
  · exact h.2 s hs
set_option maxRecDepth 100000 in
set_option maxHeartbeats 4000000 in
theorem order_law (w : World) (v : Value) (l : List ByteArray) (y : Int) (h : StrsQ w v l) : Calls Try.prog 4 #[v, .int .i64 y] w fun e w' => e = .returned (.bool true) ∧ Below w.heap.size w w' := by
  have CF := Lib.hid (few15_any w v l h.at_)
  have hbd := strs_bd h.at_
  obtain ⟨A, cap, rfl⟩ := strs_form h.at_
  obtain ⟨n, hn⟩ : ∃ n, n = l.length := ⟨_, rfl⟩
  rw [← hn] at h CF hbd ⊢
  have CA := Lib.hid awake15_any
  have H := Lib.hid (And.intro h hn)
  clear h hn
  go_enter Try.func4, Try.ntmps4
  go_wp2_with fail
  refine CF.out.mono ?_
  rintro e w1 ⟨hfe, rfl⟩
  obtain ⟨b, rfl, hfb⟩ := hfe
  have HFB := Lib.hid hfb
  clear hfb CF
  cases b with
  | false =>
    go_wp2_with (go_at_call 9; refine (CA.out _).mono ?_; rintro e w2 ⟨rfl, hb⟩; have HB := Lib.hid hb; clear hb)
    go_ret
    exact ⟨rfl, HB.out⟩
  | true =>
    by_cases hz : n = 0
    · subst hz
      go_wp2_with (go_at_call 9; refine (CA.out _).mono ?_; rintro e w2 ⟨rfl, hb⟩; have HB := Lib.hid hb; clear hb)
      go_ret
      exact ⟨rfl, HB.out⟩
    · have hf := HFB.out rfl
      have hn40 : n ≤ 40 := by have := hf.1; have := H.out.2; omega
      have hz1 : ((n : Int) == 0) = false := by rw [beq_eq_false_iff_ne]; omega
      have hn1 : (0 : Int) < n := by omega
      have CP := Lib.hid (place9 y n w1 hn1 (by omega))
      obtain ⟨k, hk, hkn⟩ : ∃ k : Nat, y % (n : Int) = k ∧ k < n := ⟨(y % (n : Int)).toNat, by have := Int.emod_nonneg y (show (n : Int) ≠ 0 by omega); omega, by have := Int.emod_lt_of_pos y hn1; have := Int.emod_nonneg y (show (n : Int) ≠ 0 by omega); omega⟩
      rw [hk] at CP
      have HF := Lib.hid hf
      obtain ⟨q, off, rfl, hqc⟩ : ∃ q off, A = some ⟨q, off, none⟩ ∧ n ≤ cap := by
        rcases H.out.1 with ⟨e, _⟩ | ⟨b, off, c, e, h1, h2, h3, h4⟩
        · rw [e] at H; exact absurd H.out.2 hz
        · injection e with e1 e2 e3
          subst e1 e3
          exact ⟨b, off, rfl, by omega⟩
      have HA1 := Lib.hid (show StrsQ w1 (.slice (some ⟨q, off + k, none⟩) (n - k) (cap - k)) (l.drop k) ∧ StrsQ w1 (.slice (some ⟨q, off, none⟩) k cap) (l.take k) from by
        rcases H.out.1 with ⟨e, _⟩ | ⟨b, off', c, e, h1, h2, h3, h4⟩
        · rw [e] at H; exact absurd H.out.2 hz
        · injection e with e1 e2 e3
          cases e1
          subst e3
          refine ⟨.inr ⟨q, off + k, cap - k, by rw [List.length_drop, ← H.out.2], h1, by rw [List.length_drop]; omega, by omega, fun i s hs => ?_⟩, .inr ⟨q, off, cap, by rw [List.length_take, ← H.out.2, Nat.min_eq_left (by omega)], h1, by rw [List.length_take]; omega, h3, fun i s hs => ?_⟩⟩
          · rw [List.getElem?_drop] at hs
            rw [Nat.add_assoc]
            exact h4 _ s hs
          · rw [List.getElem?_take] at hs
            split at hs
            · exact h4 i s hs
            · cases hs)
      clear hf hz HFB
      go_upto_region 4 with (go_at_call 19; refine CP.out.mono ?_; rintro e w2 ⟨rfl, rfl⟩)
      have HL := Lib.hid (show l.length ≤ 40 by have := H.out.2; omega)
      go_upto_region 5 with (first
        | (at_builtin; refine wpList_append_strs rfl _ _ rfl w1.heap.size (.slice none 0 0) [] _ l rfl (World.ownsRow_nil _ _ _ _) rfl H.out.1 (by have := HL.out; simp; omega) (Nat.le_refl _) ?_; intro v2 w2 ho2 hg2; have HO2 := Lib.hid (And.intro ho2 hg2); clear ho2 hg2; obtain ⟨A2, c2, rfl⟩ := row_shape HO2.out.1)
        | (go_at_call 10; refine (build_same w2 _ l _ HF.out (strs_own HO2.out.1 rfl) (by have := HL.out; simp; omega) (fun x => by simp)).mono ?_; rintro e w3 ⟨p1, g1, st1, rfl, hr1⟩; have HR1 := Lib.hid hr1; clear hr1))
      have HB13 := Lib.hid (show Below w1.heap.size w1 w3 from (HO2.out.2.below (Below.refl _ _) (Nat.le_refl _) (fun g hg => by simp [Value.ownBlock] at hg)).trans (HR1.out.2.2.mono HO2.out.2.grown.size))
      have HQ3 := Lib.hid (show StrsQ w3 (.slice (some ⟨q, off, none⟩) n cap) l ∧ StrsQ w3 (.slice (some ⟨q, off + k, none⟩) (n - k) (cap - k)) (l.drop k) ∧ StrsQ w3 (.slice (some ⟨q, off, none⟩) k cap) (l.take k) from ⟨H.out.1.keep HB13.out, HA1.out.1.keep HB13.out, HA1.out.2.keep HB13.out⟩)
      have HQ4 := Lib.hid (show StrsQ w3.drew (.slice (some ⟨q, off + k, none⟩) (n - k) (cap - k)) (l.drop k) ∧ Below w3.heap.size w3 w3.drew from ⟨HQ3.out.2.1.keep (Below.refl _ _).drew, (Below.refl _ _).drew⟩)
      have k0 : (0 : Int) ≤ k := by omega
      have k1 : (k : Int) ≤ n := by omega
      have k2 : (k : Int) ≤ cap := by omega
      have k3 : ¬ cap = k := by omega
      have k4 : ¬ k = cap := by omega
      clear hk hkn CP HA1
      obtain ⟨D, hD⟩ : ∃ D, D = l.drop k := ⟨_, rfl⟩
      obtain ⟨Tk, hTk⟩ : ∃ T, T = l.take k := ⟨_, rfl⟩
      obtain ⟨DL, hDL⟩ : ∃ D', D' = D ++ l := ⟨_, rfl⟩
      obtain ⟨DT, hDT⟩ : ∃ D', D' = DL ++ Tk := ⟨_, rfl⟩
      rw [← hD, ← hTk] at HQ3
      rw [← hD] at HQ4
      have HDD := Lib.hid (show DL = D ++ l ∧ DT = DL ++ Tk ∧ (D.length ≤ 40 ∧ Tk.length ≤ 40 ∧ DL.length ≤ 80 ∧ DT.length ≤ 120) ∧ ∀ x, x ∈ DT ↔ x ∈ l from by
        have hl := HL.out
        have h1 : D.length ≤ 40 := by rw [hD, List.length_drop]; omega
        have h2 : Tk.length ≤ 40 := by rw [hTk, List.length_take]; omega
        have h3 : DL.length ≤ 80 := by rw [hDL, List.length_append]; omega
        have h4 : DT.length ≤ 120 := by rw [hDT, List.length_append]; omega
        refine ⟨hDL, hDT, ⟨h1, h2, h3, h4⟩, fun x => ?_⟩
        rw [hDT, hDL, List.mem_append, List.mem_append, hD, hTk]
        constructor
        · rintro ((h | h) | h)
          · exact List.mem_of_mem_drop h
          · exact h
          · exact List.mem_of_mem_take h
        · intro h; exact .inl (.inr h))
      clear hD hTk hDL hDT
      go_region_law (first
        | (refine step_append_strs (by rfl) _ _ (by rfl) w3.heap.size _ DL _ Tk (by rfl) HO5.out.1 (by rfl) (HQ3.out.2.2.keep HO5.out.2) (by have := HDD.out.2.2.1; omega) HO5.out.2.size ?_; intro v6 w6 ho6 hg6; have HO6 := Lib.hid (show w6.ownsRow w3.heap.size 9 1 v6 DT.length (DT.map Value.string) ∧ Below w3.heap.size w3 w6 from ⟨by rw [HDD.out.2.1]; exact ho6, hg6.below HO5.out.2 HO5.out.2.size (fun g hg => (HO5.out.1.lt g hg).1)⟩); clear ho6 hg6; obtain ⟨A6, c6, rfl⟩ := row_shape HO6.out.1)
        | (refine step_append_strs (by rfl) _ _ (by rfl) w3.heap.size _ D _ l (by rfl) HO4.out.1 (by rfl) (HQ3.out.1.keep HO4.out.2) (by have := HL.out; have := HDD.out.2.2.1; omega) HO4.out.2.size ?_; intro v5 w5 ho5 hg5; have HO5 := Lib.hid (show w5.ownsRow w3.heap.size 9 1 v5 DL.length (DL.map Value.string) ∧ Below w3.heap.size w3 w5 from ⟨by rw [HDD.out.1]; exact ho5, hg5.below HO4.out.2 HO4.out.2.size (fun g hg => (HO4.out.1.lt g hg).1)⟩); clear ho5 hg5; obtain ⟨A5, c5, rfl⟩ := row_shape HO5.out.1)
        | (refine step_append_strs (by rfl) _ _ (by rfl) w3.heap.size (.slice none 0 0) [] _ D (by rfl) (World.ownsRow_nil _ _ _ _) (by rfl) HQ4.out.1 (by have := HDD.out.2.2.1; simp; omega) (Nat.le_refl _) ?_; intro v4 w4 ho4 hg4; have HO4 := Lib.hid (And.intro (show w4.ownsRow w3.heap.size 9 1 v4 D.length (D.map Value.string) from ho4) (show Below w3.heap.size w3 w4 from hg4.below HQ4.out.2 (Nat.le_refl _) (fun g hg => by simp [Value.ownBlock] at hg))); clear ho4 hg4; obtain ⟨A4, c4, rfl⟩ := row_shape HO4.out.1)
        | (go_simp; go_at_call 10; refine (build_same w6 _ l DT HF.out (strs_own HO6.out.1 rfl) (by have := HDD.out.2.2.1; omega) HDD.out.2.2.2).mono ?_; rintro e w7 ⟨p2, g2, st2, rfl, hr2⟩; have HR2 := Lib.hid hr2; clear hr2))
      obtain ⟨C, hC⟩ : ∃ C, C = (dd (allEnds ((sortedL l).map (tailD 0)))).length := ⟨_, rfl⟩
      have hb37 : Below w3.heap.size w3 w7 := HO6.out.2.trans (HR2.out.2.2.mono HO6.out.2.size)
      have HA1 := Lib.hid (HR1.out.1.keep hb37)
      have HA2 := Lib.hid HR2.out.1
      have hfs := few_sorted HF.out
      have CS1 := Lib.hid (show Calls Try.prog 14 #[.pointer (some ⟨p1, 0, none⟩)] w7 fun e w' => e = .returned (.int .i64 C) ∧ w' = w7 from by
        have h1 := states_any w7 p1 g1 st1 HA1.out
        rwa [count_dd HA1.out.ok HR1.out.2.1.set, ← hC] at h1)
      have CS2 := Lib.hid (show Calls Try.prog 14 #[.pointer (some ⟨p2, 0, none⟩)] w7 fun e w' => e = .returned (.int .i64 C) ∧ w' = w7 from by
        have h1 := states_any w7 p2 g2 st2 HA2.out
        rwa [count_dd HA2.out.ok HR2.out.2.1.set, ← hC] at h1)
      have CT1 := Lib.hid (start_any w7 p1 g1 st1 HA1.out)
      have CL1 := Lib.hid (all15_any w7 w7 p1 g1 st1 (sortedL l) HA1.out (Below.refl _ _) HR1.out.2.1.start hfs.1 (fun s hs => (hfs.2 s hs).1))
      have CT2 := Lib.hid (fun wx (hb : Below w7.heap.size w7 wx) => start_any wx p2 g2 st2 (HA2.out.keep hb))
      have CL2 := Lib.hid (fun wx (hb : Below w7.heap.size w7 wx) => all15_any w7 wx p2 g2 st2 (sortedL l) HA2.out hb HR2.out.2.1.start hfs.1 (fun s hs => (hfs.2 s hs).1))
      have hcc : ((C : Int) != (C : Int)) = false := by simp
      have HB7 := Lib.hid (show Below w1.heap.size w1 w7 from HB13.out.trans (hb37.mono HB13.out.size))
      clear hb37 hfs hC HO4 HO5 HO6 HQ3 HQ4 HR1 HR2 HDD HO2
      go_wp2_with fail
      refine CS1.out.mono ?_
      rintro e w8 ⟨rfl, rfl⟩
      go_wp2_with fail
      refine CS2.out.mono ?_
      rintro e w9 ⟨rfl, rfl⟩
      go_wp2_with fail
      refine CT1.out.mono ?_
      rintro e w10 ⟨rfl, rfl⟩
      go_wp2_with fail
      refine CL1.out.mono ?_
      rintro e w11 ⟨v11, rfl, hv11, hb11⟩
      have HV11 := Lib.hid (And.intro hv11 hb11)
      clear hv11 hb11
      go_wp2_with fail
      refine (CT2.out _ HV11.out.2).mono ?_
      rintro e w12 ⟨rfl, rfl⟩
      go_wp2_with fail
      refine (CL2.out _ HV11.out.2).mono ?_
      rintro e w13 ⟨v13, rfl, hv13, hb13⟩
      have HV13 := Lib.hid (And.intro hv13 (And.intro hb13 (HV11.out.1.keep hb13)))
      clear hv13 hb13
      go_wp2_with fail
      refine (sames_any w13 v11 v13 (sortedL l) (sortedL l) HV13.out.2.2 HV13.out.1).mono ?_
      rintro e w14 ⟨he14, hb14⟩
      obtain rfl : e = .returned (.bool true) := by rw [he14]; simp
      have HB14 := Lib.hid hb14
      clear hb14 he14
      go_wp2_with fail
      refine (CA.out _).mono ?_
      rintro e w15 ⟨rfl, hb15⟩
      have HB15 := Lib.hid hb15
      clear hb15
      go_wp2_with fail
      go_ret
      refine ⟨rfl, HB7.out.trans (Below.mono ?_ HB7.out.size)⟩
      have hA := HV11.out.2
      have hB := HV13.out.2.1
      have hC := HB14.out
      have hD := HB15.out
      exact ((hA.trans (hB.mono hA.size)).trans (hC.mono (Nat.le_trans hA.size hB.size))).trans (hD.mono (Nat.le_trans (Nat.le_trans hA.size hB.size) hC.size))
end Go.Proofs.Ytkabdieenijnlaa
