/- Great and small letters, plain: no program. A text cut into its units; what stands side by side; small, titled, a shape. -/
import Derived.Test.YtfhoffdgbkoffaaDoorVPlain
namespace Go.Proofs.YtfhoffdgbkoffaaDoor
open Go Go.Lib

theorem units_shift (q : Nat) : ∀ (l : List UInt8) p, units (p + q) l = (units p l).map fun u => (u.1 + q, u.2) := by
  apply unit_ind (C := fun l => ∀ p, units (p + q) l = (units p l).map fun u => (u.1 + q, u.2))
  · intro p; rfl
  · intro l hne ih p
    rw [units_step _ l hne, units_step p l hne, List.map_cons, show p + q + (decodeL l).2 = p + (decodeL l).2 + q by omega, ih]
/-- A text's units: each one's bytes, and its code. -/
def cuts (l : List UInt8) : List (List UInt8 × Int) := (units 0 l).map fun u => ((l.drop u.1).take u.2.1, u.2.2)
theorem cuts_nil : cuts [] = [] := rfl
theorem cuts_step (l : List UInt8) (hne : l ≠ []) : cuts l = (l.take (decodeL l).2, uCode l) :: cuts (l.drop (decodeL l).2) := by
  unfold cuts
  rw [units_step 0 l hne, List.map_cons, Nat.zero_add]
  have h := units_shift (decodeL l).2 (l.drop (decodeL l).2) 0
  rw [Nat.zero_add] at h
  rw [h, List.map_map]
  congr 1
  apply List.map_congr_left
  intro u _
  simp [List.drop_drop, Nat.add_comm]
theorem cuts_len (l : List UInt8) : (cuts l).length = (units 0 l).length := by simp [cuts]

/-- A list that doesn't begin with a byte that goes on. -/
def Head (t : List UInt8) : Prop := (t.getD 0 0).toNat / 64 ≠ 2
theorem Head.nil : Head [] := by simp [Head]
theorem Head.cons {b : UInt8} (h : b.toNat / 64 ≠ 2) (t : List UInt8) : Head (b :: t) := by simpa [Head] using h
theorem decode_head (l t : List UInt8) (hne : l ≠ []) (ht : Head t) : decodeL (l ++ t) = decodeL l := by
  unfold Head at ht
  have ht2 : ¬ ((t[0]?.getD 0).toNat / 64 = 2) := by simpa [List.getD] using ht
  rcases l with _ | ⟨a, l⟩
  · exact absurd rfl hne
  rcases l with _ | ⟨b, l⟩
  · have g1 : ([a] ++ t).getD 1 0 = t.getD 0 0 := by simp [List.getD]
    rw [decodeL_N, decodeL_N [a], g1]
    unfold decodeN
    simp [ht2]
  rcases l with _ | ⟨c, l⟩
  · have g2 : ([a, b] ++ t).getD 2 0 = t.getD 0 0 := by simp [List.getD]
    rw [decodeL_N, decodeL_N [a, b], g2]
    unfold decodeN
    simp [ht2]
  rcases l with _ | ⟨d, l⟩
  · have g3 : ([a, b, c] ++ t).getD 3 0 = t.getD 0 0 := by simp [List.getD]
    rw [decodeL_N, decodeL_N [a, b, c], g3]
    unfold decodeN
    simp [ht2]
  · rw [decodeL_N, decodeL_N (a :: b :: c :: d :: l)]
    unfold decodeN
    simp
theorem uCode_head (l t : List UInt8) (hne : l ≠ []) (ht : Head t) : uCode (l ++ t) = uCode l := by
  have h := decode_head l t hne ht
  have h0 : (l ++ t).getD 0 0 = l.getD 0 0 := getD_append_left l t 0 (List.length_pos_iff.2 hne)
  unfold uCode uBad
  rw [h, h0]
/-- Side by side, where what follows begins afresh. -/
theorem cuts_app (t : List UInt8) (ht : Head t) : ∀ l, cuts (l ++ t) = cuts l ++ cuts t := by
  apply unit_ind
  · rfl
  · intro l hne ih
    have hle := decodeL_le l hne
    rw [cuts_step l hne, cuts_step (l ++ t) (by simp [hne]), decode_head l t hne ht, uCode_head l t hne ht, List.take_append_of_le_length hle, List.drop_append_of_le_length hle, ih]
    rfl
theorem cuts_bytes : ∀ l, (cuts l).flatMap (fun u => u.1) = l := by
  apply unit_ind
  · rfl
  · intro l hne ih
    rw [cuts_step l hne, List.flatMap_cons, ih, List.take_append_drop]

/-- A code point's bytes, none of a number that is none. -/
def byC (c : Int) : List UInt8 := if Utf8.valid c then (Utf8.encode c).data.toList else []
theorem byC_pt {c : Int} (h : Pt c) : byC c = (Utf8.encode c).data.toList := by unfold Pt at h; unfold byC; rw [if_pos h]
theorem enc_len_pos {c : Int} (h : Pt c) : byC c ≠ [] ∧ Head (byC c) ∧ (byC c).length ≤ 4 := by
  rw [byC_pt h]
  refine ⟨?_, ?_, enc_len c⟩
  · obtain ⟨k, rfl, hk⟩ := pt_nat h
    intro e
    have := (decode_encode k hk).2.1
    rw [Lib.size_eq, e] at this
    simp at this
  · obtain ⟨k, rfl, hk⟩ := pt_nat h
    rcases enc_cases k hk with ⟨h, e⟩ | ⟨h1, h2, e⟩ | ⟨h1, h2, h3, e⟩ | ⟨h1, h2, e⟩
    · rw [e]; exact Head.cons (by rw [ofNat_toNat k (by omega)]; omega) _
    · rw [e]; exact Head.cons (by rw [ofNat_toNat _ (by omega)]; omega) _
    · rw [e]; exact Head.cons (by rw [ofNat_toNat _ (by omega)]; omega) _
    · rw [e]; exact Head.cons (by rw [ofNat_toNat _ (by omega)]; omega) _
/-- A code point ahead is one unit. -/
theorem cuts_code {c : Int} (h : Pt c) (t : List UInt8) : cuts (byC c ++ t) = (byC c, c) :: cuts t := by
  have hb := byC_pt h
  obtain ⟨hne, -, -⟩ := enc_len_pos h
  obtain ⟨k, rfl, hk⟩ := pt_nat h
  obtain ⟨hd, h1, h4, hcut⟩ := decode_encode k hk
  rw [← hb] at hd
  have hsz : (Utf8.encode k).size = (byC k).length := by rw [hb, Lib.size_eq]
  rw [hsz] at hd h1
  have hgood : ¬ ((decodeL (byC k)).1 = 65533 ∧ (decodeL (byC k)).2 = 1) := by
    rw [hd]
    rintro ⟨e1, e2⟩
    dsimp only at e1 e2
    subst e1
    rw [hb] at e2
    revert e2
    decide +kernel
  have hd2 := decodeL_append (byC k) t hne hgood
  have hl : (byC k ++ t) ≠ [] := by simp [hne]
  have hub : uBad (byC k ++ t) = false := by unfold uBad; rw [hd2]; exact decide_eq_false hgood
  rw [cuts_step _ hl, hd2, hd]
  have hu : uCode (byC k ++ t) = k := by
    unfold uCode
    rw [hub, hd2, hd]
    simp
  rw [hu]
  simp
/-- A byte below 128 ahead is one unit. -/
theorem byC_ascii (n : Nat) (h : n < 128) : byC n = [UInt8.ofNat n] ∧ Pt (n : Int) := by
  have hp : Pt (n : Int) := by unfold Pt Utf8.valid; simp; omega
  refine ⟨?_, hp⟩
  rw [byC_pt hp]
  rcases enc_cases n hp with ⟨_, e⟩ | ⟨h1, _⟩ | ⟨h1, _⟩ | ⟨h1, _⟩
  · exact e
  · omega
  · omega
  · omega
theorem cuts_ascii (b : UInt8) (h : b.toNat < 128) (t : List UInt8) : cuts (b :: t) = ([b], (b.toNat : Int)) :: cuts t := by
  obtain ⟨h1, h2⟩ := byC_ascii b.toNat h
  have h3 := cuts_code h2 t
  rw [h1] at h3
  simpa using h3
/-- A byte that goes on is none by itself. -/
theorem cuts_on (b : UInt8) (h : b.toNat / 64 = 2) (t : List UInt8) : cuts (b :: t) = ([b], -1 - (b.toNat : Int)) :: cuts t := by
  have hd : decodeL (b :: t) = (65533, 1) := by
    rw [decodeL_N]
    unfold decodeN
    simp only [List.getD_cons_zero]
    rw [if_neg (by omega), if_neg (by omega), if_neg (by omega), if_neg (by omega)]
  rw [cuts_step _ (by simp), hd]
  have hu : uCode (b :: t) = -1 - (b.toNat : Int) := by
    unfold uCode uBad
    rw [hd]
    simp
  rw [hu]
  rfl

/-! ### Letters -/
def smC (ps : List (Int × Int)) (c : Int) : Option Int :=
  match ps.find? fun p => decide (p.1 = c) with
  | some p => some p.2
  | none => if 65 ≤ c ∧ c ≤ 90 then some (c - 65 + 97) else none
def grC (ps : List (Int × Int)) (c : Int) : Option Int :=
  match ps.find? fun p => decide (p.2 = c) with
  | some p => some p.1
  | none => if 97 ≤ c ∧ c ≤ 122 then some (c - 97 + 65) else none
def pcS (ps : List (Int × Int)) (u : List UInt8 × Int) : List UInt8 := match smC ps u.2 with
  | some d => byC d
  | none => u.1
def smallT (ps : List (Int × Int)) (s : List UInt8) : List UInt8 := (cuts s).flatMap (pcS ps)
def titleT (ps : List (Int × Int)) (s : List UInt8) : List UInt8 := if s = [] then [] else match grC ps (uCode s) with
  | some d => byC d ++ s.drop (decodeL s).2
  | none => s
def shapeN (g m : Nat) (f : Bool) : Int := if g = 0 then 0 else if g = 1 ∧ f = true then 1 else if 1 < g ∧ m = 0 then 2 else 3
def greatsC (ps : List (Int × Int)) (cs : List Int) : Nat := cs.countP fun c => (smC ps c).isSome
def smallsC (ps : List (Int × Int)) (cs : List Int) : Nat := cs.countP fun c => (grC ps c).isSome
def firstC (ps : List (Int × Int)) (cs : List Int) : Bool := match cs with
  | [] => false
  | c :: _ => (smC ps c).isSome
def shapeC (ps : List (Int × Int)) (cs : List Int) : Int := shapeN (greatsC ps cs) (smallsC ps cs) (firstC ps cs)
def codesT (s : List UInt8) : List Int := (cuts s).map (·.2)
def shapeT (ps : List (Int × Int)) (s : List UInt8) : Int := shapeC ps (codesT s)

theorem codesT_units (s : List UInt8) : codesT s = (units 0 s).map (·.2.2) := by simp [codesT, cuts]
theorem smallT_app {ps : List (Int × Int)} {l t : List UInt8} (ht : Head t) : smallT ps (l ++ t) = smallT ps l ++ smallT ps t := by
  unfold smallT
  rw [cuts_app t ht, List.flatMap_append]
/-- Behind a byte below 128 all begins afresh. -/
theorem cuts_cut (a y : List UInt8) (b : UInt8) (h : b.toNat < 128) : cuts (a ++ b :: y) = cuts (a ++ [b]) ++ cuts y := by
  have hh : ∀ t, Head (b :: t) := fun t => Head.cons (by omega) t
  rw [cuts_app _ (hh y), cuts_app _ (hh []), cuts_ascii b h y, cuts_ascii b h []]
  simp [cuts_nil]
theorem smallT_cut {ps : List (Int × Int)} (a y : List UInt8) (b : UInt8) (h : b.toNat < 128) : smallT ps (a ++ b :: y) = smallT ps (a ++ [b]) ++ smallT ps y := by
  unfold smallT
  rw [cuts_cut a y b h, List.flatMap_append]

/-! ### Twice -/
/-- Of pairs that are read a small letter is a code point and no great letter. -/
theorem PairsOk.mem {ps : List (Int × Int)} (h : PairsOk ps) {p : Int × Int} (hp : p ∈ ps) : Pt p.1 ∧ Pt p.2 ∧ plainC p.1 = false ∧ plainC p.2 = false := by
  obtain ⟨a, b, rfl⟩ := List.append_of_mem hp
  obtain ⟨h1, h2, h3, _, _⟩ := h a p b rfl
  unfold okPair at h1
  simp only [Bool.and_eq_true, Bool.not_eq_true'] at h1
  exact ⟨h2, h3, h1.1.1.1.2, h1.1.1.2⟩
theorem PairsOk.apart {ps : List (Int × Int)} (h : PairsOk ps) {p q : Int × Int} (hp : p ∈ ps) (hq : q ∈ ps) : p.1 ≠ q.2 := by
  have two : ∀ (a : List (Int × Int)) p b, ps = a ++ p :: b → ∀ q ∈ a, p.1 ≠ q.2 ∧ p.2 ≠ q.1 := by
    intro a p b e q hq
    have h1 := (h a p b e).1
    unfold okPair usedP at h1
    simp only [Bool.and_eq_true, Bool.not_eq_true'] at h1
    have hg := h1.1.2
    have hs := h1.2
    rw [List.any_eq_false] at hg hs
    have k1 := hg q hq
    have k2 := hs q hq
    simp only [Bool.or_eq_true, beq_iff_eq, not_or] at k1 k2
    exact ⟨fun e => k1.2 e.symm, fun e => k2.1 e.symm⟩
  have own : ∀ (a : List (Int × Int)) p b, ps = a ++ p :: b → p.1 ≠ p.2 := by
    intro a p b e
    have h1 := (h a p b e).1
    unfold okPair at h1
    simp only [Bool.and_eq_true, Bool.not_eq_true'] at h1
    have := h1.1.1.1.1
    simpa using this
  obtain ⟨a, b, e⟩ := List.append_of_mem hp
  rw [e] at hq
  rcases List.mem_append.1 hq with hq | hq
  · exact (two a p b e q hq).1
  · rcases List.mem_cons.1 hq with rfl | hq
    · exact own a q b e
    · obtain ⟨c, d, e2⟩ := List.append_of_mem hq
      have := (two (a ++ p :: c) q d (by rw [e, e2]; simp) p (by simp)).2
      exact fun e => this e.symm
theorem smC_says {ps : List (Int × Int)} (h : PairsOk ps) {c d : Int} (e : smC ps c = some d) : Pt d ∧ smC ps d = none := by
  unfold smC at e
  split at e
  · rename_i p hp
    obtain rfl : p.2 = d := by simpa using e
    have hm := List.mem_of_find?_eq_some hp
    obtain ⟨_, h2, _, h4⟩ := h.mem hm
    refine ⟨h2, ?_⟩
    unfold smC
    have hn : (ps.find? fun q => decide (q.1 = p.2)) = none := by
      rw [List.find?_eq_none]
      intro q hq
      simpa using h.apart hq hm
    rw [hn]
    have : ¬ (65 ≤ p.2 ∧ p.2 ≤ 90) := by
      intro k
      simp [plainC] at h4
      omega
    rw [if_neg this]
  · split at e
    · rename_i hc
      obtain rfl : c - 65 + 97 = d := by simpa using e
      refine ⟨?_, ?_⟩
      · unfold Pt Utf8.valid; simp; omega
      · unfold smC
        have hn : (ps.find? fun q => decide (q.1 = c - 65 + 97)) = none := by
          rw [List.find?_eq_none]
          intro q hq
          have := (h.mem hq).2.2.1
          simp [plainC] at this
          simp
          omega
        rw [hn, if_neg (by omega)]
    · cases e
theorem grC_pt {ps : List (Int × Int)} (h : PairsOk ps) {c d : Int} (e : grC ps c = some d) : Pt d := by
  unfold grC at e
  split at e
  · rename_i p hp
    obtain rfl : p.1 = d := by simpa using e
    exact (h.mem (List.mem_of_find?_eq_some hp)).1
  · split at e
    · obtain rfl : c - 97 + 65 = d := by simpa using e
      unfold Pt Utf8.valid; simp; omega
    · cases e
/-- A list in front: bytes that go on, then one that begins afresh. -/
theorem head_split : ∀ l : List UInt8, ∃ p t, l = p ++ t ∧ (∀ b ∈ p, b.toNat / 64 = 2) ∧ Head t
  | [] => ⟨[], [], rfl, fun b h => by simp at h, Head.nil⟩
  | b :: l => by
    by_cases hb : b.toNat / 64 = 2
    · obtain ⟨p, t, rfl, h1, h2⟩ := head_split l
      refine ⟨b :: p, t, rfl, fun x hx => ?_, h2⟩
      rcases List.mem_cons.1 hx with rfl | hx
      · exact hb
      · exact h1 x hx
    · exact ⟨[], b :: l, rfl, fun b h => by simp at h, Head.cons hb l⟩
/-- What becomes of a unit. -/
def turnU (ps : List (Int × Int)) (u : List UInt8 × Int) : List UInt8 × Int := match smC ps u.2 with
  | some d => (byC d, d)
  | none => u
def NoNeg (ps : List (Int × Int)) : Prop := ∀ c d, smC ps c = some d → 0 ≤ c ∧ Pt d
theorem PairsOk.noNeg {ps : List (Int × Int)} (h : PairsOk ps) : NoNeg ps := by
  intro c d e
  refine ⟨?_, (smC_says h e).1⟩
  unfold smC at e
  split at e
  · rename_i p hp
    have h1 := List.find?_some hp
    have h2 := (h.mem (List.mem_of_find?_eq_some hp)).1
    simp at h1
    obtain ⟨k, hk, _⟩ := pt_nat h2
    omega
  · split at e
    · omega
    · cases e
theorem smallT_nil (ps : List (Int × Int)) : smallT ps [] = [] := rfl
theorem smallT_step (ps : List (Int × Int)) (l : List UInt8) (hne : l ≠ []) : smallT ps l = pcS ps (l.take (decodeL l).2, uCode l) ++ smallT ps (l.drop (decodeL l).2) := by
  unfold smallT
  rw [cuts_step l hne, List.flatMap_cons]
theorem smallT_on {ps : List (Int × Int)} (h : NoNeg ps) (t : List UInt8) : ∀ p : List UInt8, (∀ b ∈ p, b.toNat / 64 = 2) → smallT ps (p ++ t) = p ++ smallT ps t
  | [], _ => rfl
  | b :: p, hp => by
    have ih := smallT_on h t p fun x hx => hp x (List.mem_cons_of_mem _ hx)
    have hb := hp b (List.mem_cons_self ..)
    have hs : smC ps (-1 - (b.toNat : Int)) = none := by
      cases hq : smC ps (-1 - (b.toNat : Int)) with
      | none => rfl
      | some d => have := (h _ _ hq).1; omega
    rw [List.cons_append, List.cons_append, ← ih]
    unfold smallT
    rw [cuts_on b hb, List.flatMap_cons]
    simp [pcS, hs]
theorem head_take {l : List UInt8} {n : Nat} (hn : 1 ≤ n) (t : List UInt8) (hne : l ≠ []) : Head (l.take n ++ t) ↔ Head l := by
  rcases l with _ | ⟨b, l⟩
  · exact absurd rfl hne
  · obtain ⟨m, rfl⟩ : ∃ m, n = m + 1 := ⟨n - 1, by omega⟩
    simp [Head]
theorem smallT_head {ps : List (Int × Int)} (h : NoNeg ps) (t : List UInt8) (ht : Head t) : Head (smallT ps t) := by
  by_cases hne : t = []
  · subst hne; exact ht
  · rw [smallT_step ps t hne]
    unfold pcS
    dsimp only
    cases hq : smC ps (uCode t) with
    | some d =>
      obtain ⟨h1, h2, _⟩ := enc_len_pos (h _ _ hq).2
      dsimp only
      have := (head_take (l := byC d) (n := (byC d).length) (by have := List.length_pos_iff.2 h1; omega) (smallT ps (t.drop (decodeL t).2)) h1).2 h2
      rwa [List.take_length] at this
    | none => exact (head_take (decodeL_width t) _ hne).2 ht
theorem cuts_small {ps : List (Int × Int)} (h : NoNeg ps) : ∀ l, cuts (smallT ps l) = (cuts l).map (turnU ps) := by
  apply unit_ind
  · rfl
  · intro l hne ih
    rw [smallT_step ps l hne, cuts_step l hne, List.map_cons, ← ih]
    unfold pcS turnU
    dsimp only
    cases hq : smC ps (uCode l) with
    | some d => exact cuts_code (h _ _ hq).2 _
    | none =>
      dsimp only
      by_cases hb : (decodeL l).1 = 65533 ∧ (decodeL l).2 = 1
      · -- a byte that is none: what follows it is alike as far as it is looked at
        rcases l with _ | ⟨b, r⟩
        · exact absurd rfl hne
        obtain ⟨p, t, e, hp, ht⟩ := head_split r
        have hd1 : decodeL (b :: r) = decodeL (b :: p) := by
          rw [e, ← List.cons_append]; exact decode_head (b :: p) t (by simp) ht
        have hd2 : decodeL (b :: (p ++ smallT ps t)) = decodeL (b :: p) := by
          rw [← List.cons_append]; exact decode_head (b :: p) _ (by simp) (smallT_head h t ht)
        rw [hb.2]
        show cuts ([b] ++ smallT ps r) = ([b], uCode (b :: r)) :: cuts (smallT ps r)
        rw [e, smallT_on h t p hp]
        show cuts (b :: (p ++ smallT ps t)) = _
        rw [cuts_step _ (by simp), hd2, ← hd1, hb.2]
        have hu : uCode (b :: (p ++ smallT ps t)) = uCode (b :: (p ++ t)) := by
          unfold uCode uBad
          rw [hd2, ← hd1, e]
          rfl
        rw [hu]
        rfl
      · have hle := decodeL_le l hne
        have hw := decodeL_width l
        have hpt : Pt (uCode l) := by
          have hu : uBad l = false := decide_eq_false hb
          unfold uCode
          rw [hu]
          exact valid_dec l
        have hby : byC (uCode l) = l.take (decodeL l).2 := by
          have hu : uBad l = false := decide_eq_false hb
          rw [byC_pt hpt]
          have hc : uCode l = ((decodeL l).1 : Int) := by simp [uCode, hu]
          rw [hc, enc_rune9 _ (valid_dec l), encode_decode l hne hb]
        rw [← hby]
        exact cuts_code hpt _
/-- **P14.2, plain.** -/
theorem turn_none {ps : List (Int × Int)} (h : PairsOk ps) (u : List UInt8 × Int) : smC ps (turnU ps u).2 = none := by
  unfold turnU
  cases hq : smC ps u.2 with
  | some d => exact (smC_says h hq).2
  | none => exact hq
theorem flat_id {ps : List (Int × Int)} : ∀ l : List (List UInt8 × Int), (∀ u ∈ l, smC ps u.2 = none) → l.flatMap (pcS ps) = l.flatMap fun u => u.1
  | [], _ => rfl
  | u :: l, h => by
    rw [List.flatMap_cons, List.flatMap_cons, flat_id l fun x hx => h x (List.mem_cons_of_mem _ hx)]
    congr 1
    unfold pcS
    rw [h u (List.mem_cons_self ..)]
theorem small_small {ps : List (Int × Int)} (h : PairsOk ps) (s : List UInt8) : smallT ps (smallT ps s) = smallT ps s := by
  have hn : ∀ u ∈ cuts (smallT ps s), smC ps u.2 = none := by
    rw [cuts_small h.noNeg]
    intro u hu
    obtain ⟨x, _, rfl⟩ := List.mem_map.1 hu
    exact turn_none h x
  have h1 := flat_id _ hn
  rw [cuts_bytes] at h1
  exact h1
theorem countP_none {ps : List (Int × Int)} : ∀ cs : List Int, (∀ c ∈ cs, smC ps c = none) → greatsC ps cs = 0 := by
  intro cs h
  unfold greatsC
  rw [List.countP_eq_zero]
  intro c hc
  rw [h c hc]
  simp
theorem small_codes {ps : List (Int × Int)} (h : PairsOk ps) (s : List UInt8) : ∀ c ∈ codesT (smallT ps s), smC ps c = none := by
  unfold codesT
  rw [cuts_small h.noNeg]
  intro c hc
  obtain ⟨u, hu, rfl⟩ := List.mem_map.1 hc
  obtain ⟨x, _, rfl⟩ := List.mem_map.1 hu
  exact turn_none h x
theorem shape_small {ps : List (Int × Int)} (h : PairsOk ps) (s : List UInt8) : shapeT ps (smallT ps s) = 0 := by
  unfold shapeT shapeC shapeN
  rw [countP_none _ (small_codes h s), if_pos rfl]
theorem shape_title {ps : List (Int × Int)} (h : PairsOk ps) (s : List UInt8) : shapeT ps (titleT ps (smallT ps s)) = 0 ∨ shapeT ps (titleT ps (smallT ps s)) = 1 := by
  have hc := small_codes h s
  have h0 := shape_small h s
  generalize smallT ps s = t at hc h0 ⊢
  unfold titleT
  by_cases ht : t = []
  · rw [if_pos ht]; subst ht; exact .inl h0
  rw [if_neg ht]
  cases hq : grC ps (uCode t) with
  | none => exact .inl h0
  | some d =>
    have hp := grC_pt h hq
    dsimp only
    have hcs : codesT (byC d ++ t.drop (decodeL t).2) = d :: codesT (t.drop (decodeL t).2) := by
      unfold codesT
      rw [cuts_code hp]
      rfl
    have hcr : codesT t = uCode t :: codesT (t.drop (decodeL t).2) := by
      unfold codesT
      rw [cuts_step t ht]
      rfl
    have hr : greatsC ps (codesT (t.drop (decodeL t).2)) = 0 := countP_none _ fun c hc' => hc c (by rw [hcr]; exact List.mem_cons_of_mem _ hc')
    unfold shapeT shapeC
    rw [hcs]
    have hg : greatsC ps (d :: codesT (t.drop (decodeL t).2)) = if (smC ps d).isSome = true then 1 else 0 := by
      unfold greatsC at hr ⊢
      rw [List.countP_cons, hr]
      simp
    rw [hg]
    unfold shapeN
    by_cases hs : (smC ps d).isSome = true
    · right
      rw [if_pos hs, if_neg (by omega), if_pos ⟨rfl, hs⟩]
    · left
      rw [if_neg hs, if_pos rfl]
theorem small_len {ps : List (Int × Int)} : ∀ l : List (List UInt8 × Int), (l.flatMap (pcS ps)).length ≤ (l.flatMap fun u => u.1).length + 4 * l.length
  | [] => by simp
  | u :: l => by
    have ih := small_len (ps := ps) l
    rw [List.flatMap_cons, List.flatMap_cons, List.length_append, List.length_append, List.length_cons]
    have : (pcS ps u).length ≤ u.1.length + 4 := by
      unfold pcS
      split
      · have : ∀ d, (byC d).length ≤ 4 := by
          intro d; unfold byC; split
          · exact enc_len d
          · simp
        have := this ‹Int›
        omega
      · omega
    omega
theorem small_size (ps : List (Int × Int)) (s : List UInt8) : (smallT ps s).length ≤ 5 * s.length := by
  have h := small_len (ps := ps) (cuts s)
  rw [cuts_bytes, cuts_len] at h
  have := units_length_le s 0
  unfold smallT
  omega
end Go.Proofs.YtfhoffdgbkoffaaDoor
