/- Conditions as texts, plain: a text's codes, codes' text; what is read has a text that is read as that. -/
import Derived.Test.YtfhoffdgbkoffaaDoorNPlain
import Derived.Test.YtfhoffdgbkoffaaDoorEnc
namespace Go.Proofs.YtfhoffdgbkoffaaDoor
open Go Go.Lib

/-- The codes' bytes, one behind the other. -/
def encL (cs : List Int) : List UInt8 := cs.flatMap fun c => (Utf8.encode c).data.toList
def textS (l : List It) : ByteArray := ⟨(encL (textC l)).toArray⟩
/-- A right text's codes. -/
def codesB (s : List UInt8) : Option (List Int) := if validD s then some ((units 0 s).map (·.2.2)) else none
def parseS (s : ByteArray) : Option (List It) := match codesB s.data.toList with
  | none => none
  | some cs => parseC cs
/-- A code point. -/
def Pt (c : Int) : Prop := Utf8.valid c = true

theorem valid_dec (l : List UInt8) : Utf8.valid ((decodeL l).1 : Int) = true := by
  have k0 := (l.getD 0 0).toNat_lt
  have k1 := (l.getD 1 0).toNat_lt
  have h : (decodeL l).1 < 55296 ∨ (57344 ≤ (decodeL l).1 ∧ (decodeL l).1 ≤ 1114111) := by
    rw [decodeL_N]
    rcases decodeN_shape l.length (l.getD 0 0).toNat (l.getD 1 0).toNat (l.getD 2 0).toNat (l.getD 3 0).toNat with ⟨c, e⟩ | ⟨c1, c2, c3, cv, e⟩ | ⟨c1, c2, c3, c4, cv, cs, e⟩ | ⟨c1, c2, c3, c4, c5, cv, cw, e⟩ | e
    all_goals (rw [e]; dsimp only; omega)
  simp [Utf8.valid]; omega
theorem units_any : ∀ (l : List UInt8) p q, (units p l).map (·.2.2) = (units q l).map (·.2.2) := by
  apply unit_ind
  · intro p q; rfl
  · intro l hne ih p q
    rw [units_step p l hne, units_step q l hne, List.map_cons, List.map_cons]
    rw [ih _ (q + (decodeL l).2)]
theorem units_pts : ∀ (l : List UInt8) p, validD l = true → ∀ c ∈ (units p l).map (·.2.2), Pt c := by
  apply unit_ind (C := fun l => ∀ p, validD l = true → ∀ c ∈ (units p l).map (·.2.2), Pt c)
  · intro p _ c hc; simp [units_nil] at hc
  · intro l hne ih p hv c hc
    rw [validD_step l hne] at hv
    by_cases hb : (decodeL l).1 = 65533 ∧ (decodeL l).2 = 1
    · rw [if_pos hb] at hv; cases hv
    · rw [if_neg hb] at hv
      rw [units_step p l hne, List.map_cons] at hc
      rcases List.mem_cons.1 hc with rfl | hc
      · have hu : uBad l = false := by simpa [uBad] using hb
        show Pt (uCode l)
        unfold uCode Pt
        rw [hu]
        exact valid_dec l
      · exact ih _ hv c hc
theorem codesB_says {s : List UInt8} {cs : List Int} (h : codesB s = some cs) : (∀ c ∈ cs, Pt c) ∧ cs.length ≤ s.length := by
  unfold codesB at h
  split at h
  · rename_i hv
    simp only [Option.some.injEq] at h
    subst h
    exact ⟨units_pts s 0 hv, by rw [List.length_map]; exact units_length_le s 0⟩
  · cases h
theorem pt_nat {c : Int} (h : Pt c) : ∃ k : Nat, c = k ∧ Utf8.valid (k : Int) = true := by
  have h0 : 0 ≤ c := by unfold Pt Utf8.valid at h; simp at h; omega
  obtain ⟨k, rfl⟩ := Int.eq_ofNat_of_zero_le h0
  exact ⟨k, rfl, h⟩
theorem codesB_enc : ∀ (cs : List Int), (∀ c ∈ cs, Pt c) → codesB (encL cs) = some cs
  | [], _ => rfl
  | c :: cs, h => by
    obtain ⟨k, rfl, hk⟩ := pt_nat (h c (List.mem_cons_self ..))
    have ih := codesB_enc cs fun x hx => h x (List.mem_cons_of_mem _ hx)
    obtain ⟨hv, hu⟩ := units_encode k hk
    have he : encL ((k : Int) :: cs) = (Utf8.encode k).data.toList ++ encL cs := by simp [encL]
    unfold codesB at ih ⊢
    split at ih
    · rename_i hv2
      simp only [Option.some.injEq] at ih
      rw [he, validD_append _ _ hv, if_pos hv2, units_append _ _ _ hv, hu, List.map_append, units_any _ _ 0, ih]
      rfl
    · cases ih
theorem enc_len (c : Int) : (Utf8.encode c).data.toList.length ≤ 4 := by
  unfold Utf8.encode
  dsimp only
  generalize (if Utf8.valid c = true then c.toNat else Utf8.runeError) = k
  by_cases h1 : k < 128
  · rw [if_pos h1]; exact (by decide : 1 ≤ 4)
  rw [if_neg h1]
  by_cases h2 : k < 2048
  · rw [if_pos h2]; exact (by decide : 2 ≤ 4)
  rw [if_neg h2]
  by_cases h3 : k < 65536
  · rw [if_pos h3]; exact (by decide : 3 ≤ 4)
  rw [if_neg h3]
  exact (by decide : 4 ≤ 4)
theorem encL_len : ∀ cs : List Int, (encL cs).length ≤ 4 * cs.length
  | [] => by simp [encL]
  | c :: cs => by
    have he : encL (c :: cs) = (Utf8.encode c).data.toList ++ encL cs := by simp [encL]
    have h1 := enc_len c
    have h2 := encL_len cs
    rw [he, List.length_append, List.length_cons]
    omega
/-- What is asked of items whose text is asked for. -/
structure Fit (l : List It) : Prop where
  good : ∀ it ∈ l, Good it
  pts : ∀ it ∈ l, ∀ c ∈ it.set, Pt c
  pos : 0 < l.length
  few : l.length ≤ 8
  sets : ∀ it ∈ l, it.set.length ≤ 1200
  text : (textC l).length ≤ 1200
theorem parseS_fit {s : ByteArray} {l : List It} (h : parseS s = some l) (hs : s.size ≤ 1200) : Fit l ∧ (textC l).length ≤ s.size := by
  unfold parseS at h
  split at h
  · cases h
  · rename_i cs hc
    obtain ⟨h1, h2⟩ := codesB_says hc
    obtain ⟨g1, g2, g3, g4⟩ := parseC_says h
    have hl : s.data.toList.length = s.size := (Lib.size_eq s).symm
    exact ⟨⟨fun it hit => (g1 it hit).1, fun it hit c hc => h1 c ((g1 it hit).2.1 c hc), g3, g4, fun it hit => by have := (g1 it hit).2.2; omega, by omega⟩, by omega⟩
/-- The text that items have is read as they. -/
theorem parseS_text {l : List It} (h : Fit l) : parseS (textS l) = some l ∧ (textS l).size ≤ 4 * (textC l).length := by
  have hp : ∀ c ∈ textC l, Pt c := textC_mem h.pts rfl rfl rfl rfl
  constructor
  · unfold parseS
    show (match codesB (encL (textC l)) with | none => none | some cs => parseC cs) = _
    rw [codesB_enc _ hp]
    exact parseC_text h.good h.pos h.few
  · show (encL (textC l)).toArray.size ≤ _
    rw [List.size_toArray]
    exact encL_len _
end Go.Proofs.YtfhoffdgbkoffaaDoor
