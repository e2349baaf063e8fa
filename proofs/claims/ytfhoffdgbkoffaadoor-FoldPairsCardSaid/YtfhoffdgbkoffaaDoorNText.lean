/- Conditions, plain: a right text is its codes' bytes; any items' text. -/
import Derived.Test.YtfhoffdgbkoffaaDoorNCodes
namespace Go.Proofs.YtfhoffdgbkoffaaDoor
open Go Go.Lib

theorem enc_rune9 (k : Nat) (hv : Utf8.valid (k : Int) = true) : (Utf8.encode k).data.toList = encodeRune k := by
  unfold encodeRune
  rcases enc_cases k hv with ⟨h, e⟩ | ⟨h1, h2, e⟩ | ⟨h1, h2, h3, e⟩ | ⟨h1, h2, e⟩
  · rw [e, encodeRuneZ_one (by omega) (by omega)]
    rfl
  · rw [e, encodeRuneZ_two (by omega) (by omega)]
    simp only [List.map_cons, List.map_nil]
    rw [show ((192 : Int) + k / 64).toNat = 192 + k / 64 from by omega, show ((128 : Int) + k % 64).toNat = 128 + k % 64 from by omega]
  · rw [e, encodeRuneZ_three (by omega)]
    simp only [List.map_cons, List.map_nil]
    rw [show ((224 : Int) + k / 4096).toNat = 224 + k / 4096 from by omega, show ((128 : Int) + k / 64 % 64).toNat = 128 + k / 64 % 64 from by omega, show ((128 : Int) + k % 64).toNat = 128 + k % 64 from by omega]
  · rw [e, encodeRuneZ_four (by omega) (by omega)]
    simp only [List.map_cons, List.map_nil]
    rw [show ((240 : Int) + k / 262144).toNat = 240 + k / 262144 from by omega, show ((128 : Int) + k / 4096 % 64).toNat = 128 + k / 4096 % 64 from by omega, show ((128 : Int) + k / 64 % 64).toNat = 128 + k / 64 % 64 from by omega, show ((128 : Int) + k % 64).toNat = 128 + k % 64 from by omega]
theorem encL_units : ∀ (l : List UInt8) p, validD l = true → encL ((units p l).map (·.2.2)) = l := by
  apply unit_ind (C := fun l => ∀ p, validD l = true → encL ((units p l).map (·.2.2)) = l)
  · intro p _; rfl
  · intro l hne ih p hv
    rw [validD_step l hne] at hv
    by_cases hb : (decodeL l).1 = 65533 ∧ (decodeL l).2 = 1
    · rw [if_pos hb] at hv; cases hv
    · rw [if_neg hb] at hv
      have hu : uBad l = false := by simpa [uBad] using hb
      have hc : uCode l = ((decodeL l).1 : Int) := by simp [uCode, hu]
      rw [units_step p l hne, List.map_cons]
      show (Utf8.encode (uCode l)).data.toList ++ encL ((units _ _).map (·.2.2)) = l
      rw [ih _ hv, hc, enc_rune9 _ (valid_dec l), encode_decode _ hne hb, List.take_append_drop]
/-- A right text is its codes' bytes. -/
theorem encL_codesB {s : List UInt8} {cs : List Int} (h : codesB s = some cs) : encL cs = s := by
  unfold codesB at h
  split at h
  · rename_i hv
    simp only [Option.some.injEq] at h
    subst h
    exact encL_units s 0 hv
  · cases h
theorem encL_append (a b : List Int) : encL (a ++ b) = encL a ++ encL b := by simp [encL]
/-- A byte below 128 lies among the bytes as it lies among the codes. -/
theorem encL_mem {cs : List Int} (h : ∀ c ∈ cs, Pt c) {b : UInt8} (hb : b.toNat < 128) : b ∈ encL cs ↔ (b.toNat : Int) ∈ cs := by
  have one : ∀ c : Int, Pt c → (b ∈ (Utf8.encode c).data.toList ↔ (b.toNat : Int) = c) := by
    intro c hc
    obtain ⟨k, rfl, hk⟩ := pt_nat hc
    have key : ∀ n : Nat, n < 256 → (b = UInt8.ofNat n ↔ b.toNat = n) := fun n hn =>
      ⟨fun e => by rw [e]; exact ofNat_toNat n hn, fun e => by rw [← e]; simp⟩
    rcases enc_cases k hk with ⟨h, e⟩ | ⟨h1, h2, e⟩ | ⟨h1, h2, h3, e⟩ | ⟨h1, h2, e⟩
    · rw [e, List.mem_singleton, key k (by omega)]; omega
    · rw [e]
      simp only [List.mem_cons, List.not_mem_nil, or_false]
      rw [key _ (by omega), key _ (by omega)]; omega
    · rw [e]
      simp only [List.mem_cons, List.not_mem_nil, or_false]
      rw [key _ (by omega), key _ (by omega), key _ (by omega)]; omega
    · have hk2 : k ≤ 1114111 := by unfold Utf8.valid at hk; simp at hk; omega
      rw [e]
      simp only [List.mem_cons, List.not_mem_nil, or_false]
      rw [key _ (by omega), key _ (by omega), key _ (by omega), key _ (by omega)]; omega
  unfold encL
  rw [List.mem_flatMap]
  constructor
  · rintro ⟨c, hc, hbc⟩
    rw [(one c (h c hc)).1 hbc]; exact hc
  · intro hc
    exact ⟨_, hc, (one _ (h _ hc)).2 rfl⟩

/-! ### Any items' text -/
def ptB (c : Int) : List UInt8 := if Utf8.valid c = true then (Utf8.encode c).data.toList else []
def ptL (cs : List Int) : List UInt8 := cs.flatMap ptB
/-- The text that reads as l; none: empty. -/
def textG (l : List It) : ByteArray := if parseS ⟨(ptL (textC l)).toArray⟩ = some l then ⟨(ptL (textC l)).toArray⟩ else ⟨#[]⟩
theorem ptL_enc : ∀ {cs : List Int}, (∀ c ∈ cs, Pt c) → ptL cs = encL cs
  | [], _ => rfl
  | c :: cs, h => by
    have ih := ptL_enc (cs := cs) fun x hx => h x (List.mem_cons_of_mem _ hx)
    have hc : Utf8.valid c = true := h c (List.mem_cons_self ..)
    show ptB c ++ ptL cs = (Utf8.encode c).data.toList ++ encL cs
    rw [ih]
    unfold ptB
    rw [if_pos hc]
theorem textG_fit {l : List It} (h : Fit l) : textG l = textS l := by
  have hp : ∀ c ∈ textC l, Pt c := textC_mem h.pts rfl rfl rfl rfl
  unfold textG
  rw [ptL_enc hp]
  exact if_pos (parseS_text h).1
end Go.Proofs.YtfhoffdgbkoffaaDoor
