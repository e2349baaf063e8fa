/- Affix files, plain, as the landed reader goes: what may be kept beside the lines, where it may stop, what its text is compared by. -/
import Derived.Test.YtfhoffdgbkoffaaDoorVPlain
import Derived.Lib.Bytealg
namespace Go.Proofs.YtfhoffdgbkoffaaDoor
open Go Go.Lib

/-! ### A reader that keeps the first clash -/
theorem flagA_snoc : ∀ (rs seen : List Ru) (a : List Nat) (r : Ru) (n : Nat), a.length = rs.length → (∀ x ∈ a, 0 < x) →
    flagA seen (rs ++ [r]) (a ++ [n]) = if flagA seen rs a = 0 then (if clash (seen ++ rs) r = true then n else 0) else flagA seen rs a
  | [], seen, a, r, n, hl, _ => by
    obtain rfl : a = [] := List.eq_nil_of_length_eq_zero hl
    simp [flagA]
  | q :: rs, seen, a, r, n, hl, hp => by
    match a, hl, hp with
    | m :: a, hl, hp =>
      have ih := flagA_snoc rs (seen ++ [q]) a r n (by simpa using hl) fun x hx => hp x (List.mem_cons_of_mem _ hx)
      have hm := hp m (List.mem_cons_self ..)
      rw [List.append_assoc, List.singleton_append] at ih
      show (if clash seen q = true then m else flagA (seen ++ [q]) (rs ++ [r]) (a ++ [n])) = if (if clash seen q = true then m else flagA (seen ++ [q]) rs a) = 0 then _ else (if clash seen q = true then m else flagA (seen ++ [q]) rs a)
      by_cases hc : clash seen q = true
      · rw [if_pos hc, if_pos hc, if_neg (by omega)]
      · rw [if_neg hc, if_neg hc, ih]
theorem stepA_grow (d : Rd) (n : Nat) (l : List UInt8) : d.rules.length ≤ (stepA d n l).rules.length ∧ d.pairs.length ≤ (stepA d n l).pairs.length := by
  unfold stepA
  split
  · exact ⟨Nat.le_refl _, Nat.le_refl _⟩
  · split
    · simp
    · split <;> simp
theorem readA_grow : ∀ (ls : List (List UInt8)) (d : Rd) (n : Nat), d.rules.length ≤ (readA d n ls).rules.length ∧ d.pairs.length ≤ (readA d n ls).pairs.length
  | [], d, n => ⟨Nat.le_refl _, Nat.le_refl _⟩
  | l :: ls, d, n => by
    have h1 := stepA_grow d n l
    have h2 := readA_grow ls (stepA d n l) (n + 1)
    exact ⟨Nat.le_trans h1.1 h2.1, Nat.le_trans h1.2 h2.2⟩
theorem endA_big {d : Rd} (n : Nat) (ls : List (List UInt8)) (h : 200 < d.rules.length ∨ 200 < d.pairs.length) : endA (readA d n ls) = (af0, 0, 3) := by
  have hg := readA_grow ls d n
  unfold endA
  exact if_pos (by omega)
/-- What is kept of numbers: as many as rules, each above 0. -/
def AtsOk (d : Rd) : Prop := d.at_.length = d.rules.length ∧ ∀ n ∈ d.at_, 0 < n
theorem AtsOk.step {d : Rd} {n : Nat} {l : List UInt8} (h : AtsOk d) (hn : 0 < n) : AtsOk (stepA d n l) := by
  unfold stepA
  split
  · exact h
  · split
    · exact h
    · split
      · refine ⟨by simp [h.1], fun m hm => ?_⟩
        rcases List.mem_append.1 hm with hm | hm
        · exact h.2 m hm
        · rw [List.mem_singleton] at hm; omega
      · exact h

/-! ### A text's first line -/
theorem linesL_split : ∀ (s : List UInt8), s ≠ [] → linesL s = s.takeWhile (· ≠ 10) :: linesL (s.dropWhile (· ≠ 10)).tail
  | [], h => absurd rfl h
  | b :: r, _ => by
    rw [linesL_cons]
    by_cases hb : b = 10
    · subst hb
      rw [if_pos rfl]
      simp
    · have hd : decide (b ≠ 10) = true := by simpa using hb
      rw [if_neg hb, List.takeWhile_cons, if_pos hd, List.dropWhile_cons, if_pos hd]
      cases r with
      | nil => rfl
      | cons c r =>
        rw [linesL_split (c :: r) (by simp)]
theorem idx10_none {l : List UInt8} (h : (10 : UInt8) ∉ l) : indexByte l 10 = -1 := by
  induction l with
  | nil => rfl
  | cons b l ih =>
    unfold indexByte
    rw [if_neg (by simp; exact fun e => h (by rw [e]; exact List.mem_cons_self ..)), ih fun e => h (List.mem_cons_of_mem _ e)]
    rfl
theorem idx10_some {l : List UInt8} (h : (10 : UInt8) ∈ l) : indexByte l 10 = ((l.takeWhile (· ≠ 10)).length : Nat) := by
  induction l with
  | nil => cases h
  | cons b l ih =>
    unfold indexByte
    by_cases hb : b = 10
    · subst hb
      simp
    · have hm : (10 : UInt8) ∈ l := by
        rcases List.mem_cons.1 h with e | e
        · exact absurd e.symm hb
        · exact e
      have hd : (decide (b ≠ 10)) = true := by simpa using hb
      rw [if_neg (by simpa using hb), ih hm, List.takeWhile_cons, if_pos hd, List.length_cons, if_neg (by simp)]
      omega
theorem cut10 : ∀ {l : List UInt8}, (10 : UInt8) ∈ l → l.take (l.takeWhile (· ≠ 10)).length = l.takeWhile (· ≠ 10) ∧ l.drop ((l.takeWhile (· ≠ 10)).length + 1) = (l.dropWhile (· ≠ 10)).tail ∧ (l.takeWhile (· ≠ 10)).length < l.length
  | [], h => by cases h
  | b :: l, h => by
    by_cases hb : b = 10
    · subst hb; simp
    · have hm : (10 : UInt8) ∈ l := by
        rcases List.mem_cons.1 h with e | e
        · exact absurd e.symm hb
        · exact e
      have hd : (decide (b ≠ 10)) = true := by simpa using hb
      obtain ⟨h1, h2, h3⟩ := cut10 hm
      rw [List.takeWhile_cons, if_pos hd, List.dropWhile_cons, if_pos hd, List.length_cons, List.take_succ_cons, List.drop_succ_cons, h1, h2, List.length_cons]
      exact ⟨rfl, rfl, by omega⟩
theorem all10 : ∀ {l : List UInt8}, (10 : UInt8) ∉ l → l.takeWhile (· ≠ 10) = l ∧ l.dropWhile (· ≠ 10) = []
  | [], _ => ⟨rfl, rfl⟩
  | b :: l, h => by
    have hb : b ≠ 10 := fun e => h (by rw [e]; exact List.mem_cons_self ..)
    have hd : (decide (b ≠ 10)) = true := by simpa using hb
    obtain ⟨h1, h2⟩ := all10 (l := l) fun e => h (List.mem_cons_of_mem _ e)
    rw [List.takeWhile_cons, if_pos hd, List.dropWhile_cons, if_pos hd, h1]
    exact ⟨rfl, h2⟩

/-! ### A rule's line begins with P or S -/
theorem wordsL_first {s a : List UInt8} {ws : List (List UInt8)} (h : wordsL s = a :: ws) (ha : a ≠ []) : s.head? = a.head? := by
  cases s with
  | nil =>
    have : a = [] := by
      have h2 : wordsL [] = [[]] := rfl
      rw [h2] at h
      exact (List.cons.inj h).1.symm
    exact absurd this ha
  | cons b t =>
    rw [wordsL_cons] at h
    by_cases hb : b = 32
    · rw [if_pos hb] at h
      exact absurd (List.cons.inj h).1.symm ha
    · rw [if_neg hb] at h
      split at h
      · rename_i e; exact absurd e (wordsL_ne t)
      · rw [← (List.cons.inj h).1]
        rfl
theorem parseR_head {s : ByteArray} {r : Ru} (h : parseR s = some r) : s.data.toList.head? = some 80 ∨ s.data.toList.head? = some 83 := by
  unfold parseR at h
  split at h
  · rename_i a f c x y z hw
    unfold parse6 at h
    split at h
    · rename_i hc
      rcases hc.1 with e | e
      · left
        rw [wordsL_first hw (by rw [e]; decide), e]; rfl
      · right
        rw [wordsL_first hw (by rw [e]; decide), e]; rfl
    · cases h
  · cases h
theorem pairL_head67 {ps : List (Int × Int)} {l : List UInt8} {p : Int × Int} (h : pairL ps l = some p) : l.head? = some 67 := by
  unfold pairL at h
  split at h
  · rename_i h5
    cases l with
    | nil => cases h5
    | cons b t =>
      have : (b :: t).take 5 = b :: t.take 4 := rfl
      rw [this] at h5
      rw [(List.cons.inj h5).1]; rfl
  · cases h
/-- A line that is skipped says nothing else. -/
theorem skip_none {l : List UInt8} (h : l = [] ∨ l.head? = some 35) : parseR ⟨l.toArray⟩ = none ∧ ∀ ps, pairL ps l = none := by
  have hl : (⟨l.toArray⟩ : ByteArray).data.toList = l := by simp
  constructor
  · cases hp : parseR ⟨l.toArray⟩ with
    | none => rfl
    | some r =>
      have := parseR_head hp
      rw [hl] at this
      rcases h with rfl | h
      · simp at this
      · rw [h] at this; rcases this with e | e <;> cases e
  · intro ps
    cases hp : pairL ps l with
    | none => rfl
    | some p =>
      have := pairL_head67 hp
      rcases h with rfl | h
      · simp at this
      · rw [h] at this; cases this
/-- One step, a rule's line asked for first. -/
theorem stepA_rule1 {d : Rd} {n : Nat} {l : List UInt8} {r : Ru} (h : parseR ⟨l.toArray⟩ = some r) : stepA d n l = { d with rules := d.rules ++ [r], at_ := d.at_ ++ [n] } := by
  have hs : ¬ (l = [] ∨ l.head? = some 35) := fun e => by rw [(skip_none e).1] at h; cases h
  have hp : pairL d.pairs l = none := by
    cases hp : pairL d.pairs l with
    | none => rfl
    | some p =>
      have h1 := pairL_head67 hp
      have h2 := parseR_head h
      have hl : (⟨l.toArray⟩ : ByteArray).data.toList = l := by simp
      rw [hl, h1] at h2
      rcases h2 with e | e <;> cases e
  unfold stepA
  rw [if_neg hs, hp]
  dsimp only
  rw [h]
theorem stepA_pair1 {d : Rd} {n : Nat} {l : List UInt8} {p : Int × Int} (h : pairL d.pairs l = some p) : stepA d n l = { d with pairs := d.pairs ++ [p] } := by
  have hs : ¬ (l = [] ∨ l.head? = some 35) := fun e => by rw [(skip_none e).2] at h; cases h
  unfold stepA
  rw [if_neg hs, h]
theorem stepA_none1 {d : Rd} {n : Nat} {l : List UInt8} (h1 : parseR ⟨l.toArray⟩ = none) (h2 : pairL d.pairs l = none) : stepA d n l = if l = [] ∨ l.head? = some 35 then d else { d with bad := if d.bad = 0 then n else d.bad } := by
  unfold stepA
  by_cases hs : l = [] ∨ l.head? = some 35
  · rw [if_pos hs, if_pos hs]
  · rw [if_neg hs, if_neg hs, h2]
    dsimp only
    rw [h1]

/-! ### Letters that are taken -/
theorem used_take1 {ps : List (Int × Int)} {k : Nat} {p : Int × Int} {c : Int} (h : ps[k]? = some p) : usedP (ps.take (k + 1)) c = (usedP (ps.take k) c || (p.1 == c || p.2 == c)) := by
  obtain ⟨hlt, he⟩ := List.getElem?_eq_some_iff.1 h
  unfold usedP
  rw [List.take_succ_eq_append_getElem hlt, he, List.any_append]
  simp
theorem used_in1 {ps : List (Int × Int)} {k : Nat} {p : Int × Int} {c : Int} (h : ps[k]? = some p) (hc : (p.1 == c || p.2 == c) = true) : usedP ps c = true := by
  unfold usedP
  rw [List.any_eq_true]
  exact ⟨p, List.mem_of_getElem? h, hc⟩

/-! ### What a line says has a line that says it, however long it is -/
theorem parseS_wide {s : ByteArray} {l : List It} (h : parseS s = some l) : parseS (textS l) = some l ∧ textG l = textS l ∧ (∀ it ∈ l, ∀ c ∈ it.set, Pt c) ∧ l.length ≤ 8 ∧ ∀ it ∈ l, it.set.length ≤ s.size := by
  unfold parseS at h
  split at h
  · cases h
  · rename_i cs hc
    obtain ⟨h1, h2⟩ := codesB_says hc
    obtain ⟨g1, g2, g3, g4⟩ := parseC_says h
    have hl : s.data.toList.length = s.size := (Lib.size_eq s).symm
    have hpt : ∀ it ∈ l, ∀ c ∈ it.set, Pt c := fun it hit c hc => h1 c ((g1 it hit).2.1 c hc)
    have hp : ∀ c ∈ textC l, Pt c := textC_mem hpt rfl rfl rfl rfl
    have ht : parseS (textS l) = some l := by
      unfold parseS
      show (match codesB (encL (textC l)) with | none => none | some cs => parseC cs) = _
      rw [codesB_enc _ hp]
      exact parseC_text (fun it hit => (g1 it hit).1) g3 g4
    refine ⟨ht, ?_, hpt, g4, fun it hit => by have := (g1 it hit).2.2; omega⟩
    unfold textG
    rw [ptL_enc hp]
    exact if_pos ht
theorem parseR_wide {s : ByteArray} {r : Ru} (h : parseR s = some r) :
    parseR (textR r) = some r ∧ r.cond.length ≤ 8 ∧ (∀ it ∈ r.cond, it.set.length ≤ s.size) ∧ r.strip.size ≤ 20 ∧ r.add.size ≤ 20 := by
  unfold parseR at h
  split at h
  · rename_i a f c x y z hw
    have hmem : ∀ w ∈ [a, f, c, x, y, z], (32 : UInt8) ∉ w ∧ w.length ≤ s.data.toList.length := fun w hw' => wordsL_mem _ w (by rw [hw]; exact hw')
    unfold parse6 at h
    split at h
    · rename_i hc
      split at h
      · rename_i u v l hx hy hz
        simp only [Option.some.injEq] at h
        subst h
        obtain ⟨hf1, hf2, hf3, hf4⟩ := flagL_says hc.2.1
        obtain ⟨hx1, hx2, hx3⟩ := partL_says hx (hmem x (by simp)).1
        obtain ⟨hy1, hy2, hy3⟩ := partL_says hy (hmem y (by simp)).1
        have hzl := (hmem z (by simp)).2
        have hsl : s.data.toList.length = s.size := (Lib.size_eq s).symm
        have hzz : (⟨z.toArray⟩ : ByteArray).size = z.length := by show z.toArray.size = _; rw [List.size_toArray]
        obtain ⟨k1, k2, k3, k4, k5⟩ := parseS_wide hz
        refine ⟨?_, k4, fun it hit => by have := k5 it hit; omega, hx3, hy3⟩
        have hnb : (32 : UInt8) ∉ (textS l).data.toList := by
          unfold parseS at hz
          split at hz
          · cases hz
          · rename_i cs hcs
            have hpt := (codesB_says hcs).1
            have he := encL_codesB hcs
            have hz32 : (32 : Int) ∉ cs := fun hm => (hmem z (by simp)).1 (by
              have := (encL_mem hpt (b := 32) (by decide)).2 hm
              rw [he] at this
              exact this)
            have hall := (parseC_says hz).1
            intro hm
            have hpc : ∀ c ∈ textC l, Pt c := textC_mem k3 rfl rfl rfl rfl
            have h1 := (encL_mem hpc (b := 32) (by decide)).1 hm
            exact textC_mem (P := fun c => c ≠ 32) (fun it hit c hc e => hz32 (e ▸ (hall it hit).2.1 c hc)) (by decide) (by decide) (by decide) (by decide) _ h1 rfl
        have hpre : (32 : UInt8) ∉ (if decide (a = pfx) = true then pfx else sfx) := by split <;> decide
        have hcr : (32 : UInt8) ∉ (if decide (c = [89]) = true then [89] else [78] : List UInt8) := by split <;> decide
        have hfl : (32 : UInt8) ∉ [UInt8.ofNat (flagL f).toNat] := by rw [← hf1]; exact hf2
        have hline : parseR ⟨(lineL ⟨decide (a = pfx), flagL f, decide (c = [89]), u, v, l⟩ (textG l).data.toList).toArray⟩ = some ⟨decide (a = pfx), flagL f, decide (c = [89]), u, v, l⟩ := by
          rw [k2]
          unfold parseR lineL
          dsimp only
          rw [wordsL_app _ _ hpre, wordsL_app _ _ hfl, wordsL_app _ _ hcr, wordsL_app _ _ hx2, wordsL_app _ _ hy2, wordsL_one _ hnb]
          dsimp only
          have ha : (if decide (a = pfx) = true then pfx else sfx) = a := by
            rcases hc.1 with e | e
            · rw [e]; simp
            · rw [e]; decide
          have hcc : (if decide (c = [89]) = true then [89] else [78] : List UInt8) = c := by
            rcases hc.2.2 with e | e
            · rw [e]; simp
            · rw [e]; decide
          rw [ha, hcc, ← hf1]
          unfold parse6
          rw [if_pos hc, hx1, hy1, show (⟨((textS l).data.toList).toArray⟩ : ByteArray) = textS l by simp, k1]
        unfold textR
        rw [if_pos ⟨by dsimp only; omega, hf4, hline⟩]
        exact hline
      · cases h
    · cases h
  · cases h
theorem parseR_nil : parseR ⟨#[]⟩ = none := by decide +kernel
/-- A text that a rule has is read as that rule. -/
theorem textR_some {r q : Ru} (h : parseR (textR r) = some q) : r = q := by
  unfold textR at h
  split at h
  · rename_i hc
    rw [hc.2.2] at h
    exact Option.some.inj h
  · rw [parseR_nil] at h; cases h
/-- Rules that lines say are told by their texts. -/
theorem rules_told : ∀ (xs ys : List Ru), (∀ r ∈ xs, ∃ s, parseR s = some r) → xs.map textR = ys.map textR → xs = ys
  | [], [], _, _ => rfl
  | [], y :: ys, _, h => by simp at h
  | x :: xs, [], _, h => by simp at h
  | x :: xs, y :: ys, h, e => by
    rw [List.map_cons, List.map_cons] at e
    obtain ⟨e1, e2⟩ := List.cons.inj e
    obtain ⟨s, hs⟩ := h x (List.mem_cons_self ..)
    have h1 := (parseR_wide hs).1
    rw [e1] at h1
    rw [textR_some h1, rules_told xs ys (fun r hr => h r (List.mem_cons_of_mem _ hr)) e2]
theorem readA_saidW : ∀ (ls : List (List UInt8)) (d : Rd) (n : Nat) r, r ∈ (readA d n ls).rules → r ∈ d.rules ∨ ∃ l ∈ ls, parseR ⟨l.toArray⟩ = some r
  | [], d, n, r, h => .inl h
  | l :: ls, d, n, r, h => by
    rcases readA_saidW ls (stepA d n l) (n + 1) r h with h | ⟨x, hx, h⟩
    · unfold stepA at h
      split at h
      · exact .inl h
      · split at h
        · exact .inl h
        · split at h
          · rename_i q hq
            rcases List.mem_append.1 h with h | h
            · exact .inl h
            · rw [List.mem_singleton] at h
              subst h
              exact .inr ⟨l, List.mem_cons_self .., hq⟩
          · exact .inl h
    · exact .inr ⟨x, List.mem_cons_of_mem _ hx, h⟩
theorem line_le {s l : List UInt8} (h : l ∈ linesL s) : l.length ≤ s.length := Nat.le_trans (mem_sum _ l h) (linesL_sum s)
/-- The rules of a file that is read: lines say them. -/
theorem parseA_from {s : ByteArray} {r : Ru} (h : r ∈ (parseA s).1.rules) : ∃ l : List UInt8, parseR ⟨l.toArray⟩ = some r ∧ l.length ≤ s.size ∧ s.size ≤ 65536 := by
  have hsl : s.data.toList.length = s.size := (Lib.size_eq s).symm
  unfold parseA at h
  split at h
  · simp [af0] at h
  · rename_i hs
    unfold endA at h
    split at h
    · simp [af0] at h
    · split at h
      · simp [af0] at h
      · split at h
        · simp [af0] at h
        · rcases readA_saidW _ _ _ r h with h | ⟨l, hl, h⟩
          · simp [rd0] at h
          · exact ⟨l, h, by have := line_le hl; omega, by omega⟩
/-- What the landed Text compares by tells the same as the document's. -/
theorem textA_told (a : Af) : textA a = if (parseA ⟨(fileL a).toArray⟩).2.2 = 0 ∧ ((parseA ⟨(fileL a).toArray⟩).1.rules.map textR = a.rules.map textR ∧ (parseA ⟨(fileL a).toArray⟩).1.pairs = a.pairs) then ⟨(fileL a).toArray⟩ else ⟨#[]⟩ := by
  obtain ⟨P, hP⟩ : ∃ P, P = parseA ⟨(fileL a).toArray⟩ := ⟨_, rfl⟩
  have hf : ∀ r ∈ P.1.rules, ∃ s, parseR s = some r := fun r hr => by
    rw [hP] at hr
    obtain ⟨l, h, _⟩ := parseA_from hr
    exact ⟨_, h⟩
  unfold textA
  rw [← hP]
  by_cases hc : P.1 = a ∧ P.2.2 = 0
  · rw [if_pos hc, if_pos ⟨hc.2, by rw [hc.1], by rw [hc.1]⟩]
  · rw [if_neg hc, if_neg]
    rintro ⟨h0, h1, h2⟩
    refine hc ⟨?_, h0⟩
    have := rules_told _ _ hf h1
    obtain ⟨⟨p1, p2⟩, q⟩ := P
    obtain ⟨a1, a2⟩ := a
    dsimp only at this h2
    rw [this, h2]
end Go.Proofs.YtfhoffdgbkoffaaDoor
