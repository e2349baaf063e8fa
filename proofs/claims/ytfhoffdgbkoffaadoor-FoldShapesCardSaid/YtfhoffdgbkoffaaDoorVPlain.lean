/- Affix files, plain: no program. A file's lines; what a file reads as; a file's text; one is read as the other. -/
import Derived.Test.YtfhoffdgbkoffaaDoorQPlain
namespace Go.Proofs.YtfhoffdgbkoffaaDoor
open Go Go.Lib

/-! ### Lines -/
def linesL : List UInt8 → List (List UInt8)
  | [] => []
  | b :: r => if b = 10 then [] :: linesL r else match linesL r with
    | [] => [[b]]
    | h :: t => (b :: h) :: t
theorem linesL_cons (b : UInt8) (r : List UInt8) : linesL (b :: r) = if b = 10 then [] :: linesL r else match linesL r with
    | [] => [[b]]
    | h :: t => (b :: h) :: t := rfl
/-- A line ahead of its end. -/
theorem linesL_app : ∀ (a r : List UInt8), (10 : UInt8) ∉ a → linesL (a ++ 10 :: r) = a :: linesL r
  | [], r, _ => by simp [linesL]
  | b :: a, r, h => by
    have hb : b ≠ 10 := fun e => h (by rw [e]; exact List.mem_cons_self ..)
    have ih := linesL_app a r fun e => h (List.mem_cons_of_mem _ e)
    show linesL (b :: (a ++ 10 :: r)) = _
    rw [linesL_cons, if_neg hb, ih]
theorem linesL_one : ∀ (a : List UInt8), a ≠ [] → (10 : UInt8) ∉ a → linesL a = [a]
  | [], h, _ => absurd rfl h
  | [b], _, h => by
    have hb : b ≠ 10 := fun e => h (by rw [e]; exact List.mem_cons_self ..)
    rw [linesL_cons, if_neg hb]; rfl
  | b :: c :: a, _, h => by
    have hb : b ≠ 10 := fun e => h (by rw [e]; exact List.mem_cons_self ..)
    have ih := linesL_one (c :: a) (by simp) fun e => h (List.mem_cons_of_mem _ e)
    rw [linesL_cons, if_neg hb, ih]
theorem linesL_flat : ∀ (ls : List (List UInt8)), (∀ l ∈ ls, (10 : UInt8) ∉ l) → linesL ((ls.map fun l => l ++ [10]).flatten) = ls
  | [], _ => rfl
  | l :: ls, h => by
    have ih := linesL_flat ls fun x hx => h x (List.mem_cons_of_mem _ hx)
    rw [List.map_cons, List.flatten_cons, List.append_assoc]
    show linesL (l ++ 10 :: (ls.map fun l => l ++ [10]).flatten) = _
    rw [linesL_app _ _ (h l (List.mem_cons_self ..)), ih]
theorem linesL_mem : ∀ (s l : List UInt8), l ∈ linesL s → (10 : UInt8) ∉ l
  | [], l, h => by simp [linesL] at h
  | b :: r, l, h => by
    rw [linesL_cons] at h
    by_cases hb : b = 10
    · rw [if_pos hb] at h
      rcases List.mem_cons.1 h with rfl | h
      · simp
      · exact linesL_mem r l h
    · rw [if_neg hb] at h
      split at h
      · rw [List.mem_singleton] at h
        subst h
        rw [List.mem_singleton]
        exact fun e => hb e.symm
      · rename_i x t he
        rcases List.mem_cons.1 h with rfl | h
        · intro hm
          rcases List.mem_cons.1 hm with e | e
          · exact hb e.symm
          · exact linesL_mem r x (by rw [he]; exact List.mem_cons_self ..) e
        · exact linesL_mem r l (by rw [he]; exact List.mem_cons_of_mem _ h)
/-- All lines' bytes are the text's. -/
theorem linesL_sum : ∀ (s : List UInt8), ((linesL s).map List.length).sum ≤ s.length
  | [] => Nat.le_refl _
  | b :: r => by
    have ih := linesL_sum r
    rw [linesL_cons]
    by_cases hb : b = 10
    · rw [if_pos hb, List.map_cons, List.sum_cons, List.length_cons]; simp; omega
    · rw [if_neg hb]
      cases he : linesL r with
      | nil => simp
      | cons x t =>
        rw [he, List.map_cons, List.sum_cons] at ih
        rw [List.map_cons, List.sum_cons, List.length_cons, List.length_cons]
        omega

/-! ### What a line says, what a file says -/
def plainC (c : Int) : Bool := decide ((65 ≤ c ∧ c ≤ 90) ∨ (97 ≤ c ∧ c ≤ 122))
def usedP (ps : List (Int × Int)) (c : Int) : Bool := ps.any fun p => p.1 == c || p.2 == c
def caseW : List UInt8 := [67, 65, 83, 69, 32]
/-- Two codes that are a pair behind these pairs. -/
def okPair (ps : List (Int × Int)) (g s : Int) : Bool := !(g == s) && !plainC g && !plainC s && !usedP ps g && !usedP ps s
def pairL (ps : List (Int × Int)) (l : List UInt8) : Option (Int × Int) :=
  if l.take 5 = caseW then match codesB (l.drop 5) with
    | some [g, s] => if okPair ps g s = true then some (g, s) else none
    | _ => none
  else none
structure Af where
  rules : List Ru
  pairs : List (Int × Int)
deriving DecidableEq
def af0 : Af := ⟨[], []⟩
/-- What is read so far: rules, where they stand, pairs, the first line that is none. -/
structure Rd where
  rules : List Ru
  at_ : List Nat
  pairs : List (Int × Int)
  bad : Nat
deriving DecidableEq
def rd0 : Rd := ⟨[], [], [], 0⟩
def stepA (d : Rd) (n : Nat) (l : List UInt8) : Rd :=
  if l = [] ∨ l.head? = some 35 then d
  else match pairL d.pairs l with
    | some p => { d with pairs := d.pairs ++ [p] }
    | none => match parseR ⟨l.toArray⟩ with
      | some r => { d with rules := d.rules ++ [r], at_ := d.at_ ++ [n] }
      | none => { d with bad := if d.bad = 0 then n else d.bad }
def readA : Rd → Nat → List (List UInt8) → Rd
  | d, _, [] => d
  | d, n, l :: r => readA (stepA d n l) (n + 1) r
/-- A rule of the other end ahead has its flag. -/
def clash (seen : List Ru) (r : Ru) : Bool := seen.any fun q => q.flag == r.flag && !(q.pre == r.pre)
def flagA : List Ru → List Ru → List Nat → Nat
  | _, [], _ => 0
  | seen, r :: rs, at_ => if clash seen r = true then at_.headD 0 else flagA (seen ++ [r]) rs at_.tail
def endA (d : Rd) : Af × Nat × Int :=
  if 200 < d.rules.length ∨ 200 < d.pairs.length then (af0, 0, 3)
  else if 0 < d.bad then (af0, d.bad, 5)
  else if 0 < flagA [] d.rules d.at_ then (af0, flagA [] d.rules d.at_, 6)
  else (⟨d.rules, d.pairs⟩, 0, 0)
def parseA (s : ByteArray) : Af × Nat × Int :=
  if 65536 < s.size then (af0, 0, 3) else endA (readA rd0 1 (linesL s.data.toList))
def pairT (p : Int × Int) : List UInt8 := caseW ++ ptL [p.1, p.2]
def fileL (a : Af) : List UInt8 := ((a.rules.map fun r => (textR r).data.toList) ++ a.pairs.map pairT).flatMap fun l => l ++ [10]
def textA (a : Af) : ByteArray :=
  if (parseA ⟨(fileL a).toArray⟩).1 = a ∧ (parseA ⟨(fileL a).toArray⟩).2.2 = 0 then ⟨(fileL a).toArray⟩ else ⟨#[]⟩

/-! ### What is read -/
/-- Pairs, each right behind those ahead. -/
def PairsOk (ps : List (Int × Int)) : Prop := ∀ (a : List (Int × Int)) p b, ps = a ++ p :: b → okPair a p.1 p.2 = true ∧ Pt p.1 ∧ Pt p.2 ∧ p.1 ≠ 10 ∧ p.2 ≠ 10
theorem PairsOk.nil : PairsOk [] := fun a p b h => by simp at h
theorem PairsOk.snoc {ps : List (Int × Int)} {p : Int × Int} (h : PairsOk ps) (hp : okPair ps p.1 p.2 = true ∧ Pt p.1 ∧ Pt p.2 ∧ p.1 ≠ 10 ∧ p.2 ≠ 10) : PairsOk (ps ++ [p]) := by
  intro a q b e
  rcases List.append_eq_append_iff.1 e with ⟨c, e1, e2⟩ | ⟨c, e1, e2⟩
  · cases c with
    | nil =>
      rw [List.append_nil] at e1
      rw [List.nil_append] at e2
      obtain ⟨e3, -⟩ := List.cons.inj e2
      rw [e1, ← e3]; exact hp
    | cons x c =>
      rw [List.cons_append] at e2
      have := (List.cons.inj e2).2
      simp at this
  · cases c with
    | nil =>
      rw [List.nil_append] at e2
      obtain ⟨e3, -⟩ := List.cons.inj e2
      rw [List.append_nil] at e1
      rw [← e1, e3]; exact hp
    | cons x c =>
      rw [List.cons_append] at e2
      obtain ⟨e3, e4⟩ := List.cons.inj e2
      rw [← e3] at e1
      exact h a q c e1
/-- A rule that a line says. -/
def FromLine (r : Ru) (k : Nat) : Prop := ∃ l : List UInt8, (10 : UInt8) ∉ l ∧ l.length ≤ k ∧ parseR ⟨l.toArray⟩ = some r
/-- What holds of what is read: behind m bytes of lines. -/
structure RdOk (d : Rd) (k m : Nat) : Prop where
  rules : ∀ r ∈ d.rules, FromLine r k
  pairs : PairsOk d.pairs
  len : d.at_.length = d.rules.length
  pos : ∀ n ∈ d.at_, 0 < n
  sum : (d.rules.map fun r => (textC r.cond).length).sum ≤ m
theorem RdOk.start (k : Nat) : RdOk rd0 k 0 := ⟨fun r h => by simp [rd0] at h, PairsOk.nil, rfl, fun n h => by simp [rd0] at h, Nat.le_refl _⟩
theorem pairL_says {ps : List (Int × Int)} {l : List UInt8} {p : Int × Int} (h : pairL ps l = some p) (h10 : (10 : UInt8) ∉ l) : okPair ps p.1 p.2 = true ∧ Pt p.1 ∧ Pt p.2 ∧ p.1 ≠ 10 ∧ p.2 ≠ 10 := by
  unfold pairL at h
  split at h
  · split at h
    · rename_i g s hc
      split at h
      · rename_i hok
        obtain rfl := Option.some.inj h
        obtain ⟨hp, -⟩ := codesB_says hc
        have he := encL_codesB hc
        have hn : ∀ c ∈ [g, s], c ≠ 10 := fun c hcm e => h10 (List.mem_of_mem_drop (i := 5) (by
          rw [← he]
          exact (encL_mem hp (b := 10) (by decide)).2 (by rw [show ((10 : UInt8).toNat : Int) = 10 from rfl, ← e]; exact hcm)))
        exact ⟨hok, hp g (by simp), hp s (by simp), hn g (by simp), hn s (by simp)⟩
      · cases h
    · cases h
  · cases h
theorem parseR_textC {s : ByteArray} {r : Ru} (h : parseR s = some r) (hs : s.size ≤ 1200) : (textC r.cond).length ≤ s.size := (parseR_back h hs).2.2.2.2.2.2
theorem RdOk.step {d : Rd} {k m n : Nat} {l : List UInt8} (h : RdOk d k m) (hk : l.length ≤ k) (hk2 : k ≤ 1200) (h10 : (10 : UInt8) ∉ l) (hn : 0 < n) : RdOk (stepA d n l) k (m + l.length) := by
  obtain ⟨h1, h2, h3, h4, h5⟩ := h
  unfold stepA
  split
  · exact ⟨h1, h2, h3, h4, by omega⟩
  · split
    · rename_i p hp
      exact ⟨h1, h2.snoc (pairL_says hp h10), h3, h4, Nat.le_trans h5 (Nat.le_add_right _ _)⟩
    · split
      · rename_i r hr
        have hsz : (⟨l.toArray⟩ : ByteArray).size = l.length := by show l.toArray.size = _; rw [List.size_toArray]
        refine ⟨fun q hq => ?_, h2, by simp [h3], fun q hq => ?_, ?_⟩
        · rcases List.mem_append.1 hq with hq | hq
          · exact h1 q hq
          · rw [List.mem_singleton] at hq
            subst hq
            exact ⟨l, h10, hk, hr⟩
        · rcases List.mem_append.1 hq with hq | hq
          · exact h4 q hq
          · rw [List.mem_singleton] at hq
            subst hq
            exact hn
        · have := parseR_textC hr (by omega)
          rw [List.map_append, List.sum_append]
          simp
          omega
      · exact ⟨h1, h2, h3, h4, Nat.le_trans h5 (Nat.le_add_right _ _)⟩
theorem RdOk.read {k : Nat} (hk2 : k ≤ 1200) : ∀ (ls : List (List UInt8)) (d : Rd) (m n : Nat), RdOk d k m → 0 < n → (∀ l ∈ ls, (10 : UInt8) ∉ l ∧ l.length ≤ k) → RdOk (readA d n ls) k (m + (ls.map List.length).sum)
  | [], d, m, n, h, _, _ => by simpa [readA] using h
  | l :: ls, d, m, n, h, hn, hl => by
    have h1 := hl l (List.mem_cons_self ..)
    have := RdOk.read hk2 ls (stepA d n l) (m + l.length) (n + 1) (h.step h1.2 hk2 h1.1 hn) (Nat.succ_pos _) fun x hx => hl x (List.mem_cons_of_mem _ hx)
    rw [List.map_cons, List.sum_cons, ← Nat.add_assoc]
    exact this

/-! ### What is read has a text that is read as that -/
theorem rule_line {r : Ru} {k : Nat} (h : FromLine r k) (hk : k ≤ 1200) : parseR (textR r) = some r ∧ (10 : UInt8) ∉ (textR r).data.toList ∧ (textR r).data.toList ≠ [] ∧ (textR r).data.toList.head? ≠ some 35 ∧ (∀ ps, pairL ps (textR r).data.toList = none) ∧ (textR r).data.toList.length ≤ 51 + 4 * (textC r.cond).length := by
  obtain ⟨l, h10, hlk, hp⟩ := h
  have hsz : (⟨l.toArray⟩ : ByteArray).size ≤ 1200 := by show l.toArray.size ≤ _; rw [List.size_toArray]; omega
  obtain ⟨b1, b2, b3, b4, b5, b6, b7⟩ := parseR_back hp hsz
  obtain ⟨t1, t2⟩ := textR_back hp hsz
  have hL : (textR r).data.toList = lineL r (textS r.cond).data.toList := by rw [t1]
  have hhead : ∃ b t, lineL r (textS r.cond).data.toList = b :: t ∧ (b = 80 ∨ b = 83) := by
    unfold lineL
    cases r.pre
    · exact ⟨83, _, rfl, .inr rfl⟩
    · exact ⟨80, _, rfl, .inl rfl⟩
  obtain ⟨b, t, hbt, hb⟩ := hhead
  refine ⟨t2, ?_, by rw [hL, hbt]; simp, ?_, ?_, ?_⟩
  · rw [hL]
    have hw := hp
    unfold parseR at hw
    have hll : (⟨l.toArray⟩ : ByteArray).data.toList = l := by simp
    rw [hll] at hw
    split at hw
    · rename_i a f c x y z hws
      have hmem : ∀ w ∈ [a, f, c, x, y, z], (10 : UInt8) ∉ w := fun w hm he => by
        have key : ∀ (s w : List UInt8), w ∈ wordsL s → ∀ u ∈ w, u ∈ s := by
          intro s
          induction s with
          | nil => intro w hw u hu; simp [wordsL] at hw; subst hw; cases hu
          | cons c s ih =>
            intro w hw u hu
            rw [wordsL_cons] at hw
            by_cases hc : c = 32
            · rw [if_pos hc] at hw
              rcases List.mem_cons.1 hw with rfl | hw
              · cases hu
              · exact List.mem_cons_of_mem _ (ih w hw u hu)
            · rw [if_neg hc] at hw
              split at hw
              · rename_i e; exact absurd e (wordsL_ne s)
              · rename_i h0 t0 e
                rcases List.mem_cons.1 hw with rfl | hw
                · rcases List.mem_cons.1 hu with rfl | hu
                  · exact List.mem_cons_self ..
                  · exact List.mem_cons_of_mem _ (ih h0 (by rw [e]; exact List.mem_cons_self ..) u hu)
                · exact List.mem_cons_of_mem _ (ih w (by rw [e]; exact List.mem_cons_of_mem _ hw) u hu)
        exact h10 (key l w (by rw [hws]; exact hm) 10 he)
      unfold parse6 at hw
      split at hw
      · rename_i hc
        split at hw
        · rename_i u v it hx hy hz
          obtain rfl := Option.some.inj hw
          obtain ⟨hf1, hf2, hf3, hf4⟩ := flagL_says hc.2.1
          have hpart : ∀ (w : List UInt8) (q : ByteArray), partL w = some q → (10 : UInt8) ∉ w → (10 : UInt8) ∉ or0L q := by
            intro w q hq hw10
            unfold partL at hq
            split at hq
            · obtain rfl := Option.some.inj hq; decide
            · split at hq
              · rename_i hc2
                obtain rfl := Option.some.inj hq
                unfold or0L
                rw [if_neg (by simpa using hc2.1)]
                simpa using hw10
              · cases hq
          have hnx := hpart x u hx (hmem x (by simp))
          have hny := hpart y v hy (hmem y (by simp))
          have hnt : (10 : UInt8) ∉ (textS it).data.toList := by
            unfold parseS at hz
            split at hz
            · cases hz
            · rename_i cs hcs
              have hpt := (codesB_says hcs).1
              have he := encL_codesB hcs
              have hz10 : (10 : Int) ∉ cs := fun hm => hmem z (by simp) (by
                have := (encL_mem hpt (b := 10) (by decide)).2 hm
                rw [he] at this
                simpa using this)
              have hall := (parseC_says hz).1
              intro hm
              have hpc : ∀ c ∈ textC it, Pt c := textC_mem b4.pts rfl rfl rfl rfl
              have h1 := (encL_mem hpc (b := 10) (by decide)).1 hm
              exact textC_mem (P := fun c => c ≠ 10) (fun i hi c hc e => hz10 (e ▸ (hall i hi).2.1 c hc)) (by decide) (by decide) (by decide) (by decide) _ h1 rfl
          have hpre : (10 : UInt8) ∉ (if decide (a = pfx) = true then pfx else sfx) := by split <;> decide
          have hcr : (10 : UInt8) ∉ (if decide (c = [89]) = true then [89] else [78] : List UInt8) := by split <;> decide
          have hfl : (10 : UInt8) ∉ [UInt8.ofNat (flagL f).toNat] := by rw [← hf1]; exact hmem f (by simp)
          unfold lineL
          dsimp only
          simp only [List.mem_append, List.mem_cons, not_or]
          exact ⟨hpre, by decide, by simpa using hfl, by decide, hcr, by decide, hnx, by decide, hny, by decide, hnt⟩
        · cases hw
      · cases hw
    · cases hw
  · rw [hL, hbt, List.head?_cons]
    intro e
    have := Option.some.inj e
    rcases hb with rfl | rfl <;> cases this
  · intro ps
    rw [hL, hbt]
    unfold pairL
    rw [if_neg]
    intro e
    have h1 : (b :: t).take 5 = b :: t.take 4 := rfl
    rw [h1] at e
    have := (List.cons.inj (e.trans (show caseW = 67 :: [65, 83, 69, 32] from rfl))).1
    rcases hb with rfl | rfl <;> cases this
  · rw [hL]
    have hs := (parseS_text b4).2
    rw [Lib.size_eq] at hs
    have ho : ∀ q : ByteArray, q.size ≤ 20 → (or0L q).length ≤ 20 := fun q hq => by
      have hq2 := hq; rw [Lib.size_eq] at hq2; unfold or0L; split <;> simp <;> omega
    have h1 := ho _ b5
    have h2 := ho _ b6
    unfold lineL
    have h3 : (if r.pre = true then pfx else sfx).length = 3 := by split <;> rfl
    have h4 : (if r.cross = true then [89] else [78] : List UInt8).length = 1 := by split <;> rfl
    simp only [List.length_append, List.length_cons, List.length_nil, h3, h4]
    omega
theorem stepA_rule {d : Rd} {n k : Nat} {r : Ru} (h : FromLine r k) (hk : k ≤ 1200) : stepA d n (textR r).data.toList = { d with rules := d.rules ++ [r], at_ := d.at_ ++ [n] } := by
  obtain ⟨h1, h2, h3, h4, h5, _⟩ := rule_line h hk
  unfold stepA
  rw [if_neg (by rintro (e | e); exact h3 e; exact h4 e), h5]
  dsimp only
  rw [show (⟨(textR r).data.toList.toArray⟩ : ByteArray) = textR r by simp, h1]
theorem stepA_pair {d : Rd} {n : Nat} {p : Int × Int} (h : okPair d.pairs p.1 p.2 = true ∧ Pt p.1 ∧ Pt p.2 ∧ p.1 ≠ 10 ∧ p.2 ≠ 10) : stepA d n (pairT p) = { d with pairs := d.pairs ++ [p] } := by
  have hpt : ∀ c ∈ [p.1, p.2], Pt c := fun c hc => by
    simp only [List.mem_cons, List.not_mem_nil, or_false] at hc
    rcases hc with rfl | rfl
    · exact h.2.1
    · exact h.2.2.1
  have hd : (pairT p).drop 5 = ptL [p.1, p.2] := rfl
  have ht : (pairT p).take 5 = caseW := rfl
  have hpl : pairL d.pairs (pairT p) = some p := by
    unfold pairL
    rw [if_pos ht, hd, ptL_enc hpt, codesB_enc _ hpt]
    dsimp only
    rw [if_pos h.1]
  unfold stepA
  rw [if_neg (by rintro (e | e); exact absurd e (by unfold pairT caseW; simp); exact absurd e (by unfold pairT caseW; simp)), hpl]
theorem readA_rules {k : Nat} (hk : k ≤ 1200) : ∀ (rs : List Ru) (d : Rd) (n : Nat) (ls : List (List UInt8)), (∀ r ∈ rs, FromLine r k) → ∃ at_, at_.length = rs.length ∧ readA d n ((rs.map fun r => (textR r).data.toList) ++ ls) = readA { d with rules := d.rules ++ rs, at_ := d.at_ ++ at_ } (n + rs.length) ls
  | [], d, n, ls, _ => ⟨[], rfl, by simp⟩
  | r :: rs, d, n, ls, h => by
    obtain ⟨at_, h1, h2⟩ := readA_rules hk rs { d with rules := d.rules ++ [r], at_ := d.at_ ++ [n] } (n + 1) ls fun x hx => h x (List.mem_cons_of_mem _ hx)
    refine ⟨n :: at_, by simp [h1], ?_⟩
    rw [List.map_cons, List.cons_append]
    show readA (stepA d n _) (n + 1) _ = _
    rw [stepA_rule (h r (List.mem_cons_self ..)) hk, h2]
    simp only [List.append_assoc, List.cons_append, List.nil_append, List.length_cons]
    rw [show n + 1 + rs.length = n + (rs.length + 1) by omega]
theorem readA_pairs : ∀ (ps : List (Int × Int)) (d : Rd) (n : Nat), PairsOk (d.pairs ++ ps) → readA d n (ps.map pairT) = { d with pairs := d.pairs ++ ps }
  | [], d, n, _ => by simp [readA]
  | p :: ps, d, n, h => by
    have h1 := h d.pairs p ps rfl
    have ih := readA_pairs ps { d with pairs := d.pairs ++ [p] } (n + 1) (by simpa using h)
    rw [List.map_cons]
    show readA (stepA d n _) (n + 1) _ = _
    rw [stepA_pair h1, ih]
    simp
theorem pairT_none {p : Int × Int} (h1 : Pt p.1) (h2 : Pt p.2) (h3 : p.1 ≠ 10) (h4 : p.2 ≠ 10) : (10 : UInt8) ∉ pairT p ∧ (pairT p).length ≤ 13 := by
  have hpt : ∀ c ∈ [p.1, p.2], Pt c := fun c hc => by
    simp only [List.mem_cons, List.not_mem_nil, or_false] at hc
    rcases hc with rfl | rfl
    · exact h1
    · exact h2
  unfold pairT
  rw [ptL_enc hpt]
  constructor
  · rw [List.mem_append, not_or]
    refine ⟨by decide, fun hm => ?_⟩
    have := (encL_mem hpt (b := 10) (by decide)).1 hm
    simp only [List.mem_cons, List.not_mem_nil, or_false] at this
    rcases this with e | e
    · exact h3 e.symm
    · exact h4 e.symm
  · have := encL_len [p.1, p.2]
    rw [List.length_append]
    simp [caseW] at this ⊢
    omega
theorem flagA_any : ∀ (rs seen : List Ru) (a b : List Nat), a.length = rs.length → (∀ n ∈ a, 0 < n) → flagA seen rs a = 0 → flagA seen rs b = 0
  | [], _, _, _, _, _, _ => rfl
  | r :: rs, seen, a, b, hl, hp, h => by
    match a, hl with
    | n :: a, hl =>
      unfold flagA at h ⊢
      by_cases hc : clash seen r = true
      · rw [if_pos hc] at h
        have := hp n (List.mem_cons_self ..)
        simp at h
        omega
      · rw [if_neg hc] at h ⊢
        exact flagA_any rs _ a b.tail (by simpa using hl) (fun x hx => hp x (List.mem_cons_of_mem _ hx)) h
theorem sum_lines : ∀ (ls : List (List UInt8)), (ls.flatMap fun l => l ++ [10]).length = (ls.map List.length).sum + ls.length
  | [] => rfl
  | l :: ls => by
    have ih := sum_lines ls
    rw [List.flatMap_cons, List.length_append, ih, List.map_cons, List.sum_cons, List.length_cons]
    simp
    omega
theorem sum_rules {k : Nat} (hk : k ≤ 1200) : ∀ (rs : List Ru), (∀ r ∈ rs, FromLine r k) → ((rs.map fun r => (textR r).data.toList).map List.length).sum ≤ 51 * rs.length + 4 * (rs.map fun r => (textC r.cond).length).sum
  | [], _ => Nat.le_refl _
  | r :: rs, h => by
    have ih := sum_rules hk rs fun x hx => h x (List.mem_cons_of_mem _ hx)
    have h1 := (rule_line (h r (List.mem_cons_self ..)) hk).2.2.2.2.2
    simp only [List.map_cons, List.sum_cons, List.length_cons] at ih ⊢
    omega
theorem sum_pairs : ∀ (ps : List (Int × Int)), (∀ p ∈ ps, (pairT p).length ≤ 13) → ((ps.map pairT).map List.length).sum ≤ 13 * ps.length
  | [], _ => Nat.le_refl _
  | p :: ps, h => by
    have ih := sum_pairs ps fun x hx => h x (List.mem_cons_of_mem _ hx)
    have h1 := h p (List.mem_cons_self ..)
    simp only [List.map_cons, List.sum_cons, List.length_cons] at ih ⊢
    omega
theorem mem_sum : ∀ (ls : List (List UInt8)) l, l ∈ ls → l.length ≤ (ls.map List.length).sum
  | [], l, h => by cases h
  | x :: ls, l, h => by
    rw [List.map_cons, List.sum_cons]
    rcases List.mem_cons.1 h with rfl | h
    · omega
    · have := mem_sum ls l h; omega
/-- What is read has a text that is read as that. -/
theorem textA_back {s : ByteArray} {a : Af} {n : Nat} (h : parseA s = (a, n, 0)) (hs : s.size ≤ 1200) : n = 0 ∧ textA a = ⟨(fileL a).toArray⟩ ∧ parseA (textA a) = (a, 0, 0) := by
  have hsl : s.data.toList.length = s.size := (Lib.size_eq s).symm
  unfold parseA at h
  rw [if_neg (by omega)] at h
  have hlen : ∀ l ∈ linesL s.data.toList, (10 : UInt8) ∉ l ∧ l.length ≤ 1200 := fun l hl => ⟨linesL_mem _ l hl, by
    have h1 := linesL_sum s.data.toList
    have h2 : l.length ≤ ((linesL s.data.toList).map List.length).sum := mem_sum _ l hl
    omega⟩
  have hok := RdOk.read (k := 1200) (Nat.le_refl _) (linesL s.data.toList) rd0 0 1 (RdOk.start _) (by decide) hlen
  have hsum := linesL_sum s.data.toList
  obtain ⟨d, hd⟩ : ∃ d, d = readA rd0 1 (linesL s.data.toList) := ⟨_, rfl⟩
  rw [← hd] at h hok
  unfold endA at h
  split at h
  · simp at h
  · rename_i hc
    split at h
    · simp at h
    · split at h
      · simp at h
      · rename_i hb hf
        simp only [Prod.mk.injEq, and_true] at h
        obtain ⟨rfl, rfl⟩ := h
        obtain ⟨k1, k2, k3, k4, k5⟩ := hok
        have hfl : flagA [] d.rules d.at_ = 0 := by omega
        have hpp : ∀ p ∈ d.pairs, (10 : UInt8) ∉ pairT p ∧ (pairT p).length ≤ 13 := fun p hp => by
          obtain ⟨x, y, e⟩ := List.append_of_mem hp
          obtain ⟨_, p1, p2, p3, p4⟩ := k2 x p y e
          exact pairT_none p1 p2 p3 p4
        have hl10 : ∀ l ∈ (d.rules.map fun r => (textR r).data.toList) ++ d.pairs.map pairT, (10 : UInt8) ∉ l := fun l hl => by
          rcases List.mem_append.1 hl with hl | hl
          · obtain ⟨r, hr, rfl⟩ := List.mem_map.1 hl
            exact (rule_line (k1 r hr) (Nat.le_refl _)).2.1
          · obtain ⟨p, hp, rfl⟩ := List.mem_map.1 hl
            exact (hpp p hp).1
        have hfz : (fileL ⟨d.rules, d.pairs⟩).length ≤ 65536 := by
          unfold fileL
          rw [sum_lines, List.map_append, List.sum_append, List.length_append, List.length_map, List.length_map]
          have q1 := sum_rules (Nat.le_refl 1200) d.rules k1
          have q2 := sum_pairs d.pairs fun p hp => (hpp p hp).2
          dsimp only
          omega
        have hlines : linesL (fileL ⟨d.rules, d.pairs⟩) = (d.rules.map fun r => (textR r).data.toList) ++ d.pairs.map pairT := by
          unfold fileL
          rw [List.flatMap_def]
          exact linesL_flat _ hl10
        have hpa : parseA ⟨(fileL ⟨d.rules, d.pairs⟩).toArray⟩ = (⟨d.rules, d.pairs⟩, 0, 0) := by
          unfold parseA
          rw [if_neg (by show ¬ 65536 < (fileL _).toArray.size; rw [List.size_toArray]; omega)]
          have hl2 : (⟨(fileL ⟨d.rules, d.pairs⟩).toArray⟩ : ByteArray).data.toList = fileL ⟨d.rules, d.pairs⟩ := by simp
          rw [hl2, hlines]
          obtain ⟨at_, e1, e2⟩ := readA_rules (Nat.le_refl 1200) d.rules rd0 1 (d.pairs.map pairT) k1
          rw [e2, readA_pairs _ _ _ (by simpa [rd0] using k2)]
          unfold endA
          simp only [rd0, List.nil_append]
          have hf0 : flagA [] d.rules at_ = 0 := flagA_any d.rules [] d.at_ at_ k3 k4 hfl
          refine (if_neg hc).trans ?_
          refine (if_neg (by omega)).trans ?_
          exact if_neg (by rw [hf0]; omega)
        have ht : textA ⟨d.rules, d.pairs⟩ = ⟨(fileL ⟨d.rules, d.pairs⟩).toArray⟩ := by
          unfold textA
          rw [hpa]
          exact if_pos ⟨rfl, rfl⟩
        exact ⟨rfl, ht, by rw [ht]; exact hpa⟩
end Go.Proofs.YtfhoffdgbkoffaaDoor
