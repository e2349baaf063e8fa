/- Plain: the solid units of a text, and its tokens out of them. -/
import Derived.Test.YtmebboadadlahaaDoorPlain
import Derived.Test.YtmebboadadlahaaDoorSPlain
namespace Go.Proofs.YtmebboadadlahaaDoor
open Go Go.Lib

/-- The solid units, each with its class, behind a unit of class p. -/
def sol (kd : Int → Int) : Int → List U3 → List (U3 × Int)
  | _, [] => []
  | p, u :: t => (if solidB p (kd u.2.2) (headK kd t) then [(u, kd u.2.2)] else []) ++ sol kd (kd u.2.2) t

/-- Tokens out of solid units: what touches what is ahead belongs to it. -/
def tk : Option Tok → List (U3 × Int) → List Tok
  | c, [] => c.toList
  | none, x :: t => tk (some (ext none x.1 x.2)) t
  | some y, x :: t => if y.2.1 < x.1.1 then y :: tk (some (ext none x.1 x.2)) t else tk (some (ext (some y) x.1 x.2)) t

/-- Units side by side from place q on, none of them empty. -/
def Chain : Nat → List U3 → Prop
  | _, [] => True
  | q, u :: t => u.1 = q ∧ 1 ≤ u.2.1 ∧ Chain (q + u.2.1) t

theorem chain_units : ∀ (l : List UInt8) (p : Nat), Chain p (units p l) := by
  apply unit_ind
  · intro p; exact trivial
  · intro l hne ih p
    rw [units_step p l hne]
    exact ⟨rfl, decodeL_width l, ih _⟩

theorem tk_segs (kd : Int → Int) : ∀ (us : List U3) (p : Int) (q : Nat), Chain q us →
    tk none (sol kd p us) = segs kd p none us ∧ ∀ x : Tok, (x.2.1 = q → tk (some x) (sol kd p us) = segs kd p (some x) us) ∧ (x.2.1 < q → tk (some x) (sol kd p us) = x :: segs kd p none us)
  | [], p, q, _ => ⟨rfl, fun x => ⟨fun _ => rfl, fun _ => rfl⟩⟩
  | u :: t, p, q, ⟨hq, hl, hc⟩ => by
    obtain ⟨ih0, ih⟩ := tk_segs kd t (kd u.2.2) (q + u.2.1) hc
    by_cases hs : solidB p (kd u.2.2) (headK kd t) = true
    · have he : ∀ c, (ext c u (kd u.2.2)).2.1 = q + u.2.1 := by intro c; cases c <;> simp [ext, hq]
      refine ⟨?_, fun x => ⟨fun hx => ?_, fun hx => ?_⟩⟩
      · rw [sol, segs, if_pos hs, if_pos hs, List.singleton_append, tk]
        exact (ih _).1 (he _)
      · rw [sol, segs, if_pos hs, if_pos hs, List.singleton_append, tk, if_neg (by dsimp only; omega)]
        exact (ih _).1 (he _)
      · rw [sol, segs, if_pos hs, if_pos hs, List.singleton_append, tk, if_pos (by dsimp only; omega)]
        rw [(ih _).1 (he _)]
    · refine ⟨?_, fun x => ⟨fun hx => ?_, fun hx => ?_⟩⟩
      · rw [sol, segs, if_neg hs, if_neg hs, List.nil_append, ih0]; rfl
      · rw [sol, segs, if_neg hs, if_neg hs, List.nil_append, (ih x).2 (by omega)]; rfl
      · rw [sol, segs, if_neg hs, if_neg hs, List.nil_append, (ih x).2 (by omega)]; rfl

theorem tk_all (kd : Int → Int) (l : List UInt8) : tk none (sol kd 0 (units 0 l)) = segs kd 0 none (units 0 l) := (tk_segs kd _ 0 0 (chain_units l 0)).1

/-- What holds between two rounds over the units: what is told; the unit that waits. -/
def SolInv (kd : Int → Int) (all : List U3) (us : List U3) (outs : List (U3 × Int)) (h : U3) (a k : Int) : Prop :=
  ∃ pend rest, all = us ++ rest ∧ sol kd 0 all = outs ++ sol kd a (pend ++ rest) ∧ ((pend = [] ∧ a = 0 ∧ k = 0) ∨ (pend = [h] ∧ k = kd h.2.2))

theorem SolInv.zero (kd : Int → Int) (all : List U3) (h : U3) : SolInv kd all [] [] h 0 0 := ⟨[], all, rfl, rfl, .inl ⟨rfl, rfl, rfl⟩⟩
theorem SolInv.yes {kd : Int → Int} {all us : List U3} {outs : List (U3 × Int)} {h x : U3} {a k : Int} (hi : SolInv kd all us outs h a k) (hp : (us ++ [x]) <+: all) (hs : solidB a k (kd x.2.2) = true) :
    SolInv kd all (us ++ [x]) (outs ++ [(h, k)]) x k (kd x.2.2) ∧ (outs ++ [(h, k)]) <+: sol kd 0 all := by
  obtain ⟨pend, rest, ha, hb, hc⟩ := hi
  obtain ⟨r, hr⟩ := hp
  have hrest : rest = x :: r := by
    rw [ha, List.append_assoc] at hr
    simpa using (List.append_cancel_left hr).symm
  subst hrest
  rcases hc with ⟨rfl, rfl, rfl⟩ | ⟨rfl, rfl⟩
  · simp [solidB, firmB] at hs
  · have he : sol kd 0 all = (outs ++ [(h, kd h.2.2)]) ++ sol kd (kd h.2.2) ([x] ++ r) := by
      rw [hb, List.singleton_append, sol, headK, if_pos hs]; simp
    exact ⟨⟨[x], r, by rw [← hr], he, .inr ⟨rfl, rfl⟩⟩, ⟨_, he.symm⟩⟩
theorem SolInv.no {kd : Int → Int} {all us : List U3} {outs : List (U3 × Int)} {h x : U3} {a k : Int} (hi : SolInv kd all us outs h a k) (hp : (us ++ [x]) <+: all) (hs : solidB a k (kd x.2.2) = false) :
    SolInv kd all (us ++ [x]) outs x k (kd x.2.2) := by
  obtain ⟨pend, rest, ha, hb, hc⟩ := hi
  obtain ⟨r, hr⟩ := hp
  have hrest : rest = x :: r := by
    rw [ha, List.append_assoc] at hr
    simpa using (List.append_cancel_left hr).symm
  subst hrest
  rcases hc with ⟨rfl, rfl, rfl⟩ | ⟨rfl, rfl⟩
  · exact ⟨[x], r, by rw [← hr], hb, .inr ⟨rfl, rfl⟩⟩
  · refine ⟨[x], r, by rw [← hr], ?_, .inr ⟨rfl, rfl⟩⟩
    rw [hb, List.singleton_append, sol, headK, hs]; simp
theorem SolInv.last_yes {kd : Int → Int} {all : List U3} {outs : List (U3 × Int)} {h : U3} {a k : Int} (hi : SolInv kd all all outs h a k) (hs : solidB a k 0 = true) : sol kd 0 all = outs ++ [(h, k)] := by
  obtain ⟨pend, rest, ha, hb, hc⟩ := hi
  have hrest : rest = [] := by simpa using ha
  subst hrest
  rcases hc with ⟨rfl, rfl, rfl⟩ | ⟨rfl, rfl⟩
  · simp [solidB, firmB] at hs
  · rw [hb, List.append_nil, sol, headK, if_pos hs]; simp [sol]
theorem SolInv.last_no {kd : Int → Int} {all : List U3} {outs : List (U3 × Int)} {h : U3} {a k : Int} (hi : SolInv kd all all outs h a k) (hs : solidB a k 0 = false) : sol kd 0 all = outs := by
  obtain ⟨pend, rest, ha, hb, hc⟩ := hi
  have hrest : rest = [] := by simpa using ha
  subst hrest
  rcases hc with ⟨rfl, rfl, rfl⟩ | ⟨rfl, rfl⟩
  · rw [hb]; simp [sol]
  · rw [hb, List.append_nil, sol, headK, hs]; simp [sol]

/-- What holds between two rounds over the solid units: what is told; the token that is open (0, 0 where none is). -/
def TokInv (all : List (U3 × Int)) (pre : List (U3 × Int)) (outs : List Tok) (t : Tok) : Prop :=
  ∃ rest, all = pre ++ rest ∧ tk none all = outs ++ tk (if t.2.1 = 0 then none else some t) rest ∧ (t.2.1 = 0 → t = (0, 0, true))
theorem TokInv.zero (all : List (U3 × Int)) : TokInv all [] [] (0, 0, true) := ⟨all, rfl, rfl, fun _ => rfl⟩
theorem TokInv.new {all pre : List (U3 × Int)} {outs : List Tok} {t : Tok} {u : U3} {k : Int} (hi : TokInv all pre outs t) (hp : (pre ++ [(u, k)]) <+: all) (hl : 1 ≤ u.2.1) (h : t.2.1 < u.1) :
    TokInv all (pre ++ [(u, k)]) (if t.2.1 = 0 then outs else outs ++ [t]) (u.1, u.1 + u.2.1, k != 2) ∧ (¬ t.2.1 = 0 → (outs ++ [t]) <+: tk none all) := by
  obtain ⟨rest, ha, hb, hc⟩ := hi
  obtain ⟨r, hr⟩ := hp
  have hrest : rest = (u, k) :: r := by
    rw [ha, List.append_assoc] at hr
    simpa using (List.append_cancel_left hr).symm
  subst hrest
  by_cases h0 : t.2.1 = 0
  · refine ⟨⟨r, by rw [← hr], ?_, fun h => by dsimp only at h; omega⟩, fun h => absurd h0 h⟩
    rw [hb, if_pos h0, if_pos h0, tk, if_neg (by dsimp only; omega)]; rfl
  · have he : tk none all = (outs ++ [t]) ++ tk (some (u.1, u.1 + u.2.1, k != 2)) r := by
      rw [hb, if_neg h0, tk, if_pos h]; simp [ext]
    refine ⟨⟨r, by rw [← hr], ?_, fun h => by dsimp only at h; omega⟩, fun _ => ⟨_, he.symm⟩⟩
    rw [if_neg h0, if_neg (by dsimp only; omega)]; exact he
theorem TokInv.on {all pre : List (U3 × Int)} {outs : List Tok} {t : Tok} {u : U3} {k : Int} (hi : TokInv all pre outs t) (hp : (pre ++ [(u, k)]) <+: all) (hl : 1 ≤ u.2.1) (h : ¬ t.2.1 < u.1) :
    TokInv all (pre ++ [(u, k)]) outs (t.1, u.1 + u.2.1, t.2.2 && k != 2) := by
  obtain ⟨rest, ha, hb, hc⟩ := hi
  obtain ⟨r, hr⟩ := hp
  have hrest : rest = (u, k) :: r := by
    rw [ha, List.append_assoc] at hr
    simpa using (List.append_cancel_left hr).symm
  subst hrest
  refine ⟨r, by rw [← hr], ?_, fun h => by dsimp only at h; omega⟩
  by_cases h0 : t.2.1 = 0
  · have ht := hc h0
    have hu : u.1 = 0 := by omega
    rw [hb, if_pos h0, tk, if_neg (by dsimp only; omega), ht]
    simp [ext, hu]
  · rw [hb, if_neg h0, tk, if_neg h, if_neg (by dsimp only; omega)]; rfl
theorem TokInv.last_yes {all : List (U3 × Int)} {outs : List Tok} {t : Tok} (hi : TokInv all all outs t) (h : ¬ t.2.1 = 0) : tk none all = outs ++ [t] := by
  obtain ⟨rest, ha, hb, hc⟩ := hi
  have hrest : rest = [] := by simpa using ha
  subst hrest
  rw [hb, if_neg h]; rfl
theorem TokInv.last_no {all : List (U3 × Int)} {outs : List Tok} {t : Tok} (hi : TokInv all all outs t) (h : t.2.1 = 0) : tk none all = outs := by
  obtain ⟨rest, ha, hb, hc⟩ := hi
  have hrest : rest = [] := by simpa using ha
  subst hrest
  rw [hb, if_pos h]; simp [tk]

/-- A solid unit is one of the text's. -/
theorem sol_mem (kd : Int → Int) : ∀ (us : List U3) (p : Int) (x : U3 × Int), x ∈ sol kd p us → x.1 ∈ us ∧ x.2 = kd x.1.2.2
  | [], _, x, h => by simp [sol] at h
  | u :: t, p, x, h => by
    rw [sol, List.mem_append] at h
    rcases h with h | h
    · split at h
      · simp only [List.mem_singleton] at h; subst h; exact ⟨by simp, rfl⟩
      · simp at h
    · have := sol_mem kd t _ x h
      exact ⟨List.mem_cons_of_mem _ this.1, this.2⟩
theorem chain_len : ∀ (us : List U3) (q : Nat), Chain q us → ∀ u, u ∈ us → 1 ≤ u.2.1
  | [], _, _, u, h => by simp at h
  | v :: t, q, ⟨_, h1, h2⟩, u, h => by
    rcases List.mem_cons.1 h with rfl | h
    · exact h1
    · exact chain_len t _ h2 u h
end Go.Proofs.YtmebboadadlahaaDoor
