/- Plain: the table that numbers make. -/
import Derived.Test.YtjjjefpdpjaadaaMany
namespace Go.Proofs.Ytjjjefpdpjaadaa

def nOne (a k : Int) : R3 := (a + 1 + k % 50, a + 1 + k % 50 + k / 50 % 30, 1 + k / 1500 % 3)
def nTab : Int → List Int → List R3
  | _, [] => []
  | a, z :: t => nOne a (z % 1048576) :: nTab (nOne a (z % 1048576)).2.1 t
def nEnd : Int → List Int → Int
  | a, [] => a
  | a, z :: t => nEnd (nOne a (z % 1048576)).2.1 t

theorem nOne_facts (a k : Int) (_hk : 0 ≤ k) : a < (nOne a k).1 ∧ (nOne a k).1 ≤ (nOne a k).2.1 ∧ (nOne a k).2.1 ≤ a + 79 ∧ 1 ≤ (nOne a k).2.2 ∧ (nOne a k).2.2 ≤ 3 := by
  dsimp only [nOne]
  omega
theorem nTab_snoc : ∀ (l : List Int) (a z : Int), nTab a (l ++ [z]) = nTab a l ++ [nOne (nEnd a l) (z % 1048576)]
  | [], _, _ => rfl
  | x :: l, a, z => by
    show _ :: nTab _ (l ++ [z]) = _ :: (nTab _ l ++ _)
    rw [nTab_snoc l]
    rfl
theorem nEnd_snoc : ∀ (l : List Int) (a z : Int), nEnd a (l ++ [z]) = (nOne (nEnd a l) (z % 1048576)).2.1
  | [], _, _ => rfl
  | x :: l, a, z => by
    show nEnd _ (l ++ [z]) = _
    rw [nEnd_snoc l]
    rfl
theorem nTab_len : ∀ (l : List Int) (a : Int), (nTab a l).length = l.length
  | [], _ => rfl
  | x :: l, a => by
    show (_ :: nTab _ l).length = _
    rw [List.length_cons, nTab_len l]; rfl
theorem nTab_chain : ∀ (l : List Int) (a b : Int), b ≤ a → a + 79 * l.length ≤ 1114111 → chain b (nTab a l) = true
  | [], _, _, _, _ => rfl
  | z :: l, a, b, hba, h => by
    obtain ⟨f1, f2, f3, f4, f5⟩ := nOne_facts a (z % 1048576) (Int.emod_nonneg _ (by omega))
    simp only [List.length_cons] at h
    show chain b (_ :: nTab _ l) = true
    rw [chain_cons, Bool.and_eq_true]
    exact ⟨(okR_iff _ _).2 ⟨by omega, f2, by omega, f4, f5⟩, nTab_chain l _ _ (Int.le_refl _) (by omega)⟩
theorem nTab_ok (l : List Int) (h : l.length ≤ 100) : okT (nTab 0 l) = true := by
  rw [okT, nTab_chain l 0 (-1) (by omega) (by omega), nTab_len]
  simpa using h
theorem nTab_neg (l : List Int) (c : Int) (h : l.length ≤ 100) (hc : c < 0) : ofT (nTab 0 l) c = 0 := by
  rw [ofT_yes (nTab_ok l h)]
  apply find_none
  intro i r hr
  have := (chain_get (nTab_chain l 0 0 (Int.le_refl _) (by omega)) hr).1
  omega

/-- The class of a code by the ranges ahead of place j. -/
def upTo (rs : List R3) (j : Nat) (c : Int) : Int := find (rs.take j) c
theorem upTo_all (rs : List R3) (j : Nat) (c : Int) (h : rs.length ≤ j) : upTo rs j c = find rs c := by rw [upTo, List.take_of_length_le h]
theorem take_snoc {rs : List R3} {j : Nat} {r : R3} (h : rs[j]? = some r) : rs.take (j + 1) = rs.take j ++ [r] := by
  obtain ⟨hj, rfl⟩ := List.getElem?_eq_some_iff.1 h
  rw [List.take_succ_eq_append_getElem hj]
theorem find_snoc_out : ∀ (l : List R3) (r : R3) (c : Int), ¬ (r.1 ≤ c ∧ c ≤ r.2.1) → find (l ++ [r]) c = find l c
  | [], r, c, h => by simp only [List.nil_append, find, if_neg h]
  | x :: l, r, c, h => by
    show find (x :: (l ++ [r])) c = _
    rw [find, find, find_snoc_out l r c h]
theorem upTo_out {rs : List R3} {j : Nat} {r : R3} {c : Int} (h : rs[j]? = some r) (hn : ¬ (r.1 ≤ c ∧ c ≤ r.2.1)) : upTo rs (j + 1) c = upTo rs j c := by
  rw [upTo, upTo, take_snoc h, find_snoc_out _ _ _ hn]
theorem chain_take : ∀ (rs : List R3) (a : Int) (j : Nat), chain a rs = true → chain a (rs.take j) = true
  | [], _, _, _ => by simp [chain]
  | _ :: _, _, 0, _ => rfl
  | x :: t, a, j + 1, h => by
    rw [chain_cons, Bool.and_eq_true] at h
    rw [List.take_succ_cons, chain_cons, h.1, chain_take t _ j h.2]
    rfl
theorem upTo_in {rs : List R3} {j : Nat} {r : R3} {c : Int} (hc : chain (-1) rs = true) (h : rs[j]? = some r) (h1 : r.1 ≤ c) (h2 : c ≤ r.2.1) : upTo rs (j + 1) c = r.2.2 := by
  have hj := (List.getElem?_eq_some_iff.1 h).1
  have hg : (rs.take (j + 1))[j]? = some r := by rw [List.getElem?_take]; simp [h]
  exact find_hit (chain_take rs (-1) (j + 1) hc) hg h1 h2

/-- Each range's ends have its class. -/
theorem ends_hit {rs : List R3} {j : Nat} {r : R3} (ho : okT rs = true) (h : rs[j]? = some r) : ofT rs r.1 = r.2.2 ∧ ofT rs r.2.1 = r.2.2 := by
  have hc := okT_chain ho
  have := (okR_iff _ _).1 (chain_get hc h).2
  rw [ofT_yes ho, ofT_yes ho]
  exact ⟨find_hit hc h (Int.le_refl _) this.2.1, find_hit hc h this.2.1 (Int.le_refl _)⟩
end Go.Proofs.Ytjjjefpdpjaadaa
