/- Plain: the table of so many ranges of five codes; chains by their places. -/
import Derived.Test.YtjjjefpdpjaadaaPlain
namespace Go.Proofs.Ytjjjefpdpjaadaa

theorem chain_of : ∀ (rs : List R3) (a : Int), (∀ (i : Nat) (r : R3), rs[i]? = some r → okR (r.1 - 1) r = true) → (∀ r : R3, rs[0]? = some r → a < r.1) →
    (∀ (i : Nat) (r s : R3), rs[i]? = some r → rs[i + 1]? = some s → r.2.1 < s.1) → chain a rs = true
  | [], _, _, _, _ => rfl
  | x :: t, a, h1, h2, h3 => by
    have hx := (okR_iff _ _).1 (h1 0 x rfl)
    have ha := h2 x rfl
    rw [chain_cons, Bool.and_eq_true]
    refine ⟨(okR_iff _ _).2 ⟨ha, hx.2⟩, chain_of t x.2.1 (fun i r hr => h1 (i + 1) r (by simpa using hr)) (fun r hr => h3 0 x r rfl (by simpa using hr)) (fun i r s hr hs => h3 (i + 1) r s (by simpa using hr) (by simpa using hs))⟩

def mOne (i : Nat) : R3 := (10 * (i : Int), 10 * (i : Int) + 4, 1 + (i : Int) % 3)
def mkMany (k : Nat) : List R3 := (List.range k).map mOne
theorem many_len (k : Nat) : (mkMany k).length = k := by simp [mkMany]
theorem many_succ (k : Nat) : mkMany (k + 1) = mkMany k ++ [mOne k] := by simp [mkMany, List.range_succ]
theorem many_get {k i : Nat} {r : R3} (h : (mkMany k)[i]? = some r) : i < k ∧ r = mOne i := by
  have hi := (List.getElem?_eq_some_iff.1 h).1
  rw [many_len] at hi
  refine ⟨hi, ?_⟩
  rw [mkMany, List.getElem?_map, List.getElem?_range hi] at h
  simpa using h.symm
theorem many_at {k i : Nat} (h : i < k) : (mkMany k)[i]? = some (mOne i) := by
  rw [mkMany, List.getElem?_map, List.getElem?_range h]; rfl
theorem many_chain (k : Nat) (hk : k ≤ 102) : chain (-1) (mkMany k) = true := by
  apply chain_of
  · intro i r hr
    obtain ⟨hi, rfl⟩ := many_get hr
    apply (okR_iff _ _).2
    dsimp only [mOne]
    omega
  · intro r hr
    obtain ⟨_, rfl⟩ := many_get hr
    decide
  · intro i r s hr hs
    obtain ⟨_, rfl⟩ := many_get hr
    obtain ⟨_, rfl⟩ := many_get hs
    dsimp only [mOne]
    omega
theorem many_ok (k : Nat) (hk : k ≤ 100) : okT (mkMany k) = true := by
  rw [okT, many_chain k (by omega), many_len]
  simpa using hk
theorem many_no (k : Nat) (hk : 100 < k) : okT (mkMany k) = false := by
  rw [okT, many_len]
  simp; omega
theorem many_in (k : Nat) (c : Int) (hk : k ≤ 100) (h0 : 0 ≤ c) (h1 : c < 10 * k) (h : c % 10 ≤ 4) : ofT (mkMany k) c = 1 + c / 10 % 3 := by
  rw [ofT_yes (many_ok k hk)]
  have hi : (c / 10).toNat < k := by omega
  rw [find_hit (many_chain k (by omega)) (many_at hi) (by dsimp only [mOne]; omega) (by dsimp only [mOne]; omega)]
  dsimp only [mOne]
  rw [show (((c / 10).toNat : Nat) : Int) = c / 10 by omega]
theorem many_out (k : Nat) (c : Int) (hk : k ≤ 100) (h : 4 < c % 10) : ofT (mkMany k) c = 0 := by
  rw [ofT_yes (many_ok k hk)]
  apply find_none
  intro i r hr
  obtain ⟨_, rfl⟩ := many_get hr
  dsimp only [mOne]
  omega
end Go.Proofs.Ytjjjefpdpjaadaa
