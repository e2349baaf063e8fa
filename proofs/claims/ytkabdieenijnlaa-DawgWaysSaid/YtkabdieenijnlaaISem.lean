/- What the states of an automaton say, in words: where a byte leads, what is a word, which words there are. No program. -/
import Derived.Test.YtkabdieenijnlaaIAuto
namespace Go.Proofs.Ytkabdieenijnlaa

theorem N_node {g : GA} (h : g.Ok) {t : Nat} {V : List Bs} (ht : g.N[t]? = some V) : ∃ f i L, g.nodes[t]? = some (f, i) ∧ ([] :: g.A)[i]? = some L ∧ V = fins f ++ L := by
  have hl : t < g.nodes.length := by rw [h.nl]; exact (List.getElem?_eq_some_iff.1 ht).1
  have hg : g.nodes[t]? = some (g.nodes[t]) := List.getElem?_eq_getElem hl
  obtain ⟨L, h1, h2⟩ := h.node t _ _ hg
  rw [ht] at h2
  exact ⟨_, _, L, hg, h1, Option.some.inj h2⟩
theorem out_eq {g : GA} {t : Nat} {f : Bool} {i : Nat} (hg : g.nodes[t]? = some (f, i)) : g.out (t : Int) = g.chain i := by
  unfold GA.out
  rw [if_pos (by omega), Int.toNat_natCast, hg]
theorem step_ok {g : GA} (h : g.Ok) {t : Nat} {V : List Bs} (ht : g.N[t]? = some V) (c : UInt8) : match goes (g.out (t : Int)) c with
    | some t' => g.N[t']? = some (tails c V) ∧ tails c V ≠ []
    | none => tails c V = [] := by
  obtain ⟨f, i, L, h1, h2, rfl⟩ := N_node h ht
  obtain ⟨e, hc⟩ := chain_ok h i L h2
  have hg := goes_ok hc c
  rw [← e] at hg
  rw [out_eq h1, tails_app, tails_fins, List.nil_append]
  exact hg
theorem fin_ok {g : GA} (h : g.Ok) {t : Nat} {V : List Bs} (ht : g.N[t]? = some V) : g.fin (t : Int) = decide ([] ∈ V) := by
  obtain ⟨f, i, L, h1, h2, rfl⟩ := N_node h ht
  have hn := h.ne h2
  unfold GA.fin
  rw [if_pos (by omega), Int.toNat_natCast, h1]
  cases f with
  | true => rw [decide_eq_true]; exact List.mem_append_left _ (by simp [fins])
  | false =>
    rw [decide_eq_false]
    intro hm
    simp [fins] at hm
    exact hn [] hm rfl
theorem fin_out {g : GA} {s : Int} (h : g.has s = false) : g.fin s = false ∧ g.out s = [] := by
  have h' : ¬ (0 ≤ s ∧ s < g.nodes.length) := of_decide_eq_false h
  unfold GA.fin GA.out
  constructor
  · split
    · rw [List.getElem?_eq_none (by omega)]
    · rfl
  · split
    · rw [List.getElem?_eq_none (by omega)]
    · rfl
/-- The words of a state: the empty one, and what each arc leads to. -/
theorem words_out {g : GA} (h : g.Ok) {t : Nat} {V : List Bs} (ht : g.N[t]? = some V) : V = fins (g.fin (t : Int)) ++ leads g.N (g.out (t : Int)) ∧ ChainOk g.N (g.out (t : Int)) := by
  obtain ⟨f, i, L, h1, h2, rfl⟩ := N_node h ht
  obtain ⟨e, hc⟩ := chain_ok h i L h2
  have ef : g.fin (t : Int) = f := by unfold GA.fin; rw [if_pos (by omega), Int.toNat_natCast, h1]
  rw [out_eq h1, ef, ← e]
  exact ⟨rfl, hc⟩
end Go.Proofs.Ytkabdieenijnlaa
