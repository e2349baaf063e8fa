/- Plain: what SegTouch asks of the tokens of a text. -/
import Derived.Test.YtmebboadadlahaaDoorSRuns
import Derived.Lib.RuneBytes
namespace Go.Proofs.YtmebboadadlahaaDoor
open Go Go.Lib

theorem segs_all (kd : Int → Int) (l : List UInt8) : segs kd 0 none (units 0 l) = (runs kd 0 [] (units 0 l)).map (tokOf kd) := by
  have := segs_runs kd (units 0 l) 0 [] 0 (by simpa using contig_units l 0)
  simpa [openTok] using this

theorem touch_rise (kd : Int → Int) (l : List UInt8) : Rise (-1) (segs kd 0 none (units 0 l)) := by
  rw [segs_all]
  exact runs_rise kd _ 0 [] 0 (-1) (by simpa using contig_units l 0) (by omega)

/-- A token's bytes, read by themselves, begin and end with a letter or a digit. -/
theorem touch_inside (kd : Int → Int) (l : List UInt8) (t : Tok) (ht : t ∈ segs kd 0 none (units 0 l)) :
    t.2.1 ≤ l.length ∧ ∃ x y : U3, (units 0 ((l.drop t.1).take (t.2.1 - t.1))).head? = some x ∧ (units 0 ((l.drop t.1).take (t.2.1 - t.1))).getLast? = some y ∧ firmB (kd x.2.2) = true ∧ firmB (kd y.2.2) = true := by
  rw [segs_all, List.mem_map] at ht
  obtain ⟨b, hb, rfl⟩ := ht
  obtain ⟨h0, a, d, hu⟩ := runs_in kd _ _ _ b hb
  rw [List.nil_append] at hu
  obtain ⟨x, y, hx, hy, fx, fy⟩ := runs_firm kd _ 0 [] (fun _ => rfl) (fun h => absurd rfl h) b hb
  have hcon := contig_units l 0
  rw [hu] at hcon
  have hc1 := ((contig_append (a ++ b) d 0).1 hcon).1
  have hc2 := ((contig_append a b 0).1 hc1).2
  obtain ⟨hh, _⟩ := contig_head hc2 h0
  rw [Nat.zero_add] at hh
  have e1 : (tokOf kd b).1 = lenU a := hh
  have e2 : (tokOf kd b).2.1 = lenU a + lenU b := by show (b.headD (0, 0, 0)).1 + lenU b = _; rw [hh]
  obtain ⟨_, hle⟩ := units_behind (a ++ b) d 0 l hu
  rw [lenU_append] at hle
  obtain ⟨hr, _⟩ := units_behind a (b ++ d) 0 l (by rw [hu, List.append_assoc])
  have hv := units_ahead b d _ _ hr.symm
  rw [units_shift (lenU a) _ 0] at hv
  rw [e1, e2, Nat.add_sub_cancel_left]
  refine ⟨hle, ?_⟩
  generalize units 0 ((l.drop (lenU a)).take (lenU b)) = v at hv ⊢
  subst hv
  rw [List.head?_map] at hx
  rw [List.getLast?_map] at hy
  obtain ⟨x', hx', rfl⟩ := Option.map_eq_some_iff.1 hx
  obtain ⟨y', hy', rfl⟩ := Option.map_eq_some_iff.1 hy
  exact ⟨x', y', hx', hy', fx, fy⟩

theorem rise_at : ∀ (ts : List Tok) (a : Int) (i : Nat) (t : Tok), Rise a ts → ts[i]? = some t → a < t.1 ∧ t.1 < t.2.1 ∧ Rise t.2.1 (ts.drop (i + 1))
  | [], _, _, _, _, h => by simp at h
  | x :: ts, a, 0, t, hr, h => by
    simp at h; subst h
    exact ⟨hr.1, hr.2.1, hr.2.2⟩
  | x :: ts, a, i + 1, t, hr, h => by
    obtain ⟨g1, g2, g3⟩ := rise_at ts x.2.1 i t hr.2.2 (by simpa using h)
    exact ⟨by have := hr.1; have := hr.2.1; omega, g2, g3⟩
end Go.Proofs.YtmebboadadlahaaDoor
