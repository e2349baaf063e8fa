/- The document's own history of chapter 8, in memory. -/
import Derived.Test.YtibccdbmdajijaaHCopy
import Derived.Test.YtibccdbmdajijaaHAwake
namespace Go.Proofs.Ytibccdbmdajijaa
open Go Go.RowKit

/-- In the blocks F, hb not among them: a slice of groups. -/
def Grp (F : Nat → Prop) (hb : Nat) (w : World) (v : Value) (g : List Ed) : Prop := RowAt w v g ∧ (0 < g.length ∧ g.length ≤ 20) ∧ ∀ b, v.ownBlock = some b → F b ∧ b ≠ hb
def Col (F : Nat → Prop) (hb : Nat) (w : World) (v : Value) (us : List (List Ed)) : Prop :=
  ∃ xs, Vals w 1 v us.length xs ∧ (∀ b, v.ownBlock = some b → F b ∧ b ≠ hb) ∧ ∀ (i : Nat) x, xs[i]? = some x → ∃ g, us[i]? = some g ∧ Grp F hb w x g
/-- At ad, in the blocks F, the document's history of depth E. -/
def RefH (F : Nat → Prop) (w : World) (ad : Addr) (E : Nat) (us rs : List (List Ed)) : Prop :=
  ∃ hb vU vR, ad = ⟨hb, 0, none⟩ ∧ F hb ∧ (∀ k, F k → k < w.heap.size) ∧ w.heap[hb]? = some (.cells #[.int .i64 E, vU, vR] /-t-/40 (0, 0)) ∧ Col F hb w vU us ∧ Col F hb w vR rs ∧ us.length + rs.length ≤ E ∧ E ≤ 50
theorem Grp.keep {F F' : Nat → Prop} {hb : Nat} {w w' : World} {v : Value} {g : List Ed} (h : Grp F hb w v g) (hF : ∀ k, F k → F' k) (hs : w.heap.size ≤ w'.heap.size) (hk : ∀ k, F k → k ≠ hb → w'.heap[k]? = w.heap[k]?) : Grp F' hb w' v g :=
  ⟨h.1.keep hs (fun b _ hv => hk b (h.2.2 b hv).1 (h.2.2 b hv).2), h.2.1, fun b hv => ⟨hF b (h.2.2 b hv).1, (h.2.2 b hv).2⟩⟩
theorem Col.keep {F F' : Nat → Prop} {hb : Nat} {w w' : World} {v : Value} {us : List (List Ed)} (h : Col F hb w v us) (hF : ∀ k, F k → F' k) (hs : w.heap.size ≤ w'.heap.size) (hk : ∀ k, F k → k ≠ hb → w'.heap[k]? = w.heap[k]?) : Col F' hb w' v us := by
  obtain ⟨xs, h1, h2, h3⟩ := h
  refine ⟨xs, h1.keep (fun b hv => hk b (h2 b hv).1 (h2 b hv).2), fun b hv => ⟨hF b (h2 b hv).1, (h2 b hv).2⟩, fun i x hx => ?_⟩
  obtain ⟨g, hg, hG⟩ := h3 i x hx
  exact ⟨g, hg, hG.keep hF hs hk⟩
theorem Col.nil (F : Nat → Prop) (hb : Nat) (w : World) : Col F hb w (.slice none 0 0) [] := ⟨[], ⟨rfl, .inl ⟨rfl, rfl⟩⟩, (fun b h => by cases h), (fun i x h => by simp at h)⟩
theorem Col.one {F : Nat → Prop} {hb : Nat} {w : World} {us : List (List Ed)} {xs : List Value} (h3 : ∀ (i : Nat) x, xs[i]? = some x → ∃ g, us[i]? = some g ∧ Grp F hb w x g) : ∀ u ∈ xs, u.oneCell' = true := by
  intro u hu
  obtain ⟨i, hi⟩ := List.getElem?_of_mem hu
  obtain ⟨g, _, hG⟩ := h3 i u hi
  obtain ⟨⟨_, ⟨rfl, _⟩ | ⟨a, cap, rfl, _⟩⟩, _⟩ := hG.1 <;> rfl
theorem RefH.firm : Firm RefH := ⟨fun F w a E us rs ⟨_, _, _, _, _, h, _⟩ => h, fun F w w' a E us rs h hk => by
  obtain ⟨hb, vU, vR, rfl, h1, h2, h3, h4, h5, h6⟩ := h
  exact ⟨hb, vU, vR, rfl, h1, fun k hk' => Nat.lt_of_lt_of_le (h2 k hk') hk.size, (hk.block hb (h2 hb h1) h1).trans h3, h4.keep (fun _ h => h) hk.size (fun k hF _ => hk.block k (h2 k hF) hF), h5.keep (fun _ h => h) hk.size (fun k hF _ => hk.block k (h2 k hF) hF), h6⟩⟩

set_option maxRecDepth 100000 in
set_option maxHeartbeats 1000000 in
theorem refh_new (w : World) (d : Int) (d1 : -9223372036854775808 ≤ d) (d2 : d ≤ 9223372036854775807) :
    Calls Try.prog 8 #[.int .i64 d] w fun e w' => ∃ a F, e = .returned (.pointer (some a)) ∧ RefH F w' a (cutD d) [] [] ∧ OnlyAt (fun _ => False) w w' ∧ ∀ k, F k → w.heap.size ≤ k := by
  have key : ∀ E : Nat, E ≤ 50 → ∃ a F, Ending.returned (.pointer (some ⟨w.heap.size, 0, none⟩)) = .returned (.pointer (some a)) ∧ RefH F (w.alloc (.cells #[.int .i64 E, .slice none 0 0, .slice none 0 0] /-t-/40)) a E [] [] ∧ OnlyAt (fun _ => False) w (w.alloc (.cells #[.int .i64 E, .slice none 0 0, .slice none 0 0] /-t-/40)) ∧ ∀ k, F k → w.heap.size ≤ k := fun E hE =>
    ⟨_, fun k => k = w.heap.size, rfl, ⟨w.heap.size, _, _, rfl, rfl, fun k hk => by subst hk; simp, World.alloc_heap_new _ _, Col.nil _ _ _, Col.nil _ _ _, Nat.zero_le _, hE⟩, OnlyAt.alloc _ _ _, fun k hk => by subst hk; exact Nat.le_refl _⟩
  have hc : (d < 0 ∧ cutD d = 0) ∨ (d = ((cutD d : Nat) : Int) ∧ ((cutD d : Nat) : Int) ≤ 50) ∨ (50 < d ∧ cutD d = 50) := by unfold cutD; omega
  have KEY := Lib.hid key
  clear key
  generalize cutD d = E at *
  rcases hc with ⟨h0, rfl⟩ | ⟨rfl, h0⟩ | ⟨h0, rfl⟩
  · have hm : min (max d 0) 50 = 0 := by omega
    go_enter Try.func8, Try.ntmps8
    go_wp2_with fail
    all_goals first | (go_ret; exact KEY.out 0 (by omega)) | (exfalso; omega)
  · have e0 : (0 : Int) ≤ E := by omega
    have hm : min (max (E : Int) 0) 50 = E := by omega
    go_enter Try.func8, Try.ntmps8
    go_wp2_with fail
    all_goals first | (go_ret; exact KEY.out E (by omega)) | (exfalso; omega)
  · have hm : min (max d 0) 50 = 50 := by omega
    go_enter Try.func8, Try.ntmps8
    go_wp2_with fail
    all_goals first | (go_ret; exact KEY.out 50 (by omega)) | (exfalso; omega)
end Go.Proofs.Ytibccdbmdajijaa
