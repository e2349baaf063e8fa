/- A strings.Builder whose bytes lie from some block on, wherever the builder itself lies: what WriteString writes is these alone. -/
import Derived.Test.YtfhoffdgbkoffaaDoorOBuild
import Derived.Test.YtfhoffdgbkoffaaDoorSGives
namespace Go.Proofs.YtfhoffdgbkoffaaDoor
open Go Go.RowKit

def BuAt (N b : Nat) (p : Value) (bs : List Value) (w : World) : Prop :=
  ∃ v, w.heap[b]? = some (.cells #[p, v] /-t-/57 (0, 0)) ∧ w.ownsRow N /-t-/5 1 v bs.length bs ∧ v.ownBlock ≠ some b
def IsBu (N b : Nat) (bs : List Value) (w : World) : Prop := BuAt N b (.pointer none) bs w ∨ BuAt N b (.pointer (some ⟨b, 0, none⟩)) bs w
theorem own_base {w : World} {B B' e size n : Nat} {v : Value} {xs : List Value} (h : w.ownsRow B e size v n xs) (hB : B' ≤ B) : w.ownsRow B' e size v n xs := by
  refine ⟨h.1, ?_⟩
  rcases h.2 with hn | ⟨g, cap, cur, rfl, hg, rest⟩
  · exact .inl hn
  · exact .inr ⟨g, cap, cur, rfl, Nat.le_trans hB hg, rest⟩
theorem IsBu.builder {N b : Nat} {bs : List Value} {w : World} (h : IsBu N b bs w) (hb : b ≤ N) : Lib.IsBuilder /-t-/57 /-t-/5 b b bs w := by
  rcases h with ⟨v, h1, h2, h3⟩ | ⟨v, h1, h2, h3⟩
  · exact .inl ⟨Nat.le_refl _, v, h1, own_base h2 hb, h3⟩
  · exact .inr ⟨Nat.le_refl _, v, h1, own_base h2 hb, h3⟩
theorem IsBu.new {N b : Nat} {w : World} (h : w.heap[b]? = some (.cells #[.pointer none, .slice none 0 0] /-t-/57 (0, 0))) : IsBu N b [] w :=
  .inl ⟨_, h, World.ownsRow_nil _ _ _ _, by simp [Value.ownBlock]⟩
theorem IsBu.keep {N b : Nat} {bs : List Value} {w w' : World} (h : IsBu N b bs w) (hb : Below w.heap.size w w') : IsBu N b bs w' := by
  have key : ∀ p, BuAt N b p bs w → BuAt N b p bs w' := by
    rintro p ⟨v, h1, h2, h3⟩
    exact ⟨v, (hb.block b (Array.getElem?_eq_some_iff.1 h1).1).trans h1, own_keep9 h2 hb, h3⟩
  exact h.imp (key _) (key _)

set_option maxHeartbeats 1000000 in
set_option maxRecDepth 100000 in
/-- copyCheck: behind it the builder is used; its bytes are as they were. -/
theorem check_bu (N b : Nat) (bs : List Value) (w : World) (h : IsBu N b bs w) :
    Calls Tryd.prog 33 #[.pointer (some ⟨b, 0, none⟩)] w fun e w' => e = .returned (.tuple #[]) ∧ (BuAt N b (.pointer (some ⟨b, 0, none⟩)) bs w' ∧ OnlyAt (fun k => k = b) w w') := by
  obtain ⟨j, hj, hjs⟩ := builder_info
  have u0 := Tryd.underlying54
  rcases h with h | h
  · obtain ⟨v, hb, hown, hne⟩ := h
    have h0 : w.cell? ⟨b, 0, none⟩ = some (.pointer none) := by rw [Lib.cell_of_heap hb]; rfl
    have hsh : w.shape? b = some (/-t-/57, 2) := by simp [World.shape?, hb]
    have hfz : w.frozen? ⟨b, 0, none⟩ = false := Lib.frozen_of_heap hb 0
    have hend : BuAt N b (.pointer (some ⟨b, 0, none⟩)) bs (w.setCell ⟨b, 0, none⟩ (.pointer (some ⟨b, 0, none⟩))) := by
      refine ⟨v, by simp [World.setCell, Array.getElem?_modify, hb], ?_, hne⟩
      exact hown.kept (row := some b) ⟨rfl, rfl, rfl, by simp [World.setCell], fun k _ hk => Below.heap_setCell _ _ _ _ (fun e => hk (by simp [e]))⟩ (.inr hne)
    have H := Lib.hid hend
    clear hb hown hne hend
    go_enter Tryd.func33, Tryd.ntmps33
    go_wp2
    rw [Lib.run_to_unsafe w ⟨b, 0, none⟩ Tryd.underlying54 Tryd.underlying93 hj (by rw [hjs]; decide) hsh (Nat.zero_lt_succ 1)]
    simp only [Result.andThen]
    rw [Oper.upon_value]
    go_wp2
    rw [run_callFunc_extern Tryd.func41 (by kernel_rfl) (by kernel_rfl) (by kernel_rfl) (e := Extern.AbiNoEscape.same) (by kernel_rfl)]
    rw [Lib.run_noEscape]
    simp only [Result.andThen]
    rw [Oper.upon_value]
    go_wp2
    rw [Lib.run_from_unsafe w ⟨b, 0, none⟩ Tryd.underlying93 Tryd.underlying54 hj hsh (by kernel_rfl)]
    simp only [Result.andThen]
    rw [Oper.upon_value]
    go_wp2
    go_end0
    exact ⟨rfl, H.out, OnlyAt.setCell _ _ _ rfl⟩
  · have h0 : w.cell? ⟨b, 0, none⟩ = some (.pointer (some ⟨b, 0, none⟩)) := by obtain ⟨v, hb, _⟩ := h; rw [Lib.cell_of_heap hb]; rfl
    have H := Lib.hid h
    clear h
    go_enter Tryd.func33, Tryd.ntmps33
    go_wp2
    rw [Lib.run_neq_ptr_same w _ Tryd.underlying54 hj]
    go_wp2
    go_end0
    exact ⟨rfl, H.out, OnlyAt.refl _ _⟩

set_option maxHeartbeats 1000000 in
/-- WriteString: the text stands behind what the builder held. -/
theorem writes_bu (N b : Nat) (bs : List Value) (s : ByteArray) (w : World) (h : IsBu N b bs w)
    (hlen : bs.length + s.size ≤ 140737488355328) (hN : N ≤ w.heap.size) :
    Calls Tryd.prog 19 #[.pointer (some ⟨b, 0, none⟩), .string s] w fun e w' => (∃ v, e = .returned v) ∧ IsBu N b (bs ++ Lib.strCells s) w' ∧ OnlyAt (fun k => k = b ∨ N ≤ k) w w' := by
  obtain ⟨i0, hi, hz0, hz1, hz2⟩ := byte_info
  have C := Lib.hid (check_bu N b bs w h)
  go_enter Tryd.func19, Tryd.ntmps19
  go_wp2_with (go_at_call 33; refine (C.out).mono ?_)
  rintro e w1 ⟨rfl, hat, hb1⟩
  obtain ⟨v, hbk, hown, hne⟩ := hat
  have c1 : w1.cell? ⟨b, 1, none⟩ = some v := by rw [Lib.cell_of_heap hbk]; rfl
  have hs1 := hb1.size
  go_wp2_with (at_builtin; refine Lib.wpList_append_own_string _ rfl _ _ 55 9 rfl N 5 i0 Tryd.underlying55 Tryd.underlying9 hi hz0 hz1 hz2 _ _ _ rfl hown s rfl (by unfold maxLen; omega) (by omega) (by omega) ?_)
  intro v' w2 hown' hgrow _
  have hlt : b < w1.heap.size := (Array.getElem?_eq_some_iff.1 hbk).1
  have hb2 : w2.heap[b]? = some (.cells #[.pointer (some ⟨b, 0, none⟩), v] /-t-/57 (0, 0)) := by
    rw [hgrow.block b hlt (fun e => hne e.symm)]; exact hbk
  have d1 : w2.cell? ⟨b, 1, none⟩ = some v := by rw [Lib.cell_of_heap hb2]; rfl
  have f1 : w2.frozen? ⟨b, 1, none⟩ = false := Lib.frozen_of_heap hb2 1
  obtain ⟨ao, n', cap, rfl⟩ : ∃ ao n' cap, v' = .slice ao n' cap := by
    rcases hown'.2 with ⟨hv, _⟩ | ⟨g, cap, cur, hv, _⟩
    · exact ⟨_, _, _, hv⟩
    · exact ⟨_, _, _, hv⟩
  go_wp2
  go_ret2
  have hne' : (Value.slice ao n' cap).ownBlock ≠ some b := Lib.ownBlock_ne hown' hb2 (by decide)
  refine ⟨⟨_, rfl⟩, .inr ⟨.slice ao n' cap, ?_, ?_, hne'⟩, ?_⟩
  · simp [World.setCell, Array.getElem?_modify, hb2]
  · have : w2.ownsRow N /-t-/5 1 (.slice ao n' cap) (bs ++ Lib.strCells s).length (bs ++ Lib.strCells s) := by simpa [Lib.strCells_length] using hown'
    exact this.kept (row := some b) ⟨rfl, rfl, rfl, by simp [World.setCell], fun k _ hk => Below.heap_setCell _ _ _ _ (fun e => hk (by simp [e]))⟩ (.inr hne')
  · exact ((hb1.mono fun k hk => .inl hk).trans (OnlyAt.of_grown hgrow fun k hk => .inr (hown.lt k hk).1)).trans (OnlyAt.setCell _ _ _ (.inl rfl))
end Go.Proofs.YtfhoffdgbkoffaaDoor
