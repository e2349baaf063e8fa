/- The document's own units of a text, and At, by their contracts. -/
import Derived.Test.YtfhoffdgbkoffaaDoorOne
namespace Go.Proofs.YtfhoffdgbkoffaaDoor
open Go Go.RowKit Go.Lib

/-- What holds at the head of each round. -/
def RallInv (s : ByteArray) (w : World) (B : Nat) (v : Value) (wr : World) (pos : Nat) (us : List (Nat × Nat × Int)) : Prop :=
  pos ≤ s.size ∧ units 0 s.data.toList = us ++ units pos (s.data.toList.drop pos) ∧ us.length ≤ pos ∧ wr.ownsRow B 61 3 v us.length (us.flatMap uCells) ∧ Below B w wr ∧ B ≤ wr.heap.size

theorem RallInv.step {s : ByteArray} {w : World} {B : Nat} {v : Value} {wr : World} {pos : Nat} {us : List (Nat × Nat × Int)} (h : RallInv s w B v wr pos us) (hp : pos < s.size) {N : Nat} {C : Int}
    (hN : N = (decodeL (s.data.toList.drop pos)).2) (hC : C = uCode (s.data.toList.drop pos)) {w3 : World} (hb : Below wr.heap.size wr w3) {v' : Value} {w4 : World}
    (hown : w4.ownsRow B 61 3 v' (us.length + 1) (us.flatMap uCells ++ [.int .i64 pos, .int .i64 N, .int .i64 C])) (hg : w3.grownBy w4 v.ownBlock) : RallInv s w B v' w4 (pos + N) (us ++ [(pos, N, C)]) := by
  obtain ⟨h1, h3, h4, h5, h6, h7⟩ := h
  have hne : s.data.toList.drop pos ≠ [] := by
    intro h0
    have := congrArg List.length h0
    rw [List.length_drop, ← Lib.size_eq, List.length_nil] at this
    omega
  have hle := decodeL_le _ hne
  have hw := decodeL_width (s.data.toList.drop pos)
  rw [List.length_drop, ← Lib.size_eq] at hle
  have hb6 : Below B w w3 := h6.trans (hb.mono h7)
  refine ⟨by omega, ?_, by simp; omega, ?_, hb6.grown hg (Nat.le_trans h7 hb.size) (fun k hk => (h5.lt k hk).1), Nat.le_trans (Nat.le_trans h7 hb.size) hg.size⟩
  · rw [h3, units_step pos _ hne, ← hN, ← hC, List.drop_drop]
    simp
  · have : (us ++ [(pos, N, C)]).flatMap uCells = us.flatMap uCells ++ [.int .i64 pos, .int .i64 N, .int .i64 C] := by simp [uCells]
    rw [this]
    simpa using hown

theorem cells_new2 (w : World) (o : Obj) (cs : List Value) (t : TypeId) : ∀ j u, cs[j]? = some u → ((w.alloc o).alloc (.cells cs.toArray t)).cell? ((⟨w.heap.size + 1, 0, none⟩ : Addr).add j) = some u := by
  have h := cells_new (w.alloc o) cs t
  have e : (w.alloc o).heap.size = w.heap.size + 1 := by simp
  rwa [e] at h

set_option maxHeartbeats 1000000 in
theorem rall_any (s : ByteArray) (w : World) (hs : s.size ≤ 1000000000000) :
    Calls Tryd.prog 36 #[.string s] w fun e w' => ∃ v, e = .returned v ∧ w'.ownsRow w.heap.size 61 3 v (units 0 s.data.toList).length ((units 0 s.data.toList).flatMap uCells) ∧ Below w.heap.size w w' := by
  obtain ⟨i0, hi, hz0, hz1, hz2⟩ := info_parts Tryd.info61
  go_enter Tryd.func36, Tryd.ntmps36
  go_wp2
  have hinv0 : RallInv s w w.heap.size (.slice none 0 0) w 0 [] := ⟨Nat.zero_le _, by simp, Nat.le_refl _, World.ownsRow_nil _ _ _ _, Below.refl _ _, Nat.le_refl _⟩
  go_loopw [3, 4] (fun v i wr => ∃ (pos : Nat) (us : List (Nat × Nat × Int)), i = .int .i64 pos ∧ Hid (RallInv s w w.heap.size v wr pos us)) (fun _ i _ => s.size - (RowKit.intOf i).toNat)
  case atStart => exact ⟨0, [], rfl, hinv0⟩
  case round =>
    obtain ⟨pos, us, rfl, HI⟩ := hrel
    have hpl := HI.out.1
    have hul := HI.out.2.2.1
    clear hinv0
    by_cases hp : pos < s.size
    · have hne : s.data.toList.drop pos ≠ [] := by
        intro h0
        have := congrArg List.length h0
        rw [List.length_drop, ← Lib.size_eq, List.length_nil] at this
        omega
      have hle := decodeL_le _ hne
      rw [List.length_drop, ← Lib.size_eq] at hle
      have hwd := decodeL_width (s.data.toList.drop pos)
      obtain ⟨N, hN⟩ : ∃ N, N = (decodeL (s.data.toList.drop pos)).2 := ⟨_, rfl⟩
      obtain ⟨C, hC⟩ : ∃ C, C = uCode (s.data.toList.drop pos) := ⟨_, rfl⟩
      have cU : ∀ wx, Calls Tryd.prog 43 #[.string s, .int .i64 pos] wx fun e w' => e = .returned (.agg #[.int .i64 pos, .int .i64 N, .int .i64 C]) ∧ Below wx.heap.size wx w' := by
        intro wx
        have := one_any s pos wx hp hs
        rwa [uVal, ← hN, ← hC] at this
      rw [← hN] at hle hwd
      have CU := Lib.hid cU
      have HN := Lib.hid hN
      have HC := Lib.hid hC
      clear hN hC cU hne
      go_wp2_with fail
      refine (CU.out _).mono ?_
      rintro e w3 ⟨rfl, hb3⟩
      have hne3 : some w3.heap.size ≠ u3.ownBlock := by
        intro e
        have := (HI.out.2.2.2.1.lt _ e.symm).2
        have := hb3.size
        omega
      have HNE := Lib.hid hne3
      clear hne3
      go_wp2_with (at_builtin; refine wpList_append_own _ rfl _ _ 58 rfl w.heap.size 61 i0 (.agg #[.int .i64 0, .int .i64 0, .int .i64 0]) 3 24 Tryd.underlying58 hi hz0 hz1 hz2 rfl (by decide) _ _ _ rfl (((own_below HI.out.2.2.2.1 hb3).alloc _).alloc _) ⟨w3.heap.size + 1, 0, none⟩ 1 1 [.int .i64 pos, .int .i64 N, .int .i64 C] rfl rfl (cells_new2 _ _ _ _) (uCells_one (pos, N, C)) (by unfold maxLen; omega) (by omega) (by have := hb3.size; have := HI.out.2.2.2.2.2; simp; omega) ?_; intro v' w4 hown4 hgrow4 _; have m1 := hgrow4.cell (a := ⟨w3.heap.size, 1, none⟩) (v := .int .i64 N) (by simp) HNE.out)
      have hst := Lib.hid (HI.out.step hp HN.out HC.out (((hb3.alloc hb3.size _).alloc (by have := hb3.size; simp; omega) _)) hown4 hgrow4)
      clear hown4 hgrow4 hb3
      go_roundw
      case rel => exact ⟨pos + N, _, by go_num, hst.out⟩
      case measure => simp [RowKit.intOf]; omega
    · go_wp2
      go_ret
      obtain ⟨h1, h3, h4, h5, h6, h7⟩ := HI.out
      have h0 : s.data.toList.drop pos = [] := List.drop_eq_nil_of_le (by rw [← Lib.size_eq]; omega)
      rw [h0, units_nil, List.append_nil] at h3
      exact ⟨_, rfl, by rw [h3]; exact h5, h6⟩
end Go.Proofs.YtfhoffdgbkoffaaDoor
