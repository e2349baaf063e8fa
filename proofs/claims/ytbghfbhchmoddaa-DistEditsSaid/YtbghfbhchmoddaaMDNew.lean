/- newTable by contract. -/
import Derived.Test.YtbghfbhchmoddaaMDRow
import Derived.Laws.MakeOwn
import Derived.Deep.OwnRows
import Derived.Deep.DeepCutAuto
namespace Go.Proofs.Ytbghfbhchmoddaa
open Go Go.RowKit Go.Lib

theorem made0 (M : Nat) : madeCells #[Value.int .i64 0] M = ((List.replicate M (0 : Int)).map (Value.int .i64)).toArray := by
  apply Array.ext
  · simp [madeCells]
  · intro i h1 h2
    simp [madeCells, Nat.mod_one]
theorem Try.infosZ3 : (Try.prog.info? 3).map (fun i => (i.zero, i.size, i.bytes)) = some (some (.int .i64 0), 1, 8) := by kernel_rfl
/-- A made row of numbers. -/
theorem make_nums (M : Nat) (hM : M ≤ 1000000000) (wx : World) : (Instr.makeSlice 22 (.int .i64 (M : Int)) (.int .i64 (M : Int))).run Try.prog wx = .ok (.slice (some ⟨wx.heap.size, 0, none⟩) M M) (wx.alloc (.cells ((List.replicate M (0 : Int)).map (Value.int .i64)).toArray 3)) := by
  rw [← made0]
  exact run_make_row' 22 3 (.int .i64 0) 8 Try.underlying22 Try.infosZ3 rfl .i64 .i64 M (by omega) (by omega) wx
def slN (p j n : Nat) (m i : Nat) : Value := if i < j then .slice (some ⟨p + 1 + i, 0, none⟩) (m + 1) (m + 1) else .slice none 0 n
/-- j rows of the table are made. -/
structure NewS (w wr : World) (p : Nat) (va vb : Value) (B m j : Nat) : Prop where
  box : wr.heap[p]? = some (.cells #[va, vb, .int .i64 B, slN p j 0 m 0, slN p j 0 m 1, slN p j 0 m 2] 40 (0, 0))
  rows : ∀ i, i < j → NRow (p + 1 + i) (List.replicate (m + 1) 0) wr
  size : wr.heap.size = p + 1 + j
  below : Below p w wr
theorem NewS.cell {w wr : World} {p : Nat} {va vb : Value} {B m j : Nat} (h : NewS w wr p va vb B m j) (i : Nat) (hi : i < 3) : wr.cell? ⟨p, 3 + i, none⟩ = some (slN p j 0 m i) ∧ wr.frozen? ⟨p, 3 + i, none⟩ = false := by
  refine ⟨(cell_of_row _ p _ _ _ (0, 0) h.box).trans ?_, frozen_of_row _ p _ _ _ h.box⟩
  rcases show i = 0 ∨ i = 1 ∨ i = 2 by omega with e | e | e <;> rw [e] <;> rfl
theorem NewS.drewN {w wr : World} {p : Nat} {va vb : Value} {B m j : Nat} (h : NewS w wr p va vb B m j) (n : Nat) : NewS w (wr.drewN n) p va vb B m j :=
  ⟨h.box, h.rows, h.size, h.below.trans ⟨rfl, rfl, rfl, Nat.le_refl _, fun _ _ => rfl⟩⟩
theorem NewS.more {w wr : World} {p : Nat} {va vb : Value} {B m j : Nat} (h : NewS w wr p va vb B m j) (hj : j < 3) :
    NewS w (((wr.setCell ⟨p, 3 + j, none⟩ (.slice (some ⟨wr.heap.size, 0, none⟩) (m + 1) (m + 1))).alloc (.cells ((List.replicate (m + 1) (0 : Int)).map (Value.int .i64)).toArray 3)).drew) p va vb B m (j + 1) := by
  have hp : p < wr.heap.size := by rw [h.size]; omega
  have hs : ∀ v, (wr.setCell ⟨p, 3 + j, none⟩ v).heap.size = wr.heap.size := fun v => by simp [World.setCell]
  refine ⟨?_, fun i hi => ?_, ?_, ?_⟩
  · refine (Below.heap_alloc _ _ p (by rw [hs]; exact hp)).trans ?_
    rw [heap_setCell_same _ p (3 + j) _ _ _ h.box, h.size]
    rcases show j = 0 ∨ j = 1 ∨ j = 2 by omega with rfl | rfl | rfl <;> rfl
  · by_cases he : i = j
    · subst he
      have := heap_alloc_new (wr.setCell ⟨p, 3 + i, none⟩ (.slice (some ⟨wr.heap.size, 0, none⟩) (m + 1) (m + 1))) (.cells ((List.replicate (m + 1) (0 : Int)).map (Value.int .i64)).toArray 3)
      rw [hs, h.size] at this
      rw [h.size]
      exact this
    · refine (Below.heap_alloc _ _ _ (by rw [hs, h.size]; omega)).trans ?_
      exact (heap_setCell_other wr _ _ _ (by show p + 1 + i ≠ p; omega)).trans (h.rows i (by omega))
  · show ((wr.setCell _ _).alloc _).heap.size = _
    simp [hs, h.size]; omega
  · exact ((h.below.setCell (p := ⟨p, 3 + j, none⟩) (Nat.le_refl p) _).alloc (by rw [hs]; omega) _).drew
theorem news0 (w : World) (p : Nat) (va vb : Value) (x : Int) (B m : Nat) (hp : p = w.heap.size) (hx : x = B) : NewS w (w.alloc (.cells #[va, vb, .int .i64 x, .slice none 0 0, .slice none 0 0, .slice none 0 0] 40)) p va vb B m 0 := by
  subst hp hx
  exact ⟨heap_alloc_new w _, fun i hi => absurd hi (Nat.not_lt_zero i), by simp, (Below.refl _ _).alloc (Nat.le_refl _) _⟩
set_option maxRecDepth 100000 in
set_option maxHeartbeats 4000000 in
theorem new_any (w : World) (la lb : List Int) (va vb : Value) (most : Int) (B p : Nat) (ha : IntsAt w va la) (hb : IntsAt w vb lb) (hp : p = w.heap.size) (nb : lb.length ≤ 1000) (hB : min most (max (la.length : Int) lb.length) = B) :
    Calls Try.prog 13 #[va, vb, .int .i64 most] w fun e w' => e = .returned (.pointer (some ⟨p, 0, none⟩)) ∧ NewS w w' p va vb B lb.length 3 := by
  obtain ⟨A, cap, rfl⟩ := ints_form ha
  obtain ⟨A', cap', rfl⟩ := ints_form hb
  obtain ⟨n, hn⟩ : ∃ n, n = la.length := ⟨_, rfl⟩
  obtain ⟨m, hm⟩ : ∃ m, m = lb.length := ⟨_, rfl⟩
  rw [← hn] at ha hB ⊢
  rw [← hm] at hb hB nb ⊢
  have wm : IntKind.i64.wrap ((m : Int) + 1) = ((m + 1 : Nat) : Int) := by rw [IntWalk.i64_in _ (by omega)]; omega
  have hmk := make_nums (m + 1) (by omega)
  obtain ⟨M, hM⟩ : ∃ M, M = m + 1 := ⟨_, rfl⟩
  rw [← hM] at wm hmk
  obtain ⟨CS, hCS⟩ : ∃ CS, CS = ((List.replicate M (0 : Int)).map (Value.int .i64)).toArray := ⟨_, rfl⟩
  rw [← hCS] at hmk
  have HCS := Lib.hid hCS
  clear hCS
  have HM := Lib.hid hM
  clear hM ha hb hn hm
  go_enter Try.func13, Try.ntmps13
  go_upto_region 1 with fail
  go_cut [7] (fun a wx => a = .pointer (some ⟨p, 0, none⟩) ∧ Hid (NewS w wx p (.slice A n cap) (.slice A' m cap') B m 0))
  case first =>
    go_wp2_with fail
    all_goals go_meet
    all_goals exact ⟨by rw [hp], Lib.hid (news0 w p _ _ _ B m hp (by omega))⟩
  case rest =>
  obtain ⟨rfl, H0⟩ := hcut
  have HPE := Lib.hid hp
  clear hB hp
  go_wp2_with fail
  go_loopg [20] 3 (fun g i wr => ∃ j : Nat, j + g = 3 ∧ i = .int .i64 j ∧ Hid (NewS w wr p (.slice A n cap) (.slice A' m cap') B m j))
  case atStart => exact ⟨0, by omega, rfl, H0⟩
  case round =>
    obtain ⟨j, hj, rfl, HP⟩ := hrel
    by_cases hlt : j < 3
    · have e1 : (j : Int) < 3 := by omega
      have e0 : (0 : Int) ≤ j := by omega
      have wj : IntKind.i64.wrap ((j : Int) + 1) = ((j + 1 : Nat) : Int) := by rw [IntWalk.i64_in _ (by omega)]; omega
      obtain ⟨c0, f0⟩ := HP.out.cell j hlt
      obtain ⟨o, ho⟩ : ∃ o, o = slN p j 0 m j := ⟨_, rfl⟩
      rw [← ho] at c0
      obtain ⟨u, hu⟩ : ∃ u, u = wr.heap.size := ⟨_, rfl⟩
      have HU := Lib.hid (show wr.heap.size = p + 1 + j from HP.out.size)
      have HP1 := Lib.hid (HP.out.more hlt)
      rw [← HM.out, ← HCS.out] at HP1
      have hpu : p < wr.heap.size := by rw [HU.out]; omega
      have c1 : (wr.alloc (.cells CS 3)).cell? ⟨p, 3 + j, none⟩ = some o := (World.cell?_of_block (w := wr) (a := ⟨p, 3 + j, none⟩) (Below.heap_alloc wr _ p hpu)).trans c0
      have f1 : (wr.alloc (.cells CS 3)).frozen? ⟨p, 3 + j, none⟩ = false := (World.frozen?_of_block (w := wr) (a := ⟨p, 3 + j, none⟩) (Below.heap_alloc wr _ p hpu)).trans f0
      clear hu ho
      go_upto_region 5 with fail
      go_region
      go_wp2_with fail
      go_roundg (gk - 1)
      case measure => omega
      case rel => exact ⟨j + 1, by omega, by go_num, HP1⟩
    · have e1 : ¬ (j : Int) < 3 := by omega
      obtain rfl : j = 3 := by omega
      go_wp2_with fail
      go_ret
      exact ⟨rfl, HP.out⟩
end Go.Proofs.Ytbghfbhchmoddaa
