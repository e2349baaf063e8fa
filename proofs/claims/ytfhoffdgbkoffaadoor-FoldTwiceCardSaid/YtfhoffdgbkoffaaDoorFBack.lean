/- slices.Backward over pairs: an iterator from the last one to the first, by its contract. -/
import Derived.Test.YtfhoffdgbkoffaaDoorSGives
import Derived.Test.YtfhoffdgbkoffaaDoorVLaws
import Derived.Test.YtfhoffdgbkoffaaDoorFPlain
import Derived.RangeFuncBox
import Derived.Shelf.Abstract
import Derived.Shelf.RegionOpen
import Derived.OwnWalkIn
import Derived.TacticsInMore
import Derived.LoopNIn
import Derived.LoopIn
namespace Go.Proofs.YtfhoffdgbkoffaaDoor
open Go Go.RowKit Go.Lib Go.Shelf
attribute [local go_sem] Oper.semAt_some alloc_set

/-- Pairs with their places, the last one first. -/
def downE (ps : List (Int × Int)) : Nat → List (Nat × (Int × Int))
  | 0 => []
  | k + 1 => (k, ps.getD k (0, 0)) :: downE ps k
def pEnc (x : Nat × (Int × Int)) : Array Value := #[.int .i64 x.1, .agg #[.int .i64 x.2.1, .int .i64 x.2.2]]
theorem fpairs_open {w : World} {A : Option Addr} {n cap : Nat} {ps : List (Int × Int)} (h : PairsAt w (.slice A n cap) ps) : ∀ (k : Nat) p, ps[k]? = some p → ∃ b off, A = some ⟨b, off, none⟩ ∧ b < w.heap.size ∧ n ≤ cap ∧ w.cell? ⟨b, off + k * 2, none⟩ = some (.int .i64 p.1) ∧ w.cell? ⟨b, off + k * 2 + 1, none⟩ = some (.int .i64 p.2) := by
  intro k e hk
  rcases h with ⟨rfl, _⟩ | ⟨b, off, c, e', h1, h2, h3, h4⟩
  · simp at hk
  · injection e' with e1 e2 e3
    subst e1 e2 e3
    exact ⟨b, off, rfl, h1, h2, h4 k e hk⟩
theorem pairs_form {w : World} {v : Value} {ps : List (Int × Int)} (h : PairsAt w v ps) : ∃ A cap, v = .slice A ps.length cap := by
  rcases h with ⟨rfl, a, c, e⟩ | ⟨b, off, c, e, _⟩
  · exact ⟨a, c, e⟩
  · exact ⟨_, c, e⟩
theorem cell_blk {w w' : World} {b : Nat} (h : w'.heap[b]? = w.heap[b]?) (o : Nat) : w'.cell? ⟨b, o, none⟩ = w.cell? ⟨b, o, none⟩ := by
  unfold World.cell?
  dsimp only
  rw [h]

set_option maxRecDepth 100000 in
set_option maxHeartbeats 2000000 in
theorem back_gives (A : Option Addr) (cap : Nat) (ps : List (Int × Int)) (hlen : ps.length ≤ 1000000) (B : Nat) (R : Nat → Prop) (W : World) (hB : Boxed W B 24 (.slice A ps.length cap)) (hP : PairsAt W (.slice A ps.length cap) ps) (hRB : R B) (hRA : ∀ b off, ps ≠ [] → A = some ⟨b, off, none⟩ → R b) :
    Gives Tryd.prog 38 #[.pointer (some ⟨B, 0, none⟩)] pEnc (downE ps ps.length) R W := by
  intro l J hJ hY hJ0
  have HO := Lib.hid (fpairs_open hP)
  have HP := Lib.hid hP
  have HR := Lib.hid (And.intro hRB hRA)
  obtain ⟨n, hn⟩ : ∃ n, n = ps.length := ⟨_, rfl⟩
  rw [← hn] at hB hlen HO ⊢
  have HN := Lib.hid hn
  have hcell := hB.cell
  have HB := Lib.hid hB
  have HY := Lib.hid hY
  rw [← hn] at HY
  have HJ := Lib.hid hJ
  have HJ0 := Lib.hid hJ0
  clear hB hP hRB hRA hn hY hJ hJ0
  refine (callsIn_wide (n := 1)).1 ?_
  refine callsIn_of_wp Tryd.func38 rfl trivial ?_ rfl
  simp only [Tryd.ntmps38, List.size_toArray, List.length_cons, List.length_nil, Nat.reduceAdd, Nat.reduceSub, Array.replicate_succ, Array.replicate_zero, List.push_toArray, List.append_toArray, List.nil_append, List.cons_append]
  gi_wp2
  gi_loopw [3] (fun v wr => ∃ (k : Nat) (i : Int) (pre : List (Nat × (Int × Int))) (T : Nat → Prop), v = .int .i64 i ∧ k ≤ n ∧ Hid (i = (k : Int) - 1 ∧ downE ps n = pre ++ downE ps k ∧ J T pre wr ∧ KeepsAt R W wr))
    (fun v _ => (RowKit.intOf v + 1).toNat)
  case atStart => exact ⟨n, _, [], _, rfl, Nat.le_refl _, Lib.hid ⟨by go_num, by simp, HJ0.out, KeepsAt.refl _ _⟩⟩
  case round =>
    obtain ⟨k, i, pre, T, rfl, hkn, HQ⟩ := hrel
    clear hcell
    have hbk := HQ.out.2.2.2.block B HB.out.lt HR.out.1
    have hcell : wr.cell? ⟨B, 0, none⟩ = some (.slice A n cap) := (cell_blk hbk 0).trans HB.out.cell
    clear hbk
    rcases k with _ | m
    · obtain rfl : i = -1 := by have := HQ.out.1; omega
      gi_wp2
      go_end0
      refine ⟨⟨_, rfl⟩, T, ?_⟩
      have h := HQ.out.2.1
      rw [show downE ps 0 = [] from rfl, List.append_nil] at h
      rw [h]
      exact HQ.out.2.2.1
    · obtain rfl : i = (m : Int) := by have := HQ.out.1; omega
      obtain ⟨p, hp⟩ : ∃ p, ps[m]? = some p := ⟨ps[m]'(by have := HN.out; omega), List.getElem?_eq_getElem _⟩
      have hpg : ps.getD m (0, 0) = p := by simp [List.getD, hp]
      obtain ⟨b, off, rfl, hbw, hnc, c0, c1⟩ := HO.out m p hp
      have hbb := HQ.out.2.2.2.block b hbw (HR.out.2 b off (by rintro rfl; simp at hp) rfl)
      have d0 := (cell_blk hbb (off + m * 2)).trans c0
      have d1 := (cell_blk hbb (off + m * 2 + 1)).trans c1
      have hx : downE ps n = (pre ++ [(m, p)]) ++ downE ps m := by
        rw [HQ.out.2.1, show downE ps (m + 1) = (m, ps.getD m (0, 0)) :: downE ps m from rfl, hpg]
        simp
      have HX := Lib.hid hx
      obtain ⟨fn, tmps, assign, body, hy, hR⟩ := HY.out T pre (m, p) wr ⟨_, hx.symm⟩ HQ.out.2.2.1
      simp only [pEnc] at hy
      have HRR := Lib.hid hR
      clear hR hx hpg hp c0 c1 hbb
      gi_wp2
      refine HRR.out.mono ?_
      rintro e w3 ⟨rfl, hj3, hk3⟩
      have HK := Lib.hid (show downE ps n = (pre ++ [(m, p)]) ++ downE ps m ∧ J T (pre ++ [(m, p)]) w3 ∧ KeepsAt R W w3 from ⟨HX.out, hj3, HQ.out.2.2.2.trans (hk3.mono fun k hk => .inl hk)⟩)
      clear hj3 hk3
      gi_wp2
      go_roundw
      case rel => exact ⟨m, (m : Int) - 1, _, T, by go_num, by omega, Lib.hid ⟨rfl, HK.out⟩⟩
      case measure => dsimp only [RowKit.intOf]; omega
end Go.Proofs.YtfhoffdgbkoffaaDoor
