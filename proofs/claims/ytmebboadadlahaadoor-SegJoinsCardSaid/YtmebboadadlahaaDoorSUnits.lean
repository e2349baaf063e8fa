/- seg.units: an iterator over a text's units, by its contract. -/
import Derived.Test.YtmebboadadlahaaDoorSGives
import Derived.Test.YtmebboadadlahaaDoorSAt
import Derived.Shelf.Abstract
import Derived.Shelf.RegionOpen
import Derived.OwnWalkIn
import Derived.TacticsInMore
import Derived.LoopNIn
import Derived.LoopIn
namespace Go.Proofs.YtmebboadadlahaaDoor
open Go Go.RowKit Go.Lib Go.Shelf
attribute [local go_sem] Oper.semAt_some alloc_set

def uEnc (u : U3) : Array Value := #[.agg #[.int .i64 u.1, .int .i64 u.2.1, .int .i64 u.2.2]]

set_option maxRecDepth 100000 in
set_option maxHeartbeats 2000000 in
theorem units_gives (s : ByteArray) (hs : s.size ≤ 1000000000000) (B : Nat) (R : Nat → Prop) (W : World) (hB : Boxed W B 9 (.string s)) (hT : Lib.Utf8Tabs 0 1 W) (h0 : R 0) (h1 : R 1) (hRB : R B) :
    Gives Tryd.prog 32 #[.pointer (some ⟨B, 0, none⟩)] uEnc (units 0 s.data.toList) R W := by
  intro l J hJ hY hJ0
  refine (callsIn_wide (n := 1)).1 ?_
  refine callsIn_of_wp Tryd.func32 rfl trivial ?_ rfl
  simp only [Tryd.ntmps32, List.size_toArray, List.length_cons, List.length_nil, Nat.reduceAdd, Nat.reduceSub, Array.replicate_succ, Array.replicate_zero, List.push_toArray, List.append_toArray, List.nil_append, List.cons_append]
  gi_wp2
  gi_loopw [3] (fun v wr => ∃ (pos : Nat) (us : List U3) (T : Nat → Prop), v = .int .i64 pos ∧ pos ≤ s.size ∧ units 0 s.data.toList = us ++ units pos (s.data.toList.drop pos) ∧ J T us wr ∧ Boxed wr B 9 (.string s) ∧ Lib.Utf8Tabs 0 1 wr)
    (fun v _ => s.size - (RowKit.intOf v).toNat)
  case atStart => exact ⟨0, [], _, rfl, Nat.zero_le _, by simp, hJ0, hB, hT⟩
  case round =>
    obtain ⟨pos, us, T, rfl, hps, hun, hj, hbs, htab⟩ := hrel
    by_cases hp : pos < s.size
    · have hne : s.data.toList.drop pos ≠ [] := by
        intro h0
        have := congrArg List.length h0
        rw [List.length_drop, ← Lib.size_eq] at this
        simp at this; omega
      have hle := decodeL_le _ hne
      have hw := decodeL_width (s.data.toList.drop pos)
      rw [List.length_drop, ← Lib.size_eq] at hle
      obtain ⟨N, hN⟩ : ∃ N, N = (decodeL (s.data.toList.drop pos)).2 := ⟨_, rfl⟩
      obtain ⟨C, hC⟩ : ∃ C, C = uCode (s.data.toList.drop pos) := ⟨_, rfl⟩
      have hun2 : units 0 s.data.toList = (us ++ [(pos, N, C)]) ++ units (pos + N) (s.data.toList.drop (pos + N)) := by
        rw [hun, units_step pos _ hne, ← hN, ← hC, List.drop_drop]
        simp
      have cA := at_some s pos wr hp (by omega) htab
      rw [uVal, ← hN, ← hC] at cA
      rw [← hN] at hle hw
      have hbl := hbs.lt
      have hcell := hbs.cell
      have CA := Lib.hid cA
      have HU := Lib.hid hun2
      have HJ := Lib.hid hJ
      have HY := Lib.hid hY
      have HTB := Lib.hid htab
      have HBS := Lib.hid hbs
      have Hj := Lib.hid hj
      clear cA hun2 hun hN hC hJ hY hB hT hJ0 htab hbs hj hne
      have step : ∀ w1, Below wr.heap.size wr w1 → OnlyAt T wr (w1.alloc (.cells #[.int .i64 pos, .int .i64 N, .int .i64 C] 39)) ∧ J (fun k => k = w1.heap.size) us (w1.alloc (.cells #[.int .i64 pos, .int .i64 N, .int .i64 C] 39)) := by
        intro w1 hb1
        have ho : OnlyAt T wr (w1.alloc (.cells #[.int .i64 pos, .int .i64 N, .int .i64 C] 39)) := (OnlyAt.of_below hb1).trans (OnlyAt.alloc _ _ _)
        refine ⟨ho, HJ.out _ _ _ _ _ Hj.out ho ?_⟩
        rintro k rfl
        exact .inr ⟨hb1.size, by simp⟩
      have ST := Lib.hid step
      clear step
      gi_wp2_with (refine ⟨trivial, ?_⟩; gi_at_call 33; refine (callsIn_wide.2 CA.out).mono ?_; rintro e w1 ⟨rfl, hb1⟩; obtain ⟨fn, tmps, assign, body, hy, hR⟩ := HY.out _ us (pos, N, C) _ ⟨_, HU.out.symm⟩ (ST.out _ hb1).2; simp only [uEnc] at hy; have HR := Lib.hid hR; clear hR)
      refine HR.out.mono ?_
      rintro e w3 ⟨rfl, hj3, hk3⟩
      have hbl2 := hb1.size
      have hbx : Boxed w3 B 9 (.string s) := by
        refine (hk3.block B (by simp; omega) (.inl hRB)).trans ?_
        refine (Below.heap_alloc _ _ _ (by omega)).trans ((hb1.block B hbl).trans HBS.out)
      have hub : w3.heap[w1.heap.size]? = some (.cells #[.int .i64 pos, .int .i64 N, .int .i64 C] 39) :=
        (hk3.block _ (by simp) (.inr rfl)).trans (World.alloc_heap_new _ _)
      have htl := tabs_lt HTB.out
      have htb : Lib.Utf8Tabs 0 1 w3 := tabs_kept HTB.out
        ((hk3.block 0 (by simp) (.inl h0)).trans ((Below.heap_alloc _ _ _ (by omega)).trans (hb1.block 0 (by omega))))
        ((hk3.block 1 (by simp; omega) (.inl h1)).trans ((Below.heap_alloc _ _ _ (by omega)).trans (hb1.block 1 (by omega))))
      have hc1 : w3.cell? ⟨w1.heap.size, 1, none⟩ = some (.int .i64 N) := by simp [World.cell?, hub]
      have HB3 := Lib.hid hbx
      have HT3 := Lib.hid htb
      have HJ3 := Lib.hid hj3
      have HW := Lib.hid (show pos + N ≤ s.size by omega)
      clear hbx htb hj3 hk3 hub htl
      gi_wp2
      go_roundw
      case rel => exact ⟨pos + N, us ++ [(pos, N, C)], _, by simp, HW.out, HU.out, HJ3.out, HB3.out, HT3.out⟩
      case measure => dsimp only [RowKit.intOf]; omega
    · have hl0 : s.data.toList.drop pos = [] := List.drop_eq_nil_of_le (by rw [← Lib.size_eq]; omega)
      rw [hl0, units_nil, List.append_nil] at hun
      have hcell := hbs.cell
      have HU := Lib.hid hun
      have Hj := Lib.hid hj
      clear hJ hY hB hT hJ0 htab hbs hj hun hl0
      gi_wp2
      go_end0
      exact ⟨⟨_, rfl⟩, _, by rw [HU.out]; exact Hj.out⟩
end Go.Proofs.YtmebboadadlahaaDoor
