/- The laws' own flat text, by contract. -/
import Derived.Test.YtjpomfjcofjanaaCLawFull
import Derived.BigRegion
namespace Go.Proofs.Ytjpomfjcofjanaa
open Go Go.RowKit

/-- The law's flat text. -/
def MAt (w : World) (mb : Nat) (s : ByteArray) (m : Nat) : Prop := w.heap[mb]? = some (.cells #[.string s, .int .i64 m] /-t-/30 (0, 0))
theorem MAt.cells {w : World} {mb : Nat} {s : ByteArray} {m : Nat} (h : MAt w mb s m) : w.cell? ⟨mb, 0, none⟩ = some (.string s) ∧ w.cell? ⟨mb, 1, none⟩ = some (.int .i64 m) := by
  unfold MAt at h
  simp [World.cell?, h]
theorem MAt.free {w : World} {mb : Nat} {s : ByteArray} {m : Nat} (h : MAt w mb s m) (o : Nat) : w.frozen? ⟨mb, o, none⟩ = false := by
  unfold MAt at h
  simp [World.frozen?, h]
theorem MAt.lt {w : World} {mb : Nat} {s : ByteArray} {m : Nat} (h : MAt w mb s m) : mb < w.heap.size := (Array.getElem?_eq_some_iff.1 h).1
theorem MAt.set {w : World} {mb : Nat} {s : ByteArray} {m : Nat} (h : MAt w mb s m) (t : ByteArray) : MAt (w.setCell ⟨mb, 0, none⟩ (.string t)).drew mb t m := by
  unfold MAt at h ⊢
  show (w.setCell ⟨mb, 0, none⟩ (.string t)).heap[mb]? = _
  simp only [World.setCell, Array.getElem?_modify, h]
  simp
theorem MAt.keep {w w' : World} {mb : Nat} {s : ByteArray} {m : Nat} {T : Nat → Prop} (h : MAt w mb s m) (hk : KeepsAt T w w') (hT : T mb) : MAt w' mb s m := (hk.block mb h.lt hT).trans h
theorem only1 (w : World) (p : Addr) (v : Value) : OnlyAt (fun k => k = p.block) w (w.setCell p v) := OnlyAt.setCell _ _ _ rfl

set_option maxRecDepth 100000 in
theorem in_any (s : ByteArray) (k n : Int) (w : World) (hs : s.size ≤ 1000000) (b3 : -9223372036854775808 ≤ n) (b4 : n ≤ 9223372036854775807) :
    Calls Try.prog 25 #[.string s, .int .i64 k, .int .i64 n] w fun e w' => e = .returned (.bool (decide (isIn s k n))) ∧ w = w' := by
  have s3 : (s.size : Int) ≤ 1000000 := by omega
  have s0 : (0 : Int) ≤ s.size := by omega
  obtain ⟨d, hd⟩ : ∃ d, d = decide (isIn s k n) := ⟨_, rfl⟩
  rw [← hd]
  by_cases h0 : 0 ≤ k
  · by_cases h2 : 0 ≤ n
    · by_cases h1 : k ≤ s.size
      · have hdd : d = decide (n ≤ (s.size : Int) - k) := by rw [hd]; simp only [isIn, h0, h2, h1, true_and]
        have HD := Lib.hid hdd
        clear hd hdd hs b3 b4
        go_enter Try.func25, Try.ntmps25
        go_wp2_with fail
        go_ret
        exact ⟨ret_bool HD.out.symm, rfl⟩
      · have hdd : d = false := by rw [hd]; simp only [isIn, h1, false_and, and_false, decide_false]
        have HD := Lib.hid hdd
        have h1' : (s.size : Int) < k := by omega
        clear hd hdd hs b3 b4 h1
        go_enter Try.func25, Try.ntmps25
        go_wp2_with fail
        go_ret
        exact ⟨ret_bool HD.out.symm, rfl⟩
    · have hdd : d = false := by rw [hd]; simp only [isIn, h2, false_and, and_false, decide_false]
      have HD := Lib.hid hdd
      have h2' : n < 0 := by omega
      clear hd hdd hs b3 b4 h2
      go_enter Try.func25, Try.ntmps25
      go_wp2_with fail
      go_ret
      exact ⟨ret_bool HD.out.symm, rfl⟩
  · have hdd : d = false := by rw [hd]; simp only [isIn, h0, false_and, decide_false]
    have HD := Lib.hid hdd
    have h0' : k < 0 := by omega
    clear hd hdd hs b3 b4 h0
    go_enter Try.func25, Try.ntmps25
    go_wp2_with fail
    go_ret
    exact ⟨ret_bool HD.out.symm, rfl⟩

set_option maxRecDepth 100000 in
set_option maxHeartbeats 4000000 in
theorem minsert_any {w : World} {mb : Nat} {s : ByteArray} {m : Nat} (h : MAt w mb s m) (k : Int) (t : ByteArray) (hs : s.size ≤ 65536) (hm : m ≤ 65536) (ht : t.size ≤ 1000000) :
    Calls Try.prog 23 #[.pointer (some ⟨mb, 0, none⟩), .int .i64 k, .string t] w fun e w' => e = .returned (.int .i64 (insE s m k t)) ∧ MAt w' mb (insS s m k t) m ∧ OnlyAt (fun z => z = mb) w w' := by
  obtain ⟨c0, c1⟩ := h.cells
  have f0 := h.free 0
  have HM := Lib.hid h
  have s3 : (s.size : Int) ≤ 65536 := by omega
  have t3 : (t.size : Int) ≤ 1000000 := by omega
  by_cases h0 : k < 0
  · have hi : insE s m k t = 2 := by rw [insE, if_pos (by omega)]
    rw [insS, hi, if_neg (by omega)]
    clear h hs hm ht hi f0 c1
    go_enter Try.func23, Try.ntmps23
    go_wp2_with fail
    go_ret
    exact ⟨rfl, HM.out, OnlyAt.refl _ _⟩
  · by_cases h1 : (s.size : Int) < k
    · have hi : insE s m k t = 2 := by rw [insE, if_pos (by omega)]
      rw [insS, hi, if_neg (by omega)]
      have h0' : 0 ≤ k := by omega
      clear h hs hm ht hi h0 f0 c1
      go_enter Try.func23, Try.ntmps23
      go_wp2_with fail
      go_ret
      exact ⟨rfl, HM.out, OnlyAt.refl _ _⟩
    · obtain ⟨q, rfl⟩ : ∃ q : Nat, k = q := ⟨k.toNat, by omega⟩
      have q0 : (0 : Int) ≤ q := by omega
      have q1 : (q : Int) ≤ s.size := by omega
      by_cases h2 : m < s.size + t.size
      · have hi : insE s m q t = 3 := by rw [insE, if_neg (by omega), if_pos h2]
        rw [insS, hi, if_neg (by omega)]
        have g : (m : Int) < (s.size : Int) + t.size := by omega
        clear h hs hm ht hi h0 h1 h2 f0
        go_enter Try.func23, Try.ntmps23
        go_wp2_with fail
        go_region
        go_wp2_with fail
        go_ret
        exact ⟨rfl, HM.out.keep (T := fun _ => True) ⟨Nat.le_refl _, fun _ _ _ => rfl⟩ trivial, OnlyAt.drew _ _⟩
      · have hi : insE s m q t = 0 := by rw [insE, if_neg (by omega), if_neg h2]
        rw [insS, hi, if_pos rfl]
        have g : (s.size : Int) + t.size ≤ m := by omega
        have hN1 : ¬ 9223372036854775807 < min q s.size + t.size := by omega
        have hN2 : ¬ 9223372036854775807 < min q s.size + t.size + (s.size - q) := by omega
        clear h hs hm ht hi h0 h1 h2
        go_enter Try.func23, Try.ntmps23
        go_wp2_with fail
        go_region
        go_wp2_with fail
        go_region
        go_wp2_with fail
        go_ret
        exact ⟨rfl, (HM.out.set _).keep (T := fun _ => True) ⟨Nat.le_refl _, fun _ _ _ => rfl⟩ trivial, ((only1 w ⟨mb, 0, none⟩ _).trans (OnlyAt.drew _ _)).trans (OnlyAt.drew _ _)⟩

set_option maxRecDepth 100000 in
set_option maxHeartbeats 4000000 in
theorem mremove_any {w : World} {mb : Nat} {s : ByteArray} {m : Nat} (h : MAt w mb s m) (k n : Int) (hs : s.size ≤ 65536) (b3 : -9223372036854775808 ≤ n) (b4 : n ≤ 9223372036854775807) :
    Calls Try.prog 24 #[.pointer (some ⟨mb, 0, none⟩), .int .i64 k, .int .i64 n] w fun e w' => e = .returned (.int .i64 (delE s k n)) ∧ MAt w' mb (delS s k n) m ∧ OnlyAt (fun z => z = mb) w w' := by
  obtain ⟨c0, c1⟩ := h.cells
  have f0 := h.free 0
  have HM := Lib.hid h
  have CI := Lib.hid (fun wx => in_any s k n wx (by omega) b3 b4)
  by_cases hi : isIn s k n
  · have e : decide (isIn s k n) = true := decide_eq_true hi
    rw [e] at CI
    rw [delE, if_pos hi, delS, if_pos hi]
    obtain ⟨i1, i2, i3, i4⟩ := hi
    obtain ⟨q, rfl⟩ : ∃ q : Nat, k = q := ⟨k.toNat, by omega⟩
    obtain ⟨z, rfl⟩ : ∃ z : Nat, n = z := ⟨n.toNat, by omega⟩
    have q3 : (q : Int) + z ≤ s.size := by omega
    have q4 : (0 : Int) ≤ (q : Int) + z := by omega
    have s3 : (s.size : Int) ≤ 65536 := by omega
    have hw : IntKind.i64.wrap ((q : Int) + z) = (q : Int) + z := IntWalk.i64_in _ (by omega)
    have hN : ¬ 9223372036854775807 < min q s.size + (s.size - ((q : Int) + z).toNat) := by omega
    clear h hs b3 b4 e c1
    go_enter Try.func24, Try.ntmps24
    go_wp2_with fail
    refine (CI.out _).mono ?_
    rintro e w1 ⟨rfl, rfl⟩
    go_wp2_with fail
    go_region
    go_wp2_with fail
    go_ret
    exact ⟨rfl, HM.out.set _, (only1 w ⟨mb, 0, none⟩ _).trans (OnlyAt.drew _ _)⟩
  · have e : decide (isIn s k n) = false := decide_eq_false hi
    rw [e] at CI
    rw [delE, if_neg hi, delS, if_neg hi]
    clear h hs b3 b4 e hi f0 c1
    go_enter Try.func24, Try.ntmps24
    go_wp2_with fail
    refine (CI.out _).mono ?_
    rintro e w1 ⟨rfl, rfl⟩
    go_wp2_with fail
    go_ret
    exact ⟨rfl, HM.out, OnlyAt.refl _ _⟩
end Go.Proofs.Ytjpomfjcofjanaa
