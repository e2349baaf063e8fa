/- edit.Do and edit.Undo by contract, out of what is asked of a buffer's calls. -/
import Derived.Test.YtfdnlbeancdajaaEChange
namespace Go.Proofs.Ytfdnlbeancdajaa
open Go Go.RowKit
section
variable {R : Nat → (Nat → Prop) → World → Addr → ByteArray → Nat → Nat → Nat → Prop} {u : Nat}

set_option maxRecDepth 100000 in
set_option maxHeartbeats 1000000 in
theorem do_place (U : SaysU R) (F : Nat → Prop) (w : World) (a : Addr) (s : ByteArray) (m p h : Nat) (k n : Int) (t : ByteArray) (hr : R u F w a s m p h) (hi : ¬ isIn s k n) (k1 : -9223372036854775808 ≤ k) (k2 : k ≤ 9223372036854775807) (n1 : -9223372036854775808 ≤ n) (n2 : n ≤ 9223372036854775807) :
    Calls Try.prog 14 #[.pointer (some a), .int .i64 k, .int .i64 n, .string t] w fun e w' => e = .returned (.tuple #[EdV 0 ⟨#[]⟩ ⟨#[]⟩, .int .i64 2]) ∧ Goes (R u) F w w' a s m (fun _ _ => True) := by
  have H1 := Lib.hid ((Mid.begin hr).add U (.cells #[.int .i64 0, .string ⟨#[]⟩, .string ⟨#[]⟩] /-t-/23))
  have HX := Lib.hid (Box.new w 0 ⟨#[]⟩ ⟨#[]⟩)
  have CS := Lib.hid (H1.out.call (fun F' p hh hr => found_no U F' _ a s m p hh k n t hr hi k1 k2 n1 n2))
  have HU := Lib.hid U
  simp only [EdV] at CS ⊢
  clear hr hi k1 k2 n1 n2 U
  go_enter Try.func14, Try.ntmps14
  go_wp2_with fail
  refine CS.out.mono ?_
  rintro e w2 ⟨rfl, H2, hk⟩
  have hx := (HX.out.under hk.out (.inr rfl)).on ((Below.refl w2.heap.size w2).alloc (Nat.le_refl _) (.cells #[.int .i64 0, .string ⟨#[]⟩, .string ⟨#[]⟩] /-t-/23))
  have H3 := Lib.hid (H2.out.below HU.out ((Below.refl w2.heap.size w2).alloc (Nat.le_refl _) (.cells #[.int .i64 0, .string ⟨#[]⟩, .string ⟨#[]⟩] /-t-/23)))
  obtain ⟨c0, c1, c2⟩ := hx.cells
  have cf := hx.frozen
  obtain ⟨hx3, ho3⟩ := hx.set 0 ⟨#[]⟩ ⟨#[]⟩
  have HX3 := Lib.hid hx3
  have HO3 := Lib.hid (H3.out.keep HU.out (ho3.mono fun _ h => .inr h))
  clear hk hx hx3 ho3 H2 H3
  go_wp2_with fail
  refine bodyPost_ret (results_cell_one rfl _ _ w.heap.size /-t-/23 _ (0, 0) _ rfl HX3.out Try.underlying23 rfl Try.info23) rfl ?_
  exact ⟨rfl, HO3.out.goes⟩

set_option maxRecDepth 100000 in
set_option maxHeartbeats 1000000 in
theorem do_big (U : SaysU R) (F : Nat → Prop) (w : World) (a : Addr) (s : ByteArray) (m p h : Nat) (q z : Nat) (t : ByteArray) (hr : R u F w a s m p h) (hq : q + z ≤ s.size) (hb : m < s.size - z + t.size) (hu : u + t.size ≤ 1000000) :
    Calls Try.prog 14 #[.pointer (some a), .int .i64 q, .int .i64 z, .string t] w fun e w' => e = .returned (.tuple #[EdV 0 ⟨#[]⟩ ⟨#[]⟩, .int .i64 3]) ∧ Goes (R (u + t.size)) F w w' a s m (fun _ _ => True) := by
  have hm := U.inv F w a s m p h hr
  have H1 := Lib.hid ((Mid.begin hr).add U (.cells #[.int .i64 0, .string ⟨#[]⟩, .string ⟨#[]⟩] /-t-/23))
  have HX := Lib.hid (Box.new w 0 ⟨#[]⟩ ⟨#[]⟩)
  have CS := Lib.hid (H1.out.call (fun F' p hh hr => found_yes U F' _ a s m p hh q z t hr ⟨by omega, by omega, by omega, by omega⟩ (by omega) (by omega) (by omega) (by omega)))
  simp only [Int.toNat_natCast] at CS
  have hz : (s.extract q (q + z)).size = z := by rw [ByteArray.size_extract]; omega
  obtain ⟨D, hD⟩ : ∃ D, D = s.extract q (q + z) := ⟨_, rfl⟩
  rw [← hD] at CS hz
  have CC := Lib.hid (fun wx G (hx : Hid (Mid (R u) F w a s m G wx)) => hx.out.call (fun F' p hh hr => change_big U F' _ a s m p hh q D t hr (by omega) (by omega) hu))
  have HU := Lib.hid U
  simp only [EdV] at CS CC ⊢
  clear hr hq hb hu U hm hz hD
  go_enter Try.func14, Try.ntmps14
  go_wp2_with fail
  refine CS.out.mono ?_
  rintro e w2 ⟨rfl, H2, hk⟩
  have HX2 := Lib.hid ((HX.out.under hk.out (.inr rfl)).on ((Below.refl w2.heap.size w2).alloc (Nat.le_refl _) (.cells #[.int .i64 q, .string D, .string t] /-t-/23)))
  have H3 := Lib.hid (H2.out.add HU.out (.cells #[.int .i64 q, .string D, .string t] /-t-/23))
  have C3 := Lib.hid (CC.out _ _ H3)
  obtain ⟨d0, d1, d2⟩ := (Box.new w2 q D t).cells
  clear hk H2 CC
  go_wp2_with fail
  refine C3.out.mono ?_
  rintro e w4 ⟨rfl, H4, hk⟩
  have hx := HX2.out.under hk.out (.inl (.inr rfl))
  obtain ⟨c0, c1, c2⟩ := hx.cells
  have cf := hx.frozen
  obtain ⟨hx3, ho3⟩ := hx.set 0 ⟨#[]⟩ ⟨#[]⟩
  have HX3 := Lib.hid hx3
  have HO3 := Lib.hid (H4.out.keep HU.out (ho3.mono fun _ h => .inl (.inr h)))
  clear hk hx hx3 ho3 H3 C3 d0 d1 d2
  go_wp2_with fail
  refine bodyPost_ret (results_cell_one rfl _ _ w.heap.size /-t-/23 _ (0, 0) _ rfl HX3.out Try.underlying23 rfl Try.info23) rfl ?_
  exact ⟨rfl, HO3.out.goes⟩

set_option maxRecDepth 100000 in
set_option maxHeartbeats 1000000 in
theorem do_yes (U : SaysU R) (F : Nat → Prop) (w : World) (a : Addr) (s : ByteArray) (m p h : Nat) (q z : Nat) (t : ByteArray) (hr : R u F w a s m p h) (hq : q + z ≤ s.size) (hb : s.size - z + t.size ≤ m) (hu : u + t.size ≤ 1000000) :
    Calls Try.prog 14 #[.pointer (some a), .int .i64 q, .int .i64 z, .string t] w fun e w' => e = .returned (.tuple #[EdV q (s.extract q (q + z)) t, .int .i64 0]) ∧ Goes (R (u + t.size)) F w w' a (putT s q z t) m (fun _ _ => True) := by
  have hm := U.inv F w a s m p h hr
  have H1 := Lib.hid ((Mid.begin hr).add U (.cells #[.int .i64 0, .string ⟨#[]⟩, .string ⟨#[]⟩] /-t-/23))
  have HX := Lib.hid (Box.new w 0 ⟨#[]⟩ ⟨#[]⟩)
  have CS := Lib.hid (H1.out.call (fun F' p hh hr => found_yes U F' _ a s m p hh q z t hr ⟨by omega, by omega, by omega, by omega⟩ (by omega) (by omega) (by omega) (by omega)))
  simp only [Int.toNat_natCast] at CS
  have hz : (s.extract q (q + z)).size = z := by rw [ByteArray.size_extract]; omega
  obtain ⟨D, hD⟩ : ∃ D, D = s.extract q (q + z) := ⟨_, rfl⟩
  rw [← hD] at CS hz ⊢
  have CC := Lib.hid (fun wx G (hx : Hid (Mid (R u) F w a s m G wx)) => hx.out.call (fun F' p hh hr => change_yes U F' _ a s m p hh q D t hr (by omega) (by omega) hu))
  rw [hz] at CC
  have HU := Lib.hid U
  simp only [EdV] at CS CC ⊢
  generalize putT s q z t = S2 at *
  clear hr hq hb hu U hm hz hD
  go_enter Try.func14, Try.ntmps14
  go_wp2_with fail
  refine CS.out.mono ?_
  rintro e w2 ⟨rfl, H2, hk⟩
  have HX2 := Lib.hid ((HX.out.under hk.out (.inr rfl)).on ((Below.refl w2.heap.size w2).alloc (Nat.le_refl _) (.cells #[.int .i64 q, .string D, .string t] /-t-/23)))
  have H3 := Lib.hid (H2.out.add HU.out (.cells #[.int .i64 q, .string D, .string t] /-t-/23))
  have C3 := Lib.hid (CC.out _ _ H3)
  have HD := Lib.hid (Box.new w2 q D t)
  obtain ⟨d0, d1, d2⟩ := HD.out.cells
  clear hk H2 CC
  go_wp2_with fail
  refine C3.out.mono ?_
  rintro e w4 ⟨rfl, H4, hk⟩
  have hd := HD.out.under hk.out (.inr rfl)
  obtain ⟨e0, e1, e2⟩ := hd.cells
  have hx := HX2.out.under hk.out (.inl (.inr rfl))
  obtain ⟨c0, c1, c2⟩ := hx.cells
  have cf := hx.frozen
  obtain ⟨hx3, ho3⟩ := hx.set q D t
  have HX3 := Lib.hid hx3
  have HO3 := Lib.hid (H4.out.keep HU.out (ho3.mono fun _ h => .inl (.inr h)))
  clear hk hx hx3 ho3 H3 C3 d0 d1 d2 hd
  go_wp2_with fail
  refine bodyPost_ret (results_cell_one rfl _ _ w.heap.size /-t-/23 _ (0, 0) _ rfl HX3.out Try.underlying23 rfl Try.info23) rfl ?_
  exact ⟨rfl, HO3.out.goes⟩
end
end Go.Proofs.Ytfdnlbeancdajaa
