/- edit.Undo by contract, out of what is asked of a buffer's calls. -/
import Derived.Test.YtfdnlbeancdajaaEDo
namespace Go.Proofs.Ytfdnlbeancdajaa
open Go Go.RowKit
section
variable {R : Nat → (Nat → Prop) → World → Addr → ByteArray → Nat → Nat → Nat → Prop} {u : Nat}

set_option maxRecDepth 100000 in
set_option maxHeartbeats 1000000 in
theorem undo_place (U : SaysU R) (F : Nat → Prop) (w : World) (a : Addr) (s : ByteArray) (m p h : Nat) (k : Int) (d i : ByteArray) (hr : R u F w a s m p h) (hi : ¬ isIn s k i.size) (k1 : -9223372036854775808 ≤ k) (k2 : k ≤ 9223372036854775807) (hs : i.size ≤ 100000) :
    Calls Try.prog 21 #[.pointer (some a), EdV k d i] w fun e w' => e = .returned (.int .i64 2) ∧ Goes (R u) F w w' a s m (fun _ _ => True) := by
  have H1 := Lib.hid ((Mid.begin hr).below U ((Below.refl w.heap.size w).alloc (Nat.le_refl _) (.cells #[.int .i64 k, .string d, .string i] /-t-/23)))
  have hx := Box.new w k d i
  obtain ⟨c0, c1, c2⟩ := hx.cells
  have CV := Lib.hid (edit_inverse (w.alloc (.cells #[.int .i64 k, .string d, .string i] /-t-/23)) k d i)
  have CS := Lib.hid (fun wx G (hx : Hid (Mid (R u) F w a s m G wx)) => hx.out.call (fun F' p hh hr => found_no U F' _ a s m p hh k i.size d hr hi k1 k2 (by omega) (by omega)))
  have HU := Lib.hid U
  simp only [EdV] at CV CS ⊢
  clear hr hi k1 k2 U hx hs
  go_enter Try.func21, Try.ntmps21
  go_wp2_with fail
  refine CV.out.mono ?_
  rintro e w2 ⟨rfl, hb⟩
  have H2 := Lib.hid ((H1.out.below HU.out hb).add HU.out (.cells #[.int .i64 k, .string i, .string d] /-t-/23))
  have C2 := Lib.hid (CS.out _ _ H2)
  obtain ⟨d0, d1, d2⟩ := (Box.new w2 k i d).cells
  clear hb CS
  go_wp2_with fail
  refine C2.out.mono ?_
  rintro e w3 ⟨rfl, H3, hk⟩
  have H4 := Lib.hid (H3.out.below HU.out ((Below.refl w3.heap.size w3).alloc (Nat.le_refl _) (.cells #[.int .i64 0, .string ⟨#[]⟩, .string ⟨#[]⟩] /-t-/23)))
  clear hk H3 C2 H2 d0 d1 d2
  go_wp2_with fail
  go_ret
  exact ⟨rfl, H4.out.goes⟩

set_option maxRecDepth 100000 in
set_option maxHeartbeats 1000000 in
theorem undo_other (U : SaysU R) (F : Nat → Prop) (w : World) (a : Addr) (s : ByteArray) (m p h : Nat) (q : Nat) (d i : ByteArray) (hr : R u F w a s m p h) (hq : q + i.size ≤ s.size) (hne : s.extract q (q + i.size) ≠ i) :
    Calls Try.prog 21 #[.pointer (some a), EdV q d i] w fun e w' => e = .returned (.int .i64 2) ∧ Goes (R u) F w w' a s m (fun _ _ => True) := by
  have hm := U.inv F w a s m p h hr
  have H1 := Lib.hid ((Mid.begin hr).below U ((Below.refl w.heap.size w).alloc (Nat.le_refl _) (.cells #[.int .i64 q, .string d, .string i] /-t-/23)))
  have hx := Box.new w q d i
  obtain ⟨c0, c1, c2⟩ := hx.cells
  have CV := Lib.hid (edit_inverse (w.alloc (.cells #[.int .i64 q, .string d, .string i] /-t-/23)) q d i)
  have CS := Lib.hid (fun wx G (hx : Hid (Mid (R u) F w a s m G wx)) => hx.out.call (fun F' p hh hr => found_yes U F' _ a s m p hh q i.size d hr ⟨by omega, by omega, by omega, by omega⟩ (by omega) (by omega) (by omega) (by omega)))
  simp only [Int.toNat_natCast] at CS
  obtain ⟨D, hD⟩ : ∃ D, D = s.extract q (q + i.size) := ⟨_, rfl⟩
  rw [← hD] at CS hne
  have HU := Lib.hid U
  have he := list_eq D i
  rw [decide_eq_false hne] at he
  simp only [EdV] at CV CS ⊢
  clear hr U hx hm hD hq hne
  go_enter Try.func21, Try.ntmps21
  go_wp2_with fail
  refine CV.out.mono ?_
  rintro e w2 ⟨rfl, hb⟩
  have H2 := Lib.hid ((H1.out.below HU.out hb).add HU.out (.cells #[.int .i64 q, .string i, .string d] /-t-/23))
  have C2 := Lib.hid (CS.out _ _ H2)
  have HD := Lib.hid (Box.new w2 q i d)
  obtain ⟨d0, d1, d2⟩ := HD.out.cells
  clear hb CS
  go_wp2_with fail
  refine C2.out.mono ?_
  rintro e w3 ⟨rfl, H3, hk⟩
  have H4 := Lib.hid (H3.out.below HU.out ((Below.refl w3.heap.size w3).alloc (Nat.le_refl _) (.cells #[.int .i64 q, .string D, .string d] /-t-/23)))
  have hd := (HD.out.under hk.out (.inr rfl)).on ((Below.refl w3.heap.size w3).alloc (Nat.le_refl _) (.cells #[.int .i64 q, .string D, .string d] /-t-/23))
  obtain ⟨e0, e1, e2⟩ := hd.cells
  obtain ⟨f0, f1, f2⟩ := (Box.new w3 q D d).cells
  clear hk H3 C2 H2 d0 d1 d2 hd
  go_wp2_with fail
  go_ret
  exact ⟨rfl, H4.out.goes⟩

set_option maxRecDepth 100000 in
set_option maxHeartbeats 1000000 in
theorem undo_big (U : SaysU R) (F : Nat → Prop) (w : World) (a : Addr) (s : ByteArray) (m p h : Nat) (q : Nat) (d i : ByteArray) (hr : R u F w a s m p h) (hq : q + i.size ≤ s.size) (hne : s.extract q (q + i.size) = i) (hb : m < s.size - i.size + d.size) (hu : u + d.size ≤ 1000000) :
    Calls Try.prog 21 #[.pointer (some a), EdV q d i] w fun e w' => e = .returned (.int .i64 3) ∧ Goes (R (u + d.size)) F w w' a s m (fun _ _ => True) := by
  have hm := U.inv F w a s m p h hr
  have H1 := Lib.hid ((Mid.begin hr).below U ((Below.refl w.heap.size w).alloc (Nat.le_refl _) (.cells #[.int .i64 q, .string d, .string i] /-t-/23)))
  have hx := Box.new w q d i
  obtain ⟨c0, c1, c2⟩ := hx.cells
  have CV := Lib.hid (edit_inverse (w.alloc (.cells #[.int .i64 q, .string d, .string i] /-t-/23)) q d i)
  have CS := Lib.hid (fun wx G (hx : Hid (Mid (R u) F w a s m G wx)) => hx.out.call (fun F' p hh hr => found_yes U F' _ a s m p hh q i.size d hr ⟨by omega, by omega, by omega, by omega⟩ (by omega) (by omega) (by omega) (by omega)))
  simp only [Int.toNat_natCast] at CS
  rw [hne] at CS
  have CC := Lib.hid (fun wx G (hx : Hid (Mid (R u) F w a s m G wx)) => hx.out.call (fun F' p hh hr => change_big U F' _ a s m p hh q i d hr hq hb hu))
  have HU := Lib.hid U
  have he := list_eq i i
  rw [decide_eq_true rfl] at he
  have he2 := list_eq d d
  rw [decide_eq_true rfl] at he2
  simp only [EdV] at CV CS CC ⊢
  clear hr U hx hm hq hne hb hu
  go_enter Try.func21, Try.ntmps21
  go_wp2_with fail
  refine CV.out.mono ?_
  rintro e w2 ⟨rfl, hb⟩
  have H2 := Lib.hid ((H1.out.below HU.out hb).add HU.out (.cells #[.int .i64 q, .string i, .string d] /-t-/23))
  have C2 := Lib.hid (CS.out _ _ H2)
  have HD := Lib.hid (Box.new w2 q i d)
  obtain ⟨d0, d1, d2⟩ := HD.out.cells
  clear hb CS
  go_wp2_with fail
  refine C2.out.mono ?_
  rintro e w3 ⟨rfl, H3, hk⟩
  have H4 := Lib.hid (H3.out.below HU.out ((Below.refl w3.heap.size w3).alloc (Nat.le_refl _) (.cells #[.int .i64 q, .string i, .string d] /-t-/23)))
  have hd := (HD.out.under hk.out (.inr rfl)).on ((Below.refl w3.heap.size w3).alloc (Nat.le_refl _) (.cells #[.int .i64 q, .string i, .string d] /-t-/23))
  obtain ⟨e0, e1, e2⟩ := hd.cells
  obtain ⟨f0, f1, f2⟩ := (Box.new w3 q i d).cells
  have C4 := Lib.hid (CC.out _ _ H4)
  clear hk H3 C2 H2 d0 d1 d2 hd CC
  go_wp2_with fail
  refine C4.out.mono ?_
  rintro e w5 ⟨rfl, H5, hk⟩
  clear hk
  go_wp2_with fail
  go_ret
  exact ⟨rfl, H5.out.goes⟩

set_option maxRecDepth 100000 in
set_option maxHeartbeats 1000000 in
theorem undo_yes (U : SaysU R) (F : Nat → Prop) (w : World) (a : Addr) (s : ByteArray) (m p h : Nat) (q : Nat) (d i : ByteArray) (hr : R u F w a s m p h) (hq : q + i.size ≤ s.size) (hne : s.extract q (q + i.size) = i) (hb : s.size - i.size + d.size ≤ m) (hu : u + d.size ≤ 1000000) :
    Calls Try.prog 21 #[.pointer (some a), EdV q d i] w fun e w' => e = .returned (.int .i64 0) ∧ Goes (R (u + d.size)) F w w' a (putT s q i.size d) m (fun _ _ => True) := by
  have hm := U.inv F w a s m p h hr
  have H1 := Lib.hid ((Mid.begin hr).below U ((Below.refl w.heap.size w).alloc (Nat.le_refl _) (.cells #[.int .i64 q, .string d, .string i] /-t-/23)))
  have hx := Box.new w q d i
  obtain ⟨c0, c1, c2⟩ := hx.cells
  have CV := Lib.hid (edit_inverse (w.alloc (.cells #[.int .i64 q, .string d, .string i] /-t-/23)) q d i)
  have CS := Lib.hid (fun wx G (hx : Hid (Mid (R u) F w a s m G wx)) => hx.out.call (fun F' p hh hr => found_yes U F' _ a s m p hh q i.size d hr ⟨by omega, by omega, by omega, by omega⟩ (by omega) (by omega) (by omega) (by omega)))
  simp only [Int.toNat_natCast] at CS
  rw [hne] at CS
  have CC := Lib.hid (fun wx G (hx : Hid (Mid (R u) F w a s m G wx)) => hx.out.call (fun F' p hh hr => change_yes U F' _ a s m p hh q i d hr hq hb hu))
  have HU := Lib.hid U
  have he := list_eq i i
  rw [decide_eq_true rfl] at he
  have he2 := list_eq d d
  rw [decide_eq_true rfl] at he2
  simp only [EdV] at CV CS CC ⊢
  generalize putT s q i.size d = S2 at *
  clear hr U hx hm hq hne hb hu
  go_enter Try.func21, Try.ntmps21
  go_wp2_with fail
  refine CV.out.mono ?_
  rintro e w2 ⟨rfl, hb⟩
  have H2 := Lib.hid ((H1.out.below HU.out hb).add HU.out (.cells #[.int .i64 q, .string i, .string d] /-t-/23))
  have C2 := Lib.hid (CS.out _ _ H2)
  have HD := Lib.hid (Box.new w2 q i d)
  obtain ⟨d0, d1, d2⟩ := HD.out.cells
  clear hb CS
  go_wp2_with fail
  refine C2.out.mono ?_
  rintro e w3 ⟨rfl, H3, hk⟩
  have H4 := Lib.hid (H3.out.below HU.out ((Below.refl w3.heap.size w3).alloc (Nat.le_refl _) (.cells #[.int .i64 q, .string i, .string d] /-t-/23)))
  have hd := (HD.out.under hk.out (.inr rfl)).on ((Below.refl w3.heap.size w3).alloc (Nat.le_refl _) (.cells #[.int .i64 q, .string i, .string d] /-t-/23))
  obtain ⟨e0, e1, e2⟩ := hd.cells
  obtain ⟨f0, f1, f2⟩ := (Box.new w3 q i d).cells
  have C4 := Lib.hid (CC.out _ _ H4)
  clear hk H3 C2 H2 d0 d1 d2 hd CC
  go_wp2_with fail
  refine C4.out.mono ?_
  rintro e w5 ⟨rfl, H5, hk⟩
  clear hk
  go_wp2_with fail
  go_ret
  exact ⟨rfl, H5.out.goes⟩

end
end Go.Proofs.Ytfdnlbeancdajaa
