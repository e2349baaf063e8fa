/- A step: a call to a buffer and to the flat text, out of what is asked of a buffer's calls. -/
import Derived.Test.YtjpomfjcofjanaaCModel
import Derived.Laws.Rows
import Derived.Deep.DeepCutAuto
namespace Go.Proofs.Ytjpomfjcofjanaa
open Go Go.RowKit

variable {Rep Rep' : (Nat → Prop) → World → Addr → ByteArray → Nat → Nat → Nat → Prop} {R : Nat → (Nat → Prop) → World → Addr → ByteArray → Nat → Nat → Nat → Prop} {u : Nat}

/-- A buffer of the text s1, a flat text s2, and the step's own variable, each in blocks of its own. -/
structure J (Rep : (Nat → Prop) → World → Addr → ByteArray → Nat → Nat → Nat → Prop) (w : World) (a : Addr) (mb ob : Nat) (K A B : Int) (S s1 s2 : ByteArray) (m : Nat) (P : Nat → Nat → Prop) (wr : World) : Prop where
  buf : Holds Rep (fun z => z = mb ∨ z = ob) w a s1 m P wr
  mod : MAt wr mb s2 m
  box : wr.heap[ob]? = some (.cells #[.int .i64 K, .int .i64 A, .int .i64 B, .string S] /-t-/32 (0, 0))
  ne : mb ≠ ob
  low : w.heap.size ≤ mb ∧ w.heap.size ≤ ob
theorem J.cells {w : World} {a : Addr} {mb ob : Nat} {K A B : Int} {S s1 s2 : ByteArray} {m : Nat} {P : Nat → Nat → Prop} {wr : World} (h : J Rep w a mb ob K A B S s1 s2 m P wr) :
    wr.cell? ⟨ob, 0, none⟩ = some (.int .i64 K) ∧ wr.cell? ⟨ob, 1, none⟩ = some (.int .i64 A) ∧ wr.cell? ⟨ob, 2, none⟩ = some (.int .i64 B) ∧ wr.cell? ⟨ob, 3, none⟩ = some (.string S) ∧ wr.cell? ⟨mb, 0, none⟩ = some (.string s2) := by
  have := h.box
  refine ⟨?_, ?_, ?_, ?_, h.mod.cells.1⟩ <;> simp [World.cell?, this]
theorem J.lt {w : World} {a : Addr} {mb ob : Nat} {K A B : Int} {S s1 s2 : ByteArray} {m : Nat} {P : Nat → Nat → Prop} {wr : World} (h : J Rep w a mb ob K A B S s1 s2 m P wr) : ∀ z, z = mb ∨ z = ob → z < wr.heap.size := by
  rintro z (rfl | rfl)
  · exact h.mod.lt
  · exact (Array.getElem?_eq_some_iff.1 h.box).1
/-- A call of the buffer's. -/
theorem J.call {w : World} {a : Addr} {mb ob : Nat} {K A B : Int} {S s1 s2 s' : ByteArray} {m f : Nat} {args : Array Value} {r : Nat → Nat → Value} {P : Nat → Nat → Prop} {Q : Nat → Nat → Nat → Nat → Prop} {wr : World} (h : J Rep w a mb ob K A B S s1 s2 m P wr)
    (hc : ∀ F p h, Rep F wr a s1 m p h → P p h → Calls Try.prog f args wr fun e w' => e = .returned (r p h) ∧ Goes Rep' F wr w' a s' m (Q p h)) :
    Calls Try.prog f args wr fun e w' => ∃ p h, P p h ∧ e = .returned (r p h) ∧ J Rep' w a mb ob K A B S s' s2 m (Q p h) w' := by
  refine (Holds.call h.buf h.lt hc).mono ?_
  rintro e w' ⟨p, hh, hp, he, h1, hk⟩
  exact ⟨p, hh, hp, he, h1.out, h.mod.keep hk.out (.inl rfl), (hk.out.block ob (h.lt ob (.inr rfl)) (.inr rfl)).trans h.box, h.ne, h.low⟩
/-- A call of the flat text's. -/
theorem J.turn (S0 : Says R) {w : World} {a : Addr} {mb ob : Nat} {K A B : Int} {S s1 s2 s' : ByteArray} {m : Nat} {P : Nat → Nat → Prop} {wr w' : World} (h : J (R u) w a mb ob K A B S s1 s2 m P wr) (hm : MAt w' mb s' m) (ho : OnlyAt (fun z => z = mb) wr w') : J (R u) w a mb ob K A B S s1 s' m P w' := by
  obtain ⟨⟨F, p, hh, hr, hp, hF⟩, hb⟩ := h.buf
  refine ⟨⟨⟨F, p, hh, S0.frame F wr w' a _ _ p hh hr (KeepsAt.of_only ho (fun k hk e => (hF k hk).2 (.inl e))), hp, hF⟩, OnlyAt.below hb ho hb.size (fun k e => by have := h.low.1; omega)⟩, hm, (ho.block ob (h.lt ob (.inr rfl)) (fun e => h.ne e.symm)).trans h.box, h.ne, h.low⟩
theorem J.drew (S0 : Says R) {w : World} {a : Addr} {mb ob : Nat} {K A B : Int} {S s1 s2 : ByteArray} {m : Nat} {P : Nat → Nat → Prop} {wr : World} (h : J (R u) w a mb ob K A B S s1 s2 m P wr) : J (R u) w a mb ob K A B S s1 s2 m P wr.drew :=
  h.turn S0 (h.mod.keep (T := fun _ => True) ⟨Nat.le_refl _, fun _ _ _ => rfl⟩ trivial) (OnlyAt.drew _ _)
theorem J.inv (S0 : Says R) {w : World} {a : Addr} {mb ob : Nat} {K A B : Int} {S s1 s2 : ByteArray} {m : Nat} {P : Nat → Nat → Prop} {wr : World} (h : J (R u) w a mb ob K A B S s1 s2 m P wr) :
    s1.size ≤ m ∧ m ≤ 65536 ∧ ∃ p hh, P p hh ∧ least hh ≤ p ∧ p ≤ s1.size ∧ (p = 0 ↔ s1.size = 0) ∧ hh ≤ 1000 := by
  obtain ⟨⟨F, p, hh, hr, hp, hF⟩, hb⟩ := h.buf
  obtain ⟨i1, i2, i3, i4, i5, i6⟩ := S0.inv F wr a _ _ p hh hr
  exact ⟨i1, i2, p, hh, hp, i3, i4, i5, i6⟩
theorem J.weak {w : World} {a : Addr} {mb ob : Nat} {K A B : Int} {S s1 s2 : ByteArray} {m : Nat} {P P' : Nat → Nat → Prop} {wr : World} (h : J Rep w a mb ob K A B S s1 s2 m P wr) (hw : ∀ p hh, P p hh → P' p hh) : J Rep w a mb ob K A B S s1 s2 m P' wr := by
  obtain ⟨⟨F, p, hh, hr, hp, hF⟩, hb⟩ := h.buf
  exact ⟨⟨⟨F, p, hh, hr, hw p hh hp, hF⟩, hb⟩, h.mod, h.box, h.ne, h.low⟩

/-- Pieces: as many as there are, and as many as is known. -/
theorem J.pieces (S0 : Says R) {w : World} {a : Addr} {mb ob : Nat} {K A B : Int} {S s1 s2 : ByteArray} {m : Nat} {P : Nat → Nat → Prop} {wr : World} (h : J (R u) w a mb ob K A B S s1 s2 m P wr) :
    Calls Try.prog 22 #[.pointer (some a)] wr fun e w' => ∃ p h0, P p h0 ∧ (least h0 ≤ p ∧ p ≤ s1.size ∧ (p = 0 ↔ s1.size = 0) ∧ p ≤ 65536 ∧ h0 ≤ 1000) ∧ e = .returned (.int .i64 p) ∧ J (R u) w a mb ob K A B S s1 s2 m (fun p' h' => p' = p ∧ h' = h0) w' := by
  have hc := h.call (f := 22) (args := #[.pointer (some a)]) (r := fun p _ => .int .i64 p) (Q := fun p h p' h' => p' = p ∧ h' = h) (fun F p h hr _ => S0.pieces F wr a s1 m p h hr)
  refine hc.mono ?_
  rintro e w' ⟨p, h0, hp, he, hj⟩
  obtain ⟨i1, i2, p', h', ⟨rfl, rfl⟩, i3, i4, i5, i6⟩ := hj.inv S0
  exact ⟨p', h', hp, ⟨i3, i4, i5, by omega, i6⟩, he, hj⟩

theorem none_bool {p : Nat} {s : ByteArray} (h : p = 0 ↔ s.size = 0) : (((p : Int) == 0) == s.toList.isEmpty) = true := by
  rw [ByteArray.toList_eq]
  have e : s.data.toList.isEmpty = decide (s.size = 0) := by
    have hl : s.data.toList.length = s.size := by simp
    cases hd : s.data.toList with
    | nil => rw [hd] at hl; simp at hl; simp [← hl]
    | cons x t => rw [hd] at hl; simp at hl; simp [← hl]
  rw [e]
  by_cases hp : p = 0
  · simp [hp, h.1 hp]
  · have : ¬ s.size = 0 := fun k => hp (h.2 k)
    simp [hp, this]
/-- What stands between two steps. -/
structure JJ (Rep : (Nat → Prop) → World → Addr → ByteArray → Nat → Nat → Nat → Prop) (w : World) (a : Addr) (mb : Nat) (s : ByteArray) (m : Nat) (wr : World) : Prop where
  buf : Holds Rep (fun z => z = mb) w a s m AnyP wr
  mod : MAt wr mb s m
  low : w.heap.size ≤ mb
theorem JJ.box (S0 : Says R) {w : World} {a : Addr} {mb : Nat} {s : ByteArray} {m : Nat} {wr : World} (h : JJ (R u) w a mb s m wr) (K A B : Int) (S : ByteArray) :
    J (R u) w a mb wr.heap.size K A B S s s m AnyP (wr.alloc (.cells #[.int .i64 K, .int .i64 A, .int .i64 B, .string S] /-t-/32)) := by
  obtain ⟨⟨F, p, hh, hr, hp, hF⟩, hb⟩ := h.buf
  have ho : OnlyAt (fun _ => False) wr (wr.alloc (.cells #[.int .i64 K, .int .i64 A, .int .i64 B, .string S] /-t-/32)) := OnlyAt.alloc _ _ _
  have hlt := h.mod.lt
  exact ⟨⟨⟨F, p, hh, S0.frame F wr _ a _ _ p hh hr (KeepsAt.of_only ho (fun _ _ e => e)), hp, fun k hk => ⟨(hF k hk).1, fun e => e.elim (hF k hk).2 (fun e => by have := S0.lt F wr a _ _ p hh hr k hk; omega)⟩⟩, OnlyAt.below hb ho hb.size (fun _ e => e.elim)⟩,
    h.mod.keep (KeepsAt.of_only (T := fun _ => True) ho (fun _ _ e => e)) trivial, World.alloc_heap_new wr _, by omega, h.low, hb.size⟩
theorem J.unbox {w : World} {a : Addr} {mb ob : Nat} {K A B : Int} {S s : ByteArray} {m : Nat} {P : Nat → Nat → Prop} {wr : World} (h : J (R u) w a mb ob K A B S s s m P wr) : JJ (R u) w a mb s m wr := by
  obtain ⟨⟨F, p, hh, hr, hp, hF⟩, hb⟩ := h.buf
  exact ⟨⟨⟨F, p, hh, hr, trivial, fun k hk => ⟨(hF k hk).1, fun e => (hF k hk).2 (.inl e)⟩⟩, hb⟩, h.mod, h.low.1⟩

theorem least_twice (h : Nat) : least (h + 1) ≤ 2 * least h + 1 := by
  match h with
  | 0 => decide
  | h + 1 =>
    have := least_mono h
    show least h + least (h + 1) + 1 ≤ _
    omega

set_option maxHeartbeats 1000000 in
theorem least_any (h : Nat) (w : World) (hh : h ≤ 9223372036854775807) :
    Calls Try.prog 27 #[.int .i64 h] w fun e w' => (∃ c : Nat, e = .returned (.int .i64 c) ∧ c ≤ least h ∧ c ≤ 4398046511104) ∧ w = w' := by
  go_enter Try.func27, Try.ntmps27
  go_wp2
  go_loop [3, 4, 5] (fun a b i => ∃ (k : Nat) (A B : Int), k ≤ h ∧ a = .int .i64 A ∧ b = .int .i64 B ∧ i = .int .i64 k ∧ Hid (A = (least k : Nat) ∧ B = (least (k + 1) : Nat) ∧ A ≤ 4398046511104)) (fun _ _ i => h - (RowKit.intOf i).toNat)
  case atStart => exact ⟨0, 0, 1, by omega, rfl, rfl, rfl, ⟨rfl, rfl, by omega⟩⟩
  case round =>
    obtain ⟨k, A, B, hk, rfl, rfl, rfl, hid⟩ := hrel
    have HA := hid
    obtain ⟨hA, hB, hA4⟩ := hid.out
    have h2 := least_twice k
    have hle := least_le hk
    have a0 : (0 : Int) ≤ A := by omega
    have b0 : (0 : Int) ≤ B := by omega
    have b1 : (B : Int) ≤ 8796093022209 := by omega
    have HL := Lib.hid (show A.toNat ≤ least h by omega)
    clear hA hB h2 hle hid
    by_cases hc : k < h ∧ A < 1099511627776
    · obtain ⟨c1, c2⟩ := hc
      have H3 := Lib.hid (show (least (k + 1 + 1) : Nat) = A + B + 1 by
        have := HA.out.1; have := HA.out.2.1
        show ((least k + least (k + 1) + 1 : Nat) : Int) = A + B + 1
        omega)
      have HB := Lib.hid HA.out.2.1
      have H4 := Lib.hid (show B ≤ 4398046511104 by
        have := least_twice k; have := HA.out.1; have := HA.out.2.1; omega)
      clear hA4
      go_wp2
      go_round
      case rel => exact ⟨k + 1, B, A + B + 1, by omega, rfl, by go_num, by go_num, ⟨HB.out, H3.out.symm, H4.out⟩⟩
      case measure => simp [RowKit.intOf]; omega
    · have hcs : (k < h ∧ 1099511627776 ≤ A) ∨ h ≤ k := by omega
      clear hc
      rcases hcs with ⟨c1, c2⟩ | c1
      all_goals
        go_wp2
        go_ret
        exact ⟨⟨A.toNat, ret_int (Int.toNat_of_nonneg a0).symm, HL.out, by omega⟩, rfl⟩

theorem J.ins (S0 : Says R) {w : World} {a : Addr} {mb ob : Nat} {K A B : Int} {S s1 s2 : ByteArray} {m p0 h0 : Nat} {wr : World} (h : J (R u) w a mb ob K A B S s1 s2 m (fun p' h' => p' = p0 ∧ h' = h0) wr) (hS : u + S.size ≤ 1000000) (b1 : -9223372036854775808 ≤ A) (b2 : A ≤ 9223372036854775807) :
    Calls Try.prog 13 #[.pointer (some a), .int .i64 A, .string S] wr fun e w' => e = .returned (.int .i64 (insE s1 m A S)) ∧ J (R (bump u s1 m A S)) w a mb ob K A B S (insS s1 m A S) s2 m (fun p' _ => p' ≤ p0 + 2) w' := by
  have hc := h.call (f := 13) (args := #[.pointer (some a), .int .i64 A, .string S]) (r := fun _ _ => .int .i64 (insE s1 m A S)) (Q := fun p _ p' _ => p' ≤ p + 2) (fun F p h hr _ => S0.insert F wr a s1 m p h A S hr hS b1 b2)
  refine hc.mono ?_
  rintro e w' ⟨p, hh, ⟨rfl, rfl⟩, he, hj⟩
  exact ⟨he, hj⟩
theorem J.mins (S0 : Says R) {w : World} {a : Addr} {mb ob : Nat} {K A B : Int} {S s1 s2 : ByteArray} {m : Nat} {P : Nat → Nat → Prop} {wr : World} (h : J (R u) w a mb ob K A B S s1 s2 m P wr) (hs : s2.size ≤ 65536) (hm : m ≤ 65536) (hS : S.size ≤ 1000000) :
    Calls Try.prog 23 #[.pointer (some ⟨mb, 0, none⟩), .int .i64 A, .string S] wr fun e w' => e = .returned (.int .i64 (insE s2 m A S)) ∧ J (R u) w a mb ob K A B S s1 (insS s2 m A S) m P w' :=
  (minsert_any h.mod A S hs hm hS).mono fun _ _ ⟨he, h1, h2⟩ => ⟨he, h.turn S0 h1 h2⟩
theorem J.len (S0 : Says R) {w : World} {a : Addr} {mb ob : Nat} {K A B : Int} {S s1 s2 : ByteArray} {m p0 h0 : Nat} {wr : World} (h : J (R u) w a mb ob K A B S s1 s2 m (fun p' h' => p' = p0 ∧ h' = h0) wr) :
    Calls Try.prog 16 #[.pointer (some a)] wr fun e w' => e = .returned (.int .i64 s1.size) ∧ J (R u) w a mb ob K A B S s1 s2 m (fun p' h' => p' = p0 ∧ h' = h0) w' := by
  have hc := h.call (f := 16) (args := #[.pointer (some a)]) (r := fun _ _ => .int .i64 s1.size) (Q := fun p h p' h' => p' = p ∧ h' = h) (fun F p h hr _ => S0.len F wr a s1 m p h hr)
  refine hc.mono ?_
  rintro e w' ⟨p, hh, ⟨rfl, rfl⟩, he, hj⟩
  exact ⟨he, hj⟩
theorem J.text (S0 : Says R) {w : World} {a : Addr} {mb ob : Nat} {K A B : Int} {S s1 s2 : ByteArray} {m p0 h0 : Nat} {wr : World} (h : J (R u) w a mb ob K A B S s1 s2 m (fun p' h' => p' = p0 ∧ h' = h0) wr) :
    Calls Try.prog 14 #[.pointer (some a)] wr fun e w' => e = .returned (.string s1) ∧ J (R u) w a mb ob K A B S s1 s2 m (fun p' h' => p' = p0 ∧ h' = h0) w' := by
  have hc := h.call (f := 14) (args := #[.pointer (some a)]) (r := fun _ _ => .string s1) (Q := fun p h p' h' => p' = p ∧ h' = h) (fun F p h hr _ => S0.text F wr a s1 m p h hr)
  refine hc.mono ?_
  rintro e w' ⟨p, hh, ⟨rfl, rfl⟩, he, hj⟩
  exact ⟨he, hj⟩
theorem J.height (S0 : Says R) {w : World} {a : Addr} {mb ob : Nat} {K A B : Int} {S s1 s2 : ByteArray} {m p0 h0 : Nat} {wr : World} (h : J (R u) w a mb ob K A B S s1 s2 m (fun p' h' => p' = p0 ∧ h' = h0) wr) :
    Calls Try.prog 28 #[.pointer (some a)] wr fun e w' => e = .returned (.int .i64 h0) ∧ J (R u) w a mb ob K A B S s1 s2 m (fun p' h' => p' = p0 ∧ h' = h0) w' := by
  have hc := h.call (f := 28) (args := #[.pointer (some a)]) (r := fun _ h => .int .i64 h) (Q := fun p h p' h' => p' = p ∧ h' = h) (fun F p h hr _ => S0.height F wr a s1 m p h hr)
  refine hc.mono ?_
  rintro e w' ⟨p, hh, ⟨rfl, rfl⟩, he, hj⟩
  exact ⟨he, hj⟩

theorem J.del (S0 : Says R) {w : World} {a : Addr} {mb ob : Nat} {K A B : Int} {S s1 s2 : ByteArray} {m p0 h0 : Nat} {wr : World} (h : J (R u) w a mb ob K A B S s1 s2 m (fun p' h' => p' = p0 ∧ h' = h0) wr) (b1 : -9223372036854775808 ≤ A) (b2 : A ≤ 9223372036854775807) (b3 : -9223372036854775808 ≤ B) (b4 : B ≤ 9223372036854775807) :
    Calls Try.prog 15 #[.pointer (some a), .int .i64 A, .int .i64 B] wr fun e w' => e = .returned (.int .i64 (delE s1 A B)) ∧ J (R u) w a mb ob K A B S (delS s1 A B) s2 m (fun p' _ => p' ≤ p0 + 1) w' := by
  have hc := h.call (f := 15) (args := #[.pointer (some a), .int .i64 A, .int .i64 B]) (r := fun _ _ => .int .i64 (delE s1 A B)) (Q := fun p _ p' _ => p' ≤ p + 1) (fun F p h hr _ => S0.delete F wr a s1 m p h A B hr b1 b2 b3 b4)
  refine hc.mono ?_
  rintro e w' ⟨p, hh, ⟨rfl, rfl⟩, he, hj⟩
  exact ⟨he, hj⟩
theorem J.mdel (S0 : Says R) {w : World} {a : Addr} {mb ob : Nat} {K A B : Int} {S s1 s2 : ByteArray} {m : Nat} {P : Nat → Nat → Prop} {wr : World} (h : J (R u) w a mb ob K A B S s1 s2 m P wr) (hs : s2.size ≤ 65536) (b3 : -9223372036854775808 ≤ B) (b4 : B ≤ 9223372036854775807) :
    Calls Try.prog 24 #[.pointer (some ⟨mb, 0, none⟩), .int .i64 A, .int .i64 B] wr fun e w' => e = .returned (.int .i64 (delE s2 A B)) ∧ J (R u) w a mb ob K A B S s1 (delS s2 A B) m P w' :=
  (mremove_any h.mod A B hs b3 b4).mono fun _ _ ⟨he, h1, h2⟩ => ⟨he, h.turn S0 h1 h2⟩
theorem J.cut (S0 : Says R) {w : World} {a : Addr} {mb ob : Nat} {K A B : Int} {S s1 s2 : ByteArray} {m p0 h0 : Nat} {wr : World} (h : J (R u) w a mb ob K A B S s1 s2 m (fun p' h' => p' = p0 ∧ h' = h0) wr) (b1 : -9223372036854775808 ≤ A) (b2 : A ≤ 9223372036854775807) (b3 : -9223372036854775808 ≤ B) (b4 : B ≤ 9223372036854775807) :
    Calls Try.prog 17 #[.pointer (some a), .int .i64 A, .int .i64 B] wr fun e w' => e = .returned (.tuple #[.string (cutS s1 A B), .int .i64 (delE s1 A B)]) ∧ J (R u) w a mb ob K A B S s1 s2 m (fun p' h' => p' = p0 ∧ h' = h0) w' := by
  have hc := h.call (f := 17) (args := #[.pointer (some a), .int .i64 A, .int .i64 B]) (r := fun _ _ => .tuple #[.string (cutS s1 A B), .int .i64 (delE s1 A B)]) (Q := fun p h p' h' => p' = p ∧ h' = h) (fun F p h hr _ => S0.slice F wr a s1 m p h A B hr b1 b2 b3 b4)
  refine hc.mono ?_
  rintro e w' ⟨p, hh, ⟨rfl, rfl⟩, he, hj⟩
  exact ⟨he, hj⟩
theorem J.byte (S0 : Says R) {w : World} {a : Addr} {mb ob : Nat} {K A B : Int} {S s1 s2 : ByteArray} {m p0 h0 : Nat} {wr : World} (h : J (R u) w a mb ob K A B S s1 s2 m (fun p' h' => p' = p0 ∧ h' = h0) wr) (b1 : -9223372036854775808 ≤ A) (b2 : A ≤ 9223372036854775807) :
    Calls Try.prog 26 #[.pointer (some a), .int .i64 A] wr fun e w' => e = .returned (.tuple #[.int .u8 (byteV s1 A), .int .i64 (byteE s1 A)]) ∧ J (R u) w a mb ob K A B S s1 s2 m (fun p' h' => p' = p0 ∧ h' = h0) w' := by
  have hc := h.call (f := 26) (args := #[.pointer (some a), .int .i64 A]) (r := fun _ _ => .tuple #[.int .u8 (byteV s1 A), .int .i64 (byteE s1 A)]) (Q := fun p h p' h' => p' = p ∧ h' = h) (fun F p h hr _ => S0.byte F wr a s1 m p h A hr b1 b2)
  refine hc.mono ?_
  rintro e w' ⟨p, hh, ⟨rfl, rfl⟩, he, hj⟩
  exact ⟨he, hj⟩
end Go.Proofs.Ytjpomfjcofjanaa
