/- A buffer's calls, one theorem each (for stages whose cut lacks some of them: prune.py strikes those). -/
import Derived.Test.YtfdnlbeancdajaaDNew
namespace Go.Proofs.Ytfdnlbeancdajaa
open Go Go.RowKit

theorem tree_keeps {F : Nat → Prop} {w w' : World} {a : Addr} {T : List It} {h : Nat} (hr : Avl.RepA F w a T h) (hk : KeepsAt F w w') : Avl.RepA F w' a T h := by
  obtain ⟨ab, p, t, G, rfl, rfl, hT, rest⟩ := hr
  exact ⟨ab, p, t, G, rfl, rfl, ⟨(hk.block ab hT.lt (.inl rfl)).trans hT.root, hT.lies.keeps hk (fun k hk' => .inr hk'), hT.out⟩, rest⟩
theorem row_keeps {F : Nat → Prop} {w w' : World} {e size n : Nat} {v : Value} {xs : List Value} (hr : w.ownsRow 0 e size v n xs) (hk : KeepsAt F w w') (hS : ∀ z, v.ownBlock = some z → F z) : w'.ownsRow 0 e size v n xs :=
  Sto.row_frame hr fun g hg => hk.block g (row_lt hr g hg) (hS g hg)
theorem st_keeps {w w' : World} {b m : Nat} {ta oa da : Addr} {F : Nat → Prop} {T : List It} {h : Nat} {O D : ByteArray} {al : List (Bool × Nat)} {fr : List Nat} (hS : St w b m ta oa da F T h O D al fr) (hk : KeepsAt F w w') : St w' b m ta oa da F T h O D al fr := by
  obtain ⟨c, va, vf, FT, FO, FD, rfl, hL⟩ := hS
  exact ⟨c, va, vf, FT, FO, FD, rfl, ⟨(hk.block b (hL.lt b (.inl rfl)) (.inl rfl)).trans hL.box, tree_keeps hL.tree (hk.mono fun z hz => .inr (.inl hz)), Sto.store_says.frame _ _ _ _ _ hL.orig (hk.mono fun z hz => .inr (.inr (.inl hz))), Sto.store_says.frame _ _ _ _ _ hL.adds (hk.mono fun z hz => .inr (.inr (.inr (.inl hz)))),
    row_keeps hL.rowA hk (fun z hz => .inr (.inr (.inr (.inr (.inl hz))))), row_keeps hL.rowF hk (fun z hz => .inr (.inr (.inr (.inr (.inr hz))))), hL.c0, hL.c1, hL.c2, hL.c3, hL.c4, hL.c5⟩⟩

/-- At a, in the blocks F, a buffer of the text s, of at most m bytes, in p pieces, of height h; at most u bytes were put. -/
def RepU (u : Nat) (F : Nat → Prop) (w : World) (a : Addr) (s : ByteArray) (m p h : Nat) : Prop :=
  ∃ b ta oa da O D L al fr, a = ⟨b, 0, none⟩ ∧ Bf w b m ta oa da F O D L h al fr ∧ s = textOf O D L ∧ p = L.length ∧ D.size ≤ u
theorem goes_same {u : Nat} {F : Nat → Prop} {w w' : World} {a : Addr} {s : ByteArray} {m p h : Nat} {P : Nat → Nat → Prop} (hr : RepU u F w a s m p h) (hb : Below w.heap.size w w') (hP : P p h) : Goes (RepU u) F w w' a s m P := by
  obtain ⟨b, ta, oa, da, O, D, L, al, fr, rfl, hB, hs, hp, hu⟩ := hr
  exact ⟨F, p, h, ⟨b, ta, oa, da, O, D, L, al, fr, rfl, hB.below hb, hs, hp, hu⟩, hP, OnlyAt.of_below hb, fun _ hk => .inl hk⟩
theorem RepU.up {u u' : Nat} {F : Nat → Prop} {w : World} {a : Addr} {s : ByteArray} {m p h : Nat} (hr : RepU u F w a s m p h) (hu : u ≤ u') : RepU u' F w a s m p h := by
  obtain ⟨b, ta, oa, da, O, D, L, al, fr, rfl, hB, hs, hp, hu1⟩ := hr
  exact ⟨b, ta, oa, da, O, D, L, al, fr, rfl, hB, hs, hp, Nat.le_trans hu1 hu⟩
theorem insT_none (s : ByteArray) (k : Nat) (t : ByteArray) (ht : t.size = 0) (hk : k ≤ s.size) : insT s k t = s := by
  have e : t = ByteArray.empty := by
    apply ByteArray.ext
    exact Array.eq_empty_of_size_eq_zero ht
  rw [insT, e, ByteArray.append_empty, ByteArray.extract_append_extract, Nat.zero_min, Nat.max_eq_right hk, ByteArray.extract_zero_size]

theorem got_at (s : ByteArray) (q : Nat) (h : q < s.size) : s.get! q = s[q]'h := by
  rw [ByteArray.get!]
  exact getElem!_pos s.data q h

/-- A buffer: new. -/
theorem buffer_new : ∀ w (s : ByteArray) (most : Int), s.size ≤ clamp most → -9223372036854775808 ≤ most → most ≤ 9223372036854775807 →
    Calls Try.prog 13 #[.string s, .int .i64 most] w fun e w' => ∃ a F p h, e = .returned (.tuple #[.pointer (some a), .int .i64 0]) ∧ RepU 0 F w' a s (clamp most) p h ∧ OnlyAt (fun _ => False) w w' ∧ ∀ k, F k → w.heap.size ≤ k := by
  intro w s most hs b1 b2
  by_cases h0 : s.size = 0
  · refine (new_none w s most h0).mono ?_
    rintro e w' ⟨b, ta, oa, da, F, he, hB, ho, hF⟩
    refine ⟨_, F, _, _, he, ⟨b, ta, oa, da, _, _, _, _, _, rfl, hB, ?_, rfl, by decide⟩, ho, hF⟩
    apply ByteArray.ext
    exact Array.eq_empty_of_size_eq_zero h0
  · refine (new_some w s most h0 hs).mono ?_
    rintro e w' ⟨b, ta, oa, da, F, h, al, fr, key, he, hB, ho, hF⟩
    refine ⟨_, F, _, _, he, ⟨b, ta, oa, da, _, _, _, _, _, rfl, hB, ?_, rfl, by decide⟩, ho, hF⟩
    show s = (s.extract 0 (0 + s.size)) ++ ByteArray.empty
    rw [Nat.zero_add, ByteArray.extract_zero_size, ByteArray.append_empty]
/-- A buffer: big. -/
theorem buffer_big : ∀ w (s : ByteArray) (most : Int), clamp most < s.size → s.size ≤ 1000000 → -9223372036854775808 ≤ most → most ≤ 9223372036854775807 →
    Calls Try.prog 13 #[.string s, .int .i64 most] w fun e w' => e = .returned (.tuple #[.pointer none, .int .i64 3]) ∧ OnlyAt (fun _ => False) w w' := by
  intro w s most hs h1 b1 b2
  refine (new_big w s most hs (by omega)).mono ?_
  rintro e w' ⟨he, rfl⟩
  exact ⟨he, OnlyAt.refl _ _⟩
/-- A buffer: insert. -/
theorem buffer_insert : ∀ {u : Nat} F w a s m p h (k : Int) (t : ByteArray), RepU u F w a s m p h → u + t.size ≤ 1000000 → -9223372036854775808 ≤ k → k ≤ 9223372036854775807 →
    Calls Try.prog 39 #[.pointer (some a), .int .i64 k, .string t] w fun e w' => e = .returned (.int .i64 (insE s m k t)) ∧ Goes (RepU (bump u s m k t)) F w w' a (insS s m k t) m (fun p' _ => p' ≤ p + 2) := by
  intro u F w a s m p h k t hr ht b1 b2
  have hr' := hr
  obtain ⟨b, ta, oa, da, O, D, L, al, fr, rfl, hB, rfl, rfl, hu⟩ := hr
  by_cases h1 : k < 0 ∨ ((textOf O D L).size : Int) < k
  · have hE : insE (textOf O D L) m k t = 2 := if_pos h1
    rw [insS, bump, hE, if_neg (by omega), if_neg (by omega)]
    refine (insert_place hB k t b1 b2 (fun hi => by obtain ⟨i1, i2, i3, i4⟩ := hi; omega)).mono ?_
    rintro e w' ⟨he, hb⟩
    exact ⟨he, goes_same hr' hb (Nat.le_add_right _ _)⟩
  · have hi : isIn (textOf O D L) k 0 := ⟨by omega, by omega, by omega, by omega⟩
    by_cases h2 : m < (textOf O D L).size + t.size
    · have hE : insE (textOf O D L) m k t = 3 := by rw [insE, if_neg h1, if_pos h2]
      rw [insS, bump, hE, if_neg (by omega), if_neg (by omega)]
      refine (insert_big hB k t b1 b2 hi h2 (by omega)).mono ?_
      rintro e w' ⟨he, hb⟩
      exact ⟨he, goes_same hr' hb (Nat.le_add_right _ _)⟩
    · have hE : insE (textOf O D L) m k t = 0 := by rw [insE, if_neg h1, if_neg h2]
      obtain ⟨q, rfl⟩ : ∃ q : Nat, k = q := ⟨k.toNat, by omega⟩
      rw [insS, bump, hE, if_pos rfl, if_pos rfl, Int.toNat_natCast]
      by_cases h3 : t.size = 0
      · rw [insT_none _ _ _ h3 (by omega)]
        refine (insert_none hB q t hi (by omega) h3).mono ?_
        rintro e w' ⟨he, hb⟩
        exact ⟨he, goes_same (hr'.up (Nat.le_add_right _ _)) hb (Nat.le_add_right _ _)⟩
      · refine (insert_yes hB q t hi (by omega) h3 (by omega)).mono ?_
        rintro e w' ⟨he, L', h', al', fr', F', hB', hM, htx, hl⟩
        exact ⟨he, F', L'.length, h', ⟨b, ta, oa, da, O, D ++ t, L', al', fr', rfl, hB', htx.symm, rfl, by rw [ByteArray.size_append]; omega⟩, hl, hM.1, hM.2⟩
/-- A buffer: delete. -/
theorem buffer_delete : ∀ {u : Nat} F w a s m p h (k n : Int), RepU u F w a s m p h → -9223372036854775808 ≤ k → k ≤ 9223372036854775807 → -9223372036854775808 ≤ n → n ≤ 9223372036854775807 →
    Calls Try.prog 40 #[.pointer (some a), .int .i64 k, .int .i64 n] w fun e w' => e = .returned (.int .i64 (delE s k n)) ∧ Goes (RepU u) F w w' a (delS s k n) m (fun p' _ => p' ≤ p + 1) := by
  intro u F w a s m p h k n hr b1 b2 b3 b4
  have hr' := hr
  obtain ⟨b, ta, oa, da, O, D, L, al, fr, rfl, hB, rfl, rfl, hu⟩ := hr
  by_cases hi : isIn (textOf O D L) k n
  · rw [delE, delS, if_pos hi, if_pos hi]
    have hi' := hi
    obtain ⟨i1, i2, i3, i4⟩ := hi'
    obtain ⟨q, rfl⟩ : ∃ q : Nat, k = q := ⟨k.toNat, by omega⟩
    obtain ⟨z, rfl⟩ : ∃ z : Nat, n = z := ⟨n.toNat, by omega⟩
    rw [Int.toNat_natCast, Int.toNat_natCast]
    by_cases h0 : z = 0
    · subst h0
      have e : delT (textOf O D L) q 0 = textOf O D L := by
        rw [delT, Nat.add_zero, ByteArray.extract_append_extract, Nat.zero_min, Nat.max_eq_right (by omega), ByteArray.extract_zero_size]
      rw [e]
      refine (delete_none hB q b1 b2 hi).mono ?_
      rintro e w' ⟨he, hb⟩
      exact ⟨he, goes_same hr' hb (Nat.le_add_right _ _)⟩
    · refine (delete_yes hB q z hi (by omega)).mono ?_
      rintro e w' ⟨he, L', h', al', fr', F', hB', hM, htx, hl⟩
      exact ⟨he, F', L'.length, h', ⟨b, ta, oa, da, O, D, L', al', fr', rfl, hB', htx.symm, rfl, hu⟩, hl, hM.1, hM.2⟩
  · rw [delE, delS, if_neg hi, if_neg hi]
    refine (delete_place hB k n b1 b2 hi).mono ?_
    rintro e w' ⟨he, hb⟩
    exact ⟨he, goes_same hr' hb (Nat.le_add_right _ _)⟩
/-- A buffer: slice. -/
theorem buffer_slice : ∀ {u : Nat} F w a s m p h (k n : Int), RepU u F w a s m p h → -9223372036854775808 ≤ k → k ≤ 9223372036854775807 → -9223372036854775808 ≤ n → n ≤ 9223372036854775807 →
    Calls Try.prog 29 #[.pointer (some a), .int .i64 k, .int .i64 n] w fun e w' => e = .returned (.tuple #[.string (cutS s k n), .int .i64 (delE s k n)]) ∧ Goes (RepU u) F w w' a s m (fun p' h' => p' = p ∧ h' = h) := by
  intro u F w a s m p h k n hr b1 b2 b3 b4
  have hr' := hr
  obtain ⟨b, ta, oa, da, O, D, L, al, fr, rfl, hB, rfl, rfl, hu⟩ := hr
  by_cases hi : isIn (textOf O D L) k n
  · rw [delE, cutS, if_pos hi, if_pos hi]
    have hi' := hi
    obtain ⟨i1, i2, i3, i4⟩ := hi'
    obtain ⟨q, rfl⟩ : ∃ q : Nat, k = q := ⟨k.toNat, by omega⟩
    obtain ⟨z, rfl⟩ : ∃ z : Nat, n = z := ⟨n.toNat, by omega⟩
    refine (slice_yes hB q z hi).mono ?_
    rintro e w' ⟨he, hb⟩
    exact ⟨he, goes_same hr' hb ⟨rfl, rfl⟩⟩
  · rw [delE, cutS, if_neg hi, if_neg hi]
    refine (slice_place hB k n b1 b2 hi).mono ?_
    rintro e w' ⟨he, hb⟩
    exact ⟨he, goes_same hr' hb ⟨rfl, rfl⟩⟩
/-- A buffer: text. -/
theorem buffer_text : ∀ {u : Nat} F w a s m p h, RepU u F w a s m p h →
    Calls Try.prog 16 #[.pointer (some a)] w fun e w' => e = .returned (.string s) ∧ Goes (RepU u) F w w' a s m (fun p' h' => p' = p ∧ h' = h) := by
  intro u F w a s m p h hr
  have hr' := hr
  obtain ⟨b, ta, oa, da, O, D, L, al, fr, rfl, hB, rfl, rfl, hu⟩ := hr
  exact (text_b hB).mono fun e w' ⟨he, hb⟩ => ⟨he, goes_same hr' hb ⟨rfl, rfl⟩⟩
/-- A buffer: len. -/
theorem buffer_len : ∀ {u : Nat} F w a s m p h, RepU u F w a s m p h →
    Calls Try.prog 30 #[.pointer (some a)] w fun e w' => e = .returned (.int .i64 s.size) ∧ Goes (RepU u) F w w' a s m (fun p' h' => p' = p ∧ h' = h) := by
  intro u F w a s m p h hr
  have hr' := hr
  obtain ⟨b, ta, oa, da, O, D, L, al, fr, rfl, hB, rfl, rfl, hu⟩ := hr
  exact (len_b hB).mono fun e w' ⟨he, hb⟩ => ⟨he, goes_same hr' hb ⟨rfl, rfl⟩⟩
/-- A buffer: inv. -/
theorem buffer_inv : ∀ {u : Nat} F w a s m p h, RepU u F w a s m p h → s.size ≤ m ∧ m ≤ 65536 ∧ least h ≤ p ∧ p ≤ s.size ∧ (p = 0 ↔ s.size = 0) ∧ h ≤ 1000 := by
  rintro u F w _ _ m _ h ⟨b, ta, oa, da, O, D, L, al, fr, rfl, hB, rfl, rfl, hu⟩
  obtain ⟨FT, hT, -⟩ := hB.st.tree
  obtain ⟨l1, l2⟩ := hT.low
  rw [its_length] at l1
  have l3 := hB.len
  refine ⟨hB.fits, hB.most, l1, l3, ⟨fun h0 => ?_, fun h0 => by omega⟩, l2⟩
  rw [List.eq_nil_of_length_eq_zero h0]; rfl
/-- A buffer: lt. -/
theorem buffer_lt : ∀ {u : Nat} F w a s m p h, RepU u F w a s m p h → ∀ k, F k → k < w.heap.size := by
  rintro u F w _ _ m _ h ⟨b, ta, oa, da, O, D, L, al, fr, rfl, hB, rfl, rfl, hu⟩
  exact hB.st.lt
/-- A buffer: frame. -/
theorem buffer_frame : ∀ {u : Nat} F w w' a s m p h, RepU u F w a s m p h → KeepsAt F w w' → RepU u F w' a s m p h := by
  rintro u F w w' _ _ m _ h ⟨b, ta, oa, da, O, D, L, al, fr, rfl, hB, rfl, rfl, hu⟩ hk
  exact ⟨b, ta, oa, da, O, D, L, al, fr, rfl, ⟨st_keeps hB.st hk, hB.fine, hB.fits, hB.most, hB.orig, hB.adds, hB.room⟩, rfl, rfl, hu⟩
end Go.Proofs.Ytfdnlbeancdajaa
