/- strings.Join of six texts with a blank between, by contract: walked here over the builder's calls. -/
import Derived.Test.YteenleedonmkmaaGreatDoorRWord
import Derived.Test.YteenleedonmkmaaGreatDoorOBuild
namespace Go.Proofs.YteenleedonmkmaaGreatDoor
open Go Go.RowKit Go.Lib

def tailL (r : List ByteArray) : List UInt8 := (r.map fun y => 32 :: y.data.toList).flatten
theorem tailL_snoc (r : List ByteArray) (x : ByteArray) : tailL (r ++ [x]) = tailL r ++ [32] ++ x.data.toList := by
  unfold tailL
  simp
theorem tailL_len : ∀ (r : List ByteArray), (∀ x ∈ r, x.size ≤ 1000000000000) → (tailL r).length ≤ r.length * 1000000000001
  | [], _ => by simp [tailL]
  | x :: r, h => by
    have ih := tailL_len r fun y hy => h y (List.mem_cons_of_mem _ hy)
    have h1 := h x (List.mem_cons_self ..)
    rw [Lib.size_eq] at h1
    show (32 :: x.data.toList ++ tailL r).length ≤ _
    rw [List.length_append, List.length_cons, List.length_cons]
    omega

set_option maxRecDepth 100000 in
set_option maxHeartbeats 8000000 in
theorem rjoin_any (w : World) (b : Nat) (x0 : ByteArray) (r : List ByteArray) (hl : r.length = 5) (hlt : b < w.heap.size)
    (hc0 : w.cell? ⟨b, 0, none⟩ = some (.string x0)) (hc : ∀ (j : Nat) x, r[j]? = some x → w.cell? ⟨b, j + 1, none⟩ = some (.string x)) (hs0 : x0.size ≤ 1000000000000) (hs : ∀ x ∈ r, x.size ≤ 1000000000000) :
    Calls Tryz.prog 40 #[.slice (some ⟨b, 0, none⟩) 6 6, .string ⟨#[32]⟩] w fun e w' => e = .returned (.string ⟨(x0.data.toList ++ tailL r).toArray⟩) ∧ Below w.heap.size w w' := by
  have HR := Lib.hid (And.intro hl (And.intro hs hlt))
  have HC := Lib.hid (show ∀ k : Nat, k < 6 → ∃ x : ByteArray, w.cell? ⟨b, k, none⟩ = some (.string x) ∧ x.size ≤ 1000000000000 from fun k hk => by
    match k, hk with
    | 0, _ => exact ⟨x0, hc0, hs0⟩
    | j + 1, hj =>
      obtain ⟨y, hy⟩ : ∃ y, r[j]? = some y := ⟨_, List.getElem?_eq_getElem (by omega)⟩
      exact ⟨y, hc j y hy, hs y (List.mem_of_getElem? hy)⟩)
  have HC1 := Lib.hid hc
  have HC0 := Lib.hid hc0
  have HNEW := Lib.hid (show (w.alloc (.cells #[.pointer none, .slice none 0 0] 57)).heap[w.heap.size]? = some (.cells #[.pointer none, .slice none 0 0] 57 (0, 0)) from World.alloc_heap_new _ _)
  have HB0 := Lib.hid ((Below.refl w.heap.size w).alloc (Nat.le_refl _) (.cells #[.pointer none, .slice none 0 0] 57))
  have hx0 : (x0.size : Int) ≤ 1000000000000 := by omega
  clear hl hlt hc0 hc hs0 hs
  go_enter Tryz.func40, Tryz.ntmps40
  go_wp2_with fail
  go_loopg [5, 7, 41] 6 (fun g nv _ iv wr => ∃ k nn : Nat, k + g = 6 ∧ nn ≤ 5 + k * 1000000000000 ∧ nv = .int .i64 nn ∧ iv = .int .i64 k ∧ w = wr)
  case atStart => exact ⟨0, 5, by omega, by omega, by go_num, rfl, rfl⟩
  case round =>
    obtain ⟨k, nn, hk, hnn, rfl, rfl, rfl⟩ := hrel
    rcases Nat.eq_zero_or_pos gk with h0 | h0
    · have hk6 : ¬ (k : Int) < 6 := by omega
      have hgr : (nn : Int) ≤ 281474976710656 := by omega
      have CG := Lib.hid (Tryz.Builder_Grow_fresh w.heap.size w.heap.size nn _ (Nat.le_refl _) HNEW.out (by simp) (by omega))
      have HBB := Lib.hid (show ∀ wx, Below w.heap.size (w.alloc (.cells #[.pointer none, .slice none 0 0] 57)) wx → wx.cell? ⟨b, 0, none⟩ = some (.string x0) from fun wx hb => (HB0.out.trans hb).cell (p := ⟨b, 0, none⟩) HR.out.2.2 ▸ HC0.out)
      clear hk hnn
      go_wp2_with (go_at_call 68; refine CG.out.mono ?_; rintro e w1 ⟨rfl, hat, hb1⟩; have H1 := Lib.hid (And.intro hat hb1); clear hat hb1; have d0 := HBB.out w1 H1.out.2)
      have hsz := (HB0.out.trans H1.out.2).size
      have CW := Lib.hid (writes_any w.heap.size w.heap.size [] x0 w1 (.inr H1.out.1) (by show 0 + _ ≤ _; omega) hsz)
      have HB1 := Lib.hid (HB0.out.trans H1.out.2)
      clear hsz H1
      go_wp2_with (go_at_call 18; refine CW.out.mono ?_)
      rintro e w2 ⟨⟨v2, rfl⟩, hB2, hb2⟩
      have HM := Lib.hid (show Lib.IsBuilder 57 5 w.heap.size w.heap.size (Lib.byteCells (x0.data.toList ++ tailL (r.take 0))) w2 ∧ Below w.heap.size w w2 from
        ⟨by simpa [tailL, ← cells_str, r_mk] using hB2, HB1.out.trans hb2⟩)
      clear hB2 hb2 d0
      go_wp2_with fail
      go_loopg [10, 65] 5 (fun g _ iv wr => ∃ m : Nat, m + g = 5 ∧ iv = .int .i64 m ∧ Hid (Lib.IsBuilder 57 5 w.heap.size w.heap.size (Lib.byteCells (x0.data.toList ++ tailL (r.take m))) wr ∧ Below w.heap.size w wr))
      case atStart => exact ⟨0, by omega, rfl, HM⟩
      case round =>
        obtain ⟨m, hm, rfl, HM⟩ := hrel
        have hm0 : (0 : Int) ≤ m := by omega
        have hs1 := HM.out.2.size
        rcases Nat.eq_zero_or_pos gk with h0 | h0
        · have hm5 : ¬ (m : Int) < 5 := by omega
          have hfull : r.take m = r := List.take_of_length_le (by have := HR.out.1; omega)
          rw [hfull] at HM
          have CS := Lib.hid (string_any w.heap.size w.heap.size _ wr HM.out.1 hs1)
          clear hfull hs1
          go_wp2_with (go_at_call 21; refine CS.out.mono ?_; rintro e w4 ⟨rfl, hb4⟩; have HB4 := Lib.hid (HM.out.2.trans hb4); clear hb4)
          go_ret
          exact ⟨rfl, HB4.out⟩
        · have hm5 : (m : Int) < 5 := by omega
          obtain ⟨x, hx⟩ : ∃ x, r[m]? = some x := ⟨_, List.getElem?_eq_getElem (by have := HR.out.1; omega)⟩
          have hxs := HR.out.2.1 x (List.mem_of_getElem? hx)
          have htl : (tailL (r.take m)).length ≤ 5 * 1000000000001 := by
            refine Nat.le_trans (tailL_len _ fun y hy => HR.out.2.1 y (List.mem_of_mem_take hy)) ?_
            rw [List.length_take]
            have := HR.out.1
            exact Nat.mul_le_mul_right _ (by omega)
          have d1 : wr.cell? ⟨b, m + 1, none⟩ = some (.string x) := (HM.out.2.cell (p := ⟨b, m + 1, none⟩) HR.out.2.2).trans (HC1.out m x hx)
          have d2 : wr.cell? ⟨b, 1 + m, none⟩ = some (.string x) := by rw [Nat.add_comm]; exact d1
          have HT := Lib.hid (show tailL (r.take (m + 1)) = tailL (r.take m) ++ [32] ++ x.data.toList by
            obtain ⟨hlt, he⟩ := List.getElem?_eq_some_iff.1 hx
            rw [List.take_succ_eq_append_getElem hlt, he, tailL_snoc])
          have hx0' : x0.data.toList.length ≤ 1000000000000 := by rw [← Lib.size_eq]; omega
          have CB := Lib.hid (writes_any w.heap.size w.heap.size _ ⟨#[32]⟩ wr HM.out.1 (by rw [Lib.byteCells_length, List.length_append]; show _ + 1 ≤ _; omega) hs1)
          have CX := Lib.hid (fun wx (h : Lib.IsBuilder 57 5 w.heap.size w.heap.size (Lib.byteCells (x0.data.toList ++ tailL (r.take m)) ++ Lib.strCells ⟨#[32]⟩) wx) (hs : w.heap.size ≤ wx.heap.size) => writes_any w.heap.size w.heap.size _ x wx h (by rw [List.length_append, Lib.byteCells_length, List.length_append, Lib.strCells_length]; show _ + 1 + _ ≤ _; omega) hs)
          have KX := Lib.hid (fun wx (hb : Below w.heap.size w wx) => (hb.cell (p := ⟨b, m + 1, none⟩) HR.out.2.2).trans (HC1.out m x hx))
          clear hx hxs htl hs1 hx0'
          go_wp2_with (first
            | (have hX := HX0; go_at_call 18; refine (CX.out _ HX0.out.1 HX0.out.2.size).mono ?_; rintro e w6 ⟨⟨v6, rfl⟩, hB6, hb6⟩; have HX1 := Lib.hid (And.intro hB6 (HX0.out.2.trans hb6)); clear hB6 hb6)
            | (go_at_call 18; refine CB.out.mono ?_; rintro e w5 ⟨⟨v5, rfl⟩, hB5, hb5⟩; have HX0 := Lib.hid (And.intro hB5 (HM.out.2.trans hb5)); clear hB5 hb5))
          have HM2 := Lib.hid (show Lib.IsBuilder 57 5 w.heap.size w.heap.size (Lib.byteCells (x0.data.toList ++ tailL (r.take (m + 1)))) _ ∧ Below w.heap.size w _ from
            ⟨by
              have := HX1.out.1
              rw [show Lib.strCells (⟨#[32]⟩ : ByteArray) = Lib.byteCells [32] from rfl, show Lib.strCells x = Lib.byteCells x.data.toList from rfl, cells_app, cells_app] at this
              rw [HT.out, ← List.append_assoc, ← List.append_assoc]
              exact this, HX1.out.2⟩)
          go_roundg (gk - 1)
          case measure => omega
          case rel => exact ⟨m + 1, by omega, by go_num, HM2⟩
    · have hk6 : (k : Int) < 6 := by omega
      have hk0 : (0 : Int) ≤ k := by omega
      obtain ⟨x, hx, hxs⟩ := HC.out k (by omega)
      have h1 : ¬ (9223372036854775807 - (nn : Int)) < x.size := by omega
      have w1 : IntKind.i64.wrap (9223372036854775807 - (nn : Int)) = 9223372036854775807 - nn := IntWalk.i64_in _ (by omega)
      have w2 : IntKind.i64.wrap ((nn : Int) + x.size) = ((nn + x.size : Nat) : Int) := by rw [IntWalk.i64_in _ (by omega)]; omega
      have w3 : IntKind.i64.wrap ((k : Int) + 1) = ((k + 1 : Nat) : Int) := by rw [IntWalk.i64_in _ (by omega)]; omega
      go_wp2_with fail
      go_roundg (gk - 1)
      case measure => omega
      case rel => exact ⟨k + 1, nn + x.size, by omega, by omega, by go_num, by go_num, rfl⟩
end Go.Proofs.YteenleedonmkmaaGreatDoor
