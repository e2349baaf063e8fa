/- Stage 10's law RuleAffixes, out of what is asked of rule's calls. -/
import Derived.Test.YtjeehdbnliifnaaDoorQLaws
import Derived.Test.YtjeehdbnliifnaaDoorNPlace
import Derived.Deep.RegionWith
import Derived.Deep.CutRange
import Derived.Deep.DeepCutAuto
namespace Go.Proofs.YtjeehdbnliifnaaDoor
open Go Go.RowKit

def letB : ByteArray := ⟨#[97, 98, 99, 100, 101, 102, 103, 104, 105, 106, 107, 108, 109, 110, 111, 112, 113, 114, 115, 116]⟩
def xOf : Nat → ByteArray
  | 0 => ⟨#[]⟩
  | 1 => ⟨#[120]⟩
  | 2 => ⟨#[120, 121]⟩
  | _ => ⟨#[195, 169]⟩
def anyI : List It := [⟨true, false, []⟩]
theorem let_facts : ∀ k : Fin 9, (letB.extract 0 k.val).size = k.val ∧ (codesB (letB.extract 0 k.val).data.toList).isSome = true ∧ ((codesB (letB.extract 0 k.val).data.toList).getD []).length = k.val := by decide +kernel
theorem ends_any {cs : List Int} (h : 0 < cs.length) : endsP anyI cs = true ∧ startsP anyI cs = true := by
  have one : ∀ l : List Int, 0 < l.length → startsP anyI l = true := fun l hl => by
    cases l with
    | nil => simp at hl
    | cons c l => simp [startsP, anyI, hasP]
  refine ⟨?_, one cs h⟩
  unfold endsP
  rw [one _ (by rw [List.length_drop]; show 0 < cs.length - (cs.length - 1); omega)]
  simp [anyI]; omega
theorem ex_size (W : ByteArray) (i j : Nat) (h1 : i ≤ j) (h2 : j ≤ W.size) : (W.extract i j).size = j - i := by
  rw [ByteArray.size_extract]; omega
/-- What comes of a word of letters by a suffix, by a prefix. -/
theorem aff_suf {W A X : ByteArray} {k n : Nat} {cs : List Int} (hW : W.size = k) (hk : 0 < k) (hn : n ≤ k) (hc : codesB W.data.toList = some cs) (hcs : cs.length = k) (hA : A = W.extract (k - n) k) : applyR ⟨false, 83, true, A, X, anyI⟩ W = W.extract 0 (k - n) ++ X := by
  have hs : A.size = n := by rw [hA, ex_size _ _ _ (by omega) (by omega)]; omega
  unfold applyR
  rw [hc]
  dsimp only
  rw [if_neg (by decide), hs, hW, if_pos ⟨hn, hA.symm, (ends_any (by omega)).1⟩]
theorem aff_pre {W B X : ByteArray} {k m : Nat} {c : Bool} {cs : List Int} (hW : W.size = k) (hk : 0 < k) (hm : m ≤ k) (hc : codesB W.data.toList = some cs) (hcs : cs.length = k) (hB : B = W.extract 0 m) : applyR ⟨true, 80, c, B, X, anyI⟩ W = X ++ W.extract m k := by
  have hs : B.size = m := by rw [hB, ex_size _ _ _ (by omega) (by omega)]; omega
  unfold applyR
  rw [hc]
  dsimp only
  rw [if_pos rfl, hs, hW, if_pos ⟨hm, hB.symm, (ends_any (by omega)).2⟩]
theorem both_aff {W A B X : ByteArray} {k n m : Nat} {cs : List Int} (hW : W.size = k) (hk : 0 < k) (hn : n ≤ k) (hm : m ≤ k) (hc : codesB W.data.toList = some cs) (hcs : cs.length = k) (hA : A = W.extract (k - n) k) (hB : B = W.extract 0 m) :
    bothR ⟨true, 80, true, B, X, anyI⟩ ⟨false, 83, true, A, X, anyI⟩ W = if n + m ≤ k ∧ okB (W.extract 0 (k - n) ++ X) = true ∧ okB (X ++ W.extract m k) = true then X ++ W.extract m (k - n) ++ X else ⟨#[]⟩ := by
  have hs : A.size = n := by rw [hA, ex_size _ _ _ (by omega) (by omega)]; omega
  have ht : B.size = m := by rw [hB, ex_size _ _ _ (by omega) (by omega)]; omega
  unfold bothR
  rw [aff_suf hW hk hn hc hcs hA, aff_pre hW hk hm hc hcs hB]
  dsimp only
  rw [hs, ht, hW]
  unfold okB
  simp only [decide_eq_true_eq]
  by_cases h : n + m ≤ k ∧ (W.extract 0 (k - n) ++ X).size ≠ 0 ∧ (X ++ W.extract m k).size ≠ 0
  · rw [if_pos h, if_pos ⟨by simp, by simp, by simp, by simp, h.2.2, h.2.1, by omega⟩]
  · rw [if_neg h, if_neg (fun e => h ⟨by omega, e.2.2.2.2.2.1, e.2.2.2.2.1⟩)]
theorem both_no1 {B X A : ByteArray} {W : ByteArray} : bothR ⟨true, 80, false, B, X, anyI⟩ ⟨false, 83, true, A, X, anyI⟩ W = ⟨#[]⟩ := by
  unfold bothR
  exact if_neg (fun e => by cases e.2.2.1)
theorem both_no2 {B X A : ByteArray} {W : ByteArray} : bothR ⟨false, 83, true, A, X, anyI⟩ ⟨true, 80, true, B, X, anyI⟩ W = ⟨#[]⟩ := by
  unfold bothR
  exact if_neg (fun e => by cases e.1)
theorem okB_empty (s : ByteArray) : s.toList.isEmpty = !okB s := by
  unfold okB
  rw [ByteArray.toList_eq, Lib.size_eq]
  cases s.data.toList <;> simp
theorem anyI_few {p c : Bool} {f : Int} {A X : ByteArray} (h1 : A.size ≤ 8) (h2 : X.size ≤ 2) : FewR ⟨p, f, c, A, X, anyI⟩ := ⟨by show anyI.length ≤ 12; decide, fun it hit => by
  have : it = ⟨true, false, []⟩ := by simpa [anyI] using hit
  subst this; exact Nat.zero_le _, by show A.size ≤ 200; omega, by show X.size ≤ 200; omega⟩
variable {T : World → Prop}

theorem pkX0 (w : World) : (Instr.index 33 (.agg #[.string ⟨#[]⟩, .string ⟨#[120]⟩, .string ⟨#[120, 121]⟩, .string ⟨#[195, 169]⟩]) (.int .i64 0)).run Tryd.prog w = .ok (.string (xOf 0)) w := by kernel_rfl
theorem pkX1 (w : World) : (Instr.index 33 (.agg #[.string ⟨#[]⟩, .string ⟨#[120]⟩, .string ⟨#[120, 121]⟩, .string ⟨#[195, 169]⟩]) (.int .i64 1)).run Tryd.prog w = .ok (.string (xOf 1)) w := by kernel_rfl
theorem pkX2 (w : World) : (Instr.index 33 (.agg #[.string ⟨#[]⟩, .string ⟨#[120]⟩, .string ⟨#[120, 121]⟩, .string ⟨#[195, 169]⟩]) (.int .i64 2)).run Tryd.prog w = .ok (.string (xOf 2)) w := by kernel_rfl
theorem pkX3 (w : World) : (Instr.index 33 (.agg #[.string ⟨#[]⟩, .string ⟨#[120]⟩, .string ⟨#[120, 121]⟩, .string ⟨#[195, 169]⟩]) (.int .i64 3)).run Tryd.prog w = .ok (.string (xOf 3)) w := by kernel_rfl
theorem pkX (h : Nat) (hh : h < 4) (w : World) : (Instr.index 33 (.agg #[.string ⟨#[]⟩, .string ⟨#[120]⟩, .string ⟨#[120, 121]⟩, .string ⟨#[195, 169]⟩]) (.int .i64 h)).run Tryd.prog w = .ok (.string (xOf h)) w := by
  have hc : h = 0 ∨ h = 1 ∨ h = 2 ∨ h = 3 := by omega
  rcases hc with rfl | rfl | rfl | rfl
  · exact pkX0 w
  · exact pkX1 w
  · exact pkX2 w
  · exact pkX3 w
theorem xOf_size (h : Nat) (hh : h < 4) : (xOf h).size ≤ 2 := by
  have hc : h = 0 ∨ h = 1 ∨ h = 2 ∨ h = 3 := by omega
  rcases hc with rfl | rfl | rfl | rfl <;> decide

set_option maxRecDepth 100000 in
set_option maxHeartbeats 4000000 in
theorem aff_law (S : SaysR T) (w : World) (hT : T w) (stem strip add two : Int) : Calls Tryd.prog 4 #[.int .i64 stem, .int .i64 strip, .int .i64 add, .int .i64 two] w fun e w' => e = .returned (.bool true) ∧ Below w.heap.size w w' := by
  obtain ⟨k0, hk0⟩ : ∃ k : Nat, stem % 8 = k := ⟨(stem % 8).toNat, by omega⟩
  have hk8 : k0 < 8 := by omega
  obtain ⟨k, hk⟩ : ∃ k, k = k0 + 1 := ⟨_, rfl⟩
  have hkp : 0 < k := by omega
  have hk9 : k ≤ 8 := by omega
  obtain ⟨n, hn⟩ : ∃ n : Nat, strip % ((k : Int) + 1) = n := ⟨(strip % ((k : Int) + 1)).toNat, by have := Int.emod_nonneg strip (show ((k : Int) + 1) ≠ 0 by omega); omega⟩
  have hnk : n ≤ k := by have := Int.emod_lt_of_pos strip (show (0 : Int) < (k : Int) + 1 by omega); omega
  obtain ⟨m, hm⟩ : ∃ m : Nat, two % ((k : Int) + 1) = m := ⟨(two % ((k : Int) + 1)).toNat, by have := Int.emod_nonneg two (show ((k : Int) + 1) ≠ 0 by omega); omega⟩
  have hmk : m ≤ k := by have := Int.emod_lt_of_pos two (show (0 : Int) < (k : Int) + 1 by omega); omega
  obtain ⟨h, hh⟩ : ∃ h : Nat, add % 4 = h := ⟨(add % 4).toNat, by omega⟩
  have hh4 : h < 4 := by omega
  have P1 := Lib.hid (fun wx => place9 stem 8 wx (by omega) (by omega))
  rw [hk0] at P1
  have P2 := Lib.hid (fun wx => place9 strip ((k : Int) + 1) wx (by omega) (by omega))
  rw [hn] at P2
  have P3 := Lib.hid (fun wx => place9 two ((k : Int) + 1) wx (by omega) (by omega))
  rw [hm] at P3
  have P4 := Lib.hid (fun wx => place9 add 4 wx (by omega) (by omega))
  rw [hh] at P4
  obtain ⟨l1, l2, l3⟩ := let_facts ⟨k, by omega⟩
  dsimp only at l1 l2 l3
  obtain ⟨cs, hcs⟩ : ∃ cs, codesB (letB.extract 0 k).data.toList = some cs := Option.isSome_iff_exists.1 l2
  rw [hcs] at l3
  simp only [Option.getD_some] at l3
  have ix := pkX h hh4
  have hx2 := xOf_size h hh4
  obtain ⟨X, hX⟩ : ∃ X, X = xOf h := ⟨_, rfl⟩
  rw [← hX] at ix hx2
  obtain ⟨W, hW⟩ : ∃ W, W = letB.extract 0 k := ⟨_, rfl⟩
  have hWl : (⟨#[97, 98, 99, 100, 101, 102, 103, 104, 105, 106, 107, 108, 109, 110, 111, 112, 113, 114, 115, 116]⟩ : ByteArray).extract 0 k = W := hW.symm
  rw [← hW] at l1 hcs
  have HF := Lib.hid (And.intro l1 (And.intro hcs l3))
  have HS := Lib.hid (And.intro S hT)
  have HX := Lib.hid hX
  have HKK := Lib.hid hk
  have tk1 : IntKind.i64.wrap (1 + (k0 : Int)) = k := by rw [IntWalk.i64_in _ (by omega)]; omega
  have tk2 : IntKind.i64.wrap ((k : Int) + 1) = (k : Int) + 1 := by rw [IntWalk.i64_in _ (by omega)]
  have tk3 : IntKind.i64.wrap ((k : Int) - n) = ((k - n : Nat) : Int) := by rw [IntWalk.i64_in _ (by omega)]; omega
  have tk4 : (0 : Int) ≤ k := by omega
  have tk5 : (k : Int) ≤ 20 := by omega
  have tk6 : (0 : Int) ≤ ((k - n : Nat) : Int) := by omega
  have tk7 : ((k - n : Nat) : Int) ≤ k := by omega
  have tk8 : (0 : Int) ≤ m := by omega
  have tk9 : (m : Int) ≤ k := by omega
  clear hk0 hn hm hh hcs l2 l3 hW hX S hT hk
  go_enter Tryd.func4, Tryd.ntmps4
  go_wp2_with fail
  refine (P1.out _).mono ?_
  rintro e w0 ⟨rfl, rfl⟩
  go_wp2_with fail
  refine (P2.out _).mono ?_
  rintro e w0 ⟨rfl, rfl⟩
  go_wp2_with fail
  refine (P3.out _).mono ?_
  rintro e w0 ⟨rfl, rfl⟩
  go_wp2_with fail
  refine (P4.out _).mono ?_
  rintro e w0 ⟨rfl, rfl⟩
  go_wp2_with fail
  obtain ⟨A, hA⟩ : ∃ A, A = W.extract (k - n) k := ⟨_, rfl⟩
  obtain ⟨B, hB⟩ : ∃ B, B = W.extract 0 m := ⟨_, rfl⟩
  rw [← hA, ← hB]
  have hAs : A.size ≤ 8 := by rw [hA, ex_size _ _ _ (by omega) (by omega)]; omega
  have hBs : B.size ≤ 8 := by rw [hB, ex_size _ _ _ (by omega) (by omega)]; omega
  obtain ⟨wB, hwB⟩ : ∃ wB, wB = ((w.alloc (.cells #[.bool true, .bool false, .slice none 0 0] /-t-/36)).alloc (.cells #[.bool false, .int .i64 83, .bool true, .string A, .string X, .slice (some ⟨w.heap.size, 0, none⟩) 1 1] /-t-/25)).alloc (.cells #[.bool true, .int .i64 80, .bool true, .string B, .string X, .slice (some ⟨w.heap.size, 0, none⟩) 1 1] /-t-/25) := ⟨_, rfl⟩
  rw [← hwB]
  have hbel : Below w.heap.size w wB := by
    rw [hwB]
    exact (((Below.refl _ _).alloc (Nat.le_refl _) _).alloc (by rw [World.size_alloc]; omega) _).alloc (by simp only [World.size_alloc]; omega) _
  have hits : ItemsAt wB (.slice (some ⟨w.heap.size, 0, none⟩) 1 1) anyI := by
    have h0 : ItemsAt (w.alloc (.cells #[.bool true, .bool false, .slice none 0 0] /-t-/36)) (.slice (some ⟨w.heap.size, 0, none⟩) 1 1) anyI := by
      refine .inr ⟨w.heap.size, 0, 1, rfl, by simp, by decide, by decide, fun i it hi => ?_⟩
      match i, hi with
      | 0, hi =>
        have : it = ⟨true, false, []⟩ := by simpa [anyI] using hi.symm
        subst this
        have hh := World.alloc_heap_new w (.cells #[.bool true, .bool false, .slice none 0 0] /-t-/36)
        exact ⟨by simp, by simp, .slice none 0 0, by simp, .inl ⟨rfl, _, _, rfl⟩⟩
      | i + 1, hi => simp [anyI] at hi
    rw [hwB]
    exact h0.keep (((Below.refl _ _).alloc (Nat.le_refl _) _).alloc (by simp only [World.size_alloc]; omega) _)
  have hcell : ∀ wx, Below wB.heap.size wB wx → (wx.cell? ⟨w.heap.size + 1, 0, none⟩ = some (.bool false) ∧ wx.cell? ⟨w.heap.size + 1, 1, none⟩ = some (.int .i64 83) ∧ wx.cell? ⟨w.heap.size + 1, 2, none⟩ = some (.bool true) ∧ wx.cell? ⟨w.heap.size + 1, 3, none⟩ = some (.string A) ∧ wx.cell? ⟨w.heap.size + 1, 4, none⟩ = some (.string X) ∧ wx.cell? ⟨w.heap.size + 1, 5, none⟩ = some (.slice (some ⟨w.heap.size, 0, none⟩) 1 1)) ∧
      (wx.cell? ⟨w.heap.size + 1 + 1, 0, none⟩ = some (.bool true) ∧ wx.cell? ⟨w.heap.size + 1 + 1, 1, none⟩ = some (.int .i64 80) ∧ wx.cell? ⟨w.heap.size + 1 + 1, 2, none⟩ = some (.bool true) ∧ wx.cell? ⟨w.heap.size + 1 + 1, 3, none⟩ = some (.string B) ∧ wx.cell? ⟨w.heap.size + 1 + 1, 4, none⟩ = some (.string X) ∧ wx.cell? ⟨w.heap.size + 1 + 1, 5, none⟩ = some (.slice (some ⟨w.heap.size, 0, none⟩) 1 1)) := fun wx hb => by
    have g1 := box6 (w := w.alloc (.cells #[.bool true, .bool false, .slice none 0 0] /-t-/36)) (w' := wx) (a := .bool false) (b := .int .i64 83) (c := .bool true) (d := .string A) (e := .string X) (f := .slice (some ⟨w.heap.size, 0, none⟩) 1 1) (t := /-t-/25) (by
      rw [hwB] at hb
      exact ((Below.refl _ _).alloc (Nat.le_refl _) _).trans (hb.mono (by simp only [World.size_alloc]; omega)))
    have g2 := box6 (w := (w.alloc (.cells #[.bool true, .bool false, .slice none 0 0] /-t-/36)).alloc (.cells #[.bool false, .int .i64 83, .bool true, .string A, .string X, .slice (some ⟨w.heap.size, 0, none⟩) 1 1] /-t-/25)) (w' := wx) (a := .bool true) (b := .int .i64 80) (c := .bool true) (d := .string B) (e := .string X) (f := .slice (some ⟨w.heap.size, 0, none⟩) 1 1) (t := /-t-/25) (hwB ▸ hb)
    rw [World.size_alloc] at g1
    rw [World.size_alloc, World.size_alloc] at g2
    exact ⟨g1, g2⟩
  have RS : ∀ wx, Below wB.heap.size wB wx → RuAt wx (.agg #[.bool false, .int .i64 83, .bool true, .string A, .string X, .slice (some ⟨w.heap.size, 0, none⟩) 1 1]) ⟨false, 83, true, A, X, anyI⟩ := fun wx hb => ⟨_, _, rfl, hits.keep hb⟩
  have RP : ∀ wx, Below wB.heap.size wB wx → ∀ c, RuAt wx (.agg #[.bool true, .int .i64 80, .bool c, .string B, .string X, .slice (some ⟨w.heap.size, 0, none⟩) 1 1]) ⟨true, 80, c, B, X, anyI⟩ := fun wx hb c => ⟨_, _, rfl, hits.keep hb⟩
  have tB := HS.out.1.kept w wB HS.out.2 hbel
  obtain ⟨SA, hSA⟩ : ∃ SA, SA = W.extract 0 (k - n) ++ X := ⟨_, rfl⟩
  obtain ⟨PB, hPB⟩ : ∃ PB, PB = X ++ W.extract m k := ⟨_, rfl⟩
  have fS := aff_suf (X := X) l1 hkp hnk HF.out.2.1 HF.out.2.2 hA
  have fP := fun c => aff_pre (X := X) (c := c) l1 hkp hmk HF.out.2.1 HF.out.2.2 hB
  have fB := both_aff (X := X) l1 hkp hnk hmk HF.out.2.1 HF.out.2.2 hA hB
  rw [← hSA] at fS
  rw [← hSA, ← hPB] at fB
  have fP1 := fP true
  rw [← hPB] at fP1
  have C1 := Lib.hid (HS.out.1.apply wB _ _ W tB (RS wB (Below.refl _ _)) (anyI_few hAs hx2) (by omega))
  rw [fS] at C1
  have HB := Lib.hid (And.intro hbel (And.intro hcell (And.intro RS (And.intro RP (And.intro tB (And.intro hAs (And.intro hBs (And.intro fP1 fB))))))))
  have HSA := Lib.hid (And.intro hSA hPB)
  have KEEP := Lib.hid (fun wx (hb : Below wB.heap.size wB wx) => HS.out.1.kept wB wx HB.out.2.2.2.2.1 hb)
  clear hwB hbel hits hcell RS RP tB fS fP fB fP1 hA hB hAs hBs hWl hSA hPB
  refine C1.out.mono ?_
  rintro e w1 ⟨rfl, hb1⟩
  obtain ⟨-, z0, z1, z2, z3, z4, z5⟩ := HB.out.2.1 w1 hb1
  have C2 := Lib.hid (HS.out.1.apply w1 _ _ W (KEEP.out w1 hb1) (HB.out.2.2.2.1 w1 hb1 true) (anyI_few HB.out.2.2.2.2.2.2.1 hx2) (by omega))
  rw [HB.out.2.2.2.2.2.2.2.1] at C2
  have B1 := Lib.hid hb1
  clear hb1 C1
  go_wp2_with fail
  refine C2.out.mono ?_
  rintro e w2 ⟨rfl, hb2⟩
  have hb2' := B1.out.trans (hb2.mono B1.out.size)
  clear z0 z1 z2 z3 z4 z5
  obtain ⟨⟨y0, y1, y2, y3, y4, y5⟩, z0, z1, z2, z3, z4, z5⟩ := HB.out.2.1 w2 hb2'
  have C3 := Lib.hid (HS.out.1.both w2 _ _ _ _ W (KEEP.out w2 hb2') (HB.out.2.2.2.1 w2 hb2' true) (anyI_few HB.out.2.2.2.2.2.2.1 hx2) (HB.out.2.2.1 w2 hb2') (anyI_few HB.out.2.2.2.2.2.1 hx2) (by omega))
  rw [HB.out.2.2.2.2.2.2.2.2] at C3
  have B2 := Lib.hid hb2'
  clear hb2 hb2' C2 B1
  go_wp2_with fail
  obtain ⟨BC, hBC⟩ : ∃ BC, BC = if n + m ≤ k ∧ okB SA = true ∧ okB PB = true then X ++ W.extract m (k - n) ++ X else ⟨#[]⟩ := ⟨_, rfl⟩
  rw [← hBC] at C3
  have HBC := Lib.hid hBC
  clear hBC
  refine C3.out.mono ?_
  rintro e w3 ⟨rfl, hb3⟩
  have hb3' := B2.out.trans (hb3.mono B2.out.size)
  clear y0 y1 y2 y3 y4 y5 z0 z1 z2 z3 z4 z5
  have hq := (Below.refl w3.heap.size w3).alloc (Nat.le_refl _) (.cells #[.bool true, .int .i64 80, .bool false, .string B, .string X, .slice (some ⟨w.heap.size, 0, none⟩) 1 1] /-t-/25)
  have hbq := hb3'.trans (hq.mono hb3'.size)
  obtain ⟨⟨y0, y1, y2, y3, y4, y5⟩, z0, z1, z2, z3, z4, z5⟩ := HB.out.2.1 w3 hb3'
  obtain ⟨⟨v0, v1, v2, v3, v4, v5⟩, u0, u1, u2, u3, u4, u5⟩ := HB.out.2.1 _ hbq
  have C4 := Lib.hid (HS.out.1.both _ _ _ _ _ W (KEEP.out _ hbq) (HB.out.2.2.2.1 _ hbq false) (anyI_few HB.out.2.2.2.2.2.2.1 hx2) (HB.out.2.2.1 _ hbq) (anyI_few HB.out.2.2.2.2.2.1 hx2) (by omega))
  rw [both_no1] at C4
  have B3 := Lib.hid (And.intro hb3' hbq)
  have e0 : okB (⟨#[]⟩ : ByteArray) = false := rfl
  clear hb3 hb3' hq hbq C3 B2
  go_wp2_with fail
  refine C4.out.mono ?_
  rintro e w4 ⟨rfl, hb4⟩
  have hb4' := B3.out.2.trans (hb4.mono B3.out.2.size)
  clear y0 y1 y2 y3 y4 y5 z0 z1 z2 z3 z4 z5 v0 v1 v2 v3 v4 v5 u0 u1 u2 u3 u4 u5
  obtain ⟨⟨y0, y1, y2, y3, y4, y5⟩, z0, z1, z2, z3, z4, z5⟩ := HB.out.2.1 w4 hb4'
  have C5 := Lib.hid (HS.out.1.both w4 _ _ _ _ W (KEEP.out w4 hb4') (HB.out.2.2.1 w4 hb4') (anyI_few HB.out.2.2.2.2.2.1 hx2) (HB.out.2.2.2.1 w4 hb4' true) (anyI_few HB.out.2.2.2.2.2.2.1 hx2) (by omega))
  rw [both_no2] at C5
  have B4 := Lib.hid hb4'
  clear hb4 hb4' C4 B3
  go_wp2_with fail
  refine C5.out.mono ?_
  rintro e w5 ⟨rfl, hb5⟩
  have hb5' := HB.out.1.trans ((B4.out.trans (hb5.mono B4.out.size)).mono HB.out.1.size)
  have B5 := Lib.hid hb5'
  have AW := Lib.hid (fun wx (hb : Below w.heap.size w wx) => awake_any HS.out.1 wx (HS.out.1.kept w wx HS.out.2 hb))
  clear y0 y1 y2 y3 y4 y5 z0 z1 z2 z3 z4 z5 hb5 hb5' C5 B4
  have g1 : W.extract 0 (k - n) ++ X = SA := HSA.out.1.symm
  have g2 : X ++ W.extract m k = PB := HSA.out.2.symm
  have cat1 : ¬ 9223372036854775807 < min (k - n) k + X.size := by omega
  have cat2 : ¬ 9223372036854775807 < X.size + (k - m) := by omega
  go_wp2_with fail
  go_quiet (fail)
  have E1 := okB_empty SA
  have E2 := okB_empty PB
  have E3 := okB_empty BC
  have s1 : (SA.toList == SA.toList) = true := by simp
  have s2 : (PB.toList == PB.toList) = true := by simp
  have s3 : (BC.toList == BC.toList) = true := by simp
  have HBB := Lib.hid HBC.out
  clear HBC
  have tw : IntKind.i64.wrap ((n : Int) + m) = (n : Int) + m := by rw [IntWalk.i64_in _ (by omega)]
  have hempty : okB (⟨#[]⟩ : ByteArray) = false := rfl
  have fin : ∀ wx, Below w.heap.size w wx → Calls Tryd.prog 6 #[] wx fun e w' => e = .returned (.bool true) ∧ Below w.heap.size w w' := fun wx hb => (AW.out wx hb).mono fun e w' ⟨he, h2⟩ => ⟨he, hb.trans (h2.mono hb.size)⟩
  have FIN := Lib.hid (fin _ (below_drewN B5.out nq))
  clear fin
  cases hA : okB SA <;> cases hP : okB PB <;> by_cases hnm : n + m ≤ k
  all_goals
    rw [hA, hP] at HBB
    first
      | (have hb : BC = ⟨#[]⟩ := by simpa [hnm] using HBB.out
         subst hb
         have hn3 : ¬ (n : Int) + m ≤ k := by omega
         clear HBB E3 s3
         go_wp2_with fail
         refine FIN.out.mono ?_
         rintro e w6 ⟨rfl, hb6⟩
         have HB6 := Lib.hid hb6
         clear hb6
         go_wp2_with fail
         go_ret
         exact ⟨rfl, HB6.out⟩)
      | (have hb : BC = ⟨#[]⟩ := by simpa [hnm] using HBB.out
         subst hb
         have hn3 : (n : Int) + m ≤ k := by omega
         have cat3 : ¬ 9223372036854775807 < X.size + (min (k - n) k - m) := by omega
         have cat4 : ¬ 9223372036854775807 < X.size + (min (k - n) k - m) + X.size := by omega
         have tmk : (m : Int) ≤ ((k - n : Nat) : Int) := by omega
         clear HBB E3 s3
         go_wp2_with fail
         refine FIN.out.mono ?_
         rintro e w6 ⟨rfl, hb6⟩
         have HB6 := Lib.hid hb6
         clear hb6
         go_wp2_with fail
         go_ret
         exact ⟨rfl, HB6.out⟩)
      | (have hb : X ++ W.extract m (k - n) ++ X = BC := by simpa [hnm] using HBB.out.symm
         have hn3 : (n : Int) + m ≤ k := by omega
         have cat3 : ¬ 9223372036854775807 < X.size + (min (k - n) k - m) := by omega
         have cat4 : ¬ 9223372036854775807 < X.size + (min (k - n) k - m) + X.size := by omega
         have tmk : (m : Int) ≤ ((k - n : Nat) : Int) := by omega
         clear HBB
         go_wp2_with fail
         refine FIN.out.mono ?_
         rintro e w6 ⟨rfl, hb6⟩
         have HB6 := Lib.hid hb6
         clear hb6
         go_wp2_with fail
         go_ret
         exact ⟨rfl, HB6.out⟩)
end Go.Proofs.YtjeehdbnliifnaaDoor
