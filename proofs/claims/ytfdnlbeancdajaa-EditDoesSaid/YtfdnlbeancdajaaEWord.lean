/- The laws' own words and texts by numbers, by contract: how long they may be, and that no byte of theirs is 0. -/
import Derived.Test.YtfdnlbeancdajaaEKnown
import Derived.Deep.RegionLaw
import Derived.Deep.AppendLies
import Derived.Deep.LoopGhost
import Derived.Deep.DeepCutAuto
import Derived.BigRegion
import Derived.Laws.Rows
import Derived.Outline
import Derived.Deep.QuietTactic
import Derived.BigQuiet
import Derived.Deep.MidRow
import Derived.Lib.ConvBytes
import Derived.Laws.IdiomStrings
namespace Go.Proofs.Ytfdnlbeancdajaa.Cl
section
open Go Go.RowKit Go.Lib

def wordArr : Array Value := #[.string ⟨#[99, 97, 116]⟩, .string ⟨#[100, 111, 103]⟩, .string ⟨#[99, 105, 116, 121]⟩, .string ⟨#[100, 111]⟩, .string ⟨#[100, 111, 110, 101]⟩, .string ⟨#[80, 97, 114, 105, 115]⟩, .string ⟨#[105, 116, 39, 115]⟩, .string ⟨#[104, 111, 112, 101]⟩, .string ⟨#[109, 97, 107, 101]⟩, .string ⟨#[116, 97, 112]⟩, .string ⟨#[116, 111, 112]⟩, .string ⟨#[116, 111, 112, 115]⟩, .string ⟨#[116, 97, 112, 115]⟩, .string ⟨#[98, 101]⟩, .string ⟨#[195, 150, 108]⟩, .string ⟨#[195, 182, 100, 101]⟩, .string ⟨#[78, 65, 84, 79]⟩, .string ⟨#[97]⟩, .string ⟨#[114, 117, 110]⟩, .string ⟨#[114, 117, 110, 115]⟩, .string ⟨#[116, 114, 121]⟩, .string ⟨#[116, 114, 105, 101, 115]⟩, .string ⟨#[104, 111, 117, 115, 101]⟩, .string ⟨#[109, 111, 117, 115, 101]⟩]
def wordOf (i : Nat) : ByteArray := match wordArr.getD i (.string ⟨#[]⟩) with | .string s => s | _ => ⟨#[]⟩
def wordsVal : Value := .agg wordArr
/-- A string without the byte 0. -/
def Clean (s : ByteArray) : Prop := s.data.toList.all (· != 0) = true
instance (s : ByteArray) : Decidable (Clean s) := inferInstanceAs (Decidable (_ = true))
theorem Clean.append {a b : ByteArray} (ha : Clean a) (hb : Clean b) : Clean (a ++ b) := by
  unfold Clean at *
  rw [ByteArray.data_append, Array.toList_append, List.all_append, ha, hb]; rfl
theorem Clean.extract {a : ByteArray} (ha : Clean a) (i j : Nat) : Clean (a.extract i j) := by
  unfold Clean at *
  rw [List.all_eq_true] at *
  intro x hx
  refine ha x ?_
  rw [ByteArray.data_extract, Array.toList_extract] at hx
  exact List.mem_of_mem_drop (List.mem_of_mem_take hx)
theorem Clean.at {a : ByteArray} (ha : Clean a) {i : Nat} (hi : i < a.size) : a.data.toList.getD i 0 ≠ 0 := by
  unfold Clean at ha
  rw [List.all_eq_true] at ha
  have hl : i < a.data.toList.length := hi
  have := ha _ (List.getElem_mem hl)
  rw [List.getD_eq_getElem?_getD, List.getElem?_eq_getElem hl]
  simpa using this
macro "clean_at" h:ident : tactic => `(tactic| (have := ($h).out; repeat (first | assumption | apply Clean.append | apply Clean.extract | decide)))
theorem word_clean : ∀ i, i < 24 → Clean (wordOf i) := by decide
theorem word_size : ∀ i, i < 24 → 1 ≤ (wordOf i).size ∧ (wordOf i).size ≤ 6 := by decide

theorem below_setCells {B : Nat} {a : World} (b : Nat) (hb : B ≤ b) : ∀ (vs : List Value) (o : Nat) (w : World), Below B a w → Below B a (w.setCells b o vs)
  | [], _, _, h => h
  | v :: r, o, _, h => below_setCells b hb r (o + 1) _ (h.setCell (p := ⟨b, o, none⟩) hb v)
theorem wpList_build_eq {P : Program} {ops : Array Oper} {rest : List Oper} {o : Oper} {a : Act} {w : World} {Q : Exit → Act → World → Prop} (hg : o.guard = none) (t : TypeId) (parts : Array (Nat × Operand)) (ho : o.op = .build t parts)
    (cells : Array Value) (hc : P.built t (parts.map fun (i, x) => (i, a.eval x)).toList = some cells) (h : wpList P ops Q rest (a.put o.dst (.agg cells)) w) : wpList P ops Q (o :: rest) a w :=
  wpList_build hg t parts ho (by rw [hc]; rfl) (by rw [hc]; exact h)
theorem below_setRow {B : Nat} {a w : World} (h : Below B a w) {g : Nat} (hg : B ≤ g) (cs : Array Value) : Below B a (w.setRow g cs) :=
  ⟨h.os, h.tape, h.output, by simp; exact h.size, fun k hk => by
    rw [← h.block k hk]
    simp only [World.setRow, Array.getElem?_modify]
    rw [if_neg (by omega)]⟩

theorem Try.info105 : (Try.prog.info? 105).map (·.size) = some 24 := by kernel_rfl
theorem word_one : wordArr.all (·.oneCell') = true := by kernel_rfl
theorem row_same (w : World) (Z : Array Value) (t : TypeId) (cs : Array Value) : ((w.alloc (.cells Z t)).setRow w.heap.size cs).heap[w.heap.size]? = some (.cells cs t (0, 0)) := by
  simp only [World.setRow, Array.getElem?_modify, if_true]
  rw [heap_alloc_new]
  rfl
set_option maxHeartbeats 1000000 in
theorem words_any (w : World) : Calls Try.prog 50 #[] w fun e w' => e = .returned wordsVal ∧ Below w.heap.size w w' := by
  go_enter Try.func50, Try.ntmps50
  go_upto_region 1 with fail
  refine wp_region_lit (l := [_, _]) ?_
  refine wpList_build_eq rfl 105 _ rfl wordArr (by kernel_rfl) ?_
  refine wpList_store_row rfl 105 (.tmp 0) (.tmp 1) rfl w.heap.size wordArr rfl rfl 105 _ (heap_alloc_new w _) Try.info105 rfl word_one ?_
  refine wpList_nil ?_
  have hr := fun Z : Array Value => row_same w Z 105 wordArr
  have hb := fun Z : Array Value => below_setRow ((Below.refl w.heap.size w).alloc (Nat.le_refl _) (.cells Z 105)) (Nat.le_refl _) wordArr
  have HR := Lib.hid hr
  have HB := Lib.hid hb
  clear hr hb
  simp only [Act.put, List.setIfInBounds_toArray, List.set_cons_zero, List.set_cons_succ]
  go_wp2_with fail
  refine bodyPost_ret (results_cell_row rfl _ _ w.heap.size 105 wordArr (0, 0) _ rfl (HR.out _) Try.underlying105 rfl Try.info105) rfl ?_
  exact ⟨rfl, HB.out _⟩

theorem word_at0 (w : World) : (Instr.index 105 wordsVal (.int .i64 0)).run Try.prog w = .ok (.string (wordOf 0)) w := by kernel_rfl
theorem word_at1 (w : World) : (Instr.index 105 wordsVal (.int .i64 1)).run Try.prog w = .ok (.string (wordOf 1)) w := by kernel_rfl
theorem word_at2 (w : World) : (Instr.index 105 wordsVal (.int .i64 2)).run Try.prog w = .ok (.string (wordOf 2)) w := by kernel_rfl
theorem word_at3 (w : World) : (Instr.index 105 wordsVal (.int .i64 3)).run Try.prog w = .ok (.string (wordOf 3)) w := by kernel_rfl
theorem word_at4 (w : World) : (Instr.index 105 wordsVal (.int .i64 4)).run Try.prog w = .ok (.string (wordOf 4)) w := by kernel_rfl
theorem word_at5 (w : World) : (Instr.index 105 wordsVal (.int .i64 5)).run Try.prog w = .ok (.string (wordOf 5)) w := by kernel_rfl
theorem word_at6 (w : World) : (Instr.index 105 wordsVal (.int .i64 6)).run Try.prog w = .ok (.string (wordOf 6)) w := by kernel_rfl
theorem word_at7 (w : World) : (Instr.index 105 wordsVal (.int .i64 7)).run Try.prog w = .ok (.string (wordOf 7)) w := by kernel_rfl
theorem word_at8 (w : World) : (Instr.index 105 wordsVal (.int .i64 8)).run Try.prog w = .ok (.string (wordOf 8)) w := by kernel_rfl
theorem word_at9 (w : World) : (Instr.index 105 wordsVal (.int .i64 9)).run Try.prog w = .ok (.string (wordOf 9)) w := by kernel_rfl
theorem word_at10 (w : World) : (Instr.index 105 wordsVal (.int .i64 10)).run Try.prog w = .ok (.string (wordOf 10)) w := by kernel_rfl
theorem word_at11 (w : World) : (Instr.index 105 wordsVal (.int .i64 11)).run Try.prog w = .ok (.string (wordOf 11)) w := by kernel_rfl
theorem word_at12 (w : World) : (Instr.index 105 wordsVal (.int .i64 12)).run Try.prog w = .ok (.string (wordOf 12)) w := by kernel_rfl
theorem word_at13 (w : World) : (Instr.index 105 wordsVal (.int .i64 13)).run Try.prog w = .ok (.string (wordOf 13)) w := by kernel_rfl
theorem word_at14 (w : World) : (Instr.index 105 wordsVal (.int .i64 14)).run Try.prog w = .ok (.string (wordOf 14)) w := by kernel_rfl
theorem word_at15 (w : World) : (Instr.index 105 wordsVal (.int .i64 15)).run Try.prog w = .ok (.string (wordOf 15)) w := by kernel_rfl
theorem word_at16 (w : World) : (Instr.index 105 wordsVal (.int .i64 16)).run Try.prog w = .ok (.string (wordOf 16)) w := by kernel_rfl
theorem word_at17 (w : World) : (Instr.index 105 wordsVal (.int .i64 17)).run Try.prog w = .ok (.string (wordOf 17)) w := by kernel_rfl
theorem word_at18 (w : World) : (Instr.index 105 wordsVal (.int .i64 18)).run Try.prog w = .ok (.string (wordOf 18)) w := by kernel_rfl
theorem word_at19 (w : World) : (Instr.index 105 wordsVal (.int .i64 19)).run Try.prog w = .ok (.string (wordOf 19)) w := by kernel_rfl
theorem word_at20 (w : World) : (Instr.index 105 wordsVal (.int .i64 20)).run Try.prog w = .ok (.string (wordOf 20)) w := by kernel_rfl
theorem word_at21 (w : World) : (Instr.index 105 wordsVal (.int .i64 21)).run Try.prog w = .ok (.string (wordOf 21)) w := by kernel_rfl
theorem word_at22 (w : World) : (Instr.index 105 wordsVal (.int .i64 22)).run Try.prog w = .ok (.string (wordOf 22)) w := by kernel_rfl
theorem word_at23 (w : World) : (Instr.index 105 wordsVal (.int .i64 23)).run Try.prog w = .ok (.string (wordOf 23)) w := by kernel_rfl
theorem word_at (i : Nat) (h : i < 24) (w : World) : (Instr.index 105 wordsVal (.int .i64 i)).run Try.prog w = .ok (.string (wordOf i)) w := by
  have hc : i = 0 ∨ i = 1 ∨ i = 2 ∨ i = 3 ∨ i = 4 ∨ i = 5 ∨ i = 6 ∨ i = 7 ∨ i = 8 ∨ i = 9 ∨ i = 10 ∨ i = 11 ∨ i = 12 ∨ i = 13 ∨ i = 14 ∨ i = 15 ∨ i = 16 ∨ i = 17 ∨ i = 18 ∨ i = 19 ∨ i = 20 ∨ i = 21 ∨ i = 22 ∨ i = 23 := by omega
  rcases hc with rfl | rfl | rfl | rfl | rfl | rfl | rfl | rfl | rfl | rfl | rfl | rfl | rfl | rfl | rfl | rfl | rfl | rfl | rfl | rfl | rfl | rfl | rfl | rfl
  · exact word_at0 w
  · exact word_at1 w
  · exact word_at2 w
  · exact word_at3 w
  · exact word_at4 w
  · exact word_at5 w
  · exact word_at6 w
  · exact word_at7 w
  · exact word_at8 w
  · exact word_at9 w
  · exact word_at10 w
  · exact word_at11 w
  · exact word_at12 w
  · exact word_at13 w
  · exact word_at14 w
  · exact word_at15 w
  · exact word_at16 w
  · exact word_at17 w
  · exact word_at18 w
  · exact word_at19 w
  · exact word_at20 w
  · exact word_at21 w
  · exact word_at22 w
  · exact word_at23 w

theorem below_dr {B : Nat} {a w : World} (h : Below B a w) (n : Nat) : Below B a (w.drewN n) := ⟨h.os, h.tape, h.output, h.size, h.block⟩
/-- A string that is not long, with no byte 0. -/
def Short (n : Nat) (w : World) (e : Ending) (w' : World) : Prop := ∃ s : ByteArray, e = .returned (.string s) ∧ s.size ≤ n ∧ Clean s ∧ Below w.heap.size w w'

set_option maxRecDepth 100000 in
set_option maxHeartbeats 1000000 in
theorem word_plain (v : Int) (k : Nat) (w : World) (hk : v % 16777216 = k) (t : Int) (ht : (k : Int) / 24 % 9 = t) (h : t = 0 ∨ t = 1 ∨ t = 3 ∨ t = 7 ∨ t = 8) :
    Calls Try.prog 31 #[.int .i64 v] w (Short 12 w) := by
  have hkl : k < 16777216 := by omega
  obtain ⟨hW1, hW2⟩ := word_size (k % 24) (by omega)
  have hWC := word_clean (k % 24) (by omega)
  have hix := fun wx => word_at (k % 24) (by omega) wx
  rw [show ((k % 24 : Nat) : Int) = (k : Int) % 24 by omega] at hix
  obtain ⟨W, hW⟩ : ∃ W, W = wordOf (k % 24) := ⟨_, rfl⟩
  rw [← hW] at hix hW1 hW2 hWC
  have HWC := Lib.hid hWC
  clear hWC
  have P := Lib.hid (place_any v 16777216 w (by omega) (by omega))
  rw [hk] at P
  have WS := Lib.hid words_any
  have k0 : (0 : Int) ≤ k := by omega
  have k1 : (k : Int) < 16777216 := by omega
  clear hW hk
  rcases h with rfl | rfl | rfl | rfl | rfl
  all_goals
    go_enter Try.func31, Try.ntmps31
    go_wp2_with fail
    refine (P.out).mono ?_
    rintro e w1 ⟨rfl, rfl⟩
    go_wp2_with fail
    refine (WS.out _).mono ?_
    rintro e w2 ⟨rfl, hb2⟩
    have HB := Lib.hid hb2
    clear hb2
    go_wp2_with fail
    go_ret
    refine ⟨_, rfl, ?_, by clean_at HWC, HB.out⟩
    have e1 : ByteArray.size ⟨#[115]⟩ = 1 := rfl
    have e2 : ByteArray.size ⟨#[117, 110]⟩ = 2 := rfl
    have e3 : ByteArray.size ⟨#[120]⟩ = 1 := rfl
    first
      | omega
      | (rw [ByteArray.size_append]; omega)

set_option maxRecDepth 100000 in
set_option maxHeartbeats 1000000 in
theorem word_turn (v : Int) (k : Nat) (w : World) (hk : v % 16777216 = k) (ht : (k : Int) / 24 % 9 = 2) : Calls Try.prog 31 #[.int .i64 v] w (Short 12 w) := by
  have hkl : k < 16777216 := by omega
  obtain ⟨hW1, hW2⟩ := word_size (k % 24) (by omega)
  have hWC := word_clean (k % 24) (by omega)
  have hix := fun wx => word_at (k % 24) (by omega) wx
  rw [show ((k % 24 : Nat) : Int) = (k : Int) % 24 by omega] at hix
  obtain ⟨W, hW⟩ : ∃ W, W = wordOf (k % 24) := ⟨_, rfl⟩
  rw [← hW] at hix hW1 hW2 hWC
  have HWC := Lib.hid hWC
  clear hWC
  have P := Lib.hid (place_any v 16777216 w (by omega) (by omega))
  rw [hk] at P
  have WS := Lib.hid words_any
  have k0 : (0 : Int) ≤ k := by omega
  have k1 : (k : Int) < 16777216 := by omega
  clear hW hk
  by_cases hl : 1 < W.size
  · have s1 : (1 : Int) < W.size := by omega
    have s2 : (2 : Int) ≤ W.size := by omega
    go_enter Try.func31, Try.ntmps31
    go_wp2_with fail
    refine (P.out).mono ?_
    rintro e w1 ⟨rfl, rfl⟩
    go_wp2_with fail
    refine (WS.out _).mono ?_
    rintro e w2 ⟨rfl, hb2⟩
    have HB := Lib.hid hb2
    clear hb2
    go_wp2_with fail
    go_quiet (fail)
    go_wp2_with fail
    go_ret
    refine ⟨_, rfl, ?_, by clean_at HWC, below_dr HB.out nq⟩
    simp only [ByteArray.size_append, ByteArray.size_extract]
    omega
  · have s3 : W.size ≤ 1 := by omega
    have d1 : decide ((1 : Int) < (W.size : Int)) = false := by simp; omega
    have d2 : decide (1 < W.size) = false := by simp; omega
    have HS := Lib.hid s3
    clear hl s3
    go_enter Try.func31, Try.ntmps31
    go_wp2_with fail
    refine (P.out).mono ?_
    rintro e w1 ⟨rfl, rfl⟩
    go_wp2_with fail
    refine (WS.out _).mono ?_
    rintro e w2 ⟨rfl, hb2⟩
    have HB := Lib.hid hb2
    clear hb2
    go_wp2_with fail
    go_ret
    exact ⟨_, rfl, by have := HS.out; omega, HWC.out, HB.out⟩

set_option maxRecDepth 100000 in
set_option maxHeartbeats 1000000 in
theorem word_cut (v : Int) (k : Nat) (w : World) (hk : v % 16777216 = k) (ht : (k : Int) / 24 % 9 = 4) : Calls Try.prog 31 #[.int .i64 v] w (Short 12 w) := by
  have hkl : k < 16777216 := by omega
  obtain ⟨hW1, hW2⟩ := word_size (k % 24) (by omega)
  have hWC := word_clean (k % 24) (by omega)
  have hix := fun wx => word_at (k % 24) (by omega) wx
  rw [show ((k % 24 : Nat) : Int) = (k : Int) % 24 by omega] at hix
  obtain ⟨W, hW⟩ : ∃ W, W = wordOf (k % 24) := ⟨_, rfl⟩
  rw [← hW] at hix hW1 hW2 hWC
  have HWC := Lib.hid hWC
  clear hWC
  have P := Lib.hid (place_any v 16777216 w (by omega) (by omega))
  rw [hk] at P
  have WS := Lib.hid words_any
  have k0 : (0 : Int) ≤ k := by omega
  have k1 : (k : Int) < 16777216 := by omega
  clear hW hk
  by_cases hl : 2 < W.size
  · have s1 : (2 : Int) < W.size := by omega
    have s2 : (0 : Int) ≤ (W.size : Int) - 1 := by omega
    go_enter Try.func31, Try.ntmps31
    go_wp2_with fail
    refine (P.out).mono ?_
    rintro e w1 ⟨rfl, rfl⟩
    go_wp2_with fail
    refine (WS.out _).mono ?_
    rintro e w2 ⟨rfl, hb2⟩
    have HB := Lib.hid hb2
    clear hb2
    go_wp2_with fail
    go_ret
    refine ⟨_, rfl, ?_, by clean_at HWC, HB.out⟩
    simp only [ByteArray.size_extract]
    omega
  · have s3 : W.size ≤ 2 := by omega
    have d1 : decide ((2 : Int) < (W.size : Int)) = false := by simp; omega
    have d2 : decide (2 < W.size) = false := by simp; omega
    have HS := Lib.hid s3
    clear hl s3
    go_enter Try.func31, Try.ntmps31
    go_wp2_with fail
    refine (P.out).mono ?_
    rintro e w1 ⟨rfl, rfl⟩
    go_wp2_with fail
    refine (WS.out _).mono ?_
    rintro e w2 ⟨rfl, hb2⟩
    have HB := Lib.hid hb2
    clear hb2
    go_wp2_with fail
    go_ret
    exact ⟨_, rfl, by have := HS.out; omega, HWC.out, HB.out⟩
end
section
open Go Go.RowKit Go.Lib

theorem conv_one (x : Int) (hx0 : 1 ≤ x) (hx1 : x < 256) : ∃ S : ByteArray, S.size = 1 ∧ Clean S ∧ ∀ wx : World, (convert 92 9 (.slice (some ⟨wx.heap.size, 0, none⟩) 1 1)).run Try.prog ((wx.alloc (.cells #[.int .u8 x] 5)).drew) = .ok (.string S) ((wx.alloc (.cells #[.int .u8 x] 5)).drew) := by
  have hne : UInt8.ofNat x.toNat ≠ 0 := fun h => by
    have h2 := congrArg UInt8.toNat h
    have h3 : (UInt8.ofNat x.toNat).toNat = x.toNat := by simp; omega
    rw [h3] at h2
    have : (0 : UInt8).toNat = 0 := rfl
    omega
  refine ⟨⟨[UInt8.ofNat x.toNat].toArray⟩, rfl, by show ([UInt8.ofNat x.toNat].all (· != 0)) = true; simp [hne], fun wx => ?_⟩
  exact run_convert_bytes_back (P := Try.prog) ((wx.alloc (.cells #[.int .u8 x] 5)).drew) 92 9 5 ⟨wx.heap.size, 0, none⟩ 1 [UInt8.ofNat x.toNat] Try.underlying92 Try.underlying5 Try.underlying9 (fun j hj => by
    have hj0 : j = 0 := by simpa using hj
    subst hj0
    have he : ((UInt8.ofNat x.toNat).toNat : Int) = x := by simp; omega
    have hc : ((wx.alloc (.cells #[.int .u8 x] 5)).drew).cell? ⟨wx.heap.size, 0, none⟩ = some (.int .u8 x) := by simp
    rw [show (⟨wx.heap.size, 0, none⟩ : Addr).add 0 = ⟨wx.heap.size, 0, none⟩ from rfl, hc]
    show _ = some (Value.int .u8 ((UInt8.ofNat x.toNat).toNat : Int))
    rw [he])

set_option maxRecDepth 100000 in
set_option maxHeartbeats 1000000 in
theorem word_title (v : Int) (k : Nat) (w : World) (hk : v % 16777216 = k) (ht : (k : Int) / 24 % 9 = 6) : Calls Try.prog 31 #[.int .i64 v] w (Short 12 w) := by
  have hkl : k < 16777216 := by omega
  obtain ⟨hW1, hW2⟩ := word_size (k % 24) (by omega)
  have hWC := word_clean (k % 24) (by omega)
  have hix := fun wx => word_at (k % 24) (by omega) wx
  rw [show ((k % 24 : Nat) : Int) = (k : Int) % 24 by omega] at hix
  obtain ⟨W, hW⟩ : ∃ W, W = wordOf (k % 24) := ⟨_, rfl⟩
  rw [← hW] at hix hW1 hW2 hWC
  have HWC := Lib.hid hWC
  clear hWC
  have P := Lib.hid (place_any v 16777216 w (by omega) (by omega))
  rw [hk] at P
  have WS := Lib.hid words_any
  have k0 : (0 : Int) ≤ k := by omega
  have k1 : (k : Int) < 16777216 := by omega
  clear hW hk
  have hpos : 0 < W.size := by omega
  have hbb := W[0].toNat_lt
  by_cases hlow : 97 ≤ W[0].toNat ∧ W[0].toNat ≤ 122
  · obtain ⟨l1, l2⟩ := hlow
    have q1 : (97 : Int) ≤ (W[0].toNat : Int) := by omega
    have q2 : (W[0].toNat : Int) ≤ 122 := by omega
    obtain ⟨S, hS1, hSC, hS2⟩ := conv_one ((W[0].toNat : Int) - 32) (by omega) (by omega)
    have hS3 : S.size ≤ 1 := by omega
    have HS1 := Lib.hid hS1
    have HSC := Lib.hid (show Clean (S ++ W.extract 1 W.size) from hSC.append (HWC.out.extract _ _))
    clear hSC
    have s1 : (0 : Int) < W.size := by omega
    have s2 : (1 : Int) ≤ W.size := by omega
    have u1 : IntKind.u8.wrap ((W[0].toNat : Int) - 32) = (W[0].toNat : Int) - 32 := IntWalk.u8_in _ (by omega)
    clear hS1
    go_enter Try.func31, Try.ntmps31
    go_wp2_with fail
    refine (P.out).mono ?_
    rintro e w1 ⟨rfl, rfl⟩
    go_wp2_with fail
    refine (WS.out _).mono ?_
    rintro e w2 ⟨rfl, hb2⟩
    have HB := Lib.hid hb2
    clear hb2
    go_wp2_with fail
    go_region
    go_wp2_with fail
    go_ret
    refine ⟨_, rfl, ?_, HSC.out, below_dr (HB.out.alloc HB.out.size _) 1⟩
    have := HS1.out
    simp only [ByteArray.size_append, ByteArray.size_extract]
    omega
  · have hcs : W[0].toNat < 97 ∨ 122 < W[0].toNat := by omega
    have HW := Lib.hid hW2
    have s1 : (0 : Int) < W.size := by omega
    rcases hcs with hc | hc
    · have d1 : decide ((97 : Int) ≤ (W[0].toNat : Int)) = false := by simp; omega
      have d2 : decide (97 ≤ W[0].toNat) = false := by simp; omega
      clear hlow hc
      go_enter Try.func31, Try.ntmps31
      go_wp2_with fail
      refine (P.out).mono ?_
      rintro e w1 ⟨rfl, rfl⟩
      go_wp2_with fail
      refine (WS.out _).mono ?_
      rintro e w2 ⟨rfl, hb2⟩
      have HB := Lib.hid hb2
      clear hb2
      go_wp2_with fail
      go_ret
      exact ⟨_, rfl, by have := HW.out; omega, HWC.out, HB.out⟩
    · have e1 : (97 : Int) ≤ (W[0].toNat : Int) := by omega
      have d1 : decide ((W[0].toNat : Int) ≤ 122) = false := by simp; omega
      have d2 : decide (W[0].toNat ≤ 122) = false := by simp; omega
      clear hlow hc
      go_enter Try.func31, Try.ntmps31
      go_wp2_with fail
      refine (P.out).mono ?_
      rintro e w1 ⟨rfl, rfl⟩
      go_wp2_with fail
      refine (WS.out _).mono ?_
      rintro e w2 ⟨rfl, hb2⟩
      have HB := Lib.hid hb2
      clear hb2
      go_wp2_with fail
      go_ret
      exact ⟨_, rfl, by have := HW.out; omega, HWC.out, HB.out⟩
end
end Go.Proofs.Ytfdnlbeancdajaa.Cl
