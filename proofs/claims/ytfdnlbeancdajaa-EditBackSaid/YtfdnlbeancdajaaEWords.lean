/- The laws' own words and texts by numbers, by contract: how long they may be, and that no byte of theirs is 0. -/
import Derived.Test.YtfdnlbeancdajaaEKnown
import Derived.Deep.RegionLaw
import Derived.Deep.AppendLies
import Derived.Deep.LoopGhost
import Derived.Deep.DeepCutAuto
import Derived.BigRegion
import Derived.Laws.Rows
import Derived.Outline
import Derived.Deep.QuietTactic
import Derived.BigQuiet
import Derived.Deep.MidRow
import Derived.Lib.ConvBytes
import Derived.Laws.IdiomStrings
import Derived.Deep.RegionWith
namespace Go.Proofs.Ytfdnlbeancdajaa.Cl
section
section
open Go Go.RowKit Go.Lib

def wordArr : Array Value := #[.string ⟨#[99, 97, 116]⟩, .string ⟨#[100, 111, 103]⟩, .string ⟨#[99, 105, 116, 121]⟩, .string ⟨#[100, 111]⟩, .string ⟨#[100, 111, 110, 101]⟩, .string ⟨#[80, 97, 114, 105, 115]⟩, .string ⟨#[105, 116, 39, 115]⟩, .string ⟨#[104, 111, 112, 101]⟩, .string ⟨#[109, 97, 107, 101]⟩, .string ⟨#[116, 97, 112]⟩, .string ⟨#[116, 111, 112]⟩, .string ⟨#[116, 111, 112, 115]⟩, .string ⟨#[116, 97, 112, 115]⟩, .string ⟨#[98, 101]⟩, .string ⟨#[195, 150, 108]⟩, .string ⟨#[195, 182, 100, 101]⟩, .string ⟨#[78, 65, 84, 79]⟩, .string ⟨#[97]⟩, .string ⟨#[114, 117, 110]⟩, .string ⟨#[114, 117, 110, 115]⟩, .string ⟨#[116, 114, 121]⟩, .string ⟨#[116, 114, 105, 101, 115]⟩, .string ⟨#[104, 111, 117, 115, 101]⟩, .string ⟨#[109, 111, 117, 115, 101]⟩]
def wordOf (i : Nat) : ByteArray := match wordArr.getD i (.string ⟨#[]⟩) with | .string s => s | _ => ⟨#[]⟩
def wordsVal : Value := .agg wordArr
/-- A string without the byte 0. -/
def Clean (s : ByteArray) : Prop := s.data.toList.all (· != 0) = true
instance (s : ByteArray) : Decidable (Clean s) := inferInstanceAs (Decidable (_ = true))
theorem Clean.append {a b : ByteArray} (ha : Clean a) (hb : Clean b) : Clean (a ++ b) := by
  unfold Clean at *
  rw [ByteArray.data_append, Array.toList_append, List.all_append, ha, hb]; rfl
theorem Clean.extract {a : ByteArray} (ha : Clean a) (i j : Nat) : Clean (a.extract i j) := by
  unfold Clean at *
  rw [List.all_eq_true] at *
  intro x hx
  refine ha x ?_
  rw [ByteArray.data_extract, Array.toList_extract] at hx
  exact List.mem_of_mem_drop (List.mem_of_mem_take hx)
theorem Clean.at {a : ByteArray} (ha : Clean a) {i : Nat} (hi : i < a.size) : a.data.toList.getD i 0 ≠ 0 := by
  unfold Clean at ha
  rw [List.all_eq_true] at ha
  have hl : i < a.data.toList.length := hi
  have := ha _ (List.getElem_mem hl)
  rw [List.getD_eq_getElem?_getD, List.getElem?_eq_getElem hl]
  simpa using this
theorem word_clean : ∀ i, i < 24 → Clean (wordOf i) := by decide
theorem word_size : ∀ i, i < 24 → 1 ≤ (wordOf i).size ∧ (wordOf i).size ≤ 6 := by decide

theorem below_setCells {B : Nat} {a : World} (b : Nat) (hb : B ≤ b) : ∀ (vs : List Value) (o : Nat) (w : World), Below B a w → Below B a (w.setCells b o vs)
  | [], _, _, h => h
  | v :: r, o, _, h => below_setCells b hb r (o + 1) _ (h.setCell (p := ⟨b, o, none⟩) hb v)
theorem wpList_build_eq {P : Program} {ops : Array Oper} {rest : List Oper} {o : Oper} {a : Act} {w : World} {Q : Exit → Act → World → Prop} (hg : o.guard = none) (t : TypeId) (parts : Array (Nat × Operand)) (ho : o.op = .build t parts)
    (cells : Array Value) (hc : P.built t (parts.map fun (i, x) => (i, a.eval x)).toList = some cells) (h : wpList P ops Q rest (a.put o.dst (.agg cells)) w) : wpList P ops Q (o :: rest) a w :=
  wpList_build hg t parts ho (by rw [hc]; rfl) (by rw [hc]; exact h)
theorem below_setRow {B : Nat} {a w : World} (h : Below B a w) {g : Nat} (hg : B ≤ g) (cs : Array Value) : Below B a (w.setRow g cs) :=
  ⟨h.os, h.tape, h.output, by simp; exact h.size, fun k hk => by
    rw [← h.block k hk]
    simp only [World.setRow, Array.getElem?_modify]
    rw [if_neg (by omega)]⟩

theorem Try.info105 : (Try.prog.info? 105).map (·.size) = some 24 := by kernel_rfl
theorem word_one : wordArr.all (·.oneCell') = true := by kernel_rfl
theorem row_same (w : World) (Z : Array Value) (t : TypeId) (cs : Array Value) : ((w.alloc (.cells Z t)).setRow w.heap.size cs).heap[w.heap.size]? = some (.cells cs t (0, 0)) := by
  simp only [World.setRow, Array.getElem?_modify, if_true]
  rw [heap_alloc_new]
  rfl
set_option maxHeartbeats 1000000 in
theorem words_any (w : World) : Calls Try.prog 50 #[] w fun e w' => e = .returned wordsVal ∧ Below w.heap.size w w' := by
  go_enter Try.func50, Try.ntmps50
  go_upto_region 1 with fail
  refine wp_region_lit (l := [_, _]) ?_
  refine wpList_build_eq rfl 105 _ rfl wordArr (by kernel_rfl) ?_
  refine wpList_store_row rfl 105 (.tmp 0) (.tmp 1) rfl w.heap.size wordArr rfl rfl 105 _ (heap_alloc_new w _) Try.info105 rfl word_one ?_
  refine wpList_nil ?_
  have hr := fun Z : Array Value => row_same w Z 105 wordArr
  have hb := fun Z : Array Value => below_setRow ((Below.refl w.heap.size w).alloc (Nat.le_refl _) (.cells Z 105)) (Nat.le_refl _) wordArr
  have HR := Lib.hid hr
  have HB := Lib.hid hb
  clear hr hb
  simp only [Act.put, List.setIfInBounds_toArray, List.set_cons_zero, List.set_cons_succ]
  go_wp2_with fail
  refine bodyPost_ret (results_cell_row rfl _ _ w.heap.size 105 wordArr (0, 0) _ rfl (HR.out _) Try.underlying105 rfl Try.info105) rfl ?_
  exact ⟨rfl, HB.out _⟩

theorem word_at0 (w : World) : (Instr.index 105 wordsVal (.int .i64 0)).run Try.prog w = .ok (.string (wordOf 0)) w := by kernel_rfl
theorem word_at1 (w : World) : (Instr.index 105 wordsVal (.int .i64 1)).run Try.prog w = .ok (.string (wordOf 1)) w := by kernel_rfl
theorem word_at2 (w : World) : (Instr.index 105 wordsVal (.int .i64 2)).run Try.prog w = .ok (.string (wordOf 2)) w := by kernel_rfl
theorem word_at3 (w : World) : (Instr.index 105 wordsVal (.int .i64 3)).run Try.prog w = .ok (.string (wordOf 3)) w := by kernel_rfl
theorem word_at4 (w : World) : (Instr.index 105 wordsVal (.int .i64 4)).run Try.prog w = .ok (.string (wordOf 4)) w := by kernel_rfl
theorem word_at5 (w : World) : (Instr.index 105 wordsVal (.int .i64 5)).run Try.prog w = .ok (.string (wordOf 5)) w := by kernel_rfl
theorem word_at6 (w : World) : (Instr.index 105 wordsVal (.int .i64 6)).run Try.prog w = .ok (.string (wordOf 6)) w := by kernel_rfl
theorem word_at7 (w : World) : (Instr.index 105 wordsVal (.int .i64 7)).run Try.prog w = .ok (.string (wordOf 7)) w := by kernel_rfl
theorem word_at8 (w : World) : (Instr.index 105 wordsVal (.int .i64 8)).run Try.prog w = .ok (.string (wordOf 8)) w := by kernel_rfl
theorem word_at9 (w : World) : (Instr.index 105 wordsVal (.int .i64 9)).run Try.prog w = .ok (.string (wordOf 9)) w := by kernel_rfl
theorem word_at10 (w : World) : (Instr.index 105 wordsVal (.int .i64 10)).run Try.prog w = .ok (.string (wordOf 10)) w := by kernel_rfl
theorem word_at11 (w : World) : (Instr.index 105 wordsVal (.int .i64 11)).run Try.prog w = .ok (.string (wordOf 11)) w := by kernel_rfl
theorem word_at12 (w : World) : (Instr.index 105 wordsVal (.int .i64 12)).run Try.prog w = .ok (.string (wordOf 12)) w := by kernel_rfl
theorem word_at13 (w : World) : (Instr.index 105 wordsVal (.int .i64 13)).run Try.prog w = .ok (.string (wordOf 13)) w := by kernel_rfl
theorem word_at14 (w : World) : (Instr.index 105 wordsVal (.int .i64 14)).run Try.prog w = .ok (.string (wordOf 14)) w := by kernel_rfl
theorem word_at15 (w : World) : (Instr.index 105 wordsVal (.int .i64 15)).run Try.prog w = .ok (.string (wordOf 15)) w := by kernel_rfl
theorem word_at16 (w : World) : (Instr.index 105 wordsVal (.int .i64 16)).run Try.prog w = .ok (.string (wordOf 16)) w := by kernel_rfl
theorem word_at17 (w : World) : (Instr.index 105 wordsVal (.int .i64 17)).run Try.prog w = .ok (.string (wordOf 17)) w := by kernel_rfl
theorem word_at18 (w : World) : (Instr.index 105 wordsVal (.int .i64 18)).run Try.prog w = .ok (.string (wordOf 18)) w := by kernel_rfl
theorem word_at19 (w : World) : (Instr.index 105 wordsVal (.int .i64 19)).run Try.prog w = .ok (.string (wordOf 19)) w := by kernel_rfl
theorem word_at20 (w : World) : (Instr.index 105 wordsVal (.int .i64 20)).run Try.prog w = .ok (.string (wordOf 20)) w := by kernel_rfl
theorem word_at21 (w : World) : (Instr.index 105 wordsVal (.int .i64 21)).run Try.prog w = .ok (.string (wordOf 21)) w := by kernel_rfl
theorem word_at22 (w : World) : (Instr.index 105 wordsVal (.int .i64 22)).run Try.prog w = .ok (.string (wordOf 22)) w := by kernel_rfl
theorem word_at23 (w : World) : (Instr.index 105 wordsVal (.int .i64 23)).run Try.prog w = .ok (.string (wordOf 23)) w := by kernel_rfl
theorem word_at (i : Nat) (h : i < 24) (w : World) : (Instr.index 105 wordsVal (.int .i64 i)).run Try.prog w = .ok (.string (wordOf i)) w := by
  have hc : i = 0 ∨ i = 1 ∨ i = 2 ∨ i = 3 ∨ i = 4 ∨ i = 5 ∨ i = 6 ∨ i = 7 ∨ i = 8 ∨ i = 9 ∨ i = 10 ∨ i = 11 ∨ i = 12 ∨ i = 13 ∨ i = 14 ∨ i = 15 ∨ i = 16 ∨ i = 17 ∨ i = 18 ∨ i = 19 ∨ i = 20 ∨ i = 21 ∨ i = 22 ∨ i = 23 := by omega
  rcases hc with rfl | rfl | rfl | rfl | rfl | rfl | rfl | rfl | rfl | rfl | rfl | rfl | rfl | rfl | rfl | rfl | rfl | rfl | rfl | rfl | rfl | rfl | rfl | rfl
  · exact word_at0 w
  · exact word_at1 w
  · exact word_at2 w
  · exact word_at3 w
  · exact word_at4 w
  · exact word_at5 w
  · exact word_at6 w
  · exact word_at7 w
  · exact word_at8 w
  · exact word_at9 w
  · exact word_at10 w
  · exact word_at11 w
  · exact word_at12 w
  · exact word_at13 w
  · exact word_at14 w
  · exact word_at15 w
  · exact word_at16 w
  · exact word_at17 w
  · exact word_at18 w
  · exact word_at19 w
  · exact word_at20 w
  · exact word_at21 w
  · exact word_at22 w
  · exact word_at23 w

theorem below_dr {B : Nat} {a w : World} (h : Below B a w) (n : Nat) : Below B a (w.drewN n) := ⟨h.os, h.tape, h.output, h.size, h.block⟩
/-- A string that is not long, with no byte 0. -/
def Short (n : Nat) (w : World) (e : Ending) (w' : World) : Prop := ∃ s : ByteArray, e = .returned (.string s) ∧ s.size ≤ n ∧ Clean s ∧ Below w.heap.size w w'

set_option maxRecDepth 100000 in
set_option maxHeartbeats 1000000 in
theorem word_plain (v : Int) (k : Nat) (w : World) (hk : v % 16777216 = k) (t : Int) (ht : (k : Int) / 24 % 9 = t) (h : t = 0 ∨ t = 1 ∨ t = 3 ∨ t = 7 ∨ t = 8) :
    Calls Try.prog 31 #[.int .i64 v] w (Short 12 w) := by
  have hkl : k < 16777216 := by omega
  obtain ⟨hW1, hW2⟩ := word_size (k % 24) (by omega)
  have hWC := word_clean (k % 24) (by omega)
  have hix := fun wx => word_at (k % 24) (by omega) wx
  rw [show ((k % 24 : Nat) : Int) = (k : Int) % 24 by omega] at hix
  obtain ⟨W, hW⟩ : ∃ W, W = wordOf (k % 24) := ⟨_, rfl⟩
  rw [← hW] at hix hW1 hW2 hWC
  have HWC := Lib.hid hWC
  clear hWC
  have P := Lib.hid (place_any v 16777216 w (by omega) (by omega))
  rw [hk] at P
  have WS := Lib.hid words_any
  have k0 : (0 : Int) ≤ k := by omega
  have k1 : (k : Int) < 16777216 := by omega
  clear hW hk
  rcases h with rfl | rfl | rfl | rfl | rfl
  all_goals
    go_enter Try.func31, Try.ntmps31
    go_wp2_with fail
    refine (P.out).mono ?_
    rintro e w1 ⟨rfl, rfl⟩
    go_wp2_with fail
    refine (WS.out _).mono ?_
    rintro e w2 ⟨rfl, hb2⟩
    have HB := Lib.hid hb2
    clear hb2
    go_wp2_with fail
    go_ret
    refine ⟨_, rfl, ?_, by (have := HWC.out; repeat (first | assumption | apply Clean.append | apply Clean.extract | decide)), HB.out⟩
    have e1 : ByteArray.size ⟨#[115]⟩ = 1 := rfl
    have e2 : ByteArray.size ⟨#[117, 110]⟩ = 2 := rfl
    have e3 : ByteArray.size ⟨#[120]⟩ = 1 := rfl
    first
      | omega
      | (rw [ByteArray.size_append]; omega)

set_option maxRecDepth 100000 in
set_option maxHeartbeats 1000000 in
theorem word_turn (v : Int) (k : Nat) (w : World) (hk : v % 16777216 = k) (ht : (k : Int) / 24 % 9 = 2) : Calls Try.prog 31 #[.int .i64 v] w (Short 12 w) := by
  have hkl : k < 16777216 := by omega
  obtain ⟨hW1, hW2⟩ := word_size (k % 24) (by omega)
  have hWC := word_clean (k % 24) (by omega)
  have hix := fun wx => word_at (k % 24) (by omega) wx
  rw [show ((k % 24 : Nat) : Int) = (k : Int) % 24 by omega] at hix
  obtain ⟨W, hW⟩ : ∃ W, W = wordOf (k % 24) := ⟨_, rfl⟩
  rw [← hW] at hix hW1 hW2 hWC
  have HWC := Lib.hid hWC
  clear hWC
  have P := Lib.hid (place_any v 16777216 w (by omega) (by omega))
  rw [hk] at P
  have WS := Lib.hid words_any
  have k0 : (0 : Int) ≤ k := by omega
  have k1 : (k : Int) < 16777216 := by omega
  clear hW hk
  by_cases hl : 1 < W.size
  · have s1 : (1 : Int) < W.size := by omega
    have s2 : (2 : Int) ≤ W.size := by omega
    go_enter Try.func31, Try.ntmps31
    go_wp2_with fail
    refine (P.out).mono ?_
    rintro e w1 ⟨rfl, rfl⟩
    go_wp2_with fail
    refine (WS.out _).mono ?_
    rintro e w2 ⟨rfl, hb2⟩
    have HB := Lib.hid hb2
    clear hb2
    go_wp2_with fail
    go_quiet (fail)
    go_wp2_with fail
    go_ret
    refine ⟨_, rfl, ?_, by (have := HWC.out; repeat (first | assumption | apply Clean.append | apply Clean.extract | decide)), below_dr HB.out nq⟩
    simp only [ByteArray.size_append, ByteArray.size_extract]
    omega
  · have s3 : W.size ≤ 1 := by omega
    have d1 : decide ((1 : Int) < (W.size : Int)) = false := by simp; omega
    have d2 : decide (1 < W.size) = false := by simp; omega
    have HS := Lib.hid s3
    clear hl s3
    go_enter Try.func31, Try.ntmps31
    go_wp2_with fail
    refine (P.out).mono ?_
    rintro e w1 ⟨rfl, rfl⟩
    go_wp2_with fail
    refine (WS.out _).mono ?_
    rintro e w2 ⟨rfl, hb2⟩
    have HB := Lib.hid hb2
    clear hb2
    go_wp2_with fail
    go_ret
    exact ⟨_, rfl, by have := HS.out; omega, HWC.out, HB.out⟩

set_option maxRecDepth 100000 in
set_option maxHeartbeats 1000000 in
theorem word_cut (v : Int) (k : Nat) (w : World) (hk : v % 16777216 = k) (ht : (k : Int) / 24 % 9 = 4) : Calls Try.prog 31 #[.int .i64 v] w (Short 12 w) := by
  have hkl : k < 16777216 := by omega
  obtain ⟨hW1, hW2⟩ := word_size (k % 24) (by omega)
  have hWC := word_clean (k % 24) (by omega)
  have hix := fun wx => word_at (k % 24) (by omega) wx
  rw [show ((k % 24 : Nat) : Int) = (k : Int) % 24 by omega] at hix
  obtain ⟨W, hW⟩ : ∃ W, W = wordOf (k % 24) := ⟨_, rfl⟩
  rw [← hW] at hix hW1 hW2 hWC
  have HWC := Lib.hid hWC
  clear hWC
  have P := Lib.hid (place_any v 16777216 w (by omega) (by omega))
  rw [hk] at P
  have WS := Lib.hid words_any
  have k0 : (0 : Int) ≤ k := by omega
  have k1 : (k : Int) < 16777216 := by omega
  clear hW hk
  by_cases hl : 2 < W.size
  · have s1 : (2 : Int) < W.size := by omega
    have s2 : (0 : Int) ≤ (W.size : Int) - 1 := by omega
    go_enter Try.func31, Try.ntmps31
    go_wp2_with fail
    refine (P.out).mono ?_
    rintro e w1 ⟨rfl, rfl⟩
    go_wp2_with fail
    refine (WS.out _).mono ?_
    rintro e w2 ⟨rfl, hb2⟩
    have HB := Lib.hid hb2
    clear hb2
    go_wp2_with fail
    go_ret
    refine ⟨_, rfl, ?_, by (have := HWC.out; repeat (first | assumption | apply Clean.append | apply Clean.extract | decide)), HB.out⟩
    simp only [ByteArray.size_extract]
    omega
  · have s3 : W.size ≤ 2 := by omega
    have d1 : decide ((2 : Int) < (W.size : Int)) = false := by simp; omega
    have d2 : decide (2 < W.size) = false := by simp; omega
    have HS := Lib.hid s3
    clear hl s3
    go_enter Try.func31, Try.ntmps31
    go_wp2_with fail
    refine (P.out).mono ?_
    rintro e w1 ⟨rfl, rfl⟩
    go_wp2_with fail
    refine (WS.out _).mono ?_
    rintro e w2 ⟨rfl, hb2⟩
    have HB := Lib.hid hb2
    clear hb2
    go_wp2_with fail
    go_ret
    exact ⟨_, rfl, by have := HS.out; omega, HWC.out, HB.out⟩
end
section
open Go Go.RowKit Go.Lib

theorem conv_one (x : Int) (hx0 : 1 ≤ x) (hx1 : x < 256) : ∃ S : ByteArray, S.size = 1 ∧ Clean S ∧ ∀ wx : World, (convert 92 9 (.slice (some ⟨wx.heap.size, 0, none⟩) 1 1)).run Try.prog ((wx.alloc (.cells #[.int .u8 x] 5)).drew) = .ok (.string S) ((wx.alloc (.cells #[.int .u8 x] 5)).drew) := by
  have hne : UInt8.ofNat x.toNat ≠ 0 := fun h => by
    have h2 := congrArg UInt8.toNat h
    have h3 : (UInt8.ofNat x.toNat).toNat = x.toNat := by simp; omega
    rw [h3] at h2
    have : (0 : UInt8).toNat = 0 := rfl
    omega
  refine ⟨⟨[UInt8.ofNat x.toNat].toArray⟩, rfl, by show ([UInt8.ofNat x.toNat].all (· != 0)) = true; simp [hne], fun wx => ?_⟩
  exact run_convert_bytes_back (P := Try.prog) ((wx.alloc (.cells #[.int .u8 x] 5)).drew) 92 9 5 ⟨wx.heap.size, 0, none⟩ 1 [UInt8.ofNat x.toNat] Try.underlying92 Try.underlying5 Try.underlying9 (fun j hj => by
    have hj0 : j = 0 := by simpa using hj
    subst hj0
    have he : ((UInt8.ofNat x.toNat).toNat : Int) = x := by simp; omega
    have hc : ((wx.alloc (.cells #[.int .u8 x] 5)).drew).cell? ⟨wx.heap.size, 0, none⟩ = some (.int .u8 x) := by simp
    rw [show (⟨wx.heap.size, 0, none⟩ : Addr).add 0 = ⟨wx.heap.size, 0, none⟩ from rfl, hc]
    show _ = some (Value.int .u8 ((UInt8.ofNat x.toNat).toNat : Int))
    rw [he])

set_option maxRecDepth 100000 in
set_option maxHeartbeats 1000000 in
theorem word_title (v : Int) (k : Nat) (w : World) (hk : v % 16777216 = k) (ht : (k : Int) / 24 % 9 = 6) : Calls Try.prog 31 #[.int .i64 v] w (Short 12 w) := by
  have hkl : k < 16777216 := by omega
  obtain ⟨hW1, hW2⟩ := word_size (k % 24) (by omega)
  have hWC := word_clean (k % 24) (by omega)
  have hix := fun wx => word_at (k % 24) (by omega) wx
  rw [show ((k % 24 : Nat) : Int) = (k : Int) % 24 by omega] at hix
  obtain ⟨W, hW⟩ : ∃ W, W = wordOf (k % 24) := ⟨_, rfl⟩
  rw [← hW] at hix hW1 hW2 hWC
  have HWC := Lib.hid hWC
  clear hWC
  have P := Lib.hid (place_any v 16777216 w (by omega) (by omega))
  rw [hk] at P
  have WS := Lib.hid words_any
  have k0 : (0 : Int) ≤ k := by omega
  have k1 : (k : Int) < 16777216 := by omega
  clear hW hk
  have hpos : 0 < W.size := by omega
  have hbb := W[0].toNat_lt
  by_cases hlow : 97 ≤ W[0].toNat ∧ W[0].toNat ≤ 122
  · obtain ⟨l1, l2⟩ := hlow
    have q1 : (97 : Int) ≤ (W[0].toNat : Int) := by omega
    have q2 : (W[0].toNat : Int) ≤ 122 := by omega
    obtain ⟨S, hS1, hSC, hS2⟩ := conv_one ((W[0].toNat : Int) - 32) (by omega) (by omega)
    have hS3 : S.size ≤ 1 := by omega
    have HS1 := Lib.hid hS1
    have HSC := Lib.hid (show Clean (S ++ W.extract 1 W.size) from hSC.append (HWC.out.extract _ _))
    clear hSC
    have s1 : (0 : Int) < W.size := by omega
    have s2 : (1 : Int) ≤ W.size := by omega
    have u1 : IntKind.u8.wrap ((W[0].toNat : Int) - 32) = (W[0].toNat : Int) - 32 := IntWalk.u8_in _ (by omega)
    clear hS1
    go_enter Try.func31, Try.ntmps31
    go_wp2_with fail
    refine (P.out).mono ?_
    rintro e w1 ⟨rfl, rfl⟩
    go_wp2_with fail
    refine (WS.out _).mono ?_
    rintro e w2 ⟨rfl, hb2⟩
    have HB := Lib.hid hb2
    clear hb2
    go_wp2_with fail
    go_region
    go_wp2_with fail
    go_ret
    refine ⟨_, rfl, ?_, HSC.out, below_dr (HB.out.alloc HB.out.size _) 1⟩
    have := HS1.out
    simp only [ByteArray.size_append, ByteArray.size_extract]
    omega
  · have hcs : W[0].toNat < 97 ∨ 122 < W[0].toNat := by omega
    have HW := Lib.hid hW2
    have s1 : (0 : Int) < W.size := by omega
    rcases hcs with hc | hc
    · have d1 : decide ((97 : Int) ≤ (W[0].toNat : Int)) = false := by simp; omega
      have d2 : decide (97 ≤ W[0].toNat) = false := by simp; omega
      clear hlow hc
      go_enter Try.func31, Try.ntmps31
      go_wp2_with fail
      refine (P.out).mono ?_
      rintro e w1 ⟨rfl, rfl⟩
      go_wp2_with fail
      refine (WS.out _).mono ?_
      rintro e w2 ⟨rfl, hb2⟩
      have HB := Lib.hid hb2
      clear hb2
      go_wp2_with fail
      go_ret
      exact ⟨_, rfl, by have := HW.out; omega, HWC.out, HB.out⟩
    · have e1 : (97 : Int) ≤ (W[0].toNat : Int) := by omega
      have d1 : decide ((W[0].toNat : Int) ≤ 122) = false := by simp; omega
      have d2 : decide (W[0].toNat ≤ 122) = false := by simp; omega
      clear hlow hc
      go_enter Try.func31, Try.ntmps31
      go_wp2_with fail
      refine (P.out).mono ?_
      rintro e w1 ⟨rfl, rfl⟩
      go_wp2_with fail
      refine (WS.out _).mono ?_
      rintro e w2 ⟨rfl, hb2⟩
      have HB := Lib.hid hb2
      clear hb2
      go_wp2_with fail
      go_ret
      exact ⟨_, rfl, by have := HW.out; omega, HWC.out, HB.out⟩
end
end
section
section
open Go Go.RowKit Go.Lib

/-- A block begins with so many bytes that may be written. -/
def BytesAt (w : World) (g n : Nat) : Prop := ∀ q, q < n → (∃ x : Int, 1 ≤ x ∧ x < 256 ∧ w.cell? ⟨g, q, none⟩ = some (.int .u8 x)) ∧ w.frozen? ⟨g, q, none⟩ = false
theorem BytesAt.set {w : World} {g n : Nat} (h : BytesAt w g n) (k : Nat) (y : Int) (hy0 : 1 ≤ y) (hy1 : y < 256) : BytesAt (w.setCell ⟨g, k, none⟩ (.int .u8 y)) g n := by
  intro q hq
  obtain ⟨⟨x, hx0, hx1, hx⟩, hf⟩ := h q hq
  refine ⟨?_, ?_⟩
  · by_cases hk : k = q
    · subst hk
      exact ⟨y, hy0, hy1, World.cell?_setCell_same (h := hx) ..⟩
    · exact ⟨x, hx0, hx1, (World.cell?_setCell_other (h := by intro e; injection e; omega) ..).trans hx⟩
  · rw [← hf]
    exact World.frozen?_setCell ..
theorem BytesAt.back {w : World} {g n cap : Nat} (h : BytesAt w g n) : ∃ S : ByteArray, S.size = n ∧ Clean S ∧ (convert 92 9 (.slice (some ⟨g, 0, none⟩) n cap)).run Try.prog w = .ok (.string S) w := by
  have hex : ∀ q, q < n → ∃ b : UInt8, b ≠ 0 ∧ w.cell? ⟨g, q, none⟩ = some (.int .u8 (b.toNat : Int)) := fun q hq => by
    obtain ⟨⟨x, hx0, hx1, hx⟩, _⟩ := h q hq
    have he : ((UInt8.ofNat x.toNat).toNat : Int) = x := by simp; omega
    refine ⟨UInt8.ofNat x.toNat, fun h0 => ?_, ?_⟩
    · rw [h0] at he
      have : ((0 : UInt8).toNat : Int) = 0 := rfl
      omega
    · rw [he]; exact hx
  obtain ⟨f, hf⟩ : ∃ f : Nat → UInt8, ∀ q, q < n → f q ≠ 0 ∧ w.cell? ⟨g, q, none⟩ = some (.int .u8 ((f q).toNat : Int)) := by
    classical
    exact ⟨fun q => if hq : q < n then Classical.choose (hex q hq) else 0, fun q hq => by simp only [dif_pos hq]; exact Classical.choose_spec (hex q hq)⟩
  have hl : ((List.range n).map f).length = n := by simp
  refine ⟨⟨((List.range n).map f).toArray⟩, by show ((List.range n).map f).toArray.size = n; simp, ?_, ?_⟩
  · show (((List.range n).map f).all (· != 0)) = true
    rw [List.all_eq_true]
    intro x hx
    obtain ⟨q, hq, rfl⟩ := List.mem_map.1 hx
    simpa using (hf q (List.mem_range.1 hq)).1
  have := run_convert_bytes_back (P := Try.prog) w 92 9 5 ⟨g, 0, none⟩ cap ((List.range n).map f) Try.underlying92 Try.underlying5 Try.underlying9 (fun j hj => by
    rw [hl] at hj
    have hadd : (⟨g, 0, none⟩ : Addr).add j = ⟨g, j, none⟩ := by unfold Addr.add; split <;> simp_all
    rw [hadd, (hf j hj).2]
    simp)
  rwa [hl] at this

theorem bytes_below (w : World) (s : ByteArray) : Below w.heap.size w (bytesWorld w 5 s) := by
  refine ⟨?_, ?_, ?_, by rw [bytesWorld_size]; omega, fun k hk => bytesWorld_at_old w 5 s k hk⟩
  all_goals (simp [bytesWorld, World.freeze]; try rfl)
theorem bytes_at (w : World) (s : ByteArray) (hc : Clean s) : BytesAt (bytesWorld w 5 s) w.heap.size s.size := by
  intro q hq
  refine ⟨⟨_, ?_, ?_, bytesWorld_cell w 5 s q hq⟩, ?_⟩
  · have h0 := hc.at hq
    have : (s.data.toList.getD q 0).toNat ≠ 0 := fun h => h0 (UInt8.toNat_inj.1 h)
    omega
  · have := (s.data.toList.getD q 0).toNat_lt; omega
  · have hsz : s.size ≤ (bytesCells w 5 s).size := by
      unfold bytesCells
      rw [Array.size_append, Array.size_map]
      show s.data.size ≤ _
      omega
    simp [World.frozen?, bytesWorld_at_new]
    omega

set_option maxRecDepth 100000 in
set_option maxHeartbeats 4000000 in
theorem word_great (v : Int) (k : Nat) (w : World) (hk : v % 16777216 = k) (ht : (k : Int) / 24 % 9 = 5) : Calls Try.prog 31 #[.int .i64 v] w (Short 12 w) := by
  have hkl : k < 16777216 := by omega
  obtain ⟨hW1, hW2⟩ := word_size (k % 24) (by omega)
  have hWC := word_clean (k % 24) (by omega)
  have hix := fun wx => word_at (k % 24) (by omega) wx
  rw [show ((k % 24 : Nat) : Int) = (k : Int) % 24 by omega] at hix
  obtain ⟨W, hW⟩ : ∃ W, W = wordOf (k % 24) := ⟨_, rfl⟩
  rw [← hW] at hix hW1 hW2 hWC
  have HWC := Lib.hid hWC
  clear hWC
  have P := Lib.hid (place_any v 16777216 w (by omega) (by omega))
  rw [hk] at P
  have WS := Lib.hid words_any
  have k0 : (0 : Int) ≤ k := by omega
  have k1 : (k : Int) < 16777216 := by omega
  clear hW hk
  have hconv := fun wx : World => Lib.run_convert_string_bytes (P := Try.prog) wx 9 92 5 W Try.underlying9 Try.underlying92 Try.underlying5
  go_enter Try.func31, Try.ntmps31
  go_wp2_with fail
  refine (P.out).mono ?_
  rintro e w1 ⟨rfl, rfl⟩
  go_wp2_with fail
  refine (WS.out _).mono ?_
  rintro e w2 ⟨rfl, hb2⟩
  have HB := Lib.hid hb2
  clear hb2
  go_wp2_with fail
  have hbw := bytes_below w2 W
  have hba := bytes_at w2 W HWC.out
  have hsz := bytesWorld_size w2 5 W
  obtain ⟨g, hg⟩ : ∃ g, g = w2.heap.size := ⟨_, rfl⟩
  obtain ⟨cap, hcap⟩ : ∃ cap, cap = grownCap w2 W.size 0 5 := ⟨_, rfl⟩
  have hgb : w.heap.size ≤ g := by rw [hg]; exact HB.out.size
  have HB3 := Lib.hid (HB.out.trans (hbw.mono HB.out.size))
  rw [← hg] at hba
  rw [← hg, ← hcap]
  generalize bytesWorld w2 5 W = w3 at hba HB3 ⊢
  have HBA := Lib.hid hba
  clear hbw hba hsz hg hcap hconv
  have HW2 := Lib.hid hW2
  go_loopw [6] (fun i wr => ∃ j : Nat, j ≤ W.size ∧ i = .int .i64 j ∧ Hid (BytesAt wr g W.size) ∧ Hid (Below w.heap.size w wr)) (fun i _ => W.size - (RowKit.intOf i).toNat)
  case atStart => exact ⟨0, Nat.zero_le _, rfl, HBA.out, HB3.out⟩
  case round =>
    obtain ⟨j, hj, rfl, HA, HL⟩ := hrel
    by_cases hjn : j < W.size
    · obtain ⟨⟨x, hx0, hx1, hx⟩, hf⟩ := HA.out j hjn
      have tj1 : (0 : Int) ≤ j := by omega
      have tj2 : (j : Int) < W.size := by omega
      have HX := Lib.hid hx
      have HF := Lib.hid hf
      by_cases hin : 97 ≤ x ∧ x ≤ 122
      · obtain ⟨i1, i2⟩ := hin
        have HA2 := Lib.hid (HA.out.set j (x - 32) (by omega) (by omega))
        have HL2 := Lib.hid (HL.out.setCell (p := ⟨g, j, none⟩) hgb (.int .u8 (x - 32)))
        go_wp2_with fail
        go_roundw
        case rel => exact ⟨j + 1, by omega, by go_num, HA2.out, HL2.out⟩
        case measure => simp [RowKit.intOf]; omega
      · have hcs : x < 97 ∨ 122 < x := by omega
        clear hin
        rcases hcs with hc | hc
        · have d1 : decide ((97 : Int) ≤ x) = false := by simp; omega
          clear hc
          go_wp2_with fail
          go_roundw
          case rel => exact ⟨j + 1, by omega, by go_num, HA.out, HL.out⟩
          case measure => simp [RowKit.intOf]; omega
        · have e1 : (97 : Int) ≤ x := by omega
          have d1 : decide (x ≤ 122) = false := by simp; omega
          clear hc
          go_wp2_with fail
          go_roundw
          case rel => exact ⟨j + 1, by omega, by go_num, HA.out, HL.out⟩
          case measure => simp [RowKit.intOf]; omega
    · obtain ⟨S, hS1, hSC, hS2⟩ := HA.out.back (cap := cap)
      have HS := Lib.hid (And.intro hS1 hSC)
      clear hS1 hSC
      go_wp2_with fail
      go_ret
      exact ⟨_, rfl, by have := HS.out.1; have := HW2.out; omega, HS.out.2, HL.out⟩

/-- A word by a number: not long. -/
theorem word_any (v : Int) (w : World) : Calls Try.prog 31 #[.int .i64 v] w (Short 12 w) := by
  obtain ⟨k, hk⟩ : ∃ k : Nat, v % 16777216 = k := ⟨(v % 16777216).toNat, by omega⟩
  obtain ⟨t, ht⟩ : ∃ t : Int, (k : Int) / 24 % 9 = t := ⟨_, rfl⟩
  have hc : (t = 0 ∨ t = 1 ∨ t = 3 ∨ t = 7 ∨ t = 8) ∨ t = 2 ∨ t = 4 ∨ t = 5 ∨ t = 6 := by omega
  rcases hc with h | rfl | rfl | rfl | rfl
  · exact word_plain v k w hk t ht h
  · exact word_turn v k w hk ht
  · exact word_cut v k w hk ht
  · exact word_great v k w hk ht
  · exact word_title v k w hk ht
end
section
open Go Go.RowKit Go.Lib

def gapArr : Array Value := #[.string ⟨#[32]⟩, .string ⟨#[32]⟩, .string ⟨#[44, 32]⟩, .string ⟨#[10]⟩, .string ⟨#[45]⟩, .string ⟨#[32, 52, 50, 32]⟩, .string ⟨#[39]⟩, .string ⟨#[32, 255]⟩, .string ⟨#[49, 32]⟩]
def gapVal : Value := .agg #[.string ⟨#[32]⟩, .string ⟨#[32]⟩, .string ⟨#[44, 32]⟩, .string ⟨#[10]⟩, .string ⟨#[45]⟩, .string ⟨#[32, 52, 50, 32]⟩, .string ⟨#[39]⟩, .string ⟨#[32, 255]⟩, .string ⟨#[49, 32]⟩]
def gapOf (i : Nat) : ByteArray := match gapArr.getD i (.string ⟨#[]⟩) with | .string s => s | _ => ⟨#[]⟩
theorem gap_clean : ∀ i, i < 9 → Clean (gapOf i) := by decide
theorem gap_size : ∀ i, i < 9 → (gapOf i).size ≤ 4 := by decide
theorem gap_at0 (w : World) : (Instr.index 69 gapVal (.int .i64 0)).run Try.prog w = .ok (.string (gapOf 0)) w := by kernel_rfl
theorem gap_at1 (w : World) : (Instr.index 69 gapVal (.int .i64 1)).run Try.prog w = .ok (.string (gapOf 1)) w := by kernel_rfl
theorem gap_at2 (w : World) : (Instr.index 69 gapVal (.int .i64 2)).run Try.prog w = .ok (.string (gapOf 2)) w := by kernel_rfl
theorem gap_at3 (w : World) : (Instr.index 69 gapVal (.int .i64 3)).run Try.prog w = .ok (.string (gapOf 3)) w := by kernel_rfl
theorem gap_at4 (w : World) : (Instr.index 69 gapVal (.int .i64 4)).run Try.prog w = .ok (.string (gapOf 4)) w := by kernel_rfl
theorem gap_at5 (w : World) : (Instr.index 69 gapVal (.int .i64 5)).run Try.prog w = .ok (.string (gapOf 5)) w := by kernel_rfl
theorem gap_at6 (w : World) : (Instr.index 69 gapVal (.int .i64 6)).run Try.prog w = .ok (.string (gapOf 6)) w := by kernel_rfl
theorem gap_at7 (w : World) : (Instr.index 69 gapVal (.int .i64 7)).run Try.prog w = .ok (.string (gapOf 7)) w := by kernel_rfl
theorem gap_at8 (w : World) : (Instr.index 69 gapVal (.int .i64 8)).run Try.prog w = .ok (.string (gapOf 8)) w := by kernel_rfl
theorem gap_at (i : Nat) (h : i < 9) (w : World) : (Instr.index 69 (.agg #[.string ⟨#[32]⟩, .string ⟨#[32]⟩, .string ⟨#[44, 32]⟩, .string ⟨#[10]⟩, .string ⟨#[45]⟩, .string ⟨#[32, 52, 50, 32]⟩, .string ⟨#[39]⟩, .string ⟨#[32, 255]⟩, .string ⟨#[49, 32]⟩]) (.int .i64 i)).run Try.prog w = .ok (.string (gapOf i)) w := by
  have hc : i = 0 ∨ i = 1 ∨ i = 2 ∨ i = 3 ∨ i = 4 ∨ i = 5 ∨ i = 6 ∨ i = 7 ∨ i = 8 := by omega
  rcases hc with rfl | rfl | rfl | rfl | rfl | rfl | rfl | rfl | rfl
  · exact gap_at0 w
  · exact gap_at1 w
  · exact gap_at2 w
  · exact gap_at3 w
  · exact gap_at4 w
  · exact gap_at5 w
  · exact gap_at6 w
  · exact gap_at7 w
  · exact gap_at8 w

set_option maxHeartbeats 1000000 in
theorem text_none (A : Option Addr) (cap : Nat) (w : World) : Calls Try.prog 17 #[.slice A 0 cap] w (Short 1000 w) := by
  go_enter Try.func17, Try.ntmps17
  go_wp2_with fail
  go_loop [3, 4] (fun s i => s = .string ⟨#[]⟩ ∧ i = .int .i64 0) (fun _ _ => 0)
  case atStart => exact ⟨rfl, rfl⟩
  case round =>
    obtain ⟨rfl, rfl⟩ := hrel
    go_wp2
    go_ret
    exact ⟨_, rfl, by decide, by decide, Below.refl _ _⟩

set_option maxRecDepth 100000 in
set_option maxHeartbeats 4000000 in
theorem text_some (b off cap n : Nat) (zs : List Int) (w : World) (hn : zs.length = n) (hlt : b < w.heap.size) (_h1 : n ≤ cap) (_h2 : cap ≤ maxLen)
    (hcell : ∀ (i : Nat) (z : Int), zs[i]? = some z → w.cell? ⟨b, off + i, none⟩ = some (.int .i64 z)) :
    Calls Try.prog 17 #[.slice (some ⟨b, off, none⟩) n cap] w (Short 1000 w) := by
  unfold maxLen at _h2
  have HC := Lib.hid hcell
  have HN := Lib.hid hn
  clear hcell hn
  go_enter Try.func17, Try.ntmps17
  go_wp2_with fail
  go_loopw [3, 4] (fun s i wr => ∃ (j : Nat) (acc : ByteArray), j ≤ n ∧ j ≤ 60 ∧ i = .int .i64 j ∧ s = .string acc ∧ acc.size ≤ 16 * j ∧ Hid (Clean acc) ∧ Hid (Below w.heap.size w wr)) (fun _ i _ => n - (RowKit.intOf i).toNat)
  case atStart => exact ⟨0, ⟨#[]⟩, Nat.zero_le _, by omega, rfl, rfl, Nat.le_refl _, Lib.hid (by decide), Below.refl _ _⟩
  case round =>
    obtain ⟨j, acc, hj, hj6, rfl, rfl, hacc, HAC, HB⟩ := hrel
    have hcs : (j < n ∧ j < 60) ∨ (j < n ∧ 60 ≤ j) ∨ n ≤ j := by omega
    rcases hcs with ⟨c1, c2⟩ | ⟨c1, c2⟩ | c1
    · have HA := Lib.hid (And.intro hacc hj6)
      obtain ⟨z, hz⟩ : ∃ z, zs[j]? = some z := ⟨_, List.getElem?_eq_getElem (by rw [HN.out]; exact c1)⟩
      have m0 := (HB.out.cell (p := ⟨b, off + j, none⟩) hlt).trans (HC.out j z hz)
      obtain ⟨k, hk⟩ : ∃ k : Int, z % 67108864 = k := ⟨_, rfl⟩
      have k0 : 0 ≤ k := by omega
      have k1 : k < 67108864 := by omega
      have c17 : ∀ wx, Calls Try.prog 18 #[.int .i64 z, .int .i64 67108864] wx fun e w' => e = .returned (.int .i64 k) ∧ wx = w' := fun wx => by
        rw [← hk]; exact place_any z 67108864 wx (by omega) (by omega)
      have C17 := Lib.hid c17
      have hix := fun wx => gap_at (k % 9).toNat (by omega) wx
      rw [show (((k % 9).toNat : Nat) : Int) = k % 9 by omega] at hix
      have hgs := gap_size (k % 9).toNat (by omega)
      have hgc := gap_clean (k % 9).toNat (by omega)
      obtain ⟨T, hT⟩ : ∃ T, T = gapOf (k % 9).toNat := ⟨_, rfl⟩
      rw [← hT] at hix hgs hgc
      have HGC := Lib.hid hgc
      clear hgc
      have c20 : ∀ wx x, Hid (Below w.heap.size w wx) → Calls Try.prog 31 #[.int .i64 x] wx fun e w' => ∃ s : ByteArray, e = .returned (.string s) ∧ s.size ≤ 12 ∧ Hid (Clean s) ∧ Hid (Below w.heap.size w w') := fun wx x hx => by
        refine (word_any _ wx).mono ?_
        rintro e w' ⟨s, he, hs, hc, hb⟩
        exact ⟨s, he, hs, hc, hx.out.trans (hb.mono hx.out.size)⟩
      have C20 := Lib.hid c20
      have tj1 : (0 : Int) ≤ j := by omega
      have tj2 : (j : Int) < n := by omega
      have hac2 : acc.size ≤ 960 := by omega
      clear hz hk c17 hT c20 hacc hj6
      go_wp2_with fail
      refine (C17.out _).mono ?_
      rintro e w1 ⟨rfl, rfl⟩
      go_wp2_with fail
      have q1 : k.tmod 9 = k % 9 := by rw [Int.tmod_eq_emod]; simp [k0]
      have q2 : IntKind.i64.wrap (k % 9) = k % 9 := IntWalk.i64_in _ (by omega)
      have HS : Hid (Hid (Below w.heap.size w wr.drew)) := below_dr HB.out 1
      go_region_with ((go_at_call 31; refine (C20.out _ _ HS.out).mono ?_; rintro e w5 ⟨s5, rfl, hs5, HC5, hb5⟩))
      all_goals
        have hsz : (acc ++ s5 ++ T).size ≤ 16 * (j + 1) := by
          have := HA.out
          rw [ByteArray.size_append, ByteArray.size_append]
          omega
        have HSZ := Lib.hid hsz
        have HCC := Lib.hid (show Clean (acc ++ s5 ++ T) from (HAC.out.append HC5.out).append HGC.out)
        clear hsz q1 q2 hix
        go_wp2_with fail
        go_roundw
        case rel => exact ⟨j + 1, acc ++ s5 ++ T, by omega, by omega, by go_num, rfl, HSZ.out, HCC.out, hb5⟩
        case measure => simp [RowKit.intOf]; omega
    · have HA := Lib.hid (And.intro hacc hj6)
      clear hacc hj6 hj
      go_wp2_with fail
      go_ret
      exact ⟨_, rfl, by have := HA.out; omega, HAC.out, HB.out⟩
    · have HA := Lib.hid (And.intro hacc hj6)
      clear hacc hj6 hj
      go_wp2_with fail
      go_ret
      exact ⟨_, rfl, by have := HA.out; omega, HAC.out, HB.out⟩
end
section
open Go Go.RowKit Go.Lib

def pieceOf (a b c : ByteArray) : Nat → ByteArray
  | 0 => ⟨#[32]⟩
  | 1 => ⟨#[120]⟩
  | 2 => ⟨#[39]⟩
  | 3 => ⟨#[115]⟩
  | 4 => ⟨#[117, 110]⟩
  | 5 => a
  | 6 => b
  | 7 => c
  | 8 => ⟨#[195]⟩
  | 9 => ⟨#[195, 169]⟩
  | 10 => ⟨#[49]⟩
  | _ => ⟨#[182]⟩
theorem piece_size (a b c : ByteArray) (ha : a.size ≤ 13) (hb : b.size ≤ 13) (hc : c.size ≤ 13) (i : Nat) : (pieceOf a b c i).size ≤ 13 := by
  unfold pieceOf
  split <;> first | assumption | decide
theorem piece_clean (a b c : ByteArray) (ha : Clean a) (hb : Clean b) (hc : Clean c) (i : Nat) : Clean (pieceOf a b c i) := by
  unfold pieceOf
  split <;> first | assumption | decide
theorem piece_at0 (a b c : ByteArray) (w : World) : (Instr.index 70 (.agg #[.string ⟨#[32]⟩, .string ⟨#[120]⟩, .string ⟨#[39]⟩, .string ⟨#[115]⟩, .string ⟨#[117, 110]⟩, .string a, .string b, .string c, .string ⟨#[195]⟩, .string ⟨#[195, 169]⟩, .string ⟨#[49]⟩, .string ⟨#[182]⟩]) (.int .i64 0)).run Try.prog w = .ok (.string (pieceOf a b c 0)) w := by kernel_rfl
theorem piece_at1 (a b c : ByteArray) (w : World) : (Instr.index 70 (.agg #[.string ⟨#[32]⟩, .string ⟨#[120]⟩, .string ⟨#[39]⟩, .string ⟨#[115]⟩, .string ⟨#[117, 110]⟩, .string a, .string b, .string c, .string ⟨#[195]⟩, .string ⟨#[195, 169]⟩, .string ⟨#[49]⟩, .string ⟨#[182]⟩]) (.int .i64 1)).run Try.prog w = .ok (.string (pieceOf a b c 1)) w := by kernel_rfl
theorem piece_at2 (a b c : ByteArray) (w : World) : (Instr.index 70 (.agg #[.string ⟨#[32]⟩, .string ⟨#[120]⟩, .string ⟨#[39]⟩, .string ⟨#[115]⟩, .string ⟨#[117, 110]⟩, .string a, .string b, .string c, .string ⟨#[195]⟩, .string ⟨#[195, 169]⟩, .string ⟨#[49]⟩, .string ⟨#[182]⟩]) (.int .i64 2)).run Try.prog w = .ok (.string (pieceOf a b c 2)) w := by kernel_rfl
theorem piece_at3 (a b c : ByteArray) (w : World) : (Instr.index 70 (.agg #[.string ⟨#[32]⟩, .string ⟨#[120]⟩, .string ⟨#[39]⟩, .string ⟨#[115]⟩, .string ⟨#[117, 110]⟩, .string a, .string b, .string c, .string ⟨#[195]⟩, .string ⟨#[195, 169]⟩, .string ⟨#[49]⟩, .string ⟨#[182]⟩]) (.int .i64 3)).run Try.prog w = .ok (.string (pieceOf a b c 3)) w := by kernel_rfl
theorem piece_at4 (a b c : ByteArray) (w : World) : (Instr.index 70 (.agg #[.string ⟨#[32]⟩, .string ⟨#[120]⟩, .string ⟨#[39]⟩, .string ⟨#[115]⟩, .string ⟨#[117, 110]⟩, .string a, .string b, .string c, .string ⟨#[195]⟩, .string ⟨#[195, 169]⟩, .string ⟨#[49]⟩, .string ⟨#[182]⟩]) (.int .i64 4)).run Try.prog w = .ok (.string (pieceOf a b c 4)) w := by kernel_rfl
theorem piece_at5 (a b c : ByteArray) (w : World) : (Instr.index 70 (.agg #[.string ⟨#[32]⟩, .string ⟨#[120]⟩, .string ⟨#[39]⟩, .string ⟨#[115]⟩, .string ⟨#[117, 110]⟩, .string a, .string b, .string c, .string ⟨#[195]⟩, .string ⟨#[195, 169]⟩, .string ⟨#[49]⟩, .string ⟨#[182]⟩]) (.int .i64 5)).run Try.prog w = .ok (.string (pieceOf a b c 5)) w := by kernel_rfl
theorem piece_at6 (a b c : ByteArray) (w : World) : (Instr.index 70 (.agg #[.string ⟨#[32]⟩, .string ⟨#[120]⟩, .string ⟨#[39]⟩, .string ⟨#[115]⟩, .string ⟨#[117, 110]⟩, .string a, .string b, .string c, .string ⟨#[195]⟩, .string ⟨#[195, 169]⟩, .string ⟨#[49]⟩, .string ⟨#[182]⟩]) (.int .i64 6)).run Try.prog w = .ok (.string (pieceOf a b c 6)) w := by kernel_rfl
theorem piece_at7 (a b c : ByteArray) (w : World) : (Instr.index 70 (.agg #[.string ⟨#[32]⟩, .string ⟨#[120]⟩, .string ⟨#[39]⟩, .string ⟨#[115]⟩, .string ⟨#[117, 110]⟩, .string a, .string b, .string c, .string ⟨#[195]⟩, .string ⟨#[195, 169]⟩, .string ⟨#[49]⟩, .string ⟨#[182]⟩]) (.int .i64 7)).run Try.prog w = .ok (.string (pieceOf a b c 7)) w := by kernel_rfl
theorem piece_at8 (a b c : ByteArray) (w : World) : (Instr.index 70 (.agg #[.string ⟨#[32]⟩, .string ⟨#[120]⟩, .string ⟨#[39]⟩, .string ⟨#[115]⟩, .string ⟨#[117, 110]⟩, .string a, .string b, .string c, .string ⟨#[195]⟩, .string ⟨#[195, 169]⟩, .string ⟨#[49]⟩, .string ⟨#[182]⟩]) (.int .i64 8)).run Try.prog w = .ok (.string (pieceOf a b c 8)) w := by kernel_rfl
theorem piece_at9 (a b c : ByteArray) (w : World) : (Instr.index 70 (.agg #[.string ⟨#[32]⟩, .string ⟨#[120]⟩, .string ⟨#[39]⟩, .string ⟨#[115]⟩, .string ⟨#[117, 110]⟩, .string a, .string b, .string c, .string ⟨#[195]⟩, .string ⟨#[195, 169]⟩, .string ⟨#[49]⟩, .string ⟨#[182]⟩]) (.int .i64 9)).run Try.prog w = .ok (.string (pieceOf a b c 9)) w := by kernel_rfl
theorem piece_at10 (a b c : ByteArray) (w : World) : (Instr.index 70 (.agg #[.string ⟨#[32]⟩, .string ⟨#[120]⟩, .string ⟨#[39]⟩, .string ⟨#[115]⟩, .string ⟨#[117, 110]⟩, .string a, .string b, .string c, .string ⟨#[195]⟩, .string ⟨#[195, 169]⟩, .string ⟨#[49]⟩, .string ⟨#[182]⟩]) (.int .i64 10)).run Try.prog w = .ok (.string (pieceOf a b c 10)) w := by kernel_rfl
theorem piece_at11 (a b c : ByteArray) (w : World) : (Instr.index 70 (.agg #[.string ⟨#[32]⟩, .string ⟨#[120]⟩, .string ⟨#[39]⟩, .string ⟨#[115]⟩, .string ⟨#[117, 110]⟩, .string a, .string b, .string c, .string ⟨#[195]⟩, .string ⟨#[195, 169]⟩, .string ⟨#[49]⟩, .string ⟨#[182]⟩]) (.int .i64 11)).run Try.prog w = .ok (.string (pieceOf a b c 11)) w := by kernel_rfl
theorem piece_at (a b c : ByteArray) (i : Nat) (h : i < 12) (w : World) : (Instr.index 70 (.agg #[.string ⟨#[32]⟩, .string ⟨#[120]⟩, .string ⟨#[39]⟩, .string ⟨#[115]⟩, .string ⟨#[117, 110]⟩, .string a, .string b, .string c, .string ⟨#[195]⟩, .string ⟨#[195, 169]⟩, .string ⟨#[49]⟩, .string ⟨#[182]⟩]) (.int .i64 i)).run Try.prog w = .ok (.string (pieceOf a b c i)) w := by
  have hc : i = 0 ∨ i = 1 ∨ i = 2 ∨ i = 3 ∨ i = 4 ∨ i = 5 ∨ i = 6 ∨ i = 7 ∨ i = 8 ∨ i = 9 ∨ i = 10 ∨ i = 11 := by omega
  rcases hc with rfl | rfl | rfl | rfl | rfl | rfl | rfl | rfl | rfl | rfl | rfl | rfl
  · exact piece_at0 a b c w
  · exact piece_at1 a b c w
  · exact piece_at2 a b c w
  · exact piece_at3 a b c w
  · exact piece_at4 a b c w
  · exact piece_at5 a b c w
  · exact piece_at6 a b c w
  · exact piece_at7 a b c w
  · exact piece_at8 a b c w
  · exact piece_at9 a b c w
  · exact piece_at10 a b c w
  · exact piece_at11 a b c w

set_option maxRecDepth 100000 in
set_option maxHeartbeats 2000000 in
theorem piece_any (v : Int) (w : World) : Calls Try.prog 19 #[.int .i64 v] w (Short 13 w) := by
  obtain ⟨k, hk⟩ : ∃ k : Int, v % 16777216 = k := ⟨_, rfl⟩
  have k0 : 0 ≤ k := by omega
  have k1 : k < 16777216 := by omega
  have c11 : ∀ wx, Calls Try.prog 18 #[.int .i64 v, .int .i64 16777216] wx fun e w' => e = .returned (.int .i64 k) ∧ wx = w' := fun wx => by
    rw [← hk]; exact place_any v 16777216 wx (by omega) (by omega)
  have C11 := Lib.hid c11
  have c20 : ∀ wx x, Below w.heap.size w wx → Calls Try.prog 31 #[.int .i64 x] wx fun e w' => ∃ s : ByteArray, e = .returned (.string s) ∧ s.size ≤ 12 ∧ Hid (Clean s) ∧ Hid (Below w.heap.size w w') := fun wx x hx => by
    refine (word_any _ wx).mono ?_
    rintro e w' ⟨s, he, hs, hc, hb⟩
    exact ⟨s, he, hs, Lib.hid hc, Lib.hid (hx.trans (hb.mono hx.size))⟩
  have C20 := Lib.hid c20
  have q1 : k.tmod 12 = k % 12 := by rw [Int.tmod_eq_emod]; simp [k0]
  have q2 : IntKind.i64.wrap (k % 12) = k % 12 := IntWalk.i64_in _ (by omega)
  clear hk c11 c20
  go_enter Try.func19, Try.ntmps19
  go_wp2_with fail
  refine (C11.out _).mono ?_
  rintro e w1 ⟨rfl, rfl⟩
  go_wp2_with fail
  refine (C20.out _ _ (Below.refl _ _)).mono ?_
  rintro e w1 ⟨s1, rfl, hs1, HC1, HB1⟩
  go_wp2_with fail
  refine (C20.out _ _ HB1.out).mono ?_
  rintro e w2 ⟨s2, rfl, hs2, HC2, HB2⟩
  have z2 : ¬ 9223372036854775807 < s2.size + 1 := by omega
  go_wp2_with fail
  refine (C20.out _ _ HB2.out).mono ?_
  rintro e w3 ⟨s3, rfl, hs3, HC3, HB3⟩
  have z3 : ¬ 9223372036854775807 < 1 + s3.size := by omega
  have hix := fun wx => piece_at s1 (s2 ++ ⟨#[32]⟩) (⟨#[32]⟩ ++ s3) (k % 12).toNat (by omega) wx
  rw [show (((k % 12).toNat : Nat) : Int) = k % 12 by omega] at hix
  have hps := piece_size s1 (s2 ++ ⟨#[32]⟩) (⟨#[32]⟩ ++ s3) (by omega) (by rw [ByteArray.size_append]; have : (⟨#[32]⟩ : ByteArray).size = 1 := rfl; omega) (by rw [ByteArray.size_append]; have : (⟨#[32]⟩ : ByteArray).size = 1 := rfl; omega) (k % 12).toNat
  have hpc := Lib.hid (piece_clean s1 (s2 ++ ⟨#[32]⟩) (⟨#[32]⟩ ++ s3) HC1.out (HC2.out.append (by decide)) (Clean.append (by decide) HC3.out) (k % 12).toNat)
  generalize pieceOf s1 (s2 ++ ⟨#[32]⟩) (⟨#[32]⟩ ++ s3) (k % 12).toNat = S at *
  go_wp2_with fail
  go_ret
  exact ⟨S, rfl, hps, hpc.out, HB3.out⟩
end
end
section
open Go Go.RowKit

theorem ten_size : (⟨#[48, 49, 50, 51, 52, 53, 54, 55, 56, 57]⟩ : ByteArray).size = 10 := rfl

set_option maxRecDepth 100000 in
set_option maxHeartbeats 1000000 in
theorem digits_small (v : Int) (w : World) (h1 : -10 < v) (h2 : v < 10) :
    Calls Try.prog 20 #[.int .i64 v] w fun e w' => ∃ s : ByteArray, e = .returned (.string s) ∧ s.size ≤ 2 ∧ Below w.heap.size w w' := by
  have hc : (0 ≤ v ∧ v < 10) ∨ (-10 < v ∧ v < 0) := by omega
  rcases hc with ⟨h1, h2⟩ | ⟨h1, h2⟩
  · obtain ⟨K, rfl⟩ : ∃ K : Nat, v = K := ⟨v.toNat, by omega⟩
    have k2 : K < 10 := by omega
    go_enter Try.func20, Try.ntmps20
    go_wp2_with fail
    go_ret
    exact ⟨_, rfl, by rw [ByteArray.size_extract, ten_size]; omega, Below.refl _ _⟩
  · obtain ⟨K, rfl⟩ : ∃ K : Nat, v = -(K : Int) := ⟨(-v).toNat, by omega⟩
    have k1 : 0 < K := by omega
    have k2 : K < 10 := by omega
    go_enter Try.func20, Try.ntmps20
    go_wp2_with fail
    go_ret
    refine ⟨_, rfl, ?_, Below.refl _ _⟩
    rw [ByteArray.size_append, ByteArray.size_extract, ten_size]
    have : (⟨#[45]⟩ : ByteArray).size = 1 := rfl
    omega

set_option maxRecDepth 100000 in
set_option maxHeartbeats 2000000 in
theorem digits_n : ∀ (n : Nat) (v : Int) (w : World), v.natAbs < 10 ^ (n + 1) → -9223372036854775808 ≤ v → v ≤ 9223372036854775807 → n ≤ 20 →
    Calls Try.prog 20 #[.int .i64 v] w fun e w' => ∃ s : ByteArray, e = .returned (.string s) ∧ s.size ≤ n + 2 ∧ Below w.heap.size w w' := by
  intro n
  induction n with
  | zero =>
    intro v w hv b1 b2 _
    exact digits_small v w (by omega) (by omega)
  | succ n ih =>
    intro v w hv b1 b2 hn
    have hc : (-10 < v ∧ v < 10) ∨ 10 ≤ v ∨ v ≤ -10 := by omega
    rcases hc with ⟨h1, h2⟩ | h1 | h1
    · exact (digits_small v w h1 h2).mono fun e w' ⟨s, he, hs, hb⟩ => ⟨s, he, by omega, hb⟩
    · have hp : (10 : Nat) ^ (n + 1 + 1) = 10 * 10 ^ (n + 1) := by rw [Nat.pow_succ]; omega
      rw [hp] at hv
      generalize 10 ^ (n + 1) = N at *
      obtain ⟨q, hq⟩ : ∃ q : Int, v.tdiv 10 = q := ⟨_, rfl⟩
      obtain ⟨K, hk⟩ : ∃ K : Nat, v.tmod 10 = K := ⟨(v.tmod 10).toNat, by rw [Int.tmod_eq_emod_of_nonneg (by omega)]; omega⟩
      have k2 : K < 10 := by rw [Int.tmod_eq_emod_of_nonneg (by omega)] at hk; omega
      have qq : v / 10 = q := by rw [← hq, Int.tdiv_eq_ediv_of_nonneg (by omega)]
      have C := Lib.hid (fun wx => ih q wx (by omega) (by omega) (by omega) (by omega))
      have wq : IntKind.i64.wrap q = q := IntWalk.i64_in _ (by omega)
      have wk : IntKind.i64.wrap (K : Int) = K := IntWalk.i64_in _ (by omega)
      have wk1 : IntKind.i64.wrap ((K : Int) + 1) = (K : Int) + 1 := IntWalk.i64_in _ (by omega)
      have k3 : (0 : Int) ≤ K := by omega
      have k4 : (K : Int) + 1 ≤ 10 := by omega
      have k5 : (K : Int) ≤ (K : Int) + 1 := by omega
      have k6 : (K + 1) ≤ 10 := by omega
      clear ih hv hp qq
      go_enter Try.func20, Try.ntmps20
      go_wp2_with fail
      go_region_with ((go_at_call 20; refine (C.out _).mono ?_; rintro e w5 ⟨s5, rfl, hs5, hb5⟩))
      all_goals
        have HS := Lib.hid hs5
        have HB := Lib.hid ((below_drewN (Below.refl w.heap.size w) 1).trans hb5)
        clear hs5 hb5
        go_wp2_with fail
        go_ret
        refine ⟨_, rfl, ?_, HB.out⟩
        have := HS.out
        rw [ByteArray.size_append, ByteArray.size_extract, ten_size]
        omega
    · have hp : (10 : Nat) ^ (n + 1 + 1) = 10 * 10 ^ (n + 1) := by rw [Nat.pow_succ]; omega
      rw [hp] at hv
      generalize 10 ^ (n + 1) = N at *
      obtain ⟨V, rfl⟩ : ∃ V : Nat, v = -(V : Int) := ⟨(-v).toNat, by omega⟩
      obtain ⟨q, hq⟩ : ∃ q : Int, (-(V : Int)).tdiv 10 = q := ⟨_, rfl⟩
      obtain ⟨K, hK⟩ : ∃ K : Nat, V % 10 = K := ⟨_, rfl⟩
      have hk : (-(V : Int)).tmod 10 = -(K : Int) := by rw [Int.neg_tmod, Int.tmod_eq_emod_of_nonneg (by omega)]; omega
      have k2 : K < 10 := by omega
      have qq : -((V : Int) / 10) = q := by rw [← hq, Int.neg_tdiv, Int.tdiv_eq_ediv_of_nonneg (by omega)]
      have C := Lib.hid (fun wx => ih q wx (by omega) (by omega) (by omega) (by omega))
      have wq : IntKind.i64.wrap q = q := IntWalk.i64_in _ (by omega)
      have wk : IntKind.i64.wrap (K : Int) = K := IntWalk.i64_in _ (by omega)
      have wkn : IntKind.i64.wrap (-(K : Int)) = -(K : Int) := IntWalk.i64_in _ (by omega)
      have wk1 : IntKind.i64.wrap ((K : Int) + 1) = (K : Int) + 1 := IntWalk.i64_in _ (by omega)
      have k3 : (0 : Int) ≤ K := by omega
      have k4 : (K : Int) + 1 ≤ 10 := by omega
      have k5 : (K : Int) ≤ (K : Int) + 1 := by omega
      have k6 : (K + 1) ≤ 10 := by omega
      have kn : - -(K : Int) = K := by omega
      clear ih hv hp qq hK
      go_enter Try.func20, Try.ntmps20
      go_wp2_with fail
      go_region_with ((go_at_call 20; refine (C.out _).mono ?_; rintro e w5 ⟨s5, rfl, hs5, hb5⟩))
      all_goals
        have HS := Lib.hid hs5
        have HB := Lib.hid ((below_drewN (Below.refl w.heap.size w) 1).trans hb5)
        clear hs5 hb5
        go_wp2_with fail
        go_ret
        refine ⟨_, rfl, ?_, HB.out⟩
        have := HS.out
        rw [ByteArray.size_append, ByteArray.size_extract, ten_size]
        omega

/-- Digits of any number: a short string. -/
theorem digits_any (v : Int) (w : World) (b1 : -9223372036854775808 ≤ v) (b2 : v ≤ 9223372036854775807) :
    Calls Try.prog 20 #[.int .i64 v] w fun e w' => ∃ s : ByteArray, e = .returned (.string s) ∧ s.size ≤ 20 ∧ Below w.heap.size w w' :=
  digits_n 18 v w (by omega) b1 b2 (by omega)
end
end Go.Proofs.Ytfdnlbeancdajaa.Cl
