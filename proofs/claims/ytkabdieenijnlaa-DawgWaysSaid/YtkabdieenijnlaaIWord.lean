/- A word by a number, by contract: how long it may be. -/
import Derived.Test.YtkabdieenijnlaaIPlace
import Derived.Test.YtkabdieenijnlaaIApp
import Derived.Deep.RegionLaw
import Derived.Deep.AppendLies
import Derived.Deep.LoopGhost
import Derived.Deep.DeepCutAuto
import Derived.BigRegion
import Derived.Laws.Rows
import Derived.Outline
import Derived.Deep.QuietTactic
import Derived.BigQuiet
import Derived.Deep.MidRow
import Derived.Lib.ConvBytes
import Derived.Laws.IdiomStrings
import Derived.Deep.RegionWith
namespace Go.Proofs.Ytkabdieenijnlaa.Wd
section
open Go Go.RowKit Go.Lib

def wordArr : Array Value := #[.string ⟨#[99, 97, 116]⟩, .string ⟨#[100, 111, 103]⟩, .string ⟨#[99, 105, 116, 121]⟩, .string ⟨#[100, 111]⟩, .string ⟨#[100, 111, 110, 101]⟩, .string ⟨#[80, 97, 114, 105, 115]⟩, .string ⟨#[105, 116, 39, 115]⟩, .string ⟨#[104, 111, 112, 101]⟩, .string ⟨#[109, 97, 107, 101]⟩, .string ⟨#[116, 97, 112]⟩, .string ⟨#[116, 111, 112]⟩, .string ⟨#[116, 111, 112, 115]⟩, .string ⟨#[116, 97, 112, 115]⟩, .string ⟨#[98, 101]⟩, .string ⟨#[195, 150, 108]⟩, .string ⟨#[195, 182, 100, 101]⟩, .string ⟨#[78, 65, 84, 79]⟩, .string ⟨#[97]⟩, .string ⟨#[114, 117, 110]⟩, .string ⟨#[114, 117, 110, 115]⟩, .string ⟨#[116, 114, 121]⟩, .string ⟨#[116, 114, 105, 101, 115]⟩, .string ⟨#[104, 111, 117, 115, 101]⟩, .string ⟨#[109, 111, 117, 115, 101]⟩]
def wordOf (i : Nat) : ByteArray := match wordArr.getD i (.string ⟨#[]⟩) with | .string s => s | _ => ⟨#[]⟩
def wordsVal : Value := .agg wordArr
theorem word_size : ∀ i, i < 24 → 1 ≤ (wordOf i).size ∧ (wordOf i).size ≤ 6 := by decide

theorem below_setCells {B : Nat} {a : World} (b : Nat) (hb : B ≤ b) : ∀ (vs : List Value) (o : Nat) (w : World), Below B a w → Below B a (w.setCells b o vs)
  | [], _, _, h => h
  | v :: r, o, _, h => below_setCells b hb r (o + 1) _ (h.setCell (p := ⟨b, o, none⟩) hb v)
theorem wpList_build_eq {P : Program} {ops : Array Oper} {rest : List Oper} {o : Oper} {a : Act} {w : World} {Q : Exit → Act → World → Prop} (hg : o.guard = none) (t : TypeId) (parts : Array (Nat × Operand)) (ho : o.op = .build t parts)
    (cells : Array Value) (hc : P.built t (parts.map fun (i, x) => (i, a.eval x)).toList = some cells) (h : wpList P ops Q rest (a.put o.dst (.agg cells)) w) : wpList P ops Q (o :: rest) a w :=
  wpList_build hg t parts ho (by rw [hc]; rfl) (by rw [hc]; exact h)
theorem below_setRow {B : Nat} {a w : World} (h : Below B a w) {g : Nat} (hg : B ≤ g) (cs : Array Value) : Below B a (w.setRow g cs) :=
  ⟨h.os, h.tape, h.output, by simp; exact h.size, fun k hk => by
    rw [← h.block k hk]
    simp only [World.setRow, Array.getElem?_modify]
    rw [if_neg (by omega)]⟩

theorem Try.info56 : (Try.prog.info? 56).map (·.size) = some 24 := by kernel_rfl
theorem word_one : wordArr.all (·.oneCell') = true := by kernel_rfl
theorem row_same (w : World) (Z : Array Value) (t : TypeId) (cs : Array Value) : ((w.alloc (.cells Z t)).setRow w.heap.size cs).heap[w.heap.size]? = some (.cells cs t (0, 0)) := by
  simp only [World.setRow, Array.getElem?_modify, if_true]
  rw [heap_alloc_new]
  rfl
set_option maxHeartbeats 1000000 in
theorem words_any (w : World) : Calls Try.prog 33 #[] w fun e w' => e = .returned wordsVal ∧ Below w.heap.size w w' := by
  go_enter Try.func33, Try.ntmps33
  go_upto_region 1 with fail
  refine wp_region_lit (l := [_, _]) ?_
  refine wpList_build_eq rfl 56 _ rfl wordArr (by kernel_rfl) ?_
  refine wpList_store_row rfl 56 (.tmp 0) (.tmp 1) rfl w.heap.size wordArr rfl rfl 56 _ (heap_alloc_new w _) Try.info56 rfl word_one ?_
  refine wpList_nil ?_
  have hr := fun Z : Array Value => row_same w Z 56 wordArr
  have hb := fun Z : Array Value => below_setRow ((Below.refl w.heap.size w).alloc (Nat.le_refl _) (.cells Z 56)) (Nat.le_refl _) wordArr
  have HR := Lib.hid hr
  have HB := Lib.hid hb
  clear hr hb
  simp only [Act.put, List.setIfInBounds_toArray, List.set_cons_zero, List.set_cons_succ]
  go_wp2_with fail
  refine bodyPost_ret (results_cell_row rfl _ _ w.heap.size 56 wordArr (0, 0) _ rfl (HR.out _) Try.underlying56 rfl Try.info56) rfl ?_
  exact ⟨rfl, HB.out _⟩

theorem word_at0 (w : World) : (Instr.index 56 wordsVal (.int .i64 0)).run Try.prog w = .ok (.string (wordOf 0)) w := by kernel_rfl
theorem word_at1 (w : World) : (Instr.index 56 wordsVal (.int .i64 1)).run Try.prog w = .ok (.string (wordOf 1)) w := by kernel_rfl
theorem word_at2 (w : World) : (Instr.index 56 wordsVal (.int .i64 2)).run Try.prog w = .ok (.string (wordOf 2)) w := by kernel_rfl
theorem word_at3 (w : World) : (Instr.index 56 wordsVal (.int .i64 3)).run Try.prog w = .ok (.string (wordOf 3)) w := by kernel_rfl
theorem word_at4 (w : World) : (Instr.index 56 wordsVal (.int .i64 4)).run Try.prog w = .ok (.string (wordOf 4)) w := by kernel_rfl
theorem word_at5 (w : World) : (Instr.index 56 wordsVal (.int .i64 5)).run Try.prog w = .ok (.string (wordOf 5)) w := by kernel_rfl
theorem word_at6 (w : World) : (Instr.index 56 wordsVal (.int .i64 6)).run Try.prog w = .ok (.string (wordOf 6)) w := by kernel_rfl
theorem word_at7 (w : World) : (Instr.index 56 wordsVal (.int .i64 7)).run Try.prog w = .ok (.string (wordOf 7)) w := by kernel_rfl
theorem word_at8 (w : World) : (Instr.index 56 wordsVal (.int .i64 8)).run Try.prog w = .ok (.string (wordOf 8)) w := by kernel_rfl
theorem word_at9 (w : World) : (Instr.index 56 wordsVal (.int .i64 9)).run Try.prog w = .ok (.string (wordOf 9)) w := by kernel_rfl
theorem word_at10 (w : World) : (Instr.index 56 wordsVal (.int .i64 10)).run Try.prog w = .ok (.string (wordOf 10)) w := by kernel_rfl
theorem word_at11 (w : World) : (Instr.index 56 wordsVal (.int .i64 11)).run Try.prog w = .ok (.string (wordOf 11)) w := by kernel_rfl
theorem word_at12 (w : World) : (Instr.index 56 wordsVal (.int .i64 12)).run Try.prog w = .ok (.string (wordOf 12)) w := by kernel_rfl
theorem word_at13 (w : World) : (Instr.index 56 wordsVal (.int .i64 13)).run Try.prog w = .ok (.string (wordOf 13)) w := by kernel_rfl
theorem word_at14 (w : World) : (Instr.index 56 wordsVal (.int .i64 14)).run Try.prog w = .ok (.string (wordOf 14)) w := by kernel_rfl
theorem word_at15 (w : World) : (Instr.index 56 wordsVal (.int .i64 15)).run Try.prog w = .ok (.string (wordOf 15)) w := by kernel_rfl
theorem word_at16 (w : World) : (Instr.index 56 wordsVal (.int .i64 16)).run Try.prog w = .ok (.string (wordOf 16)) w := by kernel_rfl
theorem word_at17 (w : World) : (Instr.index 56 wordsVal (.int .i64 17)).run Try.prog w = .ok (.string (wordOf 17)) w := by kernel_rfl
theorem word_at18 (w : World) : (Instr.index 56 wordsVal (.int .i64 18)).run Try.prog w = .ok (.string (wordOf 18)) w := by kernel_rfl
theorem word_at19 (w : World) : (Instr.index 56 wordsVal (.int .i64 19)).run Try.prog w = .ok (.string (wordOf 19)) w := by kernel_rfl
theorem word_at20 (w : World) : (Instr.index 56 wordsVal (.int .i64 20)).run Try.prog w = .ok (.string (wordOf 20)) w := by kernel_rfl
theorem word_at21 (w : World) : (Instr.index 56 wordsVal (.int .i64 21)).run Try.prog w = .ok (.string (wordOf 21)) w := by kernel_rfl
theorem word_at22 (w : World) : (Instr.index 56 wordsVal (.int .i64 22)).run Try.prog w = .ok (.string (wordOf 22)) w := by kernel_rfl
theorem word_at23 (w : World) : (Instr.index 56 wordsVal (.int .i64 23)).run Try.prog w = .ok (.string (wordOf 23)) w := by kernel_rfl
theorem word_at (i : Nat) (h : i < 24) (w : World) : (Instr.index 56 wordsVal (.int .i64 i)).run Try.prog w = .ok (.string (wordOf i)) w := by
  have hc : i = 0 ∨ i = 1 ∨ i = 2 ∨ i = 3 ∨ i = 4 ∨ i = 5 ∨ i = 6 ∨ i = 7 ∨ i = 8 ∨ i = 9 ∨ i = 10 ∨ i = 11 ∨ i = 12 ∨ i = 13 ∨ i = 14 ∨ i = 15 ∨ i = 16 ∨ i = 17 ∨ i = 18 ∨ i = 19 ∨ i = 20 ∨ i = 21 ∨ i = 22 ∨ i = 23 := by omega
  rcases hc with rfl | rfl | rfl | rfl | rfl | rfl | rfl | rfl | rfl | rfl | rfl | rfl | rfl | rfl | rfl | rfl | rfl | rfl | rfl | rfl | rfl | rfl | rfl | rfl
  · exact word_at0 w
  · exact word_at1 w
  · exact word_at2 w
  · exact word_at3 w
  · exact word_at4 w
  · exact word_at5 w
  · exact word_at6 w
  · exact word_at7 w
  · exact word_at8 w
  · exact word_at9 w
  · exact word_at10 w
  · exact word_at11 w
  · exact word_at12 w
  · exact word_at13 w
  · exact word_at14 w
  · exact word_at15 w
  · exact word_at16 w
  · exact word_at17 w
  · exact word_at18 w
  · exact word_at19 w
  · exact word_at20 w
  · exact word_at21 w
  · exact word_at22 w
  · exact word_at23 w

theorem below_dr {B : Nat} {a w : World} (h : Below B a w) (n : Nat) : Below B a (w.drewN n) := ⟨h.os, h.tape, h.output, h.size, h.block⟩
/-- A string that is not long. -/
def Short (n : Nat) (w : World) (e : Ending) (w' : World) : Prop := ∃ s : ByteArray, e = .returned (.string s) ∧ s.size ≤ n ∧ Below w.heap.size w w'

set_option maxRecDepth 100000 in
set_option maxHeartbeats 1000000 in
theorem word_plain (v : Int) (k : Nat) (w : World) (hk : v % 16777216 = k) (t : Int) (ht : (k : Int) / 24 % 9 = t) (h : t = 0 ∨ t = 1 ∨ t = 3 ∨ t = 7 ∨ t = 8) :
    Calls Try.prog 20 #[.int .i64 v] w (Short 12 w) := by
  have hkl : k < 16777216 := by omega
  obtain ⟨hW1, hW2⟩ := word_size (k % 24) (by omega)
  have hix := fun wx => word_at (k % 24) (by omega) wx
  rw [show ((k % 24 : Nat) : Int) = (k : Int) % 24 by omega] at hix
  obtain ⟨W, hW⟩ : ∃ W, W = wordOf (k % 24) := ⟨_, rfl⟩
  rw [← hW] at hix hW1 hW2
  have P := Lib.hid (place9 v 16777216 w (by omega) (by omega))
  rw [hk] at P
  have WS := Lib.hid words_any
  have k0 : (0 : Int) ≤ k := by omega
  have k1 : (k : Int) < 16777216 := by omega
  clear hW hk
  rcases h with rfl | rfl | rfl | rfl | rfl
  all_goals
    go_enter Try.func20, Try.ntmps20
    go_wp2_with fail
    refine (P.out).mono ?_
    rintro e w1 ⟨rfl, rfl⟩
    go_wp2_with fail
    refine (WS.out _).mono ?_
    rintro e w2 ⟨rfl, hb2⟩
    have HB := Lib.hid hb2
    clear hb2
    go_wp2_with fail
    go_ret
    refine ⟨_, rfl, ?_, HB.out⟩
    have e1 : ByteArray.size ⟨#[115]⟩ = 1 := rfl
    have e2 : ByteArray.size ⟨#[117, 110]⟩ = 2 := rfl
    have e3 : ByteArray.size ⟨#[120]⟩ = 1 := rfl
    first
      | omega
      | (rw [ByteArray.size_append]; omega)

set_option maxRecDepth 100000 in
set_option maxHeartbeats 1000000 in
theorem word_turn (v : Int) (k : Nat) (w : World) (hk : v % 16777216 = k) (ht : (k : Int) / 24 % 9 = 2) : Calls Try.prog 20 #[.int .i64 v] w (Short 12 w) := by
  have hkl : k < 16777216 := by omega
  obtain ⟨hW1, hW2⟩ := word_size (k % 24) (by omega)
  have hix := fun wx => word_at (k % 24) (by omega) wx
  rw [show ((k % 24 : Nat) : Int) = (k : Int) % 24 by omega] at hix
  obtain ⟨W, hW⟩ : ∃ W, W = wordOf (k % 24) := ⟨_, rfl⟩
  rw [← hW] at hix hW1 hW2
  have P := Lib.hid (place9 v 16777216 w (by omega) (by omega))
  rw [hk] at P
  have WS := Lib.hid words_any
  have k0 : (0 : Int) ≤ k := by omega
  have k1 : (k : Int) < 16777216 := by omega
  clear hW hk
  by_cases hl : 1 < W.size
  · have s1 : (1 : Int) < W.size := by omega
    have s2 : (2 : Int) ≤ W.size := by omega
    go_enter Try.func20, Try.ntmps20
    go_wp2_with fail
    refine (P.out).mono ?_
    rintro e w1 ⟨rfl, rfl⟩
    go_wp2_with fail
    refine (WS.out _).mono ?_
    rintro e w2 ⟨rfl, hb2⟩
    have HB := Lib.hid hb2
    clear hb2
    go_wp2_with fail
    go_quiet (fail)
    go_wp2_with fail
    go_ret
    refine ⟨_, rfl, ?_, below_dr HB.out nq⟩
    simp only [ByteArray.size_append, ByteArray.size_extract]
    omega
  · have s3 : W.size ≤ 1 := by omega
    have d1 : decide ((1 : Int) < (W.size : Int)) = false := by simp; omega
    have d2 : decide (1 < W.size) = false := by simp; omega
    have HS := Lib.hid s3
    clear hl s3
    go_enter Try.func20, Try.ntmps20
    go_wp2_with fail
    refine (P.out).mono ?_
    rintro e w1 ⟨rfl, rfl⟩
    go_wp2_with fail
    refine (WS.out _).mono ?_
    rintro e w2 ⟨rfl, hb2⟩
    have HB := Lib.hid hb2
    clear hb2
    go_wp2_with fail
    go_ret
    exact ⟨_, rfl, by have := HS.out; omega, HB.out⟩

set_option maxRecDepth 100000 in
set_option maxHeartbeats 1000000 in
theorem word_cut (v : Int) (k : Nat) (w : World) (hk : v % 16777216 = k) (ht : (k : Int) / 24 % 9 = 4) : Calls Try.prog 20 #[.int .i64 v] w (Short 12 w) := by
  have hkl : k < 16777216 := by omega
  obtain ⟨hW1, hW2⟩ := word_size (k % 24) (by omega)
  have hix := fun wx => word_at (k % 24) (by omega) wx
  rw [show ((k % 24 : Nat) : Int) = (k : Int) % 24 by omega] at hix
  obtain ⟨W, hW⟩ : ∃ W, W = wordOf (k % 24) := ⟨_, rfl⟩
  rw [← hW] at hix hW1 hW2
  have P := Lib.hid (place9 v 16777216 w (by omega) (by omega))
  rw [hk] at P
  have WS := Lib.hid words_any
  have k0 : (0 : Int) ≤ k := by omega
  have k1 : (k : Int) < 16777216 := by omega
  clear hW hk
  by_cases hl : 2 < W.size
  · have s1 : (2 : Int) < W.size := by omega
    have s2 : (0 : Int) ≤ (W.size : Int) - 1 := by omega
    go_enter Try.func20, Try.ntmps20
    go_wp2_with fail
    refine (P.out).mono ?_
    rintro e w1 ⟨rfl, rfl⟩
    go_wp2_with fail
    refine (WS.out _).mono ?_
    rintro e w2 ⟨rfl, hb2⟩
    have HB := Lib.hid hb2
    clear hb2
    go_wp2_with fail
    go_ret
    refine ⟨_, rfl, ?_, HB.out⟩
    simp only [ByteArray.size_extract]
    omega
  · have s3 : W.size ≤ 2 := by omega
    have d1 : decide ((2 : Int) < (W.size : Int)) = false := by simp; omega
    have d2 : decide (2 < W.size) = false := by simp; omega
    have HS := Lib.hid s3
    clear hl s3
    go_enter Try.func20, Try.ntmps20
    go_wp2_with fail
    refine (P.out).mono ?_
    rintro e w1 ⟨rfl, rfl⟩
    go_wp2_with fail
    refine (WS.out _).mono ?_
    rintro e w2 ⟨rfl, hb2⟩
    have HB := Lib.hid hb2
    clear hb2
    go_wp2_with fail
    go_ret
    exact ⟨_, rfl, by have := HS.out; omega, HB.out⟩
end
section
open Go Go.RowKit Go.Lib

theorem conv_one (x : Int) (hx0 : 0 ≤ x) (hx1 : x < 256) : ∃ S : ByteArray, S.size = 1 ∧ ∀ wx : World, (convert 40 9 (.slice (some ⟨wx.heap.size, 0, none⟩) 1 1)).run Try.prog ((wx.alloc (.cells #[.int .u8 x] 5)).drew) = .ok (.string S) ((wx.alloc (.cells #[.int .u8 x] 5)).drew) := by
  refine ⟨⟨[UInt8.ofNat x.toNat].toArray⟩, rfl, fun wx => ?_⟩
  exact run_convert_bytes_back (P := Try.prog) ((wx.alloc (.cells #[.int .u8 x] 5)).drew) 40 9 5 ⟨wx.heap.size, 0, none⟩ 1 [UInt8.ofNat x.toNat] Try.underlying40 Try.underlying5 Try.underlying9 (fun j hj => by
    have hj0 : j = 0 := by simpa using hj
    subst hj0
    have he : ((UInt8.ofNat x.toNat).toNat : Int) = x := by simp; omega
    have hc : ((wx.alloc (.cells #[.int .u8 x] 5)).drew).cell? ⟨wx.heap.size, 0, none⟩ = some (.int .u8 x) := by simp
    rw [show (⟨wx.heap.size, 0, none⟩ : Addr).add 0 = ⟨wx.heap.size, 0, none⟩ from rfl, hc]
    show _ = some (Value.int .u8 ((UInt8.ofNat x.toNat).toNat : Int))
    rw [he])

set_option maxRecDepth 100000 in
set_option maxHeartbeats 1000000 in
theorem word_title (v : Int) (k : Nat) (w : World) (hk : v % 16777216 = k) (ht : (k : Int) / 24 % 9 = 6) : Calls Try.prog 20 #[.int .i64 v] w (Short 12 w) := by
  have hkl : k < 16777216 := by omega
  obtain ⟨hW1, hW2⟩ := word_size (k % 24) (by omega)
  have hix := fun wx => word_at (k % 24) (by omega) wx
  rw [show ((k % 24 : Nat) : Int) = (k : Int) % 24 by omega] at hix
  obtain ⟨W, hW⟩ : ∃ W, W = wordOf (k % 24) := ⟨_, rfl⟩
  rw [← hW] at hix hW1 hW2
  have P := Lib.hid (place9 v 16777216 w (by omega) (by omega))
  rw [hk] at P
  have WS := Lib.hid words_any
  have k0 : (0 : Int) ≤ k := by omega
  have k1 : (k : Int) < 16777216 := by omega
  clear hW hk
  have hpos : 0 < W.size := by omega
  have hbb := W[0].toNat_lt
  by_cases hlow : 97 ≤ W[0].toNat ∧ W[0].toNat ≤ 122
  · obtain ⟨l1, l2⟩ := hlow
    have q1 : (97 : Int) ≤ (W[0].toNat : Int) := by omega
    have q2 : (W[0].toNat : Int) ≤ 122 := by omega
    obtain ⟨S, hS1, hS2⟩ := conv_one ((W[0].toNat : Int) - 32) (by omega) (by omega)
    have hS3 : S.size ≤ 1 := by omega
    have HS1 := Lib.hid hS1
    have s1 : (0 : Int) < W.size := by omega
    have s2 : (1 : Int) ≤ W.size := by omega
    have u1 : IntKind.u8.wrap ((W[0].toNat : Int) - 32) = (W[0].toNat : Int) - 32 := IntWalk.u8_in _ (by omega)
    clear hS1
    go_enter Try.func20, Try.ntmps20
    go_wp2_with fail
    refine (P.out).mono ?_
    rintro e w1 ⟨rfl, rfl⟩
    go_wp2_with fail
    refine (WS.out _).mono ?_
    rintro e w2 ⟨rfl, hb2⟩
    have HB := Lib.hid hb2
    clear hb2
    go_wp2_with fail
    go_region
    go_wp2_with fail
    go_ret
    refine ⟨_, rfl, ?_, below_dr (HB.out.alloc HB.out.size _) 1⟩
    have := HS1.out
    simp only [ByteArray.size_append, ByteArray.size_extract]
    omega
  · have hcs : W[0].toNat < 97 ∨ 122 < W[0].toNat := by omega
    have HW := Lib.hid hW2
    have s1 : (0 : Int) < W.size := by omega
    rcases hcs with hc | hc
    · have d1 : decide ((97 : Int) ≤ (W[0].toNat : Int)) = false := by simp; omega
      have d2 : decide (97 ≤ W[0].toNat) = false := by simp; omega
      clear hlow hc
      go_enter Try.func20, Try.ntmps20
      go_wp2_with fail
      refine (P.out).mono ?_
      rintro e w1 ⟨rfl, rfl⟩
      go_wp2_with fail
      refine (WS.out _).mono ?_
      rintro e w2 ⟨rfl, hb2⟩
      have HB := Lib.hid hb2
      clear hb2
      go_wp2_with fail
      go_ret
      exact ⟨_, rfl, by have := HW.out; omega, HB.out⟩
    · have e1 : (97 : Int) ≤ (W[0].toNat : Int) := by omega
      have d1 : decide ((W[0].toNat : Int) ≤ 122) = false := by simp; omega
      have d2 : decide (W[0].toNat ≤ 122) = false := by simp; omega
      clear hlow hc
      go_enter Try.func20, Try.ntmps20
      go_wp2_with fail
      refine (P.out).mono ?_
      rintro e w1 ⟨rfl, rfl⟩
      go_wp2_with fail
      refine (WS.out _).mono ?_
      rintro e w2 ⟨rfl, hb2⟩
      have HB := Lib.hid hb2
      clear hb2
      go_wp2_with fail
      go_ret
      exact ⟨_, rfl, by have := HW.out; omega, HB.out⟩
end

section
open Go Go.RowKit Go.Lib

/-- A block begins with so many bytes that may be written. -/
def BytesAt (w : World) (g n : Nat) : Prop := ∀ q, q < n → (∃ x : Int, 0 ≤ x ∧ x < 256 ∧ w.cell? ⟨g, q, none⟩ = some (.int .u8 x)) ∧ w.frozen? ⟨g, q, none⟩ = false
theorem BytesAt.set {w : World} {g n : Nat} (h : BytesAt w g n) (k : Nat) (y : Int) (hy0 : 0 ≤ y) (hy1 : y < 256) : BytesAt (w.setCell ⟨g, k, none⟩ (.int .u8 y)) g n := by
  intro q hq
  obtain ⟨⟨x, hx0, hx1, hx⟩, hf⟩ := h q hq
  refine ⟨?_, ?_⟩
  · by_cases hk : k = q
    · subst hk
      exact ⟨y, hy0, hy1, World.cell?_setCell_same (h := hx) ..⟩
    · exact ⟨x, hx0, hx1, (World.cell?_setCell_other (h := by intro e; injection e; omega) ..).trans hx⟩
  · rw [← hf]
    exact World.frozen?_setCell ..
theorem BytesAt.back {w : World} {g n cap : Nat} (h : BytesAt w g n) : ∃ S : ByteArray, S.size = n ∧ (convert 40 9 (.slice (some ⟨g, 0, none⟩) n cap)).run Try.prog w = .ok (.string S) w := by
  have hex : ∀ q, q < n → ∃ b : UInt8, w.cell? ⟨g, q, none⟩ = some (.int .u8 (b.toNat : Int)) := fun q hq => by
    obtain ⟨⟨x, hx0, hx1, hx⟩, _⟩ := h q hq
    refine ⟨UInt8.ofNat x.toNat, ?_⟩
    have he : ((UInt8.ofNat x.toNat).toNat : Int) = x := by simp; omega
    rw [he]; exact hx
  obtain ⟨f, hf⟩ : ∃ f : Nat → UInt8, ∀ q, q < n → w.cell? ⟨g, q, none⟩ = some (.int .u8 ((f q).toNat : Int)) := by
    classical
    exact ⟨fun q => if hq : q < n then Classical.choose (hex q hq) else 0, fun q hq => by simp only [dif_pos hq]; exact Classical.choose_spec (hex q hq)⟩
  have hl : ((List.range n).map f).length = n := by simp
  refine ⟨⟨((List.range n).map f).toArray⟩, by show ((List.range n).map f).toArray.size = n; simp, ?_⟩
  have := run_convert_bytes_back (P := Try.prog) w 40 9 5 ⟨g, 0, none⟩ cap ((List.range n).map f) Try.underlying40 Try.underlying5 Try.underlying9 (fun j hj => by
    rw [hl] at hj
    have hadd : (⟨g, 0, none⟩ : Addr).add j = ⟨g, j, none⟩ := by unfold Addr.add; split <;> simp_all
    rw [hadd, hf j hj]
    simp)
  rwa [hl] at this

theorem bytes_below (w : World) (s : ByteArray) : Below w.heap.size w (bytesWorld w 5 s) := by
  refine ⟨?_, ?_, ?_, by rw [bytesWorld_size]; omega, fun k hk => bytesWorld_at_old w 5 s k hk⟩
  all_goals (simp [bytesWorld, World.freeze]; try rfl)
theorem bytes_at (w : World) (s : ByteArray) : BytesAt (bytesWorld w 5 s) w.heap.size s.size := by
  intro q hq
  refine ⟨⟨_, ?_, ?_, bytesWorld_cell w 5 s q hq⟩, ?_⟩
  · omega
  · have := (s.data.toList.getD q 0).toNat_lt; omega
  · have hsz : s.size ≤ (bytesCells w 5 s).size := by
      unfold bytesCells
      rw [Array.size_append, Array.size_map]
      show s.data.size ≤ _
      omega
    simp [World.frozen?, bytesWorld_at_new]
    omega

set_option maxRecDepth 100000 in
set_option maxHeartbeats 4000000 in
theorem word_great (v : Int) (k : Nat) (w : World) (hk : v % 16777216 = k) (ht : (k : Int) / 24 % 9 = 5) : Calls Try.prog 20 #[.int .i64 v] w (Short 12 w) := by
  have hkl : k < 16777216 := by omega
  obtain ⟨hW1, hW2⟩ := word_size (k % 24) (by omega)
  have hix := fun wx => word_at (k % 24) (by omega) wx
  rw [show ((k % 24 : Nat) : Int) = (k : Int) % 24 by omega] at hix
  obtain ⟨W, hW⟩ : ∃ W, W = wordOf (k % 24) := ⟨_, rfl⟩
  rw [← hW] at hix hW1 hW2
  have P := Lib.hid (place9 v 16777216 w (by omega) (by omega))
  rw [hk] at P
  have WS := Lib.hid words_any
  have k0 : (0 : Int) ≤ k := by omega
  have k1 : (k : Int) < 16777216 := by omega
  clear hW hk
  have hconv := fun wx : World => Lib.run_convert_string_bytes (P := Try.prog) wx 9 40 5 W Try.underlying9 Try.underlying40 Try.underlying5
  go_enter Try.func20, Try.ntmps20
  go_wp2_with fail
  refine (P.out).mono ?_
  rintro e w1 ⟨rfl, rfl⟩
  go_wp2_with fail
  refine (WS.out _).mono ?_
  rintro e w2 ⟨rfl, hb2⟩
  have HB := Lib.hid hb2
  clear hb2
  go_wp2_with fail
  have hbw := bytes_below w2 W
  have hba := bytes_at w2 W
  have hsz := bytesWorld_size w2 5 W
  obtain ⟨g, hg⟩ : ∃ g, g = w2.heap.size := ⟨_, rfl⟩
  obtain ⟨cap, hcap⟩ : ∃ cap, cap = grownCap w2 W.size 0 5 := ⟨_, rfl⟩
  have hgb : w.heap.size ≤ g := by rw [hg]; exact HB.out.size
  have HB3 := Lib.hid (HB.out.trans (hbw.mono HB.out.size))
  rw [← hg] at hba
  rw [← hg, ← hcap]
  generalize bytesWorld w2 5 W = w3 at hba HB3 ⊢
  have HBA := Lib.hid hba
  clear hbw hba hsz hg hcap hconv
  have HW2 := Lib.hid hW2
  go_loopw [6] (fun i wr => ∃ j : Nat, j ≤ W.size ∧ i = .int .i64 j ∧ Hid (BytesAt wr g W.size) ∧ Hid (Below w.heap.size w wr)) (fun i _ => W.size - (RowKit.intOf i).toNat)
  case atStart => exact ⟨0, Nat.zero_le _, rfl, HBA.out, HB3.out⟩
  case round =>
    obtain ⟨j, hj, rfl, HA, HL⟩ := hrel
    by_cases hjn : j < W.size
    · obtain ⟨⟨x, hx0, hx1, hx⟩, hf⟩ := HA.out j hjn
      have tj1 : (0 : Int) ≤ j := by omega
      have tj2 : (j : Int) < W.size := by omega
      have HX := Lib.hid hx
      have HF := Lib.hid hf
      by_cases hin : 97 ≤ x ∧ x ≤ 122
      · obtain ⟨i1, i2⟩ := hin
        have HA2 := Lib.hid (HA.out.set j (x - 32) (by omega) (by omega))
        have HL2 := Lib.hid (HL.out.setCell (p := ⟨g, j, none⟩) hgb (.int .u8 (x - 32)))
        go_wp2_with fail
        go_roundw
        case rel => exact ⟨j + 1, by omega, by go_num, HA2.out, HL2.out⟩
        case measure => simp [RowKit.intOf]; omega
      · have hcs : x < 97 ∨ 122 < x := by omega
        clear hin
        rcases hcs with hc | hc
        · have d1 : decide ((97 : Int) ≤ x) = false := by simp; omega
          clear hc
          go_wp2_with fail
          go_roundw
          case rel => exact ⟨j + 1, by omega, by go_num, HA.out, HL.out⟩
          case measure => simp [RowKit.intOf]; omega
        · have e1 : (97 : Int) ≤ x := by omega
          have d1 : decide (x ≤ 122) = false := by simp; omega
          clear hc
          go_wp2_with fail
          go_roundw
          case rel => exact ⟨j + 1, by omega, by go_num, HA.out, HL.out⟩
          case measure => simp [RowKit.intOf]; omega
    · obtain ⟨S, hS1, hS2⟩ := HA.out.back (cap := cap)
      have HS := Lib.hid hS1
      clear hS1
      go_wp2_with fail
      go_ret
      exact ⟨_, rfl, by have := HS.out; have := HW2.out; omega, HL.out⟩

/-- A word by a number: not long. -/
theorem word_any (v : Int) (w : World) : Calls Try.prog 20 #[.int .i64 v] w (Short 12 w) := by
  obtain ⟨k, hk⟩ : ∃ k : Nat, v % 16777216 = k := ⟨(v % 16777216).toNat, by omega⟩
  obtain ⟨t, ht⟩ : ∃ t : Int, (k : Int) / 24 % 9 = t := ⟨_, rfl⟩
  have hc : (t = 0 ∨ t = 1 ∨ t = 3 ∨ t = 7 ∨ t = 8) ∨ t = 2 ∨ t = 4 ∨ t = 5 ∨ t = 6 := by omega
  rcases hc with h | rfl | rfl | rfl | rfl
  · exact word_plain v k w hk t ht h
  · exact word_turn v k w hk ht
  · exact word_cut v k w hk ht
  · exact word_great v k w hk ht
  · exact word_title v k w hk ht
end
end Go.Proofs.Ytkabdieenijnlaa.Wd
