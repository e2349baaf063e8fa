/- runes.Codes and runes.At by their contracts. -/
import Derived.Test.YtfhoffdgbkoffaaDoorAll
namespace Go.Proofs.YtfhoffdgbkoffaaDoor
open Go Go.RowKit Go.Lib

def codesL (l : List UInt8) : List Int := if validD l then (units 0 l).map (·.2.2) else []

theorem Tryd.info3 : (Tryd.prog.info? 3).map (fun i => (i.zero, i.size, i.bytes)) = some (some (.int .i64 0), 1, 8) := by kernel_rfl

def CodInv (s : ByteArray) (w : World) (B K : Nat) (v : Value) (wr : World) (pos : Nat) (us : List (Nat × Nat × Int)) : Prop :=
  pos ≤ s.size ∧ wr.heap[K]? = some (.stringIter s pos) ∧ units 0 s.data.toList = us ++ units pos (s.data.toList.drop pos) ∧ us.length ≤ pos ∧ wr.ownsRow B 3 1 v us.length (us.map fun u => .int .i64 u.2.2) ∧ Below B w wr ∧ B ≤ K

theorem CodInv.step {s : ByteArray} {w : World} {B K : Nat} {v : Value} {wr : World} {pos : Nat} {us : List (Nat × Nat × Int)} (h : CodInv s w B K v wr pos us) (hp : pos < s.size) {N : Nat} {C : Int}
    (hN : N = (decodeL (s.data.toList.drop pos)).2) (hC : C = uCode (s.data.toList.drop pos)) {v' : Value} {w4 : World} {o : Obj}
    (hown : w4.ownsRow B 3 1 v' (us.length + 1) ((us.map fun u => .int .i64 u.2.2) ++ [.int .i64 C])) (hg : ((wr.iterAt K s (pos + N)).alloc o).grownBy w4 v.ownBlock) : CodInv s w B K v' w4 (pos + N) (us ++ [(pos, N, C)]) := by
  obtain ⟨h1, h2, h3, h4, h5, h6, h7⟩ := h
  have hne : s.data.toList.drop pos ≠ [] := by
    intro h0
    have := congrArg List.length h0
    rw [List.length_drop, ← Lib.size_eq] at this
    simp at this; omega
  have hle := decodeL_le _ hne
  have hw := decodeL_width (s.data.toList.drop pos)
  rw [List.length_drop, ← Lib.size_eq] at hle
  have hKlt : K < wr.heap.size := (Array.getElem?_eq_some_iff.1 h2).1
  have hK1 : (wr.iterAt K s (pos + N)).heap[K]? = some (.stringIter s (pos + N)) := iterAt_heap wr K s pos (pos + N) h2
  have hsz : (wr.iterAt K s (pos + N)).heap.size = wr.heap.size := iterAt_size _ _ _ _
  have hbw := h6.size
  refine ⟨by omega, ?_, ?_, by simp; omega, ?_, ?_, h7⟩
  · rw [hg.block K (by simp; omega) (own_not_iter h5 h2), Below.heap_alloc _ _ _ (by omega)]
    exact hK1
  · rw [h3, units_step pos _ hne, ← hN, ← hC, List.drop_drop]
    simp
  · simpa using hown
  · have b1 : Below B w (wr.iterAt K s (pos + N)) := below_iterAt h6 h7 s _
    exact (b1.alloc (by omega) o).grown hg (by simp; omega) (fun k hk => (h5.lt k hk).1)

theorem units_valid (l : List UInt8) (hv : validD l = true) : ∀ p us t, units 0 l = us ++ units p t → t ≠ [] → uBad t = false := by
  intro p us t h hne
  rw [validD_units l 0, h, units_step p t hne, List.all_append] at hv
  have hh : 0 ≤ uCode t := by
    have := (Bool.and_eq_true_iff.1 hv).2
    rw [List.all_cons, Bool.and_eq_true_iff] at this
    simpa using this.1
  cases hb : uBad t
  · rfl
  · simp [uCode, hb] at hh; omega

theorem tabs_below {w w' : World} (h : Lib.Utf8Tabs 0 1 w) (hb : Below w.heap.size w w') : Lib.Utf8Tabs 0 1 w' := by
  have h0 : 0 < w.heap.size := World.block_lt_of_cell? _ _ (h.1 0 (by omega))
  have h1 : 1 < w.heap.size := World.block_lt_of_cell? _ _ (h.2 0 (by omega)).1
  exact ⟨fun c hc => (hb.cell (p := ⟨0, c, none⟩) h0).trans (h.1 c hc), fun i hi => ⟨(hb.cell (p := ⟨1, 2 * i, none⟩) h1).trans (h.2 i hi).1, (hb.cell (p := ⟨1, 2 * i + 1, none⟩) h1).trans (h.2 i hi).2⟩⟩

/-- A box of three cells that the call has laid, as it reads and may be written later. -/
theorem box3 {w w' : World} {a b c : Value} {t : TypeId} (hb : Below (w.alloc (.cells #[a, b, c] t)).heap.size (w.alloc (.cells #[a, b, c] t)) w') :
    (w'.cell? ⟨w.heap.size, 0, none⟩ = some a ∧ w'.cell? ⟨w.heap.size, 1, none⟩ = some b ∧ w'.cell? ⟨w.heap.size, 2, none⟩ = some c) ∧
    (w'.frozen? ⟨w.heap.size, 0, none⟩ = false ∧ w'.frozen? ⟨w.heap.size, 1, none⟩ = false ∧ w'.frozen? ⟨w.heap.size, 2, none⟩ = false) := by
  have hl : w.heap.size < (w.alloc (.cells #[a, b, c] t)).heap.size := by simp
  refine ⟨⟨(hb.cell (p := ⟨w.heap.size, 0, none⟩) hl).trans (by simp), (hb.cell (p := ⟨w.heap.size, 1, none⟩) hl).trans (by simp), (hb.cell (p := ⟨w.heap.size, 2, none⟩) hl).trans (by simp)⟩,
    ⟨(hb.frozen (p := ⟨w.heap.size, 0, none⟩) hl).trans (by simp), (hb.frozen (p := ⟨w.heap.size, 1, none⟩) hl).trans (by simp), (hb.frozen (p := ⟨w.heap.size, 2, none⟩) hl).trans (by simp)⟩⟩

set_option maxHeartbeats 400000 in
theorem at_none (s : ByteArray) (i : Int) (w : World) (hi : i < 0 ∨ (s.size : Int) ≤ i) (_hm : s.size ≤ 9223372036854775807) :
    Calls Tryd.prog 23 #[.string s, .int .i64 i] w fun e w' => e = .returned (.tuple #[.agg #[.int .i64 0, .int .i64 0, .int .i64 0], .bool false]) ∧ Below w.heap.size w w' := by
  by_cases h0 : i < 0
  · clear hi
    go_enter Tryd.func23, Tryd.ntmps23
    go_wp2
    exact bodyPost_ret (v := .tuple #[.agg #[.int .i64 0, .int .i64 0, .int .i64 0], .bool false]) (by simp [results, Tryd.results23, go_sem]) rfl ⟨rfl, (Below.refl _ _).alloc (Nat.le_refl _) _⟩
  · have h1 : (s.size : Int) ≤ i := by omega
    clear hi
    go_enter Tryd.func23, Tryd.ntmps23
    go_wp2
    exact bodyPost_ret (v := .tuple #[.agg #[.int .i64 0, .int .i64 0, .int .i64 0], .bool false]) (by simp [results, Tryd.results23, go_sem]) rfl ⟨rfl, (Below.refl _ _).alloc (Nat.le_refl _) _⟩

set_option maxHeartbeats 400000 in
/-- runes.At, at a place of the text. -/
theorem at_some (s : ByteArray) (p : Nat) (w : World) (hp : p < s.size) (hm : s.size ≤ 9223372036854775807) (hT : Lib.Utf8Tabs 0 1 w) :
    Calls Tryd.prog 23 #[.string s, .int .i64 p] w fun e w' => e = .returned (.tuple #[uVal p (s.data.toList.drop p), .bool true]) ∧ Below w.heap.size w w' := by
  obtain ⟨c, hc⟩ : ∃ c, c = (decodeL (s.data.toList.drop p)).1 := ⟨_, rfl⟩
  obtain ⟨N, hN⟩ : ∃ N, N = (decodeL (s.data.toList.drop p)).2 := ⟨_, rfl⟩
  obtain ⟨C, hC⟩ : ∃ C, C = uCode (s.data.toList.drop p) := ⟨_, rfl⟩
  have hd : Lib.decodeGo (s.extract p s.size) = (c, N) := by
    have h0 : (s.extract p s.size).size ≠ 0 := by simp; omega
    rw [Lib.decodeGo, if_neg h0, ← decodeL_drop, List.drop_zero, Lib.extract_to_end, hc, hN]
  have cD : ∀ wx, Lib.Utf8Tabs 0 1 wx → Calls Tryd.prog 35 #[.string (s.extract p s.size)] wx fun e w' => e = .returned (.tuple #[.int .i32 c, .int .i64 N]) ∧ Below wx.heap.size wx w' := by
    intro wx ht
    have := Tryd.utf8_DecodeRuneInString (s.extract p s.size) wx ht
    rwa [hd] at this
  have cU : ∀ wx, Calls Tryd.prog 32 #[.string s, .int .i64 p, .int .i32 c] wx fun e w' => e = .returned (.agg #[.int .i64 p, .int .i64 N, .int .i64 C]) ∧ Below wx.heap.size wx w' := by
    intro wx
    have := unit_any s p wx hp (by omega) c hc
    rwa [uVal, ← hN, ← hC] at this
  rw [uVal, ← hN, ← hC]
  have CD := Lib.hid cD
  have CU := Lib.hid cU
  have hT2 : ∀ o, Lib.Utf8Tabs 0 1 (w.alloc o) := fun o => tabs_below hT ((Below.refl _ _).alloc (Nat.le_refl _) _)
  have HT := Lib.hid hT2
  clear cD cU hT hT2 hd hc hN hC
  go_enter Tryd.func23, Tryd.ntmps23
  go_wp2_with (first
    | (go_at_call 35; refine (CD.out _ (HT.out _)).mono ?_; rintro e w1 ⟨rfl, hb1⟩)
    | (go_at_call 32; refine (CU.out _).mono ?_; rintro e w2 ⟨rfl, hb2⟩; obtain ⟨⟨z0, z1, z2⟩, f0, f1, f2⟩ := box3 (hb1.trans (hb2.mono hb1.size))))
  exact bodyPost_ret (v := .tuple #[.agg #[.int .i64 p, .int .i64 N, .int .i64 C], .bool true]) (by simp [results, Tryd.results23, go_sem, z0, z1, z2]) rfl ⟨rfl, (((((Below.refl _ _).alloc (Nat.le_refl _) _).trans ((hb1.trans (hb2.mono hb1.size)).mono (by simp))).setCell (Nat.le_refl _) _).setCell (Nat.le_refl _) _).setCell (Nat.le_refl _) _⟩
end Go.Proofs.YtfhoffdgbkoffaaDoor
