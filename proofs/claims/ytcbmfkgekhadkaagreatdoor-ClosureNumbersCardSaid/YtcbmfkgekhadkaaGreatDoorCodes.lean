/- runes.Codes and runes.At by their contracts. -/
import Derived.Test.YtcbmfkgekhadkaaGreatDoorAll
namespace Go.Proofs.YtcbmfkgekhadkaaGreatDoor
open Go Go.RowKit Go.Lib

def codesL (l : List UInt8) : List Int := if validD l then (units 0 l).map (·.2.2) else []

theorem Tryz.info3 : (Tryz.prog.info? 3).map (fun i => (i.zero, i.size, i.bytes)) = some (some (.int .i64 0), 1, 8) := by kernel_rfl

def CodInv (s : ByteArray) (w : World) (B K : Nat) (v : Value) (wr : World) (pos : Nat) (us : List (Nat × Nat × Int)) : Prop :=
  pos ≤ s.size ∧ wr.heap[K]? = some (.stringIter s pos) ∧ units 0 s.data.toList = us ++ units pos (s.data.toList.drop pos) ∧ us.length ≤ pos ∧ wr.ownsRow B 3 1 v us.length (us.map fun u => .int .i64 u.2.2) ∧ Below B w wr ∧ B ≤ K

theorem CodInv.step {s : ByteArray} {w : World} {B K : Nat} {v : Value} {wr : World} {pos : Nat} {us : List (Nat × Nat × Int)} (h : CodInv s w B K v wr pos us) (hp : pos < s.size) {N : Nat} {C : Int}
    (hN : N = (decodeL (s.data.toList.drop pos)).2) (hC : C = uCode (s.data.toList.drop pos)) {v' : Value} {w4 : World} {o : Obj}
    (hown : w4.ownsRow B 3 1 v' (us.length + 1) ((us.map fun u => .int .i64 u.2.2) ++ [.int .i64 C])) (hg : ((wr.iterAt K s (pos + N)).alloc o).grownBy w4 v.ownBlock) : CodInv s w B K v' w4 (pos + N) (us ++ [(pos, N, C)]) := by
  obtain ⟨h1, h2, h3, h4, h5, h6, h7⟩ := h
  have hne : s.data.toList.drop pos ≠ [] := by
    intro h0
    have := congrArg List.length h0
    rw [List.length_drop, ← Lib.size_eq] at this
    simp at this; omega
  have hle := decodeL_le _ hne
  have hw := decodeL_width (s.data.toList.drop pos)
  rw [List.length_drop, ← Lib.size_eq] at hle
  have hKlt : K < wr.heap.size := (Array.getElem?_eq_some_iff.1 h2).1
  have hK1 : (wr.iterAt K s (pos + N)).heap[K]? = some (.stringIter s (pos + N)) := iterAt_heap wr K s pos (pos + N) h2
  have hsz : (wr.iterAt K s (pos + N)).heap.size = wr.heap.size := iterAt_size _ _ _ _
  have hbw := h6.size
  refine ⟨by omega, ?_, ?_, by simp; omega, ?_, ?_, h7⟩
  · rw [hg.block K (by simp; omega) (own_not_iter h5 h2), Below.heap_alloc _ _ _ (by omega)]
    exact hK1
  · rw [h3, units_step pos _ hne, ← hN, ← hC, List.drop_drop]
    simp
  · simpa using hown
  · have b1 : Below B w (wr.iterAt K s (pos + N)) := below_iterAt h6 h7 s _
    exact (b1.alloc (by omega) o).grown hg (by simp; omega) (fun k hk => (h5.lt k hk).1)

theorem units_valid (l : List UInt8) (hv : validD l = true) : ∀ p us t, units 0 l = us ++ units p t → t ≠ [] → uBad t = false := by
  intro p us t h hne
  rw [validD_units l 0, h, units_step p t hne, List.all_append] at hv
  have hh : 0 ≤ uCode t := by
    have := (Bool.and_eq_true_iff.1 hv).2
    rw [List.all_cons, Bool.and_eq_true_iff] at this
    simpa using this.1
  cases hb : uBad t
  · rfl
  · simp [uCode, hb] at hh; omega

set_option maxHeartbeats 1000000 in
theorem codes_yes (s : ByteArray) (w : World) (hs : s.size ≤ 1000000000000) (hT : Lib.Utf8Tabs 1 2 w) (hv : validD s.data.toList = true) :
    Calls Tryz.prog 100 #[.string s] w fun e w' => ∃ v, e = .returned (.tuple #[v, .bool true]) ∧ w'.ownsRow w.heap.size 3 1 v (units 0 s.data.toList).length ((units 0 s.data.toList).map fun u => .int .i64 u.2.2) ∧ Below w.heap.size w w' := by
  obtain ⟨i0, hi, hz0, hz1, hz2⟩ := info_parts Tryz.info3
  have hrc := Lib.runeCount_le s
  have cV : ∀ wx, Lib.Utf8Tabs 1 2 wx → Calls Tryz.prog 121 #[.string s] wx fun e w' => e = .returned (.bool true) ∧ Below wx.heap.size wx w' := by
    intro wx ht
    have := Tryz.utf8_ValidString s wx (by omega) ht
    rwa [hv] at this
  have CV := Lib.hid cV
  have HT := Lib.hid hT
  have HV := Lib.hid hv
  clear cV hT hv
  go_enter Tryz.func100, Tryz.ntmps100
  go_wp2_with (first
    | (go_at_call 121; refine (CV.out _ HT.out).mono ?_; rintro e w0 ⟨rfl, hb0⟩)
    | (go_at_call 122; refine (count_any s _ hs).mono ?_; rintro e w1 ⟨rfl, hb1⟩)
    | (at_make; refine wpList_make_own _ rfl _ _ 23 rfl w.heap.size 3 i0 (.int .i64 0) 1 Tryz.underlying23 hi hz0 hz1 .i64 .i64 _ (Lib.runeCount s) rfl rfl rfl (by rw [hz2]; omega) (by unfold maxLen; omega) (by have := hb1.size; have := hb0.size; omega) ?_; intro w2 hown2 hgrow2))
  have hb01 : Below w.heap.size w w1 := hb0.trans (hb1.mono hb0.size)
  have hb2 : Below w.heap.size w w2 := (hb01.trans ((Below.refl _ _).grown hgrow2 hb01.size (fun k hk => by cases hk)))
  clear hgrow2 hb0 hb1
  generalize Value.slice (some ⟨w1.heap.size, 0, none⟩) 0 (Lib.runeCount s) = v0 at hown2 ⊢
  have hinv0 : CodInv s w w.heap.size w2.heap.size v0 (w2.iter s 0) 0 [] :=
    ⟨Nat.zero_le _, World.iter_heap _ _ _, by simp, Nat.le_refl _, hown2.alloc (.stringIter s 0), hb2.alloc hb2.size _, hb2.size⟩
  clear hown2
  have hsz2 := hb2.size
  obtain ⟨K, hK⟩ : ∃ K, K = w2.heap.size := ⟨_, rfl⟩
  rw [← hK] at hinv0 ⊢
  go_loopw [4] (fun v wr => ∃ (pos : Nat) (us : List (Nat × Nat × Int)), CodInv s w w.heap.size K v wr pos us) (fun _ wr => s.size - wr.iterPos K)
  case atStart => exact ⟨0, [], hinv0⟩
  case round =>
    obtain ⟨pos, us, hinv⟩ := hrel
    have hit := hinv.2.1
    have hpl := hinv.1
    have hul := hinv.2.2.2.1
    have hipos : wr.iterPos K = pos := by simp [World.iterPos, hit]
    have HIT := Lib.hid hit
    have HI := Lib.hid hinv
    have HP := Lib.hid hipos
    clear hit hinv hinv0 hipos hK
    by_cases hp : pos < s.size
    · have hne : s.data.toList.drop pos ≠ [] := by
        intro h0
        have := congrArg List.length h0
        rw [List.length_drop, ← Lib.size_eq] at this
        simp at this; omega
      have hbad := units_valid _ HV.out _ _ _ HI.out.2.2.1 hne
      have hcl := decodeL_rune (s.data.toList.drop pos)
      obtain ⟨c, hc⟩ : ∃ c, c = (decodeL (s.data.toList.drop pos)).1 := ⟨_, rfl⟩
      obtain ⟨N, hN⟩ : ∃ N, N = (decodeL (s.data.toList.drop pos)).2 := ⟨_, rfl⟩
      have hC : (c : Int) = uCode (s.data.toList.drop pos) := by simp [uCode, hbad, hc]
      rw [← hc] at hcl
      have hnx : ∀ ty, (Instr.next (.pointer (some ⟨K, 0, none⟩)) true ty).run Tryz.prog wr = .ok (.tuple #[.bool true, .int .i64 pos, .int .i32 c]) (wr.iterAt K s (pos + N)) := by
        intro ty
        rw [run_next_any_at wr K s pos ty HIT.out hp, hc, hN, decodeL_drop]
      have HN := Lib.hid hN
      have HC := Lib.hid hC
      clear hc hN hC hbad
      have hsz3 := iterAt_size wr K s (pos + N)
      have hbwr := HI.out.2.2.2.2.2.1.size
      have HS := Lib.hid hsz3
      clear hsz3
      go_wp2_with (first
        | (at_builtin; refine wpList_append_own _ rfl _ _ 23 rfl w.heap.size 3 i0 (.int .i64 0) 1 8 Tryz.underlying23 hi hz0 hz1 hz2 rfl (by decide) _ _ _ rfl ((own_iter HI.out.2.2.2.2.1 HIT.out _).alloc _) ⟨(wr.iterAt K s (pos + N)).heap.size, 0, none⟩ 1 1 [.int .i64 c] rfl rfl (cells_new _ _ _) (ints_oneCell .i64 [(c : Int)]) (by unfold maxLen; omega) (by omega) (by have := HS.out; simp; omega) ?_; intro v' w4 hown4 hgrow4 _))
      have hst := Lib.hid (HI.out.step hp HN.out HC.out hown4 hgrow4)
      clear hown4 hgrow4
      go_roundw
      case rel => exact ⟨pos + N, _, hst.out⟩
      case measure =>
        have h1 := hst.out.2.1
        have h2 : w4.iterPos K = pos + N := by simp [World.iterPos, h1]
        have h3 := decodeL_width (s.data.toList.drop pos)
        rw [← HN.out] at h3
        rw [h2, HP.out]
        omega
    · have hnx : ∀ ty, (Instr.next (.pointer (some ⟨K, 0, none⟩)) true ty).run Tryz.prog wr = .ok (.tuple #[.bool false]) wr := fun ty => run_next_end_at wr K s pos ty HIT.out hp
      go_wp2
      go_ret2
      obtain ⟨h1, h2, h3, h4, h5, h6, h7⟩ := HI.out
      have h0 : s.data.toList.drop pos = [] := List.drop_eq_nil_of_le (by rw [← Lib.size_eq]; omega)
      rw [h0, units_nil, List.append_nil] at h3
      exact ⟨_, rfl, by rw [h3]; exact h5, h6⟩

set_option maxHeartbeats 400000 in
theorem codes_no (s : ByteArray) (w : World) (hs : s.size ≤ 1000000000000) (hT : Lib.Utf8Tabs 1 2 w) (hv : validD s.data.toList = false) :
    Calls Tryz.prog 100 #[.string s] w fun e w' => e = .returned (.tuple #[.slice none 0 0, .bool false]) ∧ Below w.heap.size w w' := by
  have cV : ∀ wx, Lib.Utf8Tabs 1 2 wx → Calls Tryz.prog 121 #[.string s] wx fun e w' => e = .returned (.bool false) ∧ Below wx.heap.size wx w' := by
    intro wx ht
    have := Tryz.utf8_ValidString s wx (by omega) ht
    rwa [hv] at this
  have CV := Lib.hid cV
  have HT := Lib.hid hT
  clear cV hT hv
  go_enter Tryz.func100, Tryz.ntmps100
  go_wp2_with (first
    | (go_at_call 121; refine (CV.out _ HT.out).mono ?_; rintro e w0 ⟨rfl, hb0⟩))
  go_ret2
  exact ⟨rfl, hb0⟩

theorem tabs_below {w w' : World} (h : Lib.Utf8Tabs 1 2 w) (hb : Below w.heap.size w w') : Lib.Utf8Tabs 1 2 w' := by
  have h0 : 1 < w.heap.size := World.block_lt_of_cell? _ _ (h.1 0 (by omega))
  have h1 : 2 < w.heap.size := World.block_lt_of_cell? _ _ (h.2 0 (by omega)).1
  exact ⟨fun c hc => (hb.cell (p := ⟨1, c, none⟩) h0).trans (h.1 c hc), fun i hi => ⟨(hb.cell (p := ⟨2, 2 * i, none⟩) h1).trans (h.2 i hi).1, (hb.cell (p := ⟨2, 2 * i + 1, none⟩) h1).trans (h.2 i hi).2⟩⟩

/-- A box of three cells that the call has laid, as it reads and may be written later. -/
theorem box3 {w w' : World} {a b c : Value} {t : TypeId} (hb : Below (w.alloc (.cells #[a, b, c] t)).heap.size (w.alloc (.cells #[a, b, c] t)) w') :
    (w'.cell? ⟨w.heap.size, 0, none⟩ = some a ∧ w'.cell? ⟨w.heap.size, 1, none⟩ = some b ∧ w'.cell? ⟨w.heap.size, 2, none⟩ = some c) ∧
    (w'.frozen? ⟨w.heap.size, 0, none⟩ = false ∧ w'.frozen? ⟨w.heap.size, 1, none⟩ = false ∧ w'.frozen? ⟨w.heap.size, 2, none⟩ = false) := by
  have hl : w.heap.size < (w.alloc (.cells #[a, b, c] t)).heap.size := by simp
  refine ⟨⟨(hb.cell (p := ⟨w.heap.size, 0, none⟩) hl).trans (by simp), (hb.cell (p := ⟨w.heap.size, 1, none⟩) hl).trans (by simp), (hb.cell (p := ⟨w.heap.size, 2, none⟩) hl).trans (by simp)⟩,
    ⟨(hb.frozen (p := ⟨w.heap.size, 0, none⟩) hl).trans (by simp), (hb.frozen (p := ⟨w.heap.size, 1, none⟩) hl).trans (by simp), (hb.frozen (p := ⟨w.heap.size, 2, none⟩) hl).trans (by simp)⟩⟩

/-- runes.Codes. -/
theorem codes_any (s : ByteArray) (w : World) (hs : s.size ≤ 1000000000000) (hT : Lib.Utf8Tabs 1 2 w) :
    Calls Tryz.prog 100 #[.string s] w fun e w' => ∃ v, e = .returned (.tuple #[v, .bool (validD s.data.toList)]) ∧ w'.ownsRow w.heap.size 3 1 v (codesL s.data.toList).length ((codesL s.data.toList).map (Value.int .i64)) ∧ Below w.heap.size w w' := by
  cases hv : validD s.data.toList
  · refine (codes_no s w hs hT hv).mono fun e w' ⟨he, hb⟩ => ⟨_, he, ?_, hb⟩
    simp only [codesL, hv]
    exact World.ownsRow_nil _ _ _ _
  · refine (codes_yes s w hs hT hv).mono fun e w' ⟨v, he, ho, hb⟩ => ⟨v, he, ?_, hb⟩
    simp only [codesL, hv, if_true, List.length_map, List.map_map]
    exact ho

end Go.Proofs.YtcbmfkgekhadkaaGreatDoor
