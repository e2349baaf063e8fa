/- runes.All by its contract. -/
import Derived.Test.YtfhoffdgbkoffaaDoorUnit
import Derived.Lib.OthersKept
namespace Go.Proofs.YtfhoffdgbkoffaaDoor
open Go Go.RowKit Go.Lib

def uCells (u : Nat × Nat × Int) : List Value := [.int .i64 u.1, .int .i64 u.2.1, .int .i64 u.2.2]

theorem own_below {w w' : World} {B e size n : Nat} {v : Value} {xs : List Value} (h : w.ownsRow B e size v n xs) (hb : Below w.heap.size w w') : w'.ownsRow B e size v n xs := by
  refine ⟨h.1, ?_⟩
  rcases h.2 with hn | ⟨g, cap, cur, rfl, hg, hgg, rest⟩
  · exact .inl hn
  · exact .inr ⟨g, cap, cur, rfl, hg, by rw [hb.block g (Array.getElem?_eq_some_iff.1 hgg).1]; exact hgg, rest⟩

theorem own_iter {w : World} {B e size n K : Nat} {v : Value} {xs : List Value} {s : ByteArray} {pos : Nat} (h : w.ownsRow B e size v n xs) (hk : w.heap[K]? = some (.stringIter s pos)) (pos' : Nat) : (w.iterAt K s pos').ownsRow B e size v n xs := by
  refine ⟨h.1, ?_⟩
  rcases h.2 with hn | ⟨g, cap, cur, rfl, hg, hgg, rest⟩
  · exact .inl hn
  · refine .inr ⟨g, cap, cur, rfl, hg, ?_, rest⟩
    rw [iterAt_other _ _ _ _ _ (by intro e; subst e; rw [hk] at hgg; cases hgg)]
    exact hgg

theorem own_not_iter {w : World} {B e size n K : Nat} {v : Value} {xs : List Value} {s : ByteArray} {pos : Nat} (h : w.ownsRow B e size v n xs) (hk : w.heap[K]? = some (.stringIter s pos)) : some K ≠ v.ownBlock := by
  rcases h.2 with ⟨rfl, _⟩ | ⟨g, cap, cur, rfl, hg, hgg, rest⟩
  · simp [Value.ownBlock]
  · simp only [Value.ownBlock]
    intro e
    obtain rfl : K = g := Option.some.inj e
    rw [hk] at hgg; cases hgg

theorem cells_new (w : World) (cs : List Value) (t : TypeId) : ∀ j u, cs[j]? = some u → (w.alloc (.cells cs.toArray t)).cell? ((⟨w.heap.size, 0, none⟩ : Addr).add j) = some u := by
  intro j u hu
  have hadd : (⟨w.heap.size, 0, none⟩ : Addr).add j = ⟨w.heap.size, j, none⟩ := by unfold Addr.add; split <;> simp_all
  rw [hadd, cell_of_row _ w.heap.size j cs.toArray t (0, 0) (heap_alloc_new w _)]
  simpa using hu
theorem uCells_one (u : Nat × Nat × Int) : ∀ x ∈ uCells u, x.oneCell' = true := by
  intro x hx
  simp only [uCells, List.mem_cons, List.mem_nil_iff, or_false] at hx
  rcases hx with rfl | rfl | rfl <;> rfl

theorem count_any (s : ByteArray) (w : World) (hs : s.size ≤ 1000000000000) :
    Calls Tryd.prog 31 #[.string s] w fun e w' => e = .returned (.int .i64 (Lib.runeCount s)) ∧ Below w.heap.size w w' :=
  (Tryd.utf8_RuneCountInString s w (by omega)).mono fun e w' ⟨he, pos, hw⟩ => ⟨he, by subst hw; exact (Below.refl _ _).alloc (Nat.le_refl _) _⟩

theorem Tryd.info61 : (Tryd.prog.info? 61).map (fun i => (i.zero, i.size, i.bytes)) = some (some (.agg #[.int .i64 0, .int .i64 0, .int .i64 0]), 3, 24) := by kernel_rfl

/-- What holds at the head of each round of All: the units so far lie in a row of its own. -/
def AllInv (s : ByteArray) (w : World) (B K : Nat) (v : Value) (wr : World) (pos : Nat) (us : List (Nat × Nat × Int)) : Prop :=
  pos ≤ s.size ∧ wr.heap[K]? = some (.stringIter s pos) ∧ units 0 s.data.toList = us ++ units pos (s.data.toList.drop pos) ∧ us.length ≤ pos ∧ wr.ownsRow B 61 3 v us.length (us.flatMap uCells) ∧ Below B w wr ∧ B ≤ K

theorem AllInv.step {s : ByteArray} {w : World} {B K : Nat} {v : Value} {wr : World} {pos : Nat} {us : List (Nat × Nat × Int)} (h : AllInv s w B K v wr pos us) (hp : pos < s.size) {N : Nat} {C : Int}
    (hN : N = (decodeL (s.data.toList.drop pos)).2) (hC : C = uCode (s.data.toList.drop pos)) {w2 : World} (hb : Below (wr.iterAt K s (pos + N)).heap.size (wr.iterAt K s (pos + N)) w2) {v' : Value} {w4 : World} {o : Obj}
    (hown : w4.ownsRow B 61 3 v' (us.length + 1) (us.flatMap uCells ++ [.int .i64 pos, .int .i64 N, .int .i64 C])) (hg : (w2.alloc o).grownBy w4 v.ownBlock) : AllInv s w B K v' w4 (pos + N) (us ++ [(pos, N, C)]) := by
  obtain ⟨h1, h2, h3, h4, h5, h6, h7⟩ := h
  have hne : s.data.toList.drop pos ≠ [] := by
    intro h0
    have := congrArg List.length h0
    rw [List.length_drop, ← Lib.size_eq] at this
    simp at this; omega
  have hle := decodeL_le _ hne
  have hw := decodeL_width (s.data.toList.drop pos)
  rw [List.length_drop, ← Lib.size_eq] at hle
  have hKlt : K < wr.heap.size := (Array.getElem?_eq_some_iff.1 h2).1
  have hK1 : (wr.iterAt K s (pos + N)).heap[K]? = some (.stringIter s (pos + N)) := iterAt_heap wr K s pos (pos + N) h2
  have hsz : (wr.iterAt K s (pos + N)).heap.size = wr.heap.size := iterAt_size _ _ _ _
  have hbw := h6.size
  refine ⟨by omega, ?_, ?_, by simp; omega, ?_, ?_, h7⟩
  · rw [hg.block K (by have := hb.size; rw [hsz] at this; simp; omega) (own_not_iter h5 h2), Below.heap_alloc _ _ _ (by have := hb.size; rw [hsz] at this; omega), hb.block K (by omega)]
    exact hK1
  · rw [h3, units_step pos _ hne, ← hN, ← hC, List.drop_drop]
    simp
  · have : (us ++ [(pos, N, C)]).flatMap uCells = us.flatMap uCells ++ [.int .i64 pos, .int .i64 N, .int .i64 C] := by simp [uCells]
    rw [this]
    simpa using hown
  · have hB : B ≤ (wr.iterAt K s (pos + N)).heap.size := by omega
    have b1 : Below B w (wr.iterAt K s (pos + N)) := below_iterAt h6 h7 s _
    have b2 := b1.trans (hb.mono hB)
    exact (b2.alloc (by have := hb.size; omega) o).grown hg (by have := hb.size; simp; omega) (fun k hk => (h5.lt k hk).1)

set_option maxHeartbeats 1000000 in
theorem all_any (s : ByteArray) (w : World) (hs : s.size ≤ 1000000000000) :
    Calls Tryd.prog 17 #[.string s] w fun e w' => ∃ v, e = .returned v ∧ w'.ownsRow w.heap.size 61 3 v (units 0 s.data.toList).length ((units 0 s.data.toList).flatMap uCells) ∧ Below w.heap.size w w' := by
  obtain ⟨i0, hi, hz0, hz1, hz2⟩ := info_parts Tryd.info61
  have hrc := Lib.runeCount_le s
  go_enter Tryd.func17, Tryd.ntmps17
  go_wp2_with (first
    | (go_at_call 31; refine (count_any s _ hs).mono ?_; rintro e w1 ⟨rfl, hb1⟩)
    | (at_make; refine wpList_make_own _ rfl _ _ 58 rfl w.heap.size 61 i0 (.agg #[.int .i64 0, .int .i64 0, .int .i64 0]) 3 Tryd.underlying58 hi hz0 hz1 .i64 .i64 _ (Lib.runeCount s) rfl rfl rfl (by rw [hz2]; omega) (by unfold maxLen; omega) (by have := hb1.size; omega) ?_; intro w2 hown2 hgrow2))
  have hb2 : Below w.heap.size w w2 := (hb1.trans ((Below.refl _ _).grown hgrow2 hb1.size (fun k hk => by cases hk)))
  clear hgrow2
  generalize Value.slice (some ⟨w1.heap.size, 0, none⟩) 0 (Lib.runeCount s) = v0 at hown2 ⊢
  have hinv0 : AllInv s w w.heap.size w2.heap.size v0 (w2.iter s 0) 0 [] :=
    ⟨Nat.zero_le _, World.iter_heap _ _ _, by simp, Nat.le_refl _, hown2.alloc (.stringIter s 0), hb2.alloc hb2.size _, hb2.size⟩
  clear hown2
  have hsz2 := hb2.size
  obtain ⟨K, hK⟩ : ∃ K, K = w2.heap.size := ⟨_, rfl⟩
  rw [← hK] at hinv0 ⊢
  go_loopw [3] (fun v wr => ∃ (pos : Nat) (us : List (Nat × Nat × Int)), AllInv s w w.heap.size K v wr pos us) (fun _ wr => s.size - wr.iterPos K)
  case atStart => exact ⟨0, [], hinv0⟩
  case round =>
    obtain ⟨pos, us, hinv⟩ := hrel
    have hit := hinv.2.1
    have hpl := hinv.1
    have hul := hinv.2.2.2.1
    have hipos : wr.iterPos K = pos := by simp [World.iterPos, hit]
    have HIT := Lib.hid hit
    have HI := Lib.hid hinv
    have HP := Lib.hid hipos
    clear hit hinv hinv0 hipos hK
    by_cases hp : pos < s.size
    · obtain ⟨c, hc⟩ : ∃ c, c = (decodeL (s.data.toList.drop pos)).1 := ⟨_, rfl⟩
      obtain ⟨N, hN⟩ : ∃ N, N = (decodeL (s.data.toList.drop pos)).2 := ⟨_, rfl⟩
      obtain ⟨C, hC⟩ : ∃ C, C = uCode (s.data.toList.drop pos) := ⟨_, rfl⟩
      have hnx : ∀ ty, (Instr.next (.pointer (some ⟨K, 0, none⟩)) true ty).run Tryd.prog wr = .ok (.tuple #[.bool true, .int .i64 pos, .int .i32 c]) (wr.iterAt K s (pos + N)) := by
        intro ty
        rw [run_next_any_at wr K s pos ty HIT.out hp, hc, hN, decodeL_drop]
      have cU : ∀ wx, Calls Tryd.prog 32 #[.string s, .int .i64 pos, .int .i32 c] wx fun e w' => e = .returned (.agg #[.int .i64 pos, .int .i64 N, .int .i64 C]) ∧ Below wx.heap.size wx w' := by
        intro wx
        have := unit_any s pos wx hp (by omega) c hc
        rwa [uVal, ← hN, ← hC] at this
      have CU := Lib.hid cU
      have HN := Lib.hid hN
      have HC := Lib.hid hC
      clear hc hN hC cU
      go_wp2_with (first
        | (go_at_call 32; refine (CU.out _).mono ?_; rintro e w3 ⟨rfl, hb3⟩)
        | (at_builtin; refine wpList_append_own _ rfl _ _ 58 rfl w.heap.size 61 i0 (.agg #[.int .i64 0, .int .i64 0, .int .i64 0]) 3 24 Tryd.underlying58 hi hz0 hz1 hz2 rfl (by decide) _ _ _ rfl ((own_below (own_iter HI.out.2.2.2.2.1 HIT.out _) hb3).alloc _) ⟨w3.heap.size, 0, none⟩ 1 1 [.int .i64 pos, .int .i64 N, .int .i64 C] rfl rfl (cells_new _ _ _) (uCells_one (pos, N, C)) (by unfold maxLen; omega) (by omega) (by have := hb3.size; rw [iterAt_size] at this; have := HI.out.2.2.2.2.2.1.size; simp; omega) ?_; intro v' w4 hown4 hgrow4 _))
      have hst := Lib.hid (HI.out.step hp HN.out HC.out hb3 hown4 hgrow4)
      clear hown4 hgrow4 hb3
      go_roundw
      case rel => exact ⟨pos + N, _, hst.out⟩
      case measure =>
        have h1 := hst.out.2.1
        have h2 : w4.iterPos K = pos + N := by simp [World.iterPos, h1]
        have h3 := decodeL_width (s.data.toList.drop pos)
        rw [← HN.out] at h3
        rw [h2, HP.out]
        omega
    · have hnx : ∀ ty, (Instr.next (.pointer (some ⟨K, 0, none⟩)) true ty).run Tryd.prog wr = .ok (.tuple #[.bool false]) wr := fun ty => run_next_end_at wr K s pos ty HIT.out hp
      go_wp2
      go_ret
      obtain ⟨h1, h2, h3, h4, h5, h6, h7⟩ := HI.out
      have h0 : s.data.toList.drop pos = [] := List.drop_eq_nil_of_le (by rw [← Lib.size_eq]; omega)
      rw [h0, units_nil, List.append_nil] at h3
      exact ⟨_, rfl, by rw [h3]; exact h5, h6⟩
end Go.Proofs.YtfhoffdgbkoffaaDoor
