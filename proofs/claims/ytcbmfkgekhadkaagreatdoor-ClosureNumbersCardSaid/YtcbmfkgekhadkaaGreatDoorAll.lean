/- runes.All by its contract. -/
import Derived.Test.YtcbmfkgekhadkaaGreatDoorUnit
import Derived.Lib.OthersKept
namespace Go.Proofs.YtcbmfkgekhadkaaGreatDoor
open Go Go.RowKit Go.Lib

def uCells (u : Nat × Nat × Int) : List Value := [.int .i64 u.1, .int .i64 u.2.1, .int .i64 u.2.2]

theorem own_below {w w' : World} {B e size n : Nat} {v : Value} {xs : List Value} (h : w.ownsRow B e size v n xs) (hb : Below w.heap.size w w') : w'.ownsRow B e size v n xs := by
  refine ⟨h.1, ?_⟩
  rcases h.2 with hn | ⟨g, cap, cur, rfl, hg, hgg, rest⟩
  · exact .inl hn
  · exact .inr ⟨g, cap, cur, rfl, hg, by rw [hb.block g (Array.getElem?_eq_some_iff.1 hgg).1]; exact hgg, rest⟩

theorem own_iter {w : World} {B e size n K : Nat} {v : Value} {xs : List Value} {s : ByteArray} {pos : Nat} (h : w.ownsRow B e size v n xs) (hk : w.heap[K]? = some (.stringIter s pos)) (pos' : Nat) : (w.iterAt K s pos').ownsRow B e size v n xs := by
  refine ⟨h.1, ?_⟩
  rcases h.2 with hn | ⟨g, cap, cur, rfl, hg, hgg, rest⟩
  · exact .inl hn
  · refine .inr ⟨g, cap, cur, rfl, hg, ?_, rest⟩
    rw [iterAt_other _ _ _ _ _ (by intro e; subst e; rw [hk] at hgg; cases hgg)]
    exact hgg

theorem own_not_iter {w : World} {B e size n K : Nat} {v : Value} {xs : List Value} {s : ByteArray} {pos : Nat} (h : w.ownsRow B e size v n xs) (hk : w.heap[K]? = some (.stringIter s pos)) : some K ≠ v.ownBlock := by
  rcases h.2 with ⟨rfl, _⟩ | ⟨g, cap, cur, rfl, hg, hgg, rest⟩
  · simp [Value.ownBlock]
  · simp only [Value.ownBlock]
    intro e
    obtain rfl : K = g := Option.some.inj e
    rw [hk] at hgg; cases hgg

theorem cells_new (w : World) (cs : List Value) (t : TypeId) : ∀ j u, cs[j]? = some u → (w.alloc (.cells cs.toArray t)).cell? ((⟨w.heap.size, 0, none⟩ : Addr).add j) = some u := by
  intro j u hu
  have hadd : (⟨w.heap.size, 0, none⟩ : Addr).add j = ⟨w.heap.size, j, none⟩ := by unfold Addr.add; split <;> simp_all
  rw [hadd, cell_of_row _ w.heap.size j cs.toArray t (0, 0) (heap_alloc_new w _)]
  simpa using hu
theorem uCells_one (u : Nat × Nat × Int) : ∀ x ∈ uCells u, x.oneCell' = true := by
  intro x hx
  simp only [uCells, List.mem_cons, List.mem_nil_iff, or_false] at hx
  rcases hx with rfl | rfl | rfl <;> rfl

theorem count_any (s : ByteArray) (w : World) (hs : s.size ≤ 1000000000000) :
    Calls Tryz.prog 122 #[.string s] w fun e w' => e = .returned (.int .i64 (Lib.runeCount s)) ∧ Below w.heap.size w w' :=
  (Tryz.utf8_RuneCountInString s w (by omega)).mono fun e w' ⟨he, pos, hw⟩ => ⟨he, by subst hw; exact (Below.refl _ _).alloc (Nat.le_refl _) _⟩

theorem Tryz.info118 : (Tryz.prog.info? 118).map (fun i => (i.zero, i.size, i.bytes)) = some (some (.agg #[.int .i64 0, .int .i64 0, .int .i64 0]), 3, 24) := by kernel_rfl

/-- What holds at the head of each round of All: the units so far lie in a row of its own. -/
def AllInv (s : ByteArray) (w : World) (B K : Nat) (v : Value) (wr : World) (pos : Nat) (us : List (Nat × Nat × Int)) : Prop :=
  pos ≤ s.size ∧ wr.heap[K]? = some (.stringIter s pos) ∧ units 0 s.data.toList = us ++ units pos (s.data.toList.drop pos) ∧ us.length ≤ pos ∧ wr.ownsRow B 118 3 v us.length (us.flatMap uCells) ∧ Below B w wr ∧ B ≤ K

theorem AllInv.step {s : ByteArray} {w : World} {B K : Nat} {v : Value} {wr : World} {pos : Nat} {us : List (Nat × Nat × Int)} (h : AllInv s w B K v wr pos us) (hp : pos < s.size) {N : Nat} {C : Int}
    (hN : N = (decodeL (s.data.toList.drop pos)).2) (hC : C = uCode (s.data.toList.drop pos)) {w2 : World} (hb : Below (wr.iterAt K s (pos + N)).heap.size (wr.iterAt K s (pos + N)) w2) {v' : Value} {w4 : World} {o : Obj}
    (hown : w4.ownsRow B 118 3 v' (us.length + 1) (us.flatMap uCells ++ [.int .i64 pos, .int .i64 N, .int .i64 C])) (hg : (w2.alloc o).grownBy w4 v.ownBlock) : AllInv s w B K v' w4 (pos + N) (us ++ [(pos, N, C)]) := by
  obtain ⟨h1, h2, h3, h4, h5, h6, h7⟩ := h
  have hne : s.data.toList.drop pos ≠ [] := by
    intro h0
    have := congrArg List.length h0
    rw [List.length_drop, ← Lib.size_eq] at this
    simp at this; omega
  have hle := decodeL_le _ hne
  have hw := decodeL_width (s.data.toList.drop pos)
  rw [List.length_drop, ← Lib.size_eq] at hle
  have hKlt : K < wr.heap.size := (Array.getElem?_eq_some_iff.1 h2).1
  have hK1 : (wr.iterAt K s (pos + N)).heap[K]? = some (.stringIter s (pos + N)) := iterAt_heap wr K s pos (pos + N) h2
  have hsz : (wr.iterAt K s (pos + N)).heap.size = wr.heap.size := iterAt_size _ _ _ _
  have hbw := h6.size
  refine ⟨by omega, ?_, ?_, by simp; omega, ?_, ?_, h7⟩
  · rw [hg.block K (by have := hb.size; rw [hsz] at this; simp; omega) (own_not_iter h5 h2), Below.heap_alloc _ _ _ (by have := hb.size; rw [hsz] at this; omega), hb.block K (by omega)]
    exact hK1
  · rw [h3, units_step pos _ hne, ← hN, ← hC, List.drop_drop]
    simp
  · have : (us ++ [(pos, N, C)]).flatMap uCells = us.flatMap uCells ++ [.int .i64 pos, .int .i64 N, .int .i64 C] := by simp [uCells]
    rw [this]
    simpa using hown
  · have hB : B ≤ (wr.iterAt K s (pos + N)).heap.size := by omega
    have b1 : Below B w (wr.iterAt K s (pos + N)) := below_iterAt h6 h7 s _
    have b2 := b1.trans (hb.mono hB)
    exact (b2.alloc (by have := hb.size; omega) o).grown hg (by have := hb.size; simp; omega) (fun k hk => (h5.lt k hk).1)

end Go.Proofs.YtcbmfkgekhadkaaGreatDoor
