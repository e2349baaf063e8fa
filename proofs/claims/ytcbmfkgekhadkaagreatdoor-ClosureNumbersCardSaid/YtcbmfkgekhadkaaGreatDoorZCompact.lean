/- slices.CompactFunc of entries by contract; rows of entries that the sort turns. -/
import Derived.Test.YtcbmfkgekhadkaaGreatDoorZOrder
import Derived.Shelf.SlSortCmp.WholeK
import Derived.Shelf.SlSortCmp.NoneTotal
import Derived.Laws.OwnMore
import Derived.IntWalk
namespace Go.Proofs.YtcbmfkgekhadkaaGreatDoor
open Go Go.RowKit Go.Lib Go.Shelf Go.Sort
attribute [local go_sem] Oper.semAt_some alloc_set

/-- An entry's two cells, and what they read as. -/
structure OE where
  word : ByteArray
  A : Option Addr
  n : Nat
  cap : Nat
  fl : List Int
def OE.en (x : OE) : En := ⟨x.word, x.fl⟩
/-- Entries whose flags stand whatever is done to one block. -/
def OA (w : World) (blk : Nat) : Type := { x : OE // ∀ W, OnlyAt (· = blk) w W → IntsAt W (.slice x.A x.n x.cap) x.fl }
instance (w : World) (blk : Nat) : Inhabited (OA w blk) := ⟨⟨⟨⟨#[]⟩, none, 0, 0, []⟩, fun _ _ => .inl ⟨rfl, none, 0, rfl⟩⟩⟩
def oenc {w : World} {blk : Nat} (x : OA w blk) : List Value := [.string x.1.word, .slice x.1.A x.1.n x.1.cap]
theorem oenc_len {w : World} {blk : Nat} (x : OA w blk) : (oenc x).length = 2 := rfl
theorem oenc_one {w : World} {blk : Nat} (x : OA w blk) : ∀ v ∈ oenc x, v.oneCell' = true := by
  intro v hv
  simp only [oenc, List.mem_cons, List.not_mem_nil, or_false] at hv
  rcases hv with rfl | rfl <;> rfl

theorem only_grow {T : Nat → Prop} (w : World) (q : Nat) (os : Array Obj) : OnlyAt T w (grow (w.drewN q) os) :=
  ⟨rfl, rfl, rfl, by simp [grow], fun k hk _ => by show (w.heap ++ os)[k]? = _; rw [Array.getElem?_append_left hk]⟩
theorem only_putRow {α : Type} [Inhabited α] (enc : α → Value) (w : World) (blk off : Nat) (d : Array α) : OnlyAt (· = blk) w (putRow enc w blk off d) := by
  refine ⟨rfl, rfl, rfl, by simp [putRow, mapBlock], fun k hk hn => ?_⟩
  simp [putRow, mapBlock, Array.getElem?_modify]
  intro e; exact absurd e.symm hn
theorem only_setCells (blk : Nat) : ∀ (vs : List Value) (o : Nat) (w : World), OnlyAt (· = blk) w (w.setCells blk o vs)
  | [], _, _ => OnlyAt.refl _ _
  | v :: vs, o, w => (OnlyAt.setCell (T := (· = blk)) w ⟨blk, o, none⟩ v rfl).trans (only_setCells blk vs (o + 1) _)
theorem only_sort {w0 w : World} {blk : Nat} (enc : OA w0 blk → List Value) (n off : Nat) (dk : Array (OA w0 blk)) (os : Array Obj) (h : OnlyAt (· = blk) w0 w) : OnlyAt (· = blk) w0 (sortWorldK enc 2 w blk off n dk os) := by
  unfold sortWorldK putRowK
  have h1 : OnlyAt (· = blk) w (putRow id (Sort.ahead w n) blk off (flatK enc 2 dk)) := OnlyAt.trans (show OnlyAt (· = blk) w (Sort.ahead w n) from ⟨rfl, rfl, rfl, Nat.le_refl _, fun _ _ _ => rfl⟩) (only_putRow id _ _ _ _)
  exact (h.trans h1).trans (only_grow _ 0 os)

theorem hold_grow {w0 W : World} {blk off : Nat} {dk : Array (OA w0 blk)} (h : HoldsK oenc 2 W blk off dk) (hb : blk < W.heap.size) (q : Nat) (os : Array Obj) : HoldsK oenc 2 (grow (W.drewN q) os) blk off dk :=
  holdsK_grow oenc 2 (W.drewN q) os blk off dk hb h
theorem hold_cells {w0 W : World} {blk off : Nat} {dk : Array (OA w0 blk)} (h : HoldsK oenc 2 W blk off dk) {i : Nat} (hi : i < dk.size) :
    (W.cell? ⟨blk, off + i * 2, none⟩ = some (.string dk[i]!.1.word) ∧ W.frozen? ⟨blk, off + i * 2, none⟩ = false) ∧ W.cell? ⟨blk, off + i * 2 + 1, none⟩ = some (.slice dk[i]!.1.A dk[i]!.1.n dk[i]!.1.cap) ∧ W.frozen? ⟨blk, off + i * 2 + 1, none⟩ = false :=
  ⟨h.cell hi (show 0 < 2 by omega), h.cell hi (show 1 < 2 by omega)⟩
theorem hold_put {w0 W : World} {blk off : Nat} {dk : Array (OA w0 blk)} (h : HoldsK oenc 2 W blk off dk) {k : Nat} (hk : k < dk.size) (x : OA w0 blk) :
    HoldsK oenc 2 ((W.setCell ⟨blk, off + k * 2, none⟩ (.string x.1.word)).setCell ⟨blk, off + k * 2 + 1, none⟩ (.slice x.1.A x.1.n x.1.cap)) blk off (dk.setIfInBounds k x) := by
  have h1 := holds_setCells_c (s := k * 2) (vs := oenc x) h (by rw [size_flatK, oenc_len]; omega)
  have e : setMany (flatK oenc 2 dk) (k * 2) (oenc x) = flatK oenc 2 (dk.setIfInBounds k x) := by
    refine ext_get! (by simp) fun t ht => ?_
    have ht' : t < dk.size * 2 := by simpa using ht
    rw [get_setMany _ _ _ _ (by rw [size_flatK]; exact ht'), get_flatK _ _ _ _ ht', get_flatK _ _ _ _ (by simpa using ht'), oenc_len]
    by_cases hb : t / 2 = k
    · rw [if_pos ((blk_iff 2 k t (by omega)).2 hb), hb, getElem!_set_same _ _ _ hk]
      congr 1; omega
    · rw [if_neg (fun hh => hb ((blk_iff 2 k t (by omega)).1 hh))]
      have : (dk.setIfInBounds k x)[t / 2]! = dk[t / 2]! := by
        have hl : t / 2 < dk.size := by omega
        rw [getElem!_pos _ (t / 2) (by simpa using hl), getElem!_pos dk (t / 2) hl, Array.getElem_setIfInBounds, if_neg (fun hh => hb hh.symm)]
      rw [this]
  rw [e] at h1
  exact h1

/-- Two entries of one word and one list of flags. -/
def Same2 {w : World} {blk : Nat} (x y : OA w blk) : Prop := x.1.word = y.1.word ∧ x.1.fl = y.1.fl
theorem same2_iff {w : World} {blk : Nat} (x y : OA w blk) : ordC x.1.en y.1.en = 0 ↔ Same2 x y := ordC_zero _ _

/-- The compaction while it goes on: places below m are seen, k are kept. -/
structure CI {w : World} {blk : Nat} (d : Array (OA w blk)) (m k : Nat) (dk : Array (OA w blk)) : Prop where
  size : dk.size = d.size
  lt : k < m
  le : m ≤ d.size
  high : ∀ j, k ≤ j → dk[j]! = d[j]!
  kept : ∀ j, j < m → ∃ i, i < k ∧ Same2 dk[i]! d[j]!
  from_ : ∀ i, i < k → ∃ j, j < d.size ∧ dk[i]! = d[j]!
theorem CI.start {w : World} {blk : Nat} {d : Array (OA w blk)} {k : Nat} (h1 : 1 ≤ k) (hk : k < d.size) (h : Same2 d[k]! d[k - 1]!) : CI d (k + 1) k d := by
  refine ⟨rfl, by omega, by omega, fun _ _ => rfl, fun j hj => ?_, fun i hi => ⟨i, by omega, rfl⟩⟩
  by_cases e : j = k
  · subst e; exact ⟨j - 1, by omega, h.1.symm, h.2.symm⟩
  · exact ⟨j, by omega, rfl, rfl⟩
theorem CI.skip {w : World} {blk : Nat} {d : Array (OA w blk)} {m k : Nat} {dk : Array (OA w blk)} (h : CI d m k dk) (hm : m < d.size) (hs : Same2 d[m]! d[m - 1]!) : CI d (m + 1) k dk := by
  refine ⟨h.size, by have := h.lt; omega, by omega, h.high, fun j hj => ?_, h.from_⟩
  by_cases e : j = m
  · subst e
    obtain ⟨i, hi, hs'⟩ := h.kept (j - 1) (by have := h.lt; omega)
    exact ⟨i, hi, hs'.1.trans hs.1.symm, hs'.2.trans hs.2.symm⟩
  · exact h.kept j (by omega)
theorem set_get {α : Type} [Inhabited α] (d : Array α) (k : Nat) (x : α) (hk : k < d.size) (i : Nat) : (d.setIfInBounds k x)[i]! = if i = k then x else d[i]! := by
  by_cases e : i = k
  · subst e; rw [if_pos rfl, getElem!_set_same _ _ _ hk]
  · rw [if_neg e]
    by_cases hl : i < d.size
    · rw [getElem!_pos _ i (by simpa using hl), getElem!_pos d i hl, Array.getElem_setIfInBounds, if_neg (fun hh => e hh.symm)]
    · simp [hl]
theorem CI.keep {w : World} {blk : Nat} {d : Array (OA w blk)} {m k : Nat} {dk : Array (OA w blk)} (h : CI d m k dk) (hm : m < d.size) : CI d (m + 1) (k + 1) (dk.setIfInBounds k d[m]!) := by
  have hlt := h.lt
  have hk : k < dk.size := by rw [h.size]; omega
  refine ⟨by rw [Array.size_setIfInBounds, h.size], by omega, by omega, fun j hj => ?_, fun j hj => ?_, fun i hi => ?_⟩
  · rw [set_get _ _ _ hk, if_neg (by omega)]; exact h.high j (by omega)
  · by_cases e : j = m
    · subst e; exact ⟨k, by omega, by rw [set_get _ _ _ hk, if_pos rfl]; exact ⟨rfl, rfl⟩⟩
    · obtain ⟨i, hi, hs⟩ := h.kept j (by omega)
      exact ⟨i, by omega, by rw [set_get _ _ _ hk, if_neg (by omega)]; exact hs⟩
  · rw [set_get _ _ _ hk]
    by_cases e : i = k
    · rw [if_pos e]; exact ⟨m, hm, rfl⟩
    · rw [if_neg e]; exact h.from_ i (by omega)

/-- 'clear(s)' of entries. -/
theorem run_clear2 {P : Program} (w : World) (t e ty : TypeId) (z1 z2 : Value) (ht : P.underlying t = some (.slice e)) (hv : ∀ w, (zeroValue e).run P w = .ok (.agg #[z1, z2]) w) (h1 : z1.oneCell' = true) (h2 : z2.oneCell' = true) (hz : (Value.agg #[z1, z2]).cells = #[z1, z2]) (b o n c : Nat) (hn : 0 < n)
    (hc : ∀ j, j < n * 2 → (w.cell? ⟨b, o + j, none⟩).isSome = true) (hf : ∀ j, j < n * 2 → w.frozen? ⟨b, o + j, none⟩ = false) :
    (Builtin.clear_ #[t] ty #[.slice (some ⟨b, o, none⟩) n c]).run P w = .ok (.tuple #[]) (w.setCells b o (Builtin.zeroCells #[z1, z2] n).toList) := by
  have hl : (Builtin.zeroCells #[z1, z2] n).toList.length = n * 2 := by simp [Builtin.zeroCells]
  have hst := run_storeCells_cells (P := P) b o (Builtin.zeroCells #[z1, z2] n).toList 0 w (by rw [hl]; simpa using hc) (by rw [hl]; simpa using hf) (by
    intro v hv'
    simp only [Builtin.zeroCells, Array.toList_map, List.mem_map] at hv'
    obtain ⟨i, _, rfl⟩ := hv'
    have : i % 2 = 0 ∨ i % 2 = 1 := by omega
    rcases this with e | e <;> simp [e, h1, h2])
  simp only [Nat.add_zero] at hst
  obtain ⟨m, rfl⟩ : ∃ m, n = m + 1 := ⟨n - 1, by omega⟩
  simp [Builtin.clear_, run_underlying ht, hv, hz, hst]

/-- What stands while the row is gone through. -/
structure CF (w0 : World) (blk off : Nat) (d dk : Array (OA w0 blk)) (W : World) : Prop where
  only : OnlyAt (· = blk) w0 W
  hold : HoldsK oenc 2 W blk off dk
  size : dk.size = d.size
theorem CF.grown {w0 : World} {blk off : Nat} {d dk : Array (OA w0 blk)} {W : World} (h : CF w0 blk off d dk W) (hb : blk < w0.heap.size) (q : Nat) (os : Array Obj) : CF w0 blk off d dk (grow (W.drewN q) os) :=
  ⟨h.only.trans (only_grow _ _ _), hold_grow h.hold (Nat.lt_of_lt_of_le hb h.only.size) q os, h.size⟩
theorem CF.drew {w0 : World} {blk off : Nat} {d dk : Array (OA w0 blk)} {W : World} (h : CF w0 blk off d dk W) : CF w0 blk off d dk W.drew :=
  ⟨h.only.trans (OnlyAt.drew _ _), h.hold, h.size⟩
theorem CF.cells {w0 : World} {blk off : Nat} {d dk : Array (OA w0 blk)} {W : World} (h : CF w0 blk off d dk W) {i : Nat} (hi : i < d.size) :
    (W.cell? ⟨blk, off + i * 2, none⟩ = some (.string dk[i]!.1.word) ∧ W.frozen? ⟨blk, off + i * 2, none⟩ = false) ∧ W.cell? ⟨blk, off + i * 2 + 1, none⟩ = some (.slice dk[i]!.1.A dk[i]!.1.n dk[i]!.1.cap) ∧ W.frozen? ⟨blk, off + i * 2 + 1, none⟩ = false :=
  hold_cells h.hold (by rw [h.size]; exact hi)
theorem CF.eq {w0 : World} {blk off : Nat} {d dk : Array (OA w0 blk)} {W : World} (h : CF w0 blk off d dk W) (hb : blk < w0.heap.size) (ob : Nat) (hob : w0.cell? ⟨ob, 0, none⟩ = some (.func (.func 52) #[] #[])) (hne : ob ≠ blk) (x y : OA w0 blk) :
    Calls Tryz.prog 58 #[.agg #[.string x.1.word, .slice x.1.A x.1.n x.1.cap], .agg #[.string y.1.word, .slice y.1.A y.1.n y.1.cap], .pointer (some ⟨ob, 0, none⟩)] W fun e w' => e = .returned (.bool (decide (ordC x.1.en y.1.en = 0))) ∧ CF w0 blk off d dk w' := by
  have hlt := World.block_lt_of_cell? _ _ hob
  have h1 : W.cell? ⟨ob, 0, none⟩ = some (.func (.func 52) #[] #[]) := by
    unfold World.cell? at hob ⊢
    rw [h.only.block ob hlt hne]
    exact hob
  refine (eq_any W ob h1 x.1.en y.1.en x.1.A y.1.A x.1.n y.1.n x.1.cap y.1.cap (x.2 W h.only) (y.2 W h.only)).mono ?_
  rintro e w' ⟨he, q, os, rfl⟩
  exact ⟨he, h.grown hb q os⟩

set_option maxRecDepth 100000 in
set_option maxHeartbeats 4000000 in
theorem compact_any (w0 : World) (blk off ob cap : Nat) (d : Array (OA w0 blk)) (hb : blk < w0.heap.size) (hob : w0.cell? ⟨ob, 0, none⟩ = some (.func (.func 52) #[] #[])) (hne : ob ≠ blk) (hsz : d.size ≤ cap) (hcap : cap ≤ maxLen) (w : World) (hw : CF w0 blk off d d w) :
    Calls Tryz.prog 57 #[.slice (some ⟨blk, off, none⟩) d.size cap, .func (.func 58) #[] #[.pointer (some ⟨ob, 0, none⟩)]] w fun e w' =>
      ∃ (k : Nat) (dk : Array (OA w0 blk)), e = .returned (.slice (some ⟨blk, off, none⟩) k cap) ∧ k ≤ d.size ∧ OnlyAt (· = blk) w0 w' ∧ (∀ i, i < k → w'.cell? ⟨blk, off + i * 2, none⟩ = some (.string dk[i]!.1.word) ∧ w'.cell? ⟨blk, off + i * 2 + 1, none⟩ = some (.slice dk[i]!.1.A dk[i]!.1.n dk[i]!.1.cap)) ∧
        (∀ i, i < k → ∃ j, j < d.size ∧ dk[i]! = d[j]!) ∧ ∀ j, j < d.size → ∃ i, i < k ∧ Same2 dk[i]! d[j]! := by
  obtain ⟨n, hn⟩ : ∃ n, n = d.size := ⟨_, rfl⟩
  rw [← hn] at hsz ⊢
  have hnm : n ≤ maxLen := by omega
  unfold maxLen at hnm
  have HN := Lib.hid hn
  have HW := Lib.hid hw
  have HE := Lib.hid (fun (dk : Array (OA w0 blk)) (W : World) (h : CF w0 blk off d dk W) (x y : OA w0 blk) => h.eq hb ob hob hne x y)
  have HB := Lib.hid hb
  have HC := Lib.hid hcap
  clear hob hne hw hb hcap hn
  have same : Hid (∀ W, CF w0 blk off d d W → ∃ (k : Nat) (dk : Array (OA w0 blk)), Ending.returned (Value.slice (some ⟨blk, off, none⟩) n cap) = .returned (.slice (some ⟨blk, off, none⟩) k cap) ∧ k ≤ n ∧ OnlyAt (· = blk) w0 W ∧ (∀ i, i < k → W.cell? ⟨blk, off + i * 2, none⟩ = some (.string dk[i]!.1.word) ∧ W.cell? ⟨blk, off + i * 2 + 1, none⟩ = some (.slice dk[i]!.1.A dk[i]!.1.n dk[i]!.1.cap)) ∧
        (∀ i, i < k → ∃ j, j < n ∧ dk[i]! = d[j]!) ∧ ∀ j, j < n → ∃ i, i < k ∧ Same2 dk[i]! d[j]!) :=
    Lib.hid fun W h => ⟨n, d, rfl, Nat.le_refl _, h.only, fun i hi => ⟨(h.cells (by rw [← HN.out]; exact hi)).1.1, (h.cells (by rw [← HN.out]; exact hi)).2.1⟩, fun i hi => ⟨i, hi, rfl⟩, fun j hj => ⟨j, hj, rfl, rfl⟩⟩
  by_cases h2 : n < 2
  · go_enter Tryz.func57, Tryz.ntmps57
    go_wp2_with fail
    go_ret
    exact same.out _ HW.out
  go_enter Tryz.func57, Tryz.ntmps57
  go_wp2_with fail
  go_loopg [5] n (fun g s wr => ∃ k : Nat, 1 ≤ k ∧ k ≤ n ∧ n - k ≤ g ∧ s = .int .i64 k ∧ Hid (CF w0 blk off d d wr))
  case atStart => exact ⟨1, by omega, by omega, by omega, rfl, HW⟩
  case round =>
    obtain ⟨k, hk1, hk, hg, rfl, H⟩ := hrel
    by_cases hlt : k < n
    · obtain ⟨⟨c1, f1⟩, c1', f1'⟩ := H.out.cells (show k < d.size by rw [← HN.out]; exact hlt)
      obtain ⟨⟨c0, f0⟩, c0', f0'⟩ := H.out.cells (show k - 1 < d.size by rw [← HN.out]; omega)
      have CE := Lib.hid (HE.out d wr.drew H.out.drew d[k]! d[k - 1]!)
      have hS := same2_iff d[k]! d[k - 1]!
      have HS := Lib.hid hS
      clear hS
      generalize d[k]!.1.word = X1 at *
      generalize d[k]!.1.A = X2 at *
      generalize d[k]!.1.n = X3 at *
      generalize d[k]!.1.cap = X4 at *
      generalize d[k - 1]!.1.word = Y1 at *
      generalize d[k - 1]!.1.A = Y2 at *
      generalize d[k - 1]!.1.n = Y3 at *
      generalize d[k - 1]!.1.cap = Y4 at *
      have w1 : IntKind.i64.wrap ((k : Int) - 1) = (k : Int) - 1 := IntWalk.i64_in _ (by omega)
      have w2 : (0 : Int) ≤ (k : Int) - 1 := by omega
      have w3 : ((k : Int) - 1).toNat = k - 1 := by omega
      have w4 : (k : Int) - 1 < (n : Int) := by omega
      have w5 : (k : Int) < (n : Int) := by omega
      have w6 : (1 : Int) ≤ (k : Int) := by omega
      go_upto_region 6 with fail
      go_still_tail 10, (by kernel_rfl)
      change wpList _ _ _ _ _ wr.drew
      clear c1 f1 c1' f1' c0 f0 c0' f0' w1 w2 w3 w4 w5 w6
      generalize wr.drew = wd at *
      by_cases hs : Same2 d[k]! d[k - 1]!
      · have hz := HS.out.2 hs
        rw [hz] at CE
        go_wp2_with (go_at_call 58; refine (CE.out).mono ?_; rintro e W2 ⟨rfl, h2⟩; have H2 := Lib.hid h2; clear h2 CE)
        have HI := Lib.hid (CI.start hk1 (show k < d.size by rw [← HN.out]; exact hlt) hs)
        clear hz hs HS
        go_loopg [5, 7] n (fun g s5 s7 wr => ∃ (kk k2 : Nat) (dk : Array (OA w0 blk)), s5 = .int .i64 kk ∧ s7 = .int .i64 k2 ∧ 1 ≤ k2 ∧ k + k2 ≤ n ∧ n - (k + k2) ≤ g ∧ Hid (CF w0 blk off d dk wr ∧ CI d (k + k2) kk dk))
        case atStart => exact ⟨k, 1, d, rfl, rfl, Nat.le_refl _, by omega, by omega, Lib.hid ⟨H2.out, HI.out⟩⟩
        case round =>
          obtain ⟨kk, k2, dk, rfl, rfl, h1, hle, hg2, HJ⟩ := hrel
          have hsd := HJ.out.1.size
          have hnd := HN.out
          have HSD := Lib.hid (And.intro hsd hnd)
          have hkk := HJ.out.2.lt
          by_cases hlt2 : k + k2 < n
          · have hm : k + k2 < d.size := by rw [← HN.out]; exact hlt2
            obtain ⟨⟨c1, f1⟩, c1', f1'⟩ := HJ.out.1.cells hm
            obtain ⟨⟨c0, f0⟩, c0', f0'⟩ := HJ.out.1.cells (show k + k2 - 1 < d.size by omega)
            rw [HJ.out.2.high (k + k2) (by omega), show off + (k + k2) * 2 = off + k * 2 + k2 * 2 by omega] at c1 c1'
            rw [HJ.out.2.high (k + k2 - 1) (by omega), show off + (k + k2 - 1) * 2 = off + k * 2 + (k2 - 1) * 2 by omega] at c0 c0'
            have CE := Lib.hid (HE.out dk wr.drew HJ.out.1.drew d[k + k2]! d[k + k2 - 1]!)
            have HS := Lib.hid (same2_iff d[k + k2]! d[k + k2 - 1]!)
            have HU := Lib.hid (show ∀ W, CF w0 blk off d dk W → (W.cell? ⟨blk, off + k * 2 + k2 * 2, none⟩ = some (.string d[k + k2]!.1.word) ∧ W.cell? ⟨blk, off + k * 2 + k2 * 2 + 1, none⟩ = some (.slice d[k + k2]!.1.A d[k + k2]!.1.n d[k + k2]!.1.cap)) ∧
                (∃ o1 o2, W.cell? ⟨blk, off + kk * 2, none⟩ = some o1 ∧ W.frozen? ⟨blk, off + kk * 2, none⟩ = false ∧ W.cell? ⟨blk, off + kk * 2 + 1, none⟩ = some o2 ∧ W.frozen? ⟨blk, off + kk * 2 + 1, none⟩ = false) ∧
                CF w0 blk off d (dk.setIfInBounds kk d[k + k2]!) ((W.setCell ⟨blk, off + kk * 2, none⟩ (.string d[k + k2]!.1.word)).setCell ⟨blk, off + kk * 2 + 1, none⟩ (.slice d[k + k2]!.1.A d[k + k2]!.1.n d[k + k2]!.1.cap)) from fun W hW => by
              obtain ⟨⟨x1, _⟩, x2, _⟩ := hW.cells hm
              obtain ⟨⟨y1, g1⟩, y2, g2⟩ := hW.cells (show kk < d.size by omega)
              rw [HJ.out.2.high (k + k2) (by omega), show off + (k + k2) * 2 = off + k * 2 + k2 * 2 by omega] at x1 x2
              refine ⟨⟨x1, x2⟩, ⟨_, _, y1, g1, y2, g2⟩, (hW.only.trans (OnlyAt.setCell _ _ _ rfl)).trans (OnlyAt.setCell _ _ _ rfl), hold_put hW.hold (by rw [hW.size]; omega) _, by rw [Array.size_setIfInBounds, hW.size]⟩)
            clear hsd hnd
            by_cases hs : Same2 d[k + k2]! d[k + k2 - 1]!
            · have hz := HS.out.2 hs
              have HI := Lib.hid (HJ.out.2.skip hm hs)
              rw [hz] at CE
              clear hz hs HS HU
              generalize d[k + k2]!.1.word = X1 at *
              generalize d[k + k2]!.1.A = X2 at *
              generalize d[k + k2]!.1.n = X3 at *
              generalize d[k + k2]!.1.cap = X4 at *
              generalize d[k + k2 - 1]!.1.word = Y1 at *
              generalize d[k + k2 - 1]!.1.A = Y2 at *
              generalize d[k + k2 - 1]!.1.n = Y3 at *
              generalize d[k + k2 - 1]!.1.cap = Y4 at *
              have w1 : IntKind.i64.wrap ((k2 : Int) - 1) = (k2 : Int) - 1 := IntWalk.i64_in _ (by omega)
              have w2 : (0 : Int) ≤ (k2 : Int) - 1 := by omega
              have w3 : ((k2 : Int) - 1).toNat = k2 - 1 := by omega
              have w4 : (k2 : Int) - 1 < ((n - k : Nat) : Int) := by omega
              have w5 : (k2 : Int) < ((n - k : Nat) : Int) := by omega
              have w6 : (1 : Int) ≤ (k2 : Int) := by omega
              go_upto_region 11 with fail
              go_still_tail 10, (by kernel_rfl)
              change wpList _ _ _ _ _ wr.drew
              clear c1 f1 c1' f1' c0 f0 c0' f0' w1 w2 w3 w4 w5 w6
              generalize wr.drew = wd at *
              go_wp2_with (go_at_call 58; refine (CE.out).mono ?_; rintro e W2 ⟨rfl, h2⟩; have H2 := Lib.hid h2; clear h2 CE)
              go_roundg (n - (k + (k2 + 1)))
              case measure => omega
              case rel => exact ⟨kk, k2 + 1, dk, rfl, by go_num, by omega, by omega, by omega, Lib.hid ⟨H2.out, HI.out⟩⟩
            · have hz : ¬ (ordC d[k + k2]!.1.en d[k + k2 - 1]!.1.en = 0) := fun hh => hs (HS.out.1 hh)
              have hz2 : decide (ordC d[k + k2]!.1.en d[k + k2 - 1]!.1.en = 0) = false := decide_eq_false hz
              have HI := Lib.hid (HJ.out.2.keep hm)
              rw [hz2] at CE
              clear hz hz2 hs HS
              obtain ⟨dn, hdn⟩ : ∃ dn, dn = dk.setIfInBounds kk d[k + k2]! := ⟨_, rfl⟩
              rw [← hdn] at HI HU
              clear hdn
              generalize d[k + k2]!.1.word = X1 at *
              generalize d[k + k2]!.1.A = X2 at *
              generalize d[k + k2]!.1.n = X3 at *
              generalize d[k + k2]!.1.cap = X4 at *
              generalize d[k + k2 - 1]!.1.word = Y1 at *
              generalize d[k + k2 - 1]!.1.A = Y2 at *
              generalize d[k + k2 - 1]!.1.n = Y3 at *
              generalize d[k + k2 - 1]!.1.cap = Y4 at *
              have w1 : IntKind.i64.wrap ((k2 : Int) - 1) = (k2 : Int) - 1 := IntWalk.i64_in _ (by omega)
              have w2 : (0 : Int) ≤ (k2 : Int) - 1 := by omega
              have w3 : ((k2 : Int) - 1).toNat = k2 - 1 := by omega
              have w4 : (k2 : Int) - 1 < ((n - k : Nat) : Int) := by omega
              have w5 : (k2 : Int) < ((n - k : Nat) : Int) := by omega
              have w6 : (1 : Int) ≤ (k2 : Int) := by omega
              go_upto_region 11 with fail
              go_still_tail 10, (by kernel_rfl)
              change wpList _ _ _ _ _ wr.drew
              clear c1 f1 c1' f1' c0 f0 c0' f0' w1 w2 w3 w4 w5 w6
              generalize wr.drew = wd at *
              go_wp2_with (go_at_call 58; refine (CE.out).mono ?_; rintro e W2 ⟨rfl, h2⟩; have H2 := Lib.hid (HU.out W2 h2).2.2; obtain ⟨⟨x1, x2⟩, ⟨o1, o2, y1, g1, y2, g2⟩, -⟩ := HU.out W2 h2; clear h2 CE; have v1 : (kk : Int) < (n : Int) := by omega)
              go_roundg (n - (k + (k2 + 1)))
              case measure => omega
              case rel => exact ⟨kk + 1, k2 + 1, dn, by go_num, by go_num, by omega, by omega, by omega, Lib.hid ⟨H2.out, HI.out⟩⟩
          · have hend : k + k2 = n := by omega
            have hcl : ∀ ty, (Builtin.clear_ #[39] ty #[.slice (some ⟨blk, off + kk * 2, none⟩) (n - kk) (cap - kk)]).run Tryz.prog wr = .ok (.tuple #[]) (wr.setCells blk (off + kk * 2) (Builtin.zeroCells #[.string ⟨#[]⟩, .slice none 0 0] (n - kk)).toList) :=
              fun ty => run_clear2 wr _ _ ty _ _ Tryz.underlying39 (fun w => by kernel_rfl) rfl rfl rfl blk (off + kk * 2) _ _ (by omega) (fun j hj => by rw [Nat.add_assoc, (HJ.out.1.hold (kk * 2 + j) (by rw [size_flatK]; omega)).1]; rfl) (fun j hj => by rw [Nat.add_assoc]; exact (HJ.out.1.hold (kk * 2 + j) (by rw [size_flatK]; omega)).2)
            have v1 : (kk : Int) ≤ (n : Int) := by omega
            have v2 : (kk : Int) ≤ (cap : Int) := by omega
            clear hsd hnd
            go_wp2_with fail
            go_ret
            refine ⟨kk, dk, rfl, by omega, HJ.out.1.only.trans (only_setCells _ _ _ _), fun i hi => ?_, fun i hi => ?_, fun j hj => ?_⟩
            · obtain ⟨⟨x1, _⟩, x2, _⟩ := HJ.out.1.cells (show i < d.size by rw [← HN.out]; omega)
              exact ⟨(World.cell?_setCells_out blk _ _ _ _ (fun _ _ => .inl (by show off + i * 2 < _; omega))).trans x1, (World.cell?_setCells_out blk _ _ _ _ (fun _ _ => .inl (by show off + i * 2 + 1 < _; omega))).trans x2⟩
            · rw [HN.out]; exact HJ.out.2.from_ i hi
            · exact HJ.out.2.kept j (by omega)
      · have hz : ¬ (ordC d[k]!.1.en d[k - 1]!.1.en = 0) := fun hh => hs (HS.out.1 hh)
        have hz2 : decide (ordC d[k]!.1.en d[k - 1]!.1.en = 0) = false := decide_eq_false hz
        rw [hz2] at CE
        clear hz hz2 hs HS
        go_wp2_with (go_at_call 58; refine (CE.out).mono ?_; rintro e W2 ⟨rfl, h2⟩; have H2 := Lib.hid h2; clear h2 CE)
        go_roundg (n - (k + 1))
        case measure => omega
        case rel => exact ⟨k + 1, by omega, by omega, by omega, by go_num, H2⟩
    · obtain rfl : k = n := by omega
      go_wp2_with fail
      go_ret
      exact same.out _ H.out
end Go.Proofs.YtcbmfkgekhadkaaGreatDoor
