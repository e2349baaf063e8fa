/- A store in memory: its own block, its list of chunks, the chunks; what a new chunk and what a copied text make of it. -/
import Derived.Test.YtfdnlbeancdajaaSGives
import Derived.Lib.UnsafeStr
import Derived.Laws.AppendOwn
import Derived.Laws.CopyRow
import Derived.Laws.Tables
namespace Go.Proofs.Ytfdnlbeancdajaa.Sto
open Go Go.RowKit

theorem add_at (c o i : Nat) : Addr.add ⟨c, o, none⟩ i = ⟨c, o + i, none⟩ := by
  unfold Addr.add
  split
  · rename_i h0; subst h0; rfl
  · rfl
theorem cut_get (a : Array UInt8) (k m i : Nat) (h : k + i < m) : (a.extract k m)[i]? = a[k + i]? := by
  by_cases h2 : k + i < a.size
  · rw [Array.getElem?_extract_of_lt (by omega), Array.getElem?_eq_getElem h2]
  · rw [Array.getElem?_eq_none (by simp only [Array.size_extract]; omega), Array.getElem?_eq_none (by omega)]

/-- One turn behind another, of blocks that the first one knew, or that are new. -/
theorem _root_.Go.Proofs.Ytfdnlbeancdajaa.OnlyAt.then {T S : Nat → Prop} {A B C : World} (h : OnlyAt T A B) (k : OnlyAt S B C) (hs : ∀ i, S i → T i ∨ A.heap.size ≤ i) : OnlyAt T A C :=
  ⟨k.os.trans h.os, k.tape.trans h.tape, k.output.trans h.output, Nat.le_trans h.size k.size, fun i hi ht => (k.block i (Nat.lt_of_lt_of_le hi h.size) (fun hf => by
    rcases hs i hf with h1 | h1
    · exact ht h1
    · omega)).trans (h.block i hi ht)⟩

theorem _root_.Go.Proofs.Ytfdnlbeancdajaa.OnlyAt.fresh {A B : World} (h : OnlyAt (fun k => A.heap.size ≤ k) A B) : OnlyAt (fun _ => False) A B :=
  ⟨h.os, h.tape, h.output, h.size, fun i hi _ => h.block i hi (fun hf => absurd hi (Nat.not_lt.2 hf))⟩

/-- Block c is the chunk j of a store of the text s: so many of its bytes as there are. -/
def Chunk (w : World) (s : ByteArray) (j c : Nat) : Prop :=
  ∃ arr : Array Value, w.heap[c]? = some (.cells arr /-t-/120 (0, 0)) ∧ arr.size = 1024 ∧ ∀ i x, i < 1024 → s.data[j * 1024 + i]? = some x → arr[i]? = some (.int .u8 (x.toNat : Int))

/-- Addresses of chunks, as cells. -/
def ptrs (cs : List Nat) : List Value := cs.map fun c => .pointer (some ⟨c, 0, none⟩)
theorem ptrs_get (cs : List Nat) (j : Nat) : (ptrs cs)[j]? = (cs[j]?).map fun c => .pointer (some ⟨c, 0, none⟩) := by simp [ptrs]

/-- In block b lies a store of the text s; v: its list; cs: its chunks. -/
structure Lies (w : World) (b : Nat) (v : Value) (cs : List Nat) (s : ByteArray) : Prop where
  cell : w.heap[b]? = some (.cells #[v, .int .i64 (s.size : Int)] /-t-/110 (0, 0))
  row : w.ownsRow 0 /-t-/118 1 v cs.length (ptrs cs)
  chunk : ∀ (j c : Nat), cs[j]? = some c → Chunk w s j c
  nodup : cs.Nodup
  fits : s.size ≤ cs.length * 1024

/-- The blocks that it lies in. -/
def Foot (b : Nat) (v : Value) (cs : List Nat) (k : Nat) : Prop := k = b ∨ v.ownBlock = some k ∨ k ∈ cs

theorem Chunk.lt {w : World} {s : ByteArray} {j c : Nat} (h : Chunk w s j c) : c < w.heap.size := by
  obtain ⟨arr, hc, _⟩ := h
  exact (Array.getElem?_eq_some_iff.1 hc).1
theorem Chunk.frame {w w' : World} {s : ByteArray} {j c : Nat} (h : Chunk w s j c) (hk : w'.heap[c]? = w.heap[c]?) : Chunk w' s j c := by
  obtain ⟨arr, hc, h1, h2⟩ := h
  exact ⟨arr, hk.trans hc, h1, h2⟩

theorem row_frame {w w' : World} {base e size n : Nat} {v : Value} {xs : List Value} (h : w.ownsRow base e size v n xs) (hk : ∀ g, v.ownBlock = some g → w'.heap[g]? = w.heap[g]?) : w'.ownsRow base e size v n xs := by
  refine ⟨h.1, ?_⟩
  rcases h.2 with h2 | ⟨g, cap, cur, rfl, h3, h4, h5⟩
  · exact .inl h2
  · exact .inr ⟨g, cap, cur, rfl, h3, (hk g rfl).trans h4, h5⟩
theorem row_type {w : World} {base e size n : Nat} {v : Value} {xs : List Value} (h : w.ownsRow base e size v n xs) {g : Nat} (hg : v.ownBlock = some g) : ∃ cur, w.heap[g]? = some (.cells cur e (0, 0)) := by
  rcases h.2 with ⟨rfl, _⟩ | ⟨g', cap, cur, rfl, h3, h4, h5⟩
  · cases hg
  · cases hg; exact ⟨cur, h4⟩

theorem at_of_get {cs : List Nat} {c : Nat} (h : c ∈ cs) : ∃ j : Nat, cs[j]? = some c := by
  obtain ⟨j, hj, rfl⟩ := List.mem_iff_getElem.1 h
  exact ⟨j, List.getElem?_eq_getElem hj⟩

theorem Lies.lt {w : World} {b : Nat} {v : Value} {cs : List Nat} {s : ByteArray} (h : Lies w b v cs s) : ∀ k, Foot b v cs k → k < w.heap.size := by
  rintro k (rfl | hk | hk)
  · exact (Array.getElem?_eq_some_iff.1 h.cell).1
  · exact (h.row.lt k hk).2
  · obtain ⟨j, hj⟩ := at_of_get hk
    exact (h.chunk j k hj).lt
theorem Lies.frame {w w' : World} {b : Nat} {v : Value} {cs : List Nat} {s : ByteArray} (h : Lies w b v cs s) (hk : ∀ k, Foot b v cs k → w'.heap[k]? = w.heap[k]?) : Lies w' b v cs s :=
  ⟨(hk b (.inl rfl)).trans h.cell, row_frame h.row (fun g hg => hk g (.inr (.inl hg))), fun j c hj => (h.chunk j c hj).frame (hk c (.inr (.inr (List.mem_of_getElem? hj)))), h.nodup, h.fits⟩
theorem Lies.keeps {w w' : World} {b : Nat} {v : Value} {cs : List Nat} {s : ByteArray} (h : Lies w b v cs s) (hk : KeepsAt (Foot b v cs) w w') : Lies w' b v cs s :=
  h.frame fun k hf => hk.block k (h.lt k hf) hf
theorem Lies.below {w w' : World} {b : Nat} {v : Value} {cs : List Nat} {s : ByteArray} (h : Lies w b v cs s) (hb : Below w.heap.size w w') : Lies w' b v cs s :=
  h.frame fun k hf => hb.block k (h.lt k hf)

/-- The three kinds of blocks are apart. -/
theorem Lies.row_ne {w : World} {b : Nat} {v : Value} {cs : List Nat} {s : ByteArray} (h : Lies w b v cs s) : v.ownBlock ≠ some b := by
  intro e
  obtain ⟨cur, hc⟩ := row_type h.row e
  rw [h.cell] at hc; cases hc
theorem Lies.chunk_ne {w : World} {b : Nat} {v : Value} {cs : List Nat} {s : ByteArray} (h : Lies w b v cs s) {c : Nat} (hc : c ∈ cs) : c ≠ b ∧ v.ownBlock ≠ some c := by
  obtain ⟨j, hj⟩ := at_of_get hc
  obtain ⟨arr, ha, _⟩ := h.chunk j c hj
  refine ⟨fun e => ?_, fun e => ?_⟩
  · subst e; rw [h.cell] at ha; cases ha
  · obtain ⟨cur, hr⟩ := row_type h.row e
    rw [ha] at hr; cases hr

/-- What a walk reads of it. -/
theorem Lies.cell0 {w : World} {b : Nat} {v : Value} {cs : List Nat} {s : ByteArray} (h : Lies w b v cs s) : w.cell? ⟨b, 0, none⟩ = some v := by simp [World.cell?, h.cell]
theorem Lies.cell1 {w : World} {b : Nat} {v : Value} {cs : List Nat} {s : ByteArray} (h : Lies w b v cs s) : w.cell? ⟨b, 1, none⟩ = some (.int .i64 (s.size : Int)) := by simp [World.cell?, h.cell]
theorem Lies.free {w : World} {b : Nat} {v : Value} {cs : List Nat} {s : ByteArray} (h : Lies w b v cs s) (i : Nat) : w.frozen? ⟨b, i, none⟩ = false := by simp [World.frozen?, h.cell]
theorem Lies.list {w : World} {b : Nat} {v : Value} {cs : List Nat} {s : ByteArray} (h : Lies w b v cs s) {j c : Nat} (hj : cs[j]? = some c) : ∃ g cap, v = .slice (some ⟨g, 0, none⟩) cs.length cap ∧ cs.length ≤ cap ∧ w.cell? ⟨g, j, none⟩ = some (.pointer (some ⟨c, 0, none⟩)) := by
  have hlen : j < cs.length := (List.getElem?_eq_some_iff.1 hj).1
  rcases h.row.2 with ⟨_, h0⟩ | ⟨g, cap, cur, rfl, h3, h4, h5, h6, h7, h8⟩
  · omega
  · refine ⟨g, cap, rfl, h5, ?_⟩
    have := h.row.cells (g := g) rfl j (.pointer (some ⟨c, 0, none⟩)) (by rw [ptrs_get, hj]; rfl)
    simpa [add_at] using this

theorem heap_set {w : World} {b i : Nat} {cs : Array Value} {T : TypeId} {fr : Nat × Nat} (hb : w.heap[b]? = some (.cells cs T fr)) (v : Value) :
    (w.setCell ⟨b, i, none⟩ v).heap[b]? = some (.cells (cs.setIfInBounds i v) T fr) := by
  simp [World.setCell, Array.getElem?_modify, hb]
theorem heap_set_other (w : World) (b i k : Nat) (v : Value) (h : k ≠ b) : (w.setCell ⟨b, i, none⟩ v).heap[k]? = w.heap[k]? := Below.heap_setCell _ _ _ _ (fun e => h e)

/-- A chunk more, of nothing yet. -/
theorem Lies.more {w w2 w3 : World} {b c : Nat} {v v' : Value} {cs : List Nat} {s : ByteArray} {zs : Array Value} (h : Lies w b v cs s) (hs : s.size = cs.length * 1024) (hz : zs.size = 1024)
    (hc : c = w.heap.size) (ho : OnlyAt (fun _ => False) w w2) (h2 : w2.heap[c]? = some (.cells zs /-t-/120 (0, 0))) (hrow : w3.ownsRow 0 /-t-/118 1 v' (cs.length + 1) (ptrs cs ++ [.pointer (some ⟨c, 0, none⟩)]))
    (hg : w2.grownBy w3 v.ownBlock) (hwh : v'.ownBlock = v.ownBlock ∨ ∀ g, v'.ownBlock = some g → w2.heap.size ≤ g) :
    Lies (w3.setCell ⟨b, 0, none⟩ v') b v' (cs ++ [c]) s ∧ OnlyAt (Foot b v cs) w (w3.setCell ⟨b, 0, none⟩ v') ∧ ∀ k, Foot b v' (cs ++ [c]) k → Foot b v cs k ∨ w.heap.size ≤ k := by
  have hbl := h.lt b (.inl rfl)
  have hc2 : c < w2.heap.size := (Array.getElem?_eq_some_iff.1 h2).1
  have hkeep : ∀ k, k < w.heap.size → v.ownBlock ≠ some k → w3.heap[k]? = w.heap[k]? := fun k hk hn =>
    (hg.block k (Nat.lt_of_lt_of_le hk ho.size) (fun e => hn e.symm)).trans (ho.block k hk (fun hf => hf))
  have hvc : v.ownBlock ≠ some c := fun e => by have := (h.row.lt c e).2; omega
  have h3 : w3.heap[c]? = some (.cells zs /-t-/120 (0, 0)) := (hg.block c hc2 (fun e => hvc e.symm)).trans h2
  have hb3 : w3.heap[b]? = some (.cells #[v, .int .i64 (s.size : Int)] /-t-/110 (0, 0)) := (hkeep b hbl h.row_ne).trans h.cell
  have hcb : c ≠ b := by omega
  have hvb : v'.ownBlock ≠ some b := fun e => by
    obtain ⟨cur, hr⟩ := row_type hrow e
    rw [hb3] at hr; cases hr
  have hcn : c ∉ cs := fun hm => by have := h.lt c (.inr (.inr hm)); omega
  refine ⟨⟨?_, ?_, ?_, ?_, ?_⟩, ?_, ?_⟩
  · exact heap_set hb3 v'
  · have := row_frame hrow (w' := w3.setCell ⟨b, 0, none⟩ v') (fun g hg' => heap_set_other _ _ _ _ _ (fun e => hvb (by rw [← e]; exact hg')))
    simpa [ptrs] using this
  · intro j d hj
    rcases Nat.lt_or_ge j cs.length with hl | hl
    · rw [List.getElem?_append_left hl] at hj
      have hm := List.mem_of_getElem? hj
      exact (h.chunk j d hj).frame ((heap_set_other _ _ _ _ _ (h.chunk_ne hm).1).trans (hkeep d (h.chunk j d hj).lt (h.chunk_ne hm).2))
    · obtain ⟨hjl, hd⟩ := List.getElem?_eq_some_iff.1 hj
      simp only [List.length_append, List.length_cons, List.length_nil] at hjl
      obtain rfl : j = cs.length := by omega
      have hd : c = d := by simpa using hd
      subst hd
      refine ⟨zs, (heap_set_other _ _ _ _ _ hcb).trans h3, hz, fun i x hi hx => ?_⟩
      have := (Array.getElem?_eq_some_iff.1 hx).1
      have hsz : s.data.size = s.size := rfl
      omega
  · rw [List.nodup_append]
    exact ⟨h.nodup, by simp, fun a ha d hd e => by simp at hd; subst hd; subst e; exact hcn ha⟩
  · simp; omega
  · refine ⟨?_, ?_, ?_, ?_, ?_⟩
    · exact hg.os.trans ho.os
    · exact hg.tape.trans ho.tape
    · exact hg.output.trans ho.output
    · have h1 := ho.size
      have h5 := hg.size
      have h4 : (w3.setCell ⟨b, 0, none⟩ v').heap.size = w3.heap.size := by simp [World.setCell]
      omega
    · intro k hk hn
      rw [heap_set_other _ _ _ _ _ (fun e => hn (.inl e))]
      exact hkeep k hk (fun e => hn (.inr (.inl e)))
  · rintro k (rfl | hk | hk)
    · exact .inl (.inl rfl)
    · rcases hwh with e | e
      · exact .inl (.inr (.inl (by rw [← e]; exact hk)))
      · exact .inr (Nat.le_trans ho.size (e k hk))
    · simp only [List.mem_append, List.mem_singleton] at hk
      rcases hk with hk | rfl
      · exact .inl (.inr (.inr hk))
      · exact .inr (by omega)

/-- The cells of a chunk behind a copy into it. -/
def laid (arr : Array Value) (o k : Nat) (r : ByteArray) : Array Value := (arr.toList.take o ++ Lib.byteCells (r.data.toList.take k) ++ arr.toList.drop (o + k)).toArray
theorem laid_size (arr : Array Value) (o k : Nat) (r : ByteArray) (hk : k ≤ r.size) (h : o + k ≤ arr.size) : (laid arr o k r).size = arr.size := by
  have hr : r.data.toList.length = r.size := by simp
  simp [laid, Lib.byteCells_length, hr]; omega
theorem laid_get (arr : Array Value) (o k : Nat) (r : ByteArray) (hk : k ≤ r.size) (h : o + k ≤ arr.size) (i : Nat) : (laid arr o k r)[i]? = if i < o then arr[i]? else if i < o + k then (r.data[i - o]?).map fun x => .int .u8 (x.toNat : Int) else arr[i]? := by
  have hr : r.data.toList.length = r.size := by simp
  have ho : (arr.toList.take o).length = o := by simp; omega
  have hm : (Lib.byteCells (r.data.toList.take k)).length = k := by simp [Lib.byteCells_length, hr]; omega
  simp only [laid, List.getElem?_toArray, List.append_assoc]
  by_cases h1 : i < o
  · rw [if_pos h1, List.getElem?_append_left (by omega), List.getElem?_take_of_lt h1]; simp
  · rw [if_neg h1, List.getElem?_append_right (by omega), ho]
    by_cases h2 : i < o + k
    · rw [if_pos h2, List.getElem?_append_left (by omega)]
      simp only [Lib.byteCells, List.getElem?_map]
      rw [List.getElem?_take_of_lt (by omega)]; simp
    · rw [if_neg h2, List.getElem?_append_right (by omega), hm, List.getElem?_drop]
      rw [show o + k + (i - o - k) = i by omega]; simp

/-- A text's bytes copied behind all that there are, into the chunk where there is room. -/
theorem Lies.copied {w : World} {b c o k : Nat} {v : Value} {cs : List Nat} {u r : ByteArray} {arr : Array Value} (h : Lies w b v cs u) (hj : cs[u.size / 1024]? = some c) (ho : o = u.size % 1024)
    (ha : w.heap[c]? = some (.cells arr /-t-/120 (0, 0))) (hk : k ≤ r.size) (hok : o + k ≤ 1024) :
    Lies ((w.setRow c (laid arr o k r)).setCell ⟨b, 1, none⟩ (.int .i64 ((u.size + k : Nat) : Int))) b v cs (u ++ r.extract 0 k) ∧
      OnlyAt (Foot b v cs) w ((w.setRow c (laid arr o k r)).setCell ⟨b, 1, none⟩ (.int .i64 ((u.size + k : Nat) : Int))) := by
  have hcm := List.mem_of_getElem? hj
  obtain ⟨hcb, hcv⟩ := h.chunk_ne hcm
  have hlen : u.size / 1024 < cs.length := (List.getElem?_eq_some_iff.1 hj).1
  have hsz : (r.extract 0 k).size = k := by rw [ByteArray.size_extract]; omega
  have hsz2 : (u ++ r.extract 0 k).size = u.size + k := by rw [ByteArray.size_append, hsz]
  obtain ⟨arr2, ha2, has, hab⟩ := h.chunk _ _ hj
  rw [ha] at ha2
  cases ha2
  have hoth : ∀ k', k' ≠ b → k' ≠ c → ((w.setRow c (laid arr o k r)).setCell ⟨b, 1, none⟩ (.int .i64 ((u.size + k : Nat) : Int))).heap[k']? = w.heap[k']? := fun k' h1 h2 =>
    (heap_set_other _ _ _ _ _ h1).trans (setRow_other _ _ _ _ h2)
  have hud : u.data.size = u.size := rfl
  have hdat : (u ++ r.extract 0 k).data = u.data ++ (r.data.extract 0 k) := by simp
  refine ⟨⟨?_, ?_, ?_, h.nodup, ?_⟩, ?_⟩
  · rw [heap_set ((setRow_other w c b _ (fun e => hcb e.symm)).trans h.cell), hsz2]
    rfl
  · exact row_frame h.row (fun g hg => hoth g (fun e => h.row_ne (by rw [← e]; exact hg)) (fun e => hcv (by rw [← e]; exact hg)))
  · intro j d hd
    by_cases e : j = u.size / 1024
    · subst e
      rw [hj] at hd
      cases hd
      refine ⟨laid arr o k r, (heap_set_other _ _ _ _ _ hcb).trans (setRow_heap w c arr _ /-t-/120 (0, 0) ha), (laid_size arr o k r hk (by omega)).trans has, fun i x hi hx => ?_⟩
      rw [laid_get arr o k r hk (by omega)]
      rw [hdat, Array.getElem?_append] at hx
      by_cases h1 : i < o
      · rw [if_pos h1]
        rw [if_pos (by omega)] at hx
        exact hab i x hi hx
      · rw [if_neg h1]
        rw [if_neg (by omega)] at hx
        have hlt := (Array.getElem?_eq_some_iff.1 hx).1
        simp only [Array.size_extract] at hlt
        rw [if_pos (by omega)]
        rw [cut_get _ _ _ _ (by omega), show 0 + (u.size / 1024 * 1024 + i - u.data.size) = i - o by omega] at hx
        rw [hx]; rfl
    · have hdc : d ≠ c := fun e2 => by
        subst e2
        have h1 := (List.getElem?_eq_some_iff.1 hd)
        have h2 := (List.getElem?_eq_some_iff.1 hj)
        exact e ((List.getElem_inj h.nodup).1 (h1.2.trans h2.2.symm))
      obtain ⟨hdb, hdv⟩ := h.chunk_ne (List.mem_of_getElem? hd)
      obtain ⟨arr3, h3, h3s, h3b⟩ := h.chunk j d hd
      refine ⟨arr3, (hoth d hdb hdc).trans h3, h3s, fun i x hi hx => ?_⟩
      rw [hdat, Array.getElem?_append] at hx
      by_cases h1 : j * 1024 + i < u.data.size
      · rw [if_pos h1] at hx
        exact h3b i x hi hx
      · rw [if_neg h1] at hx
        have hlt := (Array.getElem?_eq_some_iff.1 hx).1
        simp only [Array.size_extract] at hlt
        omega
  · rw [hsz2]; omega
  · refine ⟨rfl, rfl, rfl, by simp [World.setCell], fun k' _ hn => hoth k' (fun e => hn (.inl e)) (fun e => hn (.inr (.inr (by rw [e]; exact hcm))))⟩

/-- Bytes of it from a place on, as many as lie in that place's chunk. -/
theorem Lies.part {w : World} {b c p o k : Nat} {v : Value} {cs : List Nat} {s : ByteArray} (h : Lies w b v cs s) (hj : cs[p / 1024]? = some c) (ho : o = p % 1024) (hok : o + k ≤ 1024) (hp : p + k ≤ s.size) :
    ∀ i u, (Lib.byteCells (s.extract p (p + k)).data.toList)[i]? = some u → w.cell? (Addr.add ⟨c, o, none⟩ i) = some u := by
  intro i u hu
  obtain ⟨arr, ha, has, hab⟩ := h.chunk _ _ hj
  have hil := (List.getElem?_eq_some_iff.1 hu).1
  have hil : i < k := by
    have : (s.extract p (p + k)).size = k := by rw [ByteArray.size_extract]; omega
    rw [Lib.byteCells_length] at hil
    have h2 : (s.extract p (p + k)).data.toList.length = (s.extract p (p + k)).size := by rw [Array.length_toList]; rfl
    omega
  have hsd : s.data.size = s.size := rfl
  have hx : s.data[p + i]? = some s.data[p + i] := Array.getElem?_eq_getElem (by omega)
  have hcell := hab (o + i) s.data[p + i] (by omega) (by rw [show p / 1024 * 1024 + (o + i) = p + i by omega]; exact hx)
  have hu2 : u = .int .u8 (s.data[p + i].toNat : Int) := by
    simp only [Lib.byteCells, List.getElem?_map, ByteArray.data_extract, Array.getElem?_toList] at hu
    rw [cut_get _ _ _ _ (by omega), hx] at hu
    simpa using hu.symm
  have hcc : w.cell? ⟨c, o + i, none⟩ = arr[o + i]? := by simp [World.cell?, ha]
  rw [add_at, hcc, hcell, hu2]
end Go.Proofs.Ytfdnlbeancdajaa.Sto
