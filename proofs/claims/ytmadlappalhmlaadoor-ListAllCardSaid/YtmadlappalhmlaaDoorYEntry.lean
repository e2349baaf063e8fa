/- The document's entry of chapter 12 by contract. -/
import Derived.Test.YtmadlappalhmlaaDoorYState
import Derived.Test.YtmadlappalhmlaaDoorYWord
import Derived.StillTailTactics
import Derived.Deep.CutRange
import Derived.Deep.DeepCutAuto
import Derived.BigQuiet
namespace Go.Proofs.YtmadlappalhmlaaDoor
open Go Go.RowKit Go.Lib

/-- The result's box, the entry's box, the flags' row behind them. -/
structure EB (w wr : World) (HB : Nat) (W : ByteArray) (fv : Value) (acc : List Int) : Prop where
  res : wr.heap[w.heap.size]? = some (.cells #[.string ⟨#[]⟩, .slice none 0 0] 43 (0, 0))
  box : wr.heap[HB]? = some (.cells #[.string W, fv] 43 (0, 0))
  row : wr.ownsRow (HB + 1) 3 1 fv acc.length (acc.map (Value.int .i64))
  lt : w.heap.size < HB
  below : Below w.heap.size w wr
theorem EB.cells {w wr : World} {HB : Nat} {W : ByteArray} {fv : Value} {acc : List Int} (h : EB w wr HB W fv acc) :
    wr.cell? ⟨w.heap.size, 0, none⟩ = some (.string ⟨#[]⟩) ∧ wr.cell? ⟨w.heap.size, 1, none⟩ = some (.slice none 0 0) ∧ wr.cell? ⟨HB, 0, none⟩ = some (.string W) ∧ wr.cell? ⟨HB, 1, none⟩ = some fv ∧ (∀ o, wr.frozen? ⟨w.heap.size, o, none⟩ = false) ∧ ∀ o, wr.frozen? ⟨HB, o, none⟩ = false := by
  refine ⟨?_, ?_, ?_, ?_, fun o => ?_, fun o => ?_⟩ <;> simp [World.cell?, World.frozen?, h.res, h.box]
theorem EB.start (w : World) (W : ByteArray) : EB w ((w.alloc (.cells #[.string ⟨#[]⟩, .slice none 0 0] 43)).alloc (.cells #[.string W, .slice none 0 0] 43)) (w.alloc (.cells #[.string ⟨#[]⟩, .slice none 0 0] 43)).heap.size W (.slice none 0 0) [] :=
  ⟨(Below.heap_alloc _ _ _ (by rw [World.size_alloc]; omega)).trans (World.alloc_heap_new _ _), World.alloc_heap_new _ _, World.ownsRow_nil _ _ _ _, by rw [World.size_alloc]; omega, ((Below.refl _ _).alloc (Nat.le_refl _) _).alloc (by rw [World.size_alloc]; omega) _⟩
theorem EB.hi {w wr : World} {HB : Nat} {W : ByteArray} {fv : Value} {acc : List Int} (h : EB w wr HB W fv acc) : HB + 1 ≤ wr.heap.size := (Array.getElem?_eq_some_iff.1 h.box).1
theorem EB.drewN {w wr : World} {HB : Nat} {W : ByteArray} {fv : Value} {acc : List Int} (h : EB w wr HB W fv acc) (n : Nat) : EB w (wr.drewN n) HB W fv acc := by
  have hb := below_drewN (Below.refl wr.heap.size wr) n
  exact ⟨(hb.block _ (Array.getElem?_eq_some_iff.1 h.res).1).trans h.res, (hb.block _ h.hi).trans h.box, own_keep9 h.row hb, h.lt, below_drewN h.below n⟩
theorem EB.keep {w wr w' : World} {HB : Nat} {W : ByteArray} {fv : Value} {acc : List Int} (h : EB w wr HB W fv acc) (hb : Below wr.heap.size wr w') : EB w w' HB W fv acc :=
  ⟨(hb.block _ (Array.getElem?_eq_some_iff.1 h.res).1).trans h.res, (hb.block _ h.hi).trans h.box, own_keep9 h.row hb, h.lt, h.below.trans (hb.mono h.below.size)⟩
theorem EB.more {w wr w4 : World} {HB : Nat} {W : ByteArray} {fv fv' : Value} {acc : List Int} {x : Int} {o : Obj} (h : EB w wr HB W fv acc)
    (hown : w4.ownsRow (HB + 1) 3 1 fv' (acc.length + 1) (acc.map (Value.int .i64) ++ [.int .i64 x])) (hg : (wr.alloc o).grownBy w4 fv.ownBlock) : EB w (w4.setCell ⟨HB, 1, none⟩ fv') HB W fv' (acc ++ [x]) := by
  have hlo : ∀ g, fv.ownBlock = some g → HB + 1 ≤ g := fun g hg => (h.row.lt g hg).1
  have key : ∀ k, k ≤ HB → w4.heap[k]? = wr.heap[k]? := fun k hk => by
    have := h.hi
    exact (hg.block k (by rw [World.size_alloc]; omega) (fun e => by have := hlo k e.symm; omega)).trans (Below.heap_alloc _ _ _ (by omega))
  have hlt := h.lt
  refine ⟨(set_other _ _ _ _ (by omega)).trans ((key _ (by omega)).trans h.res), ?_, ?_, h.lt, ?_⟩
  · have hb4 := (key HB (Nat.le_refl _)).trans h.box
    simp [World.setCell, Array.getElem?_modify, hb4]
  · rw [List.length_append, List.map_append]
    exact own_blk hown fun g hgr => set_other _ _ _ _ (by have := (hown.lt g hgr).1; omega)
  · have hsz := h.hi
    exact ((h.below.alloc h.below.size o).grown hg (h.below.alloc h.below.size o).size (fun k hk => by have := hlo k hk; omega)).setCell (p := ⟨HB, 1, none⟩) (by show w.heap.size ≤ HB; omega) _
theorem EB.below2 {w wr w4 : World} {HB : Nat} {W : ByteArray} {fv : Value} {acc : List Int} {o : Obj} (h : EB w wr HB W fv acc) (hg : (wr.alloc o).grownBy w4 fv.ownBlock) :
    w4.cell? ⟨HB, 0, none⟩ = some (.string W) ∧ w4.cell? ⟨HB, 1, none⟩ = some fv ∧ ∀ o, w4.frozen? ⟨HB, o, none⟩ = false := by
  have hlo : ∀ g, fv.ownBlock = some g → HB + 1 ≤ g := fun g hg => (h.row.lt g hg).1
  have hsz := h.hi
  have hb4 := ((hg.block HB (by rw [World.size_alloc]; omega) (fun e => by have := hlo HB e.symm; omega)).trans (Below.heap_alloc _ _ _ (by omega))).trans h.box
  refine ⟨?_, ?_, fun o => ?_⟩ <;> simp [World.cell?, World.frozen?, hb4]
/-- A line up to its slash. -/
theorem upto47 (L : List UInt8) : L.take (L.takeWhile (· ≠ 47)).length = L.takeWhile (· ≠ 47) ∧ L.drop (L.takeWhile (· ≠ 47)).length = L.dropWhile (· ≠ 47) := by
  have h : L.takeWhile (· ≠ 47) ++ L.dropWhile (· ≠ 47) = L := List.takeWhile_append_dropWhile
  constructor
  · conv => lhs; arg 2; rw [← h]
    rw [List.take_left]
  · conv => lhs; arg 2; rw [← h]
    rw [List.drop_left]
theorem before47 {L : List UInt8} {k : Nat} {c : UInt8} (h : L[k]? = some c) (hk : k < (L.takeWhile (· ≠ 47)).length) : c ≠ 47 := by
  have h1 : (L.takeWhile (· ≠ 47))[k]? = some c := by
    rw [← (upto47 L).1, List.getElem?_take, if_pos hk]; exact h
  have key : ∀ (l : List UInt8) x, x ∈ l.takeWhile (fun y => decide (y ≠ 47)) → x ≠ 47 := by
    intro l
    induction l with
    | nil => intro x hx; cases hx
    | cons y l ih =>
      intro x hx
      rw [List.takeWhile_cons] at hx
      by_cases hy : decide (y ≠ 47) = true
      · rw [if_pos hy] at hx
        rcases List.mem_cons.1 hx with rfl | hx
        · simpa using hy
        · exact ih x hx
      · rw [if_neg hy] at hx; cases hx
  exact key L c (List.mem_of_getElem? h1)
theorem at47 {L : List UInt8} {c : UInt8} (h : L[(L.takeWhile (· ≠ 47)).length]? = some c) : c = 47 := by
  have h1 : (L.dropWhile (· ≠ 47)).head? = some c := by
    rw [← (upto47 L).2, List.head?_drop]; exact h
  have h2 := List.head?_dropWhile_not (p := fun x : UInt8 => decide (x ≠ 47)) L
  rw [h1] at h2
  simpa using h2
theorem flagsL_nil (acc : List Int) : flagsL acc [] = some acc := rfl
theorem flagsL_step (acc : List Int) (b : UInt8) (r : List UInt8) : flagsL acc (b :: r) = if flagL [b] = 0 ∨ flagL [b] ∈ acc then none else flagsL (acc ++ [flagL [b]]) r := by
  show (if isLet b = true ∧ (b.toNat : Int) ∉ acc then _ else _) = _
  rw [flagL_one]
  unfold isLet
  by_cases h : (97 ≤ b.toNat ∧ b.toNat ≤ 122) ∨ (65 ≤ b.toNat ∧ b.toNat ≤ 90)
  · rw [if_pos h, decide_eq_true h]
    by_cases h2 : (b.toNat : Int) ∈ acc
    · rw [if_neg (by simp [h2]), if_pos (.inr h2)]
    · rw [if_pos ⟨rfl, h2⟩, if_neg (by rintro (e | e); omega; exact h2 e)]
  · rw [if_neg h, decide_eq_false h, if_neg (by simp), if_pos (.inl rfl)]
theorem flagL_low (b : UInt8) : flagL [b] = 0 ∨ 65 ≤ flagL [b] := by
  rw [flagL_one]
  by_cases h : (97 ≤ b.toNat ∧ b.toNat ≤ 122) ∨ (65 ≤ b.toNat ∧ b.toNat ≤ 90)
  · rw [if_pos h]; omega
  · rw [if_neg h]; omega
theorem entryL_bad {L : List UInt8} (h : wordOk (L.takeWhile (· ≠ 47)) = false) : entryL L = none := by
  unfold entryL
  rw [h, if_neg (by decide)]
theorem entryL_good {L : List UInt8} (h : wordOk (L.takeWhile (· ≠ 47)) = true) : entryL L = (flagsO (L.dropWhile (· ≠ 47))).map fun f => ⟨⟨(L.takeWhile (· ≠ 47)).toArray⟩, f⟩ := by
  unfold entryL
  rw [if_pos h]

set_option maxRecDepth 100000 in
set_option maxHeartbeats 4000000 in
theorem eentry_any (w : World) (s : ByteArray) (hs : s.size ≤ 1000000000) :
    Calls Tryd.prog 21 #[.string s] w fun e w' => EntAns w.heap.size s.data.toList e w' ∧ Below w.heap.size w w' := by
  have hsl : s.data.toList.length = s.size := (Lib.size_eq s).symm
  obtain ⟨L, hL⟩ : ∃ L, L = s.data.toList := ⟨_, rfl⟩
  rw [← hL] at hsl ⊢
  obtain ⟨p, hp⟩ : ∃ p, p = (L.takeWhile (· ≠ 47)).length := ⟨_, rfl⟩
  have hps : p ≤ s.size := by
    have := congrArg List.length (upto47 L).1
    rw [List.length_take] at this
    omega
  obtain ⟨W, hW⟩ : ∃ W, W = s.extract 0 p := ⟨_, rfl⟩
  have hWl : W.data.toList = L.takeWhile (· ≠ 47) := by
    rw [hW, ext_list, ← hL, List.drop_zero, Nat.sub_zero, hp, (upto47 L).1]
  have hWs : W.size ≤ 1000000000 := by
    rw [Lib.size_eq, hWl]; omega
  have CW := Lib.hid (fun wx => eword_any wx W hWs)
  rw [hWl] at CW
  have HW := Lib.hid (show (⟨(L.takeWhile (· ≠ 47)).toArray⟩ : ByteArray) = W by rw [← hWl, ba_list])
  have HL := Lib.hid (And.intro hL hsl)
  have HP := Lib.hid hp
  have hx : s.extract 0 p = W := hW.symm
  obtain ⟨ok, hok⟩ : ∃ ok, ok = wordOk (L.takeWhile (· ≠ 47)) := ⟨_, rfl⟩
  rw [← hok] at CW
  have HOK := Lib.hid hok
  obtain ⟨W0, hW0⟩ : ∃ W0, W0 = w.alloc (.cells #[.string ⟨#[]⟩, .slice none 0 0] 43) := ⟨_, rfl⟩
  have hb0 : Below w.heap.size w W0 := by rw [hW0]; exact (Below.refl _ _).alloc (Nat.le_refl _) _
  have HB0 := Lib.hid hb0
  have HS := Lib.hid (show EB w (W0.alloc (.cells #[.string W, .slice none 0 0] 43)) W0.heap.size W (.slice none 0 0) [] from hW0 ▸ EB.start w W)
  have HW0 := Lib.hid hW0
  obtain ⟨i1, hi1, hz10, hz11, hz12⟩ := info_parts Tryd.infosY3
  have BYT := Lib.hid (show ∀ k (h : k < s.size), ∃ c, L[k]? = some c ∧ s[k]'h = c from fun k h => by rw [hL]; exact byte_at h)
  have p0 : (0 : Int) ≤ p := by omega
  have p1 : (p : Int) ≤ s.size := by omega
  clear hL hsl hp hW hWl hWs hok hb0
  go_enter Tryd.func21, Tryd.ntmps21
  go_upto_region 1 with fail
  rw [← HW0.out]
  clear hW0
  go_wp2_with fail
  go_loopg [4] p (fun g i wr => ∃ k : Nat, k + g = p ∧ i = .int .i64 k ∧ W0 = wr)
  case atStart => exact ⟨0, by omega, rfl, rfl⟩
  case round =>
    obtain ⟨k, hk, rfl, rfl⟩ := hrel
    have hk0 : (0 : Int) ≤ k := by omega
    rcases Nat.eq_zero_or_pos gk with h0 | h0
    · obtain rfl : k = p := by omega
      by_cases hend : k = s.size
      · -- no slash
        have hlt : ¬ (k : Int) < s.size := by omega
        have he1 : ((k : Int) == s.size) = true := by simp; omega
        have hlt2 : ¬ (k : Int) + 1 < s.size := by omega
        have hwr : IntKind.i64.wrap ((k : Int) + 1) = ((k : Int) + 1) := IntWalk.i64_in _ (by omega)
        have HD := Lib.hid (show L.dropWhile (· ≠ 47) = [] by
          rw [← (upto47 L).2, List.drop_of_length_le (by have := HP.out; have := HL.out.2; omega)])
        have hWS : W = s := by rw [← hx, hend, ext_ba, List.drop_zero, Nat.sub_zero, List.take_of_length_le (by rw [Lib.size_eq]; exact Nat.le_refl _), ba_list]
        subst hWS
        have HKE := Lib.hid hend
        clear hend
        obtain ⟨x0, x1, y0, y1, fx, fy⟩ := HS.out.cells
        cases ok with
        | false =>
          have HZ := Lib.hid (entryL_bad HOK.out.symm)
          go_wp2_with (go_at_call 32; refine (CW.out _).mono ?_; rintro e w2 ⟨rfl, hb2⟩; have H2 := Lib.hid (HS.out.keep hb2); clear hb2 x0 x1 y0 y1 fx fy; obtain ⟨z0, z1, -, -, fz, -⟩ := H2.out.cells)
          exact bodyPost_ret (v := .tuple #[.agg #[.string ⟨#[]⟩, .slice none 0 0], .bool false]) (by simp [results, Tryd.results21, go_sem, z0, z1]) rfl ⟨EntAns.no HZ.out, put2_below H2.out.below (Nat.le_refl _) _ _⟩
        | true =>
          have HZ := Lib.hid (show entryL L = some ⟨W, []⟩ by rw [entryL_good HOK.out.symm, HD.out, HW.out]; rfl)
          go_wp2_with (go_at_call 32; refine (CW.out _).mono ?_; rintro e w2 ⟨rfl, hb2⟩; have H2 := Lib.hid (HS.out.keep hb2); clear hb2 x0 x1 y0 y1 fx fy)
          go_loopg [6, 7, 8] 0 (fun _ i _ _ wy => i = .int .i64 ((k : Int) + 1) ∧ w2 = wy)
          case atStart => exact ⟨rfl, rfl⟩
          case round =>
            obtain ⟨rfl, rfl⟩ := hrel
            obtain ⟨z0, z1, v0, v1, fz, fv⟩ := H2.out.cells
            go_upto_region 19 with fail
            go_region
            go_wp2_with fail
            exact bodyPost_ret (v := .tuple #[.agg #[.string W, .slice none 0 0], .bool true]) (by simp [results, Tryd.results21, go_sem, z0, z1]) rfl ⟨EntAns.yes HZ.out (World.ownsRow_nil _ _ _ _), (put2_below H2.out.below (Nat.le_refl _) _ _).drew⟩
      · -- a slash
        have hlt : (k : Int) < s.size := by omega
        have hks : k < s.size := by omega
        obtain ⟨c, hc, hget⟩ := BYT.out k hks
        have hsl := at47 (show L[(L.takeWhile (· ≠ 47)).length]? = some c by rw [← HP.out]; exact hc)
        subst hsl
        have hgx : (s[k]'hks).toNat = 47 := by rw [hget]; rfl
        have hwr : IntKind.i64.wrap ((k : Int) + 1) = ((k + 1 : Nat) : Int) := by rw [IntWalk.i64_in _ (by omega)]; omega
        have HD := Lib.hid (show L.dropWhile (· ≠ 47) = 47 :: L.drop (k + 1) by
          rw [← (upto47 L).2, ← HP.out, List.drop_eq_getElem_cons (by have := HL.out.2; omega)]
          obtain ⟨h1, h2⟩ := List.getElem?_eq_some_iff.1 hc
          rw [h2])
        clear hc hget hend
        obtain ⟨x0, x1, y0, y1, fx, fy⟩ := HS.out.cells
        cases ok with
        | false =>
          have HZ := Lib.hid (entryL_bad HOK.out.symm)
          go_wp2_with (go_at_call 32; refine (CW.out _).mono ?_; rintro e w2 ⟨rfl, hb2⟩; have H2 := Lib.hid (HS.out.keep hb2); clear hb2 x0 x1 y0 y1 fx fy; obtain ⟨z0, z1, -, -, fz, -⟩ := H2.out.cells)
          exact bodyPost_ret (v := .tuple #[.agg #[.string ⟨#[]⟩, .slice none 0 0], .bool false]) (by simp [results, Tryd.results21, go_sem, z0, z1]) rfl ⟨EntAns.no HZ.out, put2_below H2.out.below (Nat.le_refl _) _ _⟩
        | true =>
          obtain ⟨fs, hfs⟩ : ∃ fs, fs = L.drop (k + 1) := ⟨_, rfl⟩
          have hfl : fs.length + (k + 1) = s.size := by rw [hfs, List.length_drop, HL.out.2]; omega
          have HZ := Lib.hid (show entryL L = if fs = [] then none else (flagsL [] fs).map fun f => ⟨W, f⟩ by
            rw [entryL_good HOK.out.symm, HD.out, HW.out, ← hfs]
            show Option.map _ (if fs = [] then none else flagsL [] fs) = _
            split <;> rfl)
          have FAT := Lib.hid (show ∀ q (h : k + 1 + q < s.size), ∃ c, fs[q]? = some c ∧ s.extract (k + 1 + q) (k + 1 + q + 1) = ⟨#[c]⟩ from fun q h => by
            have hq : q < fs.length := by omega
            refine ⟨fs[q]'hq, List.getElem?_eq_getElem hq, ?_⟩
            rw [ext_ba, ← HL.out.1, ← List.drop_drop, ← hfs, List.drop_eq_getElem_cons hq, show k + 1 + q + 1 - (k + 1 + q) = 1 by omega]
            rfl)
          have HFL := Lib.hid hfl
          clear hfs HD
          go_wp2_with (go_at_call 32; refine (CW.out _).mono ?_; rintro e w2 ⟨rfl, hb2⟩; have H2 := Lib.hid hb2; clear hb2)
          have HS2 := Lib.hid (HS.out.keep H2.out)
          obtain ⟨n, hn⟩ : ∃ n, n = fs.length := ⟨_, rfl⟩
          have HN := Lib.hid hn
          clear x0 x1 y0 y1 fx fy H2 hfl hn
          go_loopg [6, 7, 8] n (fun g i _ _ wr => ∃ (q : Nat) (fv : Value) (acc : List Int), q + g = n ∧ i = .int .i64 ((k + 1 + q : Nat) : Int) ∧ Hid (EB w wr W0.heap.size W fv acc ∧ flagsL [] fs = flagsL acc (fs.drop q) ∧ acc.length = q ∧ ∀ x ∈ acc, 65 ≤ x))
          case atStart => exact ⟨0, _, [], by omega, rfl, Lib.hid ⟨HS2.out, rfl, rfl, fun x h => by cases h⟩⟩
          case round =>
            obtain ⟨q, fv, acc, hq, rfl, HQ⟩ := hrel
            obtain ⟨A, cap, rfl⟩ := own_shape HQ.out.1.row
            obtain ⟨x0, x1, y0, y1, fx, fy⟩ := HQ.out.1.cells
            have hal := HQ.out.2.2.1
            rw [hal] at y1
            have hkj0 : (0 : Int) ≤ ((k + 1 + q : Nat) : Int) := by omega
            have hnb : n ≤ 1000000000 := by have := HN.out; have := HFL.out; omega
            rcases Nat.eq_zero_or_pos gk with h0 | h0
            · have hge : ¬ ((k + 1 + q : Nat) : Int) < s.size := by have := HN.out; have := HFL.out; omega
              have he1 : ((k : Int) == s.size) = false := by simp; omega
              have HF := Lib.hid (show flagsL [] fs = some acc by rw [HQ.out.2.1, List.drop_of_length_le (by have := HN.out; omega)]; rfl)
              have HQE := Lib.hid HQ.out.1
              obtain ⟨j, hj⟩ : ∃ j, j = k + 1 + q := ⟨_, rfl⟩
              rw [← hj] at hge ⊢
              have HAL := Lib.hid hal
              clear HQ hkj0 hj hal
              by_cases hq0 : q = 0
              · subst hq0
                have HZ2 := Lib.hid (show entryL L = none by
                  rw [HZ.out, if_pos]
                  exact List.eq_nil_of_length_eq_zero (by have := HN.out; omega))
                have yy := (put2_cell (w := wr) (H := w.heap.size) (HB := W0.heap.size) (o := 1) (a := .string W) (b := .slice A 0 cap) (by have := HQE.out.lt; omega)).trans y1
                go_upto_region 19 with fail
                go_region
                go_wp2_with fail
                exact bodyPost_ret (v := .tuple #[.agg #[.string W, .slice A 0 cap], .bool false]) (by simp [results, Tryd.results21, go_sem, x0, x1]) rfl ⟨EntAns.no HZ2.out, (put2_below HQE.out.below (Nat.le_refl _) _ _).drew⟩
              · have HZ2 := Lib.hid (show entryL L = some ⟨W, acc⟩ by
                  rw [HZ.out, if_neg, HF.out]
                  · rfl
                  · intro e
                    have := HN.out
                    rw [e] at this
                    simp at this
                    omega)
                have hq1 : (0 : Int) < q := by omega
                have yy := (put2_cell (w := wr) (H := w.heap.size) (HB := W0.heap.size) (o := 1) (a := .string W) (b := .slice A q cap) (by have := HQE.out.lt; omega)).trans y1
                go_upto_region 19 with fail
                go_region
                go_wp2_with fail
                refine bodyPost_ret (v := .tuple #[.agg #[.string W, .slice A q cap], .bool true]) (by simp [results, Tryd.results21, go_sem, x0, x1]; omega) rfl ⟨?_, (put2_below HQE.out.below (Nat.le_refl _) _ _).drew⟩
                have h1 := HAL.out
                subst h1
                exact EntAns.yes HZ2.out (own_less (own_put2 HQE.out.row (by have := HQE.out.lt; omega)).drew (by have := HQE.out.lt; omega))
            · have hqn : k + 1 + q < s.size := by have := HN.out; have := HFL.out; omega
              obtain ⟨c, hfc, hex⟩ := FAT.out q hqn
              have CF := Lib.hid (fun wx => rflag_any (⟨#[c]⟩ : ByteArray) wx (by show 1 ≤ _; omega))
              have hFl := flagL_low c
              have HST := Lib.hid (show flagsL [] fs = if flagL [c] = 0 ∨ flagL [c] ∈ acc then none else flagsL (acc ++ [flagL [c]]) (fs.drop (q + 1)) by
                obtain ⟨h1, h2⟩ := List.getElem?_eq_some_iff.1 hfc
                rw [HQ.out.2.1, List.drop_eq_getElem_cons h1, h2, flagsL_step])
              have HNE := Lib.hid (show fs ≠ [] by rintro rfl; simp at hfc)
              obtain ⟨F, hF⟩ : ∃ F, F = flagL [c] := ⟨_, rfl⟩
              rw [show (⟨#[c]⟩ : ByteArray).data.toList = [c] from rfl, ← hF] at CF
              rw [← hF] at HST hFl
              have HFL2 := Lib.hid hFl
              obtain ⟨j, hj⟩ : ∃ j, j = k + 1 + q := ⟨_, rfl⟩
              rw [← hj] at hex hqn hkj0 ⊢
              have hjw : IntKind.i64.wrap ((j : Int) + 1) = ((j + 1 : Nat) : Int) := by rw [IntWalk.i64_in _ (by omega)]; omega
              have hjlt : (j : Int) < s.size := by omega
              have hj1 : (j : Int) ≤ ((j + 1 : Nat) : Int) := by omega
              have hj2 : ((j + 1 : Nat) : Int) ≤ s.size := by omega
              have HJ := Lib.hid hj
              have HQE := Lib.hid HQ.out.1
              have HQA := Lib.hid HQ.out.2.2.2
              have HAL := Lib.hid hal
              have HQR := Lib.hid (show ∀ t a, acc[t]? = some a → ∃ g, A = some ⟨g, 0, none⟩ ∧ g < wr.heap.size ∧ q ≤ cap ∧ wr.cell? ⟨g, t, none⟩ = some (.int .i64 a) from fun t a ha => by
                have hr := HQ.out.1.row
                rw [hal] at hr
                obtain ⟨g, cp, e, hg, hnc, _, hcell⟩ := own_open9 hr (by have := (List.getElem?_eq_some_iff.1 ha).1; omega)
                injection e with e1 e2 e3
                subst e1 e3
                exact ⟨g, rfl, hg, hnc, hcell t _ (by rw [List.getElem?_map, ha]; rfl)⟩)
              obtain ⟨go, hgo⟩ : ∃ g, g = gk := ⟨_, rfl⟩
              have HGO := Lib.hid hgo
              clear hfc hF hj HQ hal hgo hqn hFl
              go_wp2_with (go_at_call 33; refine (CF.out _).mono ?_; rintro e wx ⟨rfl, hwx⟩; have hwy := hwx.symm; clear hwx; subst hwy)
              go_loopg [7, 8] q (fun g fw jv wy => ∃ (t : Nat) (f : Int), t + g = q ∧ fw = .int .i64 f ∧ jv = .int .i64 t ∧ wr = wy ∧ Hid (f = if F ∈ acc.take t then 0 else F))
              case atStart => exact ⟨0, F, by omega, rfl, rfl, rfl, Lib.hid (by simp)⟩
              case round =>
                obtain ⟨t, f, ht, rfl, rfl, rfl, HT⟩ := hrel
                have ht0 : (0 : Int) ≤ t := by omega
                rcases Nat.eq_zero_or_pos gk with h00 | h00
                · have htq : ¬ (t : Int) < q := by omega
                  have hft := HT.out
                  rw [List.take_of_length_le (by have := HAL.out; omega)] at hft
                  by_cases hz : F = 0 ∨ F ∈ acc
                  · obtain rfl : f = 0 := by
                      rcases hz with h | h
                      · rw [hft, h]; split <;> rfl
                      · rw [hft, if_pos h]
                    have HZ2 := Lib.hid (show entryL L = none by rw [HZ.out, if_neg HNE.out, HST.out, if_pos hz]; rfl)
                    clear hft hz HT
                    go_wp2_with fail
                    exact bodyPost_ret (v := .tuple #[.agg #[.string ⟨#[]⟩, .slice none 0 0], .bool false]) (by simp [results, Tryd.results21, go_sem, x0, x1]) rfl ⟨EntAns.no HZ2.out, put2_below HQE.out.below (Nat.le_refl _) _ _⟩
                  · obtain rfl : f = F := by rw [hft, if_neg fun h => hz (.inr h)]
                    have hf0 : (f == 0) = false := by simp; exact fun h => hz (.inl h)
                    have hf65 : 65 ≤ f := by
                      rcases HFL2.out with h | h
                      · exact absurd (.inl h) hz
                      · exact h
                    have HST2 := Lib.hid (show flagsL [] fs = flagsL (acc ++ [f]) (fs.drop (q + 1)) by rw [HST.out, if_neg hz])
                    have HROW := Lib.hid (show (wr.alloc (.cells #[.int .i64 f] 3)).ownsRow (W0.heap.size + 1) 3 1 (.slice A q cap) q (acc.map (Value.int .i64)) from by
                      have := HQE.out.row.alloc (.cells #[.int .i64 f] 3)
                      rwa [HAL.out] at this)
                    have H65 := Lib.hid hf65
                    clear hft hz HT HST CF hf65
                    go_wp2_with (at_builtin; refine wpList_append_where _ rfl _ _ 31 rfl (W0.heap.size + 1) 3 i1 (.int .i64 0) 1 8 Tryd.underlying31 hi1 hz10 hz11 hz12 rfl (by decide) (.slice A q cap) q (acc.map (Value.int .i64)) rfl HROW.out ⟨wr.heap.size, 0, none⟩ 1 1 [.int .i64 f] rfl rfl (news_row _ _ _) (int_oneY f) (by unfold maxLen; omega) (by omega) (by have := HQE.out.hi; rw [World.size_alloc]; omega) ?_)
                    intro v' w4 hown4 hgrow4 _
                    have hA1 := HAL.out
                    have HE4 := Lib.hid (HQE.out.more (x := f) (by rw [hA1]; exact hown4) (by rw [hA1]; exact hgrow4))
                    obtain ⟨z0, z1, fz⟩ := HQE.out.below2 (by rw [hA1]; exact hgrow4)
                    obtain ⟨A', cap', rfl⟩ := own_shape hown4
                    clear hown4 hgrow4 hA1 x0 x1 y0 y1 fx fy
                    go_wp2_with fail
                    go_roundg (go - 1)
                    case measure => have := HGO.out; omega
                    case rel =>
                      refine ⟨q + 1, _, acc ++ [f], by have := HGO.out; omega, by have := HJ.out; subst this; go_num, Lib.hid ⟨HE4.out, HST2.out, by rw [List.length_append, HAL.out]; rfl, fun x hx => ?_⟩⟩
                      rcases List.mem_append.1 hx with h | h
                      · exact HQA.out x h
                      · rw [List.mem_singleton] at h; rw [h]; exact H65.out
                · have htq : (t : Int) < q := by omega
                  obtain ⟨a, ha⟩ : ∃ a, acc[t]? = some a := ⟨_, List.getElem?_eq_getElem (by have := HAL.out; omega)⟩
                  obtain ⟨g, rfl, hg, hqc, ca⟩ := HQR.out t a ha
                  have ha65 := HQA.out a (List.mem_of_getElem? ha)
                  have htk : acc.take (t + 1) = acc.take t ++ [a] := by
                    obtain ⟨h1, h2⟩ := List.getElem?_eq_some_iff.1 ha
                    rw [List.take_succ_eq_append_getElem h1, h2]
                  by_cases hin : F ∈ acc.take t
                  · obtain rfl : f = 0 := by rw [HT.out, if_pos hin]
                    have ha0 : (a == 0) = false := by simp; omega
                    have HT2 := Lib.hid (show (0 : Int) = if F ∈ acc.take (t + 1) then 0 else F by rw [if_pos (by rw [htk]; exact List.mem_append_left _ hin)])
                    clear hin htk ha HT
                    go_wp2_with fail
                    go_roundg (gk - 1)
                    case measure => omega
                    case rel => exact ⟨t + 1, 0, by omega, rfl, by go_num, rfl, HT2⟩
                  · obtain rfl : f = F := by rw [HT.out, if_neg hin]
                    by_cases haf : a = f
                    · have hd : (a == f) = true := by simpa using haf
                      have HT2 := Lib.hid (show (0 : Int) = if f ∈ acc.take (t + 1) then 0 else f by rw [if_pos (by rw [htk, haf]; simp)])
                      clear hin htk ha HT haf
                      go_wp2_with fail
                      go_roundg (gk - 1)
                      case measure => omega
                      case rel => exact ⟨t + 1, 0, by omega, rfl, by go_num, rfl, HT2⟩
                    · have hd : (a == f) = false := by simpa using haf
                      have HT2 := Lib.hid (show f = if f ∈ acc.take (t + 1) then 0 else f by
                        rw [if_neg]
                        rw [htk]
                        simp only [List.mem_append, List.mem_singleton, not_or]
                        exact ⟨hin, fun e => haf e.symm⟩)
                      clear hin htk ha HT haf
                      go_wp2_with fail
                      go_roundg (gk - 1)
                      case measure => omega
                      case rel => exact ⟨t + 1, f, by omega, rfl, by go_num, rfl, HT2⟩
    · have hlt : (k : Int) < s.size := by omega
      have hks : k < s.size := by omega
      obtain ⟨c, hc, hget⟩ := BYT.out k hks
      have hne := before47 hc (by have := HP.out; omega)
      obtain ⟨x, hx⟩ : ∃ x, x = c.toNat := ⟨_, rfl⟩
      have hgx : (s[k]'hks).toNat = x := by rw [hget, hx]
      have hx47 : ((x : Int) == 47) = false := by
        simp
        intro e
        exact hne (UInt8.toNat_inj.1 ((show c.toNat = 47 by omega).trans rfl))
      clear hc hget hne hx
      go_wp2_with fail
      go_roundg (gk - 1)
      case measure => omega
      case rel => exact ⟨k + 1, by omega, by go_num, rfl⟩
end Go.Proofs.YtmadlappalhmlaaDoor
