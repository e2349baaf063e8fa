/- The document's word of chapter 12 by contract. -/
import Derived.Test.YtcbmfkgekhadkaaGreatDoorZGb
import Derived.Test.YtcbmfkgekhadkaaGreatDoorZGd
import Derived.StillTailTactics
import Derived.Deep.CutRange
import Derived.Deep.DeepCutAuto
import Derived.BigQuiet
import Derived.Deep.WholeRow
import Derived.Great.BuildSlice
import Derived.Laws.ResultCell
import Derived.Test.YtcbmfkgekhadkaaGreatDoorZGa
import Derived.Test.YtcbmfkgekhadkaaGreatDoorZGc
namespace Go.Proofs.YtcbmfkgekhadkaaGreatDoor
section
open Go Go.RowKit Go.Lib

def okBY9 (b : UInt8) : Bool := decide (33 ≤ b.toNat ∧ b ≠ 47 ∧ b ≠ 35)
theorem wordOk_eq (w : List UInt8) : wordOk w = (decide (w ≠ []) && w.all okBY9 && validD w) := rfl
theorem byte_at {s : ByteArray} {k : Nat} (h : k < s.size) : ∃ c, s.data.toList[k]? = some c ∧ s[k]'h = c := by
  have h1 : s.data.toList[k]? = s.data[k]? := Array.getElem?_toList
  have h2 : s.data[k]? = some (s.data[k]'h) := Array.getElem?_eq_getElem h
  exact ⟨_, h1.trans h2, rfl⟩

set_option maxRecDepth 100000 in
set_option maxHeartbeats 1000000 in
theorem eword_any (w : World) (s : ByteArray) (hs : s.size ≤ 1000000000) :
    Calls Tryz.prog 50 #[.string s] w fun e w' => e = .returned (.bool (wordOk s.data.toList)) ∧ Below w.heap.size w w' := by
  have hsl : s.data.toList.length = s.size := (Lib.size_eq s).symm
  obtain ⟨L, hL⟩ : ∃ L, L = s.data.toList := ⟨_, rfl⟩
  obtain ⟨R, hR⟩ : ∃ R, R = wordOk s.data.toList := ⟨_, rfl⟩
  have CV := Lib.hid (rvalid_any s w (by omega))
  rw [← hL] at CV hsl
  rw [← hR]
  have HL := Lib.hid (And.intro hL hsl)
  have HR := Lib.hid (show R = (decide (L ≠ []) && L.all okBY9 && validD L) by rw [hR, hL]; rfl)
  have HE := Lib.hid (show s.toList.isEmpty = decide (L = []) by rw [toL_data, ← hL]; cases L <;> rfl)
  clear hL hsl hR
  go_enter Tryz.func50, Tryz.ntmps50
  go_wp2_with fail
  go_loopg [3] s.size (fun g i wr => ∃ k : Nat, k + g = s.size ∧ i = .int .i64 k ∧ w = wr ∧ Hid (∀ j c, j < k → L[j]? = some c → okBY9 c = true))
  case atStart => exact ⟨0, by omega, rfl, rfl, Lib.hid fun j c hj => absurd hj (Nat.not_lt_zero _)⟩
  case round =>
    obtain ⟨k, hk, rfl, rfl, HK⟩ := hrel
    have hk0 : (0 : Int) ≤ k := by omega
    rcases Nat.eq_zero_or_pos gk with h0 | h0
    · have hkn : ¬ (k : Int) < s.size := by omega
      have hall : L.all okBY9 = true := by
        rw [List.all_eq_true]
        intro c hc
        obtain ⟨j, hj, hje⟩ := List.getElem_of_mem hc
        exact HK.out j c (by have := HL.out.2; omega) (by rw [List.getElem?_eq_getElem hj, hje])
      by_cases hz : L = []
      · have hR0 : R = false := by rw [HR.out, hz]; rfl
        subst hR0
        have he : s.toList.isEmpty = true := by rw [HE.out]; exact decide_eq_true hz
        clear hz hall
        go_wp2_with fail
        go_ret
        exact ⟨rfl, Below.refl _ _⟩
      · have hR1 : R = validD L := by rw [HR.out, hall, decide_eq_true (p := L ≠ []) hz]; simp
        rw [← hR1] at CV
        have he : s.toList.isEmpty = false := by rw [HE.out]; exact decide_eq_false hz
        clear hz hall hR1
        go_wp2_with (go_at_call 59; refine CV.out.mono ?_; rintro e w2 ⟨rfl, hb⟩; have HB := Lib.hid hb; clear hb)
        go_ret
        exact ⟨rfl, HB.out⟩
    · have hkn : (k : Int) < s.size := by omega
      have hks : k < s.size := by omega
      obtain ⟨c, hc, hget⟩ := byte_at hks
      rw [← HL.out.1] at hc
      obtain ⟨x, hx⟩ : ∃ x, x = c.toNat := ⟨_, rfl⟩
      have hgx : (s[k]'hks).toNat = x := by rw [hget, hx]
      have HC := Lib.hid hc
      have NO := Lib.hid (show okBY9 c = false → R = false from fun h => by
        have h2 : L.all okBY9 = false := by
          rw [List.all_eq_false]
          exact ⟨c, List.mem_of_getElem? hc, by rw [h]; decide⟩
        rw [HR.out, h2]; simp)
      have OK := Lib.hid (show okBY9 c = decide (33 ≤ x ∧ x ≠ 47 ∧ x ≠ 35) by
        unfold okBY9
        rw [hx]
        exact decide_eq_decide.2 ⟨fun h => ⟨h.1, fun e => h.2.1 (UInt8.toNat_inj.1 e), fun e => h.2.2 (UInt8.toNat_inj.1 e)⟩, fun h => ⟨h.1, fun e => h.2.1 (by rw [e]; rfl), fun e => h.2.2 (by rw [e]; rfl)⟩⟩)
      clear hget hc hx
      by_cases c1 : x < 33
      · have hR0 : R = false := NO.out (by rw [OK.out]; exact decide_eq_false (by omega))
        subst hR0
        have d1 : (x : Int) < 33 := by omega
        go_wp2_with fail
        go_ret
        exact ⟨rfl, Below.refl _ _⟩
      have d1 : ¬ (x : Int) < 33 := by omega
      by_cases c2 : x = 47
      · have hR0 : R = false := NO.out (by rw [OK.out]; exact decide_eq_false (by omega))
        subst hR0
        have d2 : ((x : Int) == 47) = true := by simp; omega
        clear c2
        go_wp2_with fail
        go_ret
        exact ⟨rfl, Below.refl _ _⟩
      have d2 : ((x : Int) == 47) = false := by simp; omega
      by_cases c3 : x = 35
      · have hR0 : R = false := NO.out (by rw [OK.out]; exact decide_eq_false (by omega))
        subst hR0
        have d3 : ((x : Int) == 35) = true := by simp; omega
        clear c3
        go_wp2_with fail
        go_ret
        exact ⟨rfl, Below.refl _ _⟩
      have d3 : ((x : Int) == 35) = false := by simp; omega
      have HK2 := Lib.hid (show ∀ j c, j < k + 1 → L[j]? = some c → okBY9 c = true from fun j c' hj hj' => by
        rcases Nat.lt_or_ge j k with h | h
        · exact HK.out j c' h hj'
        · obtain rfl : j = k := by omega
          rw [HC.out] at hj'
          rw [← Option.some.inj hj', OK.out]
          exact decide_eq_true (by omega))
      clear c1 c2 c3
      go_wp2_with fail
      go_roundg (gk - 1)
      case measure => omega
      case rel => exact ⟨k + 1, by omega, by go_num, rfl, HK2⟩
end
section
open Go Go.RowKit Go.Lib

/-- The result's box, the entry's box, the flags' row behind them. -/
structure EB (w wr : World) (HB : Nat) (W : ByteArray) (fv : Value) (acc : List Int) : Prop where
  res : wr.heap[w.heap.size]? = some (.cells #[.string ⟨#[]⟩, .slice none 0 0] 25 (0, 0))
  box : wr.heap[HB]? = some (.cells #[.string W, fv] 25 (0, 0))
  row : wr.ownsRow (HB + 1) 3 1 fv acc.length (acc.map (Value.int .i64))
  lt : w.heap.size < HB
  below : Below w.heap.size w wr
theorem EB.cells {w wr : World} {HB : Nat} {W : ByteArray} {fv : Value} {acc : List Int} (h : EB w wr HB W fv acc) :
    wr.cell? ⟨w.heap.size, 0, none⟩ = some (.string ⟨#[]⟩) ∧ wr.cell? ⟨w.heap.size, 1, none⟩ = some (.slice none 0 0) ∧ wr.cell? ⟨HB, 0, none⟩ = some (.string W) ∧ wr.cell? ⟨HB, 1, none⟩ = some fv ∧ (∀ o, wr.frozen? ⟨w.heap.size, o, none⟩ = false) ∧ ∀ o, wr.frozen? ⟨HB, o, none⟩ = false := by
  refine ⟨?_, ?_, ?_, ?_, fun o => ?_, fun o => ?_⟩ <;> simp [World.cell?, World.frozen?, h.res, h.box]
theorem EB.start (w : World) (W : ByteArray) : EB w ((w.alloc (.cells #[.string ⟨#[]⟩, .slice none 0 0] 25)).alloc (.cells #[.string W, .slice none 0 0] 25)) (w.alloc (.cells #[.string ⟨#[]⟩, .slice none 0 0] 25)).heap.size W (.slice none 0 0) [] :=
  ⟨(Below.heap_alloc _ _ _ (by rw [World.size_alloc]; omega)).trans (World.alloc_heap_new _ _), World.alloc_heap_new _ _, World.ownsRow_nil _ _ _ _, by rw [World.size_alloc]; omega, ((Below.refl _ _).alloc (Nat.le_refl _) _).alloc (by rw [World.size_alloc]; omega) _⟩
theorem EB.hi {w wr : World} {HB : Nat} {W : ByteArray} {fv : Value} {acc : List Int} (h : EB w wr HB W fv acc) : HB + 1 ≤ wr.heap.size := (Array.getElem?_eq_some_iff.1 h.box).1
theorem EB.drewN {w wr : World} {HB : Nat} {W : ByteArray} {fv : Value} {acc : List Int} (h : EB w wr HB W fv acc) (n : Nat) : EB w (wr.drewN n) HB W fv acc := by
  have hb := below_drewN (Below.refl wr.heap.size wr) n
  exact ⟨(hb.block _ (Array.getElem?_eq_some_iff.1 h.res).1).trans h.res, (hb.block _ h.hi).trans h.box, own_keep9 h.row hb, h.lt, below_drewN h.below n⟩
theorem EB.keep {w wr w' : World} {HB : Nat} {W : ByteArray} {fv : Value} {acc : List Int} (h : EB w wr HB W fv acc) (hb : Below wr.heap.size wr w') : EB w w' HB W fv acc :=
  ⟨(hb.block _ (Array.getElem?_eq_some_iff.1 h.res).1).trans h.res, (hb.block _ h.hi).trans h.box, own_keep9 h.row hb, h.lt, h.below.trans (hb.mono h.below.size)⟩
theorem EB.more {w wr w4 : World} {HB : Nat} {W : ByteArray} {fv fv' : Value} {acc : List Int} {x : Int} {o : Obj} (h : EB w wr HB W fv acc)
    (hown : w4.ownsRow (HB + 1) 3 1 fv' (acc.length + 1) (acc.map (Value.int .i64) ++ [.int .i64 x])) (hg : (wr.alloc o).grownBy w4 fv.ownBlock) : EB w (w4.setCell ⟨HB, 1, none⟩ fv') HB W fv' (acc ++ [x]) := by
  have hlo : ∀ g, fv.ownBlock = some g → HB + 1 ≤ g := fun g hg => (h.row.lt g hg).1
  have key : ∀ k, k ≤ HB → w4.heap[k]? = wr.heap[k]? := fun k hk => by
    have := h.hi
    exact (hg.block k (by rw [World.size_alloc]; omega) (fun e => by have := hlo k e.symm; omega)).trans (Below.heap_alloc _ _ _ (by omega))
  have hlt := h.lt
  refine ⟨(set_other _ _ _ _ (by omega)).trans ((key _ (by omega)).trans h.res), ?_, ?_, h.lt, ?_⟩
  · have hb4 := (key HB (Nat.le_refl _)).trans h.box
    simp [World.setCell, Array.getElem?_modify, hb4]
  · rw [List.length_append, List.map_append]
    exact own_blk hown fun g hgr => set_other _ _ _ _ (by have := (hown.lt g hgr).1; omega)
  · have hsz := h.hi
    exact ((h.below.alloc h.below.size o).grown hg (h.below.alloc h.below.size o).size (fun k hk => by have := hlo k hk; omega)).setCell (p := ⟨HB, 1, none⟩) (by show w.heap.size ≤ HB; omega) _
theorem EB.below2 {w wr w4 : World} {HB : Nat} {W : ByteArray} {fv : Value} {acc : List Int} {o : Obj} (h : EB w wr HB W fv acc) (hg : (wr.alloc o).grownBy w4 fv.ownBlock) :
    w4.cell? ⟨HB, 0, none⟩ = some (.string W) ∧ w4.cell? ⟨HB, 1, none⟩ = some fv ∧ ∀ o, w4.frozen? ⟨HB, o, none⟩ = false := by
  have hlo : ∀ g, fv.ownBlock = some g → HB + 1 ≤ g := fun g hg => (h.row.lt g hg).1
  have hsz := h.hi
  have hb4 := ((hg.block HB (by rw [World.size_alloc]; omega) (fun e => by have := hlo HB e.symm; omega)).trans (Below.heap_alloc _ _ _ (by omega))).trans h.box
  refine ⟨?_, ?_, fun o => ?_⟩ <;> simp [World.cell?, World.frozen?, hb4]
/-- A line up to its slash. -/
theorem upto47 (L : List UInt8) : L.take (L.takeWhile (· ≠ 47)).length = L.takeWhile (· ≠ 47) ∧ L.drop (L.takeWhile (· ≠ 47)).length = L.dropWhile (· ≠ 47) := by
  have h : L.takeWhile (· ≠ 47) ++ L.dropWhile (· ≠ 47) = L := List.takeWhile_append_dropWhile
  constructor
  · conv => lhs; arg 2; rw [← h]
    rw [List.take_left]
  · conv => lhs; arg 2; rw [← h]
    rw [List.drop_left]
theorem before47 {L : List UInt8} {k : Nat} {c : UInt8} (h : L[k]? = some c) (hk : k < (L.takeWhile (· ≠ 47)).length) : c ≠ 47 := by
  have h1 : (L.takeWhile (· ≠ 47))[k]? = some c := by
    rw [← (upto47 L).1, List.getElem?_take, if_pos hk]; exact h
  have key : ∀ (l : List UInt8) x, x ∈ l.takeWhile (fun y => decide (y ≠ 47)) → x ≠ 47 := by
    intro l
    induction l with
    | nil => intro x hx; cases hx
    | cons y l ih =>
      intro x hx
      rw [List.takeWhile_cons] at hx
      by_cases hy : decide (y ≠ 47) = true
      · rw [if_pos hy] at hx
        rcases List.mem_cons.1 hx with rfl | hx
        · simpa using hy
        · exact ih x hx
      · rw [if_neg hy] at hx; cases hx
  exact key L c (List.mem_of_getElem? h1)
theorem at47 {L : List UInt8} {c : UInt8} (h : L[(L.takeWhile (· ≠ 47)).length]? = some c) : c = 47 := by
  have h1 : (L.dropWhile (· ≠ 47)).head? = some c := by
    rw [← (upto47 L).2, List.head?_drop]; exact h
  have h2 := List.head?_dropWhile_not (p := fun x : UInt8 => decide (x ≠ 47)) L
  rw [h1] at h2
  simpa using h2
theorem flagsL_nil (acc : List Int) : flagsL acc [] = some acc := rfl
theorem flagsL_step (acc : List Int) (b : UInt8) (r : List UInt8) : flagsL acc (b :: r) = if flagL [b] = 0 ∨ flagL [b] ∈ acc then none else flagsL (acc ++ [flagL [b]]) r := by
  show (if isLet b = true ∧ (b.toNat : Int) ∉ acc then _ else _) = _
  rw [flagL_one]
  unfold isLet
  by_cases h : (97 ≤ b.toNat ∧ b.toNat ≤ 122) ∨ (65 ≤ b.toNat ∧ b.toNat ≤ 90)
  · rw [if_pos h, decide_eq_true h]
    by_cases h2 : (b.toNat : Int) ∈ acc
    · rw [if_neg (by simp [h2]), if_pos (.inr h2)]
    · rw [if_pos ⟨rfl, h2⟩, if_neg (by rintro (e | e); omega; exact h2 e)]
  · rw [if_neg h, decide_eq_false h, if_neg (by simp), if_pos (.inl rfl)]
theorem flagL_low (b : UInt8) : flagL [b] = 0 ∨ 65 ≤ flagL [b] := by
  rw [flagL_one]
  by_cases h : (97 ≤ b.toNat ∧ b.toNat ≤ 122) ∨ (65 ≤ b.toNat ∧ b.toNat ≤ 90)
  · rw [if_pos h]; omega
  · rw [if_neg h]; omega
theorem entryL_bad {L : List UInt8} (h : wordOk (L.takeWhile (· ≠ 47)) = false) : entryL L = none := by
  unfold entryL
  rw [h, if_neg (by decide)]
theorem entryL_good {L : List UInt8} (h : wordOk (L.takeWhile (· ≠ 47)) = true) : entryL L = (flagsO (L.dropWhile (· ≠ 47))).map fun f => ⟨⟨(L.takeWhile (· ≠ 47)).toArray⟩, f⟩ := by
  unfold entryL
  rw [if_pos h]

set_option maxRecDepth 100000 in
set_option maxHeartbeats 4000000 in
theorem eentry_any (w : World) (s : ByteArray) (hs : s.size ≤ 1000000000) :
    Calls Tryz.prog 31 #[.string s] w fun e w' => EntAns w.heap.size s.data.toList e w' ∧ Below w.heap.size w w' := by
  have hsl : s.data.toList.length = s.size := (Lib.size_eq s).symm
  obtain ⟨L, hL⟩ : ∃ L, L = s.data.toList := ⟨_, rfl⟩
  rw [← hL] at hsl ⊢
  obtain ⟨p, hp⟩ : ∃ p, p = (L.takeWhile (· ≠ 47)).length := ⟨_, rfl⟩
  have hps : p ≤ s.size := by
    have := congrArg List.length (upto47 L).1
    rw [List.length_take] at this
    omega
  obtain ⟨W, hW⟩ : ∃ W, W = s.extract 0 p := ⟨_, rfl⟩
  have hWl : W.data.toList = L.takeWhile (· ≠ 47) := by
    rw [hW, ext_list, ← hL, List.drop_zero, Nat.sub_zero, hp, (upto47 L).1]
  have hWs : W.size ≤ 1000000000 := by
    rw [Lib.size_eq, hWl]; omega
  have CW := Lib.hid (fun wx => eword_any wx W hWs)
  rw [hWl] at CW
  have HW := Lib.hid (show (⟨(L.takeWhile (· ≠ 47)).toArray⟩ : ByteArray) = W by rw [← hWl, ba_list])
  have HL := Lib.hid (And.intro hL hsl)
  have HP := Lib.hid hp
  have hx : s.extract 0 p = W := hW.symm
  obtain ⟨ok, hok⟩ : ∃ ok, ok = wordOk (L.takeWhile (· ≠ 47)) := ⟨_, rfl⟩
  rw [← hok] at CW
  have HOK := Lib.hid hok
  obtain ⟨W0, hW0⟩ : ∃ W0, W0 = w.alloc (.cells #[.string ⟨#[]⟩, .slice none 0 0] 25) := ⟨_, rfl⟩
  have hb0 : Below w.heap.size w W0 := by rw [hW0]; exact (Below.refl _ _).alloc (Nat.le_refl _) _
  have HB0 := Lib.hid hb0
  have HS := Lib.hid (show EB w (W0.alloc (.cells #[.string W, .slice none 0 0] 25)) W0.heap.size W (.slice none 0 0) [] from hW0 ▸ EB.start w W)
  have HW0 := Lib.hid hW0
  obtain ⟨i1, hi1, hz10, hz11, hz12⟩ := info_parts Tryz.infosY3
  have BYT := Lib.hid (show ∀ k (h : k < s.size), ∃ c, L[k]? = some c ∧ s[k]'h = c from fun k h => by rw [hL]; exact byte_at h)
  have p0 : (0 : Int) ≤ p := by omega
  have p1 : (p : Int) ≤ s.size := by omega
  clear hL hsl hp hW hWl hWs hok hb0
  go_enter Tryz.func31, Tryz.ntmps31
  go_upto_region 1 with fail
  rw [← HW0.out]
  clear hW0
  go_wp2_with fail
  go_loopg [4] p (fun g i wr => ∃ k : Nat, k + g = p ∧ i = .int .i64 k ∧ W0 = wr)
  case atStart => exact ⟨0, by omega, rfl, rfl⟩
  case round =>
    obtain ⟨k, hk, rfl, rfl⟩ := hrel
    have hk0 : (0 : Int) ≤ k := by omega
    rcases Nat.eq_zero_or_pos gk with h0 | h0
    · obtain rfl : k = p := by omega
      by_cases hend : k = s.size
      · -- no slash
        have hlt : ¬ (k : Int) < s.size := by omega
        have he1 : ((k : Int) == s.size) = true := by simp; omega
        have hlt2 : ¬ (k : Int) + 1 < s.size := by omega
        have hwr : IntKind.i64.wrap ((k : Int) + 1) = ((k : Int) + 1) := IntWalk.i64_in _ (by omega)
        have HD := Lib.hid (show L.dropWhile (· ≠ 47) = [] by
          rw [← (upto47 L).2, List.drop_of_length_le (by have := HP.out; have := HL.out.2; omega)])
        have hWS : W = s := by rw [← hx, hend, ext_ba, List.drop_zero, Nat.sub_zero, List.take_of_length_le (by rw [Lib.size_eq]; exact Nat.le_refl _), ba_list]
        subst hWS
        have HKE := Lib.hid hend
        clear hend
        obtain ⟨x0, x1, y0, y1, fx, fy⟩ := HS.out.cells
        cases ok with
        | false =>
          have HZ := Lib.hid (entryL_bad HOK.out.symm)
          go_wp2_with (go_at_call 50; refine (CW.out _).mono ?_; rintro e w2 ⟨rfl, hb2⟩; have H2 := Lib.hid (HS.out.keep hb2); clear hb2 x0 x1 y0 y1 fx fy; obtain ⟨z0, z1, -, -, fz, -⟩ := H2.out.cells)
          exact bodyPost_ret (v := .tuple #[.agg #[.string ⟨#[]⟩, .slice none 0 0], .bool false]) (by simp [results, Tryz.results31, go_sem, z0, z1]) rfl ⟨EntAns.no HZ.out, put2_below H2.out.below (Nat.le_refl _) _ _⟩
        | true =>
          have HZ := Lib.hid (show entryL L = some ⟨W, []⟩ by rw [entryL_good HOK.out.symm, HD.out, HW.out]; rfl)
          go_wp2_with (go_at_call 50; refine (CW.out _).mono ?_; rintro e w2 ⟨rfl, hb2⟩; have H2 := Lib.hid (HS.out.keep hb2); clear hb2 x0 x1 y0 y1 fx fy)
          go_loopg [6, 7, 8] 0 (fun _ i _ _ wy => i = .int .i64 ((k : Int) + 1) ∧ w2 = wy)
          case atStart => exact ⟨rfl, rfl⟩
          case round =>
            obtain ⟨rfl, rfl⟩ := hrel
            obtain ⟨z0, z1, v0, v1, fz, fv⟩ := H2.out.cells
            go_upto_region 19 with fail
            go_region
            go_wp2_with fail
            exact bodyPost_ret (v := .tuple #[.agg #[.string W, .slice none 0 0], .bool true]) (by simp [results, Tryz.results31, go_sem, z0, z1]) rfl ⟨EntAns.yes HZ.out (World.ownsRow_nil _ _ _ _), (put2_below H2.out.below (Nat.le_refl _) _ _).drew⟩
      · -- a slash
        have hlt : (k : Int) < s.size := by omega
        have hks : k < s.size := by omega
        obtain ⟨c, hc, hget⟩ := BYT.out k hks
        have hsl := at47 (show L[(L.takeWhile (· ≠ 47)).length]? = some c by rw [← HP.out]; exact hc)
        subst hsl
        have hgx : (s[k]'hks).toNat = 47 := by rw [hget]; rfl
        have hwr : IntKind.i64.wrap ((k : Int) + 1) = ((k + 1 : Nat) : Int) := by rw [IntWalk.i64_in _ (by omega)]; omega
        have HD := Lib.hid (show L.dropWhile (· ≠ 47) = 47 :: L.drop (k + 1) by
          rw [← (upto47 L).2, ← HP.out, List.drop_eq_getElem_cons (by have := HL.out.2; omega)]
          obtain ⟨h1, h2⟩ := List.getElem?_eq_some_iff.1 hc
          rw [h2])
        clear hc hget hend
        obtain ⟨x0, x1, y0, y1, fx, fy⟩ := HS.out.cells
        cases ok with
        | false =>
          have HZ := Lib.hid (entryL_bad HOK.out.symm)
          go_wp2_with (go_at_call 50; refine (CW.out _).mono ?_; rintro e w2 ⟨rfl, hb2⟩; have H2 := Lib.hid (HS.out.keep hb2); clear hb2 x0 x1 y0 y1 fx fy; obtain ⟨z0, z1, -, -, fz, -⟩ := H2.out.cells)
          exact bodyPost_ret (v := .tuple #[.agg #[.string ⟨#[]⟩, .slice none 0 0], .bool false]) (by simp [results, Tryz.results31, go_sem, z0, z1]) rfl ⟨EntAns.no HZ.out, put2_below H2.out.below (Nat.le_refl _) _ _⟩
        | true =>
          obtain ⟨fs, hfs⟩ : ∃ fs, fs = L.drop (k + 1) := ⟨_, rfl⟩
          have hfl : fs.length + (k + 1) = s.size := by rw [hfs, List.length_drop, HL.out.2]; omega
          have HZ := Lib.hid (show entryL L = if fs = [] then none else (flagsL [] fs).map fun f => ⟨W, f⟩ by
            rw [entryL_good HOK.out.symm, HD.out, HW.out, ← hfs]
            show Option.map _ (if fs = [] then none else flagsL [] fs) = _
            split <;> rfl)
          have FAT := Lib.hid (show ∀ q (h : k + 1 + q < s.size), ∃ c, fs[q]? = some c ∧ s.extract (k + 1 + q) (k + 1 + q + 1) = ⟨#[c]⟩ from fun q h => by
            have hq : q < fs.length := by omega
            refine ⟨fs[q]'hq, List.getElem?_eq_getElem hq, ?_⟩
            rw [ext_ba, ← HL.out.1, ← List.drop_drop, ← hfs, List.drop_eq_getElem_cons hq, show k + 1 + q + 1 - (k + 1 + q) = 1 by omega]
            rfl)
          have HFL := Lib.hid hfl
          clear hfs HD
          go_wp2_with (go_at_call 50; refine (CW.out _).mono ?_; rintro e w2 ⟨rfl, hb2⟩; have H2 := Lib.hid hb2; clear hb2)
          have HS2 := Lib.hid (HS.out.keep H2.out)
          obtain ⟨n, hn⟩ : ∃ n, n = fs.length := ⟨_, rfl⟩
          have HN := Lib.hid hn
          clear x0 x1 y0 y1 fx fy H2 hfl hn
          go_loopg [6, 7, 8] n (fun g i _ _ wr => ∃ (q : Nat) (fv : Value) (acc : List Int), q + g = n ∧ i = .int .i64 ((k + 1 + q : Nat) : Int) ∧ Hid (EB w wr W0.heap.size W fv acc ∧ flagsL [] fs = flagsL acc (fs.drop q) ∧ acc.length = q ∧ ∀ x ∈ acc, 65 ≤ x))
          case atStart => exact ⟨0, _, [], by omega, rfl, Lib.hid ⟨HS2.out, rfl, rfl, fun x h => by cases h⟩⟩
          case round =>
            obtain ⟨q, fv, acc, hq, rfl, HQ⟩ := hrel
            obtain ⟨A, cap, rfl⟩ := own_shape HQ.out.1.row
            obtain ⟨x0, x1, y0, y1, fx, fy⟩ := HQ.out.1.cells
            have hal := HQ.out.2.2.1
            rw [hal] at y1
            have hkj0 : (0 : Int) ≤ ((k + 1 + q : Nat) : Int) := by omega
            have hnb : n ≤ 1000000000 := by have := HN.out; have := HFL.out; omega
            rcases Nat.eq_zero_or_pos gk with h0 | h0
            · have hge : ¬ ((k + 1 + q : Nat) : Int) < s.size := by have := HN.out; have := HFL.out; omega
              have he1 : ((k : Int) == s.size) = false := by simp; omega
              have HF := Lib.hid (show flagsL [] fs = some acc by rw [HQ.out.2.1, List.drop_of_length_le (by have := HN.out; omega)]; rfl)
              have HQE := Lib.hid HQ.out.1
              obtain ⟨j, hj⟩ : ∃ j, j = k + 1 + q := ⟨_, rfl⟩
              rw [← hj] at hge ⊢
              have HAL := Lib.hid hal
              clear HQ hkj0 hj hal
              by_cases hq0 : q = 0
              · subst hq0
                have HZ2 := Lib.hid (show entryL L = none by
                  rw [HZ.out, if_pos]
                  exact List.eq_nil_of_length_eq_zero (by have := HN.out; omega))
                have yy := (put2_cell (w := wr) (H := w.heap.size) (HB := W0.heap.size) (o := 1) (a := .string W) (b := .slice A 0 cap) (by have := HQE.out.lt; omega)).trans y1
                go_upto_region 19 with fail
                go_region
                go_wp2_with fail
                exact bodyPost_ret (v := .tuple #[.agg #[.string W, .slice A 0 cap], .bool false]) (by simp [results, Tryz.results31, go_sem, x0, x1]) rfl ⟨EntAns.no HZ2.out, (put2_below HQE.out.below (Nat.le_refl _) _ _).drew⟩
              · have HZ2 := Lib.hid (show entryL L = some ⟨W, acc⟩ by
                  rw [HZ.out, if_neg, HF.out]
                  · rfl
                  · intro e
                    have := HN.out
                    rw [e] at this
                    simp at this
                    omega)
                have hq1 : (0 : Int) < q := by omega
                have yy := (put2_cell (w := wr) (H := w.heap.size) (HB := W0.heap.size) (o := 1) (a := .string W) (b := .slice A q cap) (by have := HQE.out.lt; omega)).trans y1
                go_upto_region 19 with fail
                go_region
                go_wp2_with fail
                refine bodyPost_ret (v := .tuple #[.agg #[.string W, .slice A q cap], .bool true]) (by simp [results, Tryz.results31, go_sem, x0, x1]; omega) rfl ⟨?_, (put2_below HQE.out.below (Nat.le_refl _) _ _).drew⟩
                have h1 := HAL.out
                subst h1
                exact EntAns.yes HZ2.out (own_less (own_put2 HQE.out.row (by have := HQE.out.lt; omega)).drew (by have := HQE.out.lt; omega))
            · have hqn : k + 1 + q < s.size := by have := HN.out; have := HFL.out; omega
              obtain ⟨c, hfc, hex⟩ := FAT.out q hqn
              have CF := Lib.hid (fun wx => rflag_any (⟨#[c]⟩ : ByteArray) wx (by show 1 ≤ _; omega))
              have hFl := flagL_low c
              have HST := Lib.hid (show flagsL [] fs = if flagL [c] = 0 ∨ flagL [c] ∈ acc then none else flagsL (acc ++ [flagL [c]]) (fs.drop (q + 1)) by
                obtain ⟨h1, h2⟩ := List.getElem?_eq_some_iff.1 hfc
                rw [HQ.out.2.1, List.drop_eq_getElem_cons h1, h2, flagsL_step])
              have HNE := Lib.hid (show fs ≠ [] by rintro rfl; simp at hfc)
              obtain ⟨F, hF⟩ : ∃ F, F = flagL [c] := ⟨_, rfl⟩
              rw [show (⟨#[c]⟩ : ByteArray).data.toList = [c] from rfl, ← hF] at CF
              rw [← hF] at HST hFl
              have HFL2 := Lib.hid hFl
              obtain ⟨j, hj⟩ : ∃ j, j = k + 1 + q := ⟨_, rfl⟩
              rw [← hj] at hex hqn hkj0 ⊢
              have hjw : IntKind.i64.wrap ((j : Int) + 1) = ((j + 1 : Nat) : Int) := by rw [IntWalk.i64_in _ (by omega)]; omega
              have hjlt : (j : Int) < s.size := by omega
              have hj1 : (j : Int) ≤ ((j + 1 : Nat) : Int) := by omega
              have hj2 : ((j + 1 : Nat) : Int) ≤ s.size := by omega
              have HJ := Lib.hid hj
              have HQE := Lib.hid HQ.out.1
              have HQA := Lib.hid HQ.out.2.2.2
              have HAL := Lib.hid hal
              have HQR := Lib.hid (show ∀ t a, acc[t]? = some a → ∃ g, A = some ⟨g, 0, none⟩ ∧ g < wr.heap.size ∧ q ≤ cap ∧ wr.cell? ⟨g, t, none⟩ = some (.int .i64 a) from fun t a ha => by
                have hr := HQ.out.1.row
                rw [hal] at hr
                obtain ⟨g, cp, e, hg, hnc, _, hcell⟩ := own_open9 hr (by have := (List.getElem?_eq_some_iff.1 ha).1; omega)
                injection e with e1 e2 e3
                subst e1 e3
                exact ⟨g, rfl, hg, hnc, hcell t _ (by rw [List.getElem?_map, ha]; rfl)⟩)
              obtain ⟨go, hgo⟩ : ∃ g, g = gk := ⟨_, rfl⟩
              have HGO := Lib.hid hgo
              clear hfc hF hj HQ hal hgo hqn hFl
              go_wp2_with (go_at_call 35; refine (CF.out _).mono ?_; rintro e wx ⟨rfl, hwx⟩; have hwy := hwx.symm; clear hwx; subst hwy)
              go_loopg [7, 8] q (fun g fw jv wy => ∃ (t : Nat) (f : Int), t + g = q ∧ fw = .int .i64 f ∧ jv = .int .i64 t ∧ wr = wy ∧ Hid (f = if F ∈ acc.take t then 0 else F))
              case atStart => exact ⟨0, F, by omega, rfl, rfl, rfl, Lib.hid (by simp)⟩
              case round =>
                obtain ⟨t, f, ht, rfl, rfl, rfl, HT⟩ := hrel
                have ht0 : (0 : Int) ≤ t := by omega
                rcases Nat.eq_zero_or_pos gk with h00 | h00
                · have htq : ¬ (t : Int) < q := by omega
                  have hft := HT.out
                  rw [List.take_of_length_le (by have := HAL.out; omega)] at hft
                  by_cases hz : F = 0 ∨ F ∈ acc
                  · obtain rfl : f = 0 := by
                      rcases hz with h | h
                      · rw [hft, h]; split <;> rfl
                      · rw [hft, if_pos h]
                    have HZ2 := Lib.hid (show entryL L = none by rw [HZ.out, if_neg HNE.out, HST.out, if_pos hz]; rfl)
                    clear hft hz HT
                    go_wp2_with fail
                    exact bodyPost_ret (v := .tuple #[.agg #[.string ⟨#[]⟩, .slice none 0 0], .bool false]) (by simp [results, Tryz.results31, go_sem, x0, x1]) rfl ⟨EntAns.no HZ2.out, put2_below HQE.out.below (Nat.le_refl _) _ _⟩
                  · obtain rfl : f = F := by rw [hft, if_neg fun h => hz (.inr h)]
                    have hf0 : (f == 0) = false := by simp; exact fun h => hz (.inl h)
                    have hf65 : 65 ≤ f := by
                      rcases HFL2.out with h | h
                      · exact absurd (.inl h) hz
                      · exact h
                    have HST2 := Lib.hid (show flagsL [] fs = flagsL (acc ++ [f]) (fs.drop (q + 1)) by rw [HST.out, if_neg hz])
                    have HROW := Lib.hid (show (wr.alloc (.cells #[.int .i64 f] 3)).ownsRow (W0.heap.size + 1) 3 1 (.slice A q cap) q (acc.map (Value.int .i64)) from by
                      have := HQE.out.row.alloc (.cells #[.int .i64 f] 3)
                      rwa [HAL.out] at this)
                    have H65 := Lib.hid hf65
                    clear hft hz HT HST CF hf65
                    go_wp2_with (at_builtin; refine wpList_append_where _ rfl _ _ 23 rfl (W0.heap.size + 1) 3 i1 (.int .i64 0) 1 8 Tryz.underlying23 hi1 hz10 hz11 hz12 rfl (by decide) (.slice A q cap) q (acc.map (Value.int .i64)) rfl HROW.out ⟨wr.heap.size, 0, none⟩ 1 1 [.int .i64 f] rfl rfl (news_row _ _ _) (int_oneY f) (by unfold maxLen; omega) (by omega) (by have := HQE.out.hi; rw [World.size_alloc]; omega) ?_)
                    intro v' w4 hown4 hgrow4 _
                    have hA1 := HAL.out
                    have HE4 := Lib.hid (HQE.out.more (x := f) (by rw [hA1]; exact hown4) (by rw [hA1]; exact hgrow4))
                    obtain ⟨z0, z1, fz⟩ := HQE.out.below2 (by rw [hA1]; exact hgrow4)
                    obtain ⟨A', cap', rfl⟩ := own_shape hown4
                    clear hown4 hgrow4 hA1 x0 x1 y0 y1 fx fy
                    go_wp2_with fail
                    go_roundg (go - 1)
                    case measure => have := HGO.out; omega
                    case rel =>
                      refine ⟨q + 1, _, acc ++ [f], by have := HGO.out; omega, by have := HJ.out; subst this; go_num, Lib.hid ⟨HE4.out, HST2.out, by rw [List.length_append, HAL.out]; rfl, fun x hx => ?_⟩⟩
                      rcases List.mem_append.1 hx with h | h
                      · exact HQA.out x h
                      · rw [List.mem_singleton] at h; rw [h]; exact H65.out
                · have htq : (t : Int) < q := by omega
                  obtain ⟨a, ha⟩ : ∃ a, acc[t]? = some a := ⟨_, List.getElem?_eq_getElem (by have := HAL.out; omega)⟩
                  obtain ⟨g, rfl, hg, hqc, ca⟩ := HQR.out t a ha
                  have ha65 := HQA.out a (List.mem_of_getElem? ha)
                  have htk : acc.take (t + 1) = acc.take t ++ [a] := by
                    obtain ⟨h1, h2⟩ := List.getElem?_eq_some_iff.1 ha
                    rw [List.take_succ_eq_append_getElem h1, h2]
                  by_cases hin : F ∈ acc.take t
                  · obtain rfl : f = 0 := by rw [HT.out, if_pos hin]
                    have ha0 : (a == 0) = false := by simp; omega
                    have HT2 := Lib.hid (show (0 : Int) = if F ∈ acc.take (t + 1) then 0 else F by rw [if_pos (by rw [htk]; exact List.mem_append_left _ hin)])
                    clear hin htk ha HT
                    go_wp2_with fail
                    go_roundg (gk - 1)
                    case measure => omega
                    case rel => exact ⟨t + 1, 0, by omega, rfl, by go_num, rfl, HT2⟩
                  · obtain rfl : f = F := by rw [HT.out, if_neg hin]
                    by_cases haf : a = f
                    · have hd : (a == f) = true := by simpa using haf
                      have HT2 := Lib.hid (show (0 : Int) = if f ∈ acc.take (t + 1) then 0 else f by rw [if_pos (by rw [htk, haf]; simp)])
                      clear hin htk ha HT haf
                      go_wp2_with fail
                      go_roundg (gk - 1)
                      case measure => omega
                      case rel => exact ⟨t + 1, 0, by omega, rfl, by go_num, rfl, HT2⟩
                    · have hd : (a == f) = false := by simpa using haf
                      have HT2 := Lib.hid (show f = if f ∈ acc.take (t + 1) then 0 else f by
                        rw [if_neg]
                        rw [htk]
                        simp only [List.mem_append, List.mem_singleton, not_or]
                        exact ⟨hin, fun e => haf e.symm⟩)
                      clear hin htk ha HT haf
                      go_wp2_with fail
                      go_roundg (gk - 1)
                      case measure => omega
                      case rel => exact ⟨t + 1, f, by omega, rfl, by go_num, rfl, HT2⟩
    · have hlt : (k : Int) < s.size := by omega
      have hks : k < s.size := by omega
      obtain ⟨c, hc, hget⟩ := BYT.out k hks
      have hne := before47 hc (by have := HP.out; omega)
      obtain ⟨x, hx⟩ : ∃ x, x = c.toNat := ⟨_, rfl⟩
      have hgx : (s[k]'hks).toNat = x := by rw [hget, hx]
      have hx47 : ((x : Int) == 47) = false := by
        simp
        intro e
        exact hne (UInt8.toNat_inj.1 ((show c.toNat = 47 by omega).trans rfl))
      clear hc hget hne hx
      go_wp2_with fail
      go_roundg (gk - 1)
      case measure => omega
      case rel => exact ⟨k + 1, by omega, by go_num, rfl⟩
end
section
open Go Go.RowKit Go.Lib

def wordsC : Array Value := #[.string ⟨#[99, 97, 116]⟩, .string ⟨#[100, 111, 103]⟩, .string ⟨#[99, 105, 116, 121]⟩, .string ⟨#[100, 111]⟩, .string ⟨#[100, 111, 110, 101]⟩, .string ⟨#[80, 97, 114, 105, 115]⟩, .string ⟨#[105, 116, 39, 115]⟩, .string ⟨#[104, 111, 112, 101]⟩, .string ⟨#[109, 97, 107, 101]⟩, .string ⟨#[116, 97, 112]⟩, .string ⟨#[116, 111, 112]⟩, .string ⟨#[116, 111, 112, 115]⟩, .string ⟨#[116, 97, 112, 115]⟩, .string ⟨#[98, 101]⟩, .string ⟨#[195, 150, 108]⟩, .string ⟨#[195, 182, 100, 101]⟩, .string ⟨#[78, 65, 84, 79]⟩, .string ⟨#[97]⟩, .string ⟨#[114, 117, 110]⟩, .string ⟨#[114, 117, 110, 115]⟩, .string ⟨#[116, 114, 121]⟩, .string ⟨#[116, 114, 105, 101, 115]⟩, .string ⟨#[104, 111, 117, 115, 101]⟩, .string ⟨#[109, 111, 117, 115, 101]⟩]
def zeroC : Array Value := #[.string ⟨#[]⟩, .string ⟨#[]⟩, .string ⟨#[]⟩, .string ⟨#[]⟩, .string ⟨#[]⟩, .string ⟨#[]⟩, .string ⟨#[]⟩, .string ⟨#[]⟩, .string ⟨#[]⟩, .string ⟨#[]⟩, .string ⟨#[]⟩, .string ⟨#[]⟩, .string ⟨#[]⟩, .string ⟨#[]⟩, .string ⟨#[]⟩, .string ⟨#[]⟩, .string ⟨#[]⟩, .string ⟨#[]⟩, .string ⟨#[]⟩, .string ⟨#[]⟩, .string ⟨#[]⟩, .string ⟨#[]⟩, .string ⟨#[]⟩, .string ⟨#[]⟩]
theorem results_cell1 {fn : Func} {p : Tmp} {ty : TypeId} (h : fn.results = #[.cell p ty]) (tmps : Array Value) (P : Program) (w : World) :
    (results fn tmps).run P w = ((asAddr (tmps.getD p undef)).run P w).andThen fun a w₁ => (loadVar ty a).run P w₁ := by
  simp only [results, h]
  simp [Sem.run_bind, Result.andThen]
set_option maxRecDepth 100000 in
set_option maxHeartbeats 400000 in
theorem words_any (w : World) : Calls Tryz.prog 32 #[] w fun e w' => e = .returned (.agg wordsC) ∧ Below w.heap.size w w' := by
  have hld := run_loadVar_new (P := Tryz.prog) w 80 wordsC 24 9 Tryz.underlying80 (by kernel_rfl)
  go_enter Tryz.func32, Tryz.ntmps32
  go_upto_region 1 with fail
  rename_i Q0 K0 hK0
  apply wp_region_lit
  refine wpList_buildTo rfl 80 _ rfl (some 1) rfl wordsC (by kernel_rfl) ?_
  refine wpList_store_rowTo rfl 80 _ _ rfl rfl w.heap.size wordsC rfl rfl 80 zeroC (World.alloc_heap_new w _) (by kernel_rfl) (by kernel_rfl) (by kernel_rfl) ?_
  apply wpList_nil
  refine hK0 _ _ ?_
  have hb : Below w.heap.size w (w.alloc (.cells wordsC 80)) := (Below.refl _ _).alloc (Nat.le_refl _) _
  have hset : (w.alloc (.cells zeroC 80)).setRow w.heap.size wordsC = w.alloc (.cells wordsC 80) := World.setRow_alloc_new ..
  rw [show (w.alloc (.cells #[.string ⟨#[]⟩, .string ⟨#[]⟩, .string ⟨#[]⟩, .string ⟨#[]⟩, .string ⟨#[]⟩, .string ⟨#[]⟩, .string ⟨#[]⟩, .string ⟨#[]⟩, .string ⟨#[]⟩, .string ⟨#[]⟩, .string ⟨#[]⟩, .string ⟨#[]⟩, .string ⟨#[]⟩, .string ⟨#[]⟩, .string ⟨#[]⟩, .string ⟨#[]⟩, .string ⟨#[]⟩, .string ⟨#[]⟩, .string ⟨#[]⟩, .string ⟨#[]⟩, .string ⟨#[]⟩, .string ⟨#[]⟩, .string ⟨#[]⟩, .string ⟨#[]⟩] 80)) = w.alloc (.cells zeroC 80) from rfl, hset]
  go_wp2_with fail
  refine bodyPost_ret (v := .agg wordsC) ?_ rfl ⟨rfl, hb⟩
  rw [results_cell1 rfl]
  simp [asAddr, Act.put, Result.andThen, hld]
end
section
open Go Go.RowKit

theorem tmod9 (v n : Int) (hn : 0 < n) : (v.tmod n < 0 → v % n = v.tmod n + n) ∧ (0 ≤ v.tmod n → v % n = v.tmod n) ∧ -n < v.tmod n ∧ v.tmod n < n := by
  have h1 := Int.emod_nonneg v (show n ≠ 0 by omega)
  have h2 := Int.emod_lt_of_pos v hn
  have ht : v.tmod n = if 0 ≤ v then v % n else if v % n = 0 then 0 else v % n - n := by
    rw [Int.tmod_eq_emod]
    have hd : (n ∣ v) ↔ v % n = 0 := Int.dvd_iff_emod_eq_zero
    by_cases h0 : 0 ≤ v
    · simp [h0]
    · by_cases hz : v % n = 0
      · simp [h0, hd, hz]
      · have : (n.natAbs : Int) = n := by omega
        simp [h0, hd, hz, this]
  by_cases h0 : 0 ≤ v
  · have h : v.tmod n = v % n := by rw [ht, if_pos h0]
    omega
  · by_cases hz : v % n = 0
    · have h : v.tmod n = 0 := by rw [ht, if_neg h0, if_pos hz]
      omega
    · have h : v.tmod n = v % n - n := by rw [ht, if_neg h0, if_neg hz]
      omega
theorem ret_int9 {k : IntKind} {a b : Int} (h : a = b) : Ending.returned (.int k a) = .returned (.int k b) := by rw [h]
set_option maxHeartbeats 400000 in
theorem place9 (v n : Int) (w : World) (hn : 0 < n) (hn2 : n ≤ 1000000000000000000) :
    Calls Tryz.prog 19 #[.int .i64 v, .int .i64 n] w fun e w' => e = .returned (.int .i64 (v % n)) ∧ w = w' := by
  obtain ⟨hneg, hpos, hb1, hb2⟩ := tmod9 v n hn
  have hz0 : (n == 0) = false := by simp; omega
  have HN := Lib.hid hneg
  have HP := Lib.hid hpos
  clear hneg hpos
  go_enter Tryz.func19, Tryz.ntmps19
  go_wp2
  all_goals go_ret
  · exact ⟨ret_int9 (HN.out (by assumption)).symm, rfl⟩
  · exact ⟨ret_int9 (HP.out (by omega)).symm, rfl⟩
end
section
open Go Go.RowKit Go.Lib

def wordsB : List ByteArray := [⟨#[99, 97, 116]⟩, ⟨#[100, 111, 103]⟩, ⟨#[99, 105, 116, 121]⟩, ⟨#[100, 111]⟩, ⟨#[100, 111, 110, 101]⟩, ⟨#[80, 97, 114, 105, 115]⟩, ⟨#[105, 116, 39, 115]⟩, ⟨#[104, 111, 112, 101]⟩, ⟨#[109, 97, 107, 101]⟩, ⟨#[116, 97, 112]⟩, ⟨#[116, 111, 112]⟩, ⟨#[116, 111, 112, 115]⟩, ⟨#[116, 97, 112, 115]⟩, ⟨#[98, 101]⟩, ⟨#[195, 150, 108]⟩, ⟨#[195, 182, 100, 101]⟩, ⟨#[78, 65, 84, 79]⟩, ⟨#[97]⟩, ⟨#[114, 117, 110]⟩, ⟨#[114, 117, 110, 115]⟩, ⟨#[116, 114, 121]⟩, ⟨#[116, 114, 105, 101, 115]⟩, ⟨#[104, 111, 117, 115, 101]⟩, ⟨#[109, 111, 117, 115, 101]⟩]
def sixB : List ByteArray := [⟨#[83]⟩, ⟨#[85]⟩, ⟨#[83, 85]⟩, ⟨#[68]⟩, ⟨#[82, 83]⟩, ⟨#[84]⟩]
def wordBY9 (i : Nat) : ByteArray := wordsB.getD i ⟨#[]⟩
def flB (i : Nat) : ByteArray := sixB.getD i ⟨#[]⟩
/-- A line by its three numbers, by a number. -/
def item3 (a b c : Nat) : List UInt8 := (wordBY9 a).data.toList ++ (if 0 < b then 47 :: (flB c).data.toList else [])
def itemL (k : Nat) : List UInt8 := item3 (k % 24) (k / 24 % 3) (k / 72 % 6)
def listL (ks : List Nat) : List UInt8 := ((ks.map itemL).map fun l => l ++ [10]).flatten
def keys (l : List Int) : List Nat := (l.take 30).map fun x => (x % 1048576).toNat
theorem word_size : ∀ a : Fin 24, (wordBY9 a.1).size ≤ 5 := by decide
theorem fl_size : ∀ a : Fin 6, (flB a.1).size ≤ 2 := by decide
theorem item3_ok : ∀ (a : Fin 24) (b : Fin 3) (c : Fin 6), (entryL (item3 a.1 b.1 c.1)).isSome = true ∧ (10 : UInt8) ∉ item3 a.1 b.1 c.1 ∧ (item3 a.1 b.1 c.1).length ≤ 8 := by decide +kernel
theorem itemL_ok (k : Nat) : (entryL (itemL k)).isSome = true ∧ (10 : UInt8) ∉ itemL k ∧ (itemL k).length ≤ 8 :=
  item3_ok ⟨k % 24, Nat.mod_lt _ (by decide)⟩ ⟨k / 24 % 3, Nat.mod_lt _ (by decide)⟩ ⟨k / 72 % 6, Nat.mod_lt _ (by decide)⟩
theorem keys_len (l : List Int) : (keys l).length = min 30 l.length := by unfold keys; rw [List.length_map, List.length_take]
theorem listL_len : ∀ ks : List Nat, (listL ks).length ≤ 9 * ks.length
  | [] => Nat.le_refl _
  | k :: ks => by
    have ih := listL_len ks
    have h := (itemL_ok k).2.2
    show (itemL k ++ [10] ++ listL ks).length ≤ 9 * (ks.length + 1)
    rw [List.length_append, List.length_append]
    show _ + 1 + _ ≤ _
    omega
theorem listL_lines (ks : List Nat) : linesL (listL ks) = ks.map itemL :=
  linesL_flat _ fun l hl => by
    obtain ⟨k, _, rfl⟩ := List.mem_map.1 hl
    exact (itemL_ok k).2.1
theorem items_es : ∀ ks : List Nat, (esOf (ks.map itemL)).length = ks.length
  | [] => rfl
  | k :: ks => by
    have ih := items_es ks
    obtain ⟨e, he⟩ := Option.isSome_iff_exists.1 (itemL_ok k).1
    unfold esOf at ih ⊢
    rw [List.map_cons, List.filterMap_cons, he, List.length_cons, List.length_cons, ih]
theorem items_good (ks : List Nat) : ∀ l ∈ ks.map itemL, noneL l = false := fun l hl => by
  obtain ⟨k, _, rfl⟩ := List.mem_map.1 hl
  obtain ⟨e, he⟩ := Option.isSome_iff_exists.1 (itemL_ok k).1
  unfold noneL
  rw [he]; simp
theorem ba_toL (l : List UInt8) : (⟨l.toArray⟩ : ByteArray).data.toList = l := by simp
theorem ba_len (l : List UInt8) : (⟨l.toArray⟩ : ByteArray).size = l.length := by show l.toArray.size = _; rw [List.size_toArray]
/-- What a list by numbers reads as. -/
theorem list_parse {ks : List Nat} (hk : ks.length ≤ 30) : parseE ⟨(listL ks).toArray⟩ = (esOf (ks.map itemL), 0, 0) := by
  have h1 := listL_len ks
  have h2 := items_es ks
  have h := parseE_of (s := ⟨(listL ks).toArray⟩) (by rw [ba_len]; omega) (by rw [ba_toL, listL_lines]; omega) (by rw [ba_toL, listL_lines]; exact items_good ks)
  rw [ba_toL, listL_lines] at h
  exact h
theorem keys_at {l : List Int} {k : Nat} {x : Int} (h : l[k]? = some x) (hk : k < 30) : (keys l)[k]? = some (x % 1048576).toNat := by
  unfold keys
  rw [List.getElem?_map, List.getElem?_take, if_pos hk, h]
  rfl
theorem listL_take {ks : List Nat} {j k : Nat} (h : ks[j]? = some k) : listL (ks.take (j + 1)) = listL (ks.take j) ++ (itemL k ++ [10]) := by
  obtain ⟨h1, h2⟩ := List.getElem?_eq_some_iff.1 h
  unfold listL
  rw [List.take_succ_eq_append_getElem h1, h2, List.map_append, List.map_append, List.flatten_append]
  simp

/-! ### By contract -/
theorem wordsC_at : ∀ i : Nat, i < 24 → wordsC[i]? = some (.string (wordBY9 i))
  | 0, _ => rfl
  | 1, _ => rfl
  | 2, _ => rfl
  | 3, _ => rfl
  | 4, _ => rfl
  | 5, _ => rfl
  | 6, _ => rfl
  | 7, _ => rfl
  | 8, _ => rfl
  | 9, _ => rfl
  | 10, _ => rfl
  | 11, _ => rfl
  | 12, _ => rfl
  | 13, _ => rfl
  | 14, _ => rfl
  | 15, _ => rfl
  | 16, _ => rfl
  | 17, _ => rfl
  | 18, _ => rfl
  | 19, _ => rfl
  | 20, _ => rfl
  | 21, _ => rfl
  | 22, _ => rfl
  | 23, _ => rfl
  | i + 24, h => by omega
set_option maxRecDepth 100000 in
theorem pick6 (w : World) : ∀ k : Nat, k < 6 → (Instr.index 82 (.agg #[.string ⟨#[83]⟩, .string ⟨#[85]⟩, .string ⟨#[83, 85]⟩, .string ⟨#[68]⟩, .string ⟨#[82, 83]⟩, .string ⟨#[84]⟩]) (.int .i64 k)).run Tryz.prog w = .ok (.string (flB k)) w
  | 0, _ => by kernel_rfl
  | 1, _ => by kernel_rfl
  | 2, _ => by kernel_rfl
  | 3, _ => by kernel_rfl
  | 4, _ => by kernel_rfl
  | 5, _ => by kernel_rfl
  | h + 6, hh => by omega
theorem l_app (a b : ByteArray) : (a ++ b).data.toList = a.data.toList ++ b.data.toList := by
  rw [ByteArray.data_append, Array.toList_append]

set_option maxRecDepth 100000 in
set_option maxHeartbeats 1000000 in
theorem list_any (w : World) (v : Value) (l : List Int) (h : IntsAt w v l) :
    Calls Tryz.prog 16 #[v] w fun e w' => e = .returned (.string ⟨(listL (keys l)).toArray⟩) ∧ Below w.heap.size w w' := by
  obtain ⟨A, cap, rfl, hA⟩ := ints_open h
  have hbd := ints_bd h
  obtain ⟨n, hn⟩ : ∃ n, n = l.length := ⟨_, rfl⟩
  rw [← hn] at hA hbd ⊢
  have HA := Lib.hid hA
  have HN := Lib.hid hn
  have CW := Lib.hid (words_any w)
  have hsz : wordsC.size = 24 := by kernel_rfl
  clear h hA hn
  go_enter Tryz.func16, Tryz.ntmps16
  go_upto_region 3 with (go_at_call 32; refine CW.out.mono ?_; rintro e w1 ⟨rfl, hb1⟩; have HB1 := Lib.hid hb1; clear hb1; have hsc := run_storeCells_new (P := Tryz.prog) w1 80 #[.string ⟨#[]⟩, .string ⟨#[]⟩, .string ⟨#[]⟩, .string ⟨#[]⟩, .string ⟨#[]⟩, .string ⟨#[]⟩, .string ⟨#[]⟩, .string ⟨#[]⟩, .string ⟨#[]⟩, .string ⟨#[]⟩, .string ⟨#[]⟩, .string ⟨#[]⟩, .string ⟨#[]⟩, .string ⟨#[]⟩, .string ⟨#[]⟩, .string ⟨#[]⟩, .string ⟨#[]⟩, .string ⟨#[]⟩, .string ⟨#[]⟩, .string ⟨#[]⟩, .string ⟨#[]⟩, .string ⟨#[]⟩, .string ⟨#[]⟩, .string ⟨#[]⟩] wordsC (by kernel_rfl) (by kernel_rfl) (by kernel_rfl))
  obtain ⟨W2, hW2⟩ : ∃ W2, W2 = w1.alloc (.cells wordsC 80) := ⟨_, rfl⟩
  obtain ⟨H, hH⟩ : ∃ H, H = w1.heap.size := ⟨_, rfl⟩
  have HB2 := Lib.hid (show Below w.heap.size w W2 by rw [hW2]; exact HB1.out.alloc HB1.out.size _)
  have HC := Lib.hid (show ∀ a, a < 24 → W2.cell? ⟨H, a, none⟩ = some (.string (wordBY9 a)) from fun a ha => by
    have h1 : W2.heap[H]? = some (.cells wordsC 80 (0, 0)) := by rw [hW2, hH]; exact World.alloc_heap_new _ _
    rw [cell_of_row _ H a _ _ _ h1]
    exact wordsC_at a ha)
  rw [← hW2, ← hH]
  clear hW2 hH hsc hsz CW
  obtain ⟨m, hm⟩ : ∃ m, m = min 30 n := ⟨_, rfl⟩
  have hmn : m ≤ n := by omega
  have hm30 : m ≤ 30 := by omega
  have HM := Lib.hid (show m = n ∨ m = 30 by omega)
  have HKL := Lib.hid (show (keys l).length = m by rw [keys_len, hm, HN.out])
  clear hm
  go_wp2_with fail
  go_loopg [3, 5, 6] m (fun g sv i _ wr => ∃ (k : Nat) (P : ByteArray), k + g = m ∧ i = .int .i64 k ∧ sv = .string P ∧ W2 = wr ∧ Hid (P.data.toList = listL ((keys l).take k)))
  case atStart => exact ⟨0, _, by omega, rfl, rfl, rfl, Lib.hid rfl⟩
  case round =>
    obtain ⟨k, P, hk, rfl, rfl, rfl, HP⟩ := hrel
    have hk0 : (0 : Int) ≤ k := by omega
    rcases Nat.eq_zero_or_pos gk with h0 | h0
    · obtain rfl : k = m := by omega
      have HR := Lib.hid (show P = ⟨(listL (keys l)).toArray⟩ by
        have h1 := HP.out
        rw [List.take_of_length_le (by rw [HKL.out]; exact Nat.le_refl _)] at h1
        rw [← h1, ba_list])
      by_cases hkn : k = n
      · have d1 : ¬ (k : Int) < n := by omega
        clear hkn
        go_wp2_with fail
        go_ret
        exact ⟨by rw [← HR.out]; rfl, HB2.out⟩
      · have d1 : (k : Int) < n := by omega
        have d2 : ¬ (k : Int) < 30 := by
          rcases HM.out with h | h
          · exact absurd h hkn
          · omega
        clear hkn
        go_wp2_with fail
        go_ret
        exact ⟨by rw [← HR.out]; rfl, HB2.out⟩
    · have d1 : (k : Int) < n := by omega
      have d2 : (k : Int) < 30 := by omega
      obtain ⟨x, hx⟩ : ∃ x, l[k]? = some x := ⟨_, List.getElem?_eq_getElem (by have := HN.out; omega)⟩
      obtain ⟨q, o, rfl, hq, hcap, xc⟩ := HA.out k x hx
      have y0 := (cell_old (p := ⟨q, o + k, none⟩) HB2.out hq).trans xc
      have hcap2 : (n : Int) ≤ cap := by omega
      have hka := keys_at hx (by omega)
      have HTK := Lib.hid (listL_take hka)
      have PL := Lib.hid (fun wx => place9 x 1048576 wx (by omega) (by omega))
      obtain ⟨K, hK⟩ : ∃ K, K = (x % 1048576).toNat := ⟨_, rfl⟩
      have hKI : x % 1048576 = (K : Int) := by omega
      rw [hKI] at PL
      rw [← hK] at HTK
      have hPs : P.size ≤ 300 := by
        have h1 := listL_len ((keys l).take k)
        rw [List.length_take] at h1
        rw [Lib.size_eq, HP.out]
        omega
      obtain ⟨a, ha⟩ : ∃ a, a = K % 24 := ⟨_, rfl⟩
      obtain ⟨q1, hq1⟩ : ∃ a, a = K / 24 := ⟨_, rfl⟩
      obtain ⟨b, hb⟩ : ∃ a, a = q1 % 3 := ⟨_, rfl⟩
      obtain ⟨q2, hq2⟩ : ∃ a, a = K / 72 := ⟨_, rfl⟩
      obtain ⟨c, hc⟩ : ∃ a, a = q2 % 6 := ⟨_, rfl⟩
      have ha24 : a < 24 := by omega
      have hc6 : c < 6 := by omega
      have m1 : (K : Int).tmod 24 = (a : Int) := by rw [Int.tmod_eq_emod_of_nonneg (by omega)]; omega
      have m2 : (K : Int).tdiv 24 = (q1 : Int) := by rw [Int.tdiv_eq_ediv_of_nonneg (by omega)]; omega
      have m3 : (q1 : Int).tmod 3 = (b : Int) := by rw [Int.tmod_eq_emod_of_nonneg (by omega)]; omega
      have m4 : (K : Int).tdiv 72 = (q2 : Int) := by rw [Int.tdiv_eq_ediv_of_nonneg (by omega)]; omega
      have m5 : (q2 : Int).tmod 6 = (c : Int) := by rw [Int.tmod_eq_emod_of_nonneg (by omega)]; omega
      have v2 : IntKind.i64.wrap (q1 : Int) = (q1 : Int) := IntWalk.i64_in _ (by omega)
      have v4 : IntKind.i64.wrap (q2 : Int) = (q2 : Int) := IntWalk.i64_in _ (by omega)
      have a0 : (0 : Int) ≤ a := by omega
      have a1 : (a : Int) < 24 := by omega
      have hcell := HC.out a ha24
      have pk := fun wx => pick6 wx c hc6
      have hws := word_size ⟨a, ha24⟩
      have hfs := fl_size ⟨c, hc6⟩
      dsimp only at hws hfs
      have HIT := Lib.hid (show itemL K = (wordBY9 a).data.toList ++ (if 0 < b then 47 :: (flB c).data.toList else []) by rw [ha, hb, hc, hq1, hq2]; rfl)
      obtain ⟨WA, hWA⟩ : ∃ X, X = wordBY9 a := ⟨_, rfl⟩
      obtain ⟨FL, hFL⟩ : ∃ X, X = flB c := ⟨_, rfl⟩
      rw [← hWA] at hcell hws HIT
      rw [← hFL] at pk hfs HIT
      have n1 : ¬ (9223372036854775807 < P.size + WA.size) := by omega
      have n2 : ¬ (9223372036854775807 < P.size + WA.size + 1) := by omega
      have n3 : ¬ (9223372036854775807 < P.size + WA.size + 1 + FL.size) := by omega
      have n4 : ¬ (9223372036854775807 < P.size + WA.size + 1 + FL.size + 1) := by omega
      clear hx hq hcap xc hka hK hKI ha hq1 hb hq2 hc hWA hFL hws hfs hPs
      by_cases hb0 : 0 < b
      · have e1 : (0 : Int) < b := by omega
        have HR := Lib.hid (show (P ++ WA ++ (⟨#[47]⟩ : ByteArray) ++ FL ++ (⟨#[10]⟩ : ByteArray)).data.toList = listL ((keys l).take (k + 1)) by
          rw [l_app, l_app, l_app, l_app, HP.out, HTK.out, HIT.out, if_pos hb0]
          simp)
        clear hb0
        go_wp2_with (go_at_call 19; refine (PL.out _).mono ?_; rintro e wx ⟨rfl, hwx⟩; subst hwx)
        go_roundg (gk - 1)
        case measure => omega
        case rel => exact ⟨k + 1, _, by omega, by go_num, rfl, rfl, HR⟩
      · have e1 : ¬ (0 : Int) < b := by omega
        have HR := Lib.hid (show (P ++ WA ++ (⟨#[10]⟩ : ByteArray)).data.toList = listL ((keys l).take (k + 1)) by
          rw [l_app, l_app, HP.out, HTK.out, HIT.out, if_neg hb0]
          simp)
        clear hb0
        go_wp2_with (go_at_call 19; refine (PL.out _).mono ?_; rintro e wx ⟨rfl, hwx⟩; subst hwx)
        go_roundg (gk - 1)
        case measure => omega
        case rel => exact ⟨k + 1, _, by omega, by go_num, rfl, rfl, HR⟩
end
end Go.Proofs.YtcbmfkgekhadkaaGreatDoor
