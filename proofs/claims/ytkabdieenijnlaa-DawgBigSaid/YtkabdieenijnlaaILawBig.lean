/- DawgBig: true of any number. -/
import Derived.Test.YtkabdieenijnlaaIApp
import Derived.Test.YtkabdieenijnlaaIPlace
import Derived.Lib.ConvBytes
import Derived.Laws.IdiomStrings
import Derived.Laws.MakeOwn
namespace Go.Proofs.Ytkabdieenijnlaa
open Go Go.RowKit Go.Lib

/-! ### Plain -/
def aRep (k : Nat) : Bs := List.replicate k 97
def aK (k : Nat) : ByteArray := ⟨(aRep k).toArray⟩
def bB : ByteArray := ⟨#[98]⟩
theorem setS_one : ∀ (j : Nat) (L : List Bs), SetS [aRep j] L ↔ ∃ i, i ≤ j ∧ L = [aRep i]
  | 0, L => by
    have : SetS [aRep 0] L ↔ SetS (fins true ++ []) L := Iff.rfl
    rw [this, setS_fins]
    constructor
    · rintro (h | h)
      · exact ⟨0, Nat.le_refl _, h⟩
      · exact absurd h (setR_nil L)
    · rintro ⟨i, hi, rfl⟩
      obtain rfl : i = 0 := by omega
      exact .inl rfl
  | j + 1, L => by
    have : SetS [aRep (j + 1)] L ↔ SetS (fins false ++ ([aRep j].map (97 :: ·) ++ [])) L := Iff.rfl
    rw [this, setS_fins, setR_step (by simp) (above_nil _), setS_one j L]
    constructor
    · rintro (h | ⟨i, hi, h⟩ | h)
      · exact ⟨j + 1, Nat.le_refl _, h⟩
      · exact ⟨i, by omega, h⟩
      · exact absurd h (setR_nil L)
    · rintro ⟨i, hi, rfl⟩
      by_cases e : i = j + 1
      · subst e; exact .inl rfl
      · exact .inr (.inl ⟨i, by omega, rfl⟩)
def bigV (k : Nat) : List Bs := [aRep k, [98]]
theorem setS_big (k : Nat) (L : List Bs) : SetS (bigV (k + 1)) L ↔ L ∈ bigV (k + 1) :: (List.range (k + 1)).map fun i => [aRep i] := by
  have hab : Above 97 (([[]] : List Bs).map (98 :: ·) ++ []) := fun x hx => by
    simp at hx
    subst hx
    exact ⟨98, [], rfl, by decide⟩
  have : SetS (bigV (k + 1)) L ↔ SetS (fins false ++ ([aRep k].map (97 :: ·) ++ ([[]].map (98 :: ·) ++ []))) L := Iff.rfl
  rw [this, setS_fins, setR_step (by simp) hab, setR_step (by simp) (above_nil _), setS_one k L]
  have h0 : SetS [[]] L ↔ L = [[]] := by
    rw [show SetS [[]] L ↔ SetS [aRep 0] L from Iff.rfl, setS_one 0 L]
    constructor
    · rintro ⟨i, hi, rfl⟩
      obtain rfl : i = 0 := by omega
      rfl
    · intro h; exact ⟨0, Nat.le_refl _, h⟩
  rw [h0, List.mem_cons, List.mem_map]
  constructor
  · rintro (h | ⟨i, hi, h⟩ | h | h)
    · exact .inl h
    · exact .inr ⟨i, List.mem_range.2 (by omega), h.symm⟩
    · exact .inr ⟨0, List.mem_range.2 (by omega), h.symm⟩
    · exact absurd h (setR_nil L)
  · rintro (h | ⟨i, hi, h⟩)
    · exact .inl h
    · exact .inr (.inl ⟨i, by have := List.mem_range.1 hi; omega, h.symm⟩)
theorem aRep_inj {i j : Nat} (h : aRep i = aRep j) : i = j := by
  have := congrArg List.length h
  simpa [aRep] using this
theorem big_nodup (k : Nat) : (bigV (k + 1) :: (List.range (k + 1)).map fun i => [aRep i]).Nodup := by
  refine List.nodup_cons.2 ⟨?_, ?_⟩
  · intro h
    obtain ⟨i, _, e⟩ := List.mem_map.1 h
    simp [bigV] at e
  · unfold List.Nodup
    rw [List.pairwise_map]
    exact List.nodup_range.imp fun {a b} hab e => hab (aRep_inj (by simpa using e))
theorem big_count {g : GA} {k : Nat} (h : g.Ok) (hs : ∀ L, L ∈ g.N ↔ SetS (bigV (k + 1)) L) : g.nodes.length = k + 1 + 1 := by
  rw [count_is h hs (big_nodup k) (setS_big k)]
  simp
theorem none_count {g : GA} (h : g.Ok) (hs : ∀ L, L ∈ g.N ↔ SetS [] L) : g.nodes.length = 1 := by
  refine count_is h hs (l := [[]]) (by simp) fun L => ?_
  rw [List.mem_singleton]
  constructor
  · rintro (h | ⟨p, h, _⟩)
    · exact h
    · exact absurd (ends_nil p) h
  · exact .inl
theorem big_tail (k : Nat) : [aK k, bB].map (tailD 0) = bigV k := by simp [tailD, aK, bB, bigV]
theorem big_rise (k : Nat) : Rising [aK (k + 1), bB] := by
  have : ltS (aK (k + 1)) bB := by
    show (aK (k + 1)).data.toList < bB.data.toList
    have e : (aK (k + 1)).data.toList = 97 :: aRep k := by simp [aK, aRep, List.replicate_succ]
    rw [e]
    exact List.cons_lt_cons_iff.2 (.inl (by decide))
  simp [Rising, this]
theorem aK_size (k : Nat) : (aK k).size = k := by
  show (aRep k).toArray.size = k
  simp [aRep]
theorem m_byte15 : ∃ i0 : TypeInfo, Try.prog.info? 5 = some i0 ∧ i0.zero = some (.int .u8 0) ∧ i0.size = 1 ∧ i0.bytes = 1 := ⟨_, rfl, rfl, rfl, rfl⟩
theorem conv_a (H _M cap : Nat) (cs : Array Value) (wr : World) (k : Nat) (r1 : wr.heap[H]? = some (.cells cs 5 (0, 0))) (r3 : ∀ q, q < k → cs[q]? = some (.int .u8 97)) : (convert 40 9 (.slice (some ⟨H, 0, none⟩) k cap)).run Try.prog wr = .ok (.string (aK k)) wr := by
  have := run_convert_bytes_back (P := Try.prog) wr 40 9 5 ⟨H, 0, none⟩ cap (List.replicate k (97 : UInt8)) Try.underlying40 Try.underlying5 Try.underlying9 (fun q hq => by
    rw [List.length_replicate] at hq
    rw [add9, cell_of_row _ H q cs _ (0, 0) r1, r3 q hq, List.getElem_replicate]
    rfl)
  rwa [List.length_replicate] at this

set_option maxRecDepth 100000 in
set_option maxHeartbeats 4000000 in
theorem big_law (w : World) (y : Int) : Calls Try.prog 7 #[.int .i64 y] w fun e w' => e = .returned (.bool true) ∧ Below w.heap.size w w' := by
  have CP := Lib.hid (place9 y 5 w (by omega) (by omega))
  obtain ⟨k5, hk5, hk5b⟩ : ∃ k : Nat, y % 5 = k ∧ k < 5 := ⟨(y % 5).toNat, by omega, by omega⟩
  rw [hk5] at CP
  have CA := Lib.hid awake15_any
  obtain ⟨M, hM⟩ : ∃ M : Nat, M = 198 + k5 := ⟨_, rfl⟩
  have wM : IntKind.i64.wrap ((198 : Int) + k5) = (M : Int) := by rw [IntWalk.i64_in _ (by omega)]; omega
  have hMb : 198 ≤ M ∧ M ≤ 202 := by omega
  obtain ⟨i0, hi0, hz1, hz2, hz3⟩ := m_byte15
  obtain ⟨CS, hCS⟩ : ∃ CS, CS = madeCells (Value.int .u8 0).cells (M * 1) := ⟨_, rfl⟩
  have hCSz : CS.size = M := by rw [hCS, size_madeCells]; simp
  have hmk : ∀ wx : World, (Instr.makeSlice 40 (.int .i64 (M : Int)) (.int .i64 (M : Int))).run Try.prog wx = .ok (.slice (some ⟨wx.heap.size, 0, none⟩) M M) (wx.alloc (.cells CS 5)) := fun wx => by
    have hr := run_make (P := Try.prog) wx 40 5 i0 _ Try.underlying40 hi0 hz1 .i64 .i64 M M (by omega) (Int.le_refl _) (by rw [hz3]; omega) (by omega)
    rw [Int.toNat_natCast, hz2, ← hCS] at hr
    exact hr
  have HC := Lib.hid hCSz
  clear hCS hCSz hk5 hk5b hM
  go_enter Try.func7, Try.ntmps7
  go_wp2_with (go_at_call 19; refine CP.out.mono ?_; rintro e wx ⟨rfl, rfl⟩)
  obtain ⟨W1, hW1⟩ : ∃ W1, W1 = w.alloc (.cells CS 5) := ⟨_, rfl⟩
  obtain ⟨H, hH⟩ : ∃ H, H = w.heap.size := ⟨_, rfl⟩
  have HH := Lib.hid (show W1.heap[H]? = some (.cells CS 5 (0, 0)) ∧ Below w.heap.size w W1 ∧ w.heap.size ≤ H from by
    rw [hW1, hH]; exact ⟨World.alloc_heap_new _ _, (Below.refl _ _).alloc (Nat.le_refl _) _, Nat.le_refl _⟩)
  rw [← hW1, ← hH]
  clear hW1 hH hmk
  go_loopg [5] M (fun g i wr => ∃ j : Nat, j + g = M ∧ i = .int .i64 j ∧ Hid (∃ cs : Array Value, wr.heap[H]? = some (.cells cs 5 (0, 0)) ∧ cs.size = M ∧ (∀ q, q < j → cs[q]? = some (.int .u8 97)) ∧ Below w.heap.size w wr))
  case atStart => exact ⟨0, by omega, rfl, Lib.hid ⟨CS, HH.out.1, HC.out, fun q hq => absurd hq (Nat.not_lt_zero _), HH.out.2.1⟩⟩
  case round =>
    obtain ⟨j, hj, rfl, HR⟩ := hrel
    have hj0 : (0 : Int) ≤ j := by omega
    obtain ⟨cs, r1, r2, r3, r4⟩ := HR.out
    rcases Nat.eq_zero_or_pos gk with h0 | h0
    · have hjn : ¬ (j : Int) < M := by omega
      obtain rfl : j = M := by omega
      have hcv := conv_a H j j cs wr j r1 r3
      have HW := Lib.hid (And.intro r1 (And.intro r3 r4))
      have hnil : ∀ wx, StrsAt wx (.slice none 0 0) [] := fun _ => .inl ⟨rfl, _, _, rfl⟩
      have C0 := Lib.hid (fun wx => build_few wx (.slice none 0 0) [] [] (hnil wx) (by simp) rfl List.Pairwise.nil (fun _ => Iff.rfl))
      clear r1 r2 r3 r4 HR hnil
      by_cases hle : j ≤ 200
      · have d1 : (j : Int) ≤ 200 := by omega
        obtain ⟨k, hk⟩ : ∃ k, j = k + 1 := ⟨j - 1, by omega⟩
        have C1 := Lib.hid (fun wx v (hv : StrsAt wx v [bB, aK j]) => build_few wx v [bB, aK j] [aK j, bB] hv (by simp) (by unfold longL; simp [aK_size, bB]; refine ⟨by decide, by omega⟩) (hk ▸ big_rise k) (fun x => by simp [or_comm]))
        have HK := Lib.hid hk
        clear hk
        go_upto_region 9 with (first
          | (have zz := hdone; go_at_call 10; refine (C0.out _).mono ?_; rintro e w4 ⟨p0, g0, st0, rfl, hr0⟩; have HR0 := Lib.hid hr0; clear hr0)
          | (go_at_call 10; refine (C1.out _ _ (strs_lit wr [bB, aK j] _ _ rfl (by simp))).mono ?_; rintro e w3 ⟨p1, g1, st1, rfl, hr1⟩; have HR1 := Lib.hid hr1; clear hr1; have hdone : True := trivial))
        have hb3 : Below wr.heap.size wr w3 := ((Below.refl wr.heap.size wr).alloc (Nat.le_refl _) _).trans (HR1.out.2.2.mono (by simp))
        have hV := big_tail j
        have HA1 := Lib.hid (HR1.out.1.keep HR0.out.2.2)
        have HO1 := Lib.hid (show AutoOf g1 st1 (bigV j) by rw [← hV]; exact HR1.out.2.1)
        have hb4 : Below wr.heap.size wr w4 := hb3.trans (HR0.out.2.2.mono hb3.size)
        have CS0 := Lib.hid (show Calls Try.prog 14 #[.pointer (some ⟨p0, 0, none⟩)] w4 fun e w' => e = .returned (.int .i64 1) ∧ w' = w4 from by
          have h1 := states_any w4 p0 g0 st0 HR0.out.1
          rwa [none_count HR0.out.1.ok HR0.out.2.1.set] at h1)
        have CH0 := Lib.hid (show Calls Try.prog 12 #[.pointer (some ⟨p0, 0, none⟩), .string ⟨#[]⟩] w4 fun e w' => e = .returned (.bool false) ∧ Below w4.heap.size w4 w' from by
          have h1 := has_auto w4 p0 g0 st0 _ HR0.out.1 HR0.out.2.1.start ⟨#[]⟩ (by decide)
          exact h1)
        have CF0 := Lib.hid (fun wx (hb : Below w4.heap.size w4 wx) => show Calls Try.prog 23 #[.pointer (some ⟨p0, 0, none⟩), .int .i64 st0] wx fun e w' => e = .returned (.bool false) ∧ w' = wx from by
          have h1 := final_any wx p0 g0 st0 (HR0.out.1.keep hb) st0
          rwa [fin_ok HR0.out.1.ok HR0.out.2.1.start] at h1)
        have CT0 := Lib.hid (fun wx (hb : Below w4.heap.size w4 wx) => start_any wx p0 g0 st0 (HR0.out.1.keep hb))
        have CS1 := Lib.hid (fun wx (hb : Below w4.heap.size w4 wx) => show Calls Try.prog 14 #[.pointer (some ⟨p1, 0, none⟩)] wx fun e w' => e = .returned (.int .i64 ((j : Int) + 1)) ∧ w' = wx from by
          have h1 := states_any wx p1 g1 st1 (HA1.out.keep hb)
          have hs := HO1.out.set
          rw [HK.out] at hs
          rw [big_count HA1.out.ok hs] at h1
          have e : ((k + 1 + 1 : Nat) : Int) = (j : Int) + 1 := by have := HK.out; omega
          rwa [e] at h1)
        have CH1 := Lib.hid (fun wx (hb : Below w4.heap.size w4 wx) => show Calls Try.prog 12 #[.pointer (some ⟨p1, 0, none⟩), .string (aK j)] wx fun e w' => e = .returned (.bool true) ∧ Below wx.heap.size wx w' from by
          have h1 := has_auto wx p1 g1 st1 _ (HA1.out.keep hb) HO1.out.start (aK j) (by rw [aK_size]; omega)
          rwa [decide_eq_true (by simp [bigV, aK])] at h1)
        have CH2 := Lib.hid (fun wx (hb : Below w4.heap.size w4 wx) => show Calls Try.prog 12 #[.pointer (some ⟨p1, 0, none⟩), .string (aK (j - 1))] wx fun e w' => e = .returned (.bool false) ∧ Below wx.heap.size wx w' from by
          have h1 := has_auto wx p1 g1 st1 _ (HA1.out.keep hb) HO1.out.start (aK (j - 1)) (by rw [aK_size]; omega)
          rwa [decide_eq_false (by
            have hj1 : 198 ≤ j := hMb.1
            intro hm
            simp only [bigV, aK, List.mem_cons, List.not_mem_nil, or_false] at hm
            rcases hm with hm | hm
            · have := aRep_inj (show aRep (j - 1) = aRep j by simpa using hm); omega
            · have := congrArg List.length hm
              simp [aRep] at this
              omega)] at h1)
        have CH3 := Lib.hid (fun wx (hb : Below w4.heap.size w4 wx) => show Calls Try.prog 12 #[.pointer (some ⟨p1, 0, none⟩), .string ⟨#[98]⟩] wx fun e w' => e = .returned (.bool true) ∧ Below wx.heap.size wx w' from by
          have h1 := has_auto wx p1 g1 st1 _ (HA1.out.keep hb) HO1.out.start ⟨#[98]⟩ (by decide)
          rwa [decide_eq_true (by simp [bigV])] at h1)
        have hcvx := Lib.hid (show ∀ wx, Below wr.heap.size wr wx → (convert 40 9 (.slice (some ⟨H, 0, none⟩) j j)).run Try.prog wx = .ok (.string (aK j)) wx ∧ (convert 40 9 (.slice (some ⟨H, 0, none⟩) (j - 1) j)).run Try.prog wx = .ok (.string (aK (j - 1))) wx from fun wx hb => by
          have r1 := (hb.block H (Array.getElem?_eq_some_iff.1 HW.out.1).1).trans HW.out.1
          exact ⟨conv_a H j j cs wx j r1 HW.out.2.1, conv_a H j j cs wx (j - 1) r1 (fun q hq => HW.out.2.1 q (by omega))⟩)
        have hjI : 198 ≤ (j : Int) := by have := hMb.1; omega
        have HB4 := Lib.hid (And.intro HW.out.2.2 hb4)
        have wj1 : IntKind.i64.wrap ((j : Int) + 1) = (j : Int) + 1 := IntWalk.i64_in _ (by omega)
        have wj2 : IntKind.i64.wrap ((j : Int) - 1) = (j : Int) - 1 := IntWalk.i64_in _ (by omega)
        have wj3 : ((j : Int) - 1).toNat = j - 1 := by omega
        clear hb3 hb4 hV hcv C0 C1 HR0 HR1 hdone HW hle
        go_wp2_with fail
        refine CS0.out.mono ?_
        rintro e w5 ⟨rfl, rfl⟩
        go_wp2_with fail
        refine CH0.out.mono ?_
        rintro e w6 ⟨rfl, hb6⟩
        have HB6 := Lib.hid hb6
        clear hb6
        go_wp2_with fail
        refine (CT0.out _ HB6.out).mono ?_
        rintro e w7 ⟨rfl, rfl⟩
        go_wp2_with fail
        refine (CF0.out _ HB6.out).mono ?_
        rintro e w8 ⟨rfl, rfl⟩
        obtain ⟨z1, z2⟩ := hcvx.out _ (HB4.out.2.trans (HB6.out.mono HB4.out.2.size))
        go_wp2_with fail
        refine (CS1.out _ HB6.out).mono ?_
        rintro e w9 ⟨rfl, rfl⟩
        go_wp2_with fail
        refine (CH1.out _ HB6.out).mono ?_
        rintro e w10 ⟨rfl, hb10⟩
        have HB10 := Lib.hid (HB6.out.trans (hb10.mono HB6.out.size))
        clear hb10 z1 z2
        obtain ⟨z1, z2⟩ := hcvx.out _ (HB4.out.2.trans (HB10.out.mono HB4.out.2.size))
        go_wp2_with fail
        refine (CH2.out _ HB10.out).mono ?_
        rintro e w11 ⟨rfl, hb11⟩
        have HB11 := Lib.hid (HB10.out.trans (hb11.mono HB10.out.size))
        clear hb11
        go_wp2_with fail
        refine (CH3.out _ HB11.out).mono ?_
        rintro e w12 ⟨rfl, hb12⟩
        have HB12 := Lib.hid (HB11.out.trans (hb12.mono HB11.out.size))
        clear hb12
        go_wp2_with fail
        refine (CA.out _).mono ?_
        rintro e w13 ⟨rfl, hb13⟩
        have HB13 := Lib.hid (HB12.out.trans (hb13.mono HB12.out.size))
        clear hb13
        go_wp2_with fail
        go_ret
        exact ⟨rfl, HB4.out.1.trans ((HB4.out.2.trans (HB13.out.mono HB4.out.2.size)).mono HB4.out.1.size)⟩
      · have d1 : ¬ (j : Int) ≤ 200 := by omega
        have d2 : (200 : Int) < j := by omega
        have C1 := Lib.hid (fun wx v (hv : StrsAt wx v [bB, aK j]) => show Calls Try.prog 10 #[v] wx fun e w' => e = .returned (.tuple #[.pointer none, .int .i64 3]) ∧ Below wx.heap.size wx w' from by
          refine (build_any wx v [bB, aK j] hv (by simp)).mono ?_
          rintro e w' ⟨⟨-, he⟩ | ⟨h1, -⟩, hb⟩
          · exact ⟨he, hb⟩
          · unfold longL at h1
            simp [aK_size] at h1
            omega)
        go_upto_region 9 with (first
          | (have zz := hdone; go_at_call 10; refine (C0.out _).mono ?_; rintro e w4 ⟨p0, g0, st0, rfl, hr0⟩; have HR0 := Lib.hid hr0; clear hr0)
          | (go_at_call 10; refine (C1.out _ _ (strs_lit wr [bB, aK j] _ _ rfl (by simp))).mono ?_; rintro e w3 ⟨rfl, hr1⟩; have HR1 := Lib.hid hr1; clear hr1; have hdone : True := trivial))
        have hb3 : Below wr.heap.size wr w3 := ((Below.refl wr.heap.size wr).alloc (Nat.le_refl _) _).trans (HR1.out.mono (by simp))
        have hb4 : Below wr.heap.size wr w4 := hb3.trans (HR0.out.2.2.mono hb3.size)
        have CS0 := Lib.hid (show Calls Try.prog 14 #[.pointer (some ⟨p0, 0, none⟩)] w4 fun e w' => e = .returned (.int .i64 1) ∧ w' = w4 from by
          have h1 := states_any w4 p0 g0 st0 HR0.out.1
          rwa [none_count HR0.out.1.ok HR0.out.2.1.set] at h1)
        have CH0 := Lib.hid (show Calls Try.prog 12 #[.pointer (some ⟨p0, 0, none⟩), .string ⟨#[]⟩] w4 fun e w' => e = .returned (.bool false) ∧ Below w4.heap.size w4 w' from by
          have h1 := has_auto w4 p0 g0 st0 _ HR0.out.1 HR0.out.2.1.start ⟨#[]⟩ (by decide)
          exact h1)
        have CF0 := Lib.hid (fun wx (hb : Below w4.heap.size w4 wx) => show Calls Try.prog 23 #[.pointer (some ⟨p0, 0, none⟩), .int .i64 st0] wx fun e w' => e = .returned (.bool false) ∧ w' = wx from by
          have h1 := final_any wx p0 g0 st0 (HR0.out.1.keep hb) st0
          rwa [fin_ok HR0.out.1.ok HR0.out.2.1.start] at h1)
        have CT0 := Lib.hid (fun wx (hb : Below w4.heap.size w4 wx) => start_any wx p0 g0 st0 (HR0.out.1.keep hb))
        have HB4 := Lib.hid (And.intro HW.out.2.2 hb4)
        clear hb3 hb4 hcv C0 C1 HR0 HR1 hdone HW hle
        go_wp2_with fail
        refine CS0.out.mono ?_
        rintro e w5 ⟨rfl, rfl⟩
        go_wp2_with fail
        refine CH0.out.mono ?_
        rintro e w6 ⟨rfl, hb6⟩
        have HB6 := Lib.hid hb6
        clear hb6
        go_wp2_with fail
        refine (CT0.out _ HB6.out).mono ?_
        rintro e w7 ⟨rfl, rfl⟩
        go_wp2_with fail
        refine (CF0.out _ HB6.out).mono ?_
        rintro e w8 ⟨rfl, rfl⟩
        go_wp2_with fail
        refine (CA.out _).mono ?_
        rintro e w13 ⟨rfl, hb13⟩
        have HB13 := Lib.hid (HB6.out.trans (hb13.mono HB6.out.size))
        clear hb13
        go_wp2_with fail
        go_ret
        exact ⟨rfl, HB4.out.1.trans ((HB4.out.2.trans (HB13.out.mono HB4.out.2.size)).mono HB4.out.1.size)⟩
    · have hjn : (j : Int) < M := by omega
      obtain ⟨c, hc⟩ : ∃ c, cs[j]? = some c := ⟨_, Array.getElem?_eq_getElem (by omega)⟩
      have hcell : wr.cell? ⟨H, j, none⟩ = some c := by rw [cell_of_row _ H j cs _ (0, 0) r1]; exact hc
      have hfz : ∀ o, wr.frozen? ⟨H, o, none⟩ = false := fun o => by simp [World.frozen?, r1]
      have HR2 := Lib.hid (show ∃ cs : Array Value, (wr.setCell ⟨H, j, none⟩ (.int .u8 97)).heap[H]? = some (.cells cs 5 (0, 0)) ∧ cs.size = M ∧ (∀ q, q < j + 1 → cs[q]? = some (.int .u8 97)) ∧ Below w.heap.size w (wr.setCell ⟨H, j, none⟩ (.int .u8 97)) from
        ⟨cs.setIfInBounds j (.int .u8 97), by simp [World.setCell, Array.getElem?_modify, r1], by rw [Array.size_setIfInBounds, r2], fun q hq => by
          rw [Array.getElem?_setIfInBounds]
          by_cases hqj : j = q
          · rw [if_pos hqj, if_pos (by omega)]
          · rw [if_neg hqj]; exact r3 q (by omega), r4.setCell (p := ⟨H, j, none⟩) HH.out.2.2 _⟩)
      clear r1 r2 r3 r4 HR hc
      go_wp2_with fail
      go_roundg (gk - 1)
      case measure => omega
      case rel => exact ⟨j + 1, by omega, by go_num, HR2⟩
end Go.Proofs.Ytkabdieenijnlaa
