/- DawgWays: true of any words by numbers, any state, any byte. -/
import Derived.Test.YtkabdieenijnlaaIApp
import Derived.Test.YtkabdieenijnlaaIWord
import Derived.Test.YtkabdieenijnlaaIAwake
import Derived.Test.YtkabdieenijnlaaIOut
import Derived.Test.YtkabdieenijnlaaINext
import Derived.Test.YtkabdieenijnlaaISem
import Derived.BigQuiet
namespace Go.Proofs.Ytkabdieenijnlaa
open Go Go.RowKit Go.Lib

/-! ### Plain -/
theorem out_chain {g : GA} (h : g.Ok) {s : Nat} (hs : s < g.nodes.length) : ChainOk g.N (g.out (s : Int)) :=
  (words_out h (List.getElem?_eq_getElem (by rw [← h.nl]; exact hs))).2
theorem to_lt {g : GA} (h : g.Ok) {s : Nat} (hs : s < g.nodes.length) {x : UInt8 × Nat × Nat} (hx : x ∈ g.out (s : Int)) : x.2.1 < g.nodes.length := by
  obtain ⟨M, h1, _⟩ := (out_chain h hs).there x hx
  rw [h.nl]
  exact (List.getElem?_eq_some_iff.1 h1).1
theorem goes_atW : ∀ {O : List (UInt8 × Nat × Nat)} (_ : O.Pairwise fun x y => x.1 < y.1) (i : Nat) (x : UInt8 × Nat × Nat), O[i]? = some x → goes O x.1 = some x.2.1
  | [], _, i, x, hx => by simp at hx
  | y :: O, hr, 0, x, hx => by
    simp at hx
    subst hx
    simp [goes]
  | y :: O, hr, i + 1, x, hx => by
    obtain ⟨h1, h2⟩ := List.pairwise_cons.1 hr
    rw [List.getElem?_cons_succ] at hx
    have hlt := h1 x (List.mem_of_getElem? hx)
    have hne : y.1 ≠ x.1 := fun e => by rw [e] at hlt; exact absurd hlt (by simp)
    have : goes (y :: O) x.1 = goes O x.1 := by simp [goes, hne]
    rw [this]
    exact goes_atW h2 i x hx
theorem goes_some : ∀ (O : List (UInt8 × Nat × Nat)) (c : UInt8), (goes O c).isSome = decide (c ∈ O.map fun x => x.1)
  | [], c => by simp [goes]
  | y :: O, c => by
    have ih := goes_some O c
    by_cases hc : y.1 = c
    · subst hc; simp [goes]
    · have e : goes (y :: O) c = goes O c := by simp [goes, hc]
      have hc' : ¬ c = y.1 := fun h => hc h.symm
      rw [e, ih]
      simp [hc']
/-- Words read, so many. -/
structure WdAt (w0 w : World) (v : Value) (L : List ByteArray) : Prop where
  short : ∀ x ∈ L, x.size ≤ 12
  own : w.ownsRow w0.heap.size 9 1 v L.length (L.map Value.string)
  bel : Below w0.heap.size w0 w
theorem own_belowW {w w' : World} {B n : Nat} {v : Value} {xs : List Value} (h : w.ownsRow B 9 1 v n xs) (hb : Below w.heap.size w w') : w'.ownsRow B 9 1 v n xs := by
  refine ⟨h.1, h.2.imp id fun ⟨g, cap, cur, h1, h2, h3, h4⟩ => ⟨g, cap, cur, h1, h2, ?_, h4⟩⟩
  exact (hb.block g (Array.getElem?_eq_some_iff.1 h3).1).trans h3
theorem lit1_strsQ (w : World) (x : ByteArray) (t : TypeId) : StrsQ (w.alloc (.cells #[.string x] t)) (.slice (some ⟨w.heap.size, 0, none⟩) 1 1) [x] := by
  rcases strs_lit w [x] #[.string x] t (by simp) (by simp) with ⟨h, _⟩ | h
  · cases h
  · exact .inr h
theorem short_long {L : List ByteArray} (h : ∀ x ∈ L, x.size ≤ 12) : longL L = false := by
  unfold longL
  rw [List.any_eq_false]
  intro x hx
  have := h x hx
  simp
  omega

set_option maxRecDepth 100000 in
set_option maxHeartbeats 1000000 in
theorem ways_law (w : World) (v : Value) (l : List Int) (y : Int) (c : UInt8) (h : IntsAt w v l) : Calls Try.prog 5 #[v, .int .i64 y, .int .u8 c.toNat] w fun e w' => e = .returned (.bool true) ∧ Below w.heap.size w w' := by
  have CA := Lib.hid awake15_any
  have CW := Lib.hid Wd.word_any
  have hbd : (l.length : Int) ≤ 9223372036854775807 := by
    rcases h with ⟨rfl, _⟩ | ⟨b, off, cap, rfl, h1, h2, h3, h4⟩
    · simp
    · unfold maxLen at h3; omega
  obtain ⟨A, cap, rfl, ho⟩ := ints_open h
  obtain ⟨n, hn⟩ : ∃ n, n = l.length := ⟨_, rfl⟩
  rw [← hn] at hbd ho ⊢
  have HO := Lib.hid ho
  have HN := Lib.hid hn
  obtain ⟨M, hM⟩ : ∃ M, M = min n 40 := ⟨_, rfl⟩
  have hM1 : M ≤ n ∧ M ≤ 40 ∧ (M = n ∨ M = 40) := by omega
  clear h ho hn hM
  go_enter Try.func5, Try.ntmps5
  go_wp2_with fail
  go_loopg [7, 8] M (fun gh x7 x8 wr => ∃ (k : Nat) (A' : Option Addr) (c' : Nat), k + gh = M ∧ x7 = .slice A' k c' ∧ x8 = .int .i64 k ∧ Hid (∃ L : List ByteArray, k = L.length ∧ WdAt w wr (.slice A' k c') L))
  case atStart => exact ⟨0, _, _, by omega, rfl, rfl, Lib.hid ⟨[], rfl, ⟨(fun _ h => by cases h), World.ownsRow_nil _ _ _ _, Below.refl _ _⟩⟩⟩
  case round =>
    obtain ⟨k, A', c', hk, rfl, rfl, HW⟩ := hrel
    go_upto_region 3 with fail
    go_cut [7, 8, 32] (fun a b t wx => a = .slice A' k c' ∧ b = .int .i64 k ∧ t = .bool (decide (k < M)) ∧ wr = wx)
    case first =>
      by_cases h1 : k < n
      · have d1 : (k : Int) < n := by omega
        by_cases h2 : k < 40
        · have d2 : (k : Int) < 40 := by omega
          have h3 : k < M := by omega
          have h4 : decide (k < M) = true := decide_eq_true h3
          clear h1 h2 h3
          go_wp2_with fail
          go_meet
          exact ⟨rfl, rfl, by rw [h4], rfl⟩
        · have d2 : ¬ (k : Int) < 40 := by omega
          have h3 : ¬ k < M := by omega
          have h4 : decide (k < M) = false := decide_eq_false h3
          clear h1 h2 h3
          go_wp2_with fail
          go_meet
          exact ⟨rfl, rfl, by rw [h4], rfl⟩
      · have d1 : ¬ (k : Int) < n := by omega
        have h3 : ¬ k < M := by omega
        have h4 : decide (k < M) = false := decide_eq_false h3
        clear h1 h3
        go_wp2_with fail
        go_meet
        exact ⟨rfl, rfl, by rw [h4], rfl⟩
    case rest =>
    obtain ⟨rfl, rfl, ht, rfl⟩ := hcut
    rcases Nat.eq_zero_or_pos gk with h0 | h0
    · have h4 : decide (k < M) = false := decide_eq_false (by omega)
      rw [h4] at ht
      subst ht
      obtain ⟨L, hL, hw⟩ := HW.out
      have HL := Lib.hid (And.intro hL hw)
      clear hL hw
      go_upto_region 7 with (go_at_call 10; refine (build_any wr _ L (strs_own HL.out.2.own rfl) (by have := HL.out.1; omega)).mono ?_; rintro e w4 ⟨hbe, hb4⟩; obtain ⟨hz, -⟩ | ⟨-, m, p, g, st, rfl, -, -, hat, -⟩ := hbe; (rw [short_long HL.out.2.short] at hz; cases hz); have HA := Lib.hid (And.intro hat hb4); clear hat hb4)
      obtain ⟨N, hN⟩ : ∃ N, N = g.nodes.length := ⟨_, rfl⟩
      have hst : st < N := by rw [hN]; exact HA.out.1.st
      have hNb : N ≤ 1000000000 := by rw [hN]; exact HA.out.1.bd.1
      have HNN := Lib.hid hN
      have HB4 := Lib.hid (show Below w.heap.size w w4 from HL.out.2.bel.trans (HA.out.2.mono HL.out.2.bel.size))
      have HA4 := Lib.hid HA.out.1
      have CS := Lib.hid (fun wx (hb : Below w4.heap.size w4 wx) => show Calls Try.prog 14 #[.pointer (some ⟨p, 0, none⟩)] wx fun e w' => e = .returned (.int .i64 N) ∧ wx = w' from by
        refine (states_any wx p g st (HA4.out.keep hb)).mono ?_
        rintro e w' ⟨rfl, rfl⟩
        rw [hN]; exact ⟨rfl, rfl⟩)
      have CT := Lib.hid (fun wx (hb : Below w4.heap.size w4 wx) => show Calls Try.prog 18 #[.pointer (some ⟨p, 0, none⟩)] wx fun e w' => e = .returned (.int .i64 st) ∧ wx = w' from by
        refine (start_any wx p g st (HA4.out.keep hb)).mono ?_
        rintro e w' ⟨rfl, rfl⟩
        exact ⟨rfl, rfl⟩)
      have CN := Lib.hid (fun wx (hb : Below w4.heap.size w4 wx) (s : Int) (c : UInt8) => next_any wx p g st (HA4.out.keep hb) s c)
      have CO := Lib.hid (fun wx (hb : Below w4.heap.size w4 wx) (s : Int) (cs : List UInt8) (m : Nat) (hcs : cs = (g.out s).map fun x => x.1) (hm : m = cs.length) => show Calls Try.prog 21 #[.pointer (some ⟨p, 0, none⟩), .int .i64 s] wx fun e w' => ∃ A6 c6, e = .returned (.slice A6 m c6) ∧ BsAt w' (.slice A6 m c6) cs ∧ Below w4.heap.size w4 w' ∧ Below wx.heap.size wx w' from by
        subst hcs hm
        refine (out_any wx p g st (HA4.out.keep hb) s).mono ?_
        rintro e w' ⟨v, rfl, hro, hb'⟩
        have hbs := bs_own hro rfl
        obtain ⟨A6, c6, rfl⟩ := bs_form hbs
        exact ⟨A6, c6, rfl, hbs, hb.trans (hb'.mono hb.size), hb'⟩)
      have CF := Lib.hid (fun wx (hb : Below w4.heap.size w4 wx) (s : Int) (hs : g.has s = false) => show Calls Try.prog 23 #[.pointer (some ⟨p, 0, none⟩), .int .i64 s] wx fun e w' => e = .returned (.bool false) ∧ wx = w' from by
        refine (final_any wx p g st (HA4.out.keep hb) s).mono ?_
        rintro e w' ⟨rfl, rfl⟩
        rw [(fin_out hs).1]; exact ⟨rfl, rfl⟩)
      have CP := Lib.hid (fun wx => place9 y 1000 wx (by omega) (by omega))
      obtain ⟨k3, hk3, hk3b⟩ : ∃ k : Nat, y % 1000 = k ∧ k < 1000 := ⟨(y % 1000).toNat, by omega, by omega⟩
      rw [hk3] at CP
      have HR := Lib.hid (Below.refl w4.heap.size w4)
      obtain ⟨M2, hM2⟩ : ∃ M2, M2 = min N 500 := ⟨_, rfl⟩
      have hM3 : M2 ≤ N ∧ M2 ≤ 500 ∧ (M2 = N ∨ M2 = 500) := by omega
      have g1 : decide ((N : Int) < 1) = false := decide_eq_false (by omega)
      have g2 : decide ((st : Int) < 0) = false := decide_eq_false (by omega)
      have g3 : decide ((N : Int) ≤ st) = false := decide_eq_false (by omega)
      have g4 : decide (N ≤ st) = false := decide_eq_false (by omega)
      clear hk3 hM2 hN HL HW HA h4
      go_wp2_with (first
        | (go_at_call 14; refine (CS.out _ HR.out).mono ?_; rintro e wq ⟨rfl, rfl⟩)
        | (go_at_call 18; refine (CT.out _ HR.out).mono ?_; rintro e wq ⟨rfl, rfl⟩))
      clear g1 g2 g3 g4
      go_loopg [11] M2 (fun gh x wr => ∃ s : Nat, s + gh = M2 ∧ x = .int .i64 s ∧ Hid (Below w4.heap.size w4 wr))
      case atStart => exact ⟨0, by omega, rfl, HR⟩
      case round =>
        obtain ⟨s, hs, rfl, HP⟩ := hrel
        go_upto_region 10 with fail
        go_cut [11, 78] (fun a t wx => a = .int .i64 s ∧ t = .bool (decide (s < M2)) ∧ wr = wx)
        case first =>
          by_cases h1 : s < N
          · have d1 : (s : Int) < N := by omega
            by_cases h2 : s < 500
            · have d2 : (s : Int) < 500 := by omega
              have h4 : decide (s < M2) = true := decide_eq_true (by omega)
              clear h1 h2
              go_wp2_with (go_at_call 14; refine (CS.out _ HP.out).mono ?_; rintro e wq ⟨rfl, rfl⟩)
              go_meet
              exact ⟨rfl, by rw [h4], rfl⟩
            · have d2 : ¬ (s : Int) < 500 := by omega
              have h4 : decide (s < M2) = false := decide_eq_false (by omega)
              clear h1 h2
              go_wp2_with (go_at_call 14; refine (CS.out _ HP.out).mono ?_; rintro e wq ⟨rfl, rfl⟩)
              go_meet
              exact ⟨rfl, by rw [h4, decide_eq_false (show ¬ ((s : Int) < 500) by omega)], rfl⟩
          · have d1 : ¬ (s : Int) < N := by omega
            have h4 : decide (s < M2) = false := decide_eq_false (by omega)
            clear h1
            go_wp2_with (go_at_call 14; refine (CS.out _ HP.out).mono ?_; rintro e wq ⟨rfl, rfl⟩)
            go_meet
            exact ⟨rfl, by rw [h4], rfl⟩
        case rest =>
        obtain ⟨rfl, ht, rfl⟩ := hcut
        rcases Nat.eq_zero_or_pos gk with h1 | h1
        · rw [decide_eq_false (show ¬ s < M2 by omega)] at ht
          subst ht
          obtain ⟨X, hX⟩ : ∃ X : Nat, X = N + k3 := ⟨_, rfl⟩
          obtain ⟨Y, hY⟩ : ∃ Y : Int, Y = -1 - (X : Int) := ⟨_, rfl⟩
          have dw : IntKind.i64.wrap ((N : Int) + k3) = (X : Int) := by rw [IntWalk.i64_in _ (by omega)]; omega
          have dw2 : IntKind.i64.wrap (-1 - (X : Int)) = Y := by rw [IntWalk.i64_in _ (by omega)]; omega
          have hX0 : g.has (X : Int) = false := decide_eq_false (by have := HNN.out; omega)
          have hY0 : g.has Y = false := decide_eq_false (by omega)
          have HX0 := Lib.hid (And.intro hX0 hY0)
          have CNX := Lib.hid (fun wx (hb : Below w4.heap.size w4 wx) => show Calls Try.prog 22 #[.pointer (some ⟨p, 0, none⟩), .int .i64 X, .int .u8 c.toNat] wx fun e w' => e = .returned (.tuple #[.int .i64 0, .bool false]) ∧ Below w4.heap.size w4 w' from by
            have h1 := CN.out wx hb (X : Int) c
            rw [(fin_out hX0).2] at h1
            exact h1.mono fun e w' he => ⟨he.1, hb.trans (he.2.mono hb.size)⟩)
          have CNY := Lib.hid (fun wx (hb : Below w4.heap.size w4 wx) => show Calls Try.prog 22 #[.pointer (some ⟨p, 0, none⟩), .int .i64 Y, .int .u8 c.toNat] wx fun e w' => e = .returned (.tuple #[.int .i64 0, .bool false]) ∧ Below w4.heap.size w4 w' from by
            have h1 := CN.out wx hb Y c
            rw [(fin_out hY0).2] at h1
            exact h1.mono fun e w' he => ⟨he.1, hb.trans (he.2.mono hb.size)⟩)
          clear hX hY hX0 hY0
          go_wp2_with fail
          refine (CS.out _ HP.out).mono ?_
          rintro e w5 ⟨rfl, rfl⟩
          go_wp2_with fail
          refine (CP.out _).mono ?_
          rintro e w5 ⟨rfl, rfl⟩
          go_wp2_with fail
          refine (CNX.out _ HP.out).mono ?_
          rintro e w6 ⟨rfl, hb6⟩
          have HB6 := Lib.hid hb6
          clear hb6
          go_wp2_with fail
          refine (CNY.out _ HB6.out).mono ?_
          rintro e w7 ⟨rfl, hb7⟩
          have HB7 := Lib.hid hb7
          clear hb7
          go_wp2_with fail
          refine (CF.out _ HB7.out _ HX0.out.1).mono ?_
          rintro e w8 ⟨rfl, rfl⟩
          go_wp2_with fail
          refine (CF.out _ HB7.out _ HX0.out.2).mono ?_
          rintro e w8 ⟨rfl, rfl⟩
          go_wp2_with fail
          refine (CO.out _ HB7.out _ [] 0 (by rw [(fin_out HX0.out.1).2]; rfl) rfl).mono ?_
          rintro e w9 ⟨A9, c9, rfl, -, hb9, -⟩
          have HB9 := Lib.hid hb9
          clear hb9
          go_wp2_with fail
          refine (CO.out _ HB9.out _ [] 0 (by rw [(fin_out HX0.out.2).2]; rfl) rfl).mono ?_
          rintro e w10 ⟨A10, c10, rfl, -, hb10, -⟩
          have HB10 := Lib.hid hb10
          clear hb10
          go_wp2_with fail
          refine (CA.out _).mono ?_
          rintro e w11 ⟨rfl, hb11⟩
          have HB11 := Lib.hid (HB10.out.trans (hb11.mono HB10.out.size))
          clear hb11
          go_wp2_with fail
          go_ret
          exact ⟨rfl, HB4.out.trans (HB11.out.mono HB4.out.size)⟩
        · rw [decide_eq_true (show s < M2 by omega)] at ht
          subst ht
          have hsN : s < N := by omega
          obtain ⟨cs, hcs⟩ : ∃ cs, cs = (g.out (s : Int)).map fun x => x.1 := ⟨_, rfl⟩
          obtain ⟨m2, hm2⟩ : ∃ m, m = cs.length := ⟨_, rfl⟩
          have hch := out_chain HA4.out.ok (show s < g.nodes.length by rw [← HNN.out]; exact hsN)
          have HC := Lib.hid (show ∀ i b, cs[i]? = some b → ∃ t : Nat, goes (g.out (s : Int)) b = some t ∧ t < N from fun i b hb => by
            rw [hcs, List.getElem?_map] at hb
            obtain ⟨x, hx, rfl⟩ := Option.map_eq_some_iff.1 hb
            refine ⟨x.2.1, goes_atW hch.rise i x hx, ?_⟩
            rw [HNN.out]
            exact to_lt HA4.out.ok (by rw [← HNN.out]; exact hsN) (List.mem_of_getElem? hx))
          have HUP := Lib.hid (show ∀ i b b', cs[i]? = some b → cs[i + 1]? = some b' → b.toNat < b'.toNat from fun i b b' hb hb' => by
            rw [hcs, List.getElem?_map] at hb hb'
            obtain ⟨x, hx, rfl⟩ := Option.map_eq_some_iff.1 hb
            obtain ⟨x', hx', rfl⟩ := Option.map_eq_some_iff.1 hb'
            have h1 := List.pairwise_iff_getElem.1 hch.rise i (i + 1) (List.getElem?_eq_some_iff.1 hx).1 (List.getElem?_eq_some_iff.1 hx').1 (by omega)
            rw [(List.getElem?_eq_some_iff.1 hx).2, (List.getElem?_eq_some_iff.1 hx').2] at h1
            exact h1)
          have HG := Lib.hid (show (goes (g.out (s : Int)) c).isSome = decide (c ∈ cs) by rw [hcs]; exact goes_some _ _)
          have HM2 := Lib.hid (And.intro hcs hm2)
          have hmb : m2 ≤ 256 := by rw [hm2, hcs, List.length_map]; exact rise_256 hch.rise
          clear hcs hm2 hch
          go_upto_region 13 with (go_at_call 21; refine (CO.out _ HP.out _ cs m2 HM2.out.1 HM2.out.2).mono ?_; rintro e w6 ⟨A6, c6, rfl, hbs6, hb6, -⟩; have HO6 := Lib.hid (And.intro hbs6 hb6); clear hbs6 hb6)
          obtain ⟨gy, hgy⟩ : ∃ gy, gy = gk := ⟨_, rfl⟩
          go_wp2_with fail
          go_loopg [13] m2 (fun gh x wq => ∃ i : Nat, i + gh = m2 ∧ x = .int .i64 i ∧ Hid (Below w6.heap.size w6 wq))
          case atStart => exact ⟨0, by omega, rfl, Lib.hid (Below.refl _ _)⟩
          case round =>
            obtain ⟨i, hi, rfl, HQ⟩ := hrel
            have HQ4 := Lib.hid (HO6.out.2.trans (HQ.out.mono HO6.out.2.size))
            rcases Nat.eq_zero_or_pos gk with h2 | h2
            · have d1 : ¬ (i : Int) < m2 := by omega
              go_upto_region 19 with fail
              have hng := fun wx (hb : Below w4.heap.size w4 wx) => CN.out wx hb (s : Int) c
              obtain ⟨ok, nn, hok, hnn, CNC⟩ : ∃ (ok : Bool) (nn : Int), ok = decide (c ∈ cs) ∧ (ok = false → nn = 0) ∧ Hid (∀ wx, Below w4.heap.size w4 wx → Calls Try.prog 22 #[.pointer (some ⟨p, 0, none⟩), .int .i64 s, .int .u8 c.toNat] wx fun e w' => e = .returned (.tuple #[.int .i64 nn, .bool ok]) ∧ Below wx.heap.size wx w') := by
                have hg := HG.out
                cases hgo : goes (g.out (s : Int)) c with
                | none =>
                  rw [hgo] at hg hng
                  exact ⟨false, 0, hg, fun _ => rfl, Lib.hid hng⟩
                | some t =>
                  rw [hgo] at hg hng
                  exact ⟨true, t, hg, fun h => (by cases h), Lib.hid hng⟩
              clear hng
              have HOK := Lib.hid (And.intro hok hnn)
              clear hok hnn
              go_upto_region 20 with (go_at_call 22; refine (CNC.out _ HQ4.out).mono ?_; rintro e w8 ⟨rfl, hb8⟩; have HB8 := Lib.hid (And.intro (HQ.out.trans (hb8.mono HQ.out.size)) (HQ4.out.trans (hb8.mono HQ4.out.size))); clear hb8)
              go_wp2_with fail
              go_loopg [18, 19] m2 (fun gh x18 x wq => ∃ i' : Nat, i' + gh = m2 ∧ x = .int .i64 i' ∧ x18 = .bool (decide (c ∈ cs.take i')) ∧ w8 = wq)
              case atStart => exact ⟨0, by omega, rfl, by simp, rfl⟩
              case round =>
                obtain ⟨j, hj, rfl, hf, rfl⟩ := hrel
                rcases Nat.eq_zero_or_pos gk with h3 | h3
                · have d2 : ¬ (j : Int) < m2 := by omega
                  have hfo : decide (c ∈ cs.take j) = ok := by rw [List.take_of_length_le (by have := HM2.out.2; omega)]; exact HOK.out.1.symm
                  rw [hfo] at hf
                  subst hf
                  have hz := HOK.out.2
                  clear hfo HOK CNC
                  cases ok with
                  | true =>
                    clear hz
                    go_wp2_with fail
                    go_roundg (gy - 1)
                    case measure => omega
                    case rel => exact ⟨s + 1, by omega, by go_num, Lib.hid HB8.out.2⟩
                  | false =>
                    obtain rfl := hz rfl
                    clear hz
                    go_wp2_with fail
                    go_roundg (gy - 1)
                    case measure => omega
                    case rel => exact ⟨s + 1, by omega, by go_num, Lib.hid HB8.out.2⟩
                · have d2 : (j : Int) < m2 := by omega
                  obtain ⟨b, hb⟩ : ∃ b, cs[j]? = some b := ⟨_, List.getElem?_eq_getElem (by have := HM2.out.2; omega)⟩
                  obtain ⟨q, off, rfl, hq, hnc, cx⟩ := bs_open HO6.out.1 j b hb
                  have cx' := (HB8.out.1.cell (p := ⟨q, off + j, none⟩) hq).trans cx
                  have htk : decide (c ∈ cs.take (j + 1)) = (decide (c ∈ cs.take j) || decide (c = b)) := by
                    rw [List.take_add_one, hb]; simp
                  obtain ⟨fb, hfb⟩ : ∃ fb, fb = decide (c ∈ cs.take j) := ⟨_, rfl⟩
                  rw [← hfb] at htk hf
                  have HTK := Lib.hid htk
                  subst hf
                  clear htk hfb hb cx
                  cases fb with
                  | true =>
                    go_wp2_with fail
                    go_roundg (gk - 1)
                    case measure => omega
                    case rel => exact ⟨j + 1, by omega, by go_num, by rw [HTK.out]; simp, rfl⟩
                  | false =>
                    by_cases he : c = b
                    · subst he
                      have d3 : ((c.toNat : Int) == (c.toNat : Int)) = true := by simp
                      go_wp2_with fail
                      go_roundg (gk - 1)
                      case measure => omega
                      case rel => exact ⟨j + 1, by omega, by go_num, by rw [HTK.out]; simp, rfl⟩
                    · have hne : b.toNat ≠ c.toNat := fun h => he (UInt8.toNat_inj.1 h).symm
                      have d3 : ((b.toNat : Int) == (c.toNat : Int)) = false := by rw [beq_eq_false_iff_ne]; omega
                      have d4 : (b.toNat == c.toNat) = false := by rw [beq_eq_false_iff_ne]; exact hne
                      have HE := Lib.hid he
                      clear he hne
                      go_wp2_with fail
                      go_roundg (gk - 1)
                      case measure => omega
                      case rel => exact ⟨j + 1, by omega, by go_num, by rw [HTK.out]; simp [HE.out], rfl⟩
            · have d1 : (i : Int) < m2 := by omega
              obtain ⟨b, hb⟩ : ∃ b, cs[i]? = some b := ⟨_, List.getElem?_eq_getElem (by have := HM2.out.2; omega)⟩
              obtain ⟨q, off, rfl, hq, hnc, cx⟩ := bs_open HO6.out.1 i b hb
              obtain ⟨t, ht1, ht2⟩ := HC.out i b hb
              have cx' := (HQ.out.cell (p := ⟨q, off + i, none⟩) hq).trans cx
              have CNB := Lib.hid (fun wx (hb' : Below w4.heap.size w4 wx) => show Calls Try.prog 22 #[.pointer (some ⟨p, 0, none⟩), .int .i64 s, .int .u8 b.toNat] wx fun e w' => e = .returned (.tuple #[.int .i64 t, .bool true]) ∧ Below wx.heap.size wx w' from by
                have h1 := CN.out wx hb' (s : Int) b
                rw [ht1] at h1
                exact h1)
              have HQB := Lib.hid (And.intro hb (And.intro hq cx))
              clear hb cx ht1
              go_upto_region 17 with (go_at_call 22; refine (CNB.out _ HQ4.out).mono ?_; rintro e w7 ⟨rfl, hb7⟩; have HB7 := Lib.hid (And.intro (HQ.out.trans (hb7.mono HQ.out.size)) (HQ4.out.trans (hb7.mono HQ4.out.size))); clear hb7)
              have e2 : decide ((t : Int) < 0) = false := decide_eq_false (by omega)
              have e3 : decide ((N : Int) ≤ t) = false := decide_eq_false (by omega)
              have e4 : decide (N ≤ t) = false := decide_eq_false (by omega)
              have cx7 := (HB7.out.1.cell (p := ⟨q, off + i, none⟩) HQB.out.2.1).trans HQB.out.2.2
              clear cx'
              rcases Nat.eq_zero_or_pos i with hi0 | hi0
              · have e5 : decide ((0 : Int) < i) = false := decide_eq_false (by omega)
                have e6 : decide (0 < i) = false := decide_eq_false (by omega)
                go_quiet ((go_at_call 14; refine (CS.out _ (by first | exact HB7.out.2 | exact Wd.below_dr HB7.out.2 _)).mono ?_; rintro e w9 ⟨rfl, rfl⟩; exact ⟨rfl, _, rfl⟩))
                go_wp2_with fail
                go_roundg (gk - 1)
                case measure => omega
                case rel => exact ⟨i + 1, by omega, by go_num, Lib.hid (Wd.below_dr HB7.out.1 _)⟩
              · have e5 : (0 : Int) < i := by omega
                obtain ⟨z, hz⟩ : ∃ z : Nat, (i : Int) - 1 = z := ⟨i - 1, by omega⟩
                have dw : IntKind.i64.wrap ((i : Int) - 1) = (z : Int) := by rw [IntWalk.i64_in _ (by omega)]; exact hz
                obtain rfl : i = z + 1 := by omega
                obtain ⟨b0, hb0⟩ : ∃ b0, cs[z]? = some b0 := ⟨_, List.getElem?_eq_getElem (by have := HM2.out.2; omega)⟩
                have hup := HUP.out z b0 b hb0 HQB.out.1
                obtain ⟨q', off', e', _, _, c0⟩ := bs_open HO6.out.1 z b0 hb0
                cases e'
                have c07 := (HB7.out.1.cell (p := ⟨q, off + z, none⟩) HQB.out.2.1).trans c0
                have e6 : decide ((b.toNat : Int) ≤ b0.toNat) = false := decide_eq_false (by omega)
                have e7 : decide (b.toNat ≤ b0.toNat) = false := decide_eq_false (by omega)
                have z1 : (z : Int) < m2 := by omega
                have z0 : (0 : Int) ≤ z := by omega
                clear c0 hb0 hup hz
                go_quiet ((go_at_call 14; refine (CS.out _ (by first | exact HB7.out.2 | exact Wd.below_dr HB7.out.2 _)).mono ?_; rintro e w9 ⟨rfl, rfl⟩; exact ⟨rfl, _, rfl⟩))
                go_wp2_with fail
                go_roundg (gk - 1)
                case measure => omega
                case rel => exact ⟨z + 1 + 1, by omega, by go_num, Lib.hid (Wd.below_dr HB7.out.1 _)⟩
    · have h4 : decide (k < M) = true := decide_eq_true (by omega)
      rw [h4] at ht
      subst ht
      obtain ⟨z, hz⟩ : ∃ z, l[k]? = some z := ⟨_, List.getElem?_eq_getElem (by have := HN.out; omega)⟩
      obtain ⟨q, off, rfl, hb, hnc, cx⟩ := HO.out k z hz
      obtain ⟨L, hL, hw⟩ := HW.out
      have HL := Lib.hid (And.intro hL hw)
      have cx' := (hw.bel.cell (p := ⟨q, off + k, none⟩) hb).trans cx
      have d1 : (k : Int) < n := by omega
      clear hz cx hL hw
      go_wp2_with (first
        | (go_at_call 20; refine (CW.out _ _).mono ?_; rintro e w2 ⟨x, rfl, hx, hb2⟩; have HX := Lib.hid (And.intro hx hb2); clear hx hb2)
        | (at_builtin; refine wpList_append_strs rfl _ _ rfl w.heap.size (.slice A' k c') L _ [x] rfl (by have h1 := (own_belowW HL.out.2.own HX.out.2).alloc (.cells #[.string x] 9); exact h1) rfl (lit1_strsQ _ _ _) (by have := HL.out.1; simp; omega) (by have h1 := HL.out.2.bel.size; have h2 := HX.out.2.size; simp; omega) ?_; intro v3 w3 ho3 hg3; rw [show (L ++ [x]).length = k + 1 by rw [HL.out.1]; simp] at ho3; have HO3 := Lib.hid (And.intro ho3 hg3); clear ho3 hg3; obtain ⟨A3, c3, rfl⟩ := row_shape HO3.out.1))
      have HNX := Lib.hid (show ∃ L' : List ByteArray, k + 1 = L'.length ∧ WdAt w w3 (.slice A3 (k + 1) c3) L' from by
        have e : (L ++ [x]).length = k + 1 := by rw [HL.out.1]; simp
        refine ⟨L ++ [x], e.symm, ⟨fun u hu => ?_, by rw [e]; exact HO3.out.1, ?_⟩⟩
        · rw [List.mem_append, List.mem_singleton] at hu
          rcases hu with hu | rfl
          · exact HL.out.2.short u hu
          · exact HX.out.1
        · exact HO3.out.2.below ((HL.out.2.bel.trans (HX.out.2.mono HL.out.2.bel.size)).alloc (Nat.le_trans HL.out.2.bel.size HX.out.2.size) _) (by have h1 := HL.out.2.bel.size; have h2 := HX.out.2.size; simp; omega) fun g hg => (HL.out.2.own.lt g hg).1)
      go_roundg (gk - 1)
      case measure => omega
      case rel => exact ⟨k + 1, A3, c3, by omega, rfl, by go_num, HNX⟩
end Go.Proofs.Ytkabdieenijnlaa
