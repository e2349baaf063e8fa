/- Slice, by contract; what is asked of a store's calls, of the landed code. -/
import Derived.Test.YtfdnlbeancdajaaBAdd
import Derived.Test.YtfdnlbeancdajaaBBuild
import Derived.Test.YtfdnlbeancdajaaBSays
namespace Go.Proofs.Ytfdnlbeancdajaa.Sto
open Go Go.RowKit

set_option maxRecDepth 100000 in
set_option maxHeartbeats 1000000 in
theorem slice_no (w : World) (b : Nat) (v : Value) (cs : List Nat) (s : ByteArray) (k m : Int) (h : Lies w b v cs s) (hno : k < 0 ∨ m < 0 ∨ (s.size : Int) < k ∨ (s.size : Int) - k < m) (hs : s.size ≤ 1000000)
    (h1 : -9223372036854775808 ≤ k) (h2 : k ≤ 9223372036854775807) (h3 : -9223372036854775808 ≤ m) (h4 : m ≤ 9223372036854775807) :
    Calls Try.prog 64 #[.pointer (some ⟨b, 0, none⟩), .int .i64 k, .int .i64 m] w fun e w' => e = .returned (.tuple #[.string ⟨#[]⟩, .bool false]) ∧ w' = w := by
  have c1 := h.cell1
  clear h
  by_cases hk : k < 0
  · clear hno
    go_enter Try.func64, Try.ntmps64
    go_wp2_with fail
    go_ret2
    exact ⟨rfl, rfl⟩
  · by_cases hm : m < 0
    · clear hno
      go_enter Try.func64, Try.ntmps64
      go_wp2_with fail
      go_ret2
      exact ⟨rfl, rfl⟩
    · have hl : (s.size : Int) - k < m := by omega
      have hs2 : (s.size : Int) ≤ 1000000 := by omega
      have hs3 : (0 : Int) ≤ s.size := by omega
      clear hno
      go_enter Try.func64, Try.ntmps64
      go_wp2_with fail
      go_ret2
      exact ⟨rfl, rfl⟩

/-- The bytes of a text between two places. -/
def bytesOf (s : ByteArray) (k p : Nat) : List UInt8 := (s.extract k p).data.toList
theorem bytesOf_length (s : ByteArray) (k p : Nat) (hk : k ≤ p) (hp : p ≤ s.size) : (bytesOf s k p).length = p - k := by
  have : (s.extract k p).data.toList.length = (s.extract k p).size := by rw [Array.length_toList]; rfl
  rw [bytesOf, this, ByteArray.size_extract]; omega
theorem bytesOf_join (s : ByteArray) (k p q : Nat) (hk : k ≤ p) (hq : p ≤ q) : bytesOf s k p ++ bytesOf s p q = bytesOf s k q := by
  have h := congrArg (fun x : ByteArray => x.data.toList) (ByteArray.extract_append_extract (a := s) (i := k) (j := p) (k := q))
  rw [Nat.min_eq_left hk, Nat.max_eq_right hq] at h
  simp only [ByteArray.data_append, Array.toList_append] at h
  exact h

/-- Between two rounds: the bytes so far, in a builder of the call's own. -/
def SliceR (w : World) (s : ByteArray) (k p : Nat) (wr : World) : Prop := Lib.IsBuilder /-t-/94 /-t-/5 w.heap.size w.heap.size (Lib.byteCells (bytesOf s k p)) wr ∧ Below w.heap.size w wr

set_option maxRecDepth 100000 in
set_option maxHeartbeats 2000000 in
theorem slice_yes (w : World) (b : Nat) (v : Value) (cs : List Nat) (s : ByteArray) (k m : Nat) (h : Lies w b v cs s) (hkm : k + m ≤ s.size) (hs : s.size ≤ 1000000) :
    Calls Try.prog 64 #[.pointer (some ⟨b, 0, none⟩), .int .i64 k, .int .i64 m] w fun e w' => e = .returned (.tuple #[.string (s.extract k (k + m)), .bool true]) ∧ Below w.heap.size w w' := by
  have c1 := h.cell1
  have k0 : (0 : Int) ≤ k := by omega
  have m0 : (0 : Int) ≤ m := by omega
  have k1 : (k : Int) ≤ s.size := by omega
  have m1 : ¬ ((s.size : Int) - k < m) := by omega
  have s1 : (s.size : Int) ≤ 1000000 := by omega
  have HL := Lib.hid h
  have hbk : (w.alloc (.cells #[.pointer none, .slice none 0 0] /-t-/94)).heap[w.heap.size]? = some (.cells #[.pointer none, .slice none 0 0] /-t-/94 (0, 0)) := World.alloc_heap_new _ _
  have CG := Lib.hid (Try.Builder_Grow_fresh w.heap.size w.heap.size m (w.alloc (.cells #[.pointer none, .slice none 0 0] /-t-/94)) (Nat.le_refl _) hbk (by simp) (by omega))
  clear h hbk
  go_enter Try.func64, Try.ntmps64
  go_wp2_with (go_at_call 42; refine (CG.out).mono ?_; rintro e w1 ⟨rfl, hat, hb⟩; have H1 := Lib.hid (show SliceR w s k k w1 from ⟨.inr (by simpa [bytesOf, Lib.byteCells] using hat), ((Below.refl _ _).alloc (Nat.le_refl _) _).trans hb⟩); clear hat hb)
  go_loopw [1, 2] (fun x y wr => ∃ p q : Nat, x = .int .i64 p ∧ y = .int .i64 q ∧ p + q = k + m ∧ k ≤ p ∧ Hid (SliceR w s k p wr)) (fun _ y _ => (RowKit.intOf y).toNat)
  case atStart => exact ⟨k, m, rfl, rfl, rfl, Nat.le_refl _, H1⟩
  case round =>
    obtain ⟨p, q, rfl, rfl, hpq, hkp, HR⟩ := hrel
    by_cases hq : q = 0
    · subst hq
      obtain rfl : p = k + m := by omega
      have CS := Lib.hid (Try.Builder_String_any w.heap.size w.heap.size (bytesOf s k (k + m)) wr HR.out.1 HR.out.2.size)
      have HB := Lib.hid HR.out.2
      clear c1 HR H1 CG
      go_wp2_with (go_at_call 48; refine (CS.out).mono ?_; rintro e w2 ⟨rfl, hb⟩)
      go_ret2
      exact ⟨rfl, HB.out.trans hb⟩
    · have hL := HL.out.below HR.out.2
      have hfit := hL.fits
      obtain ⟨c, hc⟩ : ∃ c, cs[p / 1024]? = some c := ⟨_, List.getElem?_eq_getElem (by omega)⟩
      obtain ⟨g, cap, hv, hcap, hcg⟩ := hL.list hc
      obtain ⟨o, ho⟩ : ∃ o : Nat, o = p % 1024 := ⟨_, rfl⟩
      obtain ⟨j, hj⟩ : ∃ j : Nat, j = p / 1024 := ⟨_, rfl⟩
      obtain ⟨n, hn⟩ : ∃ n : Nat, n = min q (1024 - o) := ⟨_, rfl⟩
      have d0 : wr.cell? ⟨b, 0, none⟩ = some (.slice (some ⟨g, 0, none⟩) cs.length cap) := by rw [← hv]; exact hL.cell0
      have d2 : wr.cell? ⟨g, j, none⟩ = some (.pointer (some ⟨c, 0, none⟩)) := by rw [hj]; exact hcg
      have hclt : c < w.heap.size := HL.out.lt c (.inr (.inr (List.mem_of_getElem? hc)))
      have hpn : p + n ≤ s.size := by omega
      have hon : o + n ≤ 1024 := by omega
      have hpart := hL.part (k := n) hc ho hon hpn
      have hlen1 := bytesOf_length s k p hkp (by omega)
      have hlen2 := bytesOf_length s p (p + n) (by omega) hpn
      have CW := Lib.hid (fun c2 => write_any w.heap.size w.heap.size (Lib.byteCells (bytesOf s k p)) ⟨c, o, none⟩ n c2 (Lib.byteCells (bytesOf s p (p + n))) wr HR.out.1
        (by rw [Lib.byteCells_length, hlen2]; omega) hpart hclt (by intro x hx; obtain ⟨y, _, rfl⟩ := List.mem_map.1 hx; rfl) (by rw [Lib.byteCells_length, hlen1]; omega) HR.out.2.size)
      have HX := Lib.hid (show Lib.byteCells (bytesOf s k p) ++ Lib.byteCells (bytesOf s p (p + n)) = Lib.byteCells (bytesOf s k (p + n)) by rw [← Lib.byteCells_append, bytesOf_join s k p (p + n) hkp (by omega)])
      have HP := Lib.hid (show p + n + (q - n) = k + m ∧ k ≤ p + n ∧ q - n < q by omega)
      have HB := Lib.hid HR.out.2
      have p0 : (0 : Int) ≤ p := by omega
      have q0 : (0 : Int) < q := by omega
      have p1 : (p : Int) ≤ 1000000 := by omega
      have q1 : (q : Int) ≤ 1000000 := by omega
      have e1 : (p : Int).tdiv 1024 = (j : Int) := by rw [Int.tdiv_eq_ediv_of_nonneg (by omega)]; omega
      have e2 : (p : Int).tmod 1024 = (o : Int) := by rw [Int.tmod_eq_emod_of_nonneg (by omega)]; omega
      have e3 : (p : Int) / 1024 = (j : Int) := by omega
      have e4 : (p : Int) % 1024 = (o : Int) := by omega
      have l1 : j < cs.length := by omega
      have l2 : o < 1024 := by omega
      have l3 : (0 : Int) ≤ j := by omega
      have l4 : (j : Int) < cs.length := by omega
      have l5 : (0 : Int) ≤ o := by omega
      have l6 : (o : Int) ≤ 1024 := by omega
      have l7 : ¬ 1024 = o := by omega
      have n1 : n ≤ 1024 - o := by omega
      have n2 : (n : Int) ≤ ((1024 - o : Nat) : Int) := by omega
      have n3 : (n : Int) ≤ q := by omega
      have n4 : (0 : Int) ≤ n := by omega
      have n5 : (0 : Int) < n := by omega
      have n6 : (n : Int) ≤ 1024 := by omega
      have nm : min (q : Int) ((1024 - o : Nat) : Int) = (n : Int) := by omega
      clear hL hfit hc hcg ho hj hpart hlen1 hlen2 c1 H1 CG hclt hpn hon hpq hkp HR hv hn hq
      go_wp2_with fail
      refine (CW.out _).mono ?_
      rintro e w2 ⟨⟨vv, rfl⟩, hbu, hb2⟩
      have H2 := Lib.hid (show SliceR w s k (p + n) w2 from ⟨by rw [HX.out] at hbu; exact hbu, HB.out.trans hb2⟩)
      clear hbu hb2
      go_wp2_with fail
      go_roundw
      case rel => exact ⟨p + n, q - n, by go_num, by go_num, HP.out.1, HP.out.2.1, H2⟩
      case measure => simp [RowKit.intOf]; have := HP.out.2.2; omega

/-- At a, in the blocks F, a store of the text s, with no chunk to spare. -/
def RepB (F : Nat → Prop) (w : World) (a : Addr) (s : ByteArray) : Prop :=
  ∃ (b : Nat) (v : Value) (cs : List Nat), a = ⟨b, 0, none⟩ ∧ F = Foot b v cs ∧ Lies w b v cs s ∧ cs.length * 1024 < s.size + 1024

theorem append_none (u : ByteArray) : u ++ (⟨#[]⟩ : ByteArray) = u := ByteArray.append_empty

theorem store_says : Says RepB where
  new := fun w f hf => (new_any w f hf).mono fun _ _ ⟨b, v, cs, he, hL, hT, hO, hF⟩ => ⟨_, _, he, ⟨b, v, cs, rfl, rfl, hL, hT⟩, hO, hF⟩
  add := by
    rintro _ w _ s t ⟨b, v, cs, rfl, rfl, hL, hT⟩ hs
    refine (add_any w b v cs s t hL hT hs).mono ?_
    rintro e w' ⟨he, H⟩
    obtain ⟨u, v', cs', hu, hL', hT', hO, hF⟩ := H.out
    rw [append_none] at hu
    subst hu
    exact ⟨_, he, ⟨b, v', cs', rfl, rfl, hL', hT'⟩, hO, hF⟩
  yes := by
    rintro _ w _ s k m ⟨b, v, cs, rfl, rfl, hL, hT⟩ hk hs
    refine (slice_yes w b v cs s k m hL hk hs).mono ?_
    rintro e w' ⟨he, hb⟩
    exact ⟨_, he, ⟨b, v, cs, rfl, rfl, hL.below hb, hT⟩, OnlyAt.of_below hb, fun k hk => .inl hk⟩
  no := by
    rintro _ w _ s k m ⟨b, v, cs, rfl, rfl, hL, hT⟩ hk hs h1 h2 h3 h4
    refine (slice_no w b v cs s k m hL hk hs h1 h2 h3 h4).mono ?_
    rintro e w' ⟨he, rfl⟩
    exact ⟨_, he, ⟨b, v, cs, rfl, rfl, hL, hT⟩, OnlyAt.refl _ _, fun k hk => .inl hk⟩
  lt := by
    rintro _ w _ s ⟨b, v, cs, rfl, rfl, hL, hT⟩
    exact hL.lt
  frame := by
    rintro _ w w' _ s ⟨b, v, cs, rfl, rfl, hL, hT⟩ hk
    exact ⟨b, v, cs, rfl, rfl, hL.keeps hk, hT⟩
end Go.Proofs.Ytfdnlbeancdajaa.Sto
