/- The search for the first word with a byte: state's closure, sort.Search, by contract. -/
import Derived.Test.YtkabdieenijnlaaIMem
import Derived.Shelf.Abstract
namespace Go.Proofs.Ytkabdieenijnlaa
open Go Go.RowKit Go.Lib Go.Shelf

theorem byte_at {s : ByteArray} {k : Nat} (h : k < s.size) : ∃ c, s.data.toList[k]? = some c ∧ s[k]'h = c := by
  have h1 : s.data.toList[k]? = s.data[k]? := Array.getElem?_toList
  have h2 : s.data[k]? = some (s.data[k]'h) := Array.getElem?_eq_getElem h
  exact ⟨_, h1.trans h2, rfl⟩
/-- What the closure reads. -/
structure SrAt (w : World) (bw bd bb : Nat) (A : Option Addr) (m cap d : Nat) (by_ : UInt8) (ws : List ByteArray) : Prop where
  words : w.cell? ⟨bw, 0, none⟩ = some (.slice A m cap)
  dep : w.cell? ⟨bd, 0, none⟩ = some (.int .i64 d)
  byte : w.cell? ⟨bb, 0, none⟩ = some (.int .u8 by_.toNat)
  text : ∀ (i : Nat) s, i < m → ws[i]? = some s → ∃ q off, A = some ⟨q, off, none⟩ ∧ m ≤ cap ∧ w.cell? ⟨q, off + i, none⟩ = some (.string s)
theorem SrAt.keep {w w' : World} {bw bd bb : Nat} {A : Option Addr} {m cap d : Nat} {by_ : UInt8} {ws : List ByteArray} (h : SrAt w bw bd bb A m cap d by_ ws) (hb : Below w.heap.size w w') : SrAt w' bw bd bb A m cap d by_ ws := by
  have key : ∀ p v, w.cell? p = some v → w'.cell? p = some v := fun p v hp => (cell_old hb (World.block_lt_of_cell? _ _ hp)).trans hp
  refine ⟨key _ _ h.words, key _ _ h.dep, key _ _ h.byte, fun i s hi hs => ?_⟩
  obtain ⟨q, off, h1, h2, h3⟩ := h.text i s hi hs
  exact ⟨q, off, h1, h2, key _ _ h3⟩
set_option maxRecDepth 100000 in
theorem has_any15 (w : World) (bw bd bb : Nat) (A : Option Addr) (m cap d : Nat) (by_ : UInt8) (ws : List ByteArray) (h : SrAt w bw bd bb A m cap d by_ ws) (i : Nat) (s : ByteArray) (c : UInt8) (hi : i < m) (hs : ws[i]? = some s) (hc : s.data.toList[d]? = some c) :
    Calls Try.prog 53 #[.int .i64 i, .pointer (some ⟨bw, 0, none⟩), .pointer (some ⟨bd, 0, none⟩), .pointer (some ⟨bb, 0, none⟩)] w fun e w' => e = .returned (.bool (decide (by_ ≤ c))) ∧ Below w.heap.size w w' := by
  obtain ⟨q, off, rfl, hmc, hcell⟩ := h.text i s hi hs
  obtain ⟨h1, h2, h3, -⟩ := h
  have hd : d < s.size := by have := (List.getElem?_eq_some_iff.1 hc).1; rw [Array.length_toList] at this; exact this
  obtain ⟨c', hc', hget⟩ := byte_at hd
  rw [hc] at hc'
  cases hc'
  have HE := Lib.hid (show decide (by_.toNat ≤ c.toNat) = decide (by_ ≤ c) from decide_eq_decide.2 (by rw [UInt8.le_iff_toNat_le]))
  have i0 : (0 : Int) ≤ i := by omega
  have i1 : (i : Int) < m := by omega
  have d0 : (0 : Int) ≤ d := by omega
  have d1 : (d : Int) < s.size := by omega
  clear hs hc hi
  go_enter Try.func53, Try.ntmps53
  go_wp2_with fail
  go_quiet (fail)
  go_wp2_with fail
  go_ret
  exact ⟨congrArg (fun b => Ending.returned (.bool b)) HE.out, (Below.refl _ w).trans ⟨rfl, rfl, rfl, Nat.le_refl _, fun _ _ => rfl⟩⟩

set_option maxRecDepth 100000 in
set_option maxHeartbeats 1000000 in
theorem search_any (w : World) (bw bd bb : Nat) (A : Option Addr) (m cap d : Nat) (by_ : UInt8) (ws : List ByteArray) (h : SrAt w bw bd bb A m cap d by_ ws) (hd : Nat → UInt8) (hm : m ≤ 1000000000) (hh : ∀ i, i < m → ∃ s, ws[i]? = some s ∧ s.data.toList[d]? = some (hd i)) (mono : ∀ i j, i ≤ j → j < m → hd i ≤ hd j) :
    Calls Try.prog 52 #[.int .i64 m, .func (.func 53) #[] #[.pointer (some ⟨bw, 0, none⟩), .pointer (some ⟨bd, 0, none⟩), .pointer (some ⟨bb, 0, none⟩)]] w fun e w' => ∃ k : Nat, e = .returned (.int .i64 k) ∧ (k ≤ m ∧ (∀ i, i < k → hd i < by_) ∧ ∀ i, k ≤ i → i < m → by_ ≤ hd i) ∧ Below w.heap.size w w' := by
  have HS := Lib.hid h
  have HH := Lib.hid (And.intro hh mono)
  clear h hh mono
  go_enter Try.func52, Try.ntmps52
  go_wp2_with fail
  go_loopg [5, 6] m (fun gh x y wr => ∃ a b : Nat, x = .int .i64 a ∧ y = .int .i64 b ∧ b - a ≤ gh ∧ a ≤ b ∧ b ≤ m ∧ Hid (Below w.heap.size w wr ∧ (∀ i, i < a → ¬ by_ ≤ hd i) ∧ ∀ i, b ≤ i → i < m → by_ ≤ hd i))
  case atStart => exact ⟨0, m, rfl, rfl, by omega, by omega, Nat.le_refl _, Lib.hid ⟨Below.refl _ _, fun i hi => absurd hi (Nat.not_lt_zero _), fun i h1 h2 => by omega⟩⟩
  case round =>
    obtain ⟨a, b, rfl, rfl, hg, hab, hbm, HP⟩ := hrel
    by_cases hlt : a < b
    · have h1 : (a : Int) < b := by omega
      have h2 : IntKind.i64.wrap ((a : Int) + b) = (a : Int) + b := IntWalk.i64_in _ (by omega)
      obtain ⟨q, hq⟩ : ∃ q, q = (a + b) / 2 := ⟨_, rfl⟩
      have hq2 : ((a : Int) + b) / 2 = (q : Int) := by omega
      have haq : a ≤ q ∧ q < b := by omega
      obtain ⟨s, hs, hc⟩ := HH.out.1 q (by omega)
      have C1 := Lib.hid (has_any15 wr bw bd bb A m cap d by_ ws (HS.out.keep HP.out.1) q s (hd q) (by omega) hs hc)
      have HQ := Lib.hid haq
      clear hq hs hc haq
      by_cases hge : by_ ≤ hd q
      · have C2 := Lib.hid (decide_eq_true hge ▸ C1.out)
        have HGE := Lib.hid hge
        clear hge C1
        go_wp2_with fail
        refine C2.out.mono ?_
        rintro e w2 ⟨rfl, hb⟩
        have HP2 := Lib.hid (show Below w.heap.size w w2 ∧ (∀ i, i < a → ¬ by_ ≤ hd i) ∧ ∀ i, q ≤ i → i < m → by_ ≤ hd i from ⟨HP.out.1.trans (hb.mono HP.out.1.size), HP.out.2.1, fun i h1 h2 => UInt8.le_trans HGE.out (HH.out.2 q i h1 h2)⟩)
        have g1 : q - a < gk := by have := HQ.out; omega
        have g2 : a ≤ q ∧ q ≤ m := by have := HQ.out; omega
        clear hb C2 HP
        go_wp2_with fail
        go_roundg (q - a)
        case measure => exact g1
        case rel => exact ⟨a, q, rfl, rfl, by omega, g2.1, g2.2, HP2⟩
      · have C2 := Lib.hid (decide_eq_false hge ▸ C1.out)
        have HGE := Lib.hid hge
        clear hge C1
        go_wp2_with fail
        refine C2.out.mono ?_
        rintro e w2 ⟨rfl, hb⟩
        have HP2 := Lib.hid (show Below w.heap.size w w2 ∧ (∀ i, i < q + 1 → ¬ by_ ≤ hd i) ∧ ∀ i, b ≤ i → i < m → by_ ≤ hd i from ⟨HP.out.1.trans (hb.mono HP.out.1.size), fun i hi hle => HGE.out (UInt8.le_trans hle (HH.out.2 i q (by omega) (by have := HQ.out; omega))), HP.out.2.2⟩)
        have g1 : b - (q + 1) < gk := by have := HQ.out; omega
        have g2 : q + 1 ≤ b := by have := HQ.out; omega
        clear hb C2 HP
        go_wp2_with fail
        go_roundg (b - (q + 1))
        case measure => exact g1
        case rel => exact ⟨q + 1, b, by go_num, rfl, Nat.le_refl _, g2, hbm, HP2⟩
    · obtain rfl : a = b := by omega
      have h1 : ¬ (a : Int) < a := by omega
      clear hlt hg hab
      go_wp2_with fail
      go_ret
      exact ⟨a, rfl, ⟨hbm, fun i hi => UInt8.not_le.1 (HP.out.2.1 i hi), HP.out.2.2⟩, HP.out.1⟩
end Go.Proofs.Ytkabdieenijnlaa
