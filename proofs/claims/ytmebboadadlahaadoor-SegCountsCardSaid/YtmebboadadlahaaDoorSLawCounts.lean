/- SegCounts out of the contract of seg.All: the walk. -/
import Derived.Test.YtmebboadadlahaaDoorSPieces
import Derived.Test.YtmebboadadlahaaDoorSTexts
import Derived.BigQuiet
namespace Go.Proofs.YtmebboadadlahaaDoor
open Go Go.RowKit Go.Lib

def cNum (z : Int) : Nat := 1 + (z % 9).toNat
theorem cToks_at (g : Nat) : ∀ (ks : List Nat) (q k : Nat), ks[q]? = some k → ∀ a, ∃ p, (cToks (cGap g).size a ks)[q]? = some (p, p + k, true)
  | [], q, k, h, _ => by simp at h
  | x :: ks, 0, k, h, a => by
    simp at h; subst h
    exact ⟨a, rfl⟩
  | x :: ks, q + 1, k, h, a => by
    simp at h
    obtain ⟨p, hp⟩ := cToks_at g ks q k h (a + x + (cGap g).size)
    exact ⟨p, by rw [cToks, List.getElem?_cons_succ, hp]⟩
theorem own_form {w : World} {B e size n : Nat} {v : Value} {xs : List Value} (h : w.ownsRow B e size v n xs) :
    ∃ A cap, v = .slice A n cap ∧ (n ≤ cap ∧ cap ≤ maxLen) ∧ (0 < n → ∃ g, A = some ⟨g, 0, none⟩ ∧ g < w.heap.size ∧ ∀ j u, xs[j]? = some u → w.cell? ⟨g, j, none⟩ = some u) := by
  by_cases h0 : 0 < n
  · obtain ⟨g, cap, rfl, _, hg, h1, h2, hc⟩ := own_open h h0
    exact ⟨_, cap, rfl, ⟨h1, h2⟩, fun _ => ⟨g, rfl, hg, hc⟩⟩
  · rcases h.2 with ⟨rfl, h00⟩ | ⟨g, cap, cur, rfl, _, _, h1, h2, _⟩
    · exact ⟨none, 0, by rw [h00], ⟨by omega, Nat.zero_le _⟩, fun h => absurd h h0⟩
    · exact ⟨_, cap, rfl, ⟨h1, h2⟩, fun h => absurd h h0⟩
theorem cNum_ok {zs : List Int} : ∀ k ∈ zs.map cNum, 0 < k ∧ k < 10 := by
  intro k hk
  obtain ⟨z, _, rfl⟩ := List.mem_map.1 hk
  unfold cNum
  omega
/-- The ends of the words. -/
def cEnds (g : Nat) (ks : List Nat) : List Value := (cToks (cGap g).size 0 ks).map fun t => .int .i64 t.2.1
theorem cgap_at0 (w : World) : (Instr.index 43 (.agg #[.string ⟨#[32]⟩, .string ⟨#[44, 32]⟩, .string ⟨#[45]⟩, .string ⟨#[255]⟩, .string ⟨#[32, 39, 32]⟩]) (.int .i64 0)).run Tryd.prog w = .ok (.string (cGap 0)) w := by kernel_rfl
theorem cgap_at1 (w : World) : (Instr.index 43 (.agg #[.string ⟨#[32]⟩, .string ⟨#[44, 32]⟩, .string ⟨#[45]⟩, .string ⟨#[255]⟩, .string ⟨#[32, 39, 32]⟩]) (.int .i64 1)).run Tryd.prog w = .ok (.string (cGap 1)) w := by kernel_rfl
theorem cgap_at2 (w : World) : (Instr.index 43 (.agg #[.string ⟨#[32]⟩, .string ⟨#[44, 32]⟩, .string ⟨#[45]⟩, .string ⟨#[255]⟩, .string ⟨#[32, 39, 32]⟩]) (.int .i64 2)).run Tryd.prog w = .ok (.string (cGap 2)) w := by kernel_rfl
theorem cgap_at3 (w : World) : (Instr.index 43 (.agg #[.string ⟨#[32]⟩, .string ⟨#[44, 32]⟩, .string ⟨#[45]⟩, .string ⟨#[255]⟩, .string ⟨#[32, 39, 32]⟩]) (.int .i64 3)).run Tryd.prog w = .ok (.string (cGap 3)) w := by kernel_rfl
theorem cgap_at4 (w : World) : (Instr.index 43 (.agg #[.string ⟨#[32]⟩, .string ⟨#[44, 32]⟩, .string ⟨#[45]⟩, .string ⟨#[255]⟩, .string ⟨#[32, 39, 32]⟩]) (.int .i64 4)).run Tryd.prog w = .ok (.string (cGap 4)) w := by kernel_rfl
theorem cgap_at (i : Nat) (h : i < 5) (w : World) : (Instr.index 43 (.agg #[.string ⟨#[32]⟩, .string ⟨#[44, 32]⟩, .string ⟨#[45]⟩, .string ⟨#[255]⟩, .string ⟨#[32, 39, 32]⟩]) (.int .i64 i)).run Tryd.prog w = .ok (.string (cGap i)) w := by
  have hc : i = 0 ∨ i = 1 ∨ i = 2 ∨ i = 3 ∨ i = 4 := by omega
  rcases hc with rfl | rfl | rfl | rfl | rfl
  · exact cgap_at0 w
  · exact cgap_at1 w
  · exact cgap_at2 w
  · exact cgap_at3 w
  · exact cgap_at4 w

set_option maxRecDepth 100000 in
set_option maxHeartbeats 8000000 in
theorem counts_any (hA : SegSays) (A : Option Addr) (cap n : Nat) (gap : Int) (zs : List Int) (w : World) (hW : Tabs w) (hn : zs.length = n) (_h1 : n ≤ cap) (_h2 : cap ≤ maxLen)
    (hcell : ∀ (i : Nat) (z : Int), zs[i]? = some z → ∃ b off, A = some ⟨b, off, none⟩ ∧ b < w.heap.size ∧ w.cell? ⟨b, off + i, none⟩ = some (.int .i64 z)) :
    Calls Tryd.prog 7 #[.slice A n cap, .int .i64 gap] w fun e w' => e = .returned (.bool true) ∧ Below w.heap.size w w' := by
  unfold maxLen at _h2
  obtain ⟨i3, hi3, hz30, hz31, hz32⟩ := info_parts Tryd.info3
  obtain ⟨g, hg⟩ : ∃ g : Nat, (g : Int) = gap % 5 := ⟨(gap % 5).toNat, by omega⟩
  have hg5 : g < 5 := by omega
  have P1 := Lib.hid (fun wx => Cls.place_any gap 5 wx (by omega) (by omega))
  rw [← hg] at P1
  have P9 := Lib.hid (fun z wx => Cls.place_any z 9 wx (by omega) (by omega))
  have hix := fun wx => cgap_at g hg5 wx
  have hgs : (cGap g).size ≤ 3 := by
    match g with
    | 0 | 1 | 2 | 3 => decide
    | _ + 4 => exact Nat.le_refl 3
  obtain ⟨G, hG⟩ : ∃ G, G = cGap g := ⟨_, rfl⟩
  rw [← hG] at hix hgs
  have HC := Lib.hid hcell
  have HN := Lib.hid hn
  have HG := Lib.hid hG
  have W8 := Lib.hid (awake_any hA)
  have HW := Lib.hid hW
  have T := Lib.hid table_u
  have HA := Lib.hid hA
  have gi : (g : Int) < 5 := by omega
  have g0 : (0 : Int) ≤ g := by omega
  clear hA hg hcell hn hG hW
  go_enter Tryd.func7, Tryd.ntmps7
  go_wp2_with fail
  refine (P1.out _).mono ?_
  rintro e w1 ⟨rfl, rfl⟩
  go_wp2_with fail
  go_loopw [6, 7, 8] (fun s v i wr => ∃ j : Nat, j ≤ n ∧ j ≤ 50 ∧ i = .int .i64 j ∧ s = .string (cText g ((zs.take j).map cNum)) ∧ Hid (wr.ownsRow w.heap.size 3 1 v j (cEnds g ((zs.take j).map cNum))) ∧ Hid (Below w.heap.size w wr)) (fun _ _ i _ => n - (RowKit.intOf i).toNat)
  case atStart => exact ⟨0, Nat.zero_le _, by omega, rfl, rfl, World.ownsRow_nil _ _ _ _, Below.refl _ _⟩
  case round =>
    obtain ⟨j, hj, hj5, rfl, rfl, HO, HB⟩ := hrel
    by_cases hc : j < n ∧ j < 50
    · obtain ⟨c1, c2⟩ := hc
      obtain ⟨z, hz⟩ : ∃ z, zs[j]? = some z := ⟨_, List.getElem?_eq_getElem (by rw [HN.out]; exact c1)⟩
      obtain ⟨b, off, rfl, hlt, hm⟩ := HC.out j z hz
      have m0 := (HB.out.cell (p := ⟨b, off + j, none⟩) hlt).trans hm
      have HZ := Lib.hid hz
      have tj1 : (0 : Int) ≤ j := by omega
      have tj2 : (j : Int) < n := by omega
      obtain ⟨q, hq⟩ : ∃ q : Nat, (q : Int) = z % 9 := ⟨(z % 9).toNat, by omega⟩
      have k1 : (q : Int) < 9 := by omega
      have k0 : (0 : Int) ≤ q := by omega
      have HQ := Lib.hid hq
      have PZ := Lib.hid (P9.out z)
      rw [← hq] at PZ
      obtain ⟨ks, hks⟩ : ∃ ks, ks = (zs.take j).map cNum := ⟨_, rfl⟩
      have hts := cText_size g ((zs.take j).map cNum) cNum_ok
      rw [List.length_map, List.length_take] at hts
      have hts2 : (cText g ks).size ≤ 600 := by rw [hks]; omega
      rw [← hks] at HO ⊢
      have HK := Lib.hid hks
      have hsz : w.heap.size ≤ wr.heap.size := HB.out.size
      clear hz hm hts hq hks
      go_wp2_with fail
      refine (PZ.out _).mono ?_
      rintro e w2 ⟨rfl, rfl⟩
      go_wp2_with (first
        | (at_builtin; refine wpList_append_own _ rfl _ _ 29 rfl w.heap.size 3 i3 (.int .i64 0) 1 8 Tryd.underlying29 hi3 hz30 hz31 hz32 rfl (by decide) _ _ _ rfl (HO.out.alloc _) ⟨wr.heap.size, 0, none⟩ 1 1 [.int .i64 ((cText g ks).size + ((min (1 + (q : Int)).toNat 9 : Nat) : Int))] rfl rfl (cells_new _ _ _) (by simp [Value.oneCell']) (by unfold maxLen; omega) (by omega) (by simp; omega) ?_; intro v' w4 hown4 hgrow4 _))
      have htk : (zs.take (j + 1)).map cNum = ks ++ [1 + q] := by
        rw [take_one HZ.out, List.map_append, HK.out, List.map_cons, List.map_nil, show cNum z = 1 + q by have := HQ.out; unfold cNum; omega]
      have hok : ∀ k ∈ ks, 0 < k ∧ k < 10 := by rw [HK.out]; exact cNum_ok
      have htx : (cText g ks ++ (ByteArray.mk #[97, 98, 99, 100, 101, 102, 103, 104, 105]).extract 0 (1 + q)) ++ G = cText g ((zs.take (j + 1)).map cNum) := by
        rw [htk, cText_snoc, HG.out]; rfl
      have hen : cEnds g ks ++ [.int .i64 ((cText g ks).size + ((min (1 + (q : Int)).toNat 9 : Nat) : Int))] = cEnds g ((zs.take (j + 1)).map cNum) := by
        rw [htk, cEnds, cEnds, cToks_snoc g ks _ hok, List.map_append, show min (1 + (q : Int)).toNat 9 = 1 + q by omega]
        simp
      rw [hen] at hown4
      have HO4 := Lib.hid hown4
      have HB4 := Lib.hid ((HB.out.alloc hsz (.cells #[.int .i64 ((cText g ks).size + ((min (1 + (q : Int)).toNat 9 : Nat) : Int))] 3)).grown hgrow4 (by simp; omega) (fun k hk => (HO.out.lt k hk).1))
      clear hown4 hgrow4 hen htk hok
      go_roundw
      case rel => exact ⟨j + 1, by omega, by omega, by go_num, by rw [← htx], HO4.out, HB4.out⟩
      case measure => simp [RowKit.intOf]; omega
    · obtain ⟨ks, hks⟩ : ∃ ks, ks = (zs.take j).map cNum := ⟨_, rfl⟩
      have hlen : ks.length = j := by rw [hks, List.length_map, List.length_take, HN.out]; omega
      have hok : ∀ k ∈ ks, 0 < k ∧ k < 10 := by rw [hks]; exact cNum_ok
      have hts := cText_size g ks hok
      have hkz : ∀ i, i < j → ∃ z, zs[i]? = some z ∧ ks[i]? = some (cNum z) := fun i hi => by
        have hlt : i < zs.length := by rw [HN.out]; omega
        have hz : zs[i]? = some zs[i] := List.getElem?_eq_getElem hlt
        exact ⟨_, hz, by rw [hks, List.getElem?_map, List.getElem?_take_of_lt hi, hz]; rfl⟩
      have HO' := HO.out
      rw [← hks] at HO'
      obtain ⟨AE, ce, rfl, ⟨e1, e2⟩, hE⟩ := own_form HO'
      rw [← hks]
      have HKZ := Lib.hid hkz
      have HE := Lib.hid hE
      have c9 : ∀ wx v, TblU wx v Cls.tab → Calls Tryd.prog 9 #[v, .string (cText g ks)] wx fun e w' => ∃ A' cap', e = .returned (.slice A' j cap') ∧ (j ≤ cap' ∧ cap' ≤ maxLen) ∧
          (0 < j → ∃ g', A' = some ⟨g', 0, none⟩ ∧ g' < w'.heap.size ∧ ∀ i u, ((cToks (cGap g).size 0 ks).flatMap kCells)[i]? = some u → w'.cell? ⟨g', i, none⟩ = some u) ∧ Below wx.heap.size wx w' := by
        intro wx v h
        refine (HA.out v Cls.tab (cText g ks) wx h (by omega)).mono ?_
        rintro e w' ⟨v', he, ho, hb⟩
        rw [cText_toks g ks hok, cToks_length, hlen] at ho
        obtain ⟨A', cap', rfl, h1, h2⟩ := own_form ho
        exact ⟨A', cap', he, h1, h2, hb⟩
      have C9 := Lib.hid c9
      unfold maxLen at e2
      have hcs : (j < n ∧ 50 ≤ j) ∨ n ≤ j := by omega
      clear hks hok hkz HO HO' hE c9 hi3 hz30 hz31 hz32 hc
      rcases hcs with ⟨c1, c2⟩ | c1
      all_goals
        go_wp2_with fail
        refine (T.out _ (HW.out.below HB.out)).mono ?_
        rintro e w1 ⟨v1, rfl, ht, hb1⟩
        have HT := Lib.hid ht
        have HB1 := Lib.hid (HB.out.trans (hb1.mono HB.out.size))
        have HBE := Lib.hid hb1
        clear ht hb1
        go_wp2_with fail
        refine (C9.out _ _ HT.out).mono ?_
        rintro e w2 ⟨AM, cm, rfl, ⟨f1, f2⟩, hM, hb2⟩
        have HM := Lib.hid hM
        have HB2 := Lib.hid (HB1.out.trans (hb2.mono HB1.out.size))
        have HBE2 := Lib.hid (HBE.out.trans (hb2.mono HBE.out.size))
        unfold maxLen at f2
        clear hM hb2
        go_wp2_with fail
        go_loopw [11] (fun i wr => ∃ q : Nat, q ≤ j ∧ i = .int .i64 q ∧ Hid (Below w2.heap.size w2 wr)) (fun i _ => j - (RowKit.intOf i).toNat)
        case atStart => exact ⟨0, Nat.zero_le _, rfl, Below.refl _ _⟩
        case round =>
          obtain ⟨q, hq, rfl, HL⟩ := hrel
          by_cases hqj : q < j
          · obtain ⟨gE, rfl, hgE, hcE⟩ := HE.out (by omega)
            obtain ⟨gM, rfl, hgM, hcM⟩ := HM.out (by omega)
            obtain ⟨z, hz, hk⟩ := HKZ.out q hqj
            obtain ⟨b, off, rfl, hlt, hm⟩ := HC.out q z hz
            obtain ⟨p, hp⟩ := cToks_at g ks q _ hk 0
            obtain ⟨x0, x1, x2⟩ := kCells_at _ q _ hp
            have m0 := (HL.out.cell (p := ⟨gM, q * 3, none⟩) hgM).trans (hcM _ _ x0)
            have m1 := (HL.out.cell (p := ⟨gM, q * 3 + 1, none⟩) hgM).trans (hcM _ _ x1)
            have m2 := (HL.out.cell (p := ⟨gM, q * 3 + 2, none⟩) hgM).trans (hcM _ _ x2)
            have xe : (cEnds g ks)[q]? = some (.int .i64 ((p + cNum z : Nat) : Int)) := by rw [cEnds, List.getElem?_map, hp]; rfl
            have mE := (HL.out.cell (p := ⟨gE, q, none⟩) (Nat.lt_of_lt_of_le hgE HBE2.out.size)).trans ((HBE2.out.cell (p := ⟨gE, q, none⟩) hgE).trans (hcE _ _ xe))
            have mZ := (((HB2.out.trans (HL.out.mono HB2.out.size)).cell (p := ⟨b, off + q, none⟩) hlt)).trans hm
            dsimp only at m0 m1 m2
            have tq1 : (0 : Int) ≤ q := by omega
            have tq2 : (q : Int) < j := by omega
            have tq3 : (q : Int) < n := by omega
            obtain ⟨E, hE⟩ : ∃ E : Nat, E = p + cNum z := ⟨_, rfl⟩
            rw [← hE] at m1 mE
            obtain ⟨y, hy⟩ : ∃ y : Nat, (y : Int) = z % 9 := ⟨(z % 9).toNat, by omega⟩
            have hE2 : (E : Int) - (p : Int) = 1 + (y : Int) := by rw [hE]; unfold cNum; omega
            have PZ := Lib.hid (P9.out z)
            rw [← hy] at PZ
            have y1 : (y : Int) < 9 := by omega
            have y0 : (0 : Int) ≤ y := by omega
            have wr1 : IntKind.i64.wrap ((E : Int) - (p : Int)) = 1 + (y : Int) := by rw [hE2]; exact IntWalk.i64_in _ (by omega)
            have HLQ := Lib.hid HL.out
            clear hz hk hm hp x0 x1 x2 xe hcE hcM hE hE2 hy
            go_wp2_with fail
            go_quiet ((go_at_call 17; refine (PZ.out _).mono ?_; rintro e w5 ⟨rfl, rfl⟩; exact ⟨rfl, _, rfl⟩))
            go_wp2_with fail
            go_roundw
            case rel => exact ⟨q + 1, by omega, by go_num, below_dr HLQ.out nq⟩
            case measure => simp [RowKit.intOf]; omega
          · obtain rfl : q = j := by omega
            have HBL := Lib.hid (HB2.out.trans (HL.out.mono HB2.out.size))
            go_wp2_with fail
            refine (W8.out _ (HW.out.below HBL.out)).mono ?_
            rintro e w7 ⟨rfl, hb7⟩
            have HB7 := Lib.hid (HBL.out.trans (hb7.mono HBL.out.size))
            clear hb7
            go_wp2_with fail
            go_ret
            exact ⟨rfl, HB7.out⟩
end Go.Proofs.YtmebboadadlahaaDoor
