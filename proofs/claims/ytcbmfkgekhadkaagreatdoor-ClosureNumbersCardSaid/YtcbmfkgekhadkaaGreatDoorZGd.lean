/- The document's Words of chapter 10 by contract: a line cut at each blank. -/
import Derived.Test.YtcbmfkgekhadkaaGreatDoorZGa
import Derived.Test.YtcbmfkgekhadkaaGreatDoorZGb
import Derived.Test.YtcbmfkgekhadkaaGreatDoorCodes
import Derived.IntWalk
import Derived.Laws.BitsAllLaws
import Derived.Lib.EndianBits
import Derived.Deep.RegionHeld3
import Derived.Deep.RegionWith
namespace Go.Proofs.YtcbmfkgekhadkaaGreatDoor
section
open Go Go.RowKit Go.Lib

/-- Texts as cells. -/
def wCells (l : List (List UInt8)) : List Value := l.map fun x => .string ⟨x.toArray⟩
theorem Tryz.infosW9 : (Tryz.prog.info? 9).map (fun i => (i.zero, i.size, i.bytes)) = some (some (.string ⟨#[]⟩), 1, 16) := by kernel_rfl
theorem ext_list (s : ByteArray) (a b : Nat) : (s.extract a b).data.toList = (s.data.toList.drop a).take (b - a) := by
  rw [ByteArray.data_extract, Array.toList_extract]
theorem ba_list (s : ByteArray) : (⟨s.data.toList.toArray⟩ : ByteArray) = s := by
  cases s; simp
/-- A part of a text. -/
theorem ext_ba (s : ByteArray) (a b : Nat) : s.extract a b = ⟨((s.data.toList.drop a).take (b - a)).toArray⟩ := by
  rw [← ext_list, ba_list]
/-- What is cut off so far: words done, the next one begins at a. -/
def CutAt (L : List UInt8) (done : List (List UInt8)) (a i : Nat) : Prop := a ≤ i ∧ i ≤ L.length ∧ wordsL L = done ++ wordsL (L.drop a) ∧ ∀ j, a ≤ j → j < i → L[j]? ≠ some 32
theorem CutAt.start (L : List UInt8) : CutAt L [] 0 0 := ⟨Nat.le_refl _, Nat.zero_le _, by simp, fun j _ h => absurd h (Nat.not_lt_zero _)⟩
theorem part_noblank {L : List UInt8} {a i : Nat} (h : ∀ j, a ≤ j → j < i → L[j]? ≠ some 32) : (32 : UInt8) ∉ (L.drop a).take (i - a) := by
  intro hm
  obtain ⟨j, hj, he⟩ := List.getElem_of_mem hm
  rw [List.length_take, List.length_drop] at hj
  refine h (a + j) (by omega) (by omega) ?_
  rw [List.getElem_take, List.getElem_drop] at he
  rw [List.getElem?_eq_getElem (by omega), he]
theorem CutAt.on {L : List UInt8} {done : List (List UInt8)} {a i : Nat} (h : CutAt L done a i) (hi : i < L.length) (hne : L[i]? ≠ some 32) : CutAt L done a (i + 1) :=
  ⟨by have := h.1; omega, hi, h.2.2.1, fun j h1 h2 => by
    rcases Nat.lt_or_ge j i with hj | hj
    · exact h.2.2.2 j h1 hj
    · obtain rfl : j = i := by omega
      exact hne⟩
theorem CutAt.cut {L : List UInt8} {done : List (List UInt8)} {a i : Nat} (h : CutAt L done a i) (hi : i < L.length) (he : L[i]? = some 32) : CutAt L (done ++ [(L.drop a).take (i - a)]) (i + 1) (i + 1) := by
  obtain ⟨h1, h2, h3, h4⟩ := h
  refine ⟨Nat.le_refl _, hi, ?_, fun j h5 h6 => by omega⟩
  have hs : L.drop a = (L.drop a).take (i - a) ++ 32 :: L.drop (i + 1) := by
    obtain ⟨_, hc⟩ := List.getElem?_eq_some_iff.1 he
    have hd : L.drop i = 32 :: L.drop (i + 1) := by rw [List.drop_eq_getElem_cons hi, hc]
    have := (List.take_append_drop (i - a) (L.drop a)).symm
    rwa [List.drop_drop, show a + (i - a) = i by omega, hd] at this
  rw [h3]
  conv => lhs; rw [hs]
  rw [wordsL_app _ _ (part_noblank h4), List.append_assoc]
  rfl
theorem CutAt.fin {L : List UInt8} {done : List (List UInt8)} {a : Nat} (h : CutAt L done a L.length) : wordsL L = done ++ [(L.drop a).take (L.length - a)] := by
  obtain ⟨h1, h2, h3, h4⟩ := h
  have hn := part_noblank h4
  rw [List.take_of_length_le (by rw [List.length_drop]; omega)] at hn ⊢
  rw [h3, wordsL_one _ hn]

/-- What holds ahead of a round of Words. -/
def MidW (w wr : World) (v : Value) (L : List UInt8) (a i : Nat) : Prop :=
  ∃ done, (CutAt L done a i ∨ (i = L.length + 1 ∧ wordsL L = done)) ∧ done.length ≤ i ∧ wr.ownsRow w.heap.size 9 1 v done.length (wCells done) ∧ Below w.heap.size w wr

set_option maxRecDepth 100000 in
set_option maxHeartbeats 4000000 in
theorem rwords_any (w : World) (s : ByteArray) (hs : s.size ≤ 1000000000) :
    Calls Tryz.prog 34 #[.string s] w fun e w' => ∃ v, e = .returned v ∧ w'.ownsRow w.heap.size 9 1 v (wordsL s.data.toList).length (wCells (wordsL s.data.toList)) ∧ Below w.heap.size w w' := by
  obtain ⟨i1, hi1, hz10, hz11, hz12⟩ := info_parts Tryz.infosW9
  obtain ⟨L, hL⟩ : ∃ L, L = s.data.toList := ⟨_, rfl⟩
  have hLs : L.length = s.size := by rw [hL]; exact (Lib.size_eq s).symm
  rw [← hL]
  have HL := Lib.hid (And.intro hL hLs)
  have H0 := Lib.hid (show MidW w w (.slice none 0 0) L 0 0 from ⟨[], .inl (CutAt.start L), Nat.le_refl _, World.ownsRow_nil _ _ _ _, Below.refl _ _⟩)
  clear hL hLs
  go_enter Tryz.func34, Tryz.ntmps34
  go_wp2_with fail
  go_loopg [3, 4, 5] (s.size + 1) (fun g v a i wr => ∃ aa k : Nat, k + g = s.size + 1 ∧ aa ≤ k ∧ a = .int .i64 aa ∧ i = .int .i64 k ∧ Hid (MidW w wr v L aa k))
  case atStart => exact ⟨0, 0, by omega, Nat.le_refl _, rfl, rfl, H0⟩
  case round =>
    obtain ⟨aa, k, hk, hak, rfl, rfl, HM⟩ := hrel
    obtain ⟨done, hcut, hdl, hrow, hb⟩ := HM.out
    have hLs := HL.out.2
    rcases Nat.eq_zero_or_pos gk with h0 | h0
    · have hkn : k = s.size + 1 := by omega
      have hd : wordsL L = done := by
        rcases hcut with h | h
        · have := h.2.1; omega
        · exact h.2
      subst hkn
      have HR := Lib.hid (And.intro hrow hb)
      have HD := Lib.hid hd
      have hz : ¬ ((s.size + 1 : Nat) : Int) ≤ s.size := by omega
      clear hcut hdl hrow hb hd HM hLs
      go_wp2_with fail
      go_ret
      exact ⟨_, rfl, by rw [HD.out]; exact HR.out.1, HR.out.2⟩
    · have hkn : (k : Int) ≤ s.size := by omega
      have hkk : (0 : Int) ≤ k := by omega
      have hc : CutAt L done aa k := by
        rcases hcut with h | h
        · exact h
        · omega
      have hrow2 := fun X : Value => hrow.alloc (.cells #[X] 9)
      have hb2 := fun X : Value => hb.alloc hb.size (.cells #[X] 9)
      have hdl2 : done.length ≤ 1000000000 := by omega
      have HR := Lib.hid (And.intro hrow (And.intro hb (And.intro hrow2 (And.intro hb2 (And.intro hc hdl)))))
      have HOW := Lib.hid (fun (X : ByteArray) => (by intro u hu; simp only [List.mem_singleton] at hu; subst hu; rfl : ∀ u ∈ [Value.string X], u.oneCell' = true))
      clear hcut hdl hrow hb hrow2 hb2 HM
      by_cases hks : k = s.size
      · subst hks
        have d1 : ((s.size : Int) == s.size) = true := by simp
        have HF := Lib.hid (show wordsL L = done ++ [(L.drop aa).take (L.length - aa)] from CutAt.fin (by rw [hLs]; exact hc))
        have ha1 : (0 : Int) ≤ aa := by omega
        have ha2 : (aa : Int) ≤ s.size := by omega
        clear hc hLs
        go_wp2_with (at_builtin; refine wpList_append_own _ rfl _ _ 29 rfl w.heap.size 9 i1 (.string ⟨#[]⟩) 1 16 Tryz.underlying29 hi1 hz10 hz11 hz12 rfl (by decide) _ _ _ rfl (HR.out.2.2.1 _) ⟨wr.heap.size, 0, none⟩ 1 1 [.string (s.extract aa s.size)] rfl rfl (news_row _ _ _) (HOW.out _) (by unfold maxLen; omega) (by omega) ((HR.out.2.2.2.1 (.string (s.extract aa s.size))).size) ?_)
        intro v' w4 hown4 hgrow4 _
        have HM2 := Lib.hid (show MidW w w4 v' L (s.size + 1) (s.size + 1) from
          ⟨done ++ [(L.drop aa).take (L.length - aa)], .inr ⟨by have := HL.out.2; omega, HF.out⟩, by rw [List.length_append]; have := HR.out.2.2.2.2.2; show done.length + 1 ≤ _; omega, by
            rw [List.length_append, show wCells (done ++ [(L.drop aa).take (L.length - aa)]) = wCells done ++ [.string (s.extract aa s.size)] by
              unfold wCells
              rw [List.map_append, ext_ba, HL.out.2, HL.out.1]
              rfl]
            exact hown4, (HR.out.2.2.2.1 _).grown hgrow4 (HR.out.2.2.2.1 _).size (fun z hz => (HR.out.1.lt z hz).1)⟩)
        clear hown4 hgrow4
        go_wp2_with fail
        go_roundg (gk - 1)
        case measure => omega
        case rel => exact ⟨s.size + 1, s.size + 1, by omega, Nat.le_refl _, by go_num, by go_num, HM2⟩
      · have hlt : (k : Int) < s.size := by omega
        have d1 : ((k : Int) == s.size) = false := by simp; omega
        obtain ⟨c, hcL⟩ : ∃ c, L[k]? = some c := ⟨_, List.getElem?_eq_getElem (by omega)⟩
        have hks2 : k < s.size := by omega
        have hget : s[k]'hks2 = c := by
          have h1 : L[k]? = s.data[k]? := by rw [HL.out.1, Array.getElem?_toList]
          rw [hcL] at h1
          have h2 : s.data[k]? = some (s.data[k]'hks2) := Array.getElem?_eq_getElem hks2
          rw [h2] at h1
          exact (Option.some.inj h1).symm
        by_cases h32 : c = 32
        · subst h32
          have HC := Lib.hid (hc.cut (by omega) hcL)
          have ha1 : (0 : Int) ≤ aa := by omega
          have ha2 : (aa : Int) ≤ k := by omega
          have hb32 : ((s[k]'hks2).toNat) = 32 := by rw [hget]; rfl
          clear hc hcL hLs hks hget
          go_wp2_with (at_builtin; refine wpList_append_own _ rfl _ _ 29 rfl w.heap.size 9 i1 (.string ⟨#[]⟩) 1 16 Tryz.underlying29 hi1 hz10 hz11 hz12 rfl (by decide) _ _ _ rfl (HR.out.2.2.1 _) ⟨wr.heap.size, 0, none⟩ 1 1 [.string (s.extract aa k)] rfl rfl (news_row _ _ _) (HOW.out _) (by unfold maxLen; omega) (by omega) ((HR.out.2.2.2.1 (.string (s.extract aa k))).size) ?_)
          intro v' w4 hown4 hgrow4 _
          have HM2 := Lib.hid (show MidW w w4 v' L (k + 1) (k + 1) from
            ⟨done ++ [(L.drop aa).take (k - aa)], .inl HC.out, by rw [List.length_append]; have := HR.out.2.2.2.2.2; show done.length + 1 ≤ _; omega, by
              rw [List.length_append, show wCells (done ++ [(L.drop aa).take (k - aa)]) = wCells done ++ [.string (s.extract aa k)] by
                unfold wCells
                rw [List.map_append, ext_ba, HL.out.1]
                rfl]
              exact hown4, (HR.out.2.2.2.1 _).grown hgrow4 (HR.out.2.2.2.1 _).size (fun z hz => (HR.out.1.lt z hz).1)⟩)
          clear hown4 hgrow4
          go_wp2_with fail
          go_roundg (gk - 1)
          case measure => omega
          case rel => exact ⟨k + 1, k + 1, by omega, Nat.le_refl _, by go_num, by go_num, HM2⟩
        · have HC := Lib.hid (hc.on (by omega) (by rw [hcL]; intro e; exact h32 (Option.some.inj e)))
          have hb32 : ¬ ((s[k]'hks2).toNat = 32) := by
            rw [hget]
            intro e
            exact h32 (UInt8.toNat_inj.1 e)
          have hb33 : (((s[k]'hks2).toNat : Int) == 32) = false := by simp; omega
          have HM2 := Lib.hid (show MidW w wr u3 L aa (k + 1) from ⟨done, .inl HC.out, by have := HR.out.2.2.2.2.2; omega, HR.out.1, HR.out.2.1⟩)
          clear hc hcL hLs hks hget
          go_wp2_with fail
          go_roundg (gk - 1)
          case measure => omega
          case rel => exact ⟨aa, k + 1, by omega, by omega, rfl, by go_num, HM2⟩
end
section
open Go Go.Lib

theorem wrap62 : ∀ n : Int, 0 ≤ n → n < 2 ^ 62 → IntKind.i64.wrap n = n := fun n h1 h2 => IntWalk.i64_in n (by omega)

theorem and_i64 (a b : Nat) (ha : a < 2 ^ 62) (hb : b < 2 ^ 62) : bits .and .i64 (a : Int) (b : Int) = ((a &&& b : Nat) : Int) := (bits_nat .i64 62 (by decide) wrap62 a b ha hb).1
theorem or_i64 (x y : Nat) (hx : x < 2 ^ 62) (h64 : x % 64 = 0) (hy : y < 64) : bits .or .i64 (x : Int) (y : Int) = ((x + y : Nat) : Int) := by
  rw [bits_join .i64 62 (by decide) wrap62 6 x y (by omega) (by omega) (by omega) (by omega) (by omega) (by omega), Int.natCast_add]

theorem mask3 (a : Nat) : a &&& 7 = a % 8 := Nat.and_two_pow_sub_one_eq_mod a 3
theorem mask4 (a : Nat) : a &&& 15 = a % 16 := Nat.and_two_pow_sub_one_eq_mod a 4
theorem mask5 (a : Nat) : a &&& 31 = a % 32 := Nat.and_two_pow_sub_one_eq_mod a 5
theorem mask6 (a : Nat) : a &&& 63 = a % 64 := Nat.and_two_pow_sub_one_eq_mod a 6
theorem and7 (a : Nat) (ha : a < 2 ^ 62) : bits .and .i64 (a : Int) 7 = ((a % 8 : Nat) : Int) := (and_i64 a 7 ha (by decide)).trans (by rw [mask3])
theorem and15 (a : Nat) (ha : a < 2 ^ 62) : bits .and .i64 (a : Int) 15 = ((a % 16 : Nat) : Int) := (and_i64 a 15 ha (by decide)).trans (by rw [mask4])
theorem and31 (a : Nat) (ha : a < 2 ^ 62) : bits .and .i64 (a : Int) 31 = ((a % 32 : Nat) : Int) := (and_i64 a 31 ha (by decide)).trans (by rw [mask5])
theorem and63 (a : Nat) (ha : a < 2 ^ 62) : bits .and .i64 (a : Int) 63 = ((a % 64 : Nat) : Int) := (and_i64 a 63 ha (by decide)).trans (by rw [mask6])
set_option maxRecDepth 100000 in
theorem u8_192 : ∀ x : Fin 256, bits .and .u8 ((x.val : Nat) : Int) 192 = ((x.val / 64 * 64 : Nat) : Int) := by decide
set_option maxRecDepth 100000 in
theorem u8_63 : ∀ x : Fin 256, bits .and .u8 ((x.val : Nat) : Int) 63 = ((x.val % 64 : Nat) : Int) := by decide
theorem u8_top (b : UInt8) : bits .and .u8 (b.toNat : Int) 192 = ((b.toNat / 64 * 64 : Nat) : Int) := u8_192 ⟨b.toNat, b.toNat_lt⟩
theorem u8_low (b : UInt8) : bits .and .u8 (b.toNat : Int) 63 = ((b.toNat % 64 : Nat) : Int) := u8_63 ⟨b.toNat, b.toNat_lt⟩
end
section
open Go Go.RowKit Go.Lib

/-- One theorem's conclusion, for short. -/
def OneSays (s : ByteArray) (i : Nat) (N C : Int) (w : World) : Prop :=
  Calls Tryz.prog 82 #[.string s, .int .i64 i] w fun e w' => e = .returned (.agg #[.int .i64 i, .int .i64 N, .int .i64 C]) ∧ Below w.heap.size w w'

set_option maxRecDepth 100000 in
set_option maxHeartbeats 1000000 in
theorem one_ascii (s : ByteArray) (i : Nat) (w : World) (hi : i < s.size) (_hs : s.size ≤ 1000000000000) (hb : s[i].toNat < 128) : OneSays s i 1 s[i].toNat w := by
  unfold OneSays
  go_enter Tryz.func82, Tryz.ntmps82
  go_wp2
  exact bodyPost_ret (v := .agg #[.int .i64 i, .int .i64 1, .int .i64 s[i].toNat]) (by simp [results, Tryz.results82, go_sem]) rfl ⟨rfl, ((Below.refl _ _).alloc (Nat.le_refl _) _).alloc (by simp) _⟩

set_option maxRecDepth 100000 in
set_option maxHeartbeats 1000000 in
theorem one_none (s : ByteArray) (i : Nat) (w : World) (hi : i < s.size) (_hs : s.size ≤ 1000000000000) (hb : (128 ≤ s[i].toNat ∧ s[i].toNat < 194) ∨ 244 < s[i].toNat) : OneSays s i 1 (-1 - s[i].toNat) w := by
  unfold OneSays
  have hbb := s[i].toNat_lt
  rcases hb with ⟨h1, h2⟩ | h1
  all_goals
    go_enter Tryz.func82, Tryz.ntmps82
    go_wp2
    exact bodyPost_ret (v := .agg #[.int .i64 i, .int .i64 1, .int .i64 (-1 - s[i].toNat)]) (by simp [results, Tryz.results82, go_sem]) rfl ⟨rfl, ((Below.refl _ _).alloc (Nat.le_refl _) _).alloc (by simp) _⟩

set_option maxRecDepth 100000 in
set_option maxHeartbeats 1000000 in
theorem one_short (s : ByteArray) (i : Nat) (w : World) (hi : i < s.size) (hs : s.size ≤ 1000000000000) (hb : (194 ≤ s[i].toNat ∧ s[i].toNat ≤ 223 ∧ s.size < i + 2) ∨ (224 ≤ s[i].toNat ∧ s[i].toNat ≤ 239 ∧ s.size < i + 3) ∨ (240 ≤ s[i].toNat ∧ s[i].toNat ≤ 244 ∧ s.size < i + 4)) : OneSays s i 1 (-1 - s[i].toNat) w := by
  unfold OneSays
  have hbb := s[i].toNat_lt
  rcases hb with ⟨h1, h2, h3⟩ | ⟨h1, h2, h3⟩ | ⟨h1, h2, h3⟩
  all_goals
    go_enter Tryz.func82, Tryz.ntmps82
    go_wp2
    exact bodyPost_ret (v := .agg #[.int .i64 i, .int .i64 1, .int .i64 (-1 - s[i].toNat)]) (by simp [results, Tryz.results82, go_sem]) rfl ⟨rfl, ((Below.refl _ _).alloc (Nat.le_refl _) _).alloc (by simp) _⟩

/-- The j-th byte from a place on. -/
def bt (s : ByteArray) (i j : Nat) : Nat := ((s.data.toList.drop i).getD j 0).toNat
def vv (s : ByteArray) (i m : Nat) : Nat → Nat
  | 0 => m
  | k + 1 => vv s i m k * 64 + bt s i (k + 1) % 64
theorem bt_at (s : ByteArray) (i j : Nat) (h : i + j < s.size) : bt s i j = s[i + j].toNat := by
  have hl : i + j < s.data.toList.length := by rw [← Lib.size_eq]; exact h
  rw [bt, List.getD, List.getElem?_drop, List.getElem?_eq_getElem hl]
  rfl
theorem dec_bt (s : ByteArray) (i : Nat) : decodeL (s.data.toList.drop i) = decodeN (s.size - i) (bt s i 0) (bt s i 1) (bt s i 2) (bt s i 3) := by
  rw [decodeL_N, List.length_drop, ← Lib.size_eq]; rfl

theorem bad_val (s : ByteArray) (i : Nat) (hi : i < s.size) (h : decodeL (s.data.toList.drop i) = (65533, 1)) : uVal i (s.data.toList.drop i) = .agg #[.int .i64 i, .int .i64 1, .int .i64 (-1 - s[i].toNat)] := by
  have hb : uBad (s.data.toList.drop i) = true := by simp [uBad, h]
  simp only [uVal, uCode, hb, if_true, getD_drop_at s i hi, h]
  rfl
theorem good_val (s : ByteArray) (i n V : Nat) (hn : 2 ≤ n) (h : decodeL (s.data.toList.drop i) = (V, n)) : uVal i (s.data.toList.drop i) = .agg #[.int .i64 i, .int .i64 n, .int .i64 V] := by
  have hb : uBad (s.data.toList.drop i) = false := by simp [uBad, h]; omega
  simp [uVal, uCode, hb, h]
theorem ascii_val (s : ByteArray) (i : Nat) (hi : i < s.size) (hb : s[i].toNat < 128) : uVal i (s.data.toList.drop i) = .agg #[.int .i64 i, .int .i64 1, .int .i64 s[i].toNat] := by
  have h : decodeL (s.data.toList.drop i) = (s[i].toNat, 1) := by
    rw [dec_bt, bt_at s i 0 (by omega)]
    exact decodeN_ascii _ _ _ _ _ hb
  have hbd : uBad (s.data.toList.drop i) = false := by simp [uBad, h]; omega
  simp [uVal, uCode, hbd, h]

theorem dec2 (L b0 b1 b2 b3 : Nat) (h1 : 194 ≤ b0) (h2 : b0 ≤ 223) : decodeN L b0 b1 b2 b3 = if 1 < L ∧ b1 / 64 = 2 then (b0 % 32 * 64 + b1 % 64, 2) else (65533, 1) := by
  unfold decodeN
  repeat' split
  all_goals first | rfl | (exfalso; omega)
theorem dec3 (L b0 b1 b2 b3 : Nat) (h1 : 224 ≤ b0) (h2 : b0 ≤ 239) : decodeN L b0 b1 b2 b3 = if (1 < L ∧ b1 / 64 = 2) ∧ (2 < L ∧ b2 / 64 = 2) ∧ 2048 ≤ (b0 % 16 * 64 + b1 % 64) * 64 + b2 % 64 ∧ ((b0 % 16 * 64 + b1 % 64) * 64 + b2 % 64 < 55296 ∨ 57344 ≤ (b0 % 16 * 64 + b1 % 64) * 64 + b2 % 64) then ((b0 % 16 * 64 + b1 % 64) * 64 + b2 % 64, 3) else (65533, 1) := by
  unfold decodeN
  repeat' split
  all_goals first | rfl | (exfalso; omega) | (congr 1; omega)
theorem dec4 (L b0 b1 b2 b3 : Nat) (h1 : 240 ≤ b0) (h2 : b0 ≤ 244) : decodeN L b0 b1 b2 b3 = if (1 < L ∧ b1 / 64 = 2) ∧ (2 < L ∧ b2 / 64 = 2) ∧ (3 < L ∧ b3 / 64 = 2) ∧ 65536 ≤ ((b0 % 8 * 64 + b1 % 64) * 64 + b2 % 64) * 64 + b3 % 64 ∧ ((b0 % 8 * 64 + b1 % 64) * 64 + b2 % 64) * 64 + b3 % 64 ≤ 1114111 then (((b0 % 8 * 64 + b1 % 64) * 64 + b2 % 64) * 64 + b3 % 64, 4) else (65533, 1) := by
  unfold decodeN
  repeat' split
  all_goals first | rfl | (exfalso; omega) | (congr 1; omega)


set_option maxRecDepth 100000 in
set_option maxHeartbeats 2000000 in
theorem one_lead2 (s : ByteArray) (i : Nat) (w : World) (hi : i < s.size) (hs : s.size ≤ 1000000000000) (h1 : 194 ≤ s[i].toNat) (h2 : s[i].toNat ≤ 223) (h3 : i + 2 ≤ s.size) :
    Calls Tryz.prog 82 #[.string s, .int .i64 i] w fun e w' => e = .returned (uVal i (s.data.toList.drop i)) ∧ Below w.heap.size w w' := by
  have hbb := s[i].toNat_lt
  have e1 := and31 s[i].toNat (by omega)
  have hd := dec_bt s i
  rw [dec2 _ _ _ _ _ (by rw [bt_at s i 0 (by omega)]; exact h1) (by rw [bt_at s i 0 (by omega)]; exact h2)] at hd
  have hb0 : bt s i 0 = s[i].toNat := bt_at s i 0 (by omega)
  obtain ⟨m, hm⟩ : ∃ m, m = s[i].toNat % 32 := ⟨_, rfl⟩
  have hm0 : vv s i m 0 = m := rfl
  have hmb : bt s i 0 % 32 = m := by rw [hb0, hm]
  have hmlt : m < 32 := by omega
  rw [← hm] at e1
  have HD := Lib.hid hd
  have HMB := Lib.hid hmb
  clear hm hd hb0 hmb hm0
  have g0 : decide ((s[i].toNat : Int) < 128) = false := by simp; omega
  have g1 : decide ((194 : Int) ≤ (s[i].toNat : Int)) = true := by simp; omega
  have g2 : decide ((s[i].toNat : Int) ≤ 223) = true := by simp; omega
  have gz : decide ((s.size : Int) < (i : Int) + 2) = false := by simp; omega
  go_enter Tryz.func82, Tryz.ntmps82
  go_wp2
  have hbad0 := bad_val s i hi
  have HBV := Lib.hid hbad0
  clear hbad0
  go_loop [8, 9] (fun v k => ∃ kk V : Nat, 1 ≤ kk ∧ kk ≤ 2 ∧ k = .int .i64 kk ∧ v = .int .i64 V ∧ V < 32 * 64 ^ (kk - 1) ∧ Hid (V = vv s i m (kk - 1) ∧ ∀ j, 1 ≤ j → j < kk → bt s i j / 64 = 2)) (fun _ k => 2 - (RowKit.intOf k).toNat)
  case atStart => exact ⟨1, m, by omega, by omega, rfl, rfl, by simpa using hmlt, ⟨rfl, fun j a b => by omega⟩⟩
  case round =>
    obtain ⟨kk, V, hk1, hk2, rfl, rfl, hVlt, HV⟩ := hrel
    by_cases hkn : kk < 2
    · have hin : i + kk < s.size := by omega
      have hx := s[i + kk].toNat_lt
      have hbt := bt_at s i kk hin
      have ht := u8_top s[i + kk]
      by_cases hc : s[i + kk].toNat / 64 = 2
      · have hc1 : (bits .and .u8 (s[i + kk].toNat : Int) 192 != 128) = false := by rw [ht, hc]; rfl
        obtain ⟨X, hX⟩ : ∃ X, X = s[i + kk].toNat % 64 := ⟨_, rfl⟩
        have hlow := u8_low s[i + kk]
        rw [← hX] at hlow
        have hXlt : X < 64 := by omega
        have hVb : V < 2 ^ 20 := by
          have hkc : kk = 1 ∨ kk = 2 ∨ kk = 3 := by omega
          rcases hkc with rfl | rfl | rfl <;> simp at hVlt <;> omega
        have hor := or_i64 (V * 64) X (by omega) (by omega) hXlt
        have hV64 : ((V * 64 : Nat) : Int) = (V : Int) * 64 := by omega
        rw [hV64] at hor
        obtain ⟨V', hV'⟩ : ∃ V', V' = V * 64 + X := ⟨_, rfl⟩
        rw [← hV'] at hor
        have HN := Lib.hid (show V' = vv s i m kk ∧ ∀ j, 1 ≤ j → j < kk + 1 → bt s i j / 64 = 2 from by
          obtain ⟨q1, q2⟩ := HV.out
          refine ⟨?_, fun j a b => ?_⟩
          · obtain ⟨kp, rfl⟩ : ∃ kp, kk = kp + 1 := ⟨kk - 1, by omega⟩
            rw [hV', hX, vv, hbt, q1]; rfl
          · by_cases hjk : j = kk
            · subst hjk; rw [hbt]; exact hc
            · exact q2 j a (by omega))
        have hVn : V' < 32 * 64 ^ (kk + 1 - 1) := by
          have hkc : kk = 1 ∨ kk = 2 ∨ kk = 3 := by omega
          rcases hkc with rfl | rfl | rfl <;> simp at hVlt ⊢ <;> omega
        have hkp : kk + 1 - 1 = kk := by omega
        have HKP := Lib.hid hkp
        have HVN := Lib.hid hVn
        clear hX hV' hV64 ht hbt hVlt hc hkp hVn
        go_wp2
        go_round
        case rel => exact ⟨kk + 1, V', by omega, by omega, by go_num, rfl, HVN.out, by rw [HKP.out]; exact HN.out⟩
        case measure => simp [RowKit.intOf]; omega
      · have hc1 : (bits .and .u8 (s[i + kk].toNat : Int) 192 != 128) = true := by
          rw [ht]; simp; omega
        have hbad : decodeL (s.data.toList.drop i) = (65533, 1) := by
          rw [HD.out, if_neg]
          intro hall
          apply hc
          rw [← hbt]
          have hkc : kk = 1 := by omega
          subst hkc; exact hall.2
        have HR := Lib.hid (HBV.out hbad)
        clear ht hbt hVlt hc hbad
        go_wp2
        exact bodyPost_ret (v := .agg #[.int .i64 i, .int .i64 1, .int .i64 (-1 - s[i].toNat)]) (by simp [results, Tryz.results82, go_sem]) rfl ⟨by rw [HR.out], ((Below.refl _ _).alloc (Nat.le_refl _) _).alloc (by simp) _⟩
    · obtain rfl : kk = 2 := by omega
      obtain ⟨q1, q2⟩ := HV.out
      have hV : V = m * 64 + bt s i 1 % 64 := q1
      have hdec : decodeL (s.data.toList.drop i) = (V, 2) := by
        rw [HD.out, if_pos ⟨by omega, q2 1 (by omega) (by omega)⟩, HMB.out, ← hV]
      have HR := Lib.hid (good_val s i 2 V (by omega) hdec)
      have hV1 : V < 2048 := by simp at hVlt; omega
      clear q1 q2 hV hdec hVlt
      go_wp2
      exact bodyPost_ret (v := .agg #[.int .i64 i, .int .i64 2, .int .i64 V]) (by simp [results, Tryz.results82, go_sem]) rfl ⟨by rw [HR.out]; rfl, ((Below.refl _ _).alloc (Nat.le_refl _) _).alloc (by simp) _⟩

set_option maxRecDepth 100000 in
set_option maxHeartbeats 2000000 in
theorem one_lead3 (s : ByteArray) (i : Nat) (w : World) (hi : i < s.size) (hs : s.size ≤ 1000000000000) (h1 : 224 ≤ s[i].toNat) (h2 : s[i].toNat ≤ 239) (h3 : i + 3 ≤ s.size) :
    Calls Tryz.prog 82 #[.string s, .int .i64 i] w fun e w' => e = .returned (uVal i (s.data.toList.drop i)) ∧ Below w.heap.size w w' := by
  have hbb := s[i].toNat_lt
  have e1 := and15 s[i].toNat (by omega)
  have hd := dec_bt s i
  rw [dec3 _ _ _ _ _ (by rw [bt_at s i 0 (by omega)]; exact h1) (by rw [bt_at s i 0 (by omega)]; exact h2)] at hd
  have hb0 : bt s i 0 = s[i].toNat := bt_at s i 0 (by omega)
  obtain ⟨m, hm⟩ : ∃ m, m = s[i].toNat % 16 := ⟨_, rfl⟩
  have hm0 : vv s i m 0 = m := rfl
  have hmb : bt s i 0 % 16 = m := by rw [hb0, hm]
  have hmlt : m < 16 := by omega
  rw [← hm] at e1
  have HD := Lib.hid hd
  have HMB := Lib.hid hmb
  clear hm hd hb0 hmb hm0
  have g0 : decide ((s[i].toNat : Int) < 128) = false := by simp; omega
  have g1 : decide ((194 : Int) ≤ (s[i].toNat : Int)) = true := by simp; omega
  have g2 : decide ((s[i].toNat : Int) ≤ 223) = false := by simp; omega
  have g3 : decide ((224 : Int) ≤ (s[i].toNat : Int)) = true := by simp; omega
  have g4 : decide ((s[i].toNat : Int) ≤ 239) = true := by simp; omega
  have gz : decide ((s.size : Int) < (i : Int) + 3) = false := by simp; omega
  go_enter Tryz.func82, Tryz.ntmps82
  go_wp2
  have hbad0 := bad_val s i hi
  have HBV := Lib.hid hbad0
  clear hbad0
  go_loop [8, 9] (fun v k => ∃ kk V : Nat, 1 ≤ kk ∧ kk ≤ 3 ∧ k = .int .i64 kk ∧ v = .int .i64 V ∧ V < 16 * 64 ^ (kk - 1) ∧ Hid (V = vv s i m (kk - 1) ∧ ∀ j, 1 ≤ j → j < kk → bt s i j / 64 = 2)) (fun _ k => 3 - (RowKit.intOf k).toNat)
  case atStart => exact ⟨1, m, by omega, by omega, rfl, rfl, by simpa using hmlt, ⟨rfl, fun j a b => by omega⟩⟩
  case round =>
    obtain ⟨kk, V, hk1, hk2, rfl, rfl, hVlt, HV⟩ := hrel
    by_cases hkn : kk < 3
    · have hin : i + kk < s.size := by omega
      have hx := s[i + kk].toNat_lt
      have hbt := bt_at s i kk hin
      have ht := u8_top s[i + kk]
      by_cases hc : s[i + kk].toNat / 64 = 2
      · have hc1 : (bits .and .u8 (s[i + kk].toNat : Int) 192 != 128) = false := by rw [ht, hc]; rfl
        obtain ⟨X, hX⟩ : ∃ X, X = s[i + kk].toNat % 64 := ⟨_, rfl⟩
        have hlow := u8_low s[i + kk]
        rw [← hX] at hlow
        have hXlt : X < 64 := by omega
        have hVb : V < 2 ^ 20 := by
          have hkc : kk = 1 ∨ kk = 2 ∨ kk = 3 := by omega
          rcases hkc with rfl | rfl | rfl <;> simp at hVlt <;> omega
        have hor := or_i64 (V * 64) X (by omega) (by omega) hXlt
        have hV64 : ((V * 64 : Nat) : Int) = (V : Int) * 64 := by omega
        rw [hV64] at hor
        obtain ⟨V', hV'⟩ : ∃ V', V' = V * 64 + X := ⟨_, rfl⟩
        rw [← hV'] at hor
        have HN := Lib.hid (show V' = vv s i m kk ∧ ∀ j, 1 ≤ j → j < kk + 1 → bt s i j / 64 = 2 from by
          obtain ⟨q1, q2⟩ := HV.out
          refine ⟨?_, fun j a b => ?_⟩
          · obtain ⟨kp, rfl⟩ : ∃ kp, kk = kp + 1 := ⟨kk - 1, by omega⟩
            rw [hV', hX, vv, hbt, q1]; rfl
          · by_cases hjk : j = kk
            · subst hjk; rw [hbt]; exact hc
            · exact q2 j a (by omega))
        have hVn : V' < 16 * 64 ^ (kk + 1 - 1) := by
          have hkc : kk = 1 ∨ kk = 2 ∨ kk = 3 := by omega
          rcases hkc with rfl | rfl | rfl <;> simp at hVlt ⊢ <;> omega
        have hkp : kk + 1 - 1 = kk := by omega
        have HKP := Lib.hid hkp
        have HVN := Lib.hid hVn
        clear hX hV' hV64 ht hbt hVlt hc hkp hVn
        go_wp2
        go_round
        case rel => exact ⟨kk + 1, V', by omega, by omega, by go_num, rfl, HVN.out, by rw [HKP.out]; exact HN.out⟩
        case measure => simp [RowKit.intOf]; omega
      · have hc1 : (bits .and .u8 (s[i + kk].toNat : Int) 192 != 128) = true := by
          rw [ht]; simp; omega
        have hbad : decodeL (s.data.toList.drop i) = (65533, 1) := by
          rw [HD.out, if_neg]
          intro hall
          apply hc
          rw [← hbt]
          have hkc : kk = 1 ∨ kk = 2 := by omega
          rcases hkc with rfl | rfl
          · exact hall.1.2
          · exact hall.2.1.2
        have HR := Lib.hid (HBV.out hbad)
        clear ht hbt hVlt hc hbad
        go_wp2
        exact bodyPost_ret (v := .agg #[.int .i64 i, .int .i64 1, .int .i64 (-1 - s[i].toNat)]) (by simp [results, Tryz.results82, go_sem]) rfl ⟨by rw [HR.out], ((Below.refl _ _).alloc (Nat.le_refl _) _).alloc (by simp) _⟩
    · obtain rfl : kk = 3 := by omega
      obtain ⟨q1, q2⟩ := HV.out
      have hV : V = (m * 64 + bt s i 1 % 64) * 64 + bt s i 2 % 64 := q1
      have hVlt' : V < 2097152 := by simp at hVlt; omega
      have hdec := HD.out
      rw [HMB.out, ← hV] at hdec
      clear q1 hV hVlt
      have hcase : (V < 2048) ∨ (2048 ≤ V ∧ V < 55296) ∨ (55296 ≤ V ∧ V ≤ 57343) ∨ (57344 ≤ V) := by omega
      rcases hcase with v1 | ⟨v1, v2⟩ | ⟨v1, v2⟩ | v1
      · have hde : decodeL (s.data.toList.drop i) = (65533, 1) := by rw [hdec, if_neg (by omega)]
        have HR := Lib.hid (HBV.out hde)
        clear q2 hdec hde
        go_wp2
        exact bodyPost_ret (v := .agg #[.int .i64 i, .int .i64 1, .int .i64 (-1 - s[i].toNat)]) (by simp [results, Tryz.results82, go_sem]) rfl ⟨by rw [HR.out], ((Below.refl _ _).alloc (Nat.le_refl _) _).alloc (by simp) _⟩
      · have hde : decodeL (s.data.toList.drop i) = (V, 3) := by rw [hdec, if_pos ⟨⟨by omega, q2 1 (by omega) (by omega)⟩, ⟨by omega, q2 2 (by omega) (by omega)⟩, by omega, by omega⟩]
        have HR := Lib.hid (good_val s i 3 V (by omega) hde)
        clear q2 hdec hde
        go_wp2
        exact bodyPost_ret (v := .agg #[.int .i64 i, .int .i64 3, .int .i64 V]) (by simp [results, Tryz.results82, go_sem]) rfl ⟨by rw [HR.out]; rfl, ((Below.refl _ _).alloc (Nat.le_refl _) _).alloc (by simp) _⟩
      · have hde : decodeL (s.data.toList.drop i) = (65533, 1) := by rw [hdec, if_neg (by omega)]
        have HR := Lib.hid (HBV.out hde)
        clear q2 hdec hde
        go_wp2
        exact bodyPost_ret (v := .agg #[.int .i64 i, .int .i64 1, .int .i64 (-1 - s[i].toNat)]) (by simp [results, Tryz.results82, go_sem]) rfl ⟨by rw [HR.out], ((Below.refl _ _).alloc (Nat.le_refl _) _).alloc (by simp) _⟩
      · have hde : decodeL (s.data.toList.drop i) = (V, 3) := by rw [hdec, if_pos ⟨⟨by omega, q2 1 (by omega) (by omega)⟩, ⟨by omega, q2 2 (by omega) (by omega)⟩, by omega, by omega⟩]
        have HR := Lib.hid (good_val s i 3 V (by omega) hde)
        clear q2 hdec hde
        go_wp2
        exact bodyPost_ret (v := .agg #[.int .i64 i, .int .i64 3, .int .i64 V]) (by simp [results, Tryz.results82, go_sem]) rfl ⟨by rw [HR.out]; rfl, ((Below.refl _ _).alloc (Nat.le_refl _) _).alloc (by simp) _⟩


set_option maxRecDepth 100000 in
set_option maxHeartbeats 2000000 in
theorem one_lead4 (s : ByteArray) (i : Nat) (w : World) (hi : i < s.size) (hs : s.size ≤ 1000000000000) (h1 : 240 ≤ s[i].toNat) (h2 : s[i].toNat ≤ 244) (h3 : i + 4 ≤ s.size) :
    Calls Tryz.prog 82 #[.string s, .int .i64 i] w fun e w' => e = .returned (uVal i (s.data.toList.drop i)) ∧ Below w.heap.size w w' := by
  have hbb := s[i].toNat_lt
  have e1 := and7 s[i].toNat (by omega)
  have hd := dec_bt s i
  rw [dec4 _ _ _ _ _ (by rw [bt_at s i 0 (by omega)]; exact h1) (by rw [bt_at s i 0 (by omega)]; exact h2)] at hd
  have hb0 : bt s i 0 = s[i].toNat := bt_at s i 0 (by omega)
  obtain ⟨m, hm⟩ : ∃ m, m = s[i].toNat % 8 := ⟨_, rfl⟩
  have hm0 : vv s i m 0 = m := rfl
  have hmb : bt s i 0 % 8 = m := by rw [hb0, hm]
  have hmlt : m < 8 := by omega
  rw [← hm] at e1
  have HD := Lib.hid hd
  have HMB := Lib.hid hmb
  clear hm hd hb0 hmb hm0
  have g0 : decide ((s[i].toNat : Int) < 128) = false := by simp; omega
  have g1 : decide ((194 : Int) ≤ (s[i].toNat : Int)) = true := by simp; omega
  have g2 : decide ((s[i].toNat : Int) ≤ 223) = false := by simp; omega
  have g3 : decide ((224 : Int) ≤ (s[i].toNat : Int)) = true := by simp; omega
  have g4 : decide ((s[i].toNat : Int) ≤ 239) = false := by simp; omega
  have g5 : decide ((240 : Int) ≤ (s[i].toNat : Int)) = true := by simp; omega
  have g6 : decide ((s[i].toNat : Int) ≤ 244) = true := by simp; omega
  have gz : decide ((s.size : Int) < (i : Int) + 4) = false := by simp; omega
  go_enter Tryz.func82, Tryz.ntmps82
  go_wp2
  have hbad0 := bad_val s i hi
  have HBV := Lib.hid hbad0
  clear hbad0
  go_loop [8, 9] (fun v k => ∃ kk V : Nat, 1 ≤ kk ∧ kk ≤ 4 ∧ k = .int .i64 kk ∧ v = .int .i64 V ∧ V < 8 * 64 ^ (kk - 1) ∧ Hid (V = vv s i m (kk - 1) ∧ ∀ j, 1 ≤ j → j < kk → bt s i j / 64 = 2)) (fun _ k => 4 - (RowKit.intOf k).toNat)
  case atStart => exact ⟨1, m, by omega, by omega, rfl, rfl, by simpa using hmlt, ⟨rfl, fun j a b => by omega⟩⟩
  case round =>
    obtain ⟨kk, V, hk1, hk2, rfl, rfl, hVlt, HV⟩ := hrel
    by_cases hkn : kk < 4
    · have hin : i + kk < s.size := by omega
      have hx := s[i + kk].toNat_lt
      have hbt := bt_at s i kk hin
      have ht := u8_top s[i + kk]
      by_cases hc : s[i + kk].toNat / 64 = 2
      · have hc1 : (bits .and .u8 (s[i + kk].toNat : Int) 192 != 128) = false := by rw [ht, hc]; rfl
        obtain ⟨X, hX⟩ : ∃ X, X = s[i + kk].toNat % 64 := ⟨_, rfl⟩
        have hlow := u8_low s[i + kk]
        rw [← hX] at hlow
        have hXlt : X < 64 := by omega
        have hVb : V < 2 ^ 20 := by
          have hkc : kk = 1 ∨ kk = 2 ∨ kk = 3 := by omega
          rcases hkc with rfl | rfl | rfl <;> simp at hVlt <;> omega
        have hor := or_i64 (V * 64) X (by omega) (by omega) hXlt
        have hV64 : ((V * 64 : Nat) : Int) = (V : Int) * 64 := by omega
        rw [hV64] at hor
        obtain ⟨V', hV'⟩ : ∃ V', V' = V * 64 + X := ⟨_, rfl⟩
        rw [← hV'] at hor
        have HN := Lib.hid (show V' = vv s i m kk ∧ ∀ j, 1 ≤ j → j < kk + 1 → bt s i j / 64 = 2 from by
          obtain ⟨q1, q2⟩ := HV.out
          refine ⟨?_, fun j a b => ?_⟩
          · obtain ⟨kp, rfl⟩ : ∃ kp, kk = kp + 1 := ⟨kk - 1, by omega⟩
            rw [hV', hX, vv, hbt, q1]; rfl
          · by_cases hjk : j = kk
            · subst hjk; rw [hbt]; exact hc
            · exact q2 j a (by omega))
        have hVn : V' < 8 * 64 ^ (kk + 1 - 1) := by
          have hkc : kk = 1 ∨ kk = 2 ∨ kk = 3 := by omega
          rcases hkc with rfl | rfl | rfl <;> simp at hVlt ⊢ <;> omega
        have hkp : kk + 1 - 1 = kk := by omega
        have HKP := Lib.hid hkp
        have HVN := Lib.hid hVn
        clear hX hV' hV64 ht hbt hVlt hc hkp hVn
        go_wp2
        go_round
        case rel => exact ⟨kk + 1, V', by omega, by omega, by go_num, rfl, HVN.out, by rw [HKP.out]; exact HN.out⟩
        case measure => simp [RowKit.intOf]; omega
      · have hc1 : (bits .and .u8 (s[i + kk].toNat : Int) 192 != 128) = true := by
          rw [ht]; simp; omega
        have hbad : decodeL (s.data.toList.drop i) = (65533, 1) := by
          rw [HD.out, if_neg]
          intro hall
          apply hc
          rw [← hbt]
          have hkc : kk = 1 ∨ kk = 2 ∨ kk = 3 := by omega
          rcases hkc with rfl | rfl | rfl
          · exact hall.1.2
          · exact hall.2.1.2
          · exact hall.2.2.1.2
        have HR := Lib.hid (HBV.out hbad)
        clear ht hbt hVlt hc hbad
        go_wp2
        exact bodyPost_ret (v := .agg #[.int .i64 i, .int .i64 1, .int .i64 (-1 - s[i].toNat)]) (by simp [results, Tryz.results82, go_sem]) rfl ⟨by rw [HR.out], ((Below.refl _ _).alloc (Nat.le_refl _) _).alloc (by simp) _⟩
    · obtain rfl : kk = 4 := by omega
      obtain ⟨q1, q2⟩ := HV.out
      have hV : V = ((m * 64 + bt s i 1 % 64) * 64 + bt s i 2 % 64) * 64 + bt s i 3 % 64 := q1
      have hVlt' : V < 2097152 := by simp at hVlt; omega
      have hdec := HD.out
      rw [HMB.out, ← hV] at hdec
      clear q1 hV hVlt
      have hcase : (V < 65536) ∨ (65536 ≤ V ∧ V ≤ 1114111) ∨ (1114111 < V) := by omega
      rcases hcase with v1 | ⟨v1, v2⟩ | v1
      · have hde : decodeL (s.data.toList.drop i) = (65533, 1) := by rw [hdec, if_neg (by omega)]
        have HR := Lib.hid (HBV.out hde)
        clear q2 hdec hde
        go_wp2
        exact bodyPost_ret (v := .agg #[.int .i64 i, .int .i64 1, .int .i64 (-1 - s[i].toNat)]) (by simp [results, Tryz.results82, go_sem]) rfl ⟨by rw [HR.out], ((Below.refl _ _).alloc (Nat.le_refl _) _).alloc (by simp) _⟩
      · have hde : decodeL (s.data.toList.drop i) = (V, 4) := by rw [hdec, if_pos ⟨⟨by omega, q2 1 (by omega) (by omega)⟩, ⟨by omega, q2 2 (by omega) (by omega)⟩, ⟨by omega, q2 3 (by omega) (by omega)⟩, by omega, by omega⟩]
        have HR := Lib.hid (good_val s i 4 V (by omega) hde)
        clear q2 hdec hde
        go_wp2
        exact bodyPost_ret (v := .agg #[.int .i64 i, .int .i64 4, .int .i64 V]) (by simp [results, Tryz.results82, go_sem]) rfl ⟨by rw [HR.out]; rfl, ((Below.refl _ _).alloc (Nat.le_refl _) _).alloc (by simp) _⟩
      · have hde : decodeL (s.data.toList.drop i) = (65533, 1) := by rw [hdec, if_neg (by omega)]
        have HR := Lib.hid (HBV.out hde)
        clear q2 hdec hde
        go_wp2
        exact bodyPost_ret (v := .agg #[.int .i64 i, .int .i64 1, .int .i64 (-1 - s[i].toNat)]) (by simp [results, Tryz.results82, go_sem]) rfl ⟨by rw [HR.out], ((Below.refl _ _).alloc (Nat.le_refl _) _).alloc (by simp) _⟩



/-- The document's own reading of the unit at a place. -/
theorem one_any (s : ByteArray) (i : Nat) (w : World) (hi : i < s.size) (hs : s.size ≤ 1000000000000) :
    Calls Tryz.prog 82 #[.string s, .int .i64 i] w fun e w' => e = .returned (uVal i (s.data.toList.drop i)) ∧ Below w.heap.size w w' := by
  have hbb := s[i].toNat_lt
  have hb0 : bt s i 0 = s[i].toNat := bt_at s i 0 (by omega)
  by_cases h0 : s[i].toNat < 128
  · rw [ascii_val s i hi h0]
    exact one_ascii s i w hi hs h0
  · by_cases h1 : (128 ≤ s[i].toNat ∧ s[i].toNat < 194) ∨ 244 < s[i].toNat
    · rw [bad_val s i hi (by rw [dec_bt]; exact decodeN_bad _ _ _ _ _ (by rw [hb0]; omega))]
      exact one_none s i w hi hs h1
    · by_cases h2 : (194 ≤ s[i].toNat ∧ s[i].toNat ≤ 223 ∧ s.size < i + 2) ∨ (224 ≤ s[i].toNat ∧ s[i].toNat ≤ 239 ∧ s.size < i + 3) ∨ (240 ≤ s[i].toNat ∧ s[i].toNat ≤ 244 ∧ s.size < i + 4)
      · rw [bad_val s i hi (by
          rw [dec_bt]
          rcases h2 with ⟨a, b, c⟩ | ⟨a, b, c⟩ | ⟨a, b, c⟩
          · rw [dec2 _ _ _ _ _ (by omega) (by omega), if_neg (by omega)]
          · rw [dec3 _ _ _ _ _ (by omega) (by omega), if_neg (by omega)]
          · rw [dec4 _ _ _ _ _ (by omega) (by omega), if_neg (by omega)])]
        exact one_short s i w hi hs h2
      · by_cases h3 : s[i].toNat ≤ 223
        · exact one_lead2 s i w hi hs (by omega) h3 (by omega)
        · by_cases h4 : s[i].toNat ≤ 239
          · exact one_lead3 s i w hi hs (by omega) h4 (by omega)
          · exact one_lead4 s i w hi hs (by omega) (by omega) (by omega)
end
section
open Go Go.RowKit Go.Lib

/-- What holds at the head of each round. -/
def RallInv (s : ByteArray) (w : World) (B : Nat) (v : Value) (wr : World) (pos : Nat) (us : List (Nat × Nat × Int)) : Prop :=
  pos ≤ s.size ∧ units 0 s.data.toList = us ++ units pos (s.data.toList.drop pos) ∧ us.length ≤ pos ∧ wr.ownsRow B 118 3 v us.length (us.flatMap uCells) ∧ Below B w wr ∧ B ≤ wr.heap.size

theorem RallInv.step {s : ByteArray} {w : World} {B : Nat} {v : Value} {wr : World} {pos : Nat} {us : List (Nat × Nat × Int)} (h : RallInv s w B v wr pos us) (hp : pos < s.size) {N : Nat} {C : Int}
    (hN : N = (decodeL (s.data.toList.drop pos)).2) (hC : C = uCode (s.data.toList.drop pos)) {w3 : World} (hb : Below wr.heap.size wr w3) {v' : Value} {w4 : World}
    (hown : w4.ownsRow B 118 3 v' (us.length + 1) (us.flatMap uCells ++ [.int .i64 pos, .int .i64 N, .int .i64 C])) (hg : w3.grownBy w4 v.ownBlock) : RallInv s w B v' w4 (pos + N) (us ++ [(pos, N, C)]) := by
  obtain ⟨h1, h3, h4, h5, h6, h7⟩ := h
  have hne : s.data.toList.drop pos ≠ [] := by
    intro h0
    have := congrArg List.length h0
    rw [List.length_drop, ← Lib.size_eq, List.length_nil] at this
    omega
  have hle := decodeL_le _ hne
  have hw := decodeL_width (s.data.toList.drop pos)
  rw [List.length_drop, ← Lib.size_eq] at hle
  have hb6 : Below B w w3 := h6.trans (hb.mono h7)
  refine ⟨by omega, ?_, by simp; omega, ?_, hb6.grown hg (Nat.le_trans h7 hb.size) (fun k hk => (h5.lt k hk).1), Nat.le_trans (Nat.le_trans h7 hb.size) hg.size⟩
  · rw [h3, units_step pos _ hne, ← hN, ← hC, List.drop_drop]
    simp
  · have : (us ++ [(pos, N, C)]).flatMap uCells = us.flatMap uCells ++ [.int .i64 pos, .int .i64 N, .int .i64 C] := by simp [uCells]
    rw [this]
    simpa using hown

theorem cells_new2 (w : World) (o : Obj) (cs : List Value) (t : TypeId) : ∀ j u, cs[j]? = some u → ((w.alloc o).alloc (.cells cs.toArray t)).cell? ((⟨w.heap.size + 1, 0, none⟩ : Addr).add j) = some u := by
  have h := cells_new (w.alloc o) cs t
  have e : (w.alloc o).heap.size = w.heap.size + 1 := by simp
  rwa [e] at h

set_option maxHeartbeats 1000000 in
theorem rall_any (s : ByteArray) (w : World) (hs : s.size ≤ 1000000000000) :
    Calls Tryz.prog 66 #[.string s] w fun e w' => ∃ v, e = .returned v ∧ w'.ownsRow w.heap.size 118 3 v (units 0 s.data.toList).length ((units 0 s.data.toList).flatMap uCells) ∧ Below w.heap.size w w' := by
  obtain ⟨i0, hi, hz0, hz1, hz2⟩ := info_parts Tryz.info118
  go_enter Tryz.func66, Tryz.ntmps66
  go_wp2
  have hinv0 : RallInv s w w.heap.size (.slice none 0 0) w 0 [] := ⟨Nat.zero_le _, by simp, Nat.le_refl _, World.ownsRow_nil _ _ _ _, Below.refl _ _, Nat.le_refl _⟩
  go_loopw [3, 4] (fun v i wr => ∃ (pos : Nat) (us : List (Nat × Nat × Int)), i = .int .i64 pos ∧ Hid (RallInv s w w.heap.size v wr pos us)) (fun _ i _ => s.size - (RowKit.intOf i).toNat)
  case atStart => exact ⟨0, [], rfl, hinv0⟩
  case round =>
    obtain ⟨pos, us, rfl, HI⟩ := hrel
    have hpl := HI.out.1
    have hul := HI.out.2.2.1
    clear hinv0
    by_cases hp : pos < s.size
    · have hne : s.data.toList.drop pos ≠ [] := by
        intro h0
        have := congrArg List.length h0
        rw [List.length_drop, ← Lib.size_eq, List.length_nil] at this
        omega
      have hle := decodeL_le _ hne
      rw [List.length_drop, ← Lib.size_eq] at hle
      have hwd := decodeL_width (s.data.toList.drop pos)
      obtain ⟨N, hN⟩ : ∃ N, N = (decodeL (s.data.toList.drop pos)).2 := ⟨_, rfl⟩
      obtain ⟨C, hC⟩ : ∃ C, C = uCode (s.data.toList.drop pos) := ⟨_, rfl⟩
      have cU : ∀ wx, Calls Tryz.prog 82 #[.string s, .int .i64 pos] wx fun e w' => e = .returned (.agg #[.int .i64 pos, .int .i64 N, .int .i64 C]) ∧ Below wx.heap.size wx w' := by
        intro wx
        have := one_any s pos wx hp hs
        rwa [uVal, ← hN, ← hC] at this
      rw [← hN] at hle hwd
      have CU := Lib.hid cU
      have HN := Lib.hid hN
      have HC := Lib.hid hC
      clear hN hC cU hne
      go_wp2_with fail
      refine (CU.out _).mono ?_
      rintro e w3 ⟨rfl, hb3⟩
      have hne3 : some w3.heap.size ≠ u3.ownBlock := by
        intro e
        have := (HI.out.2.2.2.1.lt _ e.symm).2
        have := hb3.size
        omega
      have HNE := Lib.hid hne3
      clear hne3
      go_wp2_with (at_builtin; refine wpList_append_own _ rfl _ _ 115 rfl w.heap.size 118 i0 (.agg #[.int .i64 0, .int .i64 0, .int .i64 0]) 3 24 Tryz.underlying115 hi hz0 hz1 hz2 rfl (by decide) _ _ _ rfl (((own_below HI.out.2.2.2.1 hb3).alloc _).alloc _) ⟨w3.heap.size + 1, 0, none⟩ 1 1 [.int .i64 pos, .int .i64 N, .int .i64 C] rfl rfl (cells_new2 _ _ _ _) (uCells_one (pos, N, C)) (by unfold maxLen; omega) (by omega) (by have := hb3.size; have := HI.out.2.2.2.2.2; simp; omega) ?_; intro v' w4 hown4 hgrow4 _; have m1 := hgrow4.cell (a := ⟨w3.heap.size, 1, none⟩) (v := .int .i64 N) (by simp) HNE.out)
      have hst := Lib.hid (HI.out.step hp HN.out HC.out (((hb3.alloc hb3.size _).alloc (by have := hb3.size; simp; omega) _)) hown4 hgrow4)
      clear hown4 hgrow4 hb3
      go_roundw
      case rel => exact ⟨pos + N, _, by go_num, hst.out⟩
      case measure => simp [RowKit.intOf]; omega
    · go_wp2
      go_ret
      obtain ⟨h1, h3, h4, h5, h6, h7⟩ := HI.out
      have h0 : s.data.toList.drop pos = [] := List.drop_eq_nil_of_le (by rw [← Lib.size_eq]; omega)
      rw [h0, units_nil, List.append_nil] at h3
      exact ⟨_, rfl, by rw [h3]; exact h5, h6⟩
end
section
open Go Go.RowKit Go.Lib

theorem cells3 : ∀ (us : List (Nat × Nat × Int)) (k : Nat) (u : Nat × Nat × Int), us[k]? = some u →
    (us.flatMap uCells)[k * 3]? = some (.int .i64 u.1) ∧ (us.flatMap uCells)[k * 3 + 1]? = some (.int .i64 u.2.1) ∧ (us.flatMap uCells)[k * 3 + 2]? = some (.int .i64 u.2.2)
  | [], k, u, h => by simp at h
  | x :: us, 0, u, h => by
    simp at h; subst h
    simp [uCells]
  | x :: us, k + 1, u, h => by
    have ih := cells3 us k u (by simpa using h)
    have e : (x :: us).flatMap uCells = uCells x ++ us.flatMap uCells := rfl
    have hl : (uCells x).length = 3 := rfl
    rw [e]
    refine ⟨?_, ?_, ?_⟩
    · rw [List.getElem?_append_right (by omega), hl, show (k + 1) * 3 - 3 = k * 3 by omega]; exact ih.1
    · rw [List.getElem?_append_right (by omega), hl, show (k + 1) * 3 + 1 - 3 = k * 3 + 1 by omega]; exact ih.2.1
    · rw [List.getElem?_append_right (by omega), hl, show (k + 1) * 3 + 2 - 3 = k * 3 + 2 by omega]; exact ih.2.2
theorem own_open {w : World} {B e size n : Nat} {v : Value} {xs : List Value} (h : w.ownsRow B e size v n xs) (hn : 0 < n) :
    ∃ g cap, v = .slice (some ⟨g, 0, none⟩) n cap ∧ B ≤ g ∧ g < w.heap.size ∧ n ≤ cap ∧ cap ≤ maxLen ∧ ∀ j u, xs[j]? = some u → w.cell? ⟨g, j, none⟩ = some u := by
  have hc := @World.ownsRow.cells _ _ _ _ _ _ _ h
  rcases h.2 with ⟨_, rfl⟩ | ⟨g, cap, cur, rfl, hb, hg, hnc, hcm, _⟩
  · omega
  · refine ⟨g, cap, rfl, hb, (Array.getElem?_eq_some_iff.1 hg).1, hnc, hcm, fun j u hu => ?_⟩
    have hadd : (⟨g, 0, none⟩ : Addr).add j = ⟨g, j, none⟩ := by unfold Addr.add; split <;> simp_all
    rw [← hadd]
    exact hc (g := g) rfl j u hu

theorem own_apart {w : World} {B e e' size size' n n' : Nat} {v v' : Value} {xs xs' : List Value} (h : w.ownsRow B e size v n xs) (h' : w.ownsRow B e' size' v' n' xs') (hne : e ≠ e') : v.ownBlock = none ∨ v.ownBlock ≠ v'.ownBlock := by
  rcases h.2 with ⟨rfl, _⟩ | ⟨g, cap, cur, rfl, _, hg, _⟩
  · left; rfl
  · right
    rcases h'.2 with ⟨rfl, _⟩ | ⟨g', cap', cur', rfl, _, hg', _⟩
    · simp [Value.ownBlock]
    · simp only [Value.ownBlock]
      intro e1
      obtain rfl : g = g' := Option.some.inj e1
      rw [hg] at hg'
      simp at hg'
      exact hne hg'.2

/-- What holds at the head of each round. -/
def RcodInv (w : World) (B : Nat) (us : List (Nat × Nat × Int)) (vs : Value) (n : Nat) (v : Value) (wr : World) (k : Nat) : Prop :=
  wr.ownsRow B 118 3 vs n (us.flatMap uCells) ∧ wr.ownsRow B 3 1 v k ((us.take k).map fun u => .int .i64 u.2.2) ∧ ((us.take k).all fun u => decide (0 ≤ u.2.2)) = true ∧ Below B w wr ∧ B ≤ wr.heap.size

theorem RcodInv.step {w : World} {B : Nat} {us : List (Nat × Nat × Int)} {vs : Value} {n : Nat} {v : Value} {wr : World} {k : Nat} (h : RcodInv w B us vs n v wr k) {u : Nat × Nat × Int} (hu : us[k]? = some u) (h0 : 0 ≤ u.2.2)
    {v' : Value} {w4 : World} {o o' : Obj} (hown : w4.ownsRow B 3 1 v' (k + 1) (((us.take k).map fun u => .int .i64 u.2.2) ++ [.int .i64 u.2.2])) (hg : ((wr.alloc o).alloc o').grownBy w4 v.ownBlock) : RcodInv w B us vs n v' w4 (k + 1) := by
  obtain ⟨h1, h2, h3, h4, h5⟩ := h
  have ht : us.take (k + 1) = us.take k ++ [u] := by
    rw [List.take_add_one, hu]; rfl
  refine ⟨((h1.alloc o).alloc o').kept hg (own_apart h1 h2 (by decide)), ?_, ?_, ?_, ?_⟩
  · rw [ht, List.map_append]; exact hown
  · rw [ht, List.all_append, h3]; simp [h0]
  · exact ((h4.alloc h5 o).alloc (by simp; omega) o').grown hg (by simp; omega) (fun g hk => (h2.lt g hk).1)
  · have := hg.size; simp at this; omega

set_option maxHeartbeats 1000000 in
theorem rcodes_any (s : ByteArray) (w : World) (hs : s.size ≤ 1000000000000) :
    Calls Tryz.prog 44 #[.string s] w fun e w' => ∃ v, e = .returned (.tuple #[v, .bool (validD s.data.toList)]) ∧ w'.ownsRow w.heap.size 3 1 v (codesL s.data.toList).length ((codesL s.data.toList).map (Value.int .i64)) ∧ Below w.heap.size w w' := by
  obtain ⟨i0, hi, hz0, hz1, hz2⟩ := info_parts Tryz.info3
  have hlen := units_length_le s.data.toList 0
  rw [← Lib.size_eq] at hlen
  have hvu := validD_units s.data.toList 0
  have hcl : codesL s.data.toList = if validD s.data.toList then (units 0 s.data.toList).map (·.2.2) else [] := rfl
  obtain ⟨us, hus⟩ : ∃ us, us = units 0 s.data.toList := ⟨_, rfl⟩
  have cA : ∀ wx, Calls Tryz.prog 66 #[.string s] wx fun e w' => ∃ A cap, e = .returned (.slice A us.length cap) ∧ us.length ≤ cap ∧ cap ≤ maxLen ∧ w'.ownsRow wx.heap.size 118 3 (.slice A us.length cap) us.length (us.flatMap uCells) ∧ Below wx.heap.size wx w' := by
    intro wx
    rw [hus]
    refine (rall_any s wx hs).mono ?_
    rintro e w' ⟨v, he, ho, hb⟩
    rcases ho.2 with ⟨rfl, h0⟩ | ⟨g, cap, cur, rfl, _, _, hnc, hcm, _⟩
    · exact ⟨none, 0, by rw [he, h0], by omega, by simp, by rw [h0] at ho ⊢; exact ho, hb⟩
    · exact ⟨_, cap, he, hnc, hcm, ho, hb⟩
  rw [← hus] at hlen hvu hcl
  obtain ⟨n, hn⟩ : ∃ n, n = us.length := ⟨_, rfl⟩
  rw [← hn] at hlen cA
  have CA := Lib.hid cA
  have HVU := Lib.hid hvu
  have HCL := Lib.hid hcl
  have HN := Lib.hid hn
  clear cA hvu hcl hus hn
  go_enter Tryz.func44, Tryz.ntmps44
  go_wp2_with fail
  refine (CA.out _).mono ?_
  rintro e w1 ⟨A, cap, rfl, hc1, hc2, hown1, hb1⟩
  have hinv0 := Lib.hid (show RcodInv w w.heap.size us (.slice A n cap) n (.slice none 0 0) w1 0 from ⟨hown1, by simpa using World.ownsRow_nil w1 w.heap.size 3 1, by simp, hb1, hb1.size⟩)
  clear hown1 hb1
  go_wp2_with fail
  unfold maxLen at hc2
  go_loopw [4, 10] (fun v i wr => ∃ k : Nat, i = .int .i64 k ∧ k ≤ n ∧ Hid (RcodInv w w.heap.size us (.slice A n cap) n v wr k)) (fun _ i _ => n - (RowKit.intOf i).toNat)
  case atStart => exact ⟨0, rfl, Nat.zero_le _, hinv0.out⟩
  case round =>
    obtain ⟨k, rfl, hkn, HI⟩ := hrel
    clear hinv0
    by_cases hk : k < n
    · obtain ⟨u, hu⟩ : ∃ u, us[k]? = some u := by
        have hql : k < us.length := by rw [← HN.out]; exact hk
        exact ⟨us[k], List.getElem?_eq_getElem hql⟩
      obtain ⟨g, cap', hA, _, hg, hcc, _, hcells⟩ := own_open HI.out.1 (by omega)
      simp only [Value.slice.injEq, true_and] at hA
      obtain ⟨rfl, rfl⟩ := hA
      obtain ⟨x0, x1, x2⟩ := cells3 us k u hu
      have m0 := hcells _ _ x0
      have m1 := hcells _ _ x1
      have m2 := hcells _ _ x2
      have HU := Lib.hid hu
      clear hcells x0 x1 x2 hu
      obtain ⟨ua, ub, uc⟩ := u
      dsimp only at m0 m1 m2
      by_cases hc : uc < 0
      · have hbad : validD s.data.toList = false := by
          rw [HVU.out, Bool.eq_false_iff]
          intro hall
          have := List.all_eq_true.1 hall _ (List.mem_of_getElem? HU.out)
          simp at this
          omega
        have hcod : codesL s.data.toList = [] := by rw [HCL.out, hbad]; rfl
        have HB := Lib.hid (And.intro hbad hcod)
        clear hbad hcod
        go_wp2
        go_ret2
        refine ⟨_, by rw [HB.out.1]; rfl, ?_, HI.out.2.2.2.1.alloc HI.out.2.2.2.2 _⟩
        rw [HB.out.2]
        exact World.ownsRow_nil _ _ _ _
      · have hc0 : 0 ≤ uc := by omega
        go_wp2_with (at_builtin; refine wpList_append_own _ rfl _ _ 23 rfl w.heap.size 3 i0 (.int .i64 0) 1 8 Tryz.underlying23 hi hz0 hz1 hz2 rfl (by decide) _ _ _ rfl ((HI.out.2.1.alloc _).alloc _) ⟨wr.heap.size + 1, 0, none⟩ 1 1 [.int .i64 uc] rfl rfl (cells_new2 _ _ _ _) (ints_oneCell .i64 [uc]) (by unfold maxLen; omega) (by omega) (by have := HI.out.2.2.2.2; simp; omega) ?_; intro v' w4 hown4 hgrow4 _)
        have hst := Lib.hid (HI.out.step HU.out hc0 hown4 hgrow4)
        clear hown4 hgrow4
        go_roundw
        case rel => exact ⟨k + 1, by go_num, by omega, hst.out⟩
        case measure => simp [RowKit.intOf]; omega
    · have hkk : k = n := by omega
      obtain ⟨i1, i2, i3, i4, i5⟩ := HI.out
      have htk : us.take k = us := List.take_of_length_le (by rw [← HN.out]; omega)
      rw [htk] at i2 i3
      have hgood : validD s.data.toList = true := by rw [HVU.out]; exact i3
      have hcod : codesL s.data.toList = us.map (·.2.2) := by rw [HCL.out, hgood]; rfl
      have HB := Lib.hid (And.intro hgood (And.intro hcod (And.intro i2 i4)))
      clear hgood hcod i1 i2 i3 i4 i5 htk
      go_wp2_with fail
      go_ret2
      refine ⟨_, by rw [HB.out.1]; rfl, ?_, HB.out.2.2.2⟩
      rw [HB.out.2.1, List.length_map, List.map_map, ← HN.out, ← hkk]
      exact HB.out.2.2.1
end
section
open Go Go.RowKit Go.Lib

theorem rvalid_any (s : ByteArray) (w : World) (hs : s.size ≤ 1000000000000) :
    Calls Tryz.prog 59 #[.string s] w fun e w' => e = .returned (.bool (validD s.data.toList)) ∧ Below w.heap.size w w' := by
  have C := Lib.hid (rcodes_any s w hs)
  go_enter Tryz.func59, Tryz.ntmps59
  go_wp2_with (go_at_call 44; refine C.out.mono ?_)
  rintro e w1 ⟨v, rfl, -, hb⟩
  have HB := Lib.hid hb
  clear hb
  go_wp2_with fail
  go_ret
  exact ⟨rfl, HB.out⟩

theorem ret_bool10 {a b : Bool} (h : a = b) : Ending.returned (.bool a) = .returned (.bool b) := by rw [h]
theorem toL_data (s : ByteArray) : s.toList = s.data.toList := by rw [ByteArray.toList_eq]
theorem flagL_one (b : UInt8) : flagL [b] = if (97 ≤ b.toNat ∧ b.toNat ≤ 122) ∨ (65 ≤ b.toNat ∧ b.toNat ≤ 90) then (b.toNat : Int) else 0 := rfl
theorem flagL_not {x : List UInt8} (h : x.length ≠ 1) : flagL x = 0 := by
  match x, h with
  | [], _ => rfl
  | _ :: _ :: _, _ => rfl
theorem ba_size (x : List UInt8) : (⟨x.toArray⟩ : ByteArray).size = x.length := by show x.toArray.size = _; rw [List.size_toArray]

set_option maxRecDepth 100000 in
set_option maxHeartbeats 1000000 in
theorem rflag_any (s : ByteArray) (w : World) (_hs : s.size ≤ 1000000000000) :
    Calls Tryz.prog 35 #[.string s] w fun e w' => e = .returned (.int .i64 (flagL s.data.toList)) ∧ w' = w := by
  by_cases h1 : s.size = 1
  · obtain ⟨b, hb⟩ : ∃ b, s.data.toList = [b] := by
      have : s.data.toList.length = 1 := by rw [← Lib.size_eq]; exact h1
      exact List.length_eq_one_iff.1 this
    have hk : 0 < s.size := by omega
    have hget : s[0]'hk = b := by
      have h2 : s.data.toList[0]? = s.data[0]? := Array.getElem?_toList
      rw [hb] at h2
      have h3 : s.data[0]? = some (s.data[0]'hk) := Array.getElem?_eq_getElem hk
      rw [h3] at h2
      exact (Option.some.inj h2).symm
    rw [hb, flagL_one]
    have hi : ((s.size : Int) == 1) = true := by rw [h1]; rfl
    have hi2 : (0 : Int) < s.size := by omega
    obtain ⟨x, hx⟩ : ∃ x, x = b.toNat := ⟨_, rfl⟩
    have hgx : (s[0]'hk).toNat = x := by rw [hget, hx]
    have hlt : x < 256 := by rw [hx]; exact b.toNat_lt
    rw [← hx]
    clear hb hget hx
    by_cases c1 : 97 ≤ x
    · by_cases c2 : x ≤ 122
      · rw [if_pos (.inl ⟨c1, c2⟩)]
        have d1 : (97 : Int) ≤ x := by omega
        have d2 : (x : Int) ≤ 122 := by omega
        go_enter Tryz.func35, Tryz.ntmps35
        go_wp2_with fail
        go_ret
        exact ⟨rfl, rfl⟩
      · rw [if_neg (by omega)]
        have d1 : (97 : Int) ≤ x := by omega
        have d2 : ¬ (x : Int) ≤ 122 := by omega
        have d3 : (65 : Int) ≤ x := by omega
        have d4 : ¬ (x : Int) ≤ 90 := by omega
        go_enter Tryz.func35, Tryz.ntmps35
        go_wp2_with fail
        go_ret
        exact ⟨rfl, rfl⟩
    · have d1 : ¬ (97 : Int) ≤ x := by omega
      by_cases c2 : 65 ≤ x
      · have d3 : (65 : Int) ≤ x := by omega
        by_cases c3 : x ≤ 90
        · rw [if_pos (.inr ⟨c2, c3⟩)]
          have d4 : (x : Int) ≤ 90 := by omega
          go_enter Tryz.func35, Tryz.ntmps35
          go_wp2_with fail
          go_ret
          exact ⟨rfl, rfl⟩
        · rw [if_neg (by omega)]
          have d4 : ¬ (x : Int) ≤ 90 := by omega
          go_enter Tryz.func35, Tryz.ntmps35
          go_wp2_with fail
          go_ret
          exact ⟨rfl, rfl⟩
      · rw [if_neg (by omega)]
        have d3 : ¬ (65 : Int) ≤ x := by omega
        go_enter Tryz.func35, Tryz.ntmps35
        go_wp2_with fail
        go_ret
        exact ⟨rfl, rfl⟩
  · rw [flagL_not (by rw [← Lib.size_eq]; exact h1)]
    have hi : ((s.size : Int) == 1) = false := by simp; omega
    clear h1
    go_enter Tryz.func35, Tryz.ntmps35
    go_wp2_with fail
    go_ret
    exact ⟨rfl, rfl⟩

set_option maxRecDepth 100000 in
set_option maxHeartbeats 1000000 in
theorem rpart_any (s : ByteArray) (w : World) (hs : s.size ≤ 1000000000000) :
    Calls Tryz.prog 36 #[.string s] w fun e w' => (∃ t, e = .returned (.tuple #[.string t, .bool (partL s.data.toList).isSome]) ∧ ∀ u, partL s.data.toList = some u → t = u) ∧ Below w.heap.size w w' := by
  have V := Lib.hid (rvalid_any s w hs)
  go_enter Tryz.func36, Tryz.ntmps36
  go_wp2_with (go_at_call 59; refine V.out.mono ?_; rintro e w1 ⟨rfl, hb⟩)
  · rename_i h
    go_ret2
    have h2 : s.data.toList = [48] := by rw [← toL_data]; simpa using h
    have hp : partL s.data.toList = some ⟨#[]⟩ := by unfold partL; rw [if_pos h2]
    rw [hp]
    exact ⟨⟨_, rfl, fun u hu => Option.some.inj hu⟩, Below.refl _ _⟩
  · rename_i h1 h
    go_ret2
    have h2 : s.data.toList = [] := by rw [← toL_data]; exact h
    have hp : partL s.data.toList = none := by unfold partL; rw [if_neg (by rw [h2]; simp), if_neg (by rw [h2]; simp)]
    rw [hp]
    exact ⟨⟨_, rfl, fun u hu => by cases hu⟩, Below.refl _ _⟩
  · rename_i h1 h2 h3
    go_ret2
    have h4 : ¬ s.data.toList = [48] := by rw [← toL_data]; simpa using h1
    have h5 : ¬ s.data.toList = [] := by rw [← toL_data]; exact h2
    have h6 : s.toList.isEmpty = false := by simpa using h2
    have h7 : s.data.toList.length ≤ 20 := by rw [← Lib.size_eq]; omega
    cases hv : validD s.data.toList with
    | true =>
      have hp : partL s.data.toList = some s := by unfold partL; rw [if_neg h4, if_pos ⟨h5, h7, hv⟩, ba_list]
      rw [hp]
      refine ⟨⟨s, ?_, fun u hu => Option.some.inj hu⟩, hb⟩
      show Ending.returned (.tuple #[.string s, .bool (!s.toList.isEmpty && true)]) = _
      rw [h6]
      rfl
    | false =>
      have hp : partL s.data.toList = none := by unfold partL; rw [if_neg h4, if_neg (by rw [hv]; simp)]
      rw [hp]
      refine ⟨⟨s, ?_, fun u hu => by cases hu⟩, hb⟩
      show Ending.returned (.tuple #[.string s, .bool (!s.toList.isEmpty && false)]) = _
      rw [h6]
      rfl
  · rename_i h1 h2 h3
    go_ret2
    have h4 : ¬ s.data.toList = [48] := by rw [← toL_data]; simpa using h1
    have h7 : ¬ s.data.toList.length ≤ 20 := by rw [← Lib.size_eq]; omega
    have hp : partL s.data.toList = none := by unfold partL; rw [if_neg h4, if_neg (fun h => h7 h.2.1)]
    rw [hp]
    exact ⟨⟨_, rfl, fun u hu => by cases hu⟩, Below.refl _ _⟩

/-- A text begins, ends with another one. -/
def begins (s t : ByteArray) : Bool := decide (t.size ≤ s.size ∧ s.extract 0 t.size = t)
def endsW (s t : ByteArray) : Bool := decide (t.size ≤ s.size ∧ s.extract (s.size - t.size) s.size = t)
theorem ba_beq (a b : ByteArray) : (a.toList == b.toList) = decide (a = b) := by
  rw [Bool.eq_iff_iff, beq_iff_eq, decide_eq_true_eq, toL_data, toL_data]
  constructor
  · intro h
    rw [← ba_list a, h, ba_list]
  · intro h; rw [h]

set_option maxRecDepth 100000 in
set_option maxHeartbeats 1000000 in
theorem rbegins_any (s t : ByteArray) (w : World) (_hs : s.size ≤ 1000000000000) (ht : t.size ≤ 1000000000000) :
    Calls Tryz.prog 45 #[.string s, .string t] w fun e w' => e = .returned (.bool (begins s t)) ∧ w' = w := by
  by_cases h : t.size ≤ s.size
  · have hd : begins s t = decide (s.extract 0 t.size = t) := by unfold begins; simp [h]
    rw [hd]
    have h1 : (t.size : Int) ≤ s.size := by omega
    have h2 : (0 : Int) ≤ t.size := by omega
    have hb := ba_beq (s.extract 0 t.size) t
    clear hd h
    go_enter Tryz.func45, Tryz.ntmps45
    go_wp2_with fail
    go_ret
    exact ⟨by first | rfl | exact ret_bool10 (by simpa using hb), rfl⟩
  · have hd : begins s t = false := by unfold begins; simp [h]
    rw [hd]
    have h1 : ¬ (t.size : Int) ≤ s.size := by omega
    clear hd h
    go_enter Tryz.func45, Tryz.ntmps45
    go_wp2_with fail
    go_ret
    exact ⟨rfl, rfl⟩

set_option maxRecDepth 100000 in
set_option maxHeartbeats 1000000 in
theorem rends10_any (s t : ByteArray) (w : World) (hs : s.size ≤ 1000000000000) (ht : t.size ≤ 1000000000000) :
    Calls Tryz.prog 47 #[.string s, .string t] w fun e w' => e = .returned (.bool (endsW s t)) ∧ w' = w := by
  by_cases h : t.size ≤ s.size
  · have hd : endsW s t = decide (s.extract (s.size - t.size) s.size = t) := by unfold endsW; simp [h]
    rw [hd]
    obtain ⟨k, hk⟩ : ∃ k, k = s.size - t.size := ⟨_, rfl⟩
    have h1 : (t.size : Int) ≤ s.size := by omega
    have h2 : (s.size : Int) - t.size = k := by omega
    have h3 : (0 : Int) ≤ k := by omega
    have h4 : (k : Int) ≤ s.size := by omega
    rw [← hk]
    have hb := ba_beq (s.extract k s.size) t
    clear hd h hk
    go_enter Tryz.func47, Tryz.ntmps47
    go_wp2_with fail
    go_ret
    exact ⟨by first | rfl | exact ret_bool10 (by simpa using hb), rfl⟩
  · have hd : endsW s t = false := by unfold endsW; simp [h]
    rw [hd]
    have h1 : ¬ (t.size : Int) ≤ s.size := by omega
    clear hd h
    go_enter Tryz.func47, Tryz.ntmps47
    go_wp2_with fail
    go_ret
    exact ⟨rfl, rfl⟩
end
section
open Go Go.RowKit

theorem it_ext {a b : It} (h1 : a.any = b.any) (h2 : a.not = b.not) (h3 : a.set = b.set) : a = b := by
  obtain ⟨_, _, _⟩ := a
  obtain ⟨_, _, _⟩ := b
  simp only at h1 h2 h3
  subst h1 h2 h3
  rfl
theorem list_ext9 {α : Type} {l l' : List α} {n : Nat} (h1 : l.length = n) (h2 : l'.length = n) (h : ∀ (i : Nat) (a b : α), l[i]? = some a → l'[i]? = some b → a = b) : l = l' := by
  apply List.ext_getElem?
  intro i
  by_cases hi : i < n
  · have e1 : l[i]? = some l[i] := List.getElem?_eq_getElem (by omega)
    have e2 : l'[i]? = some l'[i] := List.getElem?_eq_getElem (by omega)
    rw [e1, e2, h i _ _ e1 e2]
  · rw [List.getElem?_eq_none (by omega), List.getElem?_eq_none (by omega)]
theorem items_open {w : World} {v : Value} {l : List It} (h : ItemsAt w v l) : ∃ A cap, v = .slice A l.length cap ∧ ∀ (i : Nat) it, l[i]? = some it → ∃ b off, A = some ⟨b, off, none⟩ ∧ b < w.heap.size ∧ l.length ≤ cap ∧ w.cell? ⟨b, off + i * 3, none⟩ = some (.bool it.any) ∧ w.cell? ⟨b, off + i * 3 + 1, none⟩ = some (.bool it.not) ∧ ∃ sv, w.cell? ⟨b, off + i * 3 + 2, none⟩ = some sv ∧ IntsAt w sv it.set := by
  obtain ⟨rfl, a, cap, rfl⟩ | ⟨b, off, cap, rfl, hlt, hcap, hm, hc⟩ := h
  · exact ⟨a, cap, rfl, fun i it hi => by simp at hi⟩
  · exact ⟨_, cap, rfl, fun i it hi => ⟨b, off, rfl, hlt, hcap, hc i it hi⟩⟩
end
section
open Go Go.RowKit

theorem contains_next (set : List Int) (j : Nat) (x c : Int) (hx : set[j]? = some x) : (set.take (j + 1)).contains c = ((set.take j).contains c || (x == c)) := by
  rw [List.take_add_one, hx]
  have key : ∀ l : List Int, (l ++ [x]).contains c = (l.contains c || (x == c)) := fun l => by
    by_cases h1 : c ∈ l
    · have e1 : (l ++ [x]).contains c = true := List.contains_iff_mem.2 (List.mem_append_left _ h1)
      have e2 : l.contains c = true := List.contains_iff_mem.2 h1
      rw [e1, e2]; rfl
    · have e2 : l.contains c = false := by rw [Bool.eq_false_iff]; intro e; exact h1 (List.contains_iff_mem.1 e)
      by_cases h2 : x = c
      · have e1 : (l ++ [x]).contains c = true := List.contains_iff_mem.2 (List.mem_append_right _ (by rw [h2]; exact List.mem_cons_self ..))
        rw [e1, e2, h2]; simp
      · have e1 : (l ++ [x]).contains c = false := by
          rw [Bool.eq_false_iff]; intro e
          rcases List.mem_append.1 (List.contains_iff_mem.1 e) with h | h
          · exact h1 h
          · exact h2 (List.mem_singleton.1 h).symm
        rw [e1, e2, beq_eq_false_iff_ne.2 h2]; rfl
  exact key _

set_option maxRecDepth 100000 in
set_option maxHeartbeats 2000000 in
theorem rhas_any (w : World) (it : It) (c : Int) (A : Option Addr) (n cap : Nat) (hn : n = it.set.length) (hs : IntsAt w (.slice A n cap) it.set) (h1 : n ≤ 100000) :
    Calls Tryz.prog 67 #[.agg #[.bool it.any, .bool it.not, .slice A n cap], .int .i64 c] w fun e w' => e = .returned (.bool (hasP it c)) ∧ Below w.heap.size w w' := by
  obtain ⟨A', cap', hv, hA⟩ := ints_open hs
  have e1 : A = A' ∧ cap = cap' := by injection hv with a b c; exact ⟨a, c⟩
  obtain ⟨rfl, rfl⟩ := e1
  obtain ⟨any, neg, set⟩ := it
  dsimp only at hn hA ⊢
  have HA := Lib.hid (And.intro hn hA)
  clear hs hv hA hn
  go_enter Tryz.func67, Tryz.ntmps67
  go_wp2_with fail
  have k0 : (w.alloc (.cells #[.bool any, .bool neg, .slice A n cap] /-t-/48)).cell? ⟨w.heap.size, 0, none⟩ = some (.bool any) := by simp
  have k1 : (w.alloc (.cells #[.bool any, .bool neg, .slice A n cap] /-t-/48)).cell? ⟨w.heap.size, 1, none⟩ = some (.bool neg) := by simp
  have k2 : (w.alloc (.cells #[.bool any, .bool neg, .slice A n cap] /-t-/48)).cell? ⟨w.heap.size, 2, none⟩ = some (.slice A n cap) := by simp
  have hbel := (Below.refl w.heap.size w).alloc (Nat.le_refl _) (.cells #[.bool any, .bool neg, .slice A n cap] /-t-/48)
  generalize w.alloc (.cells #[.bool any, .bool neg, .slice A n cap] /-t-/48) = wB at *
  have HB := Lib.hid hbel
  clear hbel
  go_loop [5, 6] (fun b i => ∃ j : Nat, j ≤ n ∧ i = .int .i64 j ∧ b = .bool ((set.take j).contains c)) (fun _ i => n - (RowKit.intOf i).toNat)
  case atStart => exact ⟨0, Nat.zero_le _, rfl, by rw [List.take_zero]; rfl⟩
  case round =>
    obtain ⟨j, hj, rfl, rfl⟩ := hrel
    have tj0 : (0 : Int) ≤ j := by omega
    by_cases hjn : j < n
    · have hjI : (j : Int) < n := by omega
      obtain ⟨x, hx⟩ : ∃ x, set[j]? = some x := ⟨_, List.getElem?_eq_getElem (by have := HA.out.1; omega)⟩
      obtain ⟨q, o, rfl, hq, hqc, cq⟩ := HA.out.2 j x hx
      have hcap : n ≤ cap := by have := HA.out.1; omega
      have p2 := (cell_old (p := ⟨q, o + j, none⟩) HB.out hq).trans cq
      have hnext := contains_next set j x c hx
      have HNX := Lib.hid hnext
      clear cq hqc hx hnext
      cases hb : (set.take j).contains c
      · rw [hb] at HNX
        by_cases hxc : x = c
        · subst hxc
          have hxx : (x == x) = true := by simp
          go_wp2_with fail
          go_round
          case rel => exact ⟨j + 1, by omega, by go_num, by rw [HNX.out]; simp⟩
          case measure => simp [RowKit.intOf]; omega
        · have hxx : (x == c) = false := by rw [beq_eq_false_iff_ne]; exact hxc
          clear hxc
          go_wp2_with fail
          go_round
          case rel => exact ⟨j + 1, by omega, by go_num, by rw [HNX.out]; simp [hxx]⟩
          case measure => simp [RowKit.intOf]; omega
      · rw [hb] at HNX
        go_wp2_with fail
        go_round
        case rel => exact ⟨j + 1, by omega, by go_num, by rw [HNX.out]; simp⟩
        case measure => simp [RowKit.intOf]; omega
    · obtain rfl : j = n := by omega
      have htk : set.take j = set := List.take_of_length_le (by have := HA.out.1; omega)
      rw [htk]
      cases hb : set.contains c <;> cases any <;> cases neg
      all_goals
        go_wp2_with fail
        go_ret
        exact ⟨by simp only [hasP, hb]; rfl, HB.out⟩

theorem starts_cons9 (it : It) (l : List It) (c : Int) (cs : List Int) : startsP (it :: l) (c :: cs) = (hasP it c && startsP l cs) := by
  unfold startsP
  simp only [List.length_cons, Nat.add_le_add_iff_right, List.zip_cons_cons, List.all_cons]
  cases decide (l.length ≤ cs.length) <;> cases hasP it c <;> simp
theorem drop_cons9 {α : Type} {l : List α} {k : Nat} {x : α} (h : l[k]? = some x) : l.drop k = x :: l.drop (k + 1) := by
  have hk := (List.getElem?_eq_some_iff.1 h).1
  rw [List.drop_eq_getElem_cons hk]
  have := List.getElem?_eq_getElem hk
  rw [h] at this
  rw [Option.some.inj this]

set_option maxRecDepth 100000 in
set_option maxHeartbeats 4000000 in
theorem rstarts_any (w : World) (A B : Option Addr) (n m cap capc : Nat) (l : List It) (cs : List Int) (h : ItemsAt w (.slice A n cap) l) (h' : IntsAt w (.slice B m capc) cs) (hn : n = l.length) (hm : m = cs.length) (hl : n ≤ 100000) (hl' : m ≤ 100000) (hs : ∀ it ∈ l, it.set.length ≤ 100000) :
    Calls Tryz.prog 46 #[.slice A n cap, .slice B m capc] w fun e w' => e = .returned (.bool (startsP l cs)) ∧ Below w.heap.size w w' := by
  obtain ⟨A', cap', hv, hc⟩ := items_open h
  obtain ⟨B', capc', hv', hc'⟩ := ints_open h'
  obtain ⟨rfl, rfl⟩ : A = A' ∧ cap = cap' := by injection hv with a b c; exact ⟨a, c⟩
  obtain ⟨rfl, rfl⟩ : B = B' ∧ capc = capc' := by injection hv' with a b c; exact ⟨a, c⟩
  obtain ⟨R, hR⟩ : ∃ R, R = startsP l cs := ⟨_, rfl⟩
  rw [← hR]
  by_cases hlt : m < n
  · have hR0 : R = false := by rw [hR]; unfold startsP; rw [decide_eq_false (by omega)]; rfl
    subst hR0
    have hI : (m : Int) < n := by omega
    clear hc hc' h h' hv hv' hn hm hs hR
    go_enter Tryz.func46, Tryz.ntmps46
    go_wp2_with fail
    go_ret
    exact ⟨rfl, Below.refl _ _⟩
  · have hI : ¬ (m : Int) < n := by omega
    have HC := Lib.hid (And.intro hc hc')
    have HN := Lib.hid (And.intro hn hm)
    have HS := Lib.hid hs
    have h0 : Hid (R = startsP (l.drop 0) (cs.drop 0)) := Lib.hid hR
    have hnm : n ≤ m := by omega
    clear hc hc' h h' hv hv' hn hm hs hR hlt
    go_enter Tryz.func46, Tryz.ntmps46
    go_wp2_with fail
    go_loopg [5] n (fun g i wr => ∃ k : Nat, k + g = n ∧ i = .int .i64 k ∧ Hid (R = startsP (l.drop k) (cs.drop k)) ∧ Hid (Below w.heap.size w wr))
    case atStart => exact ⟨0, by omega, rfl, h0, Lib.hid (Below.refl _ _)⟩
    case round =>
      obtain ⟨k, hk, rfl, HR, HB⟩ := hrel
      clear h0
      rcases Nat.eq_zero_or_pos gk with g0 | g0
      · have hkn : k = n := by omega
        subst hkn
        have hR1 : R = true := by
          rw [HR.out, List.drop_eq_nil_of_le (by rw [← HN.out.1]; exact Nat.le_refl _)]
          simp [startsP]
        subst hR1
        go_wp2
        go_ret
        exact ⟨rfl, HB.out⟩
      · have hkn : (k : Int) < n := by omega
        have hkm : (k : Int) < m := by omega
        have tk1 : (0 : Int) ≤ k := by omega
        obtain ⟨it, hit⟩ : ∃ it, l[k]? = some it := ⟨_, List.getElem?_eq_getElem (by have := HN.out.1; omega)⟩
        obtain ⟨c, hcc⟩ : ∃ c, cs[k]? = some c := ⟨_, List.getElem?_eq_getElem (by have := HN.out.2; omega)⟩
        obtain ⟨b, off, rfl, hlt, hcp, x0, x1, sv, x2, xs⟩ := HC.out.1 k it hit
        obtain ⟨q, o, rfl, hq, hqc, cq⟩ := HC.out.2 k c hcc
        obtain ⟨SA, cp, rfl, -⟩ := ints_open xs
        have hcap : n ≤ cap := by have := HN.out.1; omega
        have hcapc : m ≤ capc := by have := HN.out.2; omega
        obtain ⟨sl, hsl⟩ : ∃ sl, sl = it.set.length := ⟨_, rfl⟩
        rw [← hsl] at x2 xs
        have hR2 : R = (hasP it c && startsP (l.drop (k + 1)) (cs.drop (k + 1))) := by
          rw [HR.out, drop_cons9 hit, drop_cons9 hcc, starts_cons9]
        have HM := Lib.hid (show ∀ wx, Below w.heap.size w wx → wx.cell? ⟨b, off + k * 3, none⟩ = some (.bool it.any) ∧ wx.cell? ⟨b, off + k * 3 + 1, none⟩ = some (.bool it.not) ∧ wx.cell? ⟨b, off + k * 3 + 2, none⟩ = some (.slice SA sl cp) ∧ wx.cell? ⟨q, o + k, none⟩ = some (.int .i64 c) ∧ Hid (Below w.heap.size w wx) from fun wx hb =>
          ⟨(cell_old (p := ⟨b, off + k * 3, none⟩) hb hlt).trans x0, (cell_old (p := ⟨b, off + k * 3 + 1, none⟩) hb hlt).trans x1, (cell_old (p := ⟨b, off + k * 3 + 2, none⟩) hb hlt).trans x2, (cell_old (p := ⟨q, o + k, none⟩) hb hq).trans cq, Lib.hid hb⟩)
        have CH := Lib.hid (show ∀ wx, (wx.cell? ⟨b, off + k * 3, none⟩ = some (.bool it.any) ∧ wx.cell? ⟨b, off + k * 3 + 1, none⟩ = some (.bool it.not) ∧ wx.cell? ⟨b, off + k * 3 + 2, none⟩ = some (.slice SA sl cp) ∧ wx.cell? ⟨q, o + k, none⟩ = some (.int .i64 c) ∧ Hid (Below w.heap.size w wx)) → Calls Tryz.prog 67 #[.agg #[.bool it.any, .bool it.not, .slice SA sl cp], .int .i64 c] wx fun e w' => e = .returned (.bool (hasP it c)) ∧ (w'.cell? ⟨b, off + k * 3, none⟩ = some (.bool it.any) ∧ w'.cell? ⟨b, off + k * 3 + 1, none⟩ = some (.bool it.not) ∧ w'.cell? ⟨b, off + k * 3 + 2, none⟩ = some (.slice SA sl cp) ∧ w'.cell? ⟨q, o + k, none⟩ = some (.int .i64 c) ∧ Hid (Below w.heap.size w w')) from fun wx hx => by
          refine (rhas_any wx it c SA sl cp hsl (xs.keep hx.2.2.2.2.out) (by rw [hsl]; exact HS.out it (List.mem_of_getElem? hit))).mono ?_
          rintro e w' ⟨rfl, hb⟩
          exact ⟨rfl, HM.out w' (hx.2.2.2.2.out.trans (hb.mono hx.2.2.2.2.out.size))⟩)
        have HS0 := Lib.hid (HM.out wr.drew HB.out.drew)
        obtain ⟨z0, z1, z2, z3, -⟩ := HM.out wr HB.out
        clear x0 x1 x2 xs cq hit hcc hcp hqc hsl
        have HR2 := Lib.hid hR2
        clear hR2
        cases hh : hasP it c
        · rw [hh] at CH HR2
          obtain rfl : R = false := by rw [HR2.out]; rfl
          obtain ⟨any, neg, set⟩ := it
          dsimp only at z0 z1 z2 CH HM HS0
          go_wp2_with fail
          go_region_held3 (fun wx => wx.cell? ⟨b, off + k * 3, none⟩ = some (.bool any) ∧ wx.cell? ⟨b, off + k * 3 + 1, none⟩ = some (.bool neg) ∧ wx.cell? ⟨b, off + k * 3 + 2, none⟩ = some (.slice SA sl cp) ∧ wx.cell? ⟨q, o + k, none⟩ = some (.int .i64 c) ∧ Hid (Below w.heap.size w wx))
            (first | exact HS0.out | assumption)
            (first | (go_at_call 67; refine (CH.out _ (by assumption)).mono ?_; rintro e w5 ⟨rfl, hs⟩))
          have hb5 : Hid (Below w.heap.size w w5) := by
            have hx : w5.cell? ⟨b, off + k * 3, none⟩ = some (.bool any) ∧ w5.cell? ⟨b, off + k * 3 + 1, none⟩ = some (.bool neg) ∧ w5.cell? ⟨b, off + k * 3 + 2, none⟩ = some (.slice SA sl cp) ∧ w5.cell? ⟨q, o + k, none⟩ = some (.int .i64 c) ∧ Hid (Below w.heap.size w w5) := by assumption
            exact hx.2.2.2.2
          go_wp2_with fail
          go_ret
          exact ⟨rfl, hb5.out⟩
        · rw [hh] at CH HR2
          obtain ⟨any, neg, set⟩ := it
          dsimp only at z0 z1 z2 CH HM HS0
          go_wp2_with fail
          go_region_held3 (fun wx => wx.cell? ⟨b, off + k * 3, none⟩ = some (.bool any) ∧ wx.cell? ⟨b, off + k * 3 + 1, none⟩ = some (.bool neg) ∧ wx.cell? ⟨b, off + k * 3 + 2, none⟩ = some (.slice SA sl cp) ∧ wx.cell? ⟨q, o + k, none⟩ = some (.int .i64 c) ∧ Hid (Below w.heap.size w wx))
            (first | exact HS0.out | assumption)
            (first | (go_at_call 67; refine (CH.out _ (by assumption)).mono ?_; rintro e w5 ⟨rfl, hs⟩))
          have hb5 : Hid (Below w.heap.size w w5) := by
            have hx : w5.cell? ⟨b, off + k * 3, none⟩ = some (.bool any) ∧ w5.cell? ⟨b, off + k * 3 + 1, none⟩ = some (.bool neg) ∧ w5.cell? ⟨b, off + k * 3 + 2, none⟩ = some (.slice SA sl cp) ∧ w5.cell? ⟨q, o + k, none⟩ = some (.int .i64 c) ∧ Hid (Below w.heap.size w w5) := by assumption
            exact hx.2.2.2.2
          go_wp2_with fail
          go_roundg (gk - 1)
          case measure => omega
          case rel => exact ⟨k + 1, by omega, by go_num, Lib.hid (by rw [HR2.out, Bool.true_and]), hb5⟩

set_option maxRecDepth 100000 in
set_option maxHeartbeats 4000000 in
theorem rends_any (w : World) (A B : Option Addr) (n m cap capc : Nat) (l : List It) (cs : List Int) (h : ItemsAt w (.slice A n cap) l) (h' : IntsAt w (.slice B m capc) cs) (hn : n = l.length) (hm : m = cs.length) (hl : n ≤ 100000) (hl' : m ≤ 100000) (hs : ∀ it ∈ l, it.set.length ≤ 100000) :
    Calls Tryz.prog 48 #[.slice A n cap, .slice B m capc] w fun e w' => e = .returned (.bool (endsP l cs)) ∧ Below w.heap.size w w' := by
  by_cases hlt : m < n
  · have hR0 : endsP l cs = false := by unfold endsP; rw [decide_eq_false (by omega)]; rfl
    rw [hR0]
    have hI : (m : Int) < n := by omega
    have hI2 : ¬ (n : Int) ≤ m := by omega
    clear h h' hn hm hs hR0
    go_enter Tryz.func48, Tryz.ntmps48
    go_wp2_with fail
    go_ret
    exact ⟨rfl, Below.refl _ _⟩
  · have hI2 : (n : Int) ≤ m := by omega
    have hR1 : endsP l cs = startsP l (cs.drop (m - n)) := by
      unfold endsP
      rw [decide_eq_true (by omega), Bool.true_and, ← hn, ← hm]
    rw [hR1]
    have tw : IntKind.i64.wrap ((m : Int) - n) = ((m - n : Nat) : Int) := by rw [IntWalk.i64_in _ (by omega)]; omega
    have t0 : (0 : Int) ≤ ((m - n : Nat) : Int) := by omega
    have t1 : ((m - n : Nat) : Int) ≤ m := by omega
    have hdl : (cs.drop (m - n)).length = n := by rw [List.length_drop]; omega
    obtain ⟨hnil, a, cap1, hv⟩ | ⟨q, o, cap1, hv, hq, hcap, hmx, hcell⟩ := h'
    · have hm0 : m = 0 := by rw [hm, hnil]; rfl
      subst hm0
      have hn0 : n = 0 := by omega
      subst hn0
      have C := Lib.hid (fun B' c' => rstarts_any w A B' 0 0 cap c' l (cs.drop (0 - 0)) h (.inl ⟨by rw [hnil]; rfl, _, _, rfl⟩) hn (by rw [hnil]; rfl) hl (by omega) hs)
      clear h hv hnil hn hm hs hR1 hdl
      go_enter Tryz.func48, Tryz.ntmps48
      go_wp2_with fail
      refine (C.out _ _).mono ?_
      rintro e w1 ⟨rfl, hb⟩
      have HB := Lib.hid hb
      clear hb
      go_wp2_with fail
      go_ret
      exact ⟨rfl, HB.out⟩
    · obtain ⟨rfl, rfl⟩ : B = some ⟨q, o, none⟩ ∧ capc = cap1 := by injection hv with a b c; exact ⟨a, c⟩
      have hcapI : (m : Int) ≤ capc := by omega
      have C := Lib.hid (show ∀ x y, (x = o + (m - n) ∧ y = capc - (m - n) ∨ n = 0) → Calls Tryz.prog 46 #[.slice A n cap, .slice (some ⟨q, x, none⟩) n y] w fun e w' => e = .returned (.bool (startsP l (cs.drop (m - n)))) ∧ Below w.heap.size w w' from fun x y hxy => by
        refine rstarts_any w A _ n n cap y l (cs.drop (m - n)) h ?_ hn hdl.symm hl (by omega) hs
        rcases Nat.eq_zero_or_pos n with h0 | h0
        · subst h0
          exact .inl ⟨List.eq_nil_of_length_eq_zero hdl, _, _, rfl⟩
        · rcases hxy with ⟨rfl, rfl⟩ | hxy
          · refine .inr ⟨q, _, _, by rw [hdl], hq, by rw [hdl]; omega, by omega, fun i c hi => ?_⟩
            rw [List.getElem?_drop] at hi
            rw [Nat.add_assoc]
            exact hcell _ c hi
          · omega)
      clear h hv hcell hn hm hs hR1 hdl
      go_enter Tryz.func48, Tryz.ntmps48
      have tmn : m - (m - n) = n := by omega
      go_wp2_with fail
      all_goals
        refine (C.out _ _ (by first | exact .inl ⟨rfl, rfl⟩ | (right; omega))).mono ?_
        rintro e w1 ⟨rfl, hb⟩
        have HB := Lib.hid hb
        clear hb
        go_wp2_with fail
        go_ret
        exact ⟨rfl, HB.out⟩
end
end Go.Proofs.YtcbmfkgekhadkaaGreatDoor
