/- The landed cut, isWord by contract; slices.Index, Contains at []byte over the two stops; slices.Min at []int. -/
import Derived.Test.YtmadlappalhmlaaDoorGPlain
import Derived.Test.YtmadlappalhmlaaDoorYState
import Derived.Test.YtmadlappalhmlaaDoorYWord
import Derived.Test.YtmadlappalhmlaaDoorORows
import Derived.Test.YtmadlappalhmlaaDoorCodes
import Derived.BigQuiet
namespace Go.Proofs.YtmadlappalhmlaaDoor
open Go Go.RowKit Go.Lib

/-- The two stops in a block. -/
def Stops (w : World) (b : Nat) : Prop := w.cell? ⟨b, 0, none⟩ = some (.int .u8 47) ∧ w.cell? ⟨b, 1, none⟩ = some (.int .u8 35)

set_option maxRecDepth 100000 in
set_option maxHeartbeats 1000000 in
theorem gcont_any (w : World) (b x : Nat) (h : Stops w b) :
    Calls Tryd.prog 38 #[.slice (some ⟨b, 0, none⟩) 2 2, .int .u8 x] w fun e w' => e = .returned (.bool (decide (x = 47 ∨ x = 35))) ∧ w' = w := by
  have CI : Calls Tryd.prog 50 #[.slice (some ⟨b, 0, none⟩) 2 2, .int .u8 x] w fun e w' => (∃ r : Int, e = .returned (.int .i64 r) ∧ decide (0 ≤ r) = decide (x = 47 ∨ x = 35)) ∧ w' = w := by
    obtain ⟨h0, h1⟩ := h
    go_enter Tryd.func50, Tryd.ntmps50
    go_wp2_with fail
    go_loopg [5, 8] 2 (fun g _ i wr => ∃ k : Nat, k + g = 2 ∧ i = .int .i64 k ∧ w = wr ∧ Hid ((0 < k → x ≠ 47) ∧ (1 < k → x ≠ 35)))
    case atStart => exact ⟨0, by omega, rfl, rfl, Lib.hid ⟨fun h => absurd h (Nat.lt_irrefl _), fun h => by omega⟩⟩
    case round =>
      obtain ⟨k, hk, rfl, rfl, HK⟩ := hrel
      have hcs : k = 0 ∨ k = 1 ∨ k = 2 := by omega
      rcases hcs with rfl | rfl | rfl
      · by_cases hx : x = 47
        · have d : ((x : Int) == 47) = true := by simp; omega
          have HR := Lib.hid (show decide ((0 : Int) ≤ 0) = decide (x = 47 ∨ x = 35) by rw [decide_eq_true (Or.inl hx : x = 47 ∨ x = 35)]; rfl)
          clear hx
          go_wp2_with fail
          go_ret
          exact ⟨⟨_, rfl, HR.out⟩, rfl⟩
        · have d : ((x : Int) == 47) = false := by simp; omega
          have HX := Lib.hid hx
          clear hx
          go_wp2_with fail
          go_roundg (gk - 1)
          case measure => omega
          case rel => exact ⟨1, by omega, by go_num, rfl, Lib.hid ⟨fun _ => HX.out, fun h => by omega⟩⟩
      · have hx47 := HK.out.1 (by omega)
        by_cases hx : x = 35
        · have d : ((x : Int) == 35) = true := by simp; omega
          have HR := Lib.hid (show decide ((0 : Int) ≤ 1) = decide (x = 47 ∨ x = 35) by rw [decide_eq_true (Or.inr hx : x = 47 ∨ x = 35)]; rfl)
          clear hx hx47
          go_wp2_with fail
          go_ret
          exact ⟨⟨_, rfl, HR.out⟩, rfl⟩
        · have d : ((x : Int) == 35) = false := by simp; omega
          have HX := Lib.hid (And.intro hx47 hx)
          clear hx hx47
          go_wp2_with fail
          go_roundg (gk - 1)
          case measure => omega
          case rel => exact ⟨2, by omega, by go_num, rfl, Lib.hid ⟨fun _ => HX.out.1, fun _ => HX.out.2⟩⟩
      · have hx47 := HK.out.1 (by omega)
        have hx35 := HK.out.2 (by omega)
        have HR := Lib.hid (show decide ((0 : Int) ≤ -1) = decide (x = 47 ∨ x = 35) by rw [decide_eq_false (by omega : ¬ (x = 47 ∨ x = 35))]; rfl)
        clear hx47 hx35 HK
        go_wp2_with fail
        go_ret
        exact ⟨⟨_, rfl, HR.out⟩, rfl⟩
  have C := Lib.hid CI
  clear CI h
  obtain ⟨R, hR⟩ : ∃ R, R = decide (x = 47 ∨ x = 35) := ⟨_, rfl⟩
  rw [← hR] at C ⊢
  clear hR
  go_enter Tryd.func38, Tryd.ntmps38
  go_wp2_with (go_at_call 50; refine C.out.mono ?_; rintro e w1 ⟨⟨r, rfl, hr⟩, hw⟩; have hw2 := hw.symm; clear hw; subst hw2)
  go_ret
  exact ⟨rfl, rfl⟩

/-- What cut answers. -/
def CutAns (L : List UInt8) (e : Ending) : Prop := ∃ a b : ByteArray, e = .returned (.tuple #[.string a, .string b]) ∧ a.data.toList = L.takeWhile nst ∧ b.data.toList = L.dropWhile nst
theorem upto_nst (L : List UInt8) : L.take (L.takeWhile nst).length = L.takeWhile nst ∧ L.drop (L.takeWhile nst).length = L.dropWhile nst := by
  have h : L.takeWhile nst ++ L.dropWhile nst = L := List.takeWhile_append_dropWhile
  constructor
  · conv => lhs; arg 2; rw [← h]
    rw [List.take_left]
  · conv => lhs; arg 2; rw [← h]
    rw [List.drop_left]

set_option maxRecDepth 100000 in
set_option maxHeartbeats 1000000 in
theorem gcut_any (w : World) (s : ByteArray) (b : Nat) (hs : s.size ≤ 1000000000) (hb : b < w.heap.size) (h : Stops w b) :
    Calls Tryd.prog 29 #[.string s, .slice (some ⟨b, 0, none⟩) 2 2] w fun e w' => CutAns s.data.toList e ∧ Below w.heap.size w w' := by
  have hsl : s.data.toList.length = s.size := (Lib.size_eq s).symm
  obtain ⟨L, hL⟩ : ∃ L, L = s.data.toList := ⟨_, rfl⟩
  rw [← hL] at hsl ⊢
  obtain ⟨p, hp⟩ : ∃ p, p = (L.takeWhile nst).length := ⟨_, rfl⟩
  have hps : p ≤ s.size := by
    have := congrArg List.length (upto_nst L).1
    rw [List.length_take] at this
    omega
  have BYT := Lib.hid (show ∀ k (h : k < s.size), ∃ c, L[k]? = some c ∧ s[k]'h = c from fun k h => by rw [hL]; exact byte_at h)
  have HL := Lib.hid (And.intro hL hsl)
  have HP := Lib.hid hp
  have CC := Lib.hid (fun wx x (hb2 : Below w.heap.size w wx) => gcont_any wx b x ⟨(cell_old (p := ⟨b, 0, none⟩) hb2 hb).trans h.1, (cell_old (p := ⟨b, 1, none⟩) hb2 hb).trans h.2⟩)
  have BEF := Lib.hid (show ∀ k c, L[k]? = some c → k < p → nst c = true from fun k c hc hk => by
    apply takeW_mem (p := nst) L
    have h1 : (L.takeWhile nst)[k]? = some c := by
      rw [← (upto_nst L).1, List.getElem?_take, if_pos (by omega)]; exact hc
    exact List.mem_of_getElem? h1)
  have ATP := Lib.hid (show ∀ c, L[p]? = some c → nst c = false from fun c hc => by
    rw [hp] at hc
    have h1 : (L.dropWhile nst).head? = some c := by
      rw [← (upto_nst L).2, List.head?_drop]; exact hc
    cases hd : L.dropWhile nst with
    | nil => rw [hd] at h1; cases h1
    | cons y r =>
      rw [hd] at h1
      obtain rfl := Option.some.inj h1
      exact dropW_head L y r hd)
  clear hL hsl hp h hb
  go_enter Tryd.func29, Tryd.ntmps29
  go_wp2_with fail
  go_loopg [6, 9] (s.size + 1) (fun g _ i wr => ∃ k : Nat, k + g = s.size + 1 ∧ i = .int .i64 k ∧ k ≤ p ∧ Hid (Below w.heap.size w wr))
  case atStart => exact ⟨0, by omega, rfl, Nat.zero_le _, Lib.hid (Below.refl _ _)⟩
  case round =>
    obtain ⟨k, hk, rfl, hkp, HB⟩ := hrel
    have hk0 : (0 : Int) ≤ k := by omega
    by_cases hend : k = s.size
    · have hlt : ¬ (k : Int) < s.size := by omega
      have HR := Lib.hid (show CutAns L (.returned (.tuple #[.string s, .string ⟨#[]⟩])) from ⟨_, _, rfl, by
        rw [← HL.out.1, ← (upto_nst L).1, ← HP.out, List.take_of_length_le (by have := HL.out.2; omega)], by
        rw [← (upto_nst L).2, ← HP.out, List.drop_of_length_le (by have := HL.out.2; omega)]⟩)
      clear hend
      go_wp2_with fail
      go_ret2
      exact ⟨HR.out, HB.out⟩
    · have hlt : (k : Int) < s.size := by omega
      have hks : k < s.size := by omega
      obtain ⟨c, hc, hget⟩ := BYT.out k hks
      obtain ⟨x, hx⟩ : ∃ x, x = c.toNat := ⟨_, rfl⟩
      have hgx : (s[k]'hks).toNat = x := by rw [hget, hx]
      have hns : nst c = !(decide (x = 47 ∨ x = 35)) := by
        unfold nst
        rw [hx, ← decide_not]
        apply decide_eq_decide.2
        rw [not_or]
        exact ⟨fun h => ⟨fun e => h.1 (UInt8.toNat_inj.1 (e.trans rfl)), fun e => h.2 (UInt8.toNat_inj.1 (e.trans rfl))⟩, fun h => ⟨fun e => h.1 (by rw [e]; rfl), fun e => h.2 (by rw [e]; rfl)⟩⟩
      have C1 := Lib.hid (CC.out wr x HB.out)
      by_cases hkp2 : k = p
      · have h0 := ATP.out c (by rw [← hkp2]; exact hc)
        have hd : decide (x = 47 ∨ x = 35) = true := by rw [hns] at h0; rwa [Bool.not_eq_false'] at h0
        rw [hd] at C1
        have k1 : (k : Int) ≤ s.size := by omega
        have HR := Lib.hid (show CutAns L (.returned (.tuple #[.string (s.extract 0 k), .string (s.extract k s.size)])) from ⟨_, _, rfl, by
          rw [ext_list, ← HL.out.1, List.drop_zero, Nat.sub_zero, hkp2, HP.out, (upto_nst L).1], by
          rw [ext_list, ← HL.out.1, List.take_of_length_le (by rw [List.length_drop, HL.out.2]; exact Nat.le_refl _), hkp2, HP.out, (upto_nst L).2]⟩)
        clear hc hget hx hns h0 hd hkp2 hend
        go_upto_region 5 with (go_at_call 38; refine C1.out.mono ?_; rintro e w1 ⟨rfl, hw⟩; have hw2 := hw.symm; clear hw; subst hw2)
        go_quiet (fail)
        have HB3 := Lib.hid (below_drewN HB.out nq)
        go_wp2_with fail
        go_ret2
        exact ⟨HR.out, HB3.out⟩
      · have h0 := BEF.out k c hc (by omega)
        have hd : decide (x = 47 ∨ x = 35) = false := by rw [hns] at h0; rwa [Bool.not_eq_true'] at h0
        rw [hd] at C1
        clear hc hget hx hns h0 hd
        go_wp2_with (go_at_call 38; refine C1.out.mono ?_; rintro e w1 ⟨rfl, hw⟩; have hw2 := hw.symm; clear hw; subst hw2)
        go_roundg (gk - 1)
        case measure => omega
        case rel => exact ⟨k + 1, by omega, by go_num, by omega, HB⟩

set_option maxRecDepth 100000 in
set_option maxHeartbeats 1000000 in
theorem gmin_any (w : World) (v : Value) (cs : List Int) (h : IntsAt w v cs) (h0 : 0 < cs.length) :
    Calls Tryd.prog 40 #[v] w fun e w' => (∃ m : Int, e = .returned (.int .i64 m) ∧ m ∈ cs ∧ ∀ c ∈ cs, m ≤ c) ∧ w' = w := by
  have hbig := ints_bd h
  obtain ⟨A, cap, rfl, hA⟩ := ints_open h
  obtain ⟨n, hn⟩ : ∃ n, n = cs.length := ⟨_, rfl⟩
  obtain ⟨c0, hc0⟩ : ∃ c, cs[0]? = some c := ⟨_, List.getElem?_eq_getElem h0⟩
  obtain ⟨q, o, rfl, hq, hcap, x0⟩ := hA 0 c0 hc0
  have HA := Lib.hid (show ∀ (i : Nat) c, cs[i]? = some c → w.cell? ⟨q, o + i, none⟩ = some (.int .i64 c) from fun i c hi => by
    obtain ⟨q', o', e, _, _, hx⟩ := hA i c hi
    injection e with e
    injection e with e1 e2
    subst e1 e2
    exact hx)
  have x00 : w.cell? ⟨q, o, none⟩ = some (.int .i64 c0) := x0
  rw [← hn] at hbig h0 hcap ⊢
  have HN := Lib.hid hn
  have HC0 := Lib.hid hc0
  have n1 : ¬ (n : Int) < 1 := by omega
  have n2 : (0 : Int) < n := by omega
  have n3 : (n : Int) ≤ cap := by omega
  clear h hA hn hc0 x0
  go_enter Tryd.func40, Tryd.ntmps40
  go_wp2_with fail
  go_loopg [3, 4] (n - 1) (fun g mv i wr => ∃ (k : Nat) (m : Int), k + g = n ∧ 1 ≤ k ∧ mv = .int .i64 m ∧ i = .int .i64 k ∧ w = wr ∧ Hid (m ∈ cs ∧ ∀ j c, j < k → cs[j]? = some c → m ≤ c))
  case atStart => exact ⟨1, c0, by omega, Nat.le_refl _, rfl, rfl, rfl, Lib.hid ⟨List.mem_of_getElem? HC0.out, fun j c hj hc => by
    obtain rfl : j = 0 := by omega
    rw [HC0.out] at hc
    rw [Option.some.inj hc]
    exact Int.le_refl _⟩⟩
  case round =>
    obtain ⟨k, m, hk, hk1, rfl, rfl, rfl, HK⟩ := hrel
    have hk0 : (0 : Int) ≤ k := by omega
    rcases Nat.eq_zero_or_pos gk with hz | hz
    · have hkn : ¬ (k : Int) < n := by omega
      have HR := Lib.hid (show ∀ c ∈ cs, m ≤ c from fun c hc => by
        obtain ⟨j, hj, hje⟩ := List.getElem_of_mem hc
        exact HK.out.2 j c (by have := HN.out; omega) (by rw [List.getElem?_eq_getElem hj, hje]))
      go_wp2_with fail
      go_ret
      exact ⟨⟨_, rfl, HK.out.1, HR.out⟩, rfl⟩
    · have hkn : (k : Int) < n := by omega
      obtain ⟨c, hc⟩ : ∃ c, cs[k]? = some c := ⟨_, List.getElem?_eq_getElem (by have := HN.out; omega)⟩
      have xk := HA.out k c hc
      have HC := Lib.hid hc
      clear hc
      by_cases hmc : m ≤ c
      · have hmin : min m c = m := Int.min_eq_left hmc
        have HK2 := Lib.hid (show m ∈ cs ∧ ∀ j x, j < k + 1 → cs[j]? = some x → m ≤ x from ⟨HK.out.1, fun j x hj hx => by
          rcases Nat.lt_or_ge j k with h | h
          · exact HK.out.2 j x h hx
          · obtain rfl : j = k := by omega
            rw [HC.out] at hx
            rw [← Option.some.inj hx]; exact hmc⟩)
        go_wp2_with fail
        go_roundg (gk - 1)
        case measure => omega
        case rel => exact ⟨k + 1, m, by omega, by omega, rfl, by go_num, rfl, HK2⟩
      · have hmin : min m c = c := Int.min_eq_right (by omega)
        have HK2 := Lib.hid (show c ∈ cs ∧ ∀ j x, j < k + 1 → cs[j]? = some x → c ≤ x from ⟨List.mem_of_getElem? HC.out, fun j x hj hx => by
          rcases Nat.lt_or_ge j k with h | h
          · have := HK.out.2 j x h hx; omega
          · obtain rfl : j = k := by omega
            rw [HC.out] at hx
            rw [← Option.some.inj hx]; exact Int.le_refl _⟩)
        have hmc2 : c < m := by omega
        go_wp2_with fail
        go_roundg (gk - 1)
        case measure => omega
        case rel => exact ⟨k + 1, c, by omega, by omega, rfl, by go_num, rfl, HK2⟩

theorem isW_codes (l : List UInt8) : isW l = (validD l && (decide (0 < (codesL l).length) && (codesL l).all fun c => decide (33 ≤ c))) := by
  unfold isW codesB codesL
  cases h : validD l <;> simp
set_option maxRecDepth 100000 in
set_option maxHeartbeats 1000000 in
theorem gisword_any (w : World) (s : ByteArray) (hs : s.size ≤ 1000000000) (hT : Lib.Utf8Tabs 1 2 w) :
    Calls Tryd.prog 30 #[.string s] w fun e w' => e = .returned (.bool (isW s.data.toList)) ∧ Below w.heap.size w w' := by
  have CO := Lib.hid (codes_any s w (by omega) hT)
  have HW := Lib.hid (isW_codes s.data.toList)
  obtain ⟨R, hR⟩ : ∃ R, R = isW s.data.toList := ⟨_, rfl⟩
  rw [← hR] at HW ⊢
  obtain ⟨cs, hcs⟩ : ∃ cs, cs = codesL s.data.toList := ⟨_, rfl⟩
  obtain ⟨ok, hok⟩ : ∃ ok, ok = validD s.data.toList := ⟨_, rfl⟩
  rw [← hcs, ← hok] at CO HW
  clear hT hR hcs hok
  obtain ⟨n, hn⟩ : ∃ n, n = cs.length := ⟨_, rfl⟩
  rw [← hn] at CO HW
  have HN := Lib.hid hn
  clear hn
  cases ok with
  | false =>
    obtain rfl : R = false := HW.out
    go_enter Tryd.func30, Tryd.ntmps30
    go_wp2_with (go_at_call 39; refine CO.out.mono ?_; rintro e w1 ⟨v, rfl, -, hb⟩; have HB := Lib.hid hb; clear hb)
    go_ret
    exact ⟨rfl, HB.out⟩
  | true =>
    by_cases h0 : n = 0
    · subst h0
      obtain rfl : R = false := HW.out
      go_enter Tryd.func30, Tryd.ntmps30
      go_wp2_with (go_at_call 39; refine CO.out.mono ?_; rintro e w1 ⟨v, rfl, hown, hb⟩; obtain ⟨A, cap, rfl⟩ := own_shape hown; have HB := Lib.hid hb; clear hb hown)
      go_ret
      exact ⟨rfl, HB.out⟩
    · have hn0 : (0 : Int) < n := by omega
      have hW2 := HW.out
      rw [decide_eq_true (by omega : 0 < n)] at hW2
      simp only [Bool.true_and] at hW2
      have HW2 := Lib.hid hW2
      clear hW2 HW
      go_enter Tryd.func30, Tryd.ntmps30
      go_wp2_with (first
        | (go_at_call 39; refine CO.out.mono ?_; rintro e w1 ⟨v, rfl, hown, hb⟩; have CM := Lib.hid (gmin_any w1 v cs (ints_own (by rw [← HN.out]; exact hown)) (by have := HN.out; omega)); obtain ⟨A, cap, rfl⟩ := own_shape hown; have HB := Lib.hid hb; clear hb hown)
        | (go_at_call 40; refine CM.out.mono ?_; rintro e w2 ⟨⟨m, rfl, hm1, hm2⟩, hw⟩; have hw2 := hw.symm; clear hw; subst hw2; have HM := Lib.hid (And.intro hm1 hm2); clear hm1 hm2))
      go_ret
      refine ⟨?_, HB.out⟩
      rw [HW2.out]
      show Ending.returned (.bool (decide ((33 : Int) ≤ m))) = _
      congr 2
      rw [Bool.eq_iff_iff, decide_eq_true_iff, List.all_eq_true]
      exact ⟨fun h c hc => decide_eq_true (Int.le_trans h (HM.out.2 c hc)), fun h => of_decide_eq_true (h m HM.out.1)⟩
end Go.Proofs.YtmadlappalhmlaaDoor
