/- The document's word of chapter 12 by contract. -/
import Derived.BigQuiet
import Derived.Laws.IdiomStrings
import Derived.Test.YtfehpcbmdancoaaGreatDoorPaGPlain
import Derived.Test.YtfehpcbmdancoaaGreatDoorPaNGrow
import Derived.Test.YtfehpcbmdancoaaGreatDoorPaUnit
namespace Go.Proofs.YtfehpcbmdancoaaGreatDoor.Ls
open Go Go.RowKit Go.Lib

def okB (b : UInt8) : Bool := decide (33 ≤ b.toNat ∧ b ≠ 47 ∧ b ≠ 35)
theorem byte_at {s : ByteArray} {k : Nat} (h : k < s.size) : ∃ c, s.data.toList[k]? = some c ∧ s[k]'h = c := by
  have h1 : s.data.toList[k]? = s.data[k]? := Array.getElem?_toList
  have h2 : s.data[k]? = some (s.data[k]'h) := Array.getElem?_eq_getElem h
  exact ⟨_, h1.trans h2, rfl⟩

end Go.Proofs.YtfehpcbmdancoaaGreatDoor.Ls
namespace Go.Proofs.YtfehpcbmdancoaaGreatDoor.Ls
open Go Go.RowKit Go.Lib

/-- The two stops in a block. -/
def Stops (w : World) (b : Nat) : Prop := w.cell? ⟨b, 0, none⟩ = some (.int .u8 47) ∧ w.cell? ⟨b, 1, none⟩ = some (.int .u8 35)

set_option maxRecDepth 100000 in
set_option maxHeartbeats 1000000 in
theorem gcont_any (w : World) (b x : Nat) (h : Stops w b) :
    Calls Tryz.prog 150 #[.slice (some ⟨b, 0, none⟩) 2 2, .int .u8 x] w fun e w' => e = .returned (.bool (decide (x = 47 ∨ x = 35))) ∧ w' = w := by
  have CI : Calls Tryz.prog 203 #[.slice (some ⟨b, 0, none⟩) 2 2, .int .u8 x] w fun e w' => (∃ r : Int, e = .returned (.int .i64 r) ∧ decide (0 ≤ r) = decide (x = 47 ∨ x = 35)) ∧ w' = w := by
    obtain ⟨h0, h1⟩ := h
    go_enter Tryz.func203, Tryz.ntmps203
    go_wp2_with fail
    go_loopg [5, 8] 2 (fun g _ i wr => ∃ k : Nat, k + g = 2 ∧ i = .int .i64 k ∧ w = wr ∧ Hid ((0 < k → x ≠ 47) ∧ (1 < k → x ≠ 35)))
    case atStart => exact ⟨0, by omega, rfl, rfl, Lib.hid ⟨fun h => absurd h (Nat.lt_irrefl _), fun h => by omega⟩⟩
    case round =>
      obtain ⟨k, hk, rfl, rfl, HK⟩ := hrel
      have hcs : k = 0 ∨ k = 1 ∨ k = 2 := by omega
      rcases hcs with rfl | rfl | rfl
      · by_cases hx : x = 47
        · have d : ((x : Int) == 47) = true := by simp; omega
          have HR := Lib.hid (show decide ((0 : Int) ≤ 0) = decide (x = 47 ∨ x = 35) by rw [decide_eq_true (Or.inl hx : x = 47 ∨ x = 35)]; rfl)
          clear hx
          go_wp2_with fail
          go_ret
          exact ⟨⟨_, rfl, HR.out⟩, rfl⟩
        · have d : ((x : Int) == 47) = false := by simp; omega
          have HX := Lib.hid hx
          clear hx
          go_wp2_with fail
          go_roundg (gk - 1)
          case measure => omega
          case rel => exact ⟨1, by omega, by go_num, rfl, Lib.hid ⟨fun _ => HX.out, fun h => by omega⟩⟩
      · have hx47 := HK.out.1 (by omega)
        by_cases hx : x = 35
        · have d : ((x : Int) == 35) = true := by simp; omega
          have HR := Lib.hid (show decide ((0 : Int) ≤ 1) = decide (x = 47 ∨ x = 35) by rw [decide_eq_true (Or.inr hx : x = 47 ∨ x = 35)]; rfl)
          clear hx hx47
          go_wp2_with fail
          go_ret
          exact ⟨⟨_, rfl, HR.out⟩, rfl⟩
        · have d : ((x : Int) == 35) = false := by simp; omega
          have HX := Lib.hid (And.intro hx47 hx)
          clear hx hx47
          go_wp2_with fail
          go_roundg (gk - 1)
          case measure => omega
          case rel => exact ⟨2, by omega, by go_num, rfl, Lib.hid ⟨fun _ => HX.out.1, fun _ => HX.out.2⟩⟩
      · have hx47 := HK.out.1 (by omega)
        have hx35 := HK.out.2 (by omega)
        have HR := Lib.hid (show decide ((0 : Int) ≤ -1) = decide (x = 47 ∨ x = 35) by rw [decide_eq_false (by omega : ¬ (x = 47 ∨ x = 35))]; rfl)
        clear hx47 hx35 HK
        go_wp2_with fail
        go_ret
        exact ⟨⟨_, rfl, HR.out⟩, rfl⟩
  have C := Lib.hid CI
  clear CI h
  obtain ⟨R, hR⟩ : ∃ R, R = decide (x = 47 ∨ x = 35) := ⟨_, rfl⟩
  rw [← hR] at C ⊢
  clear hR
  go_enter Tryz.func150, Tryz.ntmps150
  go_wp2_with (go_at_call 203; refine C.out.mono ?_; rintro e w1 ⟨⟨r, rfl, hr⟩, hw⟩; have hw2 := hw.symm; clear hw; subst hw2)
  go_ret
  exact ⟨rfl, rfl⟩

/-- What cut answers. -/
def CutAns (L : List UInt8) (e : Ending) : Prop := ∃ a b : ByteArray, e = .returned (.tuple #[.string a, .string b]) ∧ a.data.toList = L.takeWhile nst ∧ b.data.toList = L.dropWhile nst
theorem upto_nst (L : List UInt8) : L.take (L.takeWhile nst).length = L.takeWhile nst ∧ L.drop (L.takeWhile nst).length = L.dropWhile nst := by
  have h : L.takeWhile nst ++ L.dropWhile nst = L := List.takeWhile_append_dropWhile
  constructor
  · conv => lhs; arg 2; rw [← h]
    rw [List.take_left]
  · conv => lhs; arg 2; rw [← h]
    rw [List.drop_left]

set_option maxRecDepth 100000 in
set_option maxHeartbeats 1000000 in
theorem gcut_any (w : World) (s : ByteArray) (b : Nat) (hs : s.size ≤ 1000000000) (hb : b < w.heap.size) (h : Stops w b) :
    Calls Tryz.prog 96 #[.string s, .slice (some ⟨b, 0, none⟩) 2 2] w fun e w' => CutAns s.data.toList e ∧ Below w.heap.size w w' := by
  have hsl : s.data.toList.length = s.size := (Lib.size_eq s).symm
  obtain ⟨L, hL⟩ : ∃ L, L = s.data.toList := ⟨_, rfl⟩
  rw [← hL] at hsl ⊢
  obtain ⟨p, hp⟩ : ∃ p, p = (L.takeWhile nst).length := ⟨_, rfl⟩
  have hps : p ≤ s.size := by
    have := congrArg List.length (upto_nst L).1
    rw [List.length_take] at this
    omega
  have BYT := Lib.hid (show ∀ k (h : k < s.size), ∃ c, L[k]? = some c ∧ s[k]'h = c from fun k h => by rw [hL]; exact byte_at h)
  have HL := Lib.hid (And.intro hL hsl)
  have HP := Lib.hid hp
  have CC := Lib.hid (fun wx x (hb2 : Below w.heap.size w wx) => gcont_any wx b x ⟨(cell_old (p := ⟨b, 0, none⟩) hb2 hb).trans h.1, (cell_old (p := ⟨b, 1, none⟩) hb2 hb).trans h.2⟩)
  have BEF := Lib.hid (show ∀ k c, L[k]? = some c → k < p → nst c = true from fun k c hc hk => by
    apply takeW_mem (p := nst) L
    have h1 : (L.takeWhile nst)[k]? = some c := by
      rw [← (upto_nst L).1, List.getElem?_take, if_pos (by omega)]; exact hc
    exact List.mem_of_getElem? h1)
  have ATP := Lib.hid (show ∀ c, L[p]? = some c → nst c = false from fun c hc => by
    rw [hp] at hc
    have h1 : (L.dropWhile nst).head? = some c := by
      rw [← (upto_nst L).2, List.head?_drop]; exact hc
    cases hd : L.dropWhile nst with
    | nil => rw [hd] at h1; cases h1
    | cons y r =>
      rw [hd] at h1
      obtain rfl := Option.some.inj h1
      exact dropW_head L y r hd)
  clear hL hsl hp h hb
  go_enter Tryz.func96, Tryz.ntmps96
  go_wp2_with fail
  go_loopg [6, 9] (s.size + 1) (fun g _ i wr => ∃ k : Nat, k + g = s.size + 1 ∧ i = .int .i64 k ∧ k ≤ p ∧ Hid (Below w.heap.size w wr))
  case atStart => exact ⟨0, by omega, rfl, Nat.zero_le _, Lib.hid (Below.refl _ _)⟩
  case round =>
    obtain ⟨k, hk, rfl, hkp, HB⟩ := hrel
    have hk0 : (0 : Int) ≤ k := by omega
    by_cases hend : k = s.size
    · have hlt : ¬ (k : Int) < s.size := by omega
      have HR := Lib.hid (show CutAns L (.returned (.tuple #[.string s, .string ⟨#[]⟩])) from ⟨_, _, rfl, by
        rw [← HL.out.1, ← (upto_nst L).1, ← HP.out, List.take_of_length_le (by have := HL.out.2; omega)], by
        rw [← (upto_nst L).2, ← HP.out, List.drop_of_length_le (by have := HL.out.2; omega)]⟩)
      clear hend
      go_wp2_with fail
      go_ret2
      exact ⟨HR.out, HB.out⟩
    · have hlt : (k : Int) < s.size := by omega
      have hks : k < s.size := by omega
      obtain ⟨c, hc, hget⟩ := BYT.out k hks
      obtain ⟨x, hx⟩ : ∃ x, x = c.toNat := ⟨_, rfl⟩
      have hgx : (s[k]'hks).toNat = x := by rw [hget, hx]
      have hns : nst c = !(decide (x = 47 ∨ x = 35)) := by
        unfold nst
        rw [hx, ← decide_not]
        apply decide_eq_decide.2
        rw [not_or]
        exact ⟨fun h => ⟨fun e => h.1 (UInt8.toNat_inj.1 (e.trans rfl)), fun e => h.2 (UInt8.toNat_inj.1 (e.trans rfl))⟩, fun h => ⟨fun e => h.1 (by rw [e]; rfl), fun e => h.2 (by rw [e]; rfl)⟩⟩
      have C1 := Lib.hid (CC.out wr x HB.out)
      by_cases hkp2 : k = p
      · have h0 := ATP.out c (by rw [← hkp2]; exact hc)
        have hd : decide (x = 47 ∨ x = 35) = true := by rw [hns] at h0; rwa [Bool.not_eq_false'] at h0
        rw [hd] at C1
        have k1 : (k : Int) ≤ s.size := by omega
        have HR := Lib.hid (show CutAns L (.returned (.tuple #[.string (s.extract 0 k), .string (s.extract k s.size)])) from ⟨_, _, rfl, by
          rw [ext_list, ← HL.out.1, List.drop_zero, Nat.sub_zero, hkp2, HP.out, (upto_nst L).1], by
          rw [ext_list, ← HL.out.1, List.take_of_length_le (by rw [List.length_drop, HL.out.2]; exact Nat.le_refl _), hkp2, HP.out, (upto_nst L).2]⟩)
        clear hc hget hx hns h0 hd hkp2 hend
        go_upto_region 5 with (go_at_call 150; refine C1.out.mono ?_; rintro e w1 ⟨rfl, hw⟩; have hw2 := hw.symm; clear hw; subst hw2)
        go_quiet (fail)
        have HB3 := Lib.hid (below_drewN HB.out nq)
        go_wp2_with fail
        go_ret2
        exact ⟨HR.out, HB3.out⟩
      · have h0 := BEF.out k c hc (by omega)
        have hd : decide (x = 47 ∨ x = 35) = false := by rw [hns] at h0; rwa [Bool.not_eq_true'] at h0
        rw [hd] at C1
        clear hc hget hx hns h0 hd
        go_wp2_with (go_at_call 150; refine C1.out.mono ?_; rintro e w1 ⟨rfl, hw⟩; have hw2 := hw.symm; clear hw; subst hw2)
        go_roundg (gk - 1)
        case measure => omega
        case rel => exact ⟨k + 1, by omega, by go_num, by omega, HB⟩

set_option maxRecDepth 100000 in
set_option maxHeartbeats 1000000 in
theorem gmin_any (w : World) (v : Value) (cs : List Int) (h : IntsAt w v cs) (h0 : 0 < cs.length) :
    Calls Tryz.prog 151 #[v] w fun e w' => (∃ m : Int, e = .returned (.int .i64 m) ∧ m ∈ cs ∧ ∀ c ∈ cs, m ≤ c) ∧ w' = w := by
  have hbig := ints_bd h
  obtain ⟨A, cap, rfl, hA⟩ := ints_open h
  obtain ⟨n, hn⟩ : ∃ n, n = cs.length := ⟨_, rfl⟩
  obtain ⟨c0, hc0⟩ : ∃ c, cs[0]? = some c := ⟨_, List.getElem?_eq_getElem h0⟩
  obtain ⟨q, o, rfl, hq, hcap, x0⟩ := hA 0 c0 hc0
  have HA := Lib.hid (show ∀ (i : Nat) c, cs[i]? = some c → w.cell? ⟨q, o + i, none⟩ = some (.int .i64 c) from fun i c hi => by
    obtain ⟨q', o', e, _, _, hx⟩ := hA i c hi
    injection e with e
    injection e with e1 e2
    subst e1 e2
    exact hx)
  have x00 : w.cell? ⟨q, o, none⟩ = some (.int .i64 c0) := x0
  rw [← hn] at hbig h0 hcap ⊢
  have HN := Lib.hid hn
  have HC0 := Lib.hid hc0
  have n1 : ¬ (n : Int) < 1 := by omega
  have n2 : (0 : Int) < n := by omega
  have n3 : (n : Int) ≤ cap := by omega
  clear h hA hn hc0 x0
  go_enter Tryz.func151, Tryz.ntmps151
  go_wp2_with fail
  go_loopg [3, 4] (n - 1) (fun g mv i wr => ∃ (k : Nat) (m : Int), k + g = n ∧ 1 ≤ k ∧ mv = .int .i64 m ∧ i = .int .i64 k ∧ w = wr ∧ Hid (m ∈ cs ∧ ∀ j c, j < k → cs[j]? = some c → m ≤ c))
  case atStart => exact ⟨1, c0, by omega, Nat.le_refl _, rfl, rfl, rfl, Lib.hid ⟨List.mem_of_getElem? HC0.out, fun j c hj hc => by
    obtain rfl : j = 0 := by omega
    rw [HC0.out] at hc
    rw [Option.some.inj hc]
    exact Int.le_refl _⟩⟩
  case round =>
    obtain ⟨k, m, hk, hk1, rfl, rfl, rfl, HK⟩ := hrel
    have hk0 : (0 : Int) ≤ k := by omega
    rcases Nat.eq_zero_or_pos gk with hz | hz
    · have hkn : ¬ (k : Int) < n := by omega
      have HR := Lib.hid (show ∀ c ∈ cs, m ≤ c from fun c hc => by
        obtain ⟨j, hj, hje⟩ := List.getElem_of_mem hc
        exact HK.out.2 j c (by have := HN.out; omega) (by rw [List.getElem?_eq_getElem hj, hje]))
      go_wp2_with fail
      go_ret
      exact ⟨⟨_, rfl, HK.out.1, HR.out⟩, rfl⟩
    · have hkn : (k : Int) < n := by omega
      obtain ⟨c, hc⟩ : ∃ c, cs[k]? = some c := ⟨_, List.getElem?_eq_getElem (by have := HN.out; omega)⟩
      have xk := HA.out k c hc
      have HC := Lib.hid hc
      clear hc
      by_cases hmc : m ≤ c
      · have hmin : min m c = m := Int.min_eq_left hmc
        have HK2 := Lib.hid (show m ∈ cs ∧ ∀ j x, j < k + 1 → cs[j]? = some x → m ≤ x from ⟨HK.out.1, fun j x hj hx => by
          rcases Nat.lt_or_ge j k with h | h
          · exact HK.out.2 j x h hx
          · obtain rfl : j = k := by omega
            rw [HC.out] at hx
            rw [← Option.some.inj hx]; exact hmc⟩)
        go_wp2_with fail
        go_roundg (gk - 1)
        case measure => omega
        case rel => exact ⟨k + 1, m, by omega, by omega, rfl, by go_num, rfl, HK2⟩
      · have hmin : min m c = c := Int.min_eq_right (by omega)
        have HK2 := Lib.hid (show c ∈ cs ∧ ∀ j x, j < k + 1 → cs[j]? = some x → c ≤ x from ⟨List.mem_of_getElem? HC.out, fun j x hj hx => by
          rcases Nat.lt_or_ge j k with h | h
          · have := HK.out.2 j x h hx; omega
          · obtain rfl : j = k := by omega
            rw [HC.out] at hx
            rw [← Option.some.inj hx]; exact Int.le_refl _⟩)
        have hmc2 : c < m := by omega
        go_wp2_with fail
        go_roundg (gk - 1)
        case measure => omega
        case rel => exact ⟨k + 1, c, by omega, by omega, rfl, by go_num, rfl, HK2⟩

theorem isW_codes (l : List UInt8) : isW l = (validD l && (decide (0 < (codesL l).length) && (codesL l).all fun c => decide (33 ≤ c))) := by
  unfold isW codesB codesL
  cases h : validD l <;> simp
set_option maxRecDepth 100000 in
set_option maxHeartbeats 1000000 in
theorem gisword_any (w : World) (s : ByteArray) (hs : s.size ≤ 1000000000) (hT : Lib.Utf8Tabs 1 2 w) :
    Calls Tryz.prog 97 #[.string s] w fun e w' => e = .returned (.bool (isW s.data.toList)) ∧ Below w.heap.size w w' := by
  have CO := Lib.hid (codes_any s w (by omega) hT)
  have HW := Lib.hid (isW_codes s.data.toList)
  obtain ⟨R, hR⟩ : ∃ R, R = isW s.data.toList := ⟨_, rfl⟩
  rw [← hR] at HW ⊢
  obtain ⟨cs, hcs⟩ : ∃ cs, cs = codesL s.data.toList := ⟨_, rfl⟩
  obtain ⟨ok, hok⟩ : ∃ ok, ok = validD s.data.toList := ⟨_, rfl⟩
  rw [← hcs, ← hok] at CO HW
  clear hT hR hcs hok
  obtain ⟨n, hn⟩ : ∃ n, n = cs.length := ⟨_, rfl⟩
  rw [← hn] at CO HW
  have HN := Lib.hid hn
  clear hn
  cases ok with
  | false =>
    obtain rfl : R = false := HW.out
    go_enter Tryz.func97, Tryz.ntmps97
    go_wp2_with (go_at_call 143; refine CO.out.mono ?_; rintro e w1 ⟨v, rfl, -, hb⟩; have HB := Lib.hid hb; clear hb)
    go_ret
    exact ⟨rfl, HB.out⟩
  | true =>
    by_cases h0 : n = 0
    · subst h0
      obtain rfl : R = false := HW.out
      go_enter Tryz.func97, Tryz.ntmps97
      go_wp2_with (go_at_call 143; refine CO.out.mono ?_; rintro e w1 ⟨v, rfl, hown, hb⟩; obtain ⟨A, cap, rfl⟩ := own_shape hown; have HB := Lib.hid hb; clear hb hown)
      go_ret
      exact ⟨rfl, HB.out⟩
    · have hn0 : (0 : Int) < n := by omega
      have hW2 := HW.out
      rw [decide_eq_true (by omega : 0 < n)] at hW2
      simp only [Bool.true_and] at hW2
      have HW2 := Lib.hid hW2
      clear hW2 HW
      go_enter Tryz.func97, Tryz.ntmps97
      go_wp2_with (first
        | (go_at_call 143; refine CO.out.mono ?_; rintro e w1 ⟨v, rfl, hown, hb⟩; have CM := Lib.hid (gmin_any w1 v cs (ints_own (by rw [← HN.out]; exact hown)) (by have := HN.out; omega)); obtain ⟨A, cap, rfl⟩ := own_shape hown; have HB := Lib.hid hb; clear hb hown)
        | (go_at_call 151; refine CM.out.mono ?_; rintro e w2 ⟨⟨m, rfl, hm1, hm2⟩, hw⟩; have hw2 := hw.symm; clear hw; subst hw2; have HM := Lib.hid (And.intro hm1 hm2); clear hm1 hm2))
      go_ret
      refine ⟨?_, HB.out⟩
      rw [HW2.out]
      show Ending.returned (.bool (decide ((33 : Int) ≤ m))) = _
      congr 2
      rw [Bool.eq_iff_iff, decide_eq_true_iff, List.all_eq_true]
      exact ⟨fun h c hc => decide_eq_true (Int.le_trans h (HM.out.2 c hc)), fun h => of_decide_eq_true (h m HM.out.1)⟩
end Go.Proofs.YtfehpcbmdancoaaGreatDoor.Ls
namespace Go.Proofs.YtfehpcbmdancoaaGreatDoor.Ls
open Go Go.RowKit Go.Lib

/-- What flagsOf answers. -/
def FlagAns (B : Nat) (fs : List UInt8) (e : Ending) (w' : World) : Prop :=
  ∃ A n c b, e = .returned (.tuple #[.slice A n c, .bool b]) ∧ b = (decide (fs ≠ []) && (flagsL [] fs).isSome) ∧ ∀ f, fs ≠ [] → flagsL [] fs = some f → n = f.length ∧ w'.ownsRow B 3 1 (.slice A n c) n (f.map (Value.int .i64))

set_option maxRecDepth 100000 in
set_option maxHeartbeats 1000000 in
theorem gletter_any (w : World) (x : Nat) :
    Calls Tryz.prog 152 #[.int .i64 x] w fun e w' => e = .returned (.bool (decide ((97 ≤ x ∧ x ≤ 122) ∨ (65 ≤ x ∧ x ≤ 90)))) ∧ w' = w := by
  by_cases c1 : 97 ≤ x
  · have d1 : (97 : Int) ≤ x := by omega
    by_cases c2 : x ≤ 122
    · have d2 : (x : Int) ≤ 122 := by omega
      rw [decide_eq_true (by omega : (97 ≤ x ∧ x ≤ 122) ∨ (65 ≤ x ∧ x ≤ 90))]
      go_enter Tryz.func152, Tryz.ntmps152
      go_wp2_with fail
      go_ret
      exact ⟨rfl, rfl⟩
    · have d2 : ¬ (x : Int) ≤ 122 := by omega
      have d3 : (65 : Int) ≤ x := by omega
      have d4 : ¬ (x : Int) ≤ 90 := by omega
      rw [decide_eq_false (by omega : ¬ ((97 ≤ x ∧ x ≤ 122) ∨ (65 ≤ x ∧ x ≤ 90)))]
      go_enter Tryz.func152, Tryz.ntmps152
      go_wp2_with fail
      go_ret
      exact ⟨rfl, rfl⟩
  · have d1 : ¬ (97 : Int) ≤ x := by omega
    by_cases c3 : 65 ≤ x
    · have d3 : (65 : Int) ≤ x := by omega
      by_cases c4 : x ≤ 90
      · have d4 : (x : Int) ≤ 90 := by omega
        rw [decide_eq_true (by omega : (97 ≤ x ∧ x ≤ 122) ∨ (65 ≤ x ∧ x ≤ 90))]
        go_enter Tryz.func152, Tryz.ntmps152
        go_wp2_with fail
        go_ret
        exact ⟨rfl, rfl⟩
      · have d4 : ¬ (x : Int) ≤ 90 := by omega
        rw [decide_eq_false (by omega : ¬ ((97 ≤ x ∧ x ≤ 122) ∨ (65 ≤ x ∧ x ≤ 90)))]
        go_enter Tryz.func152, Tryz.ntmps152
        go_wp2_with fail
        go_ret
        exact ⟨rfl, rfl⟩
    · have d3 : ¬ (65 : Int) ≤ x := by omega
      rw [decide_eq_false (by omega : ¬ ((97 ≤ x ∧ x ≤ 122) ∨ (65 ≤ x ∧ x ≤ 90)))]
      go_enter Tryz.func152, Tryz.ntmps152
      go_wp2_with fail
      go_ret
      exact ⟨rfl, rfl⟩

theorem flagsL_land (acc : List Int) (b : UInt8) (r : List UInt8) (x : Nat) (hx : b.toNat = x) : flagsL acc (b :: r) = if decide ((97 ≤ x ∧ x ≤ 122) ∨ (65 ≤ x ∧ x ≤ 90)) = true ∧ acc.contains (x : Int) = false then flagsL (acc ++ [(x : Int)]) r else none := by
  subst hx
  show (if isLet b = true ∧ (b.toNat : Int) ∉ acc then _ else _) = _
  have h : (isLet b = true ∧ (b.toNat : Int) ∉ acc) ↔ (decide ((97 ≤ b.toNat ∧ b.toNat ≤ 122) ∨ (65 ≤ b.toNat ∧ b.toNat ≤ 90)) = true ∧ acc.contains (b.toNat : Int) = false) := by
    unfold isLet
    rw [Bool.eq_false_iff, ne_eq, List.contains_iff_mem]
  by_cases hc : isLet b = true ∧ (b.toNat : Int) ∉ acc
  · rw [if_pos hc, if_pos (h.1 hc)]
  · rw [if_neg hc, if_neg (fun e => hc (h.2 e))]

set_option maxRecDepth 100000 in
set_option maxHeartbeats 2000000 in
theorem gflags_any (w : World) (s : ByteArray) (hs : s.size ≤ 1000000000) :
    Calls Tryz.prog 98 #[.string s] w fun e w' => FlagAns w.heap.size s.data.toList e w' ∧ Below w.heap.size w w' := by
  have hsl : s.data.toList.length = s.size := (Lib.size_eq s).symm
  obtain ⟨fs, hL⟩ : ∃ L, L = s.data.toList := ⟨_, rfl⟩
  obtain ⟨n, hn⟩ : ∃ n, n = s.size := ⟨_, rfl⟩
  obtain ⟨C, hC⟩ : ∃ C, C = grownCap w s.size 0 5 := ⟨_, rfl⟩
  have hcv := run_bytes_of_string (P := Tryz.prog) w 9 72 5 s Tryz.underlying9 Tryz.underlying72 Tryz.underlying5
  rw [← hC, ← hn] at hcv
  obtain ⟨W1, hW1⟩ : ∃ W1, W1 = (w.drew.alloc (.cells (bytesRow s C) 5 ((bytesRow s C).size, (bytesRow s C).size + 1))) := ⟨_, rfl⟩
  rw [← hW1] at hcv
  have hb1 : Below w.heap.size w W1 := by rw [hW1]; exact (Below.refl _ _).drew.alloc (Nat.le_refl _) _
  have hsz : W1.heap.size = w.heap.size + 1 := by rw [hW1, World.size_alloc]; rfl
  have hblk : W1.heap[w.heap.size]? = some (.cells (bytesRow s C) 5 ((bytesRow s C).size, (bytesRow s C).size + 1)) := by rw [hW1]; exact World.alloc_heap_new w.drew _
  have hat : ∀ (wx : World), wx.heap[w.heap.size]? = W1.heap[w.heap.size]? → ∀ j c, fs[j]? = some c → wx.cell? ⟨w.heap.size, j, none⟩ = some (.int .u8 (c.toNat : Int)) := fun wx hwx j c hc => by
    rw [hblk] at hwx
    rw [cell_of_row _ w.heap.size j _ _ _ hwx]
    rw [hL] at hc
    have hj : j < s.data.size := by
      have := (List.getElem?_eq_some_iff.1 hc).1
      simpa using this
    rw [bytesRow_at s C j hj]
    have h2 : s.data.toList[j]? = s.data[j]? := Array.getElem?_toList
    rw [hc, Array.getElem?_eq_getElem hj] at h2
    rw [← Option.some.inj h2]
  rw [← hL] at hsl ⊢
  have HAT := Lib.hid hat
  have HS1 := Lib.hid (And.intro hb1 hsz)
  have HN := Lib.hid (show n = fs.length by rw [hn, hsl])
  have hnb : n ≤ 1000000000 := by omega
  obtain ⟨i1, hi1, hz10, hz11, hz12⟩ := info_parts Tryz.infosY3
  clear hL hsl hn hC hW1 hb1 hsz hblk hat hs
  go_enter Tryz.func98, Tryz.ntmps98
  go_wp2_with fail
  go_loopg [4, 6, 7, 11] n (fun g fv _ _ i wr => ∃ (k : Nat) (acc : List Int), k + g = n ∧ i = .int .i64 k ∧ Hid (wr.ownsRow (w.heap.size + 1) 3 1 fv acc.length (acc.map (Value.int .i64)) ∧ flagsL [] fs = flagsL acc (fs.drop k) ∧ acc.length = k ∧ Below w.heap.size w wr ∧ wr.heap[w.heap.size]? = W1.heap[w.heap.size]? ∧ w.heap.size + 1 ≤ wr.heap.size))
  case atStart => exact ⟨0, [], by omega, rfl, Lib.hid ⟨World.ownsRow_nil _ _ _ _, rfl, rfl, HS1.out.1, rfl, by rw [HS1.out.2]; exact Nat.le_refl _⟩⟩
  case round =>
    obtain ⟨k, acc, hk, rfl, HK⟩ := hrel
    have hk0 : (0 : Int) ≤ k := by omega
    obtain ⟨A, cap, rfl⟩ := own_shape HK.out.1
    rcases Nat.eq_zero_or_pos gk with h0 | h0
    · obtain rfl : k = n := by omega
      have hkn : ¬ (k : Int) < k := by omega
      have HF := Lib.hid (show flagsL [] fs = some acc by rw [HK.out.2.1, List.drop_of_length_le (by have := HN.out; omega)]; rfl)
      have HROW := Lib.hid (own_less HK.out.1 (Nat.le_succ w.heap.size))
      have HB := Lib.hid HK.out.2.2.2.1
      have hal := HK.out.2.2.1
      rw [hal] at HROW ⊢
      have HAL := Lib.hid hal
      clear HK hal
      by_cases hz : k = 0
      · subst hz
        have hfs : fs = [] := List.eq_nil_of_length_eq_zero HN.out.symm
        have HR := Lib.hid hfs
        clear hfs
        go_wp2_with fail
        go_ret2
        exact ⟨⟨A, 0, cap, false, rfl, by rw [HR.out]; rfl, fun f hf => absurd HR.out hf⟩, HB.out⟩
      · have hk1 : (0 : Int) < k := by omega
        have HNE := Lib.hid (show fs ≠ [] by
          intro e
          have := HN.out
          rw [e] at this
          exact hz this)
        clear hz
        go_wp2_with fail
        go_ret2
        exact ⟨⟨A, k, cap, decide (0 < k), rfl, by rw [decide_eq_true HNE.out, HF.out, decide_eq_true (by omega : 0 < k)]; rfl, fun f _ he => by
          rw [HF.out] at he
          obtain rfl := Option.some.inj he
          exact ⟨HAL.out.symm, HROW.out⟩⟩, HB.out⟩
    · have hkn : (k : Int) < n := by omega
      obtain ⟨c, hc⟩ : ∃ c, fs[k]? = some c := ⟨_, List.getElem?_eq_getElem (by have := HN.out; omega)⟩
      have x0 := HAT.out wr HK.out.2.2.2.2.1 k c hc
      obtain ⟨x, hx⟩ : ∃ x, x = c.toNat := ⟨_, rfl⟩
      rw [← hx] at x0
      have hx256 : x < 256 := by rw [hx]; exact c.toNat_lt
      have HST := Lib.hid (show flagsL [] fs = if decide ((97 ≤ x ∧ x ≤ 122) ∨ (65 ≤ x ∧ x ≤ 90)) = true ∧ acc.contains (x : Int) = false then flagsL (acc ++ [(x : Int)]) (fs.drop (k + 1)) else none by
        obtain ⟨h1, h2⟩ := List.getElem?_eq_some_iff.1 hc
        rw [HK.out.2.1, List.drop_eq_getElem_cons h1, h2, flagsL_land _ _ _ x hx.symm])
      have HNE := Lib.hid (show fs ≠ [] by rintro rfl; simp at hc)
      have CL := Lib.hid (fun wx => gletter_any wx x)
      have CC := Lib.hid (contains_any wr _ acc (x : Int) (ints_own HK.out.1))
      have hal := HK.out.2.2.1
      rw [hal] at CC
      have HROW := Lib.hid (show (wr.alloc (.cells #[.int .i64 x] 3)).ownsRow (w.heap.size + 1) 3 1 (.slice A k cap) k (acc.map (Value.int .i64)) from by
        have := HK.out.1.alloc (.cells #[.int .i64 x] 3)
        rwa [hal] at this)
      rw [hal]
      have HAL := Lib.hid hal
      obtain ⟨lt, hlt⟩ : ∃ b, b = decide ((97 ≤ x ∧ x ≤ 122) ∨ (65 ≤ x ∧ x ≤ 90)) := ⟨_, rfl⟩
      obtain ⟨ct, hct⟩ : ∃ b, b = acc.contains (x : Int) := ⟨_, rfl⟩
      rw [← hlt, ← hct] at HST
      rw [← hlt] at CL
      rw [← hct] at CC
      clear hc hx hal hlt hct
      have hxm : IntKind.i64.wrap (x : Int) = x := IntWalk.i64_in _ (by omega)
      cases lt with
      | false =>
        have HZ := Lib.hid (show flagsL [] fs = none by rw [HST.out, if_neg (by simp)])
        have HB := Lib.hid HK.out.2.2.2.1
        go_wp2_with (go_at_call 152; refine (CL.out _).mono ?_; rintro e w1 ⟨rfl, hw⟩; have hw2 := hw.symm; clear hw; subst hw2)
        go_ret2
        exact ⟨⟨none, 0, 0, false, rfl, by rw [HZ.out]; simp, fun f _ he => by rw [HZ.out] at he; cases he⟩, HB.out⟩
      | true =>
        cases ct with
        | true =>
          have HZ := Lib.hid (show flagsL [] fs = none by rw [HST.out, if_neg (by simp)])
          have HB := Lib.hid HK.out.2.2.2.1
          go_wp2_with (first
            | (go_at_call 152; refine (CL.out _).mono ?_; rintro e w1 ⟨rfl, hw⟩; have hw2 := hw.symm; clear hw; subst hw2)
            | (go_at_call 153; refine CC.out.mono ?_; rintro e w1 ⟨rfl, hw⟩; have hw2 := hw.symm; clear hw; subst hw2))
          go_ret2
          exact ⟨⟨none, 0, 0, false, rfl, by rw [HZ.out]; simp, fun f _ he => by rw [HZ.out] at he; cases he⟩, HB.out⟩
        | false =>
          have HST2 := Lib.hid (show flagsL [] fs = flagsL (acc ++ [(x : Int)]) (fs.drop (k + 1)) by rw [HST.out, if_pos ⟨rfl, rfl⟩])
          clear HST
          go_wp2_with (first
            | (go_at_call 152; refine (CL.out _).mono ?_; rintro e w1 ⟨rfl, hw⟩; have hw2 := hw.symm; clear hw; subst hw2)
            | (go_at_call 153; refine CC.out.mono ?_; rintro e w1 ⟨rfl, hw⟩; have hw2 := hw.symm; clear hw; subst hw2)
            | (at_builtin; refine wpList_append_where _ rfl _ _ 42 rfl (w.heap.size + 1) 3 i1 (.int .i64 0) 1 8 Tryz.underlying42 hi1 hz10 hz11 hz12 rfl (by decide) (.slice A k cap) k (acc.map (Value.int .i64)) rfl HROW.out ⟨wr.heap.size, 0, none⟩ 1 1 [.int .i64 x] rfl rfl (news_row _ _ _) (int_oneY x) (by unfold maxLen; omega) (by omega) (by have := HK.out.2.2.2.2.2; rw [World.size_alloc]; omega) ?_))
          intro v' w4 hown4 hgrow4 _
          have hlo : ∀ g, (Value.slice A k cap).ownBlock = some g → w.heap.size + 1 ≤ g := fun g hg => (HROW.out.lt g hg).1
          have HK4 := Lib.hid (show w4.ownsRow (w.heap.size + 1) 3 1 v' (acc ++ [(x : Int)]).length ((acc ++ [(x : Int)]).map (Value.int .i64)) ∧ flagsL [] fs = flagsL (acc ++ [(x : Int)]) (fs.drop (k + 1)) ∧ (acc ++ [(x : Int)]).length = k + 1 ∧ Below w.heap.size w w4 ∧ w4.heap[w.heap.size]? = W1.heap[w.heap.size]? ∧ w.heap.size + 1 ≤ w4.heap.size from by
            have hlen : (acc ++ [(x : Int)]).length = k + 1 := by rw [List.length_append, HAL.out]; rfl
            have hsz := HK.out.2.2.2.2.2
            refine ⟨by rw [hlen, List.map_append]; exact hown4, HST2.out, hlen, ?_, ?_, ?_⟩
            · have hba := HK.out.2.2.2.1.alloc HK.out.2.2.2.1.size (.cells #[.int .i64 x] 3)
              exact hba.grown hgrow4 hba.size (fun g hg => by have := hlo g hg; omega)
            · exact (hgrow4.block w.heap.size (by rw [World.size_alloc]; omega) (fun e => by have := hlo _ e.symm; omega)).trans ((Below.heap_alloc _ _ _ (by omega)).trans HK.out.2.2.2.2.1)
            · have := hgrow4.size
              rw [World.size_alloc] at this
              omega)
          clear hown4 hgrow4 hlo x0
          go_wp2_with fail
          go_roundg (gk - 1)
          case measure => omega
          case rel => exact ⟨k + 1, _, by omega, by go_num, HK4⟩
end Go.Proofs.YtfehpcbmdancoaaGreatDoor.Ls
namespace Go.Proofs.YtfehpcbmdancoaaGreatDoor.Ls
open Go Go.RowKit Go.Lib

set_option maxRecDepth 100000 in
set_option maxHeartbeats 1000000 in
theorem gsilent_any (w : World) (s : ByteArray) :
    Calls Tryz.prog 54 #[.string s] w fun e w' => e = .returned (.bool (decide (s.data.toList = [] ∨ s.data.toList.head? = some 35))) ∧ w' = w := by
  have hem : s.toList.isEmpty = decide (s.data.toList = []) := by
    rw [toL_data]
    cases s.data.toList <;> rfl
  by_cases h0 : s.data.toList = []
  · rw [decide_eq_true (.inl h0 : s.data.toList = [] ∨ s.data.toList.head? = some 35)]
    have e1 : s.toList.isEmpty = true := by rw [hem]; exact decide_eq_true h0
    clear hem h0
    go_enter Tryz.func54, Tryz.ntmps54
    go_wp2_with fail
    go_ret
    exact ⟨rfl, rfl⟩
  · have e1 : s.toList.isEmpty = false := by rw [hem]; exact decide_eq_false h0
    have hS0 : 0 < s.size := by rw [Lib.size_eq]; exact List.length_pos_iff.2 h0
    obtain ⟨c, hc0, hget⟩ := byte_at hS0
    obtain ⟨x, hx⟩ : ∃ x, x = c.toNat := ⟨_, rfl⟩
    have hgx : (s[0]'hS0).toNat = x := by rw [hget, hx]
    have hS1 : (0 : Int) < s.size := by omega
    have hR : decide (s.data.toList = [] ∨ s.data.toList.head? = some 35) = decide (x = 35) := by
      apply decide_eq_decide.2
      rw [List.head?_eq_getElem?, hc0, hx]
      constructor
      · rintro (h | h)
        · exact absurd h h0
        · rw [Option.some.inj h]; rfl
      · intro h
        right
        rw [UInt8.toNat_inj.1 (h.trans rfl : c.toNat = (35 : UInt8).toNat)]
    rw [hR]
    clear hem h0 hc0 hget hx hR
    by_cases h35 : x = 35
    · rw [decide_eq_true h35]
      have d : ((x : Int) == 35) = true := by simp; omega
      clear h35
      go_enter Tryz.func54, Tryz.ntmps54
      go_wp2_with fail
      go_ret
      exact ⟨rfl, rfl⟩
    · rw [decide_eq_false h35]
      have d : ((x : Int) == 35) = false := by simp; omega
      clear h35
      go_enter Tryz.func54, Tryz.ntmps54
      go_wp2_with fail
      go_ret
      exact ⟨rfl, rfl⟩

set_option maxRecDepth 100000 in
set_option maxHeartbeats 2000000 in
theorem gentry_any (w : World) (s : ByteArray) (hs : s.size ≤ 1000000000) (hT : Lib.Utf8Tabs 1 2 w) :
    Calls Tryz.prog 53 #[.string s] w fun e w' => EntAns w.heap.size s.data.toList e w' ∧ Below w.heap.size w w' := by
  obtain ⟨L, hL⟩ : ∃ L, L = s.data.toList := ⟨_, rfl⟩
  have hsl : L.length = s.size := by rw [hL]; exact (Lib.size_eq s).symm
  rw [← hL]
  have HG := Lib.hid (gEntry_eq L)
  obtain ⟨W0, hW0⟩ : ∃ W0, W0 = w.alloc (.cells #[.string ⟨#[]⟩, .slice none 0 0] 99) := ⟨_, rfl⟩
  have hb0 : Below w.heap.size w W0 := by rw [hW0]; exact (Below.refl _ _).alloc (Nat.le_refl _) _
  have hlt0 : w.heap.size < W0.heap.size := by rw [hW0, World.size_alloc]; omega
  have BX := Lib.hid (show ∀ wx, Below W0.heap.size W0 wx → _ from fun wx hb => ebox2 (hW0 ▸ hb))
  obtain ⟨W1, hW1⟩ : ∃ W1, W1 = W0.alloc (.cells #[.int .u8 47, .int .u8 35] 5) := ⟨_, rfl⟩
  have hb1 : Below W0.heap.size W0 W1 := by rw [hW1]; exact (Below.refl _ _).alloc (Nat.le_refl _) _
  have hst : Stops W1 W0.heap.size := by rw [hW1]; exact ⟨cell_of_row _ _ 0 _ _ (0, 0) (World.alloc_heap_new _ _), cell_of_row _ _ 1 _ _ (0, 0) (World.alloc_heap_new _ _)⟩
  have hlt1 : W0.heap.size < W1.heap.size := by rw [hW1, World.size_alloc]; omega
  have CK := Lib.hid (gcut_any W1 s W0.heap.size hs hlt1 hst)
  rw [← hL] at CK
  have HT := Lib.hid (show ∀ wx, Below W0.heap.size W0 wx → Lib.Utf8Tabs 1 2 wx from fun wx hb => tabs_below hT (hb0.trans (hb.mono hb0.size)))
  have HB := Lib.hid (show ∀ wx, Below W0.heap.size W0 wx → Below w.heap.size w wx from fun wx hb => hb0.trans (hb.mono hb0.size))
  have HB1 := Lib.hid (And.intro hb1 hlt0)
  have HW0 := Lib.hid hW0
  have HW1 := Lib.hid hW1
  clear hL hb0 hb1 hst hlt1 hlt0 hT
  go_enter Tryz.func53, Tryz.ntmps53
  go_upto_region 1 with fail
  rw [← HW0.out]
  clear hW0
  go_wp2_with fail
  rw [← HW1.out]
  clear hW1
  refine CK.out.mono ?_
  rintro e w2 ⟨⟨a, b, rfl, ha, hb⟩, hb2⟩
  have H2 := Lib.hid (HB1.out.1.trans (hb2.mono HB1.out.1.size))
  have hsum : a.size + b.size = s.size := by
    have h1 : L.takeWhile nst ++ L.dropWhile nst = L := List.takeWhile_append_dropWhile
    have h2 := congrArg List.length h1
    rw [List.length_append, ← ha, ← hb, hsl] at h2
    rw [Lib.size_eq, Lib.size_eq]; exact h2
  have CW := Lib.hid (gisword_any w2 a (by omega) (HT.out _ H2.out))
  have HE := Lib.hid (show entryL L = if isW a.data.toList = true then match b.data.toList with
    | [] => some ⟨a, []⟩
    | x :: fs => if x = 47 ∧ fs ≠ [] then (flagsL [] fs).map fun f => ⟨a, f⟩ else none
    else none by
      rw [HG.out, ha, hb]
      unfold gEntry
      rw [show (⟨(L.takeWhile nst).toArray⟩ : ByteArray) = a by rw [← ha, ba_list]]
      rfl)
  obtain ⟨ok, hok⟩ : ∃ ok, ok = isW a.data.toList := ⟨_, rfl⟩
  rw [← hok] at CW HE
  have hem : b.toList.isEmpty = decide (b.data.toList = []) := by
    rw [toL_data]
    cases b.data.toList <;> rfl
  have h47 := fun x fs (h : b.data.toList = x :: fs) => dropW_head L x fs (hb.symm.trans h)
  clear CK hok ha hb hb2 HG hsl
  cases ok with
  | false =>
    have HZ := Lib.hid (show entryL L = none by rw [HE.out]; rfl)
    go_wp2_with (go_at_call 97; refine CW.out.mono ?_; rintro e w3 ⟨rfl, hb3⟩; have H3 := Lib.hid (H2.out.trans (hb3.mono H2.out.size)); clear hb3; obtain ⟨x0, x1, fx⟩ := BX.out _ H3.out)
    exact bodyPost_ret (v := .tuple #[.agg #[.string ⟨#[]⟩, .slice none 0 0], .bool false]) (by simp [results, Tryz.results53, go_sem, x0, x1]) rfl ⟨EntAns.no HZ.out, put2_below (HB.out _ H3.out) (Nat.le_refl _) _ _⟩
  | true =>
    cases hd : b.data.toList with
    | nil =>
      have e1 : b.toList.isEmpty = true := by rw [hem]; exact decide_eq_true hd
      have HZ := Lib.hid (show entryL L = some ⟨a, []⟩ by rw [HE.out, hd]; rfl)
      clear hem hd h47 HE
      go_wp2_with (go_at_call 97; refine CW.out.mono ?_; rintro e w3 ⟨rfl, hb3⟩; have H3 := Lib.hid (H2.out.trans (hb3.mono H2.out.size)); clear hb3; obtain ⟨x0, x1, fx⟩ := BX.out _ H3.out)
      exact bodyPost_ret (v := .tuple #[.agg #[.string a, .slice none 0 0], .bool true]) (by simp [results, Tryz.results53, go_sem, x0, x1]) rfl ⟨EntAns.yes HZ.out (World.ownsRow_nil _ _ _ _), put2_below (HB.out _ H3.out) (Nat.le_refl _) _ _⟩
    | cons c fs =>
      have e1 : b.toList.isEmpty = false := by rw [hem]; exact decide_eq_false (by rw [hd]; simp)
      have hbs : b.size = fs.length + 1 := by rw [Lib.size_eq, hd]; rfl
      have hb0 : 0 < b.size := by omega
      obtain ⟨c', hc', hget⟩ := byte_at hb0
      obtain rfl : c = c' := by rw [hd] at hc'; simpa using hc'
      obtain ⟨x, hx⟩ : ∃ x, x = c.toNat := ⟨_, rfl⟩
      have hgx : (b[0]'hb0).toNat = x := by rw [hget, hx]
      have hxs : x = 47 ∨ x = 35 := by
        have h1 := h47 c fs hd
        unfold nst at h1
        have h2 := of_decide_eq_false h1
        by_cases h : c = 47
        · left; rw [hx, h]; rfl
        · right
          have : c = 35 := by
            by_cases h3 : c = 35
            · exact h3
            · exact absurd ⟨h, h3⟩ h2
          rw [hx, this]; rfl
      have hex : (b.extract 1 b.size).data.toList = fs := by
        rw [ext_list, hd, List.take_of_length_le (by rw [List.length_drop, List.length_cons]; omega)]
        rfl
      have CF := Lib.hid (fun wx => gflags_any wx (b.extract 1 b.size) (by rw [Lib.size_eq, hex]; omega))
      rw [hex] at CF
      have HZ := Lib.hid (show entryL L = if c = 47 ∧ fs ≠ [] then (flagsL [] fs).map fun f => ⟨a, f⟩ else none by rw [HE.out, hd]; rfl)
      have b1 : (1 : Int) ≤ b.size := by omega
      have b2 : (0 : Int) < b.size := by omega
      have HX := Lib.hid (show c = 47 ↔ x = 47 by rw [hx]; exact ⟨fun e => by rw [e]; rfl, fun e => UInt8.toNat_inj.1 (e.trans rfl)⟩)
      obtain ⟨B1, hB1⟩ : ∃ B, B = b.extract 1 b.size := ⟨_, rfl⟩
      rw [← hB1] at CF
      have hB1' : b.extract 1 b.size = B1 := hB1.symm
      clear hem hd h47 HE hc' hget hx hex hB1 hbs hsum
      rcases hxs with rfl | rfl
      · go_upto_region 7 with (first
          | (go_at_call 97; refine CW.out.mono ?_; rintro e w3 ⟨rfl, hb3⟩; have H3 := Lib.hid (H2.out.trans (hb3.mono H2.out.size)); clear hb3)
          | (go_at_call 98; refine (CF.out _).mono ?_; rintro e w4 ⟨⟨A, n, cp, fb, rfl, hfb, hff⟩, hb4⟩; have H4 := Lib.hid (H3.out.trans (hb4.mono H3.out.size)); have HFB := Lib.hid (And.intro hfb hff); clear hb4 hfb hff))
        obtain ⟨x0, x1, fx⟩ := BX.out _ H4.out
        cases fb with
        | false =>
          have HZ2 := Lib.hid (show entryL L = none by
            rw [HZ.out]
            split
            · rename_i h
              have h1 := HFB.out.1
              rw [decide_eq_true h.2] at h1
              cases hf : flagsL [] fs with
              | none => rfl
              | some f => rw [hf] at h1; simp at h1
            · rfl)
          go_wp2_with fail
          exact bodyPost_ret (v := .tuple #[.agg #[.string ⟨#[]⟩, .slice none 0 0], .bool false]) (by simp [results, Tryz.results53, go_sem, x0, x1]) rfl ⟨EntAns.no HZ2.out, put2_below (HB.out _ H4.out) (Nat.le_refl _) _ _⟩
        | true =>
          obtain ⟨f, hne, hf⟩ : ∃ f, fs ≠ [] ∧ flagsL [] fs = some f := by
            have h1 := HFB.out.1.symm
            rw [Bool.and_eq_true] at h1
            cases hf : flagsL [] fs with
            | none => rw [hf] at h1; simp at h1
            | some f => exact ⟨f, of_decide_eq_true h1.1, rfl⟩
          obtain ⟨hn, hrow⟩ := HFB.out.2 f hne hf
          have HZ2 := Lib.hid (show entryL L = some ⟨a, f⟩ by rw [HZ.out, if_pos ⟨HX.out.2 (by first | rfl | trivial), hne⟩, hf]; rfl)
          have HROW := Lib.hid (And.intro hn hrow)
          clear hne hf hn hrow
          go_wp2_with fail
          refine bodyPost_ret (v := .tuple #[.agg #[.string a, .slice A n cp], .bool true]) (by simp [results, Tryz.results53, go_sem, x0, x1]) rfl ⟨?_, put2_below (HB.out _ H4.out) (Nat.le_refl _) _ _⟩
          have h1 := HROW.out.1
          subst h1
          have hlt : w.heap.size < w3.heap.size := Nat.lt_of_lt_of_le HB1.out.2 H3.out.size
          exact EntAns.yes HZ2.out (own_less (own_put2 HROW.out.2 hlt) (Nat.le_of_lt hlt))
      · have HZ2 := Lib.hid (show entryL L = none by
          rw [HZ.out, if_neg]
          intro h
          have := HX.out.1 h.1
          omega)
        go_upto_region 7 with (first
          | (go_at_call 97; refine CW.out.mono ?_; rintro e w3 ⟨rfl, hb3⟩; have H3 := Lib.hid (H2.out.trans (hb3.mono H2.out.size)); clear hb3)
          | (go_at_call 98; refine (CF.out _).mono ?_; rintro e w4 ⟨⟨A, n, cp, fb, rfl, -, -⟩, hb4⟩; have H4 := Lib.hid (H3.out.trans (hb4.mono H3.out.size)); clear hb4))
        obtain ⟨x0, x1, fx⟩ := BX.out _ H4.out
        go_wp2_with fail
        exact bodyPost_ret (v := .tuple #[.agg #[.string ⟨#[]⟩, .slice none 0 0], .bool false]) (by simp [results, Tryz.results53, go_sem, x0, x1]) rfl ⟨EntAns.no HZ2.out, put2_below (HB.out _ H4.out) (Nat.le_refl _) _ _⟩
end Go.Proofs.YtfehpcbmdancoaaGreatDoor.Ls
