/- The document's Text of chapter 9, by contract, out of the document's Bytes and Parse. -/
import Derived.Test.YteenleedonmkmaaGreatDoorNRefParse
import Derived.Test.YteenleedonmkmaaGreatDoorMPlain
namespace Go.Proofs.YteenleedonmkmaaGreatDoor
open Go Go.RowKit Go.Lib

theorem app_list (a b : ByteArray) : (a ++ b).data.toList = a.data.toList ++ b.data.toList := by simp
theorem ptL_app (a b : List Int) : ptL (a ++ b) = ptL a ++ ptL b := by simp [ptL]
theorem ptL_cons (c : Int) (cs : List Int) : ptL (c :: cs) = ptB c ++ ptL cs := by simp [ptL]
theorem ptL_nil : ptL [] = [] := rfl
theorem ptL_asc : ptB 91 = [91] ∧ ptB 93 = [93] ∧ ptB 94 = [94] ∧ ptB 46 = [46] := by decide +kernel
theorem ptB_len (c : Int) : (ptB c).length ≤ 4 := by
  unfold ptB
  split
  · exact enc_len c
  · simp
theorem textC_next {l : List It} {k : Nat} {it : It} (h : l[k]? = some it) : textC (l.take (k + 1)) = textC (l.take k) ++ itemC it := by
  rw [List.take_add_one, h]
  simp [textC]
def plainIt (it : It) : Bool := decide (it.set.length = 1 ∧ it.not = false ∧ it.set.head? ≠ some 46 ∧ it.set.head? ≠ some 91 ∧ it.set.head? ≠ some 93)
theorem itemC_any {it : It} (h : it.any = true) : itemC it = [46] := by unfold itemC; rw [if_pos h]
theorem itemC_plain {it : It} (h : it.any = false) (hp : plainIt it = true) : itemC it = it.set := by
  unfold itemC
  rw [if_neg (by simp [h]), if_pos (by simpa [plainIt] using hp)]
theorem itemC_set {it : It} (h : it.any = false) (hp : plainIt it = false) : itemC it = 91 :: ((if it.not then [94] else []) ++ (it.set ++ [93])) := by
  unfold itemC
  rw [if_neg (by simp [h]), if_neg (by
    have := of_decide_eq_false hp
    exact this)]
theorem size_list (s : ByteArray) : s.size = s.data.toList.length := Lib.size_eq s
theorem bytes_of_list {a : ByteArray} {l : List UInt8} (h : a.data.toList = l) : a = ⟨l.toArray⟩ := by
  obtain ⟨⟨a⟩⟩ := a
  simp at h
  subst h
  rfl
theorem itemC_len {it : It} (h : it.set.length ≤ 2000) : (ptL (itemC it)).length ≤ 8100 := by
  have hl : ∀ cs : List Int, (ptL cs).length ≤ 4 * cs.length := fun cs => by
    induction cs with
    | nil => simp [ptL]
    | cons c cs ih =>
      have : ptL (c :: cs) = ptB c ++ ptL cs := by simp [ptL]
      rw [this, List.length_append, List.length_cons]
      have := ptB_len c
      omega
  have h1 := hl (itemC it)
  have h2 : (itemC it).length ≤ it.set.length + 3 := by
    unfold itemC
    split
    · simp
    split
    · omega
    · split <;> simp
  omega

theorem parseS_fit2 {s : ByteArray} {l : List It} (h : parseS s = some l) (hs : s.size ≤ 100000) : (l.length ≤ 8 ∧ ∀ it ∈ l, it.set.length ≤ 100000) ∧ True := by
  unfold parseS at h
  split at h
  · cases h
  · rename_i cs hc
    obtain ⟨_, h2⟩ := codesB_says hc
    obtain ⟨g1, _, _, g4⟩ := parseC_says h
    have hl : s.data.toList.length = s.size := (Lib.size_eq s).symm
    exact ⟨⟨g4, fun it hit => by have := (g1 it hit).2.2; omega⟩, trivial⟩

set_option maxRecDepth 100000 in
set_option maxHeartbeats 4000000 in
theorem rtext_any (w : World) (v : Value) (l : List It) (h : ItemsAt w v l) (hl : l.length ≤ 12) (hs : ∀ it ∈ l, it.set.length ≤ 2000)
    (hbytes : ∀ wx c, Calls Tryz.prog 24 #[.int .i64 c] wx fun e w' => e = .returned (.string ⟨(ptB c).toArray⟩) ∧ Below wx.heap.size wx w')
    (hparse : ∀ wx (s : ByteArray), s.size ≤ 100000 → Calls Tryz.prog 36 #[.string s] wx fun e w' => ∃ v, e = .returned (.tuple #[v, .bool (parseS s).isSome]) ∧ ItemsAt w' v ((parseS s).getD []) ∧ Below wx.heap.size wx w') :
    Calls Tryz.prog 48 #[v] w fun e w' => e = .returned (.string (textG l)) ∧ Below w.heap.size w w' := by
  obtain ⟨A, cap, rfl, hA⟩ := items_open h
  obtain ⟨n, hn⟩ : ∃ n, n = l.length := ⟨_, rfl⟩
  have HI := Lib.hid h
  rw [← hn] at HI ⊢
  have HA := Lib.hid hA
  have HN := Lib.hid (And.intro hn (And.intro hl hs))
  have BY := Lib.hid hbytes
  have PA := Lib.hid hparse
  have hn12 : n ≤ 12 := by omega
  obtain ⟨Z, hZ⟩ : ∃ Z, Z = textG l := ⟨_, rfl⟩
  rw [← hZ]
  have HZ := Lib.hid hZ
  clear h hA hn hl hs hbytes hparse hZ
  go_enter Tryz.func48, Tryz.ntmps48
  go_wp2_with fail
  go_loopg [3, 4] n (fun g sv i wr => ∃ (k : Nat) (X : ByteArray), k + g = n ∧ i = .int .i64 k ∧ sv = .string X ∧ X.size ≤ 8100 * k ∧ Hid (X.data.toList = ptL (textC (l.take k))) ∧ Hid (Below w.heap.size w wr))
  case atStart => exact ⟨0, ⟨#[]⟩, by omega, rfl, rfl, Nat.zero_le _, Lib.hid (by simp [textC, ptL]), Lib.hid (Below.refl _ _)⟩
  case round =>
    obtain ⟨k, X, hk, rfl, rfl, hX, HX, HB⟩ := hrel
    rcases Nat.eq_zero_or_pos gk with g0 | g0
    · have hkn : k = n := by omega
      subst hkn
      have hTX : X = ⟨(ptL (textC l)).toArray⟩ := bytes_of_list (by have := HX.out; rw [List.take_of_length_le (by have := HN.out.1; omega)] at this; exact this)
      have hG : textG l = if parseS X = some l then X else ⟨#[]⟩ := by rw [hTX]; rfl
      have C1 := Lib.hid (PA.out wr X (by omega))
      have HG := Lib.hid hG
      have HW := Lib.hid (HI.out.keep HB.out)
      clear hTX hG HX
      cases hp : parseS X with
      | none =>
        rw [hp] at C1 HG
        obtain rfl : Z = ⟨#[]⟩ := by rw [HZ.out, HG.out]; exact if_neg (by simp)
        have e1 : (none : Option (List It)).isSome = false := rfl
        go_wp2_with fail
        refine C1.out.mono ?_
        rintro e w1 ⟨v, rfl, -, hb1⟩
        have HB1 := Lib.hid (HB.out.trans (hb1.mono HB.out.size))
        clear hb1
        go_wp2_with fail
        go_ret
        exact ⟨rfl, HB1.out⟩
      | some l' =>
        rw [hp] at C1 HG
        have e1 : (some l').isSome = true := rfl
        obtain ⟨hfit, -⟩ := parseS_fit2 hp (by omega)
        have HFT := Lib.hid hfit
        clear hfit hp
        go_wp2_with fail
        refine C1.out.mono ?_
        rintro e w1 ⟨v, rfl, h1, hb1⟩
        simp only [Option.getD_some] at h1
        have C2 := Lib.hid (rsame9_any w1 _ _ l l' (HW.out.keep hb1) h1 (by have := HN.out.2.1; omega) (by have := HFT.out.1; omega) (fun it hit => by have := HN.out.2.2 it hit; omega) HFT.out.2)
        have HB1 := Lib.hid (HB.out.trans (hb1.mono HB.out.size))
        clear hb1 h1
        by_cases hll : l = l'
        · obtain rfl : Z = X := by rw [HZ.out, HG.out, ← hll]; exact if_pos rfl
          rw [decide_eq_true hll] at C2
          clear hll HG
          go_wp2_with fail
          refine C2.out.mono ?_
          rintro e w2 ⟨rfl, hb2⟩
          have HB2 := Lib.hid (HB1.out.trans (hb2.mono HB1.out.size))
          clear hb2
          go_wp2_with fail
          go_ret
          exact ⟨rfl, HB2.out⟩
        · obtain rfl : Z = ⟨#[]⟩ := by rw [HZ.out, HG.out]; exact if_neg (fun e => hll (Option.some.inj e).symm)
          rw [decide_eq_false hll] at C2
          clear hll HG
          go_wp2_with fail
          refine C2.out.mono ?_
          rintro e w2 ⟨rfl, hb2⟩
          have HB2 := Lib.hid (HB1.out.trans (hb2.mono HB1.out.size))
          clear hb2
          go_wp2_with fail
          go_ret
          exact ⟨rfl, HB2.out⟩
    · have hkn : (k : Int) < n := by omega
      have tk1 : (0 : Int) ≤ k := by omega
      obtain ⟨it, hit⟩ : ∃ it, l[k]? = some it := ⟨_, List.getElem?_eq_getElem (by have := HN.out.1; omega)⟩
      obtain ⟨b, off, rfl, hlt, hcp, x0, x1, sv, x2, xs⟩ := HA.out k it hit
      obtain ⟨SA, cp, rfl, hSA⟩ := ints_open xs
      have hset := HN.out.2.2 it (List.mem_of_getElem? hit)
      have hil := itemC_len hset
      have hcap : n ≤ cap := by have := HN.out.1; omega
      have m0 := (HB.out.cell (p := ⟨b, off + k * 3, none⟩) hlt).trans x0
      have m1 := (HB.out.cell (p := ⟨b, off + k * 3 + 1, none⟩) hlt).trans x1
      have m2 := (HB.out.cell (p := ⟨b, off + k * 3 + 2, none⟩) hlt).trans x2
      have HNX := Lib.hid (textC_next hit)
      have HS := Lib.hid hSA
      have HBa := Lib.hid (HB.out.alloc HB.out.size (.cells #[.bool it.any, .bool it.not, .slice SA it.set.length cp] /-t-/39))
      have FINR := Lib.hid (show ∀ Y : ByteArray, Y.data.toList = X.data.toList ++ ptL (itemC it) → Y.size ≤ 8100 * (k + 1) ∧ Hid (Y.data.toList = ptL (textC (l.take (k + 1)))) from fun Y hY => ⟨by rw [size_list, hY, List.length_append, ← size_list]; omega, Lib.hid (by rw [hY, HX.out, HNX.out, ptL_app])⟩)
      have hX2 : X.size ≤ 98000 := by omega
      clear x0 x1 x2 xs hSA hit hcp hil
      cases ha : it.any
      · rw [ha] at m0 HBa
        obtain ⟨sl, hsl⟩ : ∃ sl, sl = it.set.length := ⟨_, rfl⟩
        rw [← hsl] at m2 HBa hset
        have hba := HB.out.alloc HB.out.size (.cells #[.bool false, .bool it.not, .slice SA sl cp] /-t-/39)
        have k0 : (wr.alloc (.cells #[.bool false, .bool it.not, .slice SA sl cp] /-t-/39)).cell? ⟨wr.heap.size, 0, none⟩ = some (.bool false) := by simp
        have k1 : (wr.alloc (.cells #[.bool false, .bool it.not, .slice SA sl cp] /-t-/39)).cell? ⟨wr.heap.size, 1, none⟩ = some (.bool it.not) := by simp
        have k2 : (wr.alloc (.cells #[.bool false, .bool it.not, .slice SA sl cp] /-t-/39)).cell? ⟨wr.heap.size, 2, none⟩ = some (.slice SA sl cp) := by simp
        have hwl : wr.heap.size < (wr.alloc (.cells #[.bool false, .bool it.not, .slice SA sl cp] /-t-/39)).heap.size := by rw [World.size_alloc]; omega
        have HSL := Lib.hid hsl
        clear hsl
        go_upto_region 8 with fail
        generalize wr.alloc (.cells #[.bool false, .bool it.not, .slice SA sl cp] /-t-/39) = wA at *
        generalize wr.heap.size = hb at *
        have HK := Lib.hid (And.intro k0 (And.intro k1 (And.intro k2 hwl)))
        have HBA := Lib.hid hba
        clear m0 m1 m2 HBa HB hba hwl
        have KEEP := Lib.hid (show ∀ wx, Below wA.heap.size wA wx → wx.cell? ⟨hb, 0, none⟩ = some (.bool false) ∧ wx.cell? ⟨hb, 1, none⟩ = some (.bool it.not) ∧ wx.cell? ⟨hb, 2, none⟩ = some (.slice SA sl cp) from fun wx h => ⟨(cell_old (p := ⟨hb, 0, none⟩) h HK.out.2.2.2).trans HK.out.1, (cell_old (p := ⟨hb, 1, none⟩) h HK.out.2.2.2).trans HK.out.2.1, (cell_old (p := ⟨hb, 2, none⟩) h HK.out.2.2.2).trans HK.out.2.2.1⟩)
        have SET := Lib.hid (show ∀ wx, Below wA.heap.size wA wx → ∀ (i : Nat) c, it.set[i]? = some c → ∃ q o, SA = some ⟨q, o, none⟩ ∧ sl ≤ cp ∧ wx.cell? ⟨q, o + i, none⟩ = some (.int .i64 c) from fun wx h i c hi => by
          obtain ⟨q, o, rfl, hq, hcp, hc⟩ := HS.out i c hi
          exact ⟨q, o, rfl, by have := HSL.out; omega, (cell_old (p := ⟨q, o + i, none⟩) h (Nat.lt_of_lt_of_le hq HBA.out.size)).trans ((cell_old (p := ⟨q, o + i, none⟩) HBA.out hq).trans hc)⟩)
        obtain ⟨B, hB⟩ : ∃ B, B = plainIt it := ⟨_, rfl⟩
        go_cut [24] (fun t wx => t = .bool B ∧ wA = wx)
        case first =>
          by_cases hs1 : sl = 1
          · obtain ⟨c, hc⟩ : ∃ c, it.set[0]? = some c := ⟨_, List.getElem?_eq_getElem (by have := HSL.out; omega)⟩
            obtain ⟨q, o, rfl, hcp, cc⟩ := SET.out wA (Below.refl _ _) 0 c hc
            rw [Nat.add_zero] at cc
            have hhd : it.set.head? = some c := by rw [List.head?_eq_getElem?]; exact hc
            have hBv : B = (!it.not && (c != 46) && (c != 91) && (c != 93)) := by
              rw [hB]
              unfold plainIt
              rw [hhd, ← HSL.out, Bool.eq_iff_iff]
              simp [hs1, and_assoc]
            have HBV := Lib.hid hBv
            clear hB hBv hhd hc
            subst hs1
            cases hng : it.not
            · rw [hng] at HBV k1
              by_cases a1 : c = 46
              · subst a1
                obtain rfl : B = false := HBV.out.trans (by decide)
                go_wp2_with fail
                go_meet
                exact ⟨rfl, rfl⟩
              by_cases a2 : c = 91
              · subst a2
                obtain rfl : B = false := HBV.out.trans (by decide)
                go_wp2_with fail
                go_meet
                exact ⟨rfl, rfl⟩
              by_cases a3 : c = 93
              · subst a3
                obtain rfl : B = false := HBV.out.trans (by decide)
                go_wp2_with fail
                go_meet
                exact ⟨rfl, rfl⟩
              have b1 : (c != 46) = true := by simpa using a1
              have b2 : (c != 91) = true := by simpa using a2
              have b3 : (c != 93) = true := by simpa using a3
              have b4 : (c == 46) = false := by rw [beq_eq_false_iff_ne]; exact a1
              have b5 : (c == 91) = false := by rw [beq_eq_false_iff_ne]; exact a2
              have b6 : (c == 93) = false := by rw [beq_eq_false_iff_ne]; exact a3
              obtain rfl : B = true := HBV.out.trans (by rw [b1, b2, b3]; rfl)
              clear a1 a2 a3
              go_wp2_with fail
              go_meet
              exact ⟨rfl, rfl⟩
            · rw [hng] at HBV k1
              obtain rfl : B = false := HBV.out.trans (by simp)
              go_wp2_with fail
              go_meet
              exact ⟨rfl, rfl⟩
          · have hsE : ((sl : Int) == 1) = false := by rw [beq_eq_false_iff_ne]; omega
            have hsN : (sl == 1) = false := by rw [beq_eq_false_iff_ne]; exact hs1
            have hsM : ¬ (sl : Int) = 1 := by omega
            obtain rfl : B = false := by
              rw [hB]
              exact decide_eq_false (fun e => hs1 (by have := HSL.out; omega))
            clear hs1 hB
            go_wp2_with fail
            go_meet
            exact ⟨rfl, rfl⟩
        case rest =>
          obtain ⟨rfl, rfl⟩ := hcut
          obtain ⟨k0, k1, k2⟩ := KEEP.out wA (Below.refl _ _)
          have HPL := Lib.hid hB
          clear hB
          cases hBB : B
          · subst hBB
            have HFF := Lib.hid (fun Y (hY : Y.data.toList = X.data.toList ++ ptL (itemC it)) => FINR.out Y hY)
            rw [itemC_set ha HPL.out.symm] at HFF
            have cat : ¬ 9223372036854775807 < X.size + 1 := by omega
            have cat2 : ¬ 9223372036854775807 < X.size + 1 + 1 := by omega
            obtain ⟨g1, hg1⟩ : ∃ g1, g1 = gk := ⟨_, rfl⟩
            cases hng : it.not
            · rw [hng] at k1 HFF KEEP
              have hX0 := Lib.hid (show (X ++ ⟨#[91]⟩ : ByteArray).data.toList = X.data.toList ++ ptL [91] by rw [app_list]; rfl)
              have hX0l : (X ++ ⟨#[91]⟩ : ByteArray).size ≤ X.size + 2 := by rw [ByteArray.size_append, show ByteArray.size ⟨#[91]⟩ = 1 from rfl]; omega
              obtain ⟨X0, hX0e⟩ : ∃ X0, X0 = (X ++ ⟨#[91]⟩ : ByteArray) := ⟨_, rfl⟩
              rw [← hX0e] at hX0 hX0l
              have hcat : X ++ ⟨#[91]⟩ = X0 := hX0e.symm
              clear hX0e
              go_wp2_with fail
              go_loopg [3, 6] sl (fun g sv i wx => ∃ (j : Nat) (Y : ByteArray), j + g = sl ∧ i = .int .i64 j ∧ sv = .string Y ∧ Y.size ≤ X.size + 2 + 4 * j ∧ Hid (Y.data.toList = X0.data.toList ++ ptL (it.set.take j)) ∧ Hid (Below wA.heap.size wA wx))
              case atStart => exact ⟨0, X0, by omega, rfl, rfl, by omega, Lib.hid (by simp [ptL]), Lib.hid (Below.refl _ _)⟩
              case round =>
                obtain ⟨j, Y, hj, rfl, rfl, hY, HY, HBx⟩ := hrel
                clear k0 k1 k2
                obtain ⟨k0, k1, k2⟩ := KEEP.out wr HBx.out
                have tj0 : (0 : Int) ≤ j := by omega
                rcases Nat.eq_zero_or_pos gk with g00 | g00
                · have hje : j = sl := by omega
                  subst hje
                  have HF := Lib.hid (HFF.out (Y ++ ⟨#[93]⟩) (by
                    have h1 := HY.out
                    rw [List.take_of_length_le (by have := HSL.out; omega), hX0.out] at h1
                    rw [app_list, h1, List.append_assoc, List.append_assoc]
                    congr 1
                    simp [ptL_cons, ptL_app, ptL_nil, ptL_asc]))
                  have catY : ¬ 9223372036854775807 < Y.size + 1 := by omega
                  have HB6 := Lib.hid (HBA.out.trans (HBx.out.mono HBA.out.size))
                  go_wp2_with fail
                  go_roundg (g1 - 1)
                  case measure => omega
                  case rel => exact ⟨k + 1, _, by omega, by go_num, rfl, HF.out.1, HF.out.2, HB6⟩
                · have hjs : (j : Int) < sl := by omega
                  obtain ⟨c, hc⟩ : ∃ c, it.set[j]? = some c := ⟨_, List.getElem?_eq_getElem (by have := HSL.out; omega)⟩
                  obtain ⟨q, o, rfl, hcp, cc⟩ := SET.out wr HBx.out j c hc
                  have hpl := ptB_len c
                  have hUs : (⟨(ptB c).toArray⟩ : ByteArray).size ≤ 4 := by
                    rw [size_list]
                    exact hpl
                  have CB := Lib.hid (BY.out wr c)
                  have HYN := Lib.hid (show (Y ++ ⟨(ptB c).toArray⟩ : ByteArray).data.toList = X0.data.toList ++ ptL (it.set.take (j + 1)) by
                    rw [app_list, HY.out, List.append_assoc, List.take_add_one, hc]
                    congr 1
                    simp [ptL])
                  have HYS := Lib.hid (show (Y ++ ⟨(ptB c).toArray⟩ : ByteArray).size ≤ X.size + 2 + 4 * (j + 1) by rw [ByteArray.size_append]; omega)
                  clear hc hpl
                  generalize (⟨(ptB c).toArray⟩ : ByteArray) = U at *
                  have catY : ¬ 9223372036854775807 < Y.size + U.size := by omega
                  go_wp2_with fail
                  refine CB.out.mono ?_
                  rintro e w5 ⟨rfl, hb5⟩
                  have HB5 := Lib.hid (HBx.out.trans (hb5.mono HBx.out.size))
                  clear hb5
                  go_wp2_with fail
                  go_roundg (gk - 1)
                  case measure => omega
                  case rel => exact ⟨j + 1, _, by omega, by go_num, rfl, HYS.out, HYN, HB5⟩
            · rw [hng] at k1 HFF KEEP
              obtain ⟨X1, hX1e⟩ : ∃ X1, X1 = (X ++ ⟨#[91]⟩ : ByteArray) := ⟨_, rfl⟩
              have hX1l : X1.size = X.size + 1 := by rw [hX1e, ByteArray.size_append]; rfl
              obtain ⟨X0, hX0e⟩ : ∃ X0, X0 = (X1 ++ ⟨#[94]⟩ : ByteArray) := ⟨_, rfl⟩
              have hX0 := Lib.hid (show X0.data.toList = X.data.toList ++ ptL [91, 94] by rw [hX0e, app_list, hX1e, app_list, List.append_assoc]; rfl)
              have hX0l : X0.size ≤ X.size + 2 := by rw [hX0e, ByteArray.size_append, hX1l]; exact Nat.le_refl _
              have hcat1 : X ++ ⟨#[91]⟩ = X1 := hX1e.symm
              have hcat : X1 ++ ⟨#[94]⟩ = X0 := hX0e.symm
              have cat3 : ¬ 9223372036854775807 < X1.size + 1 := by omega
              clear hX0e hX1e
              go_wp2_with fail
              go_loopg [3, 6] sl (fun g sv i wx => ∃ (j : Nat) (Y : ByteArray), j + g = sl ∧ i = .int .i64 j ∧ sv = .string Y ∧ Y.size ≤ X.size + 2 + 4 * j ∧ Hid (Y.data.toList = X0.data.toList ++ ptL (it.set.take j)) ∧ Hid (Below wA.heap.size wA wx))
              case atStart => exact ⟨0, X0, by omega, rfl, rfl, by omega, Lib.hid (by simp [ptL]), Lib.hid (Below.refl _ _)⟩
              case round =>
                obtain ⟨j, Y, hj, rfl, rfl, hY, HY, HBx⟩ := hrel
                clear k0 k1 k2
                obtain ⟨k0, k1, k2⟩ := KEEP.out wr HBx.out
                have tj0 : (0 : Int) ≤ j := by omega
                rcases Nat.eq_zero_or_pos gk with g00 | g00
                · have hje : j = sl := by omega
                  subst hje
                  have HF := Lib.hid (HFF.out (Y ++ ⟨#[93]⟩) (by
                    have h1 := HY.out
                    rw [List.take_of_length_le (by have := HSL.out; omega), hX0.out] at h1
                    rw [app_list, h1, List.append_assoc, List.append_assoc]
                    congr 1
                    simp [ptL_cons, ptL_app, ptL_nil, ptL_asc]))
                  have catY : ¬ 9223372036854775807 < Y.size + 1 := by omega
                  have HB6 := Lib.hid (HBA.out.trans (HBx.out.mono HBA.out.size))
                  go_wp2_with fail
                  go_roundg (g1 - 1)
                  case measure => omega
                  case rel => exact ⟨k + 1, _, by omega, by go_num, rfl, HF.out.1, HF.out.2, HB6⟩
                · have hjs : (j : Int) < sl := by omega
                  obtain ⟨c, hc⟩ : ∃ c, it.set[j]? = some c := ⟨_, List.getElem?_eq_getElem (by have := HSL.out; omega)⟩
                  obtain ⟨q, o, rfl, hcp, cc⟩ := SET.out wr HBx.out j c hc
                  have hpl := ptB_len c
                  have hUs : (⟨(ptB c).toArray⟩ : ByteArray).size ≤ 4 := by
                    rw [size_list]
                    exact hpl
                  have CB := Lib.hid (BY.out wr c)
                  have HYN := Lib.hid (show (Y ++ ⟨(ptB c).toArray⟩ : ByteArray).data.toList = X0.data.toList ++ ptL (it.set.take (j + 1)) by
                    rw [app_list, HY.out, List.append_assoc, List.take_add_one, hc]
                    congr 1
                    simp [ptL])
                  have HYS := Lib.hid (show (Y ++ ⟨(ptB c).toArray⟩ : ByteArray).size ≤ X.size + 2 + 4 * (j + 1) by rw [ByteArray.size_append]; omega)
                  clear hc hpl
                  generalize (⟨(ptB c).toArray⟩ : ByteArray) = U at *
                  have catY : ¬ 9223372036854775807 < Y.size + U.size := by omega
                  go_wp2_with fail
                  refine CB.out.mono ?_
                  rintro e w5 ⟨rfl, hb5⟩
                  have HB5 := Lib.hid (HBx.out.trans (hb5.mono HBx.out.size))
                  clear hb5
                  go_wp2_with fail
                  go_roundg (gk - 1)
                  case measure => omega
                  case rel => exact ⟨j + 1, _, by omega, by go_num, rfl, HYS.out, HYN, HB5⟩
          · subst hBB
            have hone : it.set.length = 1 := (of_decide_eq_true HPL.out.symm).1
            have hsl1 : sl = 1 := by have := HSL.out; omega
            obtain ⟨c, hc⟩ : ∃ c, it.set[0]? = some c := ⟨_, List.getElem?_eq_getElem (by omega)⟩
            have hset1 : it.set = [c] := by
              match hq : it.set, hone with
              | [x], _ =>
                rw [hq] at hc
                simp at hc
                rw [hc]
            obtain ⟨q, o, rfl, hcp, cc⟩ := SET.out wA (Below.refl _ _) 0 c hc
            rw [Nat.add_zero] at cc
            subst hsl1
            have hfin := FINR.out (X ++ ⟨(ptB c).toArray⟩) (by rw [app_list, itemC_plain ha HPL.out.symm, hset1]; simp [ptL])
            have HF := Lib.hid hfin
            have hpl := ptB_len c
            have cat : ¬ 9223372036854775807 < X.size + (⟨(ptB c).toArray⟩ : ByteArray).size := by
              rw [size_list]
              show ¬ 9223372036854775807 < X.size + (ptB c).length
              omega
            have CB := Lib.hid (BY.out wA c)
            clear hfin hset1 hc hone hpl
            generalize (⟨(ptB c).toArray⟩ : ByteArray) = U at *
            go_wp2_with fail
            refine CB.out.mono ?_
            rintro e w5 ⟨rfl, hb5⟩
            have HB5 := Lib.hid (HBA.out.trans (hb5.mono HBA.out.size))
            clear hb5
            go_wp2_with fail
            go_roundg (gk - 1)
            case measure => omega
            case rel => exact ⟨k + 1, _, by omega, by go_num, rfl, HF.out.1, HF.out.2, HB5⟩
      · rw [ha] at m0 HBa
        have hfin := FINR.out (X ++ ⟨#[46]⟩) (by rw [app_list, itemC_any ha]; rfl)
        have HF := Lib.hid hfin
        have cat : ¬ 9223372036854775807 < X.size + 1 := by omega
        clear hfin
        go_wp2_with fail
        go_roundg (gk - 1)
        case measure => omega
        case rel => exact ⟨k + 1, _, by omega, by go_num, rfl, HF.out.1, HF.out.2, HBa⟩
end Go.Proofs.YteenleedonmkmaaGreatDoor
