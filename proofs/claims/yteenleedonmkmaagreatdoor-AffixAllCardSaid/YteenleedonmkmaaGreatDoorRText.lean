/- rule.Text by contract. -/
import Derived.Test.YteenleedonmkmaaGreatDoorRJoin
import Derived.Deep.RegionHeld3
namespace Go.Proofs.YteenleedonmkmaaGreatDoor
open Go Go.RowKit Go.Lib

theorem letter_bytes {k : Int} (h : letterB k = true) : bytesOf k = ⟨#[UInt8.ofNat k.toNat]⟩ := by
  have hr := letter_range h
  obtain ⟨n, rfl⟩ : ∃ n : Nat, k = n := ⟨k.toNat, by omega⟩
  have hv : Utf8.valid (n : Int) = true := by simp [Utf8.valid]; omega
  unfold bytesOf
  rw [if_pos hv]
  rcases enc_cases n hv with ⟨_, e⟩ | ⟨h1, h2, e⟩ | ⟨h1, h2, h3, e⟩ | ⟨h1, h2, e⟩
  · rw [← r_mk (Utf8.encode _), e]; rfl
  all_goals omega
theorem or0_size (s : ByteArray) : (⟨(or0L s).toArray⟩ : ByteArray).size ≤ s.size + 1 := by
  show (or0L s).toArray.size ≤ _
  rw [List.size_toArray, Lib.size_eq]
  unfold or0L
  split <;> simp
theorem join_line (r : Ru) (t : ByteArray) (P C : ByteArray) (hP : P.data.toList = (if r.pre then pfx else sfx)) (hC : C.data.toList = (if r.cross then [89] else [78])) :
    P.data.toList ++ tailL [(⟨#[UInt8.ofNat r.flag.toNat]⟩ : ByteArray), C, ⟨(or0L r.strip).toArray⟩, ⟨(or0L r.add).toArray⟩, t] = lineL r t.data.toList := by
  unfold lineL tailL
  rw [hP]
  simp [hC]

set_option maxRecDepth 100000 in
set_option maxHeartbeats 8000000 in
theorem rul_text_any (w : World) (v : Value) (r : Ru) (h : RuAt w v r) (hf : FitR r) (hT : Lib.Utf8Tabs 1 2 w) :
    Calls Tryz.prog 19 #[v] w fun e w' => e = .returned (.string (textR r)) ∧ Below w.heap.size w w' := by
  obtain ⟨A, cap, rfl, hi⟩ := id h
  obtain ⟨n, hn⟩ : ∃ n, n = r.cond.length := ⟨_, rfl⟩
  rw [← hn] at h hi ⊢
  have hB0 := (Below.refl w.heap.size w).alloc (Nat.le_refl _) (.cells #[.bool r.pre, .int .i64 r.flag, .bool r.cross, .string r.strip, .string r.add, .slice A n cap] 36)
  have HB := Lib.hid hB0
  have CK := Lib.hid (rcheck_any _ _ r (h.keep hB0) hf (tabs_below hT hB0))
  cases hc : checkB r with
  | false =>
    rw [hc] at CK
    have HZ := Lib.hid (text_no hc)
    clear h hi hf hT hn hB0 hc
    go_enter Tryz.func19, Tryz.ntmps19
    go_wp2_with (go_at_call 39; refine CK.out.mono ?_)
    rintro e w1 ⟨rfl, hb⟩
    have HB1 := Lib.hid (HB.out.trans (hb.mono HB.out.size))
    clear hb
    go_wp2_with fail
    go_ret
    exact ⟨by rw [HZ.out]; rfl, HB1.out⟩
  | true =>
    rw [hc] at CK
    have HZ := Lib.hid (text_yes hc)
    have hlet : letterB r.flag = true := by unfold checkB at hc; cases hh : letterB r.flag with | true => rfl | false => rw [hh] at hc; cases hc
    obtain ⟨P, hP⟩ : ∃ P : ByteArray, P = (if r.pre then ⟨#[80, 70, 88]⟩ else ⟨#[83, 70, 88]⟩) := ⟨_, rfl⟩
    obtain ⟨C, hC⟩ : ∃ C : ByteArray, C = (if r.cross then ⟨#[89]⟩ else ⟨#[78]⟩) := ⟨_, rfl⟩
    have HL := Lib.hid (join_line r (textG r.cond) P C (by rw [hP]; cases r.pre <;> rfl) (by rw [hC]; cases r.cross <;> rfl))
    have CF := Lib.hid (fun wx => bytes_any r.flag wx)
    rw [letter_bytes hlet] at CF
    have HS := Lib.hid (And.intro (show P.size ≤ 1000000000000 by rw [hP]; cases r.pre <;> decide) (And.intro (show C.size ≤ 1000000000000 by rw [hC]; cases r.cross <;> decide) (And.intro (textG_size _ hf.sets) (And.intro hf.strip hf.add))))
    have CT := Lib.hid (fun wx (hb : Below w.heap.size w wx) => text_any wx _ r.cond (hi.keep hb) hf.sets (tabs_below hT hb))
    obtain ⟨F, hF⟩ : ∃ F : ByteArray, F = ⟨#[UInt8.ofNat r.flag.toNat]⟩ := ⟨_, rfl⟩
    obtain ⟨X, hX⟩ : ∃ X : ByteArray, X = ⟨(or0L r.strip).toArray⟩ := ⟨_, rfl⟩
    obtain ⟨Y, hY⟩ : ∃ Y : ByteArray, Y = ⟨(or0L r.add).toArray⟩ := ⟨_, rfl⟩
    obtain ⟨t, ht⟩ : ∃ t : ByteArray, t = textG r.cond := ⟨_, rfl⟩
    have hsX : X.size ≤ 1000000000000 := by have := or0_size r.strip; rw [← hX] at this; have := hf.strip; omega
    have hsY : Y.size ≤ 1000000000000 := by have := or0_size r.add; rw [← hY] at this; have := hf.add; omega
    have hsF : F.size ≤ 1000000000000 := by rw [hF]; show (1 : Nat) ≤ _; omega
    have CX := Lib.hid (fun wx => rwordOf_any r.strip wx)
    have CY := Lib.hid (fun wx => rwordOf_any r.add wx)
    rw [← hF, ← hX, ← hY, ← ht] at HL
    rw [← hF] at CF
    rw [← hX] at CX
    rw [← hY] at CY
    rw [← ht] at CT HS HZ
    have CJ := Lib.hid (fun (wx : World) => rjoin_any (wx.alloc (.cells #[.string P, .string F, .string C, .string X, .string Y, .string t] 9)) wx.heap.size P [F, C, X, Y, t] rfl (by simp)
      (by simp) (fun j x hj => by
        match j, hj with
        | 0, hj => obtain rfl := Option.some.inj hj; simp
        | 1, hj => obtain rfl := Option.some.inj hj; simp
        | 2, hj => obtain rfl := Option.some.inj hj; simp
        | 3, hj => obtain rfl := Option.some.inj hj; simp
        | 4, hj => obtain rfl := Option.some.inj hj; simp
        | j + 5, hj => simp at hj) HS.out.1 (fun x hx => by
        simp only [List.mem_cons, List.not_mem_nil, or_false] at hx
        rcases hx with rfl | rfl | rfl | rfl | rfl
        · exact hsF
        · exact HS.out.2.1
        · exact hsX
        · exact hsY
        · exact HS.out.2.2.1))
    rw [HL.out, ← HZ.out] at CJ
    obtain ⟨Z, hZ⟩ : ∃ Z, Z = textR r := ⟨_, rfl⟩
    rw [← hZ] at CJ ⊢
    obtain ⟨W0, hW0⟩ : ∃ W0, W0 = w.alloc (.cells #[.bool r.pre, .int .i64 r.flag, .bool r.cross, .string r.strip, .string r.add, .slice A n cap] 36) := ⟨_, rfl⟩
    have hbx : ∀ wx, Below W0.heap.size W0 wx → wx.cell? ⟨w.heap.size, 0, none⟩ = some (.bool r.pre) ∧ wx.cell? ⟨w.heap.size, 1, none⟩ = some (.int .i64 r.flag) ∧ wx.cell? ⟨w.heap.size, 2, none⟩ = some (.bool r.cross) ∧ wx.cell? ⟨w.heap.size, 3, none⟩ = some (.string r.strip) ∧ wx.cell? ⟨w.heap.size, 4, none⟩ = some (.string r.add) ∧ wx.cell? ⟨w.heap.size, 5, none⟩ = some (.slice A n cap) := fun wx hb => by
      rw [hW0] at hb
      exact box6 hb
    have BX := Lib.hid hbx
    obtain ⟨pre, flag, cross, strip, add, cond⟩ := r
    dsimp only at hP hC HB CK CF CT CX CY BX hW0 hn
    rw [← hW0] at HB CK
    have HW0 := Lib.hid hW0
    have HPC := Lib.hid (And.intro hP hC)
    clear h hi hf hT hn hB0 hc hlet hP hC HL HS hF hX hY ht hsX hsY hsF hZ hW0 hbx HZ
    go_enter Tryz.func19, Tryz.ntmps19
    go_upto_region 1 with fail
    rw [← HW0.out]
    obtain ⟨x0, x1, x2, x3, x4, x5⟩ := BX.out W0 (Below.refl _ _)
    go_wp2_with (go_at_call 39; refine CK.out.mono ?_)
    rintro e w1 ⟨rfl, hb⟩
    have HB1 := Lib.hid hb
    have hb1' := hb
    clear x0 x1 x2 x3 x4 x5
    obtain ⟨x0, x1, x2, x3, x4, x5⟩ := BX.out w1 hb
    clear hb hb1'
    go_upto_if 9 with fail
    go_cut [3] (fun t wx => t = .string P ∧ w1 = wx)
    case first =>
      cases pre with
      | true =>
        go_wp2_with fail
        go_meet
        exact ⟨by rw [HPC.out.1]; rfl, rfl⟩
      | false =>
        go_wp2_with fail
        go_meet
        exact ⟨by rw [HPC.out.1]; rfl, rfl⟩
    case rest =>
    obtain ⟨rfl, rfl⟩ := hcut
    go_upto_if 11 with fail
    go_cut [4] (fun t wx => t = .string C ∧ w1 = wx)
    case first =>
      cases cross with
      | true =>
        go_wp2_with fail
        go_meet
        exact ⟨by rw [HPC.out.2]; rfl, rfl⟩
      | false =>
        go_wp2_with fail
        go_meet
        exact ⟨by rw [HPC.out.2]; rfl, rfl⟩
    case rest =>
    obtain ⟨rfl, rfl⟩ := hcut
    have SB := Lib.hid (show ∀ wx, Below W0.heap.size W0 wx → (wx.cell? ⟨w.heap.size, 1, none⟩ = some (.int .i64 flag) ∧ wx.cell? ⟨w.heap.size, 3, none⟩ = some (.string strip) ∧ wx.cell? ⟨w.heap.size, 4, none⟩ = some (.string add) ∧ wx.cell? ⟨w.heap.size, 5, none⟩ = some (.slice A n cap) ∧ Hid (Below W0.heap.size W0 wx)) from fun wx hb => by
      obtain ⟨_, y1, _, y3, y4, y5⟩ := BX.out wx hb
      exact ⟨y1, y3, y4, y5, Lib.hid hb⟩)
    have KA := Lib.hid (show ∀ (wx : World) (o : Obj), (wx.cell? ⟨w.heap.size, 1, none⟩ = some (.int .i64 flag) ∧ wx.cell? ⟨w.heap.size, 3, none⟩ = some (.string strip) ∧ wx.cell? ⟨w.heap.size, 4, none⟩ = some (.string add) ∧ wx.cell? ⟨w.heap.size, 5, none⟩ = some (.slice A n cap) ∧ Hid (Below W0.heap.size W0 wx)) → ((wx.alloc o).cell? ⟨w.heap.size, 1, none⟩ = some (.int .i64 flag) ∧ (wx.alloc o).cell? ⟨w.heap.size, 3, none⟩ = some (.string strip) ∧ (wx.alloc o).cell? ⟨w.heap.size, 4, none⟩ = some (.string add) ∧ (wx.alloc o).cell? ⟨w.heap.size, 5, none⟩ = some (.slice A n cap) ∧ Hid (Below W0.heap.size W0 (wx.alloc o))) from fun wx o hs => SB.out _ (hs.2.2.2.2.out.alloc hs.2.2.2.2.out.size o))
    have CF2 := Lib.hid (fun wx (hs : (wx.cell? ⟨w.heap.size, 1, none⟩ = some (.int .i64 flag) ∧ wx.cell? ⟨w.heap.size, 3, none⟩ = some (.string strip) ∧ wx.cell? ⟨w.heap.size, 4, none⟩ = some (.string add) ∧ wx.cell? ⟨w.heap.size, 5, none⟩ = some (.slice A n cap) ∧ Hid (Below W0.heap.size W0 wx))) => (show Calls Tryz.prog 20 #[.int .i64 flag] wx fun e w' => e = .returned (.string F) ∧ (w'.cell? ⟨w.heap.size, 1, none⟩ = some (.int .i64 flag) ∧ w'.cell? ⟨w.heap.size, 3, none⟩ = some (.string strip) ∧ w'.cell? ⟨w.heap.size, 4, none⟩ = some (.string add) ∧ w'.cell? ⟨w.heap.size, 5, none⟩ = some (.slice A n cap) ∧ Hid (Below W0.heap.size W0 w')) from (CF.out wx).mono fun e w' ⟨he, hw⟩ => ⟨he, hw ▸ hs⟩))
    have CX2 := Lib.hid (fun wx (hs : (wx.cell? ⟨w.heap.size, 1, none⟩ = some (.int .i64 flag) ∧ wx.cell? ⟨w.heap.size, 3, none⟩ = some (.string strip) ∧ wx.cell? ⟨w.heap.size, 4, none⟩ = some (.string add) ∧ wx.cell? ⟨w.heap.size, 5, none⟩ = some (.slice A n cap) ∧ Hid (Below W0.heap.size W0 wx))) => (show Calls Tryz.prog 41 #[.string strip] wx fun e w' => e = .returned (.string X) ∧ (w'.cell? ⟨w.heap.size, 1, none⟩ = some (.int .i64 flag) ∧ w'.cell? ⟨w.heap.size, 3, none⟩ = some (.string strip) ∧ w'.cell? ⟨w.heap.size, 4, none⟩ = some (.string add) ∧ w'.cell? ⟨w.heap.size, 5, none⟩ = some (.slice A n cap) ∧ Hid (Below W0.heap.size W0 w')) from (CX.out wx).mono fun e w' ⟨he, hw⟩ => ⟨he, hw ▸ hs⟩))
    have CY2 := Lib.hid (fun wx (hs : (wx.cell? ⟨w.heap.size, 1, none⟩ = some (.int .i64 flag) ∧ wx.cell? ⟨w.heap.size, 3, none⟩ = some (.string strip) ∧ wx.cell? ⟨w.heap.size, 4, none⟩ = some (.string add) ∧ wx.cell? ⟨w.heap.size, 5, none⟩ = some (.slice A n cap) ∧ Hid (Below W0.heap.size W0 wx))) => (show Calls Tryz.prog 41 #[.string add] wx fun e w' => e = .returned (.string Y) ∧ (w'.cell? ⟨w.heap.size, 1, none⟩ = some (.int .i64 flag) ∧ w'.cell? ⟨w.heap.size, 3, none⟩ = some (.string strip) ∧ w'.cell? ⟨w.heap.size, 4, none⟩ = some (.string add) ∧ w'.cell? ⟨w.heap.size, 5, none⟩ = some (.slice A n cap) ∧ Hid (Below W0.heap.size W0 w')) from (CY.out wx).mono fun e w' ⟨he, hw⟩ => ⟨he, hw ▸ hs⟩))
    have CT2 := Lib.hid (fun wx (hs : (wx.cell? ⟨w.heap.size, 1, none⟩ = some (.int .i64 flag) ∧ wx.cell? ⟨w.heap.size, 3, none⟩ = some (.string strip) ∧ wx.cell? ⟨w.heap.size, 4, none⟩ = some (.string add) ∧ wx.cell? ⟨w.heap.size, 5, none⟩ = some (.slice A n cap) ∧ Hid (Below W0.heap.size W0 wx))) => (show Calls Tryz.prog 42 #[.slice A n cap] wx fun e w' => e = .returned (.string t) ∧ (w'.cell? ⟨w.heap.size, 1, none⟩ = some (.int .i64 flag) ∧ w'.cell? ⟨w.heap.size, 3, none⟩ = some (.string strip) ∧ w'.cell? ⟨w.heap.size, 4, none⟩ = some (.string add) ∧ w'.cell? ⟨w.heap.size, 5, none⟩ = some (.slice A n cap) ∧ Hid (Below W0.heap.size W0 w')) from (CT.out wx (HB.out.trans (hs.2.2.2.2.out.mono HB.out.size))).mono fun e w' ⟨he, hb⟩ => ⟨he, SB.out _ (hs.2.2.2.2.out.trans (hb.mono hs.2.2.2.2.out.size))⟩))
    have CJ2 := Lib.hid (fun (wx : World) (hs : ((wx.alloc (.cells #[.string P, .string F, .string C, .string X, .string Y, .string t] 9)).cell? ⟨w.heap.size, 1, none⟩ = some (.int .i64 flag) ∧ (wx.alloc (.cells #[.string P, .string F, .string C, .string X, .string Y, .string t] 9)).cell? ⟨w.heap.size, 3, none⟩ = some (.string strip) ∧ (wx.alloc (.cells #[.string P, .string F, .string C, .string X, .string Y, .string t] 9)).cell? ⟨w.heap.size, 4, none⟩ = some (.string add) ∧ (wx.alloc (.cells #[.string P, .string F, .string C, .string X, .string Y, .string t] 9)).cell? ⟨w.heap.size, 5, none⟩ = some (.slice A n cap) ∧ Hid (Below W0.heap.size W0 (wx.alloc (.cells #[.string P, .string F, .string C, .string X, .string Y, .string t] 9))))) => (show Calls Tryz.prog 40 #[.slice (some ⟨wx.heap.size, 0, none⟩) 6 6, .string ⟨#[32]⟩] (wx.alloc (.cells #[.string P, .string F, .string C, .string X, .string Y, .string t] 9)) fun e w' => e = .returned (.string Z) ∧ (w'.cell? ⟨w.heap.size, 1, none⟩ = some (.int .i64 flag) ∧ w'.cell? ⟨w.heap.size, 3, none⟩ = some (.string strip) ∧ w'.cell? ⟨w.heap.size, 4, none⟩ = some (.string add) ∧ w'.cell? ⟨w.heap.size, 5, none⟩ = some (.slice A n cap) ∧ Hid (Below W0.heap.size W0 w')) from (CJ.out wx).mono fun e w' ⟨he, hb⟩ => ⟨he, SB.out _ (hs.2.2.2.2.out.trans (hb.mono hs.2.2.2.2.out.size))⟩))
    have HS1 := Lib.hid (SB.out _ (below_drewN HB1.out 1))
    clear CF CX CY CT CJ SB
    clear CK BX x0 x2 x3 x4 x5 x1
    go_upto_region 8 with fail
    go_region_held3 (fun wx => wx.cell? ⟨w.heap.size, 1, none⟩ = some (.int .i64 flag) ∧ wx.cell? ⟨w.heap.size, 3, none⟩ = some (.string strip) ∧ wx.cell? ⟨w.heap.size, 4, none⟩ = some (.string add) ∧ wx.cell? ⟨w.heap.size, 5, none⟩ = some (.slice A n cap) ∧ Hid (Below W0.heap.size W0 wx))
      (first | exact HS1.out | assumption | exact KA.out _ _ (by assumption))
      (first
        | (go_at_call 20; refine (CF2.out _ (by assumption)).mono ?_; rintro e w5 ⟨rfl, hs⟩)
        | (go_at_call 41; refine (CX2.out _ (by assumption)).mono ?_; rintro e w5 ⟨rfl, hs⟩)
        | (go_at_call 41; refine (CY2.out _ (by assumption)).mono ?_; rintro e w5 ⟨rfl, hs⟩)
        | (go_at_call 42; refine (CT2.out _ (by assumption)).mono ?_; rintro e w5 ⟨rfl, hs⟩)
        | (go_at_call 40; refine (CJ2.out _ (by assumption)).mono ?_; rintro e w5 ⟨rfl, hs⟩))
    have hs5 : Hid (Below W0.heap.size W0 w5) := by
      have hh : (w5.cell? ⟨w.heap.size, 1, none⟩ = some (.int .i64 flag) ∧ w5.cell? ⟨w.heap.size, 3, none⟩ = some (.string strip) ∧ w5.cell? ⟨w.heap.size, 4, none⟩ = some (.string add) ∧ w5.cell? ⟨w.heap.size, 5, none⟩ = some (.slice A n cap) ∧ Hid (Below W0.heap.size W0 w5)) := by assumption
      exact hh.2.2.2.2
    have HB5 := Lib.hid (HB.out.trans (hs5.out.mono HB.out.size))
    go_wp2_with fail
    go_ret
    exact ⟨rfl, HB5.out⟩
end Go.Proofs.YteenleedonmkmaaGreatDoor
