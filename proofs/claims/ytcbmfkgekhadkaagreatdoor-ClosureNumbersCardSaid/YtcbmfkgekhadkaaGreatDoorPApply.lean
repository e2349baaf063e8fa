/- The document's Apply of chapter 10 by contract, of whatever rules. -/
import Derived.Test.YtcbmfkgekhadkaaGreatDoorZGd
import Derived.Test.YtcbmfkgekhadkaaGreatDoorZGa
namespace Go.Proofs.YtcbmfkgekhadkaaGreatDoor
open Go Go.RowKit Go.Lib

theorem codesB_two (l : List UInt8) : (codesB l).isSome = validD l ∧ (codesB l).getD [] = codesL l := by
  unfold codesB codesL
  cases validD l <;> simp
theorem okB_empty (s : ByteArray) : okB s = !s.toList.isEmpty := by
  unfold okB
  rw [toL_data, Bool.eq_iff_iff, decide_eq_true_eq, Lib.size_eq]
  cases s.data.toList <;> simp
/-- A rule that is not too great for whoever applies it. -/
structure MidR (r : Ru) : Prop where
  items : r.cond.length ≤ 100000
  sets : ∀ it ∈ r.cond, it.set.length ≤ 100000
  strip : r.strip.size ≤ 1000000
  add : r.add.size ≤ 1000000
/-- What is answered. -/
def ApplyE (e : Ending) (s : ByteArray) : Prop := e = .returned (.tuple #[.string s, .bool (okB s)])
theorem applyR_none {r : Ru} {wd : ByteArray} (h : codesB wd.data.toList = none) : applyR r wd = ⟨#[]⟩ := by unfold applyR; rw [h]
theorem applyR_pre {r : Ru} {wd : ByteArray} {cs : List Int} (h : codesB wd.data.toList = some cs) (hp : r.pre = true) : applyR r wd = if begins wd r.strip = true ∧ startsP r.cond cs = true then r.add ++ wd.extract r.strip.size wd.size else ⟨#[]⟩ := by
  unfold applyR begins
  rw [h]
  dsimp only
  rw [if_pos hp]
  simp only [decide_eq_true_eq, and_assoc]
theorem applyR_suf {r : Ru} {wd : ByteArray} {cs : List Int} (h : codesB wd.data.toList = some cs) (hp : r.pre = false) : applyR r wd = if endsW wd r.strip = true ∧ endsP r.cond cs = true then wd.extract 0 (wd.size - r.strip.size) ++ r.add else ⟨#[]⟩ := by
  unfold applyR endsW
  rw [h]
  dsimp only
  rw [if_neg (by simp [hp])]
  simp only [decide_eq_true_eq, and_assoc]

set_option maxRecDepth 100000 in
set_option maxHeartbeats 4000000 in
theorem rapply_any (w : World) (v : Value) (r : Ru) (wd : ByteArray) (h : RuAt w v r) (hm : MidR r) (hw : wd.size ≤ 100000) :
    Calls Tryz.prog 26 #[v, .string wd] w fun e w' => ApplyE e (applyR r wd) ∧ Below w.heap.size w w' := by
  obtain ⟨A, cap, rfl, hi⟩ := h
  obtain ⟨W0, hW0⟩ : ∃ W0, W0 = w.alloc (.cells #[.bool r.pre, .int .i64 r.flag, .bool r.cross, .string r.strip, .string r.add, .slice A r.cond.length cap] 51) := ⟨_, rfl⟩
  have CC := Lib.hid (rcodes_any wd W0 (by omega))
  have hbA := (Below.refl w.heap.size w).alloc (Nat.le_refl _) (.cells #[.bool r.pre, .int .i64 r.flag, .bool r.cross, .string r.strip, .string r.add, .slice A r.cond.length cap] 51)
  rw [hW0] at CC
  clear hW0 W0
  have HA := Lib.hid hbA
  have HI := Lib.hid hi
  have CB := Lib.hid (fun wx => rbegins_any wd r.strip wx (by omega) (by have := hm.strip; omega))
  have CE := Lib.hid (fun wx => rends10_any wd r.strip wx (by omega) (by have := hm.strip; omega))
  obtain ⟨n, hn⟩ : ∃ n, n = r.cond.length := ⟨_, rfl⟩
  have HN := Lib.hid hn
  have HM := Lib.hid hm
  have hst := hm.strip
  have had := hm.add
  rw [← hn] at HI HA CC ⊢
  obtain ⟨e1, e2⟩ := codesB_two wd.data.toList
  obtain ⟨R, hR⟩ : ∃ R, R = applyR r wd := ⟨_, rfl⟩
  rw [← hR]
  have HR := Lib.hid hR
  clear hi hn hm hbA hR
  cases hcb : codesB wd.data.toList with
  | none =>
    rw [hcb] at e1
    rw [← e1] at CC
    have HZ := Lib.hid (show R = ⟨#[]⟩ from HR.out.trans (applyR_none hcb))
    clear e1 e2 hcb HR
    go_enter Tryz.func26, Tryz.ntmps26
    go_wp2_with (go_at_call 44; refine CC.out.mono ?_)
    rintro e w1 ⟨v1, rfl, hown, hb⟩
    have HB := Lib.hid (HA.out.trans (hb.mono HA.out.size))
    clear hb hown
    go_wp2_with fail
    go_ret2
    rw [HZ.out]
    exact ⟨rfl, HB.out⟩
  | some cs =>
    rw [hcb] at e1 e2
    rw [← e1, ← e2] at CC
    simp only [Option.getD_some, Option.isSome_some] at CC
    have hcl := (codesB_says hcb).2
    have hsl : wd.data.toList.length = wd.size := (Lib.size_eq wd).symm
    have HCL := Lib.hid (show cs.length ≤ 100000 by omega)
    clear e1 e2 hsl hcl
    obtain ⟨pre, flag, cross, strip, add, cond⟩ := r
    dsimp only at HN HI HA CC CB CE hst had HM
    cases pre with
    | true =>
      have HP := Lib.hid (show R = _ from HR.out.trans (applyR_pre hcb rfl))
      clear hcb HR CE
      go_enter Tryz.func26, Tryz.ntmps26
      go_wp2_with (first
        | (go_at_call 44; refine CC.out.mono ?_; rintro e w1 ⟨v1, rfl, hown, hb⟩; have hin := ints_own hown; obtain ⟨B, bc, rfl, -⟩ := ints_open hin; obtain ⟨x0, x1, x2, x3, x4, x5⟩ := box6 hb; have hlt : w.heap.size < w1.heap.size := by { have := hb.size; rw [World.size_alloc] at this; omega }; have HB := Lib.hid (HA.out.trans (hb.mono HA.out.size)); have ST := Lib.hid (rstarts_any w1 A B n cs.length cap bc cond cs (HI.out.keep HB.out) hin HN.out rfl (by rw [HN.out]; exact HM.out.items) HCL.out HM.out.sets); clear hown hb hin)
        | (go_at_call 45; refine (CB.out _).mono ?_; rintro e w2 ⟨rfl, rfl⟩)
        | (go_at_call 46; refine ST.out.mono ?_; rintro e w3 ⟨rfl, hb⟩; have y3 := (hb.cell (p := ⟨w.heap.size, 3, none⟩) hlt).trans x3; have y4 := (hb.cell (p := ⟨w.heap.size, 4, none⟩) hlt).trans x4; have HB3 := Lib.hid (HB.out.trans (hb.mono HB.out.size)); clear hb))
      · rename_i h1 h2
        go_ret2
        have hz : R = ⟨#[]⟩ := by rw [HP.out]; exact if_neg (fun h => by rw [h.2] at h2; cases h2)
        rw [hz]
        exact ⟨rfl, HB3.out⟩
      · rename_i h1 h2
        have hs2 : startsP cond cs = true := by cases hh : startsP cond cs <;> simp_all
        have HZ := Lib.hid (show R = add ++ wd.extract strip.size wd.size from HP.out.trans (if_pos ⟨h1, hs2⟩))
        have hle : strip.size ≤ wd.size := by unfold begins at h1; exact (of_decide_eq_true h1).1
        have q1 : (0 : Int) ≤ strip.size := by omega
        have q2 : (strip.size : Int) ≤ wd.size := by omega
        have q3 : ¬ 9223372036854775807 < add.size + (wd.size - strip.size) := by omega
        have q4 : ¬ 9223372036854775807 < wd.size - strip.size + add.size := by omega
        clear h1 h2 hs2 hle x0 x1 x2 x3 x4 x5
        go_quiet (fail)
        go_wp2_with fail
        go_ret2
        rw [HZ.out]
        exact ⟨by unfold ApplyE; rw [okB_empty]; rfl, below_drewN HB3.out _⟩
      · rename_i h1
        go_ret2
        have hz : R = ⟨#[]⟩ := by rw [HP.out]; exact if_neg (fun h => h1 h.1)
        rw [hz]
        exact ⟨rfl, HB.out⟩
    | false =>
      obtain ⟨k, hk⟩ : ∃ k, k = wd.size - strip.size := ⟨_, rfl⟩
      have HP := Lib.hid (show R = if endsW wd strip = true ∧ endsP cond cs = true then wd.extract 0 k ++ add else ⟨#[]⟩ from HR.out.trans (by rw [hk]; exact applyR_suf hcb rfl))
      clear hcb HR CB
      have HK := Lib.hid hk
      clear hk
      go_enter Tryz.func26, Tryz.ntmps26
      go_wp2_with (first
        | (go_at_call 44; refine CC.out.mono ?_; rintro e w1 ⟨v1, rfl, hown, hb⟩; have hin := ints_own hown; obtain ⟨B, bc, rfl, -⟩ := ints_open hin; obtain ⟨x0, x1, x2, x3, x4, x5⟩ := box6 hb; have hlt : w.heap.size < w1.heap.size := by { have := hb.size; rw [World.size_alloc] at this; omega }; have HB := Lib.hid (HA.out.trans (hb.mono HA.out.size)); have ST := Lib.hid (rends_any w1 A B n cs.length cap bc cond cs (HI.out.keep HB.out) hin HN.out rfl (by rw [HN.out]; exact HM.out.items) HCL.out HM.out.sets); clear hown hb hin)
        | (go_at_call 47; refine (CE.out _).mono ?_; rintro e w2 ⟨rfl, rfl⟩)
        | (go_at_call 48; refine ST.out.mono ?_; rintro e w3 ⟨rfl, hb⟩; have y3 := (hb.cell (p := ⟨w.heap.size, 3, none⟩) hlt).trans x3; have y4 := (hb.cell (p := ⟨w.heap.size, 4, none⟩) hlt).trans x4; have HB3 := Lib.hid (HB.out.trans (hb.mono HB.out.size)); clear hb))
      · rename_i h1 h2
        go_ret2
        have hz : R = ⟨#[]⟩ := by rw [HP.out]; exact if_neg (fun h => by rw [h.2] at h2; cases h2)
        rw [hz]
        exact ⟨rfl, HB3.out⟩
      · rename_i h1 h2
        have hs2 : endsP cond cs = true := by cases hh : endsP cond cs <;> simp_all
        have HZ := Lib.hid (show R = wd.extract 0 k ++ add from HP.out.trans (if_pos ⟨h1, hs2⟩))
        have hle : strip.size ≤ wd.size := by unfold endsW at h1; exact (of_decide_eq_true h1).1
        have q1 : (0 : Int) ≤ strip.size := by omega
        have q2 : (strip.size : Int) ≤ wd.size := by omega
        have e1 : (wd.size : Int) - strip.size = k := by have := HK.out; omega
        have q5 : (0 : Int) ≤ k := by omega
        have q6 : (k : Int) ≤ wd.size := by omega
        have e2 : IntKind.i64.wrap (k : Int) = k := IntWalk.i64_in _ (by omega)
        have q7 : ¬ 9223372036854775807 < k + add.size := by omega
        have q8 : ¬ 9223372036854775807 < min k wd.size + add.size := by omega
        have q3 : ¬ 9223372036854775807 < add.size + (wd.size - strip.size) := by omega
        have q4 : ¬ 9223372036854775807 < wd.size - strip.size + add.size := by omega
        clear h1 h2 hs2 hle x0 x1 x2 x3 x4 x5
        go_quiet (fail)
        go_wp2_with fail
        go_ret2
        rw [HZ.out]
        exact ⟨by unfold ApplyE; rw [okB_empty]; rfl, below_drewN HB3.out _⟩
      · rename_i h1
        go_ret2
        have hz : R = ⟨#[]⟩ := by rw [HP.out]; exact if_neg (fun h => h1 h.1)
        rw [hz]
        exact ⟨rfl, HB.out⟩
end Go.Proofs.YtcbmfkgekhadkaaGreatDoor
