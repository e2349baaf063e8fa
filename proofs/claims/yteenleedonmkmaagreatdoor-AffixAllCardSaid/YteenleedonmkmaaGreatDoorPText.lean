/- The document's Text and Check of chapter 10 by contract. -/
import Derived.Test.YteenleedonmkmaaGreatDoorPParse
import Derived.Test.YteenleedonmkmaaGreatDoorPSame
import Derived.Test.YteenleedonmkmaaGreatDoorPApply
import Derived.Test.YteenleedonmkmaaGreatDoorMOne
import Derived.Test.YteenleedonmkmaaGreatDoorNRefText
import Derived.Deep.RegionHeld3
namespace Go.Proofs.YteenleedonmkmaaGreatDoor
open Go Go.RowKit Go.Lib

theorem rbytes9 (w : World) (c : Int) : Calls Tryz.prog 24 #[.int .i64 c] w fun e w' => e = .returned (.string ⟨(ptB c).toArray⟩) ∧ Below w.heap.size w w' := by
  have := rbytes_any c w
  rwa [show bytesOf c = ⟨(ptB c).toArray⟩ by
    unfold bytesOf ptB
    split
    · cases Utf8.encode c; simp
    · rfl] at this
theorem rtext9_any (w : World) (v : Value) (l : List It) (h : ItemsAt w v l) (hl : l.length ≤ 12) (hs : ∀ it ∈ l, it.set.length ≤ 2000) :
    Calls Tryz.prog 48 #[v] w fun e w' => e = .returned (.string (textG l)) ∧ Below w.heap.size w w' :=
  rtext_any w v l h hl hs rbytes9 fun wx s hs => (rparse9_any wx s hs).mono fun _ _ ⟨v, he, hi, hb⟩ => ⟨v, he, hi.at, hb⟩

theorem textG_len {l : List It} (hl : l.length ≤ 12) (hs : ∀ it ∈ l, it.set.length ≤ 2000) : (textG l).size ≤ 96200 := by
  unfold textG
  split
  · show (ptL (textC l)).toArray.size ≤ _
    rw [List.size_toArray]
    have h1 : ∀ cs : List Int, (ptL cs).length ≤ 4 * cs.length := by
      intro cs
      induction cs with
      | nil => simp [ptL]
      | cons c cs ih =>
        have h2 : (ptB c).length ≤ 4 := by
          unfold ptB
          split
          · exact enc_len c
          · simp
        show (ptB c ++ ptL cs).length ≤ _
        rw [List.length_append, List.length_cons]
        omega
    have h3 : ∀ l : List It, (∀ it ∈ l, it.set.length ≤ 2000) → (textC l).length ≤ l.length * 2003 := by
      intro l
      induction l with
      | nil => intro _; simp [textC]
      | cons it l ih =>
        intro hs
        have h4 := ih fun x hx => hs x (List.mem_cons_of_mem _ hx)
        have h5 := hs it (List.mem_cons_self ..)
        have h6 : (itemC it).length ≤ it.set.length + 3 := by
          unfold itemC
          split
          · simp
          split
          · omega
          · simp only [List.length_cons, List.length_append, List.length_nil]
            split <;> simp <;> omega
        rw [show textC (it :: l) = itemC it ++ textC l by simp [textC], List.length_append, List.length_cons]
        omega
    have h7 := h1 (textC l)
    have h8 := h3 l hs
    have h9 : l.length * 2003 ≤ 12 * 2003 := Nat.mul_le_mul_right _ hl
    omega
  · show (#[] : Array UInt8).size ≤ _
    simp
theorem or0L_len (s : ByteArray) : (or0L s).length ≤ s.size + 1 := by
  unfold or0L
  split
  · simp
  · rw [Lib.size_eq]; omega
theorem line_len (r : Ru) (t : List UInt8) : (lineL r t).length ≤ r.strip.size + r.add.size + t.length + 20 := by
  have h1 := or0L_len r.strip
  have h2 := or0L_len r.add
  unfold lineL
  cases r.pre <;> cases r.cross <;> simp [pfx, sfx] <;> omega
/-- A rule's line, as it is put together. -/
theorem line_eq (p c : Bool) (f : Int) (S A T : ByteArray) (st ad : ByteArray) (co : List It) (hS : S.data.toList = or0L st) (hA : A.data.toList = or0L ad) (F : ByteArray) (hF : F.data.toList = [UInt8.ofNat f.toNat]) :
    ((if p then (⟨#[80, 70, 88, 32]⟩ : ByteArray) else ⟨#[83, 70, 88, 32]⟩) ++ F ++ ⟨#[32]⟩ ++ (if c then (⟨#[89, 32]⟩ : ByteArray) else ⟨#[78, 32]⟩) ++ S ++ ⟨#[32]⟩ ++ A ++ ⟨#[32]⟩ ++ T) = ⟨(lineL ⟨p, f, c, st, ad, co⟩ T.data.toList).toArray⟩ := by
  apply ByteArray.ext
  apply Array.toList_inj.1
  simp only [ByteArray.data_append, Array.toList_append, hS, hA, hF]
  unfold lineL
  cases p <;> cases c <;> simp [pfx, sfx]

theorem parseR_few {s : ByteArray} {q : Ru} (h : parseR s = some q) (hs : s.size ≤ 100000) : q.cond.length ≤ 100000 ∧ ∀ it ∈ q.cond, it.set.length ≤ 100000 := by
  unfold parseR at h
  split at h
  · rename_i a f c x y z hw
    have hz := (wordsL_mem s.data.toList z (by rw [hw]; simp)).2
    unfold parse6 at h
    split at h
    · split at h
      · rename_i u v l hx hy hl
        simp only [Option.some.injEq] at h
        subst h
        unfold parseS at hl
        split at hl
        · cases hl
        · rename_i cs hcs
          have h1 := (codesB_says hcs).2
          obtain ⟨g1, _, _, g4⟩ := parseC_says hl
          have h2 : s.data.toList.length = s.size := (Lib.size_eq s).symm
          have h3 : (⟨z.toArray⟩ : ByteArray).data.toList.length = z.length := by simp
          exact ⟨by dsimp only; omega, fun it hit => by have := (g1 it hit).2.2; omega⟩
      · cases h
    · cases h
  · cases h
/-- A text, or 0. -/
def or0B (s : ByteArray) : ByteArray := ⟨(or0L s).toArray⟩

set_option maxRecDepth 100000 in
set_option maxHeartbeats 4000000 in
theorem rtext10_any (w : World) (v : Value) (r : Ru) (h : RuAt w v r) (hf : FewR r) (f1 : -9223372036854775808 ≤ r.flag) (f2 : r.flag ≤ 9223372036854775807) :
    Calls Tryz.prog 23 #[v] w fun e w' => e = .returned (.string (textR r)) ∧ Below w.heap.size w w' := by
  have h0 := h
  obtain ⟨A, cap, rfl, hi⟩ := h
  obtain ⟨n, hn⟩ : ∃ n, n = r.cond.length := ⟨_, rfl⟩
  rw [← hn] at h0 hi ⊢
  obtain ⟨X, hX⟩ : ∃ X, X = textR r := ⟨_, rfl⟩
  rw [← hX]
  obtain ⟨t, ht⟩ : ∃ t, t = textG r.cond := ⟨_, rfl⟩
  have htl : t.size ≤ 96200 := by rw [ht]; exact textG_len hf.items hf.sets
  have hba := (Below.refl w.heap.size w).alloc (Nat.le_refl _) (.cells #[.bool r.pre, .int .i64 r.flag, .bool r.cross, .string r.strip, .string r.add, .slice A n cap] /-t-/36)
  have HB := Lib.hid hba
  have H0 := Lib.hid h0
  have HF := Lib.hid hf
  have TX := Lib.hid (fun wx (hb : Below w.heap.size w wx) => rtext9_any wx _ r.cond (hi.keep hb) hf.items hf.sets)
  rw [← ht] at TX
  by_cases hr : 0 ≤ r.flag ∧ r.flag ≤ 127
  · obtain ⟨k, hk⟩ : ∃ k : Nat, r.flag = k := ⟨r.flag.toNat, by omega⟩
    have hk7 : k < 128 := by omega
    obtain ⟨F, hF⟩ : ∃ F : ByteArray, F.data.toList = [UInt8.ofNat k] := ⟨⟨#[UInt8.ofNat k]⟩, rfl⟩
    have hF1 : F.size = 1 := by rw [Lib.size_eq, hF]; rfl
    obtain ⟨S3, hS3⟩ : ∃ S : ByteArray, S = or0B r.strip := ⟨_, rfl⟩
    obtain ⟨S4, hS4⟩ : ∃ S : ByteArray, S = or0B r.add := ⟨_, rfl⟩
    have l3 : S3.size ≤ 300 := by rw [hS3]; unfold or0B; rw [ba_size]; have := or0L_len r.strip; have := hf.strip; omega
    have l4 : S4.size ≤ 300 := by rw [hS4]; unfold or0B; rw [ba_size]; have := or0L_len r.add; have := hf.add; omega
    obtain ⟨pre, flag, cross, strip, add, cond⟩ := r
    dsimp only at hk
    subst hk
    have LE := line_eq pre cross (k : Int) S3 S4 t strip add cond (by rw [hS3]; rfl) (by rw [hS4]; rfl) F (by rw [hF]; rfl)
    obtain ⟨Z, hZ⟩ : ∃ Z : ByteArray, Z = ⟨(lineL ⟨pre, k, cross, strip, add, cond⟩ t.data.toList).toArray⟩ := ⟨_, rfl⟩
    rw [← hZ] at LE
    have hZl : Z.size ≤ 100000 := by
      rw [hZ, ba_size]
      have h1 := line_len ⟨pre, k, cross, strip, add, cond⟩ t.data.toList
      have h2 := hf.strip
      have h3 := hf.add
      have h4 : t.data.toList.length = t.size := (Lib.size_eq t).symm
      dsimp only at h1 h2 h3
      omega
    have hXZ : X = if parseR Z = some ⟨pre, k, cross, strip, add, cond⟩ then Z else ⟨#[]⟩ := by
      rw [hX, hZ, ht]
      unfold textR
      dsimp only
      by_cases hp : parseR ⟨(lineL ⟨pre, k, cross, strip, add, cond⟩ (textG cond).data.toList).toArray⟩ = some ⟨pre, k, cross, strip, add, cond⟩
      · rw [if_pos ⟨hr.1, hr.2, hp⟩, if_pos hp]
      · rw [if_neg (fun h => hp h.2.2), if_neg hp]
    have HXZ := Lib.hid hXZ
    have HZL := Lib.hid hZl
    have PZ := Lib.hid (fun wx => rparse10_any wx Z hZl)
    have cv := conv_new (w.alloc (.cells #[.bool pre, .int .i64 k, .bool cross, .string strip, .string add, .slice A n cap] /-t-/36)) [k] F 1 rfl (by simp; omega) (by simpa using hF)
    simp only [List.map_cons, List.map_nil] at cv
    rw [World.size_alloc] at cv
    dsimp only at hS3 hS4
    subst hS3
    subst hS4
    dsimp only at H0 HB TX HF
    have hbb : ∀ wx, Below (w.alloc (.cells #[.bool pre, .int .i64 k, .bool cross, .string strip, .string add, .slice A n cap] /-t-/36)).heap.size (w.alloc (.cells #[.bool pre, .int .i64 k, .bool cross, .string strip, .string add, .slice A n cap] /-t-/36)) wx → wx.cell? ⟨w.heap.size, 3, none⟩ = some (.string strip) ∧ wx.cell? ⟨w.heap.size, 4, none⟩ = some (.string add) ∧ wx.cell? ⟨w.heap.size, 5, none⟩ = some (.slice A n cap) := fun wx hb => by
      have := box6 hb
      exact ⟨this.2.2.2.1, this.2.2.2.2.1, this.2.2.2.2.2⟩
    have BX := Lib.hid hbb
    have hW1 : Below w.heap.size w (w.alloc (.cells #[.bool pre, .int .i64 k, .bool cross, .string strip, .string add, .slice A n cap] /-t-/36)) := hba
    have hS0 : ∀ m, Below (w.alloc (.cells #[.bool pre, .int .i64 k, .bool cross, .string strip, .string add, .slice A n cap] /-t-/36)).heap.size (w.alloc (.cells #[.bool pre, .int .i64 k, .bool cross, .string strip, .string add, .slice A n cap] /-t-/36)) (((w.alloc (.cells #[.bool pre, .int .i64 k, .bool cross, .string strip, .string add, .slice A n cap] /-t-/36)).alloc (.cells #[.int .u8 (k : Int)] /-t-/5)).drewN m) := fun m => below_drewN ((Below.refl _ _).alloc (Nat.le_refl _) _) m
    have HS0 := Lib.hid (show (((w.alloc (.cells #[.bool pre, .int .i64 k, .bool cross, .string strip, .string add, .slice A n cap] /-t-/36)).alloc (.cells #[.int .u8 (k : Int)] /-t-/5)).drew).cell? ⟨w.heap.size, 3, none⟩ = some (.string strip) ∧ (((w.alloc (.cells #[.bool pre, .int .i64 k, .bool cross, .string strip, .string add, .slice A n cap] /-t-/36)).alloc (.cells #[.int .u8 (k : Int)] /-t-/5)).drew).cell? ⟨w.heap.size, 4, none⟩ = some (.string add) ∧ (((w.alloc (.cells #[.bool pre, .int .i64 k, .bool cross, .string strip, .string add, .slice A n cap] /-t-/36)).alloc (.cells #[.int .u8 (k : Int)] /-t-/5)).drew).cell? ⟨w.heap.size, 5, none⟩ = some (.slice A n cap) ∧ Hid (Below (w.alloc (.cells #[.bool pre, .int .i64 k, .bool cross, .string strip, .string add, .slice A n cap] /-t-/36)).heap.size (w.alloc (.cells #[.bool pre, .int .i64 k, .bool cross, .string strip, .string add, .slice A n cap] /-t-/36)) (((w.alloc (.cells #[.bool pre, .int .i64 k, .bool cross, .string strip, .string add, .slice A n cap] /-t-/36)).alloc (.cells #[.int .u8 (k : Int)] /-t-/5)).drew)) from
      ⟨(hbb _ (hS0 1)).1, (hbb _ (hS0 1)).2.1, (hbb _ (hS0 1)).2.2, Lib.hid (hS0 1)⟩)
    have COR := Lib.hid (fun wx s (hx : wx.cell? ⟨w.heap.size, 3, none⟩ = some (.string strip) ∧ wx.cell? ⟨w.heap.size, 4, none⟩ = some (.string add) ∧ wx.cell? ⟨w.heap.size, 5, none⟩ = some (.slice A n cap) ∧ Hid (Below (w.alloc (.cells #[.bool pre, .int .i64 k, .bool cross, .string strip, .string add, .slice A n cap] /-t-/36)).heap.size (w.alloc (.cells #[.bool pre, .int .i64 k, .bool cross, .string strip, .string add, .slice A n cap] /-t-/36)) wx)) =>
      (show Calls Tryz.prog 47 #[.string s] wx fun e w' => e = .returned (.string (or0B s)) ∧ (w'.cell? ⟨w.heap.size, 3, none⟩ = some (.string strip) ∧ w'.cell? ⟨w.heap.size, 4, none⟩ = some (.string add) ∧ w'.cell? ⟨w.heap.size, 5, none⟩ = some (.slice A n cap) ∧ Hid (Below (w.alloc (.cells #[.bool pre, .int .i64 k, .bool cross, .string strip, .string add, .slice A n cap] /-t-/36)).heap.size (w.alloc (.cells #[.bool pre, .int .i64 k, .bool cross, .string strip, .string add, .slice A n cap] /-t-/36)) w')) from
        (ror0_any s wx).mono fun e w' ⟨he, hw⟩ => ⟨he, hw ▸ hx⟩))
    have CT := Lib.hid (fun wx (hx : wx.cell? ⟨w.heap.size, 3, none⟩ = some (.string strip) ∧ wx.cell? ⟨w.heap.size, 4, none⟩ = some (.string add) ∧ wx.cell? ⟨w.heap.size, 5, none⟩ = some (.slice A n cap) ∧ Hid (Below (w.alloc (.cells #[.bool pre, .int .i64 k, .bool cross, .string strip, .string add, .slice A n cap] /-t-/36)).heap.size (w.alloc (.cells #[.bool pre, .int .i64 k, .bool cross, .string strip, .string add, .slice A n cap] /-t-/36)) wx)) =>
      (show Calls Tryz.prog 48 #[.slice A n cap] wx fun e w' => e = .returned (.string t) ∧ (w'.cell? ⟨w.heap.size, 3, none⟩ = some (.string strip) ∧ w'.cell? ⟨w.heap.size, 4, none⟩ = some (.string add) ∧ w'.cell? ⟨w.heap.size, 5, none⟩ = some (.slice A n cap) ∧ Hid (Below (w.alloc (.cells #[.bool pre, .int .i64 k, .bool cross, .string strip, .string add, .slice A n cap] /-t-/36)).heap.size (w.alloc (.cells #[.bool pre, .int .i64 k, .bool cross, .string strip, .string add, .slice A n cap] /-t-/36)) w')) from
        (TX.out wx (hW1.trans (hx.2.2.2.out.mono hW1.size))).mono fun e w' ⟨he, hb⟩ => by
          have hb3 := hx.2.2.2.out.trans (hb.mono hx.2.2.2.out.size)
          exact ⟨he, (hbb w' hb3).1, (hbb w' hb3).2.1, (hbb w' hb3).2.2, Lib.hid hb3⟩))
    obtain ⟨r0, hr0⟩ : ∃ r0 : Ru, r0 = ⟨pre, k, cross, strip, add, cond⟩ := ⟨_, rfl⟩
    have H0r := Lib.hid (show RuAt w (.agg #[.bool pre, .int .i64 k, .bool cross, .string strip, .string add, .slice A n cap]) r0 by rw [hr0]; exact H0.out)
    have HFr := Lib.hid (show r0.cond.length ≤ 12 ∧ ∀ it ∈ r0.cond, it.set.length ≤ 2000 by rw [hr0]; exact ⟨HF.out.items, HF.out.sets⟩)
    have HXr := Lib.hid (show X = if parseR Z = some r0 then Z else ⟨#[]⟩ by rw [hr0]; exact HXZ.out)
    obtain ⟨W0, hW0⟩ : ∃ W0, W0 = w.alloc (.cells #[.bool pre, .int .i64 k, .bool cross, .string strip, .string add, .slice A n cap] /-t-/36) := ⟨_, rfl⟩
    have HW0 := Lib.hid hW0
    have HS1 := Lib.hid (show (((w.alloc (.cells #[.bool pre, .int .i64 k, .bool cross, .string strip, .string add, .slice A n cap] /-t-/36)).alloc (.cells #[.int .u8 (k : Int)] /-t-/5)).drew).cell? ⟨w.heap.size, 3, none⟩ = some (.string strip) ∧ (((w.alloc (.cells #[.bool pre, .int .i64 k, .bool cross, .string strip, .string add, .slice A n cap] /-t-/36)).alloc (.cells #[.int .u8 (k : Int)] /-t-/5)).drew).cell? ⟨w.heap.size, 4, none⟩ = some (.string add) ∧ (((w.alloc (.cells #[.bool pre, .int .i64 k, .bool cross, .string strip, .string add, .slice A n cap] /-t-/36)).alloc (.cells #[.int .u8 (k : Int)] /-t-/5)).drew).cell? ⟨w.heap.size, 5, none⟩ = some (.slice A n cap) ∧ Hid (Below W0.heap.size W0 (((w.alloc (.cells #[.bool pre, .int .i64 k, .bool cross, .string strip, .string add, .slice A n cap] /-t-/36)).alloc (.cells #[.int .u8 (k : Int)] /-t-/5)).drew)) from by
      rw [hW0]; exact HS0.out)
    rw [← hW0] at COR CT
    clear hf hr h0 hi hn hX ht hba hF hZ hZl hXZ hbb f1 f2 hW1 hS0 TX HS0 hW0 hr0 HXZ H0 HF
    cases pre <;> cases cross
    all_goals
      simp only [if_true, Bool.false_eq_true, if_false] at LE
      go_enter Tryz.func23, Tryz.ntmps23
      go_upto_region 10 with fail
      generalize hP : (_ : ByteArray) ++ F ++ (_ : ByteArray) ++ (_ : ByteArray) = P at LE ⊢
      have hP8 : P.size = 8 := by rw [← hP]; simp only [ByteArray.size_append, hF1]; rfl
      have q1 : ¬ 9223372036854775807 < P.size + (or0B strip).size := by omega
      have q2 : ¬ 9223372036854775807 < P.size + (or0B strip).size + 1 := by omega
      have q3 : ¬ 9223372036854775807 < P.size + (or0B strip).size + 1 + (or0B add).size := by omega
      have q4 : ¬ 9223372036854775807 < P.size + (or0B strip).size + 1 + (or0B add).size + 1 := by omega
      have q5 : ¬ 9223372036854775807 < P.size + (or0B strip).size + 1 + (or0B add).size + 1 + t.size := by omega
      clear hP hP8 l3 l4 htl cv
      go_region_held3 (fun wx => wx.cell? ⟨w.heap.size, 3, none⟩ = some (.string strip) ∧ wx.cell? ⟨w.heap.size, 4, none⟩ = some (.string add) ∧ wx.cell? ⟨w.heap.size, 5, none⟩ = some (.slice A n cap) ∧ Hid (Below W0.heap.size W0 wx))
        (first | exact HS1.out | assumption)
        (first
          | (go_at_call 47; refine (COR.out _ _ (by assumption)).mono ?_; rintro e w5 ⟨rfl, hs⟩)
          | (go_at_call 48; refine (CT.out _ (by assumption)).mono ?_; rintro e w5 ⟨rfl, hs⟩))
      have hs5 : Hid (Below W0.heap.size W0 w5) := by
        have hh : w5.cell? ⟨w.heap.size, 3, none⟩ = some (.string strip) ∧ w5.cell? ⟨w.heap.size, 4, none⟩ = some (.string add) ∧ w5.cell? ⟨w.heap.size, 5, none⟩ = some (.slice A n cap) ∧ Hid (Below W0.heap.size W0 w5) := by assumption
        exact hh.2.2.2
      clear q1 q2 q3 q4 q5 LE
      go_wp2_with (go_at_call 16; refine (PZ.out _).mono ?_)
      rintro e w6 ⟨v6, rfl, hr6, hb6⟩
      have hB6 := hs5.out.trans (hb6.mono hs5.out.size)
      have hW6 : Below w.heap.size w w6 := HB.out.trans ((HW0.out ▸ hB6).mono HB.out.size)
      have bxr := box6 (HW0.out ▸ hB6)
      cases hp : parseR Z with
      | none =>
        rw [hp] at hr6
        obtain ⟨D, dc, rfl, hi6⟩ := hr6
        have HX := Lib.hid (show X = ⟨#[]⟩ from HXr.out.trans (if_neg (by rw [hp]; simp)))
        have HB6 := Lib.hid (fun o => hW6.alloc hW6.size o)
        clear hi6 hb6 hB6 hW6 bxr hp
        go_wp2_with fail
        go_ret
        rw [HX.out]
        exact ⟨rfl, HB6.out _⟩
      | some q =>
        rw [hp] at hr6
        have hq : RuAt w6 v6 q := hr6
        obtain ⟨g1, g2⟩ := parseR_few hp HZL.out
        have hXq := HXr.out
        rw [hp] at hXq
        obtain ⟨qp, qf, qc, qs, qa, ql⟩ := q
        obtain ⟨D, dc, rfl, -⟩ := id hq
        dsimp only at g1 g2 hq ⊢
        obtain ⟨dn, hdn⟩ : ∃ d, d = ql.length := ⟨_, rfl⟩
        rw [← hdn] at hq ⊢
        have hba6 := (Below.refl w6.heap.size w6).alloc (Nat.le_refl _) (.cells #[.bool qp, .int .i64 qf, .bool qc, .string qs, .string qa, .slice D dn dc] /-t-/36)
        have hW7 := hW6.trans (hba6.mono hW6.size)
        have SM := Lib.hid (rsame10_any _ _ _ r0 ⟨qp, qf, qc, qs, qa, ql⟩ (H0r.out.keep hW7) (hq.keep hba6) (by have := HFr.out.1; omega) g1 (fun it hit => by have := HFr.out.2 it hit; omega) g2)
        have HB7 := Lib.hid hW7
        obtain ⟨b0, b1, b2, b3, b4, b5⟩ := box6 (HW0.out ▸ (hB6.trans (hba6.mono hB6.size)))
        clear bxr
        clear hr6 hq hb6 hB6 hW6 hW7 hba6 hp g1 g2 hdn
        by_cases hx : (⟨qp, qf, qc, qs, qa, ql⟩ : Ru) = r0
        · rw [if_pos (by rw [hx])] at hXq
          have HX := Lib.hid hXq
          rw [decide_eq_true hx.symm] at SM
          clear hx hXq
          go_wp2_with (go_at_call 17; refine SM.out.mono ?_)
          rintro e w8 ⟨rfl, hb8⟩
          have HB8 := Lib.hid (HB7.out.trans (hb8.mono HB7.out.size))
          clear hb8
          go_wp2_with fail
          go_ret
          rw [HX.out]
          exact ⟨rfl, HB8.out⟩
        · rw [if_neg (fun e => hx (Option.some.inj e))] at hXq
          have HX := Lib.hid hXq
          rw [decide_eq_false (fun e => hx e.symm)] at SM
          clear hx hXq
          go_wp2_with (go_at_call 17; refine SM.out.mono ?_)
          rintro e w8 ⟨rfl, hb8⟩
          have HB8 := Lib.hid (HB7.out.trans (hb8.mono HB7.out.size))
          clear hb8
          go_wp2_with fail
          go_ret
          rw [HX.out]
          exact ⟨rfl, HB8.out⟩
  · have hz := Lib.hid (show X = ⟨#[]⟩ from hX.trans (if_neg fun h => hr ⟨h.1, h.2.1⟩))
    have hcs : r.flag < 0 ∨ (¬ r.flag < 0 ∧ 127 < r.flag) := by omega
    obtain ⟨pre, flag, cross, strip, add, cond⟩ := r
    dsimp only at hcs HB ⊢
    clear hr h0 hi hn hX ht htl hba H0 HF TX hf f1 f2
    rcases hcs with h1 | ⟨h1, h2⟩
    all_goals
      go_enter Tryz.func23, Tryz.ntmps23
      go_wp2_with fail
      go_ret
      rw [hz.out]
      exact ⟨rfl, HB.out⟩
end Go.Proofs.YteenleedonmkmaaGreatDoor
