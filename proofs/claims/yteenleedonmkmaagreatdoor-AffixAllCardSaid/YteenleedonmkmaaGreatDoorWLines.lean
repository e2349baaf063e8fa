/- strings.Cut at a line's end; the landed eachLine, answer by contract. -/
import Derived.Test.YteenleedonmkmaaGreatDoorWRead
import Derived.BigQuiet
namespace Go.Proofs.YteenleedonmkmaaGreatDoor
open Go Go.RowKit Go.Lib

/-- What Cut answers. -/
def CutE (s : ByteArray) (e : Ending) : Prop := ∃ a b f, e = .returned (.tuple #[.string a, .string b, .bool f]) ∧ a.data.toList = s.data.toList.takeWhile (· ≠ 10) ∧ b.data.toList = (s.data.toList.dropWhile (· ≠ 10)).tail

set_option maxRecDepth 100000 in
set_option maxHeartbeats 1000000 in
theorem wcutl_any (s : ByteArray) (w : World) (hs : s.size ≤ 1000000000) :
    Calls Tryz.prog 49 #[.string s, .string ⟨#[10]⟩] w fun e w' => CutE s e ∧ Below w.heap.size w w' := by
  have CI := Lib.hid (Tryz.stringslite_Index_one s 10)
  have hsl : s.data.toList.length = s.size := (Lib.size_eq s).symm
  by_cases hm : (10 : UInt8) ∈ s.data.toList
  · obtain ⟨c1, c2, c3⟩ := cut10 hm
    rw [idx10_some hm] at CI
    obtain ⟨k, hk⟩ : ∃ k, k = (s.data.toList.takeWhile (· ≠ 10)).length := ⟨_, rfl⟩
    rw [← hk] at CI c1 c2 c3
    have hx : (s.extract 0 k).data.toList = s.data.toList.takeWhile (· ≠ 10) := by
      rw [ByteArray.data_extract, Array.toList_extract]
      show (s.data.toList.drop 0).take (k - 0) = _
      rw [List.drop_zero, Nat.sub_zero, c1]
    have hy : (s.extract (k + 1) s.size).data.toList = (s.data.toList.dropWhile (· ≠ 10)).tail := by
      rw [ByteArray.data_extract, Array.toList_extract]
      show (s.data.toList.drop (k + 1)).take (s.size - (k + 1)) = _
      rw [List.take_of_length_le (by rw [List.length_drop, Lib.size_eq]; exact Nat.le_refl _), c2]
    have HE := Lib.hid (show CutE s (.returned (.tuple #[.string (s.extract 0 k), .string (s.extract (k + 1) s.size), .bool true])) from ⟨_, _, _, rfl, hx, hy⟩)
    have k0 : (0 : Int) ≤ k := by omega
    have k1 : (k : Int) ≤ s.size := by omega
    have k2 : (0 : Int) ≤ (k : Int) + 1 := by omega
    have k3 : (k : Int) + 1 ≤ s.size := by omega
    have k4 : (0 : Int) ≤ ((k + 1 : Nat) : Int) := by omega
    have k5 : ((k + 1 : Nat) : Int) ≤ s.size := by omega
    have wk : IntKind.i64.wrap ((k : Int) + 1) = ((k + 1 : Nat) : Int) := by rw [IntWalk.i64_in _ (by omega)]; omega
    have wk0 : IntKind.i64.wrap (k : Int) = (k : Int) := by rw [IntWalk.i64_in _ (by omega)]
    clear hm hk c1 c2 c3 hx hy hsl
    go_enter Tryz.func49, Tryz.ntmps49
    go_upto_region 2 with (go_at_call 72; refine (CI.out _).mono ?_; rintro e w2 ⟨rfl, rfl⟩)
    go_upto_region 3 with fail
    go_quiet (fail)
    go_wp2_with fail
    go_ret3
    exact ⟨HE.out, below_drewN (Below.refl _ _) _⟩
  · obtain ⟨c1, c2⟩ := all10 hm
    rw [idx10_none hm] at CI
    have HE := Lib.hid (show CutE s (.returned (.tuple #[.string s, .string ⟨#[]⟩, .bool false])) from ⟨_, _, _, rfl, c1.symm, by rw [c2]; rfl⟩)
    clear hm c1 c2 hsl
    go_enter Tryz.func49, Tryz.ntmps49
    go_wp2_with (go_at_call 72; refine (CI.out _).mono ?_; rintro e w2 ⟨rfl, rfl⟩)
    go_ret3
    exact ⟨HE.out, Below.refl _ _⟩
set_option maxRecDepth 100000 in
set_option maxHeartbeats 1000000 in
theorem wcut_any (s : ByteArray) (w : World) (hs : s.size ≤ 1000000000) :
    Calls Tryz.prog 25 #[.string s, .string ⟨#[10]⟩] w fun e w' => CutE s e ∧ Below w.heap.size w w' := by
  have C := Lib.hid (wcutl_any s w hs)
  go_enter Tryz.func25, Tryz.ntmps25
  go_wp2_with (go_at_call 49; refine C.out.mono ?_)
  rintro e w1 ⟨⟨a, b, f, rfl, ha, hb⟩, hbw⟩
  have HA := Lib.hid (And.intro ha (And.intro hb hbw))
  clear ha hb hbw C
  go_wp2_with fail
  go_ret3
  exact ⟨⟨a, b, f, rfl, HA.out.1, HA.out.2.1⟩, HA.out.2.2⟩

/-- What eachLine has done: the file behind some lines, of which what is answered is the whole's. -/
def EachAt (w0 w : World) (HA : Nat) (L : List UInt8) : Prop := ∃ d k, RdAt w0 w HA d k ∧ k ≤ 1000000000 ∧ endA d = endA (readA rd0 1 (linesL L))
/-- What holds ahead of a line. -/
structure MidE (w0 w : World) (HA : Nat) (L S : List UInt8) (b : Bool) : Prop where
  ex : ∃ d k, RdAt w0 w HA d k ∧ AtsOk d ∧ k + S.length ≤ L.length ∧ readA rd0 1 (linesL L) = readA d (k + 1) (linesL S) ∧ b = !bigB d
theorem MidE.fin {w0 w : World} {HA : Nat} {L S : List UInt8} {b : Bool} (h : MidE w0 w HA L S b) (hb : b = false ∨ S = []) (hL : L.length ≤ 1000000000) : EachAt w0 w HA L := by
  obtain ⟨d, k, h1, h2, h3, h4, h5⟩ := h.ex
  refine ⟨d, k, h1, by omega, ?_⟩
  rw [h4]
  rcases hb with rfl | rfl
  · have hbig : bigB d = true := by cases hc : bigB d with | true => rfl | false => rw [hc] at h5; cases h5
    unfold bigB at hbig
    rw [decide_eq_true_eq] at hbig
    have e1 := endA_big (k + 1) (linesL S) hbig
    have e2 := endA_big (d := d) 0 [] hbig
    rw [e1]; exact e2
  · rfl

set_option maxRecDepth 100000 in
set_option maxHeartbeats 1000000 in
theorem weach_any (w0 w : World) (HA : Nat) (s : ByteArray) (h : RdAt w0 w HA rd0 0) (hs : s.size ≤ 1000000000) (hT : Lib.Utf8Tabs 1 2 w0) :
    Calls Tryz.prog 11 #[.string s, .func (.func 12) #[.pointer (some ⟨HA, 0, none⟩)] #[]] w fun e w' => e = .returned (.tuple #[]) ∧ EachAt w0 w' HA s.data.toList := by
  obtain ⟨L, hL⟩ : ∃ L, L = s.data.toList := ⟨_, rfl⟩
  have hLs : L.length = s.size := by rw [hL]; exact (Lib.size_eq s).symm
  rw [← hL]
  have H0 := Lib.hid (show MidE w0 w HA L s.data.toList true from ⟨rd0, 0, h, ⟨rfl, fun n hn => by simp [rd0] at hn⟩, by rw [← hL]; omega, by rw [← hL], by decide⟩)
  have HT := Lib.hid hT
  have HLs := Lib.hid (show L.length ≤ 1000000000 by omega)
  clear hL hLs h hT
  go_enter Tryz.func11, Tryz.ntmps11
  go_wp2_with fail
  go_loopg [0, 4, 5, 6, 7] s.size (fun g sv bv _ _ _ wr => ∃ (S : ByteArray) (b : Bool), S.size = g ∧ sv = .string S ∧ bv = .bool b ∧ g ≤ 1000000000 ∧ Hid (MidE w0 wr HA L S.data.toList b))
  case atStart => exact ⟨s, true, rfl, rfl, rfl, hs, H0⟩
  case round =>
    obtain ⟨S, b, hSg, rfl, rfl, hg, HM⟩ := hrel
    cases b with
    | false =>
      have HF := Lib.hid (HM.out.fin (.inl rfl) HLs.out)
      clear HM
      go_wp2_with fail
      go_end0
      exact ⟨rfl, HF.out⟩
    | true =>
      have htl : S.toList = S.data.toList := ByteArray.toList_eq S
      have hsz : S.data.toList.length = S.size := (Lib.size_eq S).symm
      by_cases h0 : S.data.toList = []
      · have HF := Lib.hid (HM.out.fin (.inr h0) HLs.out)
        have hnb : S.toList.isEmpty = true := by rw [htl, h0]; rfl
        clear HM htl hsz h0
        go_wp2_with fail
        go_end0
        exact ⟨rfl, HF.out⟩
      · have hnb : S.toList.isEmpty = false := by rw [htl, List.isEmpty_eq_false_iff]; exact h0
        have CC := Lib.hid (wcut_any S wr (by omega))
        have HS := Lib.hid (And.intro h0 (And.intro hsz hSg))
        have hlp : 0 < S.data.toList.length := List.length_pos_iff.2 h0
        clear htl h0 hsz
        go_wp2_with (go_at_call 25; refine CC.out.mono ?_)
        rintro e w1 ⟨⟨a, r, f, rfl, ha, hr⟩, hb1⟩
        obtain ⟨d, k, h1, h2, h3, h4, h5⟩ := HM.out.ex
        have hbig : bigB d = false := by cases hc : bigB d with | false => rfl | true => rw [hc] at h5; cases h5
        have hbb := hbig
        unfold bigB at hbb
        rw [decide_eq_false_iff_not] at hbb
        have hal : a.size ≤ S.size := by
          rw [Lib.size_eq, ha, ← HS.out.2.1]
          exact (List.takeWhile_sublist _).length_le
        have hrl : r.size < S.size := by
          rw [Lib.size_eq, hr, ← HS.out.2.1]
          have := (List.dropWhile_sublist (fun x : UInt8 => decide (x ≠ 10)) (l := S.data.toList)).length_le
          rw [List.length_tail]
          omega
        have CD := Lib.hid (wread_any w0 w1 HA d k a (h1.keep hb1) h2 (by omega) (by omega) (by have := HLs.out; omega) (by omega) HT.out)
        obtain ⟨ds, hds⟩ : ∃ x, x = stepA d (k + 1) a.data.toList := ⟨_, rfl⟩
        rw [← hds] at CD
        have HN := Lib.hid (show ∀ wx, RdAt w0 wx HA ds (k + 1) → MidE w0 wx HA L r.data.toList (!bigB ds) from fun wx hx =>
          ⟨ds, k + 1, hx, hds ▸ h2.step (Nat.succ_pos k), by
            have h6 : r.data.toList.length = r.size := (Lib.size_eq r).symm
            have h7 := HS.out.2.1
            omega, by
            rw [h4, linesL_split _ HS.out.1, ← ha, ← hr, hds]
            rfl, rfl⟩)
        have HZ := Lib.hid (show r.size < gk by have := HS.out.2.2; omega)
        obtain ⟨bb, hbb2⟩ : ∃ b, b = !bigB ds := ⟨_, rfl⟩
        rw [← hbb2] at CD HN
        clear ha hr hb1 h1 h2 h3 h4 h5 hbig hbb hal hrl hds hbb2 HM CC hlp
        go_wp2_with (go_at_call 12; refine CD.out.mono ?_)
        rintro e w2 ⟨rfl, h6⟩
        have HM2 := Lib.hid (HN.out w2 h6)
        clear h6 CD HN
        go_wp2_with fail
        go_roundg r.size
        case measure => have := HZ.out; omega
        case rel => exact ⟨r, bb, rfl, rfl, rfl, by have := HZ.out; omega, HM2⟩
end Go.Proofs.YteenleedonmkmaaGreatDoor
