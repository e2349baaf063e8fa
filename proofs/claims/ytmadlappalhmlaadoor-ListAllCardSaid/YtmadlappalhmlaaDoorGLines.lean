/- strings.Cut at a line's end, by contract. -/
import Derived.Test.YtmadlappalhmlaaDoorGPlain
import Derived.Test.YtmadlappalhmlaaDoorShelf
import Derived.Test.YtmadlappalhmlaaDoorNGrow
import Derived.OwnWalk
import Derived.BigQuiet
namespace Go.Proofs.YtmadlappalhmlaaDoor
open Go Go.RowKit Go.Lib

/-- What Cut answers. -/
def CutE (s : ByteArray) (e : Ending) : Prop := ∃ a b f, e = .returned (.tuple #[.string a, .string b, .bool f]) ∧ a.data.toList = s.data.toList.takeWhile (· ≠ 10) ∧ b.data.toList = (s.data.toList.dropWhile (· ≠ 10)).tail

set_option maxRecDepth 100000 in
set_option maxHeartbeats 1000000 in
theorem wcutl_any (s : ByteArray) (w : World) (hs : s.size ≤ 1000000000) :
    Calls Tryd.prog 28 #[.string s, .string ⟨#[10]⟩] w fun e w' => CutE s e ∧ Below w.heap.size w w' := by
  have CI := Lib.hid (Tryd.stringslite_Index_one s 10)
  have hsl : s.data.toList.length = s.size := (Lib.size_eq s).symm
  by_cases hm : (10 : UInt8) ∈ s.data.toList
  · obtain ⟨c1, c2, c3⟩ := cut10 hm
    rw [idx10_some hm] at CI
    obtain ⟨k, hk⟩ : ∃ k, k = (s.data.toList.takeWhile (· ≠ 10)).length := ⟨_, rfl⟩
    rw [← hk] at CI c1 c2 c3
    have hx : (s.extract 0 k).data.toList = s.data.toList.takeWhile (· ≠ 10) := by
      rw [ByteArray.data_extract, Array.toList_extract]
      show (s.data.toList.drop 0).take (k - 0) = _
      rw [List.drop_zero, Nat.sub_zero, c1]
    have hy : (s.extract (k + 1) s.size).data.toList = (s.data.toList.dropWhile (· ≠ 10)).tail := by
      rw [ByteArray.data_extract, Array.toList_extract]
      show (s.data.toList.drop (k + 1)).take (s.size - (k + 1)) = _
      rw [List.take_of_length_le (by rw [List.length_drop, Lib.size_eq]; exact Nat.le_refl _), c2]
    have HE := Lib.hid (show CutE s (.returned (.tuple #[.string (s.extract 0 k), .string (s.extract (k + 1) s.size), .bool true])) from ⟨_, _, _, rfl, hx, hy⟩)
    have k0 : (0 : Int) ≤ k := by omega
    have k1 : (k : Int) ≤ s.size := by omega
    have k2 : (0 : Int) ≤ (k : Int) + 1 := by omega
    have k3 : (k : Int) + 1 ≤ s.size := by omega
    have k4 : (0 : Int) ≤ ((k + 1 : Nat) : Int) := by omega
    have k5 : ((k + 1 : Nat) : Int) ≤ s.size := by omega
    have wk : IntKind.i64.wrap ((k : Int) + 1) = ((k + 1 : Nat) : Int) := by rw [IntWalk.i64_in _ (by omega)]; omega
    have wk0 : IntKind.i64.wrap (k : Int) = (k : Int) := by rw [IntWalk.i64_in _ (by omega)]
    clear hm hk c1 c2 c3 hx hy hsl
    go_enter Tryd.func28, Tryd.ntmps28
    go_upto_region 2 with (go_at_call 37; refine (CI.out _).mono ?_; rintro e w2 ⟨rfl, rfl⟩)
    go_upto_region 3 with fail
    go_quiet (fail)
    go_wp2_with fail
    go_ret3
    exact ⟨HE.out, below_drewN (Below.refl _ _) _⟩
  · obtain ⟨c1, c2⟩ := all10 hm
    rw [idx10_none hm] at CI
    have HE := Lib.hid (show CutE s (.returned (.tuple #[.string s, .string ⟨#[]⟩, .bool false])) from ⟨_, _, _, rfl, c1.symm, by rw [c2]; rfl⟩)
    clear hm c1 c2 hsl
    go_enter Tryd.func28, Tryd.ntmps28
    go_wp2_with (go_at_call 37; refine (CI.out _).mono ?_; rintro e w2 ⟨rfl, rfl⟩)
    go_ret3
    exact ⟨HE.out, Below.refl _ _⟩
set_option maxRecDepth 100000 in
set_option maxHeartbeats 1000000 in
theorem wcut_any (s : ByteArray) (w : World) (hs : s.size ≤ 1000000000) :
    Calls Tryd.prog 17 #[.string s, .string ⟨#[10]⟩] w fun e w' => CutE s e ∧ Below w.heap.size w w' := by
  have C := Lib.hid (wcutl_any s w hs)
  go_enter Tryd.func17, Tryd.ntmps17
  go_wp2_with (go_at_call 28; refine C.out.mono ?_)
  rintro e w1 ⟨⟨a, b, f, rfl, ha, hb⟩, hbw⟩
  have HA := Lib.hid (And.intro ha (And.intro hb hbw))
  clear ha hb hbw C
  go_wp2_with fail
  go_ret3
  exact ⟨⟨a, b, f, rfl, HA.out.1, HA.out.2.1⟩, HA.out.2.2⟩

end Go.Proofs.YtmadlappalhmlaaDoor
