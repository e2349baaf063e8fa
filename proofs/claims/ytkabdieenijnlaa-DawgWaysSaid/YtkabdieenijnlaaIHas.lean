/- Auto.Has by contract. -/
import Derived.Test.YtkabdieenijnlaaINext
import Derived.Test.YtkabdieenijnlaaIBuilt
import Derived.Test.YtkabdieenijnlaaISem
import Derived.Laws.IdiomStrings
namespace Go.Proofs.Ytkabdieenijnlaa
open Go Go.RowKit Go.Lib Go.Shelf

set_option maxRecDepth 100000 in
set_option maxHeartbeats 2000000 in
theorem has_auto (w : World) (p : Nat) (g : GA) (st : Nat) (V : List Bs) (h : AutoAt w p g st) (hV : g.N[st]? = some V) (s : ByteArray) (hs : s.size ≤ 1000000000) :
    Calls Try.prog 12 #[.pointer (some ⟨p, 0, none⟩), .string s] w fun e w' => e = .returned (.bool (decide (s.data.toList ∈ V))) ∧ Below w.heap.size w w' := by
  have hsl : s.data.toList.length = s.size := size_toList s
  obtain ⟨fs, hL⟩ : ∃ L, L = s.data.toList := ⟨_, rfl⟩
  obtain ⟨n, hn⟩ : ∃ n, n = s.size := ⟨_, rfl⟩
  obtain ⟨C, hC⟩ : ∃ C, C = grownCap w s.size 0 5 := ⟨_, rfl⟩
  have hcv := run_bytes_of_string (P := Try.prog) w 9 40 5 s Try.underlying9 Try.underlying40 Try.underlying5
  rw [← hC, ← hn] at hcv
  obtain ⟨W1, hW1⟩ : ∃ W1, W1 = (w.drew.alloc (.cells (bytesRow s C) 5 ((bytesRow s C).size, (bytesRow s C).size + 1))) := ⟨_, rfl⟩
  rw [← hW1] at hcv
  have hb1 : Below w.heap.size w W1 := by rw [hW1]; exact (Below.refl _ _).drew.alloc (Nat.le_refl _) _
  have hblk : W1.heap[w.heap.size]? = some (.cells (bytesRow s C) 5 ((bytesRow s C).size, (bytesRow s C).size + 1)) := by rw [hW1]; exact World.alloc_heap_new w.drew _
  have hat : ∀ (wx : World), Below W1.heap.size W1 wx → ∀ j c, fs[j]? = some c → wx.cell? ⟨w.heap.size, j, none⟩ = some (.int .u8 (c.toNat : Int)) := fun wx hwx j c hc => by
    have hwx' := (hwx.block w.heap.size (Array.getElem?_eq_some_iff.1 hblk).1).trans hblk
    rw [cell_of_row _ w.heap.size j _ _ _ hwx']
    rw [hL] at hc
    have hj : j < s.data.size := by
      have := (List.getElem?_eq_some_iff.1 hc).1
      simpa using this
    rw [bytesRow_at s C j hj]
    have h2 : s.data.toList[j]? = s.data[j]? := Array.getElem?_toList
    rw [hc, Array.getElem?_eq_getElem hj] at h2
    rw [← Option.some.inj h2]
  obtain ⟨A, c, A', c', -, -, x2, -, -⟩ := h.mem
  rw [← hL] at hsl ⊢
  obtain ⟨ANS, hANS⟩ : ∃ b, b = decide (fs ∈ V) := ⟨_, rfl⟩
  rw [← hANS]
  have HANS := Lib.hid hANS
  have HAT := Lib.hid hat
  have HS1 := Lib.hid hb1
  have HH := Lib.hid (And.intro h (And.intro hV (show n = fs.length by rw [hn, hsl])))
  have hnb : n ≤ 1000000000 := by omega
  clear hL hsl hn hC hW1 hb1 hblk hat hs h hV hANS
  go_enter Try.func12, Try.ntmps12
  go_wp2_with fail
  go_loopg [5, 17] n (fun gh x y wr => ∃ k t : Nat, k + gh = n ∧ x = .int .i64 t ∧ y = .int .i64 k ∧ Hid (g.N[t]? = some (ends V (fs.take k)) ∧ Below W1.heap.size W1 wr))
  case atStart => exact ⟨0, st, by omega, rfl, rfl, Lib.hid ⟨HH.out.2.1, Below.refl _ _⟩⟩
  case round =>
    obtain ⟨k, t, hk, rfl, rfl, HK⟩ := hrel
    have hk0 : (0 : Int) ≤ k := by omega
    have hA := HH.out.1.keep (HS1.out.trans (HK.out.2.mono HS1.out.size))
    rcases Nat.eq_zero_or_pos gk with h0 | h0
    · have hkn : ¬ (k : Int) < n := by omega
      have hf := final_any wr p g st hA t
      have hfin := fin_ok hA.ok HK.out.1
      have he : ANS = g.fin (t : Int) := by
        rw [hfin, HANS.out, List.take_of_length_le (by have := HH.out.2.2; omega)]
        exact decide_eq_decide.2 (by rw [mem_ends, List.append_nil])
      rw [← he] at hf
      have CF := Lib.hid hf
      clear hf hfin he hA
      go_wp2_with (go_at_call 23; refine CF.out.mono ?_; rintro e w2 ⟨rfl, rfl⟩)
      go_ret
      exact ⟨rfl, HS1.out.trans (HK.out.2.mono HS1.out.size)⟩
    · have hkn : (k : Int) < n := by omega
      obtain ⟨b, hb⟩ : ∃ b, fs[k]? = some b := ⟨_, List.getElem?_eq_getElem (by have := HH.out.2.2; omega)⟩
      have hcell := HAT.out wr HK.out.2 k b hb
      have hnx := next_any wr p g st hA t b
      have hst := step_ok hA.ok HK.out.1 b
      have htk : fs.take (k + 1) = fs.take k ++ [b] := by rw [List.take_add_one, hb]; rfl
      have hends : ends V (fs.take (k + 1)) = tails b (ends V (fs.take k)) := by rw [htk, ends_app]; rfl
      cases hg : goes (g.out (t : Int)) b with
      | none =>
        rw [hg] at hnx hst
        dsimp only at hnx hst
        have he : ANS = false := by
          rw [HANS.out]
          refine decide_eq_false fun hm => ?_
          have h1 : fs = fs.take (k + 1) ++ fs.drop (k + 1) := (List.take_append_drop _ _).symm
          rw [h1] at hm
          have h2 := mem_ends.2 hm
          rw [hends, hst] at h2
          cases h2
        subst he
        have CX := Lib.hid hnx
        clear hg hnx hst htk hends hb hA
        go_wp2_with (go_at_call 22; refine CX.out.mono ?_; rintro e w2 ⟨rfl, hb2⟩; have HB2 := Lib.hid hb2; clear hb2)
        go_ret
        exact ⟨rfl, HS1.out.trans ((HK.out.2.trans (HB2.out.mono HK.out.2.size)).mono HS1.out.size)⟩
      | some t' =>
        rw [hg] at hnx hst
        dsimp only at hnx hst
        rw [← hends] at hst
        have CX := Lib.hid hnx
        have HST := Lib.hid hst.1
        clear hg hnx hst htk hends hb hA
        go_wp2_with (go_at_call 22; refine CX.out.mono ?_; rintro e w2 ⟨rfl, hb2⟩; have HB2 := Lib.hid (HK.out.2.trans (hb2.mono HK.out.2.size)); clear hb2)
        go_roundg (gk - 1)
        case measure => omega
        case rel => exact ⟨k + 1, t', by omega, rfl, by go_num, Lib.hid ⟨HST.out, HB2.out⟩⟩
end Go.Proofs.Ytkabdieenijnlaa
