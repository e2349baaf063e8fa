/- abecedaryref13.Put by contract. -/
import Derived.Test.YtkabdieenijnlaaIBase
import Derived.Deep.RegionLaw
import Derived.Deep.CutRange
import Derived.Deep.DeepCutAuto
import Derived.Laws.AppendOwnNone
import Derived.Sort.Walk0
import Derived.Deep.AppendLies
namespace Go.Proofs.Ytkabdieenijnlaa
open Go Go.RowKit Go.Lib

theorem putL_at (s : ByteArray) : ∀ (l : List ByteArray) (k : Nat), k ≤ l.length → (∀ (j : Nat) a, j < k → l[j]? = some a → ltS a s) → (∀ a, l[k]? = some a → ¬ ltS a s) → putL l s = if l[k]? = some s then l else l.take k ++ s :: l.drop k
  | [], 0, _, _, _ => by simp [putL]
  | a :: l, 0, _, _, h2 => by
    have := h2 a rfl
    unfold putL
    rw [if_neg this]
    by_cases e : a = s <;> simp [e]
  | a :: l, k + 1, hk, h1, h2 => by
    have := h1 0 a (by omega) rfl
    unfold putL
    rw [if_pos this, putL_at s l k (by simpa using hk) (fun j b hj hb => h1 (j + 1) b (by omega) (by simpa using hb)) (fun b hb => h2 b (by simpa using hb))]
    simp only [List.getElem?_cons_succ, List.take_succ_cons, List.drop_succ_cons, List.cons_append]
    split <;> rfl
theorem less_eq (a s : ByteArray) : Op.bytesLess a.toList s.toList = decide (ltS a s) := by
  rw [bytesLess_eq, ByteArray.toList_eq, ByteArray.toList_eq]
  rfl
theorem eq_eq (a s : ByteArray) : (a.toList == s.toList) = decide (a = s) := by
  rw [Bool.eq_iff_iff, beq_iff_eq, decide_eq_true_eq, ByteArray.toList_eq, ByteArray.toList_eq]
  constructor
  · intro h
    have : a.data = s.data := Array.toList_inj.1 h
    cases a; cases s; simp at this; rw [this]
  · intro h; rw [h]
/-- A slice that reads as texts, nil where there is none. -/
def StrsP (w : World) (v : Value) (l : List ByteArray) : Prop :=
  (l = [] ∧ v = .slice none 0 0) ∨ ∃ b off cap, v = .slice (some ⟨b, off, none⟩) l.length cap ∧ b < w.heap.size ∧ l.length ≤ cap ∧ cap ≤ maxLen ∧ ∀ (i : Nat) s, l[i]? = some s → w.cell? ⟨b, off + i, none⟩ = some (.string s)
theorem StrsP.at_ {w : World} {v : Value} {l : List ByteArray} (h : StrsP w v l) : StrsAt w v l := by
  rcases h with ⟨rfl, rfl⟩ | h
  · exact .inl ⟨rfl, _, _, rfl⟩
  · exact .inr h
theorem Try.infosZ9 : (Try.prog.info? 9).map (fun i => (i.zero, i.size, i.bytes)) = some (some (.string ⟨#[]⟩), 1, 16) := by kernel_rfl
theorem own_strsP {w : World} {B n : Nat} {v : Value} {l : List ByteArray} (h : w.ownsRow B 9 1 v n (l.map Value.string)) (hn : n = l.length) : StrsP w v l := by
  subst hn
  have hc := @World.ownsRow.cells _ _ _ _ _ _ _ h
  rcases h.2 with ⟨rfl, h0⟩ | ⟨g, cap, cur, rfl, hb, hg, hnc, hcm, _⟩
  · exact .inl ⟨List.eq_nil_of_length_eq_zero h0, rfl⟩
  · refine .inr ⟨g, 0, cap, rfl, (Array.getElem?_eq_some_iff.1 hg).1, hnc, hcm, fun i c hi => ?_⟩
    rw [Nat.zero_add, ← add9]
    exact hc (g := g) rfl i _ (by rw [List.getElem?_map, hi]; rfl)
theorem str_one (l : List ByteArray) : ∀ u ∈ l.map Value.string, u.oneCell' = true := by
  intro u hu
  obtain ⟨x, _, rfl⟩ := List.mem_map.1 hu
  rfl
set_option maxRecDepth 100000 in
set_option maxHeartbeats 4000000 in
theorem put13_any (w : World) (v : Value) (l : List ByteArray) (s : ByteArray) (h : StrsP w v l) (hl : l.length ≤ 1000000000) :
    Calls Try.prog 30 #[v, .string s] w fun e w' => ∃ v', e = .returned v' ∧ StrsP w' v' (putL l s) ∧ Below w.heap.size w w' := by
  obtain ⟨i0, hi, hz0, hz1, hz2⟩ := info_parts Try.infosZ9
  rcases h with ⟨rfl, rfl⟩ | ⟨b, off, cap, rfl, hb, hlc, hcm, hc⟩
  · go_enter Try.func30, Try.ntmps30
    go_wp2
    go_loopg [5] 0 (fun gh i wr => gh = 0 ∧ i = .int .i64 0 ∧ wr = w)
    case atStart => exact ⟨rfl, rfl, rfl⟩
    case round =>
      obtain ⟨hgh, rfl, rfl⟩ := hrel
      go_wp2_with (first
        | (at_builtin; refine wpList_append_own_none rfl _ _ 22 rfl wr.heap.size 9 i0 1 Try.underlying22 hi _ _ _ rfl HO1.out rfl ?_)
        | (at_builtin; refine wpList_append_own _ rfl _ _ 22 rfl wr.heap.size 9 i0 (.string ⟨#[]⟩) 1 16 Try.underlying22 hi hz0 hz1 hz2 rfl (by decide) _ _ _ rfl (World.ownsRow_nil _ _ _ _) ⟨wr.heap.size, 0, none⟩ 1 1 [.string s] rfl rfl (World.news_of_block (cs := #[.string s]) (t := 9) (fr := (0, 0)) (World.alloc_heap_new wr _)) (fun u hu => by simp at hu; subst hu; rfl) (by unfold maxLen; omega) (by omega) (by simp) ?_; intro v1 w1 ho1 hg1 hn1; have HO1 := Lib.hid ho1; have HG1 := Lib.hid (And.intro hg1 hn1); clear ho1 hg1 hn1))
      go_ret
      have hb1 : Below wr.heap.size wr w1 := ((Below.refl _ wr).alloc (Nat.le_refl _) _).grown HG1.out.1 (by simp) (fun z hz => by cases hz)
      exact ⟨v1, rfl, own_strsP (l := [s]) (n := 1) (by simpa using HO1.out) rfl, hb1⟩
  · obtain ⟨n, hn⟩ : ∃ n, n = l.length := ⟨_, rfl⟩
    rw [← hn] at hl hlc ⊢
    have HC := Lib.hid hc
    have HN := Lib.hid hn
    have HB := Lib.hid (And.intro hb (And.intro hlc hcm))
    clear hc hn hb
    go_enter Try.func30, Try.ntmps30
    go_wp2_with fail
    go_loopg [5] n (fun gh i wr => ∃ k : Nat, k + gh = n ∧ i = .int .i64 k ∧ wr = w ∧ ∀ (j : Nat) a, j < k → l[j]? = some a → ltS a s)
    case atStart => exact ⟨0, by omega, rfl, rfl, fun j a hj _ => by omega⟩
    case round =>
      obtain ⟨k, hk, rfl, rfl, hlow⟩ := hrel
      by_cases hlt : k < n
      · obtain ⟨a, ha⟩ : ∃ a, l[k]? = some a := ⟨l[k]'(by have := HN.out; omega), List.getElem?_eq_getElem _⟩
        have hcell := HC.out k a ha
        have HA := Lib.hid (And.intro ha hlow)
        clear ha hlow
        by_cases hs : ltS a s
        · have hs' : Op.bytesLess a.toList s.toList = true := by rw [less_eq]; exact decide_eq_true hs
          have HL2 : Hid (∀ (j : Nat) a, j < k + 1 → l[j]? = some a → ltS a s) := Lib.hid fun j x hj hx => by
            by_cases e : j = k
            · subst e
              have h1 := HA.out.1
              rw [hx] at h1
              cases h1
              exact hs
            · exact HA.out.2 j x (by omega) hx
          go_wp2_with fail
          go_roundg (gk - 1)
          case measure => omega
          case rel => exact ⟨k + 1, by omega, by go_num, rfl, HL2.out⟩
        · have hs' : Op.bytesLess a.toList s.toList = false := by rw [less_eq]; exact decide_eq_false hs
          have hat := putL_at s l k (by have := HN.out; omega) HA.out.2 (fun x hx => by have h1 := HA.out.1; rw [hx] at h1; cases h1; exact hs)
          by_cases he : a = s
          · subst he
            have he' : (a.toList == a.toList) = true := by simp
            rw [if_pos HA.out.1] at hat
            have HP := Lib.hid hat
            clear hat
            go_wp2_with fail
            go_ret
            exact ⟨_, rfl, by rw [HP.out]; exact .inr ⟨b, off, cap, by rw [← HN.out]; rfl, HB.out.1, by rw [← HN.out]; exact HB.out.2.1, HB.out.2.2, HC.out⟩, Below.refl _ _⟩
          · have he' : (a.toList == s.toList) = false := by rw [eq_eq]; exact decide_eq_false he
            rw [if_neg (fun hh => he (by have h1 := HA.out.1; rw [hh] at h1; exact (Option.some.inj h1).symm))] at hat
            have HP := Lib.hid hat
            clear hat
            have hkc : (k : Int) ≤ (cap : Int) := by omega
            have HN3 : Hid (((l.drop k).map Value.string).length = (n - k) * 1 ∧ ((l.take k).map Value.string).length = k * 1 ∧ ∀ j u, ((l.take k).map Value.string)[j]? = some u → wr.cell? ((⟨b, off, none⟩ : Addr).add j) = some u) := Lib.hid ⟨by rw [List.length_map, List.length_drop, ← HN.out]; omega, by rw [List.length_map, List.length_take, ← HN.out]; omega, fun j u hj => by
              rw [List.getElem?_map] at hj
              obtain ⟨x, hx, rfl⟩ := Option.map_eq_some_iff.1 hj
              rw [Addr.add_lit]
              rw [List.getElem?_take] at hx
              split at hx
              · exact HC.out j x hx
              · cases hx⟩
            have HD3 : Hid (∀ W', Below wr.heap.size wr W' → ∀ j u, ((l.drop k).map Value.string)[j]? = some u → W'.cell? ((⟨b, off + k, none⟩ : Addr).add j) = some u) := Lib.hid fun W' hb' j u hj => by
              rw [List.getElem?_map] at hj
              obtain ⟨x, hx, rfl⟩ := Option.map_eq_some_iff.1 hj
              rw [Addr.add_lit, Nat.add_assoc]
              rw [List.getElem?_drop] at hx
              exact (cell_old (p := ⟨b, off + (k + j), none⟩) hb' HB.out.1).trans (HC.out _ x hx)
            go_wp2_with (first
              | (at_builtin; refine wpList_append_own _ rfl _ _ 22 rfl wr.heap.size 9 i0 (.string ⟨#[]⟩) 1 16 Try.underlying22 hi hz0 hz1 hz2 rfl (by decide) _ _ _ rfl HO2.out ⟨b, off + k, none⟩ (n - k) (cap - k) ((l.drop k).map Value.string) rfl HN3.out.1 (HW2.out.2) (str_one _) (by unfold maxLen; have := HB.out; omega) (by omega) HW2.out.1 ?_; intro v3 w3 ho3 hg3 hn3; have HO3 := Lib.hid ho3; have HG3 := Lib.hid hg3; clear ho3 hg3 hn3)
              | (at_builtin; refine wpList_append_own _ rfl _ _ 22 rfl wr.heap.size 9 i0 (.string ⟨#[]⟩) 1 16 Try.underlying22 hi hz0 hz1 hz2 rfl (by decide) _ _ _ rfl HA1.out.1 ⟨w1.heap.size, 0, none⟩ 1 1 [.string s] rfl rfl (World.news_of_block (cs := #[.string s]) (t := 9) (fr := (0, 0)) (World.alloc_heap_new w1 _)) (fun u hu => by simp at hu; subst hu; rfl) (by unfold maxLen; omega) (by omega) HA1.out.2 ?_; intro v2 w2 ho2 hg2 hn2; have hb2 : Below wr.heap.size wr w2 := (HB1.out.alloc HB1.out.size _).grown hg2 HA1.out.2 (fun z hz => (HO1.out.lt z hz).1); have HW2 : Hid (wr.heap.size ≤ w2.heap.size ∧ ∀ j u, ((l.drop k).map Value.string)[j]? = some u → w2.cell? ((⟨b, off + k, none⟩ : Addr).add j) = some u) := Lib.hid ⟨hb2.size, HD3.out w2 hb2⟩; have HB2 := Lib.hid hb2; clear hb2; have HO2 := Lib.hid ho2; have HG2 := Lib.hid hg2; clear ho2 hg2 hn2)
              | (at_builtin; refine wpList_append_own _ rfl _ _ 22 rfl wr.heap.size 9 i0 (.string ⟨#[]⟩) 1 16 Try.underlying22 hi hz0 hz1 hz2 rfl (by decide) _ _ _ rfl (World.ownsRow_nil _ _ _ _) ⟨b, off, none⟩ k cap ((l.take k).map Value.string) rfl HN3.out.2.1 HN3.out.2.2 (str_one _) (by unfold maxLen; omega) (by omega) (Nat.le_refl _) ?_; intro v1 w1 ho1 hg1 hn1; have HA1 : Hid ((w1.alloc (.cells #[.string s] 9)).ownsRow wr.heap.size 9 1 v1 (0 + k) ([] ++ (l.take k).map Value.string) ∧ wr.heap.size ≤ (w1.alloc (.cells #[.string s] 9)).heap.size) := Lib.hid ⟨own_keep9 ho1 ((Below.refl _ _).alloc (Nat.le_refl _) _), by rw [World.size_alloc]; have := hg1.size; omega⟩; have HB1 := Lib.hid (show Below wr.heap.size wr w1 from (Below.refl _ wr).grown hg1 (Nat.le_refl _) (fun z hz => by cases hz)); have HO1 := Lib.hid ho1; have HG1 := Lib.hid hg1; clear ho1 hg1 hn1))
            go_ret
            have hb3 : Below wr.heap.size wr w3 := HB2.out.grown HG3.out HB2.out.size (fun z hz => (HO2.out.lt z hz).1)
            refine ⟨v3, rfl, ?_, hb3⟩
            rw [HP.out]
            refine own_strsP (B := wr.heap.size) (n := 0 + k + 1 + (n - k)) ?_ (by rw [List.length_append, List.length_cons, List.length_take, List.length_drop, ← HN.out]; omega)
            have := HO3.out
            simpa using this
      · obtain rfl : k = n := by omega
        have hat := putL_at s l k (by have := HN.out; omega) hlow (fun x hx => by have := (List.getElem?_eq_some_iff.1 hx).1; have := HN.out; omega)
        rw [if_neg (fun hh => by have := (List.getElem?_eq_some_iff.1 hh).1; have := HN.out; omega)] at hat
        have HP := Lib.hid hat
        clear hat hlow
        have hkc : (k : Int) ≤ (cap : Int) := by omega
        have HDN : Hid (∀ (W' : World) (ad : Addr) j u, ((l.drop k).map Value.string)[j]? = some u → W'.cell? (ad.add j) = some u) := Lib.hid fun W' ad j u hj => by
          rw [List.drop_of_length_le (by have := HN.out; omega)] at hj
          simp at hj
        have HN3 : Hid (((l.drop k).map Value.string).length = 0 * 1 ∧ ((l.take k).map Value.string).length = k * 1 ∧ ∀ j u, ((l.take k).map Value.string)[j]? = some u → wr.cell? ((⟨b, off, none⟩ : Addr).add j) = some u) := Lib.hid ⟨by rw [List.length_map, List.length_drop, ← HN.out]; omega, by rw [List.length_map, List.length_take, ← HN.out]; omega, fun j u hj => by
          rw [List.getElem?_map] at hj
          obtain ⟨x, hx, rfl⟩ := Option.map_eq_some_iff.1 hj
          rw [Addr.add_lit]
          rw [List.getElem?_take] at hx
          split at hx
          · exact HC.out j x hx
          · cases hx⟩
        have HD3 : Hid (∀ W', Below wr.heap.size wr W' → ∀ j u, ((l.drop k).map Value.string)[j]? = some u → W'.cell? ((⟨b, off + k, none⟩ : Addr).add j) = some u) := Lib.hid fun W' hb' j u hj => by
          rw [List.getElem?_map] at hj
          obtain ⟨x, hx, rfl⟩ := Option.map_eq_some_iff.1 hj
          rw [Addr.add_lit, Nat.add_assoc]
          rw [List.getElem?_drop] at hx
          exact (cell_old (p := ⟨b, off + (k + j), none⟩) hb' HB.out.1).trans (HC.out _ x hx)
        go_wp2_with (first
          | (at_builtin; refine wpList_append_own _ rfl _ _ 22 rfl wr.heap.size 9 i0 (.string ⟨#[]⟩) 1 16 Try.underlying22 hi hz0 hz1 hz2 rfl (by decide) _ _ _ rfl HO2.out (if cap = k then ⟨b, off, none⟩ else ⟨b, off + k, none⟩) 0 (cap - k) ((l.drop k).map Value.string) (by show Value.slice (if cap = k then some (⟨b, off, none⟩ : Addr) else some ⟨b, off + k, none⟩) 0 (cap - k) = _; split <;> rfl) HN3.out.1 (HDN.out w2 _) (str_one _) (by unfold maxLen; have := HB.out; omega) (by omega) HW2.out.1 ?_; intro v3 w3 ho3 hg3 hn3; have HO3 := Lib.hid ho3; have HG3 := Lib.hid hg3; clear ho3 hg3 hn3)
          | (at_builtin; refine wpList_append_own _ rfl _ _ 22 rfl wr.heap.size 9 i0 (.string ⟨#[]⟩) 1 16 Try.underlying22 hi hz0 hz1 hz2 rfl (by decide) _ _ _ rfl HA1.out.1 ⟨w1.heap.size, 0, none⟩ 1 1 [.string s] rfl rfl (World.news_of_block (cs := #[.string s]) (t := 9) (fr := (0, 0)) (World.alloc_heap_new w1 _)) (fun u hu => by simp at hu; subst hu; rfl) (by unfold maxLen; omega) (by omega) HA1.out.2 ?_; intro v2 w2 ho2 hg2 hn2; have hb2 : Below wr.heap.size wr w2 := (HB1.out.alloc HB1.out.size _).grown hg2 HA1.out.2 (fun z hz => (HO1.out.lt z hz).1); have HW2 : Hid (wr.heap.size ≤ w2.heap.size ∧ ∀ j u, ((l.drop k).map Value.string)[j]? = some u → w2.cell? ((⟨b, off + k, none⟩ : Addr).add j) = some u) := Lib.hid ⟨hb2.size, HD3.out w2 hb2⟩; have HB2 := Lib.hid hb2; clear hb2; have HO2 := Lib.hid ho2; have HG2 := Lib.hid hg2; clear ho2 hg2 hn2)
          | (at_builtin; refine wpList_append_own _ rfl _ _ 22 rfl wr.heap.size 9 i0 (.string ⟨#[]⟩) 1 16 Try.underlying22 hi hz0 hz1 hz2 rfl (by decide) _ _ _ rfl (World.ownsRow_nil _ _ _ _) ⟨b, off, none⟩ k cap ((l.take k).map Value.string) rfl HN3.out.2.1 HN3.out.2.2 (str_one _) (by unfold maxLen; omega) (by omega) (Nat.le_refl _) ?_; intro v1 w1 ho1 hg1 hn1; have HA1 : Hid ((w1.alloc (.cells #[.string s] 9)).ownsRow wr.heap.size 9 1 v1 (0 + k) ([] ++ (l.take k).map Value.string) ∧ wr.heap.size ≤ (w1.alloc (.cells #[.string s] 9)).heap.size) := Lib.hid ⟨own_keep9 ho1 ((Below.refl _ _).alloc (Nat.le_refl _) _), by rw [World.size_alloc]; have := hg1.size; omega⟩; have HB1 := Lib.hid (show Below wr.heap.size wr w1 from (Below.refl _ wr).grown hg1 (Nat.le_refl _) (fun z hz => by cases hz)); have HO1 := Lib.hid ho1; have HG1 := Lib.hid hg1; clear ho1 hg1 hn1))
        all_goals
          go_ret
          have hb3 : Below wr.heap.size wr w3 := HB2.out.grown HG3.out HB2.out.size (fun z hz => (HO2.out.lt z hz).1)
          refine ⟨v3, rfl, ?_, hb3⟩
          rw [HP.out]
          refine own_strsP (B := wr.heap.size) (n := 0 + k + 1 + 0) ?_ (by rw [List.length_append, List.length_cons, List.length_take, List.length_drop, ← HN.out]; omega)
          have := HO3.out
          simpa using this
end Go.Proofs.Ytkabdieenijnlaa
