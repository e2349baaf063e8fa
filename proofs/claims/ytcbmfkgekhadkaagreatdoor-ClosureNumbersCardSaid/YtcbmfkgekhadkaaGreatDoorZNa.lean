/- The document's Lines of chapter 11 by contract: a file cut at the byte 10. -/
import Derived.Test.YtcbmfkgekhadkaaGreatDoorZGb
import Derived.Test.YtcbmfkgekhadkaaGreatDoorZGd
import Derived.Test.YtcbmfkgekhadkaaGreatDoorZGa
import Derived.StillTailTactics
import Derived.Deep.CutRange
import Derived.Deep.DeepCutAuto
import Derived.Test.YtcbmfkgekhadkaaGreatDoorCodes
import Derived.Test.YtcbmfkgekhadkaaGreatDoorNNew
import Derived.Lib.Bytealg
namespace Go.Proofs.YtcbmfkgekhadkaaGreatDoor
section
open Go Go.RowKit Go.Lib

/-- What is cut off so far: lines done, the next one begins at a. -/
def LineAt (L : List UInt8) (done : List (List UInt8)) (a i : Nat) : Prop := a ≤ i ∧ i ≤ L.length ∧ linesL L = done ++ linesL (L.drop a) ∧ ∀ j, a ≤ j → j < i → L[j]? ≠ some 10
theorem LineAt.start (L : List UInt8) : LineAt L [] 0 0 := ⟨Nat.le_refl _, Nat.zero_le _, by simp, fun j _ h => absurd h (Nat.not_lt_zero _)⟩
theorem part_none10 {L : List UInt8} {a i : Nat} (h : ∀ j, a ≤ j → j < i → L[j]? ≠ some 10) : (10 : UInt8) ∉ (L.drop a).take (i - a) := by
  intro hm
  obtain ⟨j, hj, he⟩ := List.getElem_of_mem hm
  rw [List.length_take, List.length_drop] at hj
  refine h (a + j) (by omega) (by omega) ?_
  rw [List.getElem_take, List.getElem_drop] at he
  rw [List.getElem?_eq_getElem (by omega), he]
theorem LineAt.on {L : List UInt8} {done : List (List UInt8)} {a i : Nat} (h : LineAt L done a i) (hi : i < L.length) (hne : L[i]? ≠ some 10) : LineAt L done a (i + 1) :=
  ⟨by have := h.1; omega, hi, h.2.2.1, fun j h1 h2 => by
    rcases Nat.lt_or_ge j i with hj | hj
    · exact h.2.2.2 j h1 hj
    · obtain rfl : j = i := by omega
      exact hne⟩
theorem LineAt.cut {L : List UInt8} {done : List (List UInt8)} {a i : Nat} (h : LineAt L done a i) (hi : i < L.length) (he : L[i]? = some 10) : LineAt L (done ++ [(L.drop a).take (i - a)]) (i + 1) (i + 1) := by
  obtain ⟨h1, h2, h3, h4⟩ := h
  refine ⟨Nat.le_refl _, hi, ?_, fun j h5 h6 => by omega⟩
  have hs : L.drop a = (L.drop a).take (i - a) ++ 10 :: L.drop (i + 1) := by
    obtain ⟨_, hc⟩ := List.getElem?_eq_some_iff.1 he
    have hd : L.drop i = 10 :: L.drop (i + 1) := by rw [List.drop_eq_getElem_cons hi, hc]
    have := (List.take_append_drop (i - a) (L.drop a)).symm
    rwa [List.drop_drop, show a + (i - a) = i by omega, hd] at this
  rw [h3]
  conv => lhs; rw [hs]
  rw [linesL_app _ _ (part_none10 h4), List.append_assoc]
  rfl
theorem LineAt.fin {L : List UInt8} {done : List (List UInt8)} {a : Nat} (h : LineAt L done a L.length) : linesL L = if a < L.length then done ++ [(L.drop a).take (L.length - a)] else done := by
  obtain ⟨h1, h2, h3, h4⟩ := h
  by_cases ha : a < L.length
  · rw [if_pos ha]
    have hn := part_none10 h4
    rw [List.take_of_length_le (by rw [List.length_drop]; omega)] at hn ⊢
    rw [h3, linesL_one _ (by intro e; have := congrArg List.length e; rw [List.length_drop] at this; simp at this; omega) hn]
  · rw [if_neg ha, h3, List.drop_of_length_le (by omega)]
    simp [linesL]

/-- What holds ahead of a round of Lines. -/
def MidV (w wr : World) (v : Value) (L : List UInt8) (a i : Nat) : Prop :=
  ∃ done, LineAt L done a i ∧ done.length ≤ i ∧ wr.ownsRow w.heap.size 9 1 v done.length (wCells done) ∧ Below w.heap.size w wr

set_option maxRecDepth 100000 in
set_option maxHeartbeats 1000000 in
theorem rlines_any (w : World) (s : ByteArray) (hs : s.size ≤ 1000000000) :
    Calls Tryz.prog 29 #[.string s] w fun e w' => ∃ v, e = .returned v ∧ w'.ownsRow w.heap.size 9 1 v (linesL s.data.toList).length (wCells (linesL s.data.toList)) ∧ Below w.heap.size w w' := by
  obtain ⟨i1, hi1, hz10, hz11, hz12⟩ := info_parts Tryz.infosW9
  obtain ⟨L, hL⟩ : ∃ L, L = s.data.toList := ⟨_, rfl⟩
  have hLs : L.length = s.size := by rw [hL]; exact (Lib.size_eq s).symm
  rw [← hL]
  have HL := Lib.hid (And.intro hL hLs)
  have H0 := Lib.hid (show MidV w w (.slice none 0 0) L 0 0 from ⟨[], LineAt.start L, Nat.le_refl _, World.ownsRow_nil _ _ _ _, Below.refl _ _⟩)
  clear hL hLs
  have HOW := Lib.hid (fun (X : ByteArray) => (by intro u hu; simp only [List.mem_singleton] at hu; subst hu; rfl : ∀ u ∈ [Value.string X], u.oneCell' = true))
  go_enter Tryz.func29, Tryz.ntmps29
  go_wp2_with fail
  go_loopg [3, 4, 5] s.size (fun g v a i wr => ∃ aa k : Nat, k + g = s.size ∧ aa ≤ k ∧ a = .int .i64 aa ∧ i = .int .i64 k ∧ Hid (MidV w wr v L aa k))
  case atStart => exact ⟨0, 0, by omega, Nat.le_refl _, rfl, rfl, H0⟩
  case round =>
    obtain ⟨aa, k, hk, hak, rfl, rfl, HM⟩ := hrel
    obtain ⟨done, hc, hdl, hrow, hb⟩ := HM.out
    have hLs := HL.out.2
    have hrow2 := fun X : Value => hrow.alloc (.cells #[X] 9)
    have hb2 := fun X : Value => hb.alloc hb.size (.cells #[X] 9)
    have hdl2 : done.length ≤ 1000000000 := by omega
    have hk0 : (0 : Int) ≤ k := by omega
    have HR := Lib.hid (And.intro hrow (And.intro hb (And.intro hrow2 (And.intro hb2 (And.intro hc hdl)))))
    clear hdl hrow hb hrow2 hb2 HM
    rcases Nat.eq_zero_or_pos gk with h0 | h0
    · have hks : k = s.size := by omega
      subst hks
      have hz : ¬ ((s.size : Nat) : Int) < s.size := by omega
      have hfin := (show LineAt L done aa L.length from by rw [hLs]; exact hc).fin
      by_cases ha : aa < s.size
      · rw [if_pos (by omega)] at hfin
        have HF := Lib.hid hfin
        have ha1 : (0 : Int) ≤ aa := by omega
        have ha2 : (aa : Int) < s.size := by omega
        have ha3 : (aa : Int) ≤ s.size := by omega
        clear hc hfin hLs ha
        go_wp2_with (at_builtin; refine wpList_append_own _ rfl _ _ 29 rfl w.heap.size 9 i1 (.string ⟨#[]⟩) 1 16 Tryz.underlying29 hi1 hz10 hz11 hz12 rfl (by decide) _ _ _ rfl (HR.out.2.2.1 _) ⟨wr.heap.size, 0, none⟩ 1 1 [.string (s.extract aa s.size)] rfl rfl (news_row _ _ _) (HOW.out _) (by unfold maxLen; omega) (by omega) ((HR.out.2.2.2.1 (.string (s.extract aa s.size))).size) ?_)
        intro v' w4 hown4 hgrow4 _
        have HX := Lib.hid (And.intro (show w4.ownsRow w.heap.size 9 1 v' (linesL L).length (wCells (linesL L)) by
            rw [HF.out, List.length_append, show wCells (done ++ [(L.drop aa).take (L.length - aa)]) = wCells done ++ [.string (s.extract aa s.size)] by
              unfold wCells
              rw [List.map_append, ext_ba, HL.out.2, HL.out.1]
              rfl]
            exact hown4) ((HR.out.2.2.2.1 (.string (s.extract aa s.size))).grown hgrow4 (HR.out.2.2.2.1 _).size (fun z hz => (HR.out.1.lt z hz).1)))
        clear hown4 hgrow4
        go_wp2_with fail
        go_ret
        exact ⟨_, rfl, HX.out.1, HX.out.2⟩
      · rw [if_neg (by omega)] at hfin
        have HF := Lib.hid hfin
        have ha2 : ¬ (aa : Int) < s.size := by omega
        clear hc hfin hLs ha
        go_wp2_with fail
        go_ret
        exact ⟨_, rfl, by rw [HF.out]; exact HR.out.1, HR.out.2.1⟩
    · have hlt : (k : Int) < s.size := by omega
      obtain ⟨c, hcL⟩ : ∃ c, L[k]? = some c := ⟨_, List.getElem?_eq_getElem (by omega)⟩
      have hks2 : k < s.size := by omega
      have hget : s[k]'hks2 = c := by
        have h1 : L[k]? = s.data[k]? := by rw [HL.out.1, Array.getElem?_toList]
        rw [hcL] at h1
        have h2 : s.data[k]? = some (s.data[k]'hks2) := Array.getElem?_eq_getElem hks2
        rw [h2] at h1
        exact (Option.some.inj h1).symm
      by_cases h10 : c = 10
      · subst h10
        have HC := Lib.hid (hc.cut (by omega) hcL)
        have ha1 : (0 : Int) ≤ aa := by omega
        have ha2 : (aa : Int) ≤ k := by omega
        have ha3 : (k : Int) ≤ s.size := by omega
        have hb32 : ((s[k]'hks2).toNat) = 10 := by rw [hget]; rfl
        clear hc hcL hLs hget
        go_wp2_with (at_builtin; refine wpList_append_own _ rfl _ _ 29 rfl w.heap.size 9 i1 (.string ⟨#[]⟩) 1 16 Tryz.underlying29 hi1 hz10 hz11 hz12 rfl (by decide) _ _ _ rfl (HR.out.2.2.1 _) ⟨wr.heap.size, 0, none⟩ 1 1 [.string (s.extract aa k)] rfl rfl (news_row _ _ _) (HOW.out _) (by unfold maxLen; omega) (by omega) ((HR.out.2.2.2.1 (.string (s.extract aa k))).size) ?_)
        intro v' w4 hown4 hgrow4 _
        have HM2 := Lib.hid (show MidV w w4 v' L (k + 1) (k + 1) from
          ⟨done ++ [(L.drop aa).take (k - aa)], HC.out, by rw [List.length_append]; have := HR.out.2.2.2.2.2; show done.length + 1 ≤ _; omega, by
            rw [List.length_append, show wCells (done ++ [(L.drop aa).take (k - aa)]) = wCells done ++ [.string (s.extract aa k)] by
              unfold wCells
              rw [List.map_append, ext_ba, HL.out.1]
              rfl]
            exact hown4, (HR.out.2.2.2.1 _).grown hgrow4 (HR.out.2.2.2.1 _).size (fun z hz => (HR.out.1.lt z hz).1)⟩)
        clear hown4 hgrow4
        go_wp2_with fail
        go_roundg (gk - 1)
        case measure => omega
        case rel => exact ⟨k + 1, k + 1, by omega, Nat.le_refl _, by go_num, by go_num, HM2⟩
      · have HC := Lib.hid (hc.on (by omega) (by rw [hcL]; intro e; exact h10 (Option.some.inj e)))
        have hb32 : ¬ ((s[k]'hks2).toNat = 10) := by
          rw [hget]
          intro e
          exact h10 (UInt8.toNat_inj.1 e)
        have hb33 : (((s[k]'hks2).toNat : Int) == 10) = false := by simp; omega
        have HM2 := Lib.hid (show MidV w wr u3 L aa (k + 1) from ⟨done, HC.out, by have := HR.out.2.2.2.2.2; omega, HR.out.1, HR.out.2.1⟩)
        clear hc hcL hLs hget
        go_wp2_with fail
        go_roundg (gk - 1)
        case measure => omega
        case rel => exact ⟨aa, k + 1, by omega, by omega, rfl, by go_num, HM2⟩
end
section
open Go Go.RowKit Go.Lib

theorem ba_beqS (a b : ByteArray) : (a.toList == b.toList) = decide (a = b) := by
  rw [Bool.eq_iff_iff, beq_iff_eq, decide_eq_true_eq, ByteArray.toList_eq, ByteArray.toList_eq]
  constructor
  · intro h
    cases a; cases b
    simp only [ByteArray.mk.injEq]
    exact Array.toList_inj.1 h
  · intro h; rw [h]
end
section
open Go Go.RowKit Go.Lib

theorem rules_openV9 {w : World} {A : Option Addr} {n cap : Nat} {rs : List Ru} (h : RulesAt w (.slice A n cap) rs) : ∀ (k : Nat) r, rs[k]? = some r → ∃ b off, A = some ⟨b, off, none⟩ ∧ b < w.heap.size ∧ n ≤ cap ∧ RuCells w b (off + k * 6) r := by
  intro k r hk
  rcases h with ⟨rfl, _⟩ | ⟨b, off, c, e, h1, h2, h3, h4⟩
  · simp at hk
  · injection e with e1 e2 e3
    subst e1 e2 e3
    exact ⟨b, off, rfl, h1, h2, h4 k r hk⟩
theorem pairs_open {w : World} {A : Option Addr} {n cap : Nat} {ps : List (Int × Int)} (h : PairsAt w (.slice A n cap) ps) : ∀ (k : Nat) p, ps[k]? = some p → ∃ b off, A = some ⟨b, off, none⟩ ∧ b < w.heap.size ∧ n ≤ cap ∧ w.cell? ⟨b, off + k * 2, none⟩ = some (.int .i64 p.1) ∧ w.cell? ⟨b, off + k * 2 + 1, none⟩ = some (.int .i64 p.2) := by
  intro k p hk
  rcases h with ⟨rfl, _⟩ | ⟨b, off, c, e, h1, h2, h3, h4⟩
  · simp at hk
  · injection e with e1 e2 e3
    subst e1 e2 e3
    exact ⟨b, off, rfl, h1, h2, h4 k p hk⟩
theorem RuCells.at_ {w : World} {b o : Nat} {r : Ru} (h : RuCells w b o r) : ∃ A cap, w.cell? ⟨b, o, none⟩ = some (.bool r.pre) ∧ w.cell? ⟨b, o + 1, none⟩ = some (.int .i64 r.flag) ∧ w.cell? ⟨b, o + 2, none⟩ = some (.bool r.cross) ∧ w.cell? ⟨b, o + 3, none⟩ = some (.string r.strip) ∧ w.cell? ⟨b, o + 4, none⟩ = some (.string r.add) ∧ w.cell? ⟨b, o + 5, none⟩ = some (.slice A r.cond.length cap) ∧
    RuAt w (.agg #[.bool r.pre, .int .i64 r.flag, .bool r.cross, .string r.strip, .string r.add, .slice A r.cond.length cap]) r := by
  obtain ⟨h0, h1, h2, h3, h4, A, cap, h5, h6⟩ := h
  exact ⟨A, cap, h0, h1, h2, h3, h4, h5, A, cap, rfl, h6⟩
/-- Two boxes of two cells. -/
theorem box22 {w w' : World} {a b c d : Value} {t : TypeId} (hb : Below ((w.alloc (.cells #[a, b] t)).alloc (.cells #[c, d] t)).heap.size ((w.alloc (.cells #[a, b] t)).alloc (.cells #[c, d] t)) w') :
    (w'.cell? ⟨w.heap.size, 0, none⟩ = some a ∧ w'.cell? ⟨w.heap.size, 1, none⟩ = some b) ∧ w'.cell? ⟨w.heap.size + 1, 0, none⟩ = some c ∧ w'.cell? ⟨w.heap.size + 1, 1, none⟩ = some d := by
  have h2 := box2 hb
  rw [World.size_alloc] at h2
  exact ⟨box2 (((Below.refl _ _).alloc (Nat.le_refl _) _).trans (hb.mono (by rw [World.size_alloc (w.alloc _)]; omega))), h2⟩
end
section
open Go Go.RowKit Go.Lib

/-- What pair answers. -/
def PairE (e : Ending) (o : Option (Int × Int)) : Prop := e = .returned (.tuple #[.agg #[.int .i64 (o.getD (0, 0)).1, .int .i64 (o.getD (0, 0)).2], .bool o.isSome])
theorem PairE.none {e : Ending} {o : Option (Int × Int)} (h : o = Option.none) (he : e = .returned (.tuple #[.agg #[.int .i64 0, .int .i64 0], .bool false])) : PairE e o := by subst h; exact he
theorem pairL_head {ps : List (Int × Int)} {l : List UInt8} (h : l.take 5 ≠ caseW) : pairL ps l = none := by unfold pairL; rw [if_neg h]
theorem pairL_short {ps : List (Int × Int)} {l : List UInt8} (h : l.length < 6) : pairL ps l = none := by
  unfold pairL
  split
  · rw [List.drop_of_length_le (by omega)]; rfl
  · rfl
theorem pairL_codes {ps : List (Int × Int)} {l : List UInt8} (h : validD (l.drop 5) = false ∨ (codesL (l.drop 5)).length ≠ 2) : pairL ps l = none := by
  unfold pairL
  split
  · unfold codesB
    cases hv : validD (l.drop 5) with
    | false => rfl
    | true =>
      rw [if_pos rfl]
      rcases h with h | h
      · rw [hv] at h; cases h
      · unfold codesL at h
        rw [if_pos hv] at h
        split
        · rename_i g s hc
          rw [Option.some.inj hc] at h
          exact absurd rfl h
        · rfl
  · rfl
theorem pairL_two {ps : List (Int × Int)} {l : List UInt8} {g s : Int} (h5 : l.take 5 = caseW) (hv : validD (l.drop 5) = true) (hc : codesL (l.drop 5) = [g, s]) : pairL ps l = if okPair ps g s = true then some (g, s) else none := by
  unfold codesL at hc
  rw [if_pos hv] at hc
  unfold pairL codesB
  rw [if_pos h5, if_pos hv, hc]
theorem used_take {ps : List (Int × Int)} {k : Nat} {p : Int × Int} {c : Int} (h : ps[k]? = some p) : usedP (ps.take (k + 1)) c = (usedP (ps.take k) c || (p.1 == c || p.2 == c)) := by
  obtain ⟨hlt, he⟩ := List.getElem?_eq_some_iff.1 h
  unfold usedP
  rw [List.take_succ_eq_append_getElem hlt, he, List.any_append]
  simp
theorem used_in {ps : List (Int × Int)} {k : Nat} {p : Int × Int} {c : Int} (h : ps[k]? = some p) (hc : p.1 = c ∨ p.2 = c) : usedP ps c = true := by
  unfold usedP
  rw [List.any_eq_true]
  exact ⟨p, List.mem_of_getElem? h, by simpa using hc⟩
theorem v_own {w : World} {B n : Nat} {v : Value} {cs : List Int} (h : w.ownsRow B 3 1 v n (cs.map (Value.int .i64))) (hn : n = cs.length) : IntsAt w v cs := by
  subst hn
  have hadd : ∀ (g j : Nat), (⟨g, 0, none⟩ : Addr).add j = ⟨g, j, none⟩ := fun g j => by unfold Addr.add; split <;> simp_all
  have hc := @World.ownsRow.cells _ _ _ _ _ _ _ h
  rcases h.2 with ⟨rfl, h0⟩ | ⟨g, cap, cur, rfl, hb, hg, hnc, hcm, _⟩
  · exact .inl ⟨List.eq_nil_of_length_eq_zero h0, _, _, rfl⟩
  · refine .inr ⟨g, 0, cap, rfl, (Array.getElem?_eq_some_iff.1 hg).1, hnc, hcm, fun i c hi => ?_⟩
    rw [Nat.zero_add, ← hadd]
    exact hc (g := g) rfl i _ (by rw [List.getElem?_map, hi]; rfl)
theorem box2f {w w' : World} {a b : Value} {t : TypeId} (hb : Below (w.alloc (.cells #[a, b] t)).heap.size (w.alloc (.cells #[a, b] t)) w') : ∀ o, w'.frozen? ⟨w.heap.size, o, none⟩ = false := by
  have h : w'.heap[w.heap.size]? = some (.cells #[a, b] t (0, 0)) := (hb.block w.heap.size (by rw [World.size_alloc]; omega)).trans (World.alloc_heap_new w _)
  intro o
  simp [World.frozen?, h]
theorem put2_belowV9 {B : Nat} {w w' : World} {H : Nat} (h : Below B w w') (hB : B ≤ H) (a b : Value) : Below B w ((w'.setCell ⟨H, 0, none⟩ a).setCell ⟨H, 1, none⟩ b) :=
  (h.setCell (p := ⟨H, 0, none⟩) hB _).setCell (p := ⟨H, 1, none⟩) hB _
end
section
open Go Go.RowKit Go.Lib

/-- A slice that reads as these items, in blocks of F. -/
def ItemsIn (F : Nat → Prop) (w : World) (v : Value) (l : List It) : Prop :=
  (l = [] ∧ ∃ a cap, v = .slice a 0 cap) ∨ ∃ b off cap, v = .slice (some ⟨b, off, none⟩) l.length cap ∧ b < w.heap.size ∧ F b ∧ l.length ≤ cap ∧ cap ≤ maxLen ∧
    ∀ (i : Nat) it, l[i]? = some it → w.cell? ⟨b, off + i * 3, none⟩ = some (.bool it.any) ∧ w.cell? ⟨b, off + i * 3 + 1, none⟩ = some (.bool it.not) ∧ ∃ sv, w.cell? ⟨b, off + i * 3 + 2, none⟩ = some sv ∧ IntsAt w sv it.set ∧ (it.set ≠ [] → ∀ g, sv.ownBlock = some g → F g)
theorem ItemsIn.at {F : Nat → Prop} {w : World} {v : Value} {l : List It} (h : ItemsIn F w v l) : ItemsAt w v l := by
  rcases h with h | ⟨b, off, cap, h1, h2, _, h4, h5, h6⟩
  · exact .inl h
  · refine .inr ⟨b, off, cap, h1, h2, h4, h5, fun i it hi => ?_⟩
    obtain ⟨k1, k2, sv, k3, k4, _⟩ := h6 i it hi
    exact ⟨k1, k2, sv, k3, k4⟩
theorem ItemsIn.mono {F F' : Nat → Prop} {w : World} {v : Value} {l : List It} (h : ItemsIn F w v l) (hF : ∀ b, F b → F' b) : ItemsIn F' w v l := by
  rcases h with h | ⟨b, off, cap, h1, h2, h3, h4, h5, h6⟩
  · exact .inl h
  · refine .inr ⟨b, off, cap, h1, h2, hF b h3, h4, h5, fun i it hi => ?_⟩
    obtain ⟨k1, k2, sv, k3, k4, k5⟩ := h6 i it hi
    exact ⟨k1, k2, sv, k3, k4, fun hn g hg => hF g (k5 hn g hg)⟩
/-- Blocks of F are as they were. -/
theorem ItemsIn.still {F : Nat → Prop} {w w' : World} {v : Value} {l : List It} (h : ItemsIn F w v l) (hs : w.heap.size ≤ w'.heap.size) (hb : ∀ b, F b → b < w.heap.size → w'.heap[b]? = w.heap[b]?) : ItemsIn F w' v l := by
  rcases h with h | ⟨b, off, cap, h1, h2, h3, h4, h5, h6⟩
  · exact .inl h
  · have hc : ∀ o, w'.cell? ⟨b, o, none⟩ = w.cell? ⟨b, o, none⟩ := fun o => by unfold World.cell?; rw [show (⟨b, o, none⟩ : Addr).block = b from rfl, hb b h3 h2]
    refine .inr ⟨b, off, cap, h1, Nat.lt_of_lt_of_le h2 hs, h3, h4, h5, fun i it hi => ?_⟩
    obtain ⟨k1, k2, sv, k3, k4, k5⟩ := h6 i it hi
    refine ⟨(hc _).trans k1, (hc _).trans k2, sv, (hc _).trans k3, ?_, k5⟩
    by_cases hn : it.set = []
    · rw [hn] at k4 ⊢
      rcases k4 with ⟨_, a, c, e⟩ | ⟨q, qo, qc, e, _⟩
      · exact .inl ⟨rfl, a, c, e⟩
      · exact .inl ⟨rfl, _, qc, e⟩
    · rcases k4 with k4 | ⟨q, qo, qc, rfl, q1, q2, q3, q4⟩
      · exact .inl k4
      · refine .inr ⟨q, qo, qc, rfl, Nat.lt_of_lt_of_le q1 hs, q2, q3, fun j c hj => ?_⟩
        have := q4 j c hj
        unfold World.cell? at this ⊢
        rw [show (⟨q, qo + j, none⟩ : Addr).block = q from rfl] at this ⊢
        rw [hb q (k5 hn q rfl) q1]
        exact this
theorem ItemsNew.isIn {B : Nat} {w : World} {v : Value} {l : List It} (h : ItemsNew B w v l) : ItemsIn (fun b => B ≤ b ∧ b < w.heap.size) w v l := by
  rcases h with h | ⟨b, off, cap, h1, h2, h3, h4, h5, h6⟩
  · exact .inl h
  · refine .inr ⟨b, off, cap, h1, h2, ⟨h3, h2⟩, h4, h5, fun i it hi => ?_⟩
    obtain ⟨k1, k2, sv, k3, k4, k5⟩ := h6 i it hi
    refine ⟨k1, k2, sv, k3, k4, fun hn g hg => ⟨k5 g hg, ?_⟩⟩
    rcases k4 with ⟨e, _⟩ | ⟨q, qo, qc, rfl, q1, _⟩
    · exact absurd e hn
    · obtain rfl : q = g := by simpa [Value.ownBlock] using hg
      exact q1

/-- The cells of rules: each rule's six. -/
def RulesIn (F : Nat → Prop) (w : World) (xs : List Value) (rs : List Ru) : Prop :=
  xs.length = rs.length * 6 ∧ ∀ (i : Nat) r, rs[i]? = some r → xs[i * 6]? = some (.bool r.pre) ∧ xs[i * 6 + 1]? = some (.int .i64 r.flag) ∧ xs[i * 6 + 2]? = some (.bool r.cross) ∧ xs[i * 6 + 3]? = some (.string r.strip) ∧ xs[i * 6 + 4]? = some (.string r.add) ∧
    ∃ A cap, xs[i * 6 + 5]? = some (.slice A r.cond.length cap) ∧ ItemsIn F w (.slice A r.cond.length cap) r.cond
theorem RulesIn.nil (F : Nat → Prop) (w : World) : RulesIn F w [] [] := ⟨rfl, fun i r h => by simp at h⟩
theorem RulesIn.snoc {F : Nat → Prop} {w : World} {xs : List Value} {rs : List Ru} {r : Ru} {A : Option Addr} {cap : Nat} (h : RulesIn F w xs rs) (hi : ItemsIn F w (.slice A r.cond.length cap) r.cond) :
    RulesIn F w (xs ++ [.bool r.pre, .int .i64 r.flag, .bool r.cross, .string r.strip, .string r.add, .slice A r.cond.length cap]) (rs ++ [r]) := by
  obtain ⟨hl, hx⟩ := h
  refine ⟨by rw [List.length_append, List.length_append, hl]; simp; omega, fun i q hq => ?_⟩
  rcases Nat.lt_or_ge i rs.length with hlt | hge
  · rw [List.getElem?_append_left hlt] at hq
    have hk : ∀ j, j < 6 → (xs ++ [.bool r.pre, .int .i64 r.flag, .bool r.cross, .string r.strip, .string r.add, .slice A r.cond.length cap])[i * 6 + j]? = xs[i * 6 + j]? := fun j hj => List.getElem?_append_left (by omega)
    obtain ⟨q0, q1, q2, q3, q4, D, dc, q5, q6⟩ := hx i q hq
    exact ⟨(hk 0 (by omega)).trans q0, (hk 1 (by omega)).trans q1, (hk 2 (by omega)).trans q2, (hk 3 (by omega)).trans q3, (hk 4 (by omega)).trans q4, D, dc, (hk 5 (by omega)).trans q5, q6⟩
  · rw [List.getElem?_append_right hge] at hq
    have h0 : i - rs.length = 0 := by
      have := (List.getElem?_eq_some_iff.1 hq).1
      simp at this; omega
    obtain rfl : i = rs.length := by omega
    rw [h0] at hq
    obtain rfl : r = q := by simpa using hq
    have hk : ∀ j, (xs ++ [.bool r.pre, .int .i64 r.flag, .bool r.cross, .string r.strip, .string r.add, .slice A r.cond.length cap])[rs.length * 6 + j]? = [Value.bool r.pre, .int .i64 r.flag, .bool r.cross, .string r.strip, .string r.add, .slice A r.cond.length cap][j]? := fun j => by
      rw [List.getElem?_append_right (by omega), hl, Nat.add_sub_cancel_left]
    exact ⟨hk 0, hk 1, hk 2, hk 3, hk 4, A, cap, hk 5, hi⟩
theorem RulesIn.mono {F F' : Nat → Prop} {w : World} {xs : List Value} {rs : List Ru} (h : RulesIn F w xs rs) (hF : ∀ b, F b → F' b) : RulesIn F' w xs rs :=
  ⟨h.1, fun i r hr => by
    obtain ⟨q0, q1, q2, q3, q4, D, dc, q5, q6⟩ := h.2 i r hr
    exact ⟨q0, q1, q2, q3, q4, D, dc, q5, q6.mono hF⟩⟩
theorem RulesIn.still {F : Nat → Prop} {w w' : World} {xs : List Value} {rs : List Ru} (h : RulesIn F w xs rs) (hs : w.heap.size ≤ w'.heap.size) (hb : ∀ b, F b → b < w.heap.size → w'.heap[b]? = w.heap[b]?) : RulesIn F w' xs rs :=
  ⟨h.1, fun i r hr => by
    obtain ⟨q0, q1, q2, q3, q4, D, dc, q5, q6⟩ := h.2 i r hr
    exact ⟨q0, q1, q2, q3, q4, D, dc, q5, q6.still hs hb⟩⟩
/-- The cells of pairs. -/
def pCells (ps : List (Int × Int)) : List Value := ps.flatMap fun p => [.int .i64 p.1, .int .i64 p.2]
theorem pCells_at : ∀ (ps : List (Int × Int)) (i : Nat) p, ps[i]? = some p → (pCells ps)[i * 2]? = some (.int .i64 p.1) ∧ (pCells ps)[i * 2 + 1]? = some (.int .i64 p.2)
  | [], i, p, h => by simp at h
  | q :: ps, 0, p, h => by
    obtain rfl : q = p := by simpa using h
    exact ⟨rfl, rfl⟩
  | q :: ps, i + 1, p, h => by
    have := pCells_at ps i p (by simpa using h)
    rw [show (i + 1) * 2 = i * 2 + 2 by omega]
    exact this

/-- What a reader has: a box at HA of two slices, three rows that grow behind it. -/
structure AQ (w0 wr : World) (HA : Nat) (F : Nat → Prop) (rv pv tv : Value) (xs : List Value) (d : Rd) : Prop where
  box : wr.heap[HA]? = some (.cells #[rv, pv] 34 (0, 0))
  rrow : wr.ownsRow (HA + 1) 51 6 rv d.rules.length xs
  rules : RulesIn F wr xs d.rules
  prow : wr.ownsRow (HA + 1) 75 2 pv d.pairs.length (pCells d.pairs)
  trow : wr.ownsRow (HA + 1) 3 1 tv d.at_.length (d.at_.map fun n => .int .i64 (n : Nat))
  foot : ∀ b, F b → HA < b ∧ b < wr.heap.size ∧ rv.ownBlock ≠ some b ∧ pv.ownBlock ≠ some b ∧ tv.ownBlock ≠ some b
  base : w0.heap.size ≤ HA
  below : Below w0.heap.size w0 wr
theorem AQ.keep {w0 w w' : World} {HA : Nat} {F : Nat → Prop} {rv pv tv : Value} {xs : List Value} {d : Rd} (h : AQ w0 w HA F rv pv tv xs d) (hb : Below w.heap.size w w') : AQ w0 w' HA F rv pv tv xs d :=
  ⟨(hb.block HA (Array.getElem?_eq_some_iff.1 h.box).1).trans h.box, own_keep9 h.rrow hb, h.rules.still hb.size fun b _ hlt => hb.block b hlt, own_keep9 h.prow hb, own_keep9 h.trow hb,
    fun b hF => by obtain ⟨h1, h2, h3⟩ := h.foot b hF; exact ⟨h1, Nat.lt_of_lt_of_le h2 hb.size, h3⟩, h.base, h.below.trans (hb.mono h.below.size)⟩
/-- Rows of unlike types lie in unlike blocks. -/
theorem own_types {w : World} {B e e' s s' n n' : Nat} {v v' : Value} {xs xs' : List Value} (h : w.ownsRow B e s v n xs) (h' : w.ownsRow B e' s' v' n' xs') (he : e ≠ e') (g : Nat) (hg : v.ownBlock = some g) : v'.ownBlock ≠ some g := by
  intro hg'
  rcases h.2 with ⟨rfl, _⟩ | ⟨q, cap, cur, rfl, _, h1, _⟩
  · simp [Value.ownBlock] at hg
  · rcases h'.2 with ⟨rfl, _⟩ | ⟨q', cap', cur', rfl, _, h1', _⟩
    · simp [Value.ownBlock] at hg'
    · obtain rfl : q = g := by simpa [Value.ownBlock] using hg
      obtain rfl : q' = q := by simpa [Value.ownBlock] using hg'
      rw [h1] at h1'
      injection Option.some.inj h1' with _ e2 _
      exact he e2
theorem own_blkV9 {w w' : World} {B e s n : Nat} {v : Value} {xs : List Value} (h : w.ownsRow B e s v n xs) (hb : ∀ g, v.ownBlock = some g → w'.heap[g]? = w.heap[g]?) : w'.ownsRow B e s v n xs := by
  refine ⟨h.1, ?_⟩
  rcases h.2 with h | ⟨g, cap, cur, h1, h2, h3, h4⟩
  · exact .inl h
  · subst h1
    exact .inr ⟨g, cap, cur, rfl, h2, (hb g rfl).trans h3, h4⟩
/-- The box's cells are written anew. -/
theorem set_otherV9 (w : World) (HA o : Nat) (v : Value) {k : Nat} (hk : k ≠ HA) : (w.setCell ⟨HA, o, none⟩ v).heap[k]? = w.heap[k]? := Below.heap_setCell _ _ _ _ hk
theorem set_sizeV9 (w : World) (a : Addr) (v : Value) : (w.setCell a v).heap.size = w.heap.size := by simp [World.setCell]
/-- Where a row that has grown lies. -/
def Grew (w : World) (v v' : Value) : Prop := v'.ownBlock = v.ownBlock ∨ ∀ g, v'.ownBlock = some g → w.heap.size ≤ g
/-- A pair more. -/
theorem AQ.pair {w0 w w4 : World} {HA : Nat} {F : Nat → Prop} {rv pv tv pv' : Value} {xs : List Value} {d : Rd} {p : Int × Int} (h : AQ w0 w HA F rv pv tv xs d)
    (hown : w4.ownsRow (HA + 1) 75 2 pv' (d.pairs.length + 1) (pCells d.pairs ++ [.int .i64 p.1, .int .i64 p.2])) (hg : w.grownBy w4 pv.ownBlock) (hw : Grew w pv pv') :
    AQ w0 (w4.setCell ⟨HA, 1, none⟩ pv') HA F rv pv' tv xs { d with pairs := d.pairs ++ [p] } := by
  have hHA := (Array.getElem?_eq_some_iff.1 h.box).1
  have pb : ∀ g, pv.ownBlock = some g → HA + 1 ≤ g ∧ g < w.heap.size := h.prow.lt
  have key : ∀ k, k < w.heap.size → k ≠ HA → some k ≠ pv.ownBlock → (w4.setCell ⟨HA, 1, none⟩ pv').heap[k]? = w.heap[k]? := fun k hk hne hp => (set_otherV9 _ _ _ _ hne).trans (hg.block k hk hp)
  have hbox4 : w4.heap[HA]? = some (.cells #[rv, pv] 34 (0, 0)) := (hg.block HA hHA (fun e => by have := (pb HA e.symm).1; omega)).trans h.box
  refine ⟨by simp [World.setCell, Array.getElem?_modify, hbox4], own_blkV9 h.rrow fun g hgr => ?_, ?_, ?_, own_blkV9 h.trow fun g hgt => ?_, fun b hF => ?_, h.base, ?_⟩
  · have hlt := h.rrow.lt g hgr
    exact key g hlt.2 (by omega) (fun e => own_types h.rrow h.prow (by decide) g hgr e.symm)
  · refine h.rules.still (by rw [set_sizeV9]; exact hg.size) fun b hF hlt => ?_
    obtain ⟨f1, _, _, f4, _⟩ := h.foot b hF
    exact key b hlt (by omega) (fun e => f4 e.symm)
  · have e1 : pCells (d.pairs ++ [p]) = pCells d.pairs ++ [.int .i64 p.1, .int .i64 p.2] := by simp [pCells]
    have e2 : (d.pairs ++ [p]).length = d.pairs.length + 1 := by simp
    show World.ownsRow _ _ _ _ _ (d.pairs ++ [p]).length (pCells (d.pairs ++ [p]))
    rw [e1, e2]
    refine own_blkV9 hown fun g hgp => set_otherV9 _ _ _ _ ?_
    have := (hown.lt g hgp).1
    omega
  · have hlt := h.trow.lt g hgt
    exact key g hlt.2 (by omega) (fun e => own_types h.trow h.prow (by decide) g hgt e.symm)
  · obtain ⟨f1, f2, f3, f4, f5⟩ := h.foot b hF
    refine ⟨f1, by rw [set_sizeV9]; exact Nat.lt_of_lt_of_le f2 hg.size, f3, fun e => ?_, f5⟩
    rcases hw with hw | hw
    · exact f4 (hw ▸ e)
    · have := hw b e; omega
  · exact (h.below.grown hg h.below.size (fun k hk => by have := (pb k hk).1; have := h.base; omega)).setCell (p := ⟨HA, 1, none⟩) h.base _
/-- A rule more, and where it stands: both rows grown, then the box is written. -/
theorem AQ.rule {w0 w w4 w5 : World} {HA : Nat} {F : Nat → Prop} {rv pv tv rv' tv' : Value} {xs : List Value} {d : Rd} {r : Ru} {A : Option Addr} {cap n : Nat} (h : AQ w0 w HA F rv pv tv xs d) (hi : ItemsIn F w (.slice A r.cond.length cap) r.cond)
    (hown : w4.ownsRow (HA + 1) 51 6 rv' (d.rules.length + 1) (xs ++ [.bool r.pre, .int .i64 r.flag, .bool r.cross, .string r.strip, .string r.add, .slice A r.cond.length cap])) (hg : w.grownBy w4 rv.ownBlock) (hw : Grew w rv rv')
    (hown2 : w5.ownsRow (HA + 1) 3 1 tv' (d.at_.length + 1) ((d.at_.map fun n => .int .i64 (n : Nat)) ++ [.int .i64 n])) (hg2 : w4.grownBy w5 tv.ownBlock) (hw2 : Grew w4 tv tv') :
    AQ w0 (w5.setCell ⟨HA, 0, none⟩ rv') HA F rv' pv tv' (xs ++ [.bool r.pre, .int .i64 r.flag, .bool r.cross, .string r.strip, .string r.add, .slice A r.cond.length cap]) { d with rules := d.rules ++ [r], at_ := d.at_ ++ [n] } := by
  have hHA := (Array.getElem?_eq_some_iff.1 h.box).1
  have rb : ∀ g, rv.ownBlock = some g → HA + 1 ≤ g ∧ g < w.heap.size := h.rrow.lt
  have tb : ∀ g, tv.ownBlock = some g → HA + 1 ≤ g ∧ g < w.heap.size := h.trow.lt
  have key : ∀ k, k < w.heap.size → k ≠ HA → some k ≠ rv.ownBlock → some k ≠ tv.ownBlock → (w5.setCell ⟨HA, 0, none⟩ rv').heap[k]? = w.heap[k]? := fun k hk hne hr ht =>
    (set_otherV9 _ _ _ _ hne).trans ((hg2.block k (Nat.lt_of_lt_of_le hk hg.size) ht).trans (hg.block k hk hr))
  have hsz : w.heap.size ≤ w5.heap.size := Nat.le_trans hg.size hg2.size
  have hbox5 : w5.heap[HA]? = some (.cells #[rv, pv] 34 (0, 0)) :=
    (hg2.block HA (Nat.lt_of_lt_of_le hHA hg.size) (fun e => by have := (tb HA e.symm).1; omega)).trans ((hg.block HA hHA (fun e => by have := (rb HA e.symm).1; omega)).trans h.box)
  have hstill : ∀ b, F b → b < w.heap.size → (w5.setCell ⟨HA, 0, none⟩ rv').heap[b]? = w.heap[b]? := fun b hF hlt => by
    obtain ⟨f1, _, f3, _, f5⟩ := h.foot b hF
    exact key b hlt (by omega) (fun e => f3 e.symm) (fun e => f5 e.symm)
  refine ⟨by simp [World.setCell, Array.getElem?_modify, hbox5], ?_, ?_, own_blkV9 h.prow fun g hgp => ?_, ?_, fun b hF => ?_, h.base, ?_⟩
  · have e2 : (d.rules ++ [r]).length = d.rules.length + 1 := by simp
    show World.ownsRow _ _ _ _ _ (d.rules ++ [r]).length _
    rw [e2]
    refine own_blkV9 hown fun g hgr => (set_otherV9 _ _ _ _ ?_).trans (hg2.block g (hown.lt g hgr).2 ?_)
    · have := (hown.lt g hgr).1; omega
    · intro e
      have htv : tv.ownBlock = some g := e.symm
      rcases hw with hw | hw
      · exact own_types h.rrow h.trow (by decide) g (hw ▸ hgr) htv
      · have := hw g hgr
        have := (tb g htv).2
        omega
  · exact (h.rules.snoc hi).still (by rw [set_sizeV9]; exact hsz) hstill
  · have hlt := h.prow.lt g hgp
    exact key g hlt.2 (by omega) (fun e => own_types h.prow h.rrow (by decide) g hgp e.symm) (fun e => own_types h.prow h.trow (by decide) g hgp e.symm)
  · have e2 : (d.at_ ++ [n]).length = d.at_.length + 1 := by simp
    show World.ownsRow _ _ _ _ _ (d.at_ ++ [n]).length ((d.at_ ++ [n]).map fun n => .int .i64 (n : Nat))
    rw [e2, List.map_append]
    refine own_blkV9 hown2 fun g hgt => set_otherV9 _ _ _ _ ?_
    have := (hown2.lt g hgt).1
    omega
  · obtain ⟨f1, f2, f3, f4, f5⟩ := h.foot b hF
    refine ⟨f1, by rw [set_sizeV9]; exact Nat.lt_of_lt_of_le f2 hsz, fun e => ?_, f4, fun e => ?_⟩
    · rcases hw with hw | hw
      · exact f3 (hw ▸ e)
      · have := hw b e; omega
    · rcases hw2 with hw2 | hw2
      · exact f5 (hw2 ▸ e)
      · have := hw2 b e
        have := hg.size
        omega
  · have b4 := h.below.grown hg h.below.size (fun k hk => by have := (rb k hk).1; have := h.base; omega)
    exact (b4.grown hg2 b4.size (fun k hk => by have := (tb k hk).1; have := h.base; omega)).setCell (p := ⟨HA, 0, none⟩) h.base _
/-- The first line that is none. -/
theorem AQ.bad {w0 w : World} {HA : Nat} {F : Nat → Prop} {rv pv tv : Value} {xs : List Value} {d : Rd} (h : AQ w0 w HA F rv pv tv xs d) (b : Nat) : AQ w0 w HA F rv pv tv xs { d with bad := b } :=
  ⟨h.box, h.rrow, h.rules, h.prow, h.trow, h.foot, h.base, h.below⟩
/-- What is in new blocks joins F. -/
theorem AQ.wide {w0 w w' : World} {HA : Nat} {F : Nat → Prop} {rv pv tv : Value} {xs : List Value} {d : Rd} (h : AQ w0 w HA F rv pv tv xs d) (hb : Below w.heap.size w w') :
    AQ w0 w' HA (fun b => F b ∨ (w.heap.size ≤ b ∧ b < w'.heap.size)) rv pv tv xs d := by
  have hk := h.keep hb
  have hHA := (Array.getElem?_eq_some_iff.1 h.box).1
  refine ⟨hk.box, hk.rrow, hk.rules.mono fun b hF => .inl hF, hk.prow, hk.trow, fun b hF => ?_, hk.base, hk.below⟩
  rcases hF with hF | ⟨h1, h2⟩
  · exact hk.foot b hF
  · refine ⟨by omega, h2, fun e => ?_, fun e => ?_, fun e => ?_⟩
    · have := (h.rrow.lt b e).2; omega
    · have := (h.prow.lt b e).2; omega
    · have := (h.trow.lt b e).2; omega
/-- What the box holds reads as an affix file. -/
theorem AQ.reads {w0 w : World} {HA : Nat} {F : Nat → Prop} {rv pv tv : Value} {xs : List Value} {d : Rd} (h : AQ w0 w HA F rv pv tv xs d) : AffAt w (.agg #[rv, pv]) ⟨d.rules, d.pairs⟩ := by
  have hR : ∃ A cap, rv = .slice A d.rules.length cap ∧ RulesAt w (.slice A d.rules.length cap) d.rules := by
    have hc := @World.ownsRow.cells _ _ _ _ _ _ _ h.rrow
    rcases h.rrow.2 with ⟨rfl, h0⟩ | ⟨g, cap, cur, rfl, hb, hg, hnc, hcm, _⟩
    · have hn : d.rules = [] := List.eq_nil_of_length_eq_zero h0
      exact ⟨none, 0, by rw [h0], .inl ⟨hn, none, 0, by rw [h0]⟩⟩
    · refine ⟨_, cap, rfl, .inr ⟨g, 0, cap, rfl, (Array.getElem?_eq_some_iff.1 hg).1, hnc, hcm, fun i r hr => ?_⟩⟩
      obtain ⟨q0, q1, q2, q3, q4, D, dc, q5, q6⟩ := h.rules.2 i r hr
      have hcc : ∀ j u, xs[j]? = some u → w.cell? ⟨g, j, none⟩ = some u := fun j u hu => by rw [← add9]; exact hc (g := g) rfl j u hu
      unfold RuCells
      rw [Nat.zero_add]
      exact ⟨hcc _ _ q0, hcc _ _ q1, hcc _ _ q2, hcc _ _ q3, hcc _ _ q4, D, dc, hcc _ _ q5, q6.at⟩
  have hP : ∃ A cap, pv = .slice A d.pairs.length cap ∧ PairsAt w (.slice A d.pairs.length cap) d.pairs := by
    have hc := @World.ownsRow.cells _ _ _ _ _ _ _ h.prow
    rcases h.prow.2 with ⟨rfl, h0⟩ | ⟨g, cap, cur, rfl, hb, hg, hnc, hcm, _⟩
    · have hn : d.pairs = [] := List.eq_nil_of_length_eq_zero h0
      exact ⟨none, 0, by rw [h0], .inl ⟨hn, none, 0, by rw [h0]⟩⟩
    · refine ⟨_, cap, rfl, .inr ⟨g, 0, cap, rfl, (Array.getElem?_eq_some_iff.1 hg).1, hnc, hcm, fun i p hp => ?_⟩⟩
      obtain ⟨q0, q1⟩ := pCells_at d.pairs i p hp
      have hcc : ∀ j u, (pCells d.pairs)[j]? = some u → w.cell? ⟨g, j, none⟩ = some u := fun j u hu => by rw [← add9]; exact hc (g := g) rfl j u hu
      rw [Nat.zero_add]
      exact ⟨hcc _ _ q0, hcc _ _ q1⟩
  obtain ⟨A, cA, rfl, hA⟩ := hR
  obtain ⟨B, cB, rfl, hB⟩ := hP
  exact ⟨A, cA, B, cB, rfl, hA, hB⟩
end
section
open Go Go.Lib

/-! ### A reader that keeps the first clash -/
theorem flagA_snoc : ∀ (rs seen : List Ru) (a : List Nat) (r : Ru) (n : Nat), a.length = rs.length → (∀ x ∈ a, 0 < x) →
    flagA seen (rs ++ [r]) (a ++ [n]) = if flagA seen rs a = 0 then (if clash (seen ++ rs) r = true then n else 0) else flagA seen rs a
  | [], seen, a, r, n, hl, _ => by
    obtain rfl : a = [] := List.eq_nil_of_length_eq_zero hl
    simp [flagA]
  | q :: rs, seen, a, r, n, hl, hp => by
    match a, hl, hp with
    | m :: a, hl, hp =>
      have ih := flagA_snoc rs (seen ++ [q]) a r n (by simpa using hl) fun x hx => hp x (List.mem_cons_of_mem _ hx)
      have hm := hp m (List.mem_cons_self ..)
      rw [List.append_assoc, List.singleton_append] at ih
      show (if clash seen q = true then m else flagA (seen ++ [q]) (rs ++ [r]) (a ++ [n])) = if (if clash seen q = true then m else flagA (seen ++ [q]) rs a) = 0 then _ else (if clash seen q = true then m else flagA (seen ++ [q]) rs a)
      by_cases hc : clash seen q = true
      · rw [if_pos hc, if_pos hc, if_neg (by omega)]
      · rw [if_neg hc, if_neg hc, ih]
theorem stepA_grow (d : Rd) (n : Nat) (l : List UInt8) : d.rules.length ≤ (stepA d n l).rules.length ∧ d.pairs.length ≤ (stepA d n l).pairs.length := by
  unfold stepA
  split
  · exact ⟨Nat.le_refl _, Nat.le_refl _⟩
  · split
    · simp
    · split <;> simp
theorem readA_grow : ∀ (ls : List (List UInt8)) (d : Rd) (n : Nat), d.rules.length ≤ (readA d n ls).rules.length ∧ d.pairs.length ≤ (readA d n ls).pairs.length
  | [], d, n => ⟨Nat.le_refl _, Nat.le_refl _⟩
  | l :: ls, d, n => by
    have h1 := stepA_grow d n l
    have h2 := readA_grow ls (stepA d n l) (n + 1)
    exact ⟨Nat.le_trans h1.1 h2.1, Nat.le_trans h1.2 h2.2⟩
theorem endA_big {d : Rd} (n : Nat) (ls : List (List UInt8)) (h : 200 < d.rules.length ∨ 200 < d.pairs.length) : endA (readA d n ls) = (af0, 0, 3) := by
  have hg := readA_grow ls d n
  unfold endA
  exact if_pos (by omega)
/-- What is kept of numbers: as many as rules, each above 0. -/
def AtsOk (d : Rd) : Prop := d.at_.length = d.rules.length ∧ ∀ n ∈ d.at_, 0 < n
theorem AtsOk.step {d : Rd} {n : Nat} {l : List UInt8} (h : AtsOk d) (hn : 0 < n) : AtsOk (stepA d n l) := by
  unfold stepA
  split
  · exact h
  · split
    · exact h
    · split
      · refine ⟨by simp [h.1], fun m hm => ?_⟩
        rcases List.mem_append.1 hm with hm | hm
        · exact h.2 m hm
        · rw [List.mem_singleton] at hm; omega
      · exact h

/-! ### A text's first line -/
theorem linesL_split : ∀ (s : List UInt8), s ≠ [] → linesL s = s.takeWhile (· ≠ 10) :: linesL (s.dropWhile (· ≠ 10)).tail
  | [], h => absurd rfl h
  | b :: r, _ => by
    rw [linesL_cons]
    by_cases hb : b = 10
    · subst hb
      rw [if_pos rfl]
      simp
    · have hd : decide (b ≠ 10) = true := by simpa using hb
      rw [if_neg hb, List.takeWhile_cons, if_pos hd, List.dropWhile_cons, if_pos hd]
      cases r with
      | nil => rfl
      | cons c r =>
        rw [linesL_split (c :: r) (by simp)]
theorem idx10_none {l : List UInt8} (h : (10 : UInt8) ∉ l) : indexByte l 10 = -1 := by
  induction l with
  | nil => rfl
  | cons b l ih =>
    unfold indexByte
    rw [if_neg (by simp; exact fun e => h (by rw [e]; exact List.mem_cons_self ..)), ih fun e => h (List.mem_cons_of_mem _ e)]
    rfl
theorem idx10_some {l : List UInt8} (h : (10 : UInt8) ∈ l) : indexByte l 10 = ((l.takeWhile (· ≠ 10)).length : Nat) := by
  induction l with
  | nil => cases h
  | cons b l ih =>
    unfold indexByte
    by_cases hb : b = 10
    · subst hb
      simp
    · have hm : (10 : UInt8) ∈ l := by
        rcases List.mem_cons.1 h with e | e
        · exact absurd e.symm hb
        · exact e
      have hd : (decide (b ≠ 10)) = true := by simpa using hb
      rw [if_neg (by simpa using hb), ih hm, List.takeWhile_cons, if_pos hd, List.length_cons, if_neg (by simp)]
      omega
theorem cut10 : ∀ {l : List UInt8}, (10 : UInt8) ∈ l → l.take (l.takeWhile (· ≠ 10)).length = l.takeWhile (· ≠ 10) ∧ l.drop ((l.takeWhile (· ≠ 10)).length + 1) = (l.dropWhile (· ≠ 10)).tail ∧ (l.takeWhile (· ≠ 10)).length < l.length
  | [], h => by cases h
  | b :: l, h => by
    by_cases hb : b = 10
    · subst hb; simp
    · have hm : (10 : UInt8) ∈ l := by
        rcases List.mem_cons.1 h with e | e
        · exact absurd e.symm hb
        · exact e
      have hd : (decide (b ≠ 10)) = true := by simpa using hb
      obtain ⟨h1, h2, h3⟩ := cut10 hm
      rw [List.takeWhile_cons, if_pos hd, List.dropWhile_cons, if_pos hd, List.length_cons, List.take_succ_cons, List.drop_succ_cons, h1, h2, List.length_cons]
      exact ⟨rfl, rfl, by omega⟩
theorem all10 : ∀ {l : List UInt8}, (10 : UInt8) ∉ l → l.takeWhile (· ≠ 10) = l ∧ l.dropWhile (· ≠ 10) = []
  | [], _ => ⟨rfl, rfl⟩
  | b :: l, h => by
    have hb : b ≠ 10 := fun e => h (by rw [e]; exact List.mem_cons_self ..)
    have hd : (decide (b ≠ 10)) = true := by simpa using hb
    obtain ⟨h1, h2⟩ := all10 (l := l) fun e => h (List.mem_cons_of_mem _ e)
    rw [List.takeWhile_cons, if_pos hd, List.dropWhile_cons, if_pos hd, h1]
    exact ⟨rfl, h2⟩

/-! ### A rule's line begins with P or S -/
theorem wordsL_first {s a : List UInt8} {ws : List (List UInt8)} (h : wordsL s = a :: ws) (ha : a ≠ []) : s.head? = a.head? := by
  cases s with
  | nil =>
    have : a = [] := by
      have h2 : wordsL [] = [[]] := rfl
      rw [h2] at h
      exact (List.cons.inj h).1.symm
    exact absurd this ha
  | cons b t =>
    rw [wordsL_cons] at h
    by_cases hb : b = 32
    · rw [if_pos hb] at h
      exact absurd (List.cons.inj h).1.symm ha
    · rw [if_neg hb] at h
      split at h
      · rename_i e; exact absurd e (wordsL_ne t)
      · rw [← (List.cons.inj h).1]
        rfl
theorem parseR_head {s : ByteArray} {r : Ru} (h : parseR s = some r) : s.data.toList.head? = some 80 ∨ s.data.toList.head? = some 83 := by
  unfold parseR at h
  split at h
  · rename_i a f c x y z hw
    unfold parse6 at h
    split at h
    · rename_i hc
      rcases hc.1 with e | e
      · left
        rw [wordsL_first hw (by rw [e]; decide), e]; rfl
      · right
        rw [wordsL_first hw (by rw [e]; decide), e]; rfl
    · cases h
  · cases h
theorem pairL_head67 {ps : List (Int × Int)} {l : List UInt8} {p : Int × Int} (h : pairL ps l = some p) : l.head? = some 67 := by
  unfold pairL at h
  split at h
  · rename_i h5
    cases l with
    | nil => cases h5
    | cons b t =>
      have : (b :: t).take 5 = b :: t.take 4 := rfl
      rw [this] at h5
      rw [(List.cons.inj h5).1]; rfl
  · cases h
/-- A line that is skipped says nothing else. -/
theorem skip_none {l : List UInt8} (h : l = [] ∨ l.head? = some 35) : parseR ⟨l.toArray⟩ = none ∧ ∀ ps, pairL ps l = none := by
  have hl : (⟨l.toArray⟩ : ByteArray).data.toList = l := by simp
  constructor
  · cases hp : parseR ⟨l.toArray⟩ with
    | none => rfl
    | some r =>
      have := parseR_head hp
      rw [hl] at this
      rcases h with rfl | h
      · simp at this
      · rw [h] at this; rcases this with e | e <;> cases e
  · intro ps
    cases hp : pairL ps l with
    | none => rfl
    | some p =>
      have := pairL_head67 hp
      rcases h with rfl | h
      · simp at this
      · rw [h] at this; cases this
/-- One step, a rule's line asked for first. -/
theorem stepA_rule1 {d : Rd} {n : Nat} {l : List UInt8} {r : Ru} (h : parseR ⟨l.toArray⟩ = some r) : stepA d n l = { d with rules := d.rules ++ [r], at_ := d.at_ ++ [n] } := by
  have hs : ¬ (l = [] ∨ l.head? = some 35) := fun e => by rw [(skip_none e).1] at h; cases h
  have hp : pairL d.pairs l = none := by
    cases hp : pairL d.pairs l with
    | none => rfl
    | some p =>
      have h1 := pairL_head67 hp
      have h2 := parseR_head h
      have hl : (⟨l.toArray⟩ : ByteArray).data.toList = l := by simp
      rw [hl, h1] at h2
      rcases h2 with e | e <;> cases e
  unfold stepA
  rw [if_neg hs, hp]
  dsimp only
  rw [h]
theorem stepA_pair1 {d : Rd} {n : Nat} {l : List UInt8} {p : Int × Int} (h : pairL d.pairs l = some p) : stepA d n l = { d with pairs := d.pairs ++ [p] } := by
  have hs : ¬ (l = [] ∨ l.head? = some 35) := fun e => by rw [(skip_none e).2] at h; cases h
  unfold stepA
  rw [if_neg hs, h]
theorem stepA_none1 {d : Rd} {n : Nat} {l : List UInt8} (h1 : parseR ⟨l.toArray⟩ = none) (h2 : pairL d.pairs l = none) : stepA d n l = if l = [] ∨ l.head? = some 35 then d else { d with bad := if d.bad = 0 then n else d.bad } := by
  unfold stepA
  by_cases hs : l = [] ∨ l.head? = some 35
  · rw [if_pos hs, if_pos hs]
  · rw [if_neg hs, if_neg hs, h2]
    dsimp only
    rw [h1]

/-! ### Letters that are taken -/
theorem used_take1 {ps : List (Int × Int)} {k : Nat} {p : Int × Int} {c : Int} (h : ps[k]? = some p) : usedP (ps.take (k + 1)) c = (usedP (ps.take k) c || (p.1 == c || p.2 == c)) := by
  obtain ⟨hlt, he⟩ := List.getElem?_eq_some_iff.1 h
  unfold usedP
  rw [List.take_succ_eq_append_getElem hlt, he, List.any_append]
  simp
theorem used_in1 {ps : List (Int × Int)} {k : Nat} {p : Int × Int} {c : Int} (h : ps[k]? = some p) (hc : (p.1 == c || p.2 == c) = true) : usedP ps c = true := by
  unfold usedP
  rw [List.any_eq_true]
  exact ⟨p, List.mem_of_getElem? h, hc⟩

/-! ### What a line says has a line that says it, however long it is -/
theorem parseS_wide {s : ByteArray} {l : List It} (h : parseS s = some l) : parseS (textS l) = some l ∧ textG l = textS l ∧ (∀ it ∈ l, ∀ c ∈ it.set, Pt c) ∧ l.length ≤ 8 ∧ ∀ it ∈ l, it.set.length ≤ s.size := by
  unfold parseS at h
  split at h
  · cases h
  · rename_i cs hc
    obtain ⟨h1, h2⟩ := codesB_says hc
    obtain ⟨g1, g2, g3, g4⟩ := parseC_says h
    have hl : s.data.toList.length = s.size := (Lib.size_eq s).symm
    have hpt : ∀ it ∈ l, ∀ c ∈ it.set, Pt c := fun it hit c hc => h1 c ((g1 it hit).2.1 c hc)
    have hp : ∀ c ∈ textC l, Pt c := textC_mem hpt rfl rfl rfl rfl
    have ht : parseS (textS l) = some l := by
      unfold parseS
      show (match codesB (encL (textC l)) with | none => none | some cs => parseC cs) = _
      rw [codesB_enc _ hp]
      exact parseC_text (fun it hit => (g1 it hit).1) g3 g4
    refine ⟨ht, ?_, hpt, g4, fun it hit => by have := (g1 it hit).2.2; omega⟩
    unfold textG
    rw [ptL_enc hp]
    exact if_pos ht
theorem parseR_wide {s : ByteArray} {r : Ru} (h : parseR s = some r) :
    parseR (textR r) = some r ∧ r.cond.length ≤ 8 ∧ (∀ it ∈ r.cond, it.set.length ≤ s.size) ∧ r.strip.size ≤ 20 ∧ r.add.size ≤ 20 := by
  unfold parseR at h
  split at h
  · rename_i a f c x y z hw
    have hmem : ∀ w ∈ [a, f, c, x, y, z], (32 : UInt8) ∉ w ∧ w.length ≤ s.data.toList.length := fun w hw' => wordsL_mem _ w (by rw [hw]; exact hw')
    unfold parse6 at h
    split at h
    · rename_i hc
      split at h
      · rename_i u v l hx hy hz
        simp only [Option.some.injEq] at h
        subst h
        obtain ⟨hf1, hf2, hf3, hf4⟩ := flagL_says hc.2.1
        obtain ⟨hx1, hx2, hx3⟩ := partL_says hx (hmem x (by simp)).1
        obtain ⟨hy1, hy2, hy3⟩ := partL_says hy (hmem y (by simp)).1
        have hzl := (hmem z (by simp)).2
        have hsl : s.data.toList.length = s.size := (Lib.size_eq s).symm
        have hzz : (⟨z.toArray⟩ : ByteArray).size = z.length := by show z.toArray.size = _; rw [List.size_toArray]
        obtain ⟨k1, k2, k3, k4, k5⟩ := parseS_wide hz
        refine ⟨?_, k4, fun it hit => by have := k5 it hit; omega, hx3, hy3⟩
        have hnb : (32 : UInt8) ∉ (textS l).data.toList := by
          unfold parseS at hz
          split at hz
          · cases hz
          · rename_i cs hcs
            have hpt := (codesB_says hcs).1
            have he := encL_codesB hcs
            have hz32 : (32 : Int) ∉ cs := fun hm => (hmem z (by simp)).1 (by
              have := (encL_mem hpt (b := 32) (by decide)).2 hm
              rw [he] at this
              exact this)
            have hall := (parseC_says hz).1
            intro hm
            have hpc : ∀ c ∈ textC l, Pt c := textC_mem k3 rfl rfl rfl rfl
            have h1 := (encL_mem hpc (b := 32) (by decide)).1 hm
            exact textC_mem (P := fun c => c ≠ 32) (fun it hit c hc e => hz32 (e ▸ (hall it hit).2.1 c hc)) (by decide) (by decide) (by decide) (by decide) _ h1 rfl
        have hpre : (32 : UInt8) ∉ (if decide (a = pfx) = true then pfx else sfx) := by split <;> decide
        have hcr : (32 : UInt8) ∉ (if decide (c = [89]) = true then [89] else [78] : List UInt8) := by split <;> decide
        have hfl : (32 : UInt8) ∉ [UInt8.ofNat (flagL f).toNat] := by rw [← hf1]; exact hf2
        have hline : parseR ⟨(lineL ⟨decide (a = pfx), flagL f, decide (c = [89]), u, v, l⟩ (textG l).data.toList).toArray⟩ = some ⟨decide (a = pfx), flagL f, decide (c = [89]), u, v, l⟩ := by
          rw [k2]
          unfold parseR lineL
          dsimp only
          rw [wordsL_app _ _ hpre, wordsL_app _ _ hfl, wordsL_app _ _ hcr, wordsL_app _ _ hx2, wordsL_app _ _ hy2, wordsL_one _ hnb]
          dsimp only
          have ha : (if decide (a = pfx) = true then pfx else sfx) = a := by
            rcases hc.1 with e | e
            · rw [e]; simp
            · rw [e]; decide
          have hcc : (if decide (c = [89]) = true then [89] else [78] : List UInt8) = c := by
            rcases hc.2.2 with e | e
            · rw [e]; simp
            · rw [e]; decide
          rw [ha, hcc, ← hf1]
          unfold parse6
          rw [if_pos hc, hx1, hy1, show (⟨((textS l).data.toList).toArray⟩ : ByteArray) = textS l by simp, k1]
        unfold textR
        rw [if_pos ⟨by dsimp only; omega, hf4, hline⟩]
        exact hline
      · cases h
    · cases h
  · cases h
theorem parseR_nil : parseR ⟨#[]⟩ = none := by decide +kernel
/-- A text that a rule has is read as that rule. -/
theorem textR_some {r q : Ru} (h : parseR (textR r) = some q) : r = q := by
  unfold textR at h
  split at h
  · rename_i hc
    rw [hc.2.2] at h
    exact Option.some.inj h
  · rw [parseR_nil] at h; cases h
/-- Rules that lines say are told by their texts. -/
theorem rules_told : ∀ (xs ys : List Ru), (∀ r ∈ xs, ∃ s, parseR s = some r) → xs.map textR = ys.map textR → xs = ys
  | [], [], _, _ => rfl
  | [], y :: ys, _, h => by simp at h
  | x :: xs, [], _, h => by simp at h
  | x :: xs, y :: ys, h, e => by
    rw [List.map_cons, List.map_cons] at e
    obtain ⟨e1, e2⟩ := List.cons.inj e
    obtain ⟨s, hs⟩ := h x (List.mem_cons_self ..)
    have h1 := (parseR_wide hs).1
    rw [e1] at h1
    rw [textR_some h1, rules_told xs ys (fun r hr => h r (List.mem_cons_of_mem _ hr)) e2]
theorem readA_saidW : ∀ (ls : List (List UInt8)) (d : Rd) (n : Nat) r, r ∈ (readA d n ls).rules → r ∈ d.rules ∨ ∃ l ∈ ls, parseR ⟨l.toArray⟩ = some r
  | [], d, n, r, h => .inl h
  | l :: ls, d, n, r, h => by
    rcases readA_saidW ls (stepA d n l) (n + 1) r h with h | ⟨x, hx, h⟩
    · unfold stepA at h
      split at h
      · exact .inl h
      · split at h
        · exact .inl h
        · split at h
          · rename_i q hq
            rcases List.mem_append.1 h with h | h
            · exact .inl h
            · rw [List.mem_singleton] at h
              subst h
              exact .inr ⟨l, List.mem_cons_self .., hq⟩
          · exact .inl h
    · exact .inr ⟨x, List.mem_cons_of_mem _ hx, h⟩
theorem line_le {s l : List UInt8} (h : l ∈ linesL s) : l.length ≤ s.length := Nat.le_trans (mem_sum _ l h) (linesL_sum s)
/-- The rules of a file that is read: lines say them. -/
theorem parseA_from {s : ByteArray} {r : Ru} (h : r ∈ (parseA s).1.rules) : ∃ l : List UInt8, parseR ⟨l.toArray⟩ = some r ∧ l.length ≤ s.size ∧ s.size ≤ 65536 := by
  have hsl : s.data.toList.length = s.size := (Lib.size_eq s).symm
  unfold parseA at h
  split at h
  · simp [af0] at h
  · rename_i hs
    unfold endA at h
    split at h
    · simp [af0] at h
    · split at h
      · simp [af0] at h
      · split at h
        · simp [af0] at h
        · rcases readA_saidW _ _ _ r h with h | ⟨l, hl, h⟩
          · simp [rd0] at h
          · exact ⟨l, h, by have := line_le hl; omega, by omega⟩
/-- What the landed Text compares by tells the same as the document's. -/
theorem textA_told (a : Af) : textA a = if (parseA ⟨(fileL a).toArray⟩).2.2 = 0 ∧ ((parseA ⟨(fileL a).toArray⟩).1.rules.map textR = a.rules.map textR ∧ (parseA ⟨(fileL a).toArray⟩).1.pairs = a.pairs) then ⟨(fileL a).toArray⟩ else ⟨#[]⟩ := by
  obtain ⟨P, hP⟩ : ∃ P, P = parseA ⟨(fileL a).toArray⟩ := ⟨_, rfl⟩
  have hf : ∀ r ∈ P.1.rules, ∃ s, parseR s = some r := fun r hr => by
    rw [hP] at hr
    obtain ⟨l, h, _⟩ := parseA_from hr
    exact ⟨_, h⟩
  unfold textA
  rw [← hP]
  by_cases hc : P.1 = a ∧ P.2.2 = 0
  · rw [if_pos hc, if_pos ⟨hc.2, by rw [hc.1], by rw [hc.1]⟩]
  · rw [if_neg hc, if_neg]
    rintro ⟨h0, h1, h2⟩
    refine hc ⟨?_, h0⟩
    have := rules_told _ _ hf h1
    obtain ⟨⟨p1, p2⟩, q⟩ := P
    obtain ⟨a1, a2⟩ := a
    dsimp only at this h2
    rw [this, h2]
end
section
open Go Go.RowKit Go.Lib

set_option maxRecDepth 100000 in
set_option maxHeartbeats 1000000 in
theorem rvplain_any (k : Int) (w : World) :
    Calls Tryz.prog 49 #[.int .i64 k] w fun e w' => e = .returned (.bool (plainC k)) ∧ w' = w := by
  unfold plainC
  by_cases c1 : 65 ≤ k
  · by_cases c2 : k ≤ 90
    · rw [decide_eq_true (.inl ⟨c1, c2⟩)]
      go_enter Tryz.func49, Tryz.ntmps49
      go_wp2_with fail
      go_ret
      exact ⟨rfl, rfl⟩
    · by_cases c3 : 97 ≤ k
      · by_cases c4 : k ≤ 122
        · rw [decide_eq_true (.inr ⟨c3, c4⟩)]
          go_enter Tryz.func49, Tryz.ntmps49
          go_wp2_with fail
          go_ret
          exact ⟨rfl, rfl⟩
        · rw [decide_eq_false (by omega)]
          go_enter Tryz.func49, Tryz.ntmps49
          go_wp2_with fail
          go_ret
          exact ⟨rfl, rfl⟩
      · rw [decide_eq_false (by omega)]
        go_enter Tryz.func49, Tryz.ntmps49
        go_wp2_with fail
        go_ret
        exact ⟨rfl, rfl⟩
  · rw [decide_eq_false (by omega)]
    have c3 : ¬ 97 ≤ k := by omega
    go_enter Tryz.func49, Tryz.ntmps49
    go_wp2_with fail
    go_ret
    exact ⟨rfl, rfl⟩

set_option maxRecDepth 100000 in
set_option maxHeartbeats 1000000 in
theorem rpair_any (w : World) (s : ByteArray) (v : Value) (ps : List (Int × Int)) (h : PairsAt w v ps) (hs : s.size ≤ 1000000000) :
    Calls Tryz.prog 30 #[.string s, v] w fun e w' => PairE e (pairL ps s.data.toList) ∧ Below w.heap.size w w' := by
  obtain ⟨B, m, cB, rfl, hm⟩ : ∃ B m cB, v = .slice B m cB ∧ m = ps.length := by
    rcases h with ⟨rfl, a, c, rfl⟩ | ⟨b, off, c, rfl, _⟩
    · exact ⟨_, _, _, rfl, rfl⟩
    · exact ⟨_, _, _, rfl, rfl⟩
  have l2 := h.bd.1
  unfold maxLen at l2
  have HP := Lib.hid (pairs_open h)
  have HM := Lib.hid hm
  obtain ⟨W0, hW0⟩ : ∃ W0, W0 = w.alloc (.cells #[.int .i64 0, .int .i64 0] 75) := ⟨_, rfl⟩
  have hb0 : Below w.heap.size w W0 := by rw [hW0]; exact (Below.refl _ _).alloc (Nat.le_refl _) _
  have HB := Lib.hid hb0
  have BX := Lib.hid (show ∀ wx, Below W0.heap.size W0 wx → _ from fun wx hb => And.intro (box2 (hW0 ▸ hb)) (box2f (hW0 ▸ hb)))
  have HW0 := Lib.hid hW0
  have hsl : s.data.toList.length = s.size := (Lib.size_eq s).symm
  rw [← hm] at l2
  clear h hm hb0
  obtain ⟨o, ho⟩ : ∃ o, o = pairL ps s.data.toList := ⟨_, rfl⟩
  rw [← ho]
  have HO := Lib.hid ho
  clear ho
  by_cases h6 : (s.size : Int) < 6
  · have HZ := Lib.hid (show o = none from HO.out.trans (pairL_short (by omega)))
    clear hsl
    go_enter Tryz.func30, Tryz.ntmps30
    go_upto_region 1 with fail
    rw [← HW0.out]
    clear hW0
    obtain ⟨⟨x0, x1⟩, fz⟩ := BX.out W0 (Below.refl _ _)
    go_wp2_with fail
    exact bodyPost_ret (v := .tuple #[.agg #[.int .i64 0, .int .i64 0], .bool false]) (by simp [results, Tryz.results30, go_sem, x0, x1]) rfl ⟨PairE.none HZ.out rfl, put2_belowV9 HB.out (Nat.le_refl _) _ _⟩
  have e5 : (s.extract 0 5).toList = s.data.toList.take 5 := by
    rw [ByteArray.toList_eq, ByteArray.data_extract, Array.toList_extract]; simp
  have hd5 : (s.extract 5 s.size).data.toList = s.data.toList.drop 5 := by
    rw [ByteArray.data_extract, Array.toList_extract]
    exact List.take_of_length_le (by rw [List.length_drop]; show s.data.toList.length - 5 ≤ s.size - 5; omega)
  have g5 : (5 : Int) ≤ s.size := by omega
  by_cases hc5 : s.data.toList.take 5 = caseW
  case neg =>
    have HZ := Lib.hid (show o = none from HO.out.trans (pairL_head hc5))
    have hne : ((s.extract 0 5).toList == [67, 65, 83, 69, 32]) = false := by rw [e5]; simpa [caseW] using hc5
    clear hsl e5 hd5 hc5
    go_enter Tryz.func30, Tryz.ntmps30
    go_upto_region 1 with fail
    rw [← HW0.out]
    clear hW0
    obtain ⟨⟨x0, x1⟩, fz⟩ := BX.out W0 (Below.refl _ _)
    go_wp2_with fail
    exact bodyPost_ret (v := .tuple #[.agg #[.int .i64 0, .int .i64 0], .bool false]) (by simp [results, Tryz.results30, go_sem, x0, x1]) rfl ⟨PairE.none HZ.out rfl, put2_belowV9 HB.out (Nat.le_refl _) _ _⟩
  have hne : ((s.extract 0 5).toList == [67, 65, 83, 69, 32]) = true := by rw [e5]; simpa [caseW] using hc5
  have CC := Lib.hid (rcodes_any (s.extract 5 s.size) W0 (by rw [ByteArray.size_extract]; omega))
  rw [hd5] at CC
  have HC5 := Lib.hid hc5
  clear hsl e5 hd5 hc5
  go_enter Tryz.func30, Tryz.ntmps30
  go_upto_region 1 with fail
  rw [← HW0.out]
  clear hW0
  go_wp2_with (go_at_call 44; refine CC.out.mono ?_)
  rintro e w1 v1 rfl hown hb1
  have hin := v_own hown rfl
  obtain ⟨D, dc, rfl, hD⟩ := ints_open hin
  obtain ⟨⟨x0, x1⟩, fz⟩ := BX.out w1 hb1
  have HX1 := Lib.hid hb1
  have HB1 := Lib.hid (HB.out.trans (hb1.mono HB.out.size))
  have CPL := Lib.hid (fun k wx => rvplain_any k wx)
  clear hown hin hb1 CC
  obtain ⟨cs, hcs⟩ : ∃ cs, cs = codesL (s.data.toList.drop 5) := ⟨_, rfl⟩
  rw [← hcs] at hD ⊢
  obtain ⟨bv, hbv⟩ : ∃ b, b = validD (s.data.toList.drop 5) := ⟨_, rfl⟩
  rw [← hbv]
  have HCS := Lib.hid (And.intro hcs hbv)
  obtain ⟨n, hn⟩ : ∃ n, n = cs.length := ⟨_, rfl⟩
  rw [← hn] at hD ⊢
  have HD := Lib.hid hD
  clear hcs hbv hD
  cases bv with
  | false =>
    have HZ := Lib.hid (show o = none from HO.out.trans (pairL_codes (.inl HCS.out.2.symm)))
    clear hn
    go_upto_region 4 with fail
    go_quiet ((go_at_call 49; refine (CPL.out _ _).mono ?_; rintro e w5 ⟨rfl, rfl⟩; exact ⟨rfl, _, rfl⟩))
    go_wp2_with fail
    exact bodyPost_ret (v := .tuple #[.agg #[.int .i64 0, .int .i64 0], .bool false]) (by simp [results, Tryz.results30, go_sem, x0, x1]) rfl ⟨PairE.none HZ.out rfl, put2_belowV9 (below_drewN HB1.out _) (Nat.le_refl _) _ _⟩
  | true =>
    by_cases hn2 : n = 2
    case neg =>
      have HZ := Lib.hid (show o = none from HO.out.trans (pairL_codes (.inr (by rw [← HCS.out.1, ← hn]; exact hn2))))
      have hne2 : ((n : Int) == 2) = false := by simp; omega
      have hne3 : ((n : Int) != 2) = true := by rw [bne, hne2]; rfl
      clear hn hn2
      go_upto_region 4 with fail
      go_quiet ((go_at_call 49; refine (CPL.out _ _).mono ?_; rintro e w5 ⟨rfl, rfl⟩; exact ⟨rfl, _, rfl⟩))
      go_wp2_with fail
      exact bodyPost_ret (v := .tuple #[.agg #[.int .i64 0, .int .i64 0], .bool false]) (by simp [results, Tryz.results30, go_sem, x0, x1]) rfl ⟨PairE.none HZ.out rfl, put2_belowV9 (below_drewN HB1.out _) (Nat.le_refl _) _ _⟩
    subst hn2
    obtain ⟨g, t, rfl⟩ : ∃ g t, cs = [g, t] := by
      match cs, hn with
      | [g, t], _ => exact ⟨g, t, rfl⟩
    obtain ⟨q, oo, rfl, hq, hcap, c0⟩ := HD.out 0 g rfl
    obtain ⟨q', oo', e, -, -, c1⟩ := HD.out 1 t rfl
    injection e with e
    injection e with e1 e2
    subst e1 e2
    have hcap2 : (2 : Int) ≤ dc := by have : 2 ≤ dc := hcap; omega
    simp only [Nat.add_zero] at c0
    have hO := HO.out.trans (pairL_two HC5.out HCS.out.2.symm HCS.out.1.symm)
    clear hn hcap
    by_cases h1 : g = t
    · have HZ := Lib.hid (show o = none from hO.trans (if_neg (by unfold okPair; rw [beq_iff_eq.2 h1]; simp)))
      have d1 : (g == t) = true := by simpa using h1
      clear hO h1
      go_upto_region 4 with fail
      go_quiet ((go_at_call 49; refine (CPL.out _ _).mono ?_; rintro e w5 ⟨rfl, rfl⟩; exact ⟨rfl, _, rfl⟩))
      go_wp2_with fail
      exact bodyPost_ret (v := .tuple #[.agg #[.int .i64 0, .int .i64 0], .bool false]) (by simp [results, Tryz.results30, go_sem, x0, x1]) rfl ⟨PairE.none HZ.out rfl, put2_belowV9 (below_drewN HB1.out _) (Nat.le_refl _) _ _⟩
    have d1 : (g == t) = false := by simpa using h1
    cases h2 : plainC g with
    | true =>
      have HZ := Lib.hid (show o = none from hO.trans (if_neg (by unfold okPair; rw [h2]; simp)))
      clear hO
      go_upto_region 4 with fail
      go_quiet ((go_at_call 49; refine (CPL.out _ _).mono ?_; rintro e w5 ⟨rfl, rfl⟩; exact ⟨rfl, _, rfl⟩))
      go_wp2_with fail
      exact bodyPost_ret (v := .tuple #[.agg #[.int .i64 0, .int .i64 0], .bool false]) (by simp [results, Tryz.results30, go_sem, x0, x1]) rfl ⟨PairE.none HZ.out rfl, put2_belowV9 (below_drewN HB1.out _) (Nat.le_refl _) _ _⟩
    | false =>
      cases h3 : plainC t with
      | true =>
        have HZ := Lib.hid (show o = none from hO.trans (if_neg (by unfold okPair; rw [h3]; simp)))
        clear hO
        go_upto_region 4 with fail
        go_quiet ((go_at_call 49; refine (CPL.out _ _).mono ?_; rintro e w5 ⟨rfl, rfl⟩; exact ⟨rfl, _, rfl⟩))
        go_wp2_with fail
        exact bodyPost_ret (v := .tuple #[.agg #[.int .i64 0, .int .i64 0], .bool false]) (by simp [results, Tryz.results30, go_sem, x0, x1]) rfl ⟨PairE.none HZ.out rfl, put2_belowV9 (below_drewN HB1.out _) (Nat.le_refl _) _ _⟩
      | false =>
        have HO2 := Lib.hid (show o = if (!usedP ps g && !usedP ps t) = true then some (g, t) else none by
          rw [hO]; unfold okPair; rw [d1, h2, h3]; rfl)
        clear hO h1
        go_upto_region 4 with fail
        go_quiet ((go_at_call 49; refine (CPL.out _ _).mono ?_; rintro e w5 ⟨rfl, rfl⟩; exact ⟨rfl, _, rfl⟩))
        have hbd : Below W0.heap.size W0 (w1.drewN nq) := below_drewN HX1.out _
        have c0d : (w1.drewN nq).cell? ⟨q, oo, none⟩ = some (.int .i64 g) := c0
        have c1d : (w1.drewN nq).cell? ⟨q, oo + 1, none⟩ = some (.int .i64 t) := c1
        have hqd : q < (w1.drewN nq).heap.size := hq
        generalize w1.drewN nq = w2 at hbd c0d c1d hqd ⊢
        have HX2 := Lib.hid hbd
        have HCG := Lib.hid (And.intro c0d (And.intro c1d hqd))
        clear c0 c1 c0d c1d hbd x0 x1 fz hq hqd
        go_wp2_with fail
        go_loopg [8] m (fun gh i wr => ∃ k : Nat, k + gh = m ∧ i = .int .i64 k ∧ Hid (Below W0.heap.size W0 wr ∧ Below w2.heap.size w2 wr ∧ usedP (ps.take k) g = false ∧ usedP (ps.take k) t = false))
        case atStart => exact ⟨0, by omega, rfl, Lib.hid ⟨HX2.out, Below.refl _ _, by simp [usedP], by simp [usedP]⟩⟩
        case round =>
          obtain ⟨k, hk, rfl, HK⟩ := hrel
          have hk0 : (0 : Int) ≤ k := by omega
          obtain ⟨⟨x0, x1⟩, fz⟩ := BX.out wr HK.out.1
          have HRB := Lib.hid (HB.out.trans (HK.out.1.mono HB.out.size))
          have c0 := (HK.out.2.1.cell (p := ⟨q, oo, none⟩) HCG.out.2.2).trans HCG.out.1
          have c1 := (HK.out.2.1.cell (p := ⟨q, oo + 1, none⟩) HCG.out.2.2).trans HCG.out.2.1
          rcases Nat.eq_zero_or_pos gk with h0 | h0
          · have hkm : ¬ (k : Int) < m := by omega
            have hfull : ps.take k = ps := List.take_of_length_le (by have := HM.out; omega)
            have HZ := Lib.hid (show o = some (g, t) from HO2.out.trans (if_pos (by
              have h := HK.out.2.2
              rw [hfull] at h
              rw [h.1, h.2]; rfl)))
            clear hfull
            have z0 : wr.drew.cell? ⟨q, oo, none⟩ = _ := c0
            have z1 : wr.drew.cell? ⟨q, oo + 1, none⟩ = _ := c1
            have y0 : wr.drew.cell? ⟨w.heap.size, 0, none⟩ = _ := x0
            have y1 : wr.drew.cell? ⟨w.heap.size, 1, none⟩ = _ := x1
            have yf : ∀ o, wr.drew.frozen? ⟨w.heap.size, o, none⟩ = false := fz
            have HD2 := Lib.hid (show Below w.heap.size w wr.drew from below_drewN HRB.out 1)
            go_upto_region 11 with fail
            go_still_tail 7, (by kernel_rfl)
            repeat still_step
            try refine wpStill_nil ?_
            change wpList _ _ _ _ _ wr.drew
            clear c0 c1 x0 x1 fz
            generalize wr.drew = wd at *
            go_wp2_with fail
            refine bodyPost_ret (v := .tuple #[.agg #[.int .i64 g, .int .i64 t], .bool true]) (by simp [results, Tryz.results30, go_sem, y0, y1]) rfl ⟨?_, put2_belowV9 HD2.out (Nat.le_refl _) _ _⟩
            unfold PairE
            rw [HZ.out]
            rfl
          · have hkm : (k : Int) < m := by omega
            obtain ⟨p, hp⟩ : ∃ p, ps[k]? = some p := ⟨_, List.getElem?_eq_getElem (by have := HM.out; omega)⟩
            obtain ⟨b, off, rfl, hb, hc, e0, e1⟩ := HP.out k p hp
            have f0 := (HRB.out.cell (p := ⟨b, off + k * 2, none⟩) hb).trans e0
            have f1 := (HRB.out.cell (p := ⟨b, off + k * 2 + 1, none⟩) hb).trans e1
            have hm1 : (m : Int) ≤ cB := by omega
            obtain ⟨a1, a2⟩ := p
            dsimp only at f0 f1
            clear e0 e1 hb hc
            by_cases j1 : a1 = g
            · subst j1
              have d5 : (a1 == a1) = true := by simp
              have HZ := Lib.hid (show o = none from HO2.out.trans (if_neg (by rw [used_in hp (c := a1) (.inl rfl)]; simp)))
              go_upto_region 9 with fail
              go_quiet (fail)
              go_wp2_with fail
              exact bodyPost_ret (v := .tuple #[.agg #[.int .i64 0, .int .i64 0], .bool false]) (by simp [results, Tryz.results30, go_sem, x0, x1]) rfl ⟨PairE.none HZ.out rfl, put2_belowV9 (below_drewN HRB.out _) (Nat.le_refl _) _ _⟩
            have k1 : (a1 == g) = false := by simpa using j1
            by_cases j2 : a1 = t
            · subst j2
              have d5 : (a1 == a1) = true := by simp
              have HZ := Lib.hid (show o = none from HO2.out.trans (if_neg (by rw [used_in hp (c := a1) (.inl rfl)]; simp)))
              go_upto_region 9 with fail
              go_quiet (fail)
              go_wp2_with fail
              exact bodyPost_ret (v := .tuple #[.agg #[.int .i64 0, .int .i64 0], .bool false]) (by simp [results, Tryz.results30, go_sem, x0, x1]) rfl ⟨PairE.none HZ.out rfl, put2_belowV9 (below_drewN HRB.out _) (Nat.le_refl _) _ _⟩
            have k2 : (a1 == t) = false := by simpa using j2
            by_cases j3 : a2 = g
            · subst j3
              have d5 : (a2 == a2) = true := by simp
              have HZ := Lib.hid (show o = none from HO2.out.trans (if_neg (by rw [used_in hp (c := a2) (.inr rfl)]; simp)))
              go_upto_region 9 with fail
              go_quiet (fail)
              go_wp2_with fail
              exact bodyPost_ret (v := .tuple #[.agg #[.int .i64 0, .int .i64 0], .bool false]) (by simp [results, Tryz.results30, go_sem, x0, x1]) rfl ⟨PairE.none HZ.out rfl, put2_belowV9 (below_drewN HRB.out _) (Nat.le_refl _) _ _⟩
            have k3 : (a2 == g) = false := by simpa using j3
            by_cases j4 : a2 = t
            · subst j4
              have d5 : (a2 == a2) = true := by simp
              have HZ := Lib.hid (show o = none from HO2.out.trans (if_neg (by rw [used_in hp (c := a2) (.inr rfl)]; simp)))
              go_upto_region 9 with fail
              go_quiet (fail)
              go_wp2_with fail
              exact bodyPost_ret (v := .tuple #[.agg #[.int .i64 0, .int .i64 0], .bool false]) (by simp [results, Tryz.results30, go_sem, x0, x1]) rfl ⟨PairE.none HZ.out rfl, put2_belowV9 (below_drewN HRB.out _) (Nat.le_refl _) _ _⟩
            have k4 : (a2 == t) = false := by simpa using j4
            have u1 : usedP (ps.take (k + 1)) g = false := by rw [used_take hp, HK.out.2.2.1, k1, k3]; rfl
            have u2 : usedP (ps.take (k + 1)) t = false := by rw [used_take hp, HK.out.2.2.2, k2, k4]; rfl
            have HU := Lib.hid (And.intro u1 u2)
            clear u1 u2 hp j1 j2 j3 j4
            go_upto_region 9 with fail
            go_quiet (fail)
            have HK2 := Lib.hid (show Below W0.heap.size W0 (wr.drewN nq) ∧ Below w2.heap.size w2 (wr.drewN nq) ∧ usedP (ps.take (k + 1)) g = false ∧ usedP (ps.take (k + 1)) t = false from ⟨below_drewN HK.out.1 _, below_drewN HK.out.2.1 _, HU.out.1, HU.out.2⟩)
            go_wp2_with fail
            go_roundg (gk - 1)
            case measure => omega
            case rel => exact ⟨k + 1, by omega, by go_num, HK2⟩
end
end Go.Proofs.YtcbmfkgekhadkaaGreatDoor
