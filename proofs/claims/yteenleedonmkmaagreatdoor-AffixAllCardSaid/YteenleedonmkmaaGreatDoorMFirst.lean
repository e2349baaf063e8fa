/- slices.Index, Contains, Equal, Clone at []int, over slices that read as numbers. -/
import Derived.Test.YteenleedonmkmaaGreatDoorMMem
import Derived.Lib.Hide
import Derived.Lib.SliceRun
import Derived.Test.YteenleedonmkmaaGreatDoorMCodes
namespace Go.Proofs.YteenleedonmkmaaGreatDoor
section
open Go Go.RowKit

theorem ints_bd {w : World} {v : Value} {cs : List Int} (h : IntsAt w v cs) : cs.length ≤ 9223372036854775807 := by
  rcases h with ⟨rfl, _⟩ | ⟨b, off, cap, rfl, h1, h2, h3, h4⟩
  · exact Nat.zero_le _
  · unfold maxLen at h3; omega

set_option maxHeartbeats 1000000 in
theorem index_any (w : World) (v : Value) (cs : List Int) (x : Int) (h : IntsAt w v cs) :
    Calls Tryz.prog 103 #[v, .int .i64 x] w fun e w' => ∃ r : Int, e = .returned (.int .i64 r) ∧ w' = w ∧ ((r = -1 ∧ ∀ c ∈ cs, c ≠ x) ∨ ∃ k : Nat, r = k ∧ cs[k]? = some x ∧ ∀ j, j < k → cs[j]? ≠ some x) := by
  have hbig := ints_bd h
  obtain ⟨A, cap, rfl, hA⟩ := ints_open h
  clear h
  have HA := Lib.hid hA
  clear hA
  obtain ⟨n, hn⟩ : ∃ n, n = cs.length := ⟨_, rfl⟩
  rw [← hn] at hbig ⊢
  have HN := Lib.hid hn
  clear hn
  go_enter Tryz.func103, Tryz.ntmps103
  go_wp2
  go_loopg [5, 8] n (fun g _s5 s8 wr => ∃ k : Nat, k + g = n ∧ s8 = .int .i64 k ∧ wr = w ∧ Hid (∀ j, j < k → cs[j]? ≠ some x))
  case atStart => exact ⟨0, by omega, rfl, rfl, Lib.hid fun j hj => absurd hj (Nat.not_lt_zero _)⟩
  case round =>
    obtain ⟨k, hk, rfl, rfl, HP⟩ := hrel
    rcases Nat.eq_zero_or_pos gk with h0 | h0
    · have hkn : k = n := by omega
      subst hkn
      go_wp2
      go_ret
      refine ⟨_, rfl, rfl, .inl ⟨rfl, fun c hc e => ?_⟩⟩
      obtain ⟨j, hj, hjc⟩ := List.getElem_of_mem hc
      exact HP.out j (by have := HN.out; omega) (by rw [List.getElem?_eq_getElem hj, hjc, e])
    · have hkn : (k : Int) < n := by omega
      obtain ⟨c, hc⟩ : ∃ c, cs[k]? = some c := ⟨_, List.getElem?_eq_getElem (by have := HN.out; omega)⟩
      obtain ⟨q, o, rfl, hq, hqc, cq⟩ := HA.out k c hc
      have HC := Lib.hid hc
      clear hc hqc
      have tk1 : (0 : Int) ≤ k := by omega
      by_cases hx : x = c
      · subst hx
        have d : (x == x) = true := by simp
        go_wp2_with fail
        go_ret
        exact ⟨_, rfl, rfl, .inr ⟨k, rfl, HC.out, HP.out⟩⟩
      · have d : (x == c) = false := by simpa using hx
        have HX := Lib.hid hx
        clear hx
        go_wp2_with fail
        go_roundg (gk - 1)
        case measure => omega
        case rel =>
          refine ⟨k + 1, by omega, by go_num, rfl, Lib.hid fun j hj => ?_⟩
          rcases Nat.lt_or_ge j k with hjk | hjk
          · exact HP.out j hjk
          · obtain rfl : j = k := by omega
            rw [HC.out]
            intro e
            exact HX.out (Option.some.inj e).symm

theorem ret_bool {a b : Bool} (h : a = b) : Ending.returned (.bool a) = .returned (.bool b) := by rw [h]
set_option maxRecDepth 100000 in
theorem int_info : ∃ i0 : TypeInfo, Tryz.prog.info? 3 = some i0 ∧ i0.zero = some (.int .i64 0) ∧ i0.size = 1 ∧ i0.bytes = 8 := ⟨_, rfl, rfl, rfl, rfl⟩

set_option maxHeartbeats 2000000 in
theorem clone_any (w : World) (v : Value) (cs : List Int) (h : IntsAt w v cs) (h0 : 0 < cs.length) (hn : cs.length ≤ 1000000000000) :
    Calls Tryz.prog 104 #[v] w fun e w' => ∃ v', e = .returned v' ∧ w'.ownsRow w.heap.size 3 1 v' cs.length (cs.map (Value.int .i64)) ∧ Below w.heap.size w w' := by
  obtain ⟨i0, hi, hz0, hz1, hz2⟩ := int_info
  obtain ⟨rfl, _⟩ | ⟨b, off, cap, rfl, h1, h2, h3, h4⟩ := h
  · simp at h0
  have HC := Lib.hid h4
  clear h4
  obtain ⟨n, hN⟩ : ∃ n, n = cs.length := ⟨_, rfl⟩
  rw [← hN] at h0 hn h2 ⊢
  have hq : ∀ W, (binOp .eql 37 (.slice (some ⟨b, off, none⟩) n cap) (.slice none 0 0)).run Tryz.prog W = .ok (.bool false) W := fun W => Lib.run_eql_slice_nil W _ _ _ _ _ _ _ Tryz.underlying37
  have hcell : ∀ o j u, (cs.map (Value.int .i64))[j]? = some u → (w.alloc o).cell? ((⟨b, off, none⟩ : Addr).add j) = some u := by
    intro o j u hj
    rw [Addr.add_lit]
    rw [List.getElem?_map, Option.map_eq_some_iff] at hj
    obtain ⟨c, hc, rfl⟩ := hj
    exact (cell_old (p := ⟨b, off + j, none⟩) ((Below.refl _ w).alloc (Nat.le_refl _) o) h1).trans (HC.out j c hc)
  have hone : ∀ u ∈ cs.map (Value.int .i64), u.oneCell' = true := by
    intro u hu; obtain ⟨x, _, rfl⟩ := List.mem_map.1 hu; rfl
  have hlen : (cs.map (Value.int .i64)).length = n * 1 := by simp [hN]
  have HL := Lib.hid (And.intro hcell (And.intro hone hlen))
  clear hcell hone hlen hN
  go_enter Tryz.func104, Tryz.ntmps104
  go_wp2_with (at_builtin; refine wpList_append_own _ rfl _ _ 37 rfl w.heap.size 3 i0 (.int .i64 0) 1 8 Tryz.underlying37 hi hz0 hz1 hz2 rfl (by decide) _ _ _ rfl (World.ownsRow_made w #[] 0 (Nat.le_refl _) (Nat.zero_le _) rfl) ⟨b, off, none⟩ n cap (cs.map (Value.int .i64)) rfl HL.out.2.2 (HL.out.1 _) HL.out.2.1 (by unfold maxLen; omega) (by omega) (by simp) ?_)
  intro v' w1 hown hgrow _
  go_wp2
  go_ret
  refine ⟨v', rfl, by simpa using hown, ?_⟩
  exact ((Below.refl _ w).alloc (Nat.le_refl _) _).grown hgrow (by simp) (by intro k hk; simp [Value.ownBlock] at hk; omega)

set_option maxHeartbeats 2000000 in
theorem equal_any (w : World) (v v' : Value) (cs ds : List Int) (h : IntsAt w v cs) (h' : IntsAt w v' ds) :
    Calls Tryz.prog 86 #[v, v'] w fun e w' => e = .returned (.bool (decide (cs = ds))) ∧ Below w.heap.size w w' := by
  have hbig := ints_bd h
  have hbig' := ints_bd h'
  obtain ⟨A, cap, rfl, hA⟩ := ints_open h
  obtain ⟨A', cap', rfl, hA'⟩ := ints_open h'
  have HA := Lib.hid hA
  have HA' := Lib.hid hA'
  clear hA hA' h h'
  by_cases hne : cs.length = ds.length
  · obtain ⟨n, hn⟩ : ∃ n, n = cs.length := ⟨_, rfl⟩
    rw [← hne, ← hn]
    rw [← hn] at hbig
    have HN := Lib.hid (And.intro hn hne)
    clear hn hne hbig'
    go_enter Tryz.func86, Tryz.ntmps86
    go_wp2
    go_loopg [5, 13] n (fun g _s5 i wr => ∃ k : Nat, k + g = n ∧ i = .int .i64 k ∧ Hid (Below w.heap.size w wr) ∧ Hid (∀ j, j < k → cs[j]? = ds[j]?))
    case atStart => exact ⟨0, by omega, rfl, Lib.hid (Below.refl _ _), Lib.hid fun j hj => absurd hj (Nat.not_lt_zero _)⟩
    case round =>
      obtain ⟨k, hk, rfl, HB, HP⟩ := hrel
      rcases Nat.eq_zero_or_pos gk with h0 | h0
      · have hkn : k = n := by omega
        subst hkn
        go_wp2
        go_ret
        have he : cs = ds := by
          apply List.ext_getElem?
          intro j
          rcases Nat.lt_or_ge j k with hjk | hjk
          · exact HP.out j hjk
          · have h1 := HN.out
            rw [List.getElem?_eq_none (by omega), List.getElem?_eq_none (by omega)]
        exact ⟨ret_bool (decide_eq_true he).symm, HB.out⟩
      · have hkn : (k : Int) < n := by omega
        obtain ⟨c, hc⟩ : ∃ c, cs[k]? = some c := ⟨_, List.getElem?_eq_getElem (by have := HN.out; omega)⟩
        obtain ⟨d, hd⟩ : ∃ d, ds[k]? = some d := ⟨_, List.getElem?_eq_getElem (by have := HN.out; omega)⟩
        obtain ⟨q, o, rfl, hq, -, cq⟩ := HA.out k c hc
        obtain ⟨q', o', rfl, hq', -, cq'⟩ := HA'.out k d hd
        have p2 := (HB.out.cell (p := ⟨q, o + k, none⟩) hq).trans cq
        have r2 := (HB.out.cell (p := ⟨q', o' + k, none⟩) hq').trans cq'
        have tk1 : (0 : Int) ≤ k := by omega
        have HC := Lib.hid (And.intro hc hd)
        clear cq cq' hc hd
        by_cases hx : c = d
        · subst hx
          have dc : (c != c) = false := by simp
          go_wp2_with fail
          go_quiet (fail)
          go_wp2_with fail
          go_roundg (gk - 1)
          case measure => omega
          case rel =>
            refine ⟨k + 1, by omega, by go_num, Lib.hid (below_drewN HB.out _), Lib.hid fun j hj => ?_⟩
            rcases Nat.lt_or_ge j k with hjk | hjk
            · exact HP.out j hjk
            · obtain rfl : j = k := by omega
              rw [HC.out.1, HC.out.2]
        · have dc : (c != d) = true := by simpa using hx
          have he : ¬ cs = ds := fun e => by
            have h1 := HC.out
            rw [e] at h1
            exact hx (Option.some.inj (h1.1.symm.trans h1.2))
          have HE := Lib.hid he
          clear hx he
          go_wp2_with fail
          go_quiet (fail)
          go_wp2_with fail
          go_ret
          exact ⟨ret_bool (decide_eq_false HE.out).symm, below_drewN HB.out _⟩
  · have he : ¬ cs = ds := fun e => hne (by rw [e])
    rw [decide_eq_false he]
    have hn1 : ¬ ((cs.length : Int) = ds.length) := by omega
    clear he
    go_enter Tryz.func86, Tryz.ntmps86
    go_wp2
    go_ret
    exact ⟨rfl, Below.refl _ _⟩
end
section
open Go Go.RowKit

theorem takeSet_noneO : ∀ {r : List Int}, (∀ c ∈ r, c ≠ 93) → takeSet r = none
  | [], _ => rfl
  | c :: r, h => by
    unfold takeSet
    rw [if_neg (h c (List.mem_cons_self ..)), takeSet_noneO fun x hx => h x (List.mem_cons_of_mem _ hx)]
    rfl
/-- What a bracket's codes are, by where the closing one stands. -/
theorem setC_none {neg : Bool} {r : List Int} (h : ∀ c ∈ r, c ≠ 93) : setC neg r = none := by
  unfold setC; rw [takeSet_noneO h]
theorem split_at {r : List Int} {k : Nat} (hk : r[k]? = some 93) (hne : ∀ j, j < k → r[j]? ≠ some 93) : r = r.take k ++ 93 :: r.drop (k + 1) ∧ (∀ c ∈ r.take k, c ≠ 93) ∧ (r.take k).length = k := by
  obtain ⟨hlt, he⟩ := List.getElem?_eq_some_iff.1 hk
  refine ⟨?_, fun c hc e => ?_, by rw [List.length_take]; omega⟩
  · have := List.take_append_drop k r
    rw [List.drop_eq_getElem_cons hlt, he] at this
    exact this.symm
  · obtain ⟨j, hj, hjc⟩ := List.getElem_of_mem hc
    rw [List.length_take] at hj
    refine hne j (by omega) ?_
    rw [List.getElem?_eq_getElem (by omega), ← e, ← hjc, List.getElem_take]
/-- What a read item is answered as. -/
def HeadR (w w' : World) (cs : List Int) (e : Ending) : Prop :=
  match headC cs with
  | none => e = .returned (.tuple #[.agg #[.bool false, .bool false, .slice none 0 0], .int .i64 0])
  | some (it, r) => ∃ sv, e = .returned (.tuple #[.agg #[.bool it.any, .bool it.not, sv], .int .i64 ((cs.length - r.length : Nat) : Int)]) ∧ IntsAt w' sv it.set ∧ ∀ b, sv.ownBlock = some b → w.heap.size ≤ b ∧ b < w'.heap.size

theorem HeadR.no {w w' : World} {cs : List Int} {e : Ending} (h : headC cs = none) (he : e = .returned (.tuple #[.agg #[.bool false, .bool false, .slice none 0 0], .int .i64 0])) : HeadR w w' cs e := by
  unfold HeadR; rw [h]; exact he
theorem HeadR.yes {w w' : World} {cs r : List Int} {it : It} {e : Ending} {sv : Value} {n : Nat} (h : headC cs = some (it, r)) (hn : cs.length - r.length = n) (he : e = .returned (.tuple #[.agg #[.bool it.any, .bool it.not, sv], .int .i64 n])) (hi : IntsAt w' sv it.set) (hb : ∀ b, sv.ownBlock = some b → w.heap.size ≤ b ∧ b < w'.heap.size) : HeadR w w' cs e := by
  unfold HeadR; rw [h]; subst hn; exact ⟨sv, he, hi, hb⟩
/-- A part of a slice reads as that part. -/
theorem ints_part {w : World} {b off n cap : Nat} {cs : List Int} (hlt : b < w.heap.size) (hm : cap ≤ maxLen) (hc : ∀ (i : Nat) c, cs[i]? = some c → w.cell? ⟨b, off + i, none⟩ = some (.int .i64 c)) (k m : Nat) (hn : n = ((cs.drop k).take m).length) (hcap : n + k ≤ cap) : IntsAt w (.slice (some ⟨b, off + k, none⟩) n (cap - k)) ((cs.drop k).take m) := by
  subst hn
  refine .inr ⟨b, off + k, cap - k, rfl, hlt, by omega, by omega, fun i c hi => ?_⟩
  have := (List.getElem?_eq_some_iff.1 hi).1
  rw [List.getElem?_take_of_lt (by rw [List.length_take] at this; omega), List.getElem?_drop] at hi
  rw [Nat.add_assoc]
  exact hc _ _ hi

/-- Numbers in another block stand when a box of three cells is written. -/
theorem ints_set3 {w : World} {sv : Value} {cs : List Int} {H : Nat} (h : IntsAt w sv cs) (hb : ∀ b, sv.ownBlock = some b → b ≠ H) (a b c : Value) : IntsAt (((w.setCell ⟨H, 0, none⟩ a).setCell ⟨H, 1, none⟩ b).setCell ⟨H, 2, none⟩ c) sv cs := by
  refine h.still (by simp [World.setCell]) fun g hg _ => ?_
  have hne := hb g hg
  rw [Below.heap_setCell _ _ _ _ hne, Below.heap_setCell _ _ _ _ hne, Below.heap_setCell _ _ _ _ hne]
theorem below_set3 {B : Nat} {w w' : World} {H : Nat} (h : Below B w w') (hB : B ≤ H) (a b c : Value) : Below B w (((w'.setCell ⟨H, 0, none⟩ a).setCell ⟨H, 1, none⟩ b).setCell ⟨H, 2, none⟩ c) :=
  ((h.setCell (p := ⟨H, 0, none⟩) hB _).setCell (p := ⟨H, 1, none⟩) hB _).setCell (p := ⟨H, 2, none⟩) hB _
theorem own_new {w w2 : World} {o : Obj} {sv : Value} {n : Nat} {xs : List Value} (h : w2.ownsRow (w.alloc o).heap.size 3 1 sv n xs) : ∀ b, sv.ownBlock = some b → w.heap.size < b ∧ b < w2.heap.size := by
  intro b hb
  have := h.lt b hb
  rw [World.size_alloc] at this
  omega

theorem bracket_cases {r : List Int} {k : Nat} (hk : (91 :: r)[k]? = some 93) (hne : ∀ j, j < k → (91 :: r)[j]? ≠ some 93) : 1 ≤ k ∧ k < (91 :: r).length ∧
    ((k = 1 ∧ headC (91 :: r) = none) ∨ (k = 2 ∧ (91 :: r)[1]? = some 94 ∧ headC (91 :: r) = none) ∨
    (3 ≤ k ∧ (91 :: r)[1]? = some 94 ∧ ∃ set b, headC (91 :: r) = some (⟨false, true, set⟩, b) ∧ set = ((91 :: r).drop 2).take (k - 2) ∧ set.length = k - 2 ∧ (91 :: r).length - b.length = k + 1) ∨
    (2 ≤ k ∧ ∃ c, (91 :: r)[1]? = some c ∧ c ≠ 94 ∧ ∃ set b, headC (91 :: r) = some (⟨false, false, set⟩, b) ∧ set = ((91 :: r).drop 1).take (k - 1) ∧ set.length = k - 1 ∧ (91 :: r).length - b.length = k + 1)) := by
  obtain ⟨hlt, -⟩ := List.getElem?_eq_some_iff.1 hk
  have h1 : 1 ≤ k := by
    rcases Nat.eq_zero_or_pos k with rfl | h
    · simp at hk
    · exact h
  obtain ⟨m, rfl⟩ : ∃ m, k = m + 1 := ⟨k - 1, by omega⟩
  rw [List.getElem?_cons_succ] at hk
  have hne' : ∀ j, j < m → r[j]? ≠ some 93 := fun j hj => by have := hne (j + 1) (by omega); rwa [List.getElem?_cons_succ] at this
  obtain ⟨s1, s2, s3⟩ := split_at hk hne'
  have hh : headC (91 :: r) = if r.head? = some 94 then setC true r.tail else setC false r := by
    rw [headC_cons, if_neg (by decide), if_neg (by decide), if_pos rfl]
  have hlen : r.length = m + (r.drop (m + 1)).length + 1 := by rw [List.length_drop]; simp at hlt; omega
  refine ⟨by omega, hlt, ?_⟩
  rw [List.getElem?_cons_succ]
  match m, r, s1, s2, s3, hh, hlen with
  | 0, r, s1, s2, s3, hh, hlen =>
    left
    refine ⟨rfl, ?_⟩
    rw [hh, s1]
    rfl
  | m + 1, r, s1, s2, s3, hh, hlen =>
    right
    cases hr : r with
    | nil => rw [hr] at hlen; simp at hlen
    | cons x r' =>
      have ht : r.take (m + 1) = x :: r'.take m := by rw [hr]; rfl
      have hd : r.drop (m + 1 + 1) = r'.drop (m + 1) := by rw [hr]; rfl
      have e1 : r' = r'.take m ++ 93 :: r'.drop (m + 1) := by
        have := s1
        rw [ht, hd, hr, List.cons_append] at this
        exact (List.cons.inj this).2
      have e2 : ∀ c ∈ r'.take m, c ≠ 93 := fun c hc => s2 c (by rw [ht]; exact List.mem_cons_of_mem _ hc)
      have e3 : (r'.take m).length = m := by rw [ht] at s3; simpa using s3
      have e4 : r'.length = m + 1 + (r'.drop (m + 1)).length := by
        conv => lhs; rw [e1]
        rw [List.length_append, e3, List.length_cons]; omega
      rw [hr] at hh
      simp only [List.head?_cons, List.tail_cons, Option.some.injEq] at hh
      simp only [List.length_cons, List.getElem?_cons_zero, Option.some.injEq, List.drop_succ_cons, List.drop_zero]
      by_cases hx : x = 94
      · rw [if_pos hx] at hh
        by_cases hm : m = 0
        · left
          subst hm
          refine ⟨rfl, hx, ?_⟩
          rw [hh, e1]
          rfl
        · right; left
          refine ⟨by omega, hx, r'.take m, r'.drop (m + 1), ?_, by simp, by rw [e3]; omega, by omega⟩
          rw [hh]
          conv => lhs; rw [e1]
          exact setC_app (fun e => hm (by rw [← e3, e]; rfl)) e2
      · rw [if_neg hx] at hh
        right; right
        refine ⟨by omega, x, rfl, hx, x :: r'.take m, r'.drop (m + 1), ?_, by simp, by simp [e3], by omega⟩
        rw [hh]
        conv => lhs; rw [e1]
        exact setC_app (a := x :: r'.take m) (by simp) (by rw [← ht]; exact s2)

set_option maxRecDepth 100000 in
set_option maxHeartbeats 2000000 in
theorem bracketed_any (w : World) (v : Value) (r : List Int) (h : IntsAt w v (91 :: r)) (hn : r.length ≤ 1000000000000) :
    Calls Tryz.prog 94 #[v] w fun e w' => HeadR w w' (91 :: r) e ∧ Below w.heap.size w w' := by
  have C := Lib.hid (fun wx hx => index_any wx v (91 :: r) 93 hx)
  have CC := Lib.hid fun wx (vx : Value) (cx : List Int) => clone_any wx vx cx
  have HI := Lib.hid h
  obtain ⟨h0, _⟩ | ⟨b, off, cap, rfl, h1, h2, h3, h4⟩ := h
  · cases h0
  have HC := Lib.hid h4
  clear h4
  obtain ⟨n, hN⟩ : ∃ n, n = (91 :: r).length := ⟨_, rfl⟩
  rw [← hN] at h2 HI C ⊢
  have HN := Lib.hid hN
  clear hN
  go_enter Tryz.func94, Tryz.ntmps94
  go_wp2_with (go_at_call 103; refine (C.out _ (HI.out.keep ((Below.refl _ w).alloc (Nat.le_refl _) _))).mono ?_)
  rintro e w1 ⟨x, rfl, rfl, hi⟩
  have hbA := (Below.refl w.heap.size w).alloc (Nat.le_refl _) (.cells #[.bool false, .bool false, .slice none 0 0] 39)
  rcases hi with ⟨rfl, hno⟩ | ⟨k, rfl, hk, hne⟩
  · have hh : headC (91 :: r) = none := by
      rw [headC_cons, if_neg (by decide), if_neg (by decide), if_pos rfl, setC_none (fun c hc => hno c (List.mem_cons_of_mem _ hc)), setC_none (fun c hc => hno c (List.mem_cons_of_mem _ (List.mem_of_mem_tail hc)))]
      split <;> rfl
    clear hno
    have HH := Lib.hid hh
    clear hh
    go_wp2
    exact bodyPost_ret (v := .tuple #[.agg #[.bool false, .bool false, .slice none 0 0], .int .i64 0]) (by simp [results, Tryz.results94, go_sem]) rfl ⟨HeadR.no HH.out rfl, hbA⟩
  · obtain ⟨k1, kn, hcs⟩ := bracket_cases hk hne
    have g1 : (1 : Int) ≤ k := by omega
    have g0 : (0 : Int) ≤ k := by omega
    have g2 : k ≤ cap := by have := HN.out; omega
    have g3 : k < cap := by have := HN.out; omega
    have KN : Hid (k ≤ 1000000000000) := Lib.hid (by rw [List.length_cons] at kn; omega)
    have d1 : ¬ cap = 1 := by omega

    clear hk hne kn
    rcases hcs with ⟨rfl, hh⟩ | ⟨rfl, hx, hh⟩ | ⟨k3, hx, set, b', hh, hset, hsl, hbl⟩ | ⟨k2, c, hx, hc, set, b', hh, hset, hsl, hbl⟩
    · have HH := Lib.hid hh
      clear hh
      go_wp2
      exact bodyPost_ret (v := .tuple #[.agg #[.bool false, .bool false, .slice none 0 0], .int .i64 0]) (by simp [results, Tryz.results94, go_sem]) rfl ⟨HeadR.no HH.out rfl, hbA⟩
    · have cx := HC.out 1 _ hx
      have HH := Lib.hid hh
      have d2 : ¬ cap = 2 := by omega
      clear hh hx
      go_wp2
      exact bodyPost_ret (v := .tuple #[.agg #[.bool false, .bool false, .slice none 0 0], .int .i64 0]) (by simp [results, Tryz.results94, go_sem]) rfl ⟨HeadR.no HH.out rfl, hbA⟩
    · have cx := HC.out 1 _ hx
      have HH := Lib.hid (And.intro hh (And.intro hset (And.intro hsl hbl)))
      have d2 : ¬ cap = 2 := by omega
      have hI : IntsAt (w.alloc (.cells #[.bool false, .bool false, .slice none 0 0] 39)) (.slice (some ⟨b, off + 1 + 1, none⟩) (k - 1 - 1) (cap - 1 - 1)) set := by
        refine IntsAt.keep ?_ hbA
        have := ints_part h1 h3 HC.out 2 (k - 2) (n := k - 2) (by rw [← hset, hsl]) (by omega)
        rw [← hset] at this
        rw [show k - 2 = k - 1 - 1 by omega] at this
        exact this
      have C1 := Lib.hid (CC.out _ _ _ hI (by omega) (by have := KN.out; omega))
      rw [hsl] at C1
      clear hh hx hset hsl hbl hI C
      go_wp2_with (go_at_call 104; refine C1.out.mono ?_)
      rintro e w2 ⟨sv, rfl, hown, hb2⟩
      obtain ⟨⟨z0, z1, z2⟩, f0, f1, f2⟩ := box3 hb2
      have hbw := hbA.trans (hb2.mono hbA.size)
      have hsv : ∃ ao n' cp, sv = .slice ao n' cp := by
        rcases hown.2 with ⟨e, _⟩ | ⟨_, _, _, e, _⟩
        · exact ⟨_, _, _, e⟩
        · exact ⟨_, _, _, e⟩
      obtain ⟨ao, n', cp, rfl⟩ := hsv
      have H2 := Lib.hid (And.intro hown hbw)
      clear hown hb2 hbw
      go_wp2_with fail
      refine bodyPost_ret (v := .tuple #[.agg #[.bool false, .bool true, (.slice ao n' cp)], .int .i64 ((k + 1 : Nat) : Int)]) (by simp [results, Tryz.results94, go_sem, z0, z1, z2]; have := KN.out; unfold wrap64; omega) rfl ?_
      have hnew := own_new H2.out.1
      refine ⟨HeadR.yes HH.out.1 HH.out.2.2.2 rfl (ints_set3 (ints_own (by rw [HH.out.2.2.1]; exact H2.out.1)) (fun b hb => by have := hnew b hb; omega) _ _ _) (fun b hb => ?_), below_set3 H2.out.2 (Nat.le_refl _) _ _ _⟩
      have := hnew b hb
      simp [World.setCell]
      omega
    · have cx := HC.out 1 _ hx
      have HH := Lib.hid (And.intro hh (And.intro hset (And.intro hsl hbl)))
      have d94 : (c == 94) = false := by simpa using hc
      have hI : IntsAt (w.alloc (.cells #[.bool false, .bool false, .slice none 0 0] 39)) (.slice (some ⟨b, off + 1, none⟩) (k - 1) (cap - 1)) set := by
        refine IntsAt.keep ?_ hbA
        have := ints_part h1 h3 HC.out 1 (k - 1) (n := k - 1) (by rw [← hset, hsl]) (by omega)
        rw [← hset] at this
        rw [show k - 1 = k - 1 by omega] at this
        exact this
      have C1 := Lib.hid (CC.out _ _ _ hI (by omega) (by have := KN.out; omega))
      rw [hsl] at C1
      clear hh hx hset hsl hbl hI C
      go_wp2_with (go_at_call 104; refine C1.out.mono ?_)
      rintro e w2 ⟨sv, rfl, hown, hb2⟩
      obtain ⟨⟨z0, z1, z2⟩, f0, f1, f2⟩ := box3 hb2
      have hbw := hbA.trans (hb2.mono hbA.size)
      have hsv : ∃ ao n' cp, sv = .slice ao n' cp := by
        rcases hown.2 with ⟨e, _⟩ | ⟨_, _, _, e, _⟩
        · exact ⟨_, _, _, e⟩
        · exact ⟨_, _, _, e⟩
      obtain ⟨ao, n', cp, rfl⟩ := hsv
      have H2 := Lib.hid (And.intro hown hbw)
      clear hown hb2 hbw
      go_wp2_with fail
      refine bodyPost_ret (v := .tuple #[.agg #[.bool false, .bool false, (.slice ao n' cp)], .int .i64 ((k + 1 : Nat) : Int)]) (by simp [results, Tryz.results94, go_sem, z0, z1, z2]; have := KN.out; unfold wrap64; omega) rfl ?_
      have hnew := own_new H2.out.1
      refine ⟨HeadR.yes HH.out.1 HH.out.2.2.2 rfl (ints_set3 (ints_own (by rw [HH.out.2.2.1]; exact H2.out.1)) (fun b hb => by have := hnew b hb; omega) _ _ _) (fun b hb => ?_), below_set3 H2.out.2 (Nat.le_refl _) _ _ _⟩
      have := hnew b hb
      simp [World.setCell]
      omega

theorem HeadR.elim {w w' : World} {cs : List Int} {e : Ending} (h : HeadR w w' cs e) : (headC cs = none ∧ e = .returned (.tuple #[.agg #[.bool false, .bool false, .slice none 0 0], .int .i64 0])) ∨
    ∃ it r ao n cp, headC cs = some (it, r) ∧ e = .returned (.tuple #[.agg #[.bool it.any, .bool it.not, .slice ao n cp], .int .i64 ((cs.length - r.length : Nat) : Int)]) ∧ IntsAt w' (.slice ao n cp) it.set ∧ ∀ b, (Value.slice ao n cp).ownBlock = some b → w.heap.size ≤ b ∧ b < w'.heap.size := by
  unfold HeadR at h
  cases hh : headC cs with
  | none => rw [hh] at h; exact .inl ⟨rfl, h⟩
  | some x =>
    obtain ⟨it, r⟩ := x
    rw [hh] at h
    obtain ⟨sv, h1, h2, h3⟩ := h
    obtain ⟨ao, n, cp, rfl⟩ : ∃ ao n cp, sv = .slice ao n cp := by
      rcases h2 with ⟨_, a, cap, e⟩ | ⟨b, off, cap, e, _⟩
      · exact ⟨_, _, _, e⟩
      · exact ⟨_, _, _, e⟩
    exact .inr ⟨it, r, ao, n, cp, rfl, h1, h2, h3⟩

set_option maxRecDepth 100000 in
set_option maxHeartbeats 2000000 in
/-- first, of one code or more. -/
theorem first_any (w : World) (v : Value) (c : Int) (r : List Int) (h : IntsAt w v (c :: r)) (hn : r.length ≤ 1000000000000) :
    Calls Tryz.prog 74 #[v] w fun e w' => HeadR w w' (c :: r) e ∧ Below w.heap.size w w' := by
  have C := Lib.hid (fun wx hx => bracketed_any wx v r hx hn)
  have HI := Lib.hid h
  have hbA := (Below.refl w.heap.size w).alloc (Nat.le_refl _) (.cells #[.bool false, .bool false, .slice none 0 0] 39)
  obtain ⟨h0, _⟩ | ⟨b, off, cap, rfl, h1, h2, h3, h4⟩ := h
  · cases h0
  have c0 := h4 0 c rfl
  rw [Nat.add_zero] at c0
  clear h4
  obtain ⟨n, hN⟩ : ∃ n, n = (c :: r).length := ⟨_, rfl⟩
  have hn0 : (0 : Int) < n := by rw [hN, List.length_cons]; omega
  rw [← hN] at h2 HI C ⊢
  have HN := Lib.hid hN
  clear hN hn
  by_cases c46 : c = 46
  · subst c46
    have HH := Lib.hid (show headC (46 :: r) = some (⟨true, false, []⟩, r) by rw [headC_cons, if_pos rfl])
    go_enter Tryz.func74, Tryz.ntmps74
    go_wp2
    refine bodyPost_ret (v := .tuple #[.agg #[.bool true, .bool false, .slice none 0 0], .int .i64 1]) (by simp [results, Tryz.results74, go_sem]) rfl ⟨HeadR.yes (n := 1) HH.out (by rw [List.length_cons]; omega) rfl (.inl ⟨rfl, _, _, rfl⟩) (fun b hb => by simp [Value.ownBlock] at hb), ?_⟩
    exact (Below.refl w.heap.size w).alloc (Nat.le_refl _) _
  have HB := Lib.hid hbA
  have d46 : (c == 46) = false := by simpa using c46
  by_cases c91 : c = 91
  · subst c91
    clear c46 d46
    go_enter Tryz.func74, Tryz.ntmps74
    go_wp2_with (go_at_call 94; refine (C.out _ (HI.out.keep HB.out)).mono ?_)
    rintro e w1 ⟨hR, hb1⟩
    obtain ⟨⟨z0, z1, z2⟩, f0, f1, f2⟩ := box3 hb1
    have HW := Lib.hid (hbA.trans (hb1.mono hbA.size))
    rcases hR.elim with ⟨hh, rfl⟩ | ⟨it, r', ao, n', cp, hh, rfl, hset, hbk⟩
    · have HH := Lib.hid hh
      clear hh hR hb1
      go_wp2_with fail
      exact bodyPost_ret (v := .tuple #[.agg #[.bool false, .bool false, .slice none 0 0], .int .i64 0]) (by simp [results, Tryz.results74, go_sem, z0, z1, z2]) rfl ⟨HeadR.no HH.out rfl, below_set3 HW.out (Nat.le_refl _) _ _ _⟩
    · have HH := Lib.hid (And.intro hh (And.intro hset hbk))
      clear hh hR hb1 hset hbk
      obtain ⟨m, hm⟩ : ∃ m, m = (91 :: r).length - r'.length := ⟨_, rfl⟩
      have HM := Lib.hid hm
      rw [← hm]
      clear hm
      go_wp2_with fail
      refine bodyPost_ret (v := .tuple #[.agg #[.bool it.any, .bool it.not, .slice ao n' cp], .int .i64 m]) (by simp [results, Tryz.results74, go_sem, z0, z1, z2]) rfl ⟨HeadR.yes HH.out.1 HM.out.symm rfl (ints_set3 HH.out.2.1 (fun b hb => by have := HH.out.2.2 b hb; rw [World.size_alloc] at this; omega) _ _ _) (fun b hb => ?_), below_set3 HW.out (Nat.le_refl _) _ _ _⟩
      have := HH.out.2.2 b hb
      rw [World.size_alloc] at this
      simp [World.setCell]
      omega
  have d91 : (c == 91) = false := by simpa using c91
  by_cases c93 : c = 93
  · subst c93
    have HH := Lib.hid (show headC (93 :: r) = none by rw [headC_cons, if_neg (by decide), if_pos rfl])
    clear c46 c91 d46 d91
    go_enter Tryz.func74, Tryz.ntmps74
    go_wp2
    exact bodyPost_ret (v := .tuple #[.agg #[.bool false, .bool false, .slice none 0 0], .int .i64 0]) (by simp [results, Tryz.results74, go_sem]) rfl ⟨HeadR.no HH.out rfl, HB.out⟩
  have d93 : (c == 93) = false := by simpa using c93
  have HH := Lib.hid (show headC (c :: r) = some (⟨false, false, [c]⟩, r) by rw [headC_cons, if_neg c46, if_neg c93, if_neg c91])
  clear c46 c91 c93
  go_enter Tryz.func74, Tryz.ntmps74
  go_wp2
  refine bodyPost_ret (v := .tuple #[.agg #[.bool false, .bool false, .slice (some ⟨w.heap.size + 1, 0, none⟩) 1 1], .int .i64 1]) (by simp [results, Tryz.results74, go_sem]) rfl ?_
  have hl := IntsAt.lit (w.alloc (.cells #[.bool false, .bool false, .slice (some ⟨w.heap.size + 1, 0, none⟩) 1 1] 39)) [c] #[.int .i64 c] 3 rfl (by simp)
  rw [World.size_alloc] at hl
  refine ⟨HeadR.yes (n := 1) HH.out (by rw [List.length_cons]; omega) rfl hl (fun b hb => ?_), ((Below.refl w.heap.size w).alloc (Nat.le_refl _) _).alloc (by simp) _⟩
  simp [Value.ownBlock] at hb
  simp
  omega
end
section
open Go Go.RowKit Go.Lib

/-! ### Plain -/
def parseL (cs : List Int) : Option (List It) := parseF cs.length cs
theorem parseF_any : ∀ (f : Nat) (cs : List Int), cs.length ≤ f → parseF f cs = parseL cs := by
  intro f
  induction f using Nat.strongRecOn with
  | _ f ih =>
    intro cs hf
    match f, cs, hf with
    | 0, [], _ => rfl
    | f + 1, [], _ => simp [parseL, parseF]
    | f + 1, c :: t, hf =>
      unfold parseL
      rw [List.length_cons]
      unfold parseF
      rw [if_neg (by simp), if_neg (by simp)]
      cases hh : headC (c :: t) with
      | none => rfl
      | some x =>
        obtain ⟨it, r⟩ := x
        have hr := (headC_says hh).2.2.1
        rw [List.length_cons] at hr hf
        dsimp only
        rw [ih f (by omega) r (by omega)]
        rcases Nat.lt_or_ge t.length (f + 1) with h1 | h1
        · rw [ih t.length h1 r (by omega)]
        · omega
theorem parseL_nil : parseL [] = some [] := rfl
theorem parseL_cons {cs : List Int} (h : cs ≠ []) : parseL cs = match headC cs with
    | none => none
    | some (it, r) => (parseL r).map fun l => it :: l := by
  cases cs with
  | nil => exact absurd rfl h
  | cons c t =>
    conv => lhs; unfold parseL
    rw [List.length_cons]
    unfold parseF
    rw [if_neg (by simp)]
    cases hh : headC (c :: t) with
    | none => rfl
    | some x =>
      obtain ⟨it, r⟩ := x
      have hr := (headC_says hh).2.2.1
      rw [List.length_cons] at hr
      dsimp only
      rw [parseF_any _ _ (by omega)]
theorem parseC_R (cs : List Int) : parseC cs = match parseL cs with
    | none => none
    | some l => if 0 < l.length ∧ l.length ≤ 8 then some l else none := rfl
theorem headC_drop {cs r : List Int} {it : It} (h : headC cs = some (it, r)) : r = cs.drop (cs.length - r.length) ∧ r.length < cs.length := by
  refine ⟨?_, (headC_says h).2.2.1⟩
  have suf : ∃ a, cs = a ++ r := by
    match cs, h with
    | c :: t, h =>
      rw [headC_cons] at h
      split at h
      · simp only [Option.some.injEq, Prod.mk.injEq] at h; exact ⟨[c], by rw [← h.2]; rfl⟩
      split at h
      · cases h
      split at h
      · split at h
        · rename_i hhead
          obtain ⟨_, _, _, _, h5⟩ := setC_len h
          have ht : t = 94 :: t.tail := by
            cases t with
            | nil => simp at hhead
            | cons x t' => simp only [List.head?_cons, Option.some.injEq] at hhead; rw [hhead]; rfl
          exact ⟨c :: 94 :: (it.set ++ [93]), by rw [ht, h5]; simp⟩
        · obtain ⟨_, _, _, _, h5⟩ := setC_len h
          exact ⟨c :: (it.set ++ [93]), by rw [h5]; simp⟩
      · simp only [Option.some.injEq, Prod.mk.injEq] at h; exact ⟨[c], by rw [← h.2]; rfl⟩
  obtain ⟨a, rfl⟩ := suf
  rw [List.length_append, show a.length + r.length - r.length = a.length by omega, List.drop_left]
theorem parseS_no {s : ByteArray} (h : validD s.data.toList = false) : parseS s = none := by
  unfold parseS codesB; rw [if_neg (by simp [h])]
theorem parseS_yes {s : ByteArray} (h : validD s.data.toList = true) : parseS s = parseC (codesL s.data.toList) := by
  unfold parseS codesB codesL; rw [if_pos h, if_pos h]

/-- What is read so far, and what is left to be read. -/
def Left (cs : List Int) (l : List It) (rest : List Int) : Prop := parseL cs = (parseL rest).map fun t => l ++ t
theorem Left.step {cs rest r : List Int} {l : List It} {it : It} (h : Left cs l rest) (hh : headC rest = some (it, r)) : Left cs (l ++ [it]) r := by
  have hne : rest ≠ [] := by intro e; rw [e] at hh; cases hh
  unfold Left at h ⊢
  rw [h, parseL_cons hne, hh]
  show Option.map _ (Option.map _ (parseL r)) = _
  cases parseL r <;> simp
theorem Left.wrong {cs rest : List Int} {l : List It} (h : Left cs l rest) (hne : rest ≠ []) (hh : headC rest = none) : parseC cs = none := by
  unfold Left at h
  rw [parseL_cons hne, hh] at h
  rw [parseC_R, h]
  rfl
theorem Left.many {cs rest r : List Int} {l : List It} {it : It} (h : Left cs l rest) (hh : headC rest = some (it, r)) (h8 : l.length = 8) : parseC cs = none := by
  have hs := h.step hh
  unfold Left at hs
  rw [parseC_R, hs]
  cases parseL r with
  | none => rfl
  | some t =>
    show (if 0 < ((l ++ [it]) ++ t).length ∧ ((l ++ [it]) ++ t).length ≤ 8 then _ else none) = none
    rw [if_neg]
    simp only [List.length_append, List.length_cons]
    omega
theorem Left.done {cs : List Int} {l : List It} (h : Left cs l []) (h0 : l ≠ []) (h8 : l.length ≤ 8) : parseC cs = some l := by
  unfold Left at h
  rw [parseL_nil] at h
  simp only [Option.map_some, List.append_nil] at h
  rw [parseC_R, h]
  dsimp only
  rw [if_pos ⟨List.length_pos_iff.2 h0, h8⟩]
theorem Left.start (cs : List Int) : Left cs [] cs := by
  unfold Left
  cases parseL cs <;> simp

/-- A row of our own whose sets are new reads as items in new blocks. -/
theorem Grow.news {w0 w : World} {v vc : Value} {xs : List Value} {l : List It} {cs : List Int} (h : Grow w0 w v vc xs l cs) (hf : FreshX w0.heap.size xs l) : ItemsNew w0.heap.size w v l := by
  have hadd : ∀ (g j : Nat), (⟨g, 0, none⟩ : Addr).add j = ⟨g, j, none⟩ := fun g j => by unfold Addr.add; split <;> simp_all
  have hc := @World.ownsRow.cells _ _ _ _ _ _ _ h.row
  rcases h.row.2 with ⟨rfl, h0⟩ | ⟨g, cap, cur, rfl, hb, hg, hnc, hcm, _⟩
  · exact .inl ⟨List.eq_nil_of_length_eq_zero h0, _, _, rfl⟩
  · refine .inr ⟨g, 0, cap, rfl, (Array.getElem?_eq_some_iff.1 hg).1, hb, hnc, hcm, fun i it hi => ?_⟩
    obtain ⟨sv, h1, h2, h3, h4, _⟩ := h.sets i it hi
    rw [Nat.zero_add]
    exact ⟨by rw [← hadd]; exact hc (g := g) rfl _ _ h1, by rw [← hadd]; exact hc (g := g) rfl _ _ h2, sv, by rw [← hadd]; exact hc (g := g) rfl _ _ h3, h4, hf i it hi sv h3⟩

/-- What holds ahead of a round of Parse. -/
def MidP (w0 wr : World) (vc v : Value) (cs : List Int) (l : List It) (rest : List Int) : Prop :=
  (∃ xs, Grow w0 wr v (.slice none 0 0) xs l [] ∧ FreshX w0.heap.size xs l) ∧ IntsAt w0 vc rest ∧ Left cs l rest ∧ (l ≠ [] ∨ rest ≠ []) ∧ rest.length ≤ 1000000000000
/-- What Parse answers. -/
def ParseR (w w' : World) (o : Option (List It)) (e : Ending) : Prop := ∃ v, e = .returned (.tuple #[v, .bool o.isSome]) ∧ ItemsNew w.heap.size w' v (o.getD []) ∧ Below w.heap.size w w'
theorem ParseR.no {w w' : World} {o : Option (List It)} (h : o = none) (hb : Below w.heap.size w w') : ParseR w w' o (.returned (.tuple #[.slice none 0 0, .bool false])) := by
  subst h; exact ⟨_, rfl, .inl ⟨rfl, _, _, rfl⟩, hb⟩
theorem ParseR.yes {w w' : World} {o : Option (List It)} {l : List It} {v : Value} (h : o = some l) (hi : ItemsNew w.heap.size w' v l) (hb : Below w.heap.size w w') : ParseR w w' o (.returned (.tuple #[v, .bool true])) := by
  subst h; exact ⟨_, rfl, hi, hb⟩

set_option maxRecDepth 100000 in
set_option maxHeartbeats 4000000 in
/-- cond.Parse. -/
theorem parse_any (w : World) (s : ByteArray) (hs : s.size ≤ 1000000000000) (hT : Lib.Utf8Tabs 1 2 w) :
    Calls Tryz.prog 54 #[.string s] w fun e w' => ParseR w w' (parseS s) e := by
  obtain ⟨i1, hi1, hz10, hz11, hz12⟩ := info_parts Tryz.infosN39
  have CC := Lib.hid (codes_any s w hs hT)
  have hlen := fun cs => codesB_says (s := s.data.toList) (cs := cs)
  cases hv : validD s.data.toList with
  | false =>
    have HP := Lib.hid (parseS_no hv)
    rw [hv] at CC
    clear hlen hv hT
    go_enter Tryz.func54, Tryz.ntmps54
    go_wp2_with (go_at_call 56; refine CC.out.mono ?_)
    rintro e w1 ⟨v, rfl, -, hb⟩
    have HB := Lib.hid hb
    clear hb
    go_wp2_with fail
    go_ret2
    exact ParseR.no HP.out HB.out
  | true =>
    have HP := Lib.hid (parseS_yes hv)
    have hcl : (codesL s.data.toList).length ≤ 1000000000000 := by
      have := (hlen (codesL s.data.toList) (by unfold codesB codesL; rw [if_pos hv, if_pos hv])).2
      have h2 : s.data.toList.length = s.size := (Lib.size_eq s).symm
      omega
    rw [hv] at CC
    have HL := Lib.hid hcl
    clear hlen hv hcl hT
    generalize codesL s.data.toList = cs at CC HP HL
    go_enter Tryz.func54, Tryz.ntmps54
    go_wp2_with (go_at_call 56; refine CC.out.mono ?_)
    rintro e w1 ⟨v, rfl, hown, hb⟩
    have HI := Lib.hid (ints_own hown)
    have HB := Lib.hid hb
    clear hown hb
    obtain ⟨ao, cap, rfl, -⟩ := ints_open HI.out
    cases cs with
    | nil =>
      go_wp2_with fail
      go_ret2
      exact ParseR.no HP.out HB.out
    | cons c0 cs0 =>
      obtain ⟨n0, hn0⟩ : ∃ n0, n0 = (c0 :: cs0).length := ⟨_, rfl⟩
      have hn1 : ((n0 : Int) == 0) = false := by rw [hn0, List.length_cons]; simp; omega
      rw [← hn0] at HI ⊢
      have HN := Lib.hid hn0
      clear hn0
      generalize hCS : c0 :: cs0 = cs at *
      have HCS := Lib.hid (show cs ≠ [] by rw [← hCS]; simp)
      clear hCS
      go_wp2_with fail
      go_loopg [4, 6, 7, 8] n0 (fun g vc v _u7 _u8 wr => ∃ (l : List It) (rest : List Int), g = rest.length ∧ Hid (MidP w1 wr vc v cs l rest ∧ l.length ≤ 8))
      case atStart => exact ⟨[], cs, HN.out, Lib.hid ⟨⟨⟨[], Grow.start w1, FreshX.nil _⟩, HI.out, Left.start cs, .inr HCS.out, HL.out⟩, Nat.zero_le _⟩⟩
      case round =>
        obtain ⟨l, rest, hg, HM⟩ := hrel
        clear HI hn1
        cases rest with
        | nil =>
          obtain ⟨⟨⟨xs, hG, hFX⟩, hI, hL, hne, -⟩, h8⟩ := HM.out
          obtain ⟨A, cp, rfl, -⟩ := ints_open hI
          simp only [List.length_nil]
          have HF := Lib.hid (HP.out.trans (hL.done (hne.resolve_right (fun h => h rfl)) h8))
          have HR := Lib.hid (And.intro ((hG.news hFX).less HB.out.size) (HB.out.trans (hG.below.mono HB.out.size)))
          clear hG hI hL hne h8 HM hg hFX
          go_wp2_with fail
          go_ret2
          exact ParseR.yes HF.out HR.out.1 HR.out.2
        | cons c r =>
          obtain ⟨⟨⟨xs, hG, hFX⟩, hI, hL, hne, hrl⟩, h8⟩ := HM.out
          have HFX := Lib.hid hFX
          have C1 := Lib.hid (first_any wr u4 c r (hI.keep hG.below) (by rw [List.length_cons] at hrl; omega))
          have HII := Lib.hid hI
          obtain ⟨h0, _⟩ | ⟨b, off, cp, rfl, h1, h2, h3, h4⟩ := hI
          · cases h0
          have HC4 := Lib.hid h4
          clear h4
          obtain ⟨vb, vcp, rfl⟩ : ∃ a c, u6 = .slice a l.length c := by
            rcases hG.row.2 with ⟨e, e0⟩ | ⟨_, _, _, e, _⟩
            · exact ⟨_, _, by rw [e, e0]⟩
            · exact ⟨_, _, e⟩
          obtain ⟨n, hn⟩ : ∃ n, n = (c :: r).length := ⟨_, rfl⟩
          have hn0 : (0 : Int) < n := by rw [hn, List.length_cons]; omega
          rw [← hn] at h2 hrl C1 HII ⊢
          have HN := Lib.hid hn
          have HGK := Lib.hid (show gk = n from hg.trans hn.symm)
          have HG := Lib.hid (And.intro hG (And.intro hL h8))
          have HB2 := Lib.hid (HB.out.trans (hG.below.mono HB.out.size))
          clear hG hL h8 hne HM hg hn hFX
          go_wp2_with (go_at_call 74; refine C1.out.mono ?_)
          rintro e w2 ⟨hR, hb2⟩
          rcases hR.elim with ⟨hh, rfl⟩ | ⟨it, r', ao', n', cp', hh, rfl, hset, hbk⟩
          · have HF := Lib.hid (HP.out.trans (HG.out.2.1.wrong (by simp) hh))
            have H2 := Lib.hid (HB2.out.trans (hb2.mono HB2.out.size))
            clear hh hR hb2
            go_wp2_with fail
            go_ret2
            exact ParseR.no HF.out ((H2.out.alloc H2.out.size _))
          · obtain ⟨any, neg, set⟩ := it
            have hdr := headC_drop hh
            rw [← HN.out] at hdr
            rw [← HN.out]
            obtain ⟨m, hm⟩ : ∃ m, m = n - r'.length := ⟨_, rfl⟩
            rw [← hm] at hdr ⊢
            have hm0 : ((m : Int) == 0) = false := by simp; omega
            have hm1 : (m : Int) ≤ n := by omega
            have hm2 : (0 : Int) ≤ m := by omega
            have hrl' : r'.length = n - m := by omega
            obtain ⟨k, hk⟩ : ∃ k, k = l.length := ⟨_, rfl⟩
            have HK := Lib.hid hk
            rw [← hk] at HG ⊢
            by_cases hk8 : k = 8
            · subst hk8
              have HF := Lib.hid (HP.out.trans (HG.out.2.1.many hh hk.symm))
              have H2 := Lib.hid (HB2.out.trans (hb2.mono HB2.out.size))
              clear hh hR hb2 hset hbk hdr hm hk
              go_wp2_with fail
              go_ret2
              exact ParseR.no HF.out ((H2.out.alloc H2.out.size _))
            · have hk8' : ((k : Int) == 8) = false := by simp; omega
              have hkk : k ≤ 8 := HG.out.2.2
              have HK7 := Lib.hid (show k + 1 ≤ 8 ∧ 0 < m by omega)
              have G3 := Lib.hid (((HG.out.1.keep hb2).alloc (.cells #[.bool any, .bool neg, .slice ao' n' cp'] 39)).alloc (.cells #[.bool any, .bool neg, .slice ao' n' cp'] 39))
              have hs3 : IntsAt ((w2.alloc (.cells #[.bool any, .bool neg, .slice ao' n' cp'] 39)).alloc (.cells #[.bool any, .bool neg, .slice ao' n' cp'] 39)) (.slice ao' n' cp') set := hset.keep (((Below.refl _ _).alloc (Nat.le_refl _) _).alloc (by simp) _)
              have hb3 : ∀ z, (Value.slice ao' n' cp').ownBlock = some z → z < ((w2.alloc (.cells #[.bool any, .bool neg, .slice ao' n' cp'] 39)).alloc (.cells #[.bool any, .bool neg, .slice ao' n' cp'] 39)).heap.size ∧ (Value.slice vb k vcp).ownBlock ≠ some z ∧ (Value.slice none 0 0).ownBlock ≠ some z := fun z hz => by
                have h1 := hbk z hz
                refine ⟨by simp; omega, fun e => ?_, fun e => by cases e⟩
                have h2 := (HG.out.1.row.lt z e).2
                omega
              have HS := Lib.hid (And.intro hs3 hb3)
              have HL2 := Lib.hid (And.intro (HG.out.2.1.step hh) hdr)
              have HFX2 := Lib.hid (show FreshX w1.heap.size (xs ++ iCells ⟨any, neg, set⟩ (.slice ao' n' cp')) (l ++ [⟨any, neg, set⟩]) from HFX.out.snoc HG.out.1.row.1 fun g hg => Nat.le_trans HG.out.1.below.size (hbk g hg).1)
              have hkc : (l.length : Nat) = k := hk.symm
              have HKC := Lib.hid hkc
              clear hh hR hb2 hset hbk hdr hm hk hs3 hb3 hkc hk8
              go_wp2_with (at_builtin; refine wpList_append_where _ rfl _ _ 34 rfl w1.heap.size 39 i1 (.agg #[.bool false, .bool false, .slice none 0 0]) 3 32 Tryz.underlying34 hi1 hz10 hz11 hz12 rfl (by decide) (.slice vb k vcp) k xs rfl (HKC.out ▸ G3.out.row) ⟨w2.heap.size + 1, 0, none⟩ 1 1 (iCells ⟨any, neg, set⟩ (.slice ao' n' cp')) rfl rfl (news_row2 _ _ _ _) (iCells_one _ _ _ _) (by unfold maxLen; omega) (by omega) (G3.out.below.size) ?_)
              intro v' w4 hown4 hgrow4 hwh4
              have G4 := Lib.hid (G3.out.item (it := ⟨any, neg, set⟩) (by rw [HKC.out]; exact hown4) hgrow4 (by rw [World.size_alloc, World.size_alloc]; exact hwh4) HS.out.1 HS.out.2)
              have H8 := Lib.hid (show (l ++ [(⟨any, neg, set⟩ : It)]).length ≤ 8 by rw [List.length_append, HKC.out]; exact HK7.out.1)
              clear hown4 hgrow4 hwh4 G3 HS hkk
              by_cases hc : cp = m
              · have hnm : n = m := by omega
                subst hnm
                subst hc
                have HR0 := Lib.hid (show r' = [] from List.eq_nil_of_length_eq_zero (by omega))
                go_wp2_with fail
                go_roundg r'.length
                case measure => have := HGK.out; rw [HR0.out]; simp; omega
                case rel =>
                  refine ⟨l ++ [⟨any, neg, set⟩], r', rfl, Lib.hid ⟨⟨⟨_, G4.out, HFX2.out⟩, ?_, HL2.out.1, .inl (by simp), by rw [HR0.out]; simp⟩, H8.out⟩⟩
                  rw [HR0.out]
                  exact .inl ⟨rfl, _, _, rfl⟩
              · go_wp2_with fail
                go_roundg r'.length
                case measure => have := HGK.out; have := HK7.out; omega
                case rel =>
                  have hp := ints_part h1 h3 HC4.out m (n - m) (n := n - m) (by rw [← HL2.out.2.1, List.take_of_length_le (by omega), hrl']) (by omega)
                  rw [← HL2.out.2.1, List.take_of_length_le (by omega)] at hp
                  exact ⟨l ++ [⟨any, neg, set⟩], r', rfl, Lib.hid ⟨⟨⟨_, G4.out, HFX2.out⟩, hp, HL2.out.1, .inl (by simp), by omega⟩, H8.out⟩⟩
end
end Go.Proofs.YteenleedonmkmaaGreatDoor
