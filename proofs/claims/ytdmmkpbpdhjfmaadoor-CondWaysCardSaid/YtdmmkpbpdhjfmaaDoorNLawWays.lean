/- Stage 9's law CondWays, out of what is asked of cond's calls. -/
import Derived.Test.YtdmmkpbpdhjfmaaDoorNWays
import Derived.Test.YtdmmkpbpdhjfmaaDoorNPlace
import Derived.Test.YtdmmkpbpdhjfmaaDoorNGuard
import Derived.Deep.RegionWith
import Derived.Deep.RegionHeld3
import Derived.Laws.OwnMore
import Derived.Deep.CutRange
import Derived.Deep.DeepCutAuto
namespace Go.Proofs.YtdmmkpbpdhjfmaaDoor
open Go Go.RowKit
variable {T : World → Prop}

theorem ints_cut {w : World} {g k cap : Nat} {C : List Int} (h : IntsAt w (.slice (some ⟨g, 0, none⟩) k cap) C) (hC : C.length = k) (hk : 0 < k) (m : Nat) (hm : m ≤ k) : IntsAt w (.slice (some ⟨g, 0, none⟩) m cap) (C.take m) := by
  obtain ⟨rfl, _⟩ | ⟨b, off, cap', e, h1, h2, h3, h4⟩ := h
  · simp at hC; omega
  · injection e with e1 e2 e3
    injection e1 with e4
    injection e4 with e5 e6 e7
    subst e3
    refine .inr ⟨g, 0, cap, by rw [List.length_take, hC, Nat.min_eq_left hm], e5 ▸ h1, by rw [List.length_take]; omega, h3, fun i c hi => ?_⟩
    rw [List.getElem?_take] at hi
    split at hi
    · have := h4 i c hi
      rw [← e5, ← e6] at this
      exact this
    · cases hi
theorem ints_rest {w : World} {g k cap : Nat} {C : List Int} (h : IntsAt w (.slice (some ⟨g, 0, none⟩) k cap) C) (hC : C.length = k) (hk : 0 < k) : IntsAt w (.slice (some ⟨g, 1, none⟩) (k - 1) (cap - 1)) (C.drop 1) := by
  obtain ⟨rfl, _⟩ | ⟨b, off, cap', e, h1, h2, h3, h4⟩ := h
  · simp at hC; omega
  · injection e with e1 e2 e3
    injection e1 with e4
    injection e4 with e5 e6 e7
    subst e3
    refine .inr ⟨g, 1, cap - 1, by rw [List.length_drop, hC], e5 ▸ h1, by rw [List.length_drop]; omega, by omega, fun i c hi => ?_⟩
    rw [List.getElem?_drop] at hi
    have := h4 (1 + i) c hi
    rw [← e5, ← e6, Nat.zero_add] at this
    exact this
theorem items_cells {w : World} {g k cap : Nat} {L : List It} (h : ItemsAt w (.slice (some ⟨g, 0, none⟩) k cap) L) {i : Nat} {it : It} (hi : L[i]? = some it) : w.cell? ⟨g, i * 3, none⟩ = some (.bool it.any) ∧ w.cell? ⟨g, i * 3 + 1, none⟩ = some (.bool it.not) := by
  obtain ⟨rfl, _⟩ | ⟨b, off, cap', e, h1, h2, h3, h4⟩ := h
  · simp at hi
  · injection e with e1 e2 e3
    injection e1 with e4
    injection e4 with e5 e6 e7
    obtain ⟨k1, k2, _⟩ := h4 i it hi
    rw [← e5, ← e6, Nat.zero_add] at k1 k2
    exact ⟨k1, k2⟩
/-- What holds ahead of a round. -/
def Mid9 (w wr : World) (v vc : Value) (ps : List Nat) : Prop := ∃ xs, Grow w wr v vc xs (ps.map itOf) (ps.map cOf)
/-- What one round brings. -/
def Step9 (w wr : World) (v vc : Value) (ps : List Nat) (p : Nat) (w' : World) (v' vc' : Value) : Prop := Mid9 w wr v vc ps → Mid9 w w' v' vc' (ps ++ [p])

set_option maxRecDepth 100000 in
set_option maxHeartbeats 4000000 in
theorem ways_law (S : SaysC T) (w : World) (hT : T w) (vl : Value) (ns : List Int) (bad : Int) (hns : IntsAt w vl ns) (hsz : ns.length ≤ 9223372036854775807) :
    Calls Tryd.prog 4 #[vl, .int .i64 bad] w fun e w' => e = .returned (.bool true) ∧ Below w.heap.size w w' := by
  obtain ⟨i1, hi1, hz10, hz11, hz12⟩ := info_parts Tryd.infosN32
  obtain ⟨i2, hi2, hz20, hz21, hz22⟩ := info_parts Tryd.infosN3
  obtain ⟨A, cap, rfl, hA⟩ := ints_open hns
  obtain ⟨ps, hps⟩ : ∃ ps : List Nat, ps = (ns.take 8).map placeN := ⟨_, rfl⟩
  obtain ⟨n, hn⟩ : ∃ n, n = ps.length := ⟨_, rfl⟩
  have hn8 : n ≤ 8 := by rw [hn, hps, List.length_map, List.length_take]; omega
  have hnl : n = min 8 ns.length := by rw [hn, hps, List.length_map, List.length_take]
  have hat : ∀ k : Nat, k < n → ∃ (x : Int) (p : Nat), ns[k]? = some x ∧ ps[k]? = some p ∧ x % 1048576 = p := fun k hk => by
    obtain ⟨x, hx⟩ : ∃ x, ns[k]? = some x := ⟨_, List.getElem?_eq_getElem (by omega)⟩
    exact ⟨x, placeN x, hx, by rw [hps, List.getElem?_map, List.getElem?_take, if_pos (by omega), hx]; rfl, by unfold placeN; omega⟩
  have HAT := Lib.hid (And.intro hat hA)
  have HN := Lib.hid (And.intro hn hnl)
  have HS := Lib.hid (And.intro S hT)
  have hlI : (0 : Int) ≤ ns.length := by omega
  clear hat hA hn hnl S hT hns hps
  go_enter Tryd.func4, Tryd.ntmps4
  go_wp2_with fail
  go_loopg [5, 6, 7] n (fun g v vc i wr => ∃ k : Nat, k + g = n ∧ i = .int .i64 k ∧ (k = 0 → v = .slice none 0 0 ∧ vc = .slice none 0 0) ∧ Hid (Mid9 w wr v vc (ps.take k)))
  case atStart => exact ⟨0, by omega, rfl, fun _ => ⟨rfl, rfl⟩, Lib.hid ⟨[], by rw [List.take_zero]; exact Grow.start w⟩⟩
  case round =>
    obtain ⟨k, hk, rfl, hz, HM⟩ := hrel
    rcases Nat.eq_zero_or_pos gk with h0 | h0
    · have hkn : k = n := by omega
      subst hkn
      have hps : ps.take k = ps := List.take_of_length_le (by have := HN.out.1; omega)
      rw [hps] at HM
      have hAW := Lib.hid (fun wx (hb : Below w.heap.size w wx) => awake_any HS.out.1 wx (HS.out.1.kept w wx HS.out.2 hb))
      have hlast : ¬ (k : Int) < ns.length ∨ (k : Int) < ns.length ∧ ¬ (k : Int) < 8 := by have := HN.out.2; omega
      obtain ⟨xs, hG⟩ := HM.out
      obtain ⟨L, hL⟩ : ∃ L, L = ps.map itOf := ⟨_, rfl⟩
      obtain ⟨C, hC⟩ : ∃ C, C = ps.map cOf := ⟨_, rfl⟩
      have hLl : L.length = k := by rw [hL, List.length_map, ← HN.out.1]
      have hCl : C.length = k := by rw [hC, List.length_map, ← HN.out.1]
      have hset : ∀ it ∈ L, it.set.length ≤ 20 := fun it hit => by
        rw [hL, List.mem_map] at hit
        obtain ⟨p, _, rfl⟩ := hit
        exact itOf_set p
      rw [← hL, ← hC] at hG
      have HG := Lib.hid hG
      have HL := Lib.hid (And.intro hL (And.intro hC (And.intro hLl (And.intro hCl hset))))
      have C1 := Lib.hid (fun wx (hb : Below wr.heap.size wr wx) vc cs (hc : IntsAt wx vc cs) (hcl : cs.length ≤ 20) => HS.out.1.starts wx u5 L vc cs (HS.out.1.kept w wx HS.out.2 (HG.out.below.trans (hb.mono HG.out.below.size))) (HG.out.reads.1.keep hb) hc (by have := HL.out.2.2.1; omega) hcl HL.out.2.2.2.2)
      have C2 := Lib.hid (fun wx (hb : Below wr.heap.size wr wx) vc cs (hc : IntsAt wx vc cs) (hcl : cs.length ≤ 20) => HS.out.1.ends wx u5 L vc cs (HS.out.1.kept w wx HS.out.2 (HG.out.below.trans (hb.mono HG.out.below.size))) (HG.out.reads.1.keep hb) hc (by have := HL.out.2.2.1; omega) hcl HL.out.2.2.2.2)
      have hCs : C.length ≤ 8 := by omega
      have CC := Lib.hid (show ∀ (j : Nat) c, C[j]? = some c → ∃ p, ps[j]? = some p ∧ c = cOf p from fun j c hj => by
        rw [hC, List.getElem?_map, Option.map_eq_some_iff] at hj
        obtain ⟨p, hp, rfl⟩ := hj
        exact ⟨p, hp, rfl⟩)
      have D1 := Lib.hid (fun wx hb vc (hc : IntsAt wx vc C) => by have := C1.out wx hb vc C hc (by omega); rwa [hL, hC, starts_same] at this)
      have D2 := Lib.hid (fun wx hb vc (hc : IntsAt wx vc C) => by have := C2.out wx hb vc C hc (by omega); rwa [ends_same (by omega), hL, hC, starts_same] at this)
      have D3 := Lib.hid (fun wx hb vc (hc : IntsAt wx vc (C ++ [5])) => by have := C1.out wx hb vc (C ++ [5]) hc (by rw [List.length_append]; show C.length + 1 ≤ 20; omega); rwa [hL, hC, starts_all] at this)
      have D4 := Lib.hid (fun wx hb vc (hc : IntsAt wx vc (5 :: C)) => by have := C2.out wx hb vc (5 :: C) hc (by rw [List.length_cons]; omega); rwa [ends_more 5 (by omega), hL, hC, starts_same] at this)
      have D5 := Lib.hid (fun wx hb vc cs (hc : IntsAt wx vc cs) (hl : cs.length < k) => by have := C1.out wx hb vc cs hc (by omega); rwa [starts_short (by omega)] at this)
      have D6 := Lib.hid (fun wx hb vc cs (hc : IntsAt wx vc cs) (hl : cs.length < k) => by have := C2.out wx hb vc cs hc (by omega); rwa [ends_short (by omega)] at this)
      have D7 := Lib.hid (fun wx hb vc i p (hp : ps[i]? = some p) (hc : IntsAt wx vc (C.set i (wrongC (itOf p)))) => by have := C1.out wx hb vc _ hc (by rw [List.length_set]; omega); rwa [hL, hC, starts_wrong ps i p hp] at this)
      have D8 := Lib.hid (fun wx hb vc i p (hp : ps[i]? = some p) (hc : IntsAt wx vc (C.set i (wrongC (itOf p)))) => by have := C2.out wx hb vc _ hc (by rw [List.length_set]; omega); rwa [ends_same (by rw [List.length_set]; omega), hL, hC, starts_wrong ps i p hp] at this)
      clear hG hL hC hLl hset HM hps C1 C2
      go_upto_region 4 with fail
      go_cut [19] (fun t wx => t = .bool false ∧ wr = wx)
      case first =>
        rcases hlast with l2 | ⟨l1, l2⟩
        all_goals
          go_wp2_with fail
          go_meet
          exact ⟨rfl, rfl⟩
      case rest =>
        obtain ⟨rfl, rfl⟩ := hcut
        rcases Nat.eq_zero_or_pos k with hk0 | hk0
        · obtain ⟨rfl, rfl⟩ := hz hk0
          have hC0 : C = [] := List.eq_nil_of_length_eq_zero (by omega)
          have RD := Lib.hid HG.out.reads.2
          clear hz
          go_wp2_with fail
          refine (D1.out wr (Below.refl _ _) _ RD.out).mono ?_
          rintro e w1 ⟨rfl, hb1⟩
          have B1 := Lib.hid hb1
          clear hb1
          go_wp2_with fail
          refine (D2.out w1 B1.out _ (RD.out.keep B1.out)).mono ?_
          rintro e w2 ⟨rfl, hb2⟩
          have B2 := Lib.hid (B1.out.trans (hb2.mono B1.out.size))
          clear hb2
          have B2a := Lib.hid (B2.out.alloc B2.out.size (.cells #[.int .i64 5] /-t-/3))
          have ONE5 := Lib.hid (show ∀ u ∈ [Value.int .i64 5], u.oneCell' = true from fun u hu => by
            simp only [List.mem_cons, List.not_mem_nil, or_false] at hu
            subst hu; rfl)
          go_wp2_with (at_builtin; refine wpList_append_where_g _ (by rfl) _ _ 29 rfl w2.heap.size 3 i2 (.int .i64 0) 1 8 Tryd.underlying29 hi2 hz20 hz21 hz22 rfl (by decide) (.slice none 0 0) 0 [] rfl (World.ownsRow_nil _ _ _ _) ⟨w2.heap.size, 0, none⟩ 1 1 [.int .i64 5] rfl rfl (news_row _ _ _) ONE5.out (by unfold maxLen; omega) (by omega) (by rw [World.size_alloc]; omega) ?_; intro v4 w4 hown4 hgrow4 hwh4; have G4 := Lib.hid (And.intro hown4 (B2a.out.grown hgrow4 B2a.out.size (fun z hz => by cases hz))); clear hown4 hgrow4 hwh4)
          have R4 := Lib.hid (show IntsAt w4 v4 (C ++ [5]) by rw [hC0]; exact ints_own (B := w2.heap.size) (cs := [5]) G4.out.1)
          refine (D3.out w4 G4.out.2 v4 R4.out).mono ?_
          rintro e w5 ⟨rfl, hb5⟩
          have B5 := Lib.hid (G4.out.2.trans (hb5.mono G4.out.2.size))
          clear hb5 G4 R4 B2a
          have B5a := Lib.hid (B5.out.alloc B5.out.size (.cells #[.int .i64 5] /-t-/3))
          have R6 := Lib.hid (show IntsAt (w5.alloc (.cells #[.int .i64 5] /-t-/3)) (.slice (some ⟨w5.heap.size, 0, none⟩) 1 1) (5 :: C) by rw [hC0]; exact IntsAt.lit w5 [5] _ /-t-/3 rfl (by decide))
          go_wp2_with fail
          refine (D4.out _ B5a.out _ R6.out).mono ?_
          rintro e w7 ⟨rfl, hb7⟩
          have B7 := Lib.hid (HG.out.below.trans ((B5a.out.trans (hb7.mono B5a.out.size)).mono HG.out.below.size))
          clear hb7 R6 B5 B5a
          go_wp2_with fail
          refine (hAW.out w7 B7.out).mono ?_
          rintro e w8 ⟨rfl, hb8⟩
          have B8 := Lib.hid (B7.out.trans (hb8.mono B7.out.size))
          clear hb8
          go_wp2_with fail
          go_ret
          exact ⟨rfl, B8.out⟩
        · clear hz
          have hC0 := HG.out.codes
          have hL0 := HG.out.row
          rw [HL.out.2.2.1] at hL0
          rw [hCl] at hC0
          obtain ⟨gi, cpi, rfl, hgi, hni, hmi, hci⟩ := own_open9 hL0 hk0
          obtain ⟨gc, cpc, rfl, hgc, hnc, hmc, hcc⟩ := own_open9 hC0 hk0
          have NEWS := Lib.hid (fun (wx : World) (hb : Below wr.heap.size wr wx) => show ∀ j u, (C.map (Value.int .i64))[j]? = some u → wx.cell? ((⟨gc, 0, none⟩ : Addr).add j) = some u from fun j u hu => by
            rw [add9]
            exact (cell_old (p := ⟨gc, j, none⟩) hb hgc).trans (hcc j u hu))
          have CL := Lib.hid (show (C.map (Value.int .i64)).length = k * 1 by rw [List.length_map, hCl, Nat.mul_one])
          have ONE := Lib.hid (show ∀ u ∈ C.map (Value.int .i64), u.oneCell' = true from fun u hu => by
            rw [List.mem_map] at hu
            obtain ⟨c, _, rfl⟩ := hu
            rfl)
          have ONE5 := Lib.hid (show ∀ u ∈ [Value.int .i64 5], u.oneCell' = true from fun u hu => by
            simp only [List.mem_cons, List.not_mem_nil, or_false] at hu
            subst hu; rfl)
          have RD := Lib.hid HG.out.reads.2
          have kE : ((k : Int) == 0) = false := by rw [beq_eq_false_iff_ne]; omega
          clear hL0 hC0 hci hcc
          go_wp2_with fail
          refine (D1.out wr (Below.refl _ _) _ RD.out).mono ?_
          rintro e w1 ⟨rfl, hb1⟩
          have B1 := Lib.hid hb1
          clear hb1
          go_wp2_with fail
          refine (D2.out w1 B1.out _ (RD.out.keep B1.out)).mono ?_
          rintro e w2 ⟨rfl, hb2⟩
          have B2 := Lib.hid (B1.out.trans (hb2.mono B1.out.size))
          clear hb2
          go_wp2_with (first
            | (at_builtin; refine wpList_append_where_g _ (by rfl) _ _ 29 rfl w2.heap.size 3 i2 (.int .i64 0) 1 8 Tryd.underlying29 hi2 hz20 hz21 hz22 rfl (by decide) (.slice none 0 0) 0 [] rfl (World.ownsRow_nil _ _ _ _) ⟨gc, 0, none⟩ k cpc (C.map (Value.int .i64)) rfl CL.out (NEWS.out w2 B2.out) ONE.out (by unfold maxLen; omega) (by omega) (Nat.le_refl _) ?_; intro v3 w3 hown3 hgrow3 hwh3; rw [List.nil_append] at hown3; have G3 := Lib.hid (And.intro hown3 (And.intro hgrow3 (B2.out.grown hgrow3 B2.out.size (fun z hz => by cases hz)))); clear hown3 hgrow3 hwh3)
            | (at_builtin; refine wpList_append_where_g _ (by rfl) _ _ 29 rfl w2.heap.size 3 i2 (.int .i64 0) 1 8 Tryd.underlying29 hi2 hz20 hz21 hz22 rfl (by decide) v3 _ _ rfl (G3.out.1.alloc _) ⟨w3.heap.size, 0, none⟩ 1 1 [.int .i64 5] rfl rfl (news_row _ _ _) ONE5.out (by unfold maxLen; omega) (by omega) (by have := G3.out.2.1.size; rw [World.size_alloc]; omega) ?_; intro v4 w4 hown4 hgrow4 hwh4; have G4 := Lib.hid (And.intro hown4 ((G3.out.2.2.alloc G3.out.2.2.size (.cells #[.int .i64 5] /-t-/3)).grown hgrow4 (by have := G3.out.2.2.size; rw [World.size_alloc]; omega) (fun z hz => by have := (G3.out.1.lt z hz).1; have := B2.out.size; omega))); clear hown4 hgrow4 hwh4))
          have R4 := Lib.hid (show IntsAt w4 v4 (C ++ [5]) from ints_own (B := w2.heap.size) (by have := G4.out.1; rw [List.length_append, List.map_append, hCl]; rw [Nat.zero_add] at this; exact this))
          refine (D3.out w4 G4.out.2 v4 R4.out).mono ?_
          rintro e w5 ⟨rfl, hb5⟩
          have B5 := Lib.hid (G4.out.2.trans (hb5.mono G4.out.2.size))
          clear hb5 G3 G4 R4
          have B5a := Lib.hid (B5.out.alloc B5.out.size (.cells #[.int .i64 5] /-t-/3))
          go_wp2_with (at_builtin; refine wpList_append_where_g _ (by rfl) _ _ 29 rfl w5.heap.size 3 i2 (.int .i64 0) 1 8 Tryd.underlying29 hi2 hz20 hz21 hz22 rfl (by decide) (.slice (some ⟨w5.heap.size, 0, none⟩) 1 1) 1 [.int .i64 5] rfl (World.ownsRow_lit w5 #[.int .i64 5] 1 (Nat.le_refl _) (by unfold maxLen; omega) rfl) ⟨gc, 0, none⟩ k cpc (C.map (Value.int .i64)) rfl CL.out (NEWS.out _ B5a.out) ONE.out (by unfold maxLen; omega) (by omega) (by rw [World.size_alloc]; omega) ?_; intro v6 w6 hown6 hgrow6 hwh6; have G6 := Lib.hid (And.intro hown6 (B5a.out.grown hgrow6 B5a.out.size (fun z hz => by cases hz; exact B5.out.size))); clear hown6 hgrow6 hwh6)
          have R6 := Lib.hid (show IntsAt w6 v6 (5 :: C) from ints_own (B := w5.heap.size) (by have := G6.out.1; rw [List.length_cons, List.map_cons, hCl, Nat.add_comm]; exact this))
          refine (D4.out w6 G6.out.2 v6 R6.out).mono ?_
          rintro e w7 ⟨rfl, hb7⟩
          have B7 := Lib.hid (G6.out.2.trans (hb7.mono G6.out.2.size))
          clear hb7 G6 R6 B5 B5a
          have tw : IntKind.i64.wrap ((k : Int) - 1) = ((k - 1 : Nat) : Int) := by rw [IntWalk.i64_in _ (by omega)]; omega
          have tk0 : (0 : Int) ≤ ((k - 1 : Nat) : Int) := by omega
          have tk1 : ((k - 1 : Nat) : Int) ≤ cpc := by omega
          have tk2 : ((k - 1 : Nat) : Int) ≤ k := by omega
          have tk3 : (1 : Int) ≤ k := by omega
          have tk4 : (k : Int) ≤ cpc := by omega
          go_upto_region 21 with fail
          go_cut [6, 109] from 66 (fun vc t wx => vc = .slice (some ⟨gc, 0, none⟩) k cpc ∧ t = .bool false ∧ Hid (Below wr.heap.size wr wx))
          case first =>
            go_wp2_with fail
            refine (D5.out w7 B7.out _ (C.take (k - 1)) (ints_cut (RD.out.keep B7.out) hCl hk0 (k - 1) (by omega)) (by rw [List.length_take]; omega)).mono ?_
            rintro e w8 ⟨rfl, hb8⟩
            have B8 := Lib.hid (B7.out.trans (hb8.mono B7.out.size))
            clear hb8
            go_wp2_with fail
            all_goals
              refine (D6.out w8 B8.out _ (C.drop 1) (by first | exact ints_rest (RD.out.keep B8.out) hCl hk0 | exact .inl ⟨List.drop_eq_nil_of_le (by omega), _, _, by rw [show k - 1 = 0 by omega]⟩) (by rw [List.length_drop]; omega)).mono ?_
              rintro e w9 ⟨rfl, hb9⟩
              have B9 := Lib.hid (B8.out.trans (hb9.mono B8.out.size))
              clear hb9
              go_wp2_with fail
              go_meet
              exact ⟨by first | rfl | (congr 1; omega), rfl, B9⟩
          case rest =>
            obtain ⟨rfl, rfl, B9⟩ := hcut
            clear B7 tw tk0 tk1 tk2 tk3 tk4
            obtain ⟨i, hi⟩ : ∃ i : Nat, bad % (k : Int) = i := ⟨(bad % (k : Int)).toNat, by have := Int.emod_nonneg bad (show (k : Int) ≠ 0 by omega); omega⟩
            have hik : i < k := by have := Int.emod_lt_of_pos bad (show (0 : Int) < k by omega); omega
            obtain ⟨p, hp⟩ : ∃ p, ps[i]? = some p := ⟨_, List.getElem?_eq_getElem (by have := HN.out.1; omega)⟩
            have PL := Lib.hid (fun wx => place9 bad k wx (by omega) (by omega))
            rw [hi] at PL
            have hiI : (i : Int) < k := by omega
            have hi0 : (0 : Int) ≤ i := by omega
            have HP := Lib.hid (And.intro hp hik)
            clear hp hi
            go_wp2_with fail
            refine (PL.out _).mono ?_
            rintro e w10 ⟨rfl, rfl⟩
            go_upto_region 25 with (at_builtin; refine wpList_append_where _ rfl _ _ 29 rfl wc.heap.size 3 i2 (.int .i64 0) 1 8 Tryd.underlying29 hi2 hz20 hz21 hz22 rfl (by decide) (.slice none 0 0) 0 [] rfl (World.ownsRow_nil _ _ _ _) ⟨gc, 0, none⟩ k cpc (C.map (Value.int .i64)) rfl CL.out (NEWS.out wc B9.out) ONE.out (by unfold maxLen; omega) (by omega) (Nat.le_refl _) ?_; intro v3 w3 hown3 hgrow3 hwh3; rw [List.nil_append, Nat.zero_add] at hown3; obtain ⟨gw, cpw, rfl, hgw, hnw, hmw, hcw⟩ := own_open9 hown3 hk0; have G3 := Lib.hid (And.intro hown3 (And.intro (B9.out.grown hgrow3 B9.out.size (fun z hz => by cases hz)) (show ∃ u, w3.cell? ⟨gw, i, none⟩ = some u from ⟨_, hcw i _ (List.getElem?_eq_getElem (by rw [CL.out]; omega))⟩))); clear hown3 hgrow3 hwh3 hcw)
            have fz := World.ownsRow.frozenAt G3.out.1
            obtain ⟨x0, c0⟩ := G3.out.2.2
            have hgwn : wr.heap.size ≤ gw := Nat.le_trans B9.out.size (G3.out.1.lt gw rfl).1
            have hLi : L[i]? = some (itOf p) := by rw [HL.out.1, List.getElem?_map, HP.out.1]; rfl
            have sA := World.ownsRow.stored G3.out.1 i (.int .i64 65)
            have bA := G3.out.2.1.grown sA.2 G3.out.2.1.size (fun z hz => by cases hz; exact hgwn)
            have sB := World.ownsRow.stored sA.1 i (.int .i64 122)
            have bB := bA.grown sB.2 bA.size (fun z hz => by cases hz; exact hgwn)
            rw [← List.map_set] at sA
            rw [List.set_set, ← List.map_set] at sB
            have iA := items_cells (HG.out.reads.1.keep bA) hLi
            have iB := items_cells (HG.out.reads.1.keep bB) hLi
            have rA := ints_own (cs := C.set i 65) (by rw [List.length_set, hCl]; exact sA.1)
            have rB := ints_own (cs := C.set i 122) (by rw [List.length_set, hCl]; exact sB.1)
            obtain ⟨any, hany⟩ : ∃ any, any = (itOf p).any := ⟨_, rfl⟩
            have hbb : (any == any) = true := by simp
            have fin : ∀ wF, Below wr.heap.size wr wF → IntsAt wF (.slice (some ⟨gw, 0, none⟩) k cpw) (C.set i (wrongC (itOf p))) → ∀ wx, Below wF.heap.size wF wx → Below wr.heap.size wr wx ∧ IntsAt wx (.slice (some ⟨gw, 0, none⟩) k cpw) (C.set i (wrongC (itOf p))) ∧ wx.cell? ⟨gi, i * 3, none⟩ = some (.bool any) ∧ Below w.heap.size w wx := fun wF hF hr wx hb =>
              have hx := hF.trans (hb.mono hF.size)
              ⟨hx, hr.keep hb, hany ▸ (items_cells (HG.out.reads.1.keep hx) hLi).1, HG.out.below.trans (hx.mono HG.out.below.size)⟩
            have FIN := Lib.hid fin
            clear fin
            cases hnt : (itOf p).not
            · rw [hnt] at iA iB
              have hw : wrongC (itOf p) = 65 := by unfold wrongC; rw [hnt]; rfl
              have XF := Lib.hid (And.intro bA (show IntsAt _ _ (C.set i (wrongC (itOf p))) by rw [hw]; exact rA))
              have m1 := iA.2
              clear sA bA sB bB iA iB rA rB
              go_upto_region 28 with fail
              generalize w3.setCell ⟨gw, i, none⟩ (.int .i64 65) = wF at *
              have e7 : ∀ wx, (wx.cell? ⟨gi, i * 3, none⟩ = some (.bool any) ∧ Hid (Below wF.heap.size wF wx)) → Calls Tryd.prog 10 #[.slice (some ⟨gi, 0, none⟩) k cpi, .slice (some ⟨gw, 0, none⟩) k cpw] wx fun e w' => e = .returned (.bool any) ∧ (w'.cell? ⟨gi, i * 3, none⟩ = some (.bool any) ∧ Hid (Below wF.heap.size wF w')) := fun wx hx => by
                obtain ⟨h1, h2, h3, h4⟩ := FIN.out wF XF.out.1 XF.out.2 wx hx.2.out
                refine (D7.out wx h1 _ i p HP.out.1 h2).mono ?_
                rintro e w' ⟨rfl, hb⟩
                have hb' := hx.2.out.trans (hb.mono hx.2.out.size)
                exact ⟨by rw [hany], (FIN.out wF XF.out.1 XF.out.2 w' hb').2.2.1, Lib.hid hb'⟩
              have e8 : ∀ wx, (wx.cell? ⟨gi, i * 3, none⟩ = some (.bool any) ∧ Hid (Below wF.heap.size wF wx)) → Calls Tryd.prog 11 #[.slice (some ⟨gi, 0, none⟩) k cpi, .slice (some ⟨gw, 0, none⟩) k cpw] wx fun e w' => e = .returned (.bool any) ∧ (w'.cell? ⟨gi, i * 3, none⟩ = some (.bool any) ∧ Hid (Below wF.heap.size wF w')) := fun wx hx => by
                obtain ⟨h1, h2, h3, h4⟩ := FIN.out wF XF.out.1 XF.out.2 wx hx.2.out
                refine (D8.out wx h1 _ i p HP.out.1 h2).mono ?_
                rintro e w' ⟨rfl, hb⟩
                have hb' := hx.2.out.trans (hb.mono hx.2.out.size)
                exact ⟨by rw [hany], (FIN.out wF XF.out.1 XF.out.2 w' hb').2.2.1, Lib.hid hb'⟩
              have e9 : ∀ wx, (wx.cell? ⟨gi, i * 3, none⟩ = some (.bool any) ∧ Hid (Below wF.heap.size wF wx)) → Calls Tryd.prog 5 #[] wx fun e w' => e = .returned (.bool true) ∧ (w'.cell? ⟨gi, i * 3, none⟩ = some (.bool any) ∧ Hid (Below wF.heap.size wF w')) := fun wx hx => by
                obtain ⟨h1, h2, h3, h4⟩ := FIN.out wF XF.out.1 XF.out.2 wx hx.2.out
                refine (hAW.out wx h4).mono ?_
                rintro e w' ⟨rfl, hb⟩
                have hb' := hx.2.out.trans (hb.mono hx.2.out.size)
                exact ⟨rfl, (FIN.out wF XF.out.1 XF.out.2 w' hb').2.2.1, Lib.hid hb'⟩
              have hS : wF.drew.cell? ⟨gi, i * 3, none⟩ = some (.bool any) ∧ Hid (Below wF.heap.size wF wF.drew) := ⟨(FIN.out wF XF.out.1 XF.out.2 wF (Below.refl _ _)).2.2.1, Lib.hid (Below.refl _ _).drew⟩
              have E7 := Lib.hid e7
              have E8 := Lib.hid e8
              have E9 := Lib.hid e9
              have HS0 := Lib.hid hS
              have RET := Lib.hid (fun wx (hb : Below wF.heap.size wF wx) => (FIN.out wF XF.out.1 XF.out.2 wx hb).2.2.2)
              clear e7 e8 e9 hS m1 hany hnt hw c0 fz hLi
              go_region_held3 (fun wx => wx.cell? ⟨gi, i * 3, none⟩ = some (.bool any) ∧ Hid (Below wF.heap.size wF wx))
                (first | exact HS0.out | assumption)
                (first
                  | (go_at_call 10; refine (E7.out _ (by assumption)).mono ?_; rintro e w5 ⟨rfl, hs⟩)
                  | (go_at_call 11; refine (E8.out _ (by assumption)).mono ?_; rintro e w5 ⟨rfl, hs⟩)
                  | (go_at_call 5; refine (E9.out _ (by assumption)).mono ?_; rintro e w5 ⟨rfl, hs⟩))
              have hb5 : Hid (Below w.heap.size w w5) := by
                have hh : w5.cell? ⟨gi, i * 3, none⟩ = some (.bool any) ∧ Hid (Below wF.heap.size wF w5) := by assumption
                exact Lib.hid (RET.out w5 hh.2.out)
              go_wp2_with fail
              go_ret
              exact ⟨rfl, hb5.out⟩
            · rw [hnt] at iA iB
              have hw : wrongC (itOf p) = 122 := by unfold wrongC; rw [hnt]; rfl
              have XF := Lib.hid (And.intro bB (show IntsAt _ _ (C.set i (wrongC (itOf p))) by rw [hw]; exact rB))
              have m1 := iA.2
              clear sA bA sB bB iA iB rA rB
              go_upto_region 28 with fail
              generalize (w3.setCell ⟨gw, i, none⟩ (.int .i64 65)).setCell ⟨gw, i, none⟩ (.int .i64 122) = wF at *
              have e7 : ∀ wx, (wx.cell? ⟨gi, i * 3, none⟩ = some (.bool any) ∧ Hid (Below wF.heap.size wF wx)) → Calls Tryd.prog 10 #[.slice (some ⟨gi, 0, none⟩) k cpi, .slice (some ⟨gw, 0, none⟩) k cpw] wx fun e w' => e = .returned (.bool any) ∧ (w'.cell? ⟨gi, i * 3, none⟩ = some (.bool any) ∧ Hid (Below wF.heap.size wF w')) := fun wx hx => by
                obtain ⟨h1, h2, h3, h4⟩ := FIN.out wF XF.out.1 XF.out.2 wx hx.2.out
                refine (D7.out wx h1 _ i p HP.out.1 h2).mono ?_
                rintro e w' ⟨rfl, hb⟩
                have hb' := hx.2.out.trans (hb.mono hx.2.out.size)
                exact ⟨by rw [hany], (FIN.out wF XF.out.1 XF.out.2 w' hb').2.2.1, Lib.hid hb'⟩
              have e8 : ∀ wx, (wx.cell? ⟨gi, i * 3, none⟩ = some (.bool any) ∧ Hid (Below wF.heap.size wF wx)) → Calls Tryd.prog 11 #[.slice (some ⟨gi, 0, none⟩) k cpi, .slice (some ⟨gw, 0, none⟩) k cpw] wx fun e w' => e = .returned (.bool any) ∧ (w'.cell? ⟨gi, i * 3, none⟩ = some (.bool any) ∧ Hid (Below wF.heap.size wF w')) := fun wx hx => by
                obtain ⟨h1, h2, h3, h4⟩ := FIN.out wF XF.out.1 XF.out.2 wx hx.2.out
                refine (D8.out wx h1 _ i p HP.out.1 h2).mono ?_
                rintro e w' ⟨rfl, hb⟩
                have hb' := hx.2.out.trans (hb.mono hx.2.out.size)
                exact ⟨by rw [hany], (FIN.out wF XF.out.1 XF.out.2 w' hb').2.2.1, Lib.hid hb'⟩
              have e9 : ∀ wx, (wx.cell? ⟨gi, i * 3, none⟩ = some (.bool any) ∧ Hid (Below wF.heap.size wF wx)) → Calls Tryd.prog 5 #[] wx fun e w' => e = .returned (.bool true) ∧ (w'.cell? ⟨gi, i * 3, none⟩ = some (.bool any) ∧ Hid (Below wF.heap.size wF w')) := fun wx hx => by
                obtain ⟨h1, h2, h3, h4⟩ := FIN.out wF XF.out.1 XF.out.2 wx hx.2.out
                refine (hAW.out wx h4).mono ?_
                rintro e w' ⟨rfl, hb⟩
                have hb' := hx.2.out.trans (hb.mono hx.2.out.size)
                exact ⟨rfl, (FIN.out wF XF.out.1 XF.out.2 w' hb').2.2.1, Lib.hid hb'⟩
              have hS : wF.drew.cell? ⟨gi, i * 3, none⟩ = some (.bool any) ∧ Hid (Below wF.heap.size wF wF.drew) := ⟨(FIN.out wF XF.out.1 XF.out.2 wF (Below.refl _ _)).2.2.1, Lib.hid (Below.refl _ _).drew⟩
              have E7 := Lib.hid e7
              have E8 := Lib.hid e8
              have E9 := Lib.hid e9
              have HS0 := Lib.hid hS
              have RET := Lib.hid (fun wx (hb : Below wF.heap.size wF wx) => (FIN.out wF XF.out.1 XF.out.2 wx hb).2.2.2)
              clear e7 e8 e9 hS m1 hany hnt hw c0 fz hLi
              go_region_held3 (fun wx => wx.cell? ⟨gi, i * 3, none⟩ = some (.bool any) ∧ Hid (Below wF.heap.size wF wx))
                (first | exact HS0.out | assumption)
                (first
                  | (go_at_call 10; refine (E7.out _ (by assumption)).mono ?_; rintro e w5 ⟨rfl, hs⟩)
                  | (go_at_call 11; refine (E8.out _ (by assumption)).mono ?_; rintro e w5 ⟨rfl, hs⟩)
                  | (go_at_call 5; refine (E9.out _ (by assumption)).mono ?_; rintro e w5 ⟨rfl, hs⟩))
              have hb5 : Hid (Below w.heap.size w w5) := by
                have hh : w5.cell? ⟨gi, i * 3, none⟩ = some (.bool any) ∧ Hid (Below wF.heap.size wF w5) := by assumption
                exact Lib.hid (RET.out w5 hh.2.out)
              go_wp2_with fail
              go_ret
              exact ⟨rfl, hb5.out⟩
    · clear hz
      have hkn : (k : Int) < ns.length := by have := HN.out.2; omega
      have hk8 : (k : Int) < 8 := by omega
      have hk0 : (0 : Int) ≤ k := by omega
      obtain ⟨x, p, hx, hp, hpx⟩ := HAT.out.1 k (by omega)
      obtain ⟨q, o, rfl, hq, hcp, cq⟩ := HAT.out.2 k x hx
      obtain ⟨xs, hG⟩ := HM.out
      have m0 := (hG.below.cell (p := ⟨q, o + k, none⟩) hq).trans cq
      have P1 := Lib.hid (fun wx => place9 x 1048576 wx (by omega) (by omega))
      have hcp' : (ns.length : Int) ≤ cap := by omega
      have hnext : ps.take (k + 1) = ps.take k ++ [p] := by rw [List.take_add_one, hp]; rfl
      have hlk : (ps.take k).length = k := by rw [List.length_take]; have := HN.out.1; omega
      have HX := Lib.hid (And.intro hnext hlk)
      have HIT := Lib.hid (itOf_cases p)
      obtain ⟨P, c, r, Q, hw64, hP, hc, t1, t2, t3, t4, hQ4, hcb⟩ : ∃ P c r Q : Int, wrap64 Q = Q ∧ x % 1048576 = P ∧ c = cOf p ∧ Int.tmod P 20 = r ∧ IntKind.i64.wrap (97 + r) = c ∧ IntKind.i64.wrap (c + 1) = c + 1 ∧ Int.tdiv P 20 = Q ∧ Int.tmod Q 4 = ((p / 20 % 4 : Nat) : Int) ∧ 97 ≤ c ∧ c ≤ 116 := by
        have hcb := cOf_bd p
        have hP0 : (0 : Int) ≤ p := by omega
        have hPm : (p : Int) < 1048576 := by rw [← hpx]; omega
        have t1 : Int.tmod (p : Int) 20 = cOf p - 97 := by rw [Int.tmod_eq_emod_of_nonneg hP0]; unfold cOf; omega
        have hq : Int.tdiv (p : Int) 20 = (p : Int) / 20 := Int.tdiv_eq_ediv_of_nonneg hP0
        exact ⟨p, cOf p, cOf p - 97, (p : Int) / 20, (by unfold wrap64; omega), hpx, rfl, t1, (by rw [IntWalk.i64_in _ (by omega)]; omega), (by rw [IntWalk.i64_in _ (by omega)]), hq, (by rw [Int.tmod_eq_emod_of_nonneg (by omega)]; omega), hcb⟩
      rw [hP] at P1
      have HG := Lib.hid hG
      have HCC := Lib.hid (And.intro hc hcb)
      clear hG HM hnext hlk hpx hx hp cq hP hc hcb
      rw [← HCC.out.1] at HIT
      have HLK := Lib.hid (show ((ps.take k).map itOf).length ≤ 8 ∧ ((ps.take k).map cOf).length ≤ 8 by rw [List.length_map, List.length_map]; have := HX.out.2; omega)
      have HONE := Lib.hid (show ∀ (a b : Bool) (sv : Value), sv.oneCell' = true → ∀ u ∈ [Value.bool a, .bool b, sv], u.oneCell' = true from fun a b sv h u hu => by
        simp only [List.mem_cons, List.not_mem_nil, or_false] at hu
        rcases hu with rfl | rfl | rfl
        · rfl
        · rfl
        · exact h)
      rcases HIT.out with ⟨hd, hit⟩ | ⟨hd, hit⟩ | ⟨hd, hit⟩ | ⟨hd, hit⟩
      · have hQ5 : Q.tmod 4 = 0 := by rw [hQ4, hd]; rfl
        clear hQ4
        have HA := Lib.hid (HG.out.alloc (.cells #[.bool true, .bool false, .slice none 0 0] /-t-/32))
        have HV := Lib.hid (show IntsAt (wr.alloc (.cells #[.bool true, .bool false, .slice none 0 0] /-t-/32)) (.slice none 0 0) [] ∧ ∀ b, (Value.slice none 0 0).ownBlock = some b → b < (wr.alloc (.cells #[.bool true, .bool false, .slice none 0 0] /-t-/32)).heap.size ∧ u5.ownBlock ≠ some b ∧ u6.ownBlock ≠ some b from ⟨.inl ⟨rfl, _, _, rfl⟩, fun b hb => by cases hb⟩)
        go_wp2_with fail
        refine (P1.out _).mono ?_
        rintro e w1 ⟨rfl, rfl⟩
        go_wp2_with (first
          | (at_builtin; refine wpList_append_where _ rfl _ _ 23 rfl w.heap.size 32 i1 (.agg #[.bool false, .bool false, .slice none 0 0]) 3 32 Tryd.underlying23 hi1 hz10 hz11 hz12 rfl (by decide) u5 _ xs rfl HA.out.row ⟨wr.heap.size, 0, none⟩ 1 1 (iCells ⟨true, false, []⟩ (.slice none 0 0)) rfl rfl (news_row _ _ _) (HONE.out _ _ _ rfl) (by unfold maxLen; have := HLK.out.1; omega) (by have := HLK.out.1; omega) HA.out.below.size ?_; intro v' w4 hown4 hgrow4 hwh4; have G4 := Lib.hid ((HA.out.item (it := ⟨true, false, []⟩) hown4 hgrow4 hwh4 HV.out.1 HV.out.2).alloc (.cells #[.int .i64 c] /-t-/3)); clear hown4 hgrow4 hwh4)
          | (at_builtin; refine wpList_append_where _ rfl _ _ 29 rfl w.heap.size 3 i2 (.int .i64 0) 1 8 Tryd.underlying29 hi2 hz20 hz21 hz22 rfl (by decide) u6 _ _ rfl G4.out.codes ⟨w4.heap.size, 0, none⟩ 1 1 [.int .i64 c] rfl rfl (news_row _ _ _) (by intro u hu; simp at hu; subst hu; rfl) (by unfold maxLen; have := HLK.out.2; omega) (by have := HLK.out.2; omega) G4.out.below.size ?_; intro vc' w5 hown5 hgrow5 hwh5; have G5 := Lib.hid (G4.out.code hown5 hgrow5 hwh5); clear hown5 hgrow5 hwh5))
        have HFIN := Lib.hid (show Mid9 w w5 v' vc' (ps.take (k + 1)) by
          have := G5.out
          rw [HCC.out.1] at this
          have hit' := hit
          try rw [HCC.out.1] at hit'
          rw [HX.out.1]
          unfold Mid9
          rw [List.map_append, List.map_append, List.map_cons, List.map_cons, List.map_nil, List.map_nil, hit']
          exact ⟨_, this⟩)
        clear G4 G5 HA HV
        go_roundg (gk - 1)
        case measure => omega
        case rel => exact ⟨k + 1, by omega, by go_num, fun e => by omega, HFIN⟩
      · have hQ5 : Q.tmod 4 = 1 := by rw [hQ4, hd]; rfl
        clear hQ4
        have HA := Lib.hid ((HG.out.alloc (.cells #[.int .i64 c] /-t-/3)).alloc (.cells #[.bool false, .bool false, .slice (some ⟨wr.heap.size, 0, none⟩) 1 1] /-t-/32))
        have HV := Lib.hid (show IntsAt ((wr.alloc (.cells #[.int .i64 c] /-t-/3)).alloc (.cells #[.bool false, .bool false, .slice (some ⟨wr.heap.size, 0, none⟩) 1 1] /-t-/32)) (.slice (some ⟨wr.heap.size, 0, none⟩) 1 1) [c] ∧ ∀ b, (Value.slice (some ⟨wr.heap.size, 0, none⟩) 1 1).ownBlock = some b → b < ((wr.alloc (.cells #[.int .i64 c] /-t-/3)).alloc (.cells #[.bool false, .bool false, .slice (some ⟨wr.heap.size, 0, none⟩) 1 1] /-t-/32)).heap.size ∧ u5.ownBlock ≠ some b ∧ u6.ownBlock ≠ some b from
          ⟨(IntsAt.lit wr [c] _ /-t-/3 rfl (by simp)).keep ((Below.refl _ _).alloc (Nat.le_refl _) _), fun b hb => by
            obtain rfl : wr.heap.size = b := Option.some.inj hb
            exact ⟨by rw [World.size_alloc, World.size_alloc]; omega, fun e => by have := (HG.out.row.lt _ e).2; omega, fun e => by have := (HG.out.codes.lt _ e).2; omega⟩⟩)
        go_wp2_with fail
        refine (P1.out _).mono ?_
        rintro e w1 ⟨rfl, rfl⟩
        go_wp2_with (first
          | (at_builtin; refine wpList_append_where _ rfl _ _ 23 rfl w.heap.size 32 i1 (.agg #[.bool false, .bool false, .slice none 0 0]) 3 32 Tryd.underlying23 hi1 hz10 hz11 hz12 rfl (by decide) u5 _ xs rfl HA.out.row ⟨wr.heap.size + 1, 0, none⟩ 1 1 (iCells ⟨false, false, [c]⟩ (.slice (some ⟨wr.heap.size, 0, none⟩) 1 1)) rfl rfl (news_row2 _ _ _ _) (HONE.out _ _ _ rfl) (by unfold maxLen; have := HLK.out.1; omega) (by have := HLK.out.1; omega) HA.out.below.size ?_; intro v' w4 hown4 hgrow4 hwh4; have G4 := Lib.hid ((HA.out.item (it := ⟨false, false, [c]⟩) hown4 hgrow4 hwh4 HV.out.1 HV.out.2).alloc (.cells #[.int .i64 c] /-t-/3)); clear hown4 hgrow4 hwh4)
          | (at_builtin; refine wpList_append_where _ rfl _ _ 29 rfl w.heap.size 3 i2 (.int .i64 0) 1 8 Tryd.underlying29 hi2 hz20 hz21 hz22 rfl (by decide) u6 _ _ rfl G4.out.codes ⟨w4.heap.size, 0, none⟩ 1 1 [.int .i64 c] rfl rfl (news_row _ _ _) (by intro u hu; simp at hu; subst hu; rfl) (by unfold maxLen; have := HLK.out.2; omega) (by have := HLK.out.2; omega) G4.out.below.size ?_; intro vc' w5 hown5 hgrow5 hwh5; have G5 := Lib.hid (G4.out.code hown5 hgrow5 hwh5); clear hown5 hgrow5 hwh5))
        have HFIN := Lib.hid (show Mid9 w w5 v' vc' (ps.take (k + 1)) by
          have := G5.out
          rw [HCC.out.1] at this
          have hit' := hit
          try rw [HCC.out.1] at hit'
          rw [HX.out.1]
          unfold Mid9
          rw [List.map_append, List.map_append, List.map_cons, List.map_cons, List.map_nil, List.map_nil, hit']
          exact ⟨_, this⟩)
        clear G4 G5 HA HV
        go_roundg (gk - 1)
        case measure => omega
        case rel => exact ⟨k + 1, by omega, by go_num, fun e => by omega, HFIN⟩
      · have hQ5 : Q.tmod 4 = 2 := by rw [hQ4, hd]; rfl
        clear hQ4
        have HA := Lib.hid ((HG.out.alloc (.cells #[.int .i64 122, .int .i64 c, .int .i64 121] /-t-/3)).alloc (.cells #[.bool false, .bool false, .slice (some ⟨wr.heap.size, 0, none⟩) 3 3] /-t-/32))
        have HV := Lib.hid (show IntsAt ((wr.alloc (.cells #[.int .i64 122, .int .i64 c, .int .i64 121] /-t-/3)).alloc (.cells #[.bool false, .bool false, .slice (some ⟨wr.heap.size, 0, none⟩) 3 3] /-t-/32)) (.slice (some ⟨wr.heap.size, 0, none⟩) 3 3) [122, c, 121] ∧ ∀ b, (Value.slice (some ⟨wr.heap.size, 0, none⟩) 3 3).ownBlock = some b → b < ((wr.alloc (.cells #[.int .i64 122, .int .i64 c, .int .i64 121] /-t-/3)).alloc (.cells #[.bool false, .bool false, .slice (some ⟨wr.heap.size, 0, none⟩) 3 3] /-t-/32)).heap.size ∧ u5.ownBlock ≠ some b ∧ u6.ownBlock ≠ some b from
          ⟨(IntsAt.lit wr [122, c, 121] _ /-t-/3 rfl (by simp)).keep ((Below.refl _ _).alloc (Nat.le_refl _) _), fun b hb => by
            obtain rfl : wr.heap.size = b := Option.some.inj hb
            exact ⟨by rw [World.size_alloc, World.size_alloc]; omega, fun e => by have := (HG.out.row.lt _ e).2; omega, fun e => by have := (HG.out.codes.lt _ e).2; omega⟩⟩)
        go_wp2_with fail
        refine (P1.out _).mono ?_
        rintro e w1 ⟨rfl, rfl⟩
        go_wp2_with (first
          | (at_builtin; refine wpList_append_where _ rfl _ _ 23 rfl w.heap.size 32 i1 (.agg #[.bool false, .bool false, .slice none 0 0]) 3 32 Tryd.underlying23 hi1 hz10 hz11 hz12 rfl (by decide) u5 _ xs rfl HA.out.row ⟨wr.heap.size + 1, 0, none⟩ 1 1 (iCells ⟨false, false, [122, c, 121]⟩ (.slice (some ⟨wr.heap.size, 0, none⟩) 3 3)) rfl rfl (news_row2 _ _ _ _) (HONE.out _ _ _ rfl) (by unfold maxLen; have := HLK.out.1; omega) (by have := HLK.out.1; omega) HA.out.below.size ?_; intro v' w4 hown4 hgrow4 hwh4; have G4 := Lib.hid ((HA.out.item (it := ⟨false, false, [122, c, 121]⟩) hown4 hgrow4 hwh4 HV.out.1 HV.out.2).alloc (.cells #[.int .i64 c] /-t-/3)); clear hown4 hgrow4 hwh4)
          | (at_builtin; refine wpList_append_where _ rfl _ _ 29 rfl w.heap.size 3 i2 (.int .i64 0) 1 8 Tryd.underlying29 hi2 hz20 hz21 hz22 rfl (by decide) u6 _ _ rfl G4.out.codes ⟨w4.heap.size, 0, none⟩ 1 1 [.int .i64 c] rfl rfl (news_row _ _ _) (by intro u hu; simp at hu; subst hu; rfl) (by unfold maxLen; have := HLK.out.2; omega) (by have := HLK.out.2; omega) G4.out.below.size ?_; intro vc' w5 hown5 hgrow5 hwh5; have G5 := Lib.hid (G4.out.code hown5 hgrow5 hwh5); clear hown5 hgrow5 hwh5))
        have HFIN := Lib.hid (show Mid9 w w5 v' vc' (ps.take (k + 1)) by
          have := G5.out
          rw [HCC.out.1] at this
          have hit' := hit
          try rw [HCC.out.1] at hit'
          rw [HX.out.1]
          unfold Mid9
          rw [List.map_append, List.map_append, List.map_cons, List.map_cons, List.map_nil, List.map_nil, hit']
          exact ⟨_, this⟩)
        clear G4 G5 HA HV
        go_roundg (gk - 1)
        case measure => omega
        case rel => exact ⟨k + 1, by omega, by go_num, fun e => by omega, HFIN⟩
      · have hQ5 : Q.tmod 4 = 3 := by rw [hQ4, hd]; rfl
        clear hQ4
        have HA := Lib.hid ((HG.out.alloc (.cells #[.int .i64 (c + 1), .int .i64 122] /-t-/3)).alloc (.cells #[.bool false, .bool true, .slice (some ⟨wr.heap.size, 0, none⟩) 2 2] /-t-/32))
        have HV := Lib.hid (show IntsAt ((wr.alloc (.cells #[.int .i64 (c + 1), .int .i64 122] /-t-/3)).alloc (.cells #[.bool false, .bool true, .slice (some ⟨wr.heap.size, 0, none⟩) 2 2] /-t-/32)) (.slice (some ⟨wr.heap.size, 0, none⟩) 2 2) [c + 1, 122] ∧ ∀ b, (Value.slice (some ⟨wr.heap.size, 0, none⟩) 2 2).ownBlock = some b → b < ((wr.alloc (.cells #[.int .i64 (c + 1), .int .i64 122] /-t-/3)).alloc (.cells #[.bool false, .bool true, .slice (some ⟨wr.heap.size, 0, none⟩) 2 2] /-t-/32)).heap.size ∧ u5.ownBlock ≠ some b ∧ u6.ownBlock ≠ some b from
          ⟨(IntsAt.lit wr [c + 1, 122] _ /-t-/3 rfl (by simp)).keep ((Below.refl _ _).alloc (Nat.le_refl _) _), fun b hb => by
            obtain rfl : wr.heap.size = b := Option.some.inj hb
            exact ⟨by rw [World.size_alloc, World.size_alloc]; omega, fun e => by have := (HG.out.row.lt _ e).2; omega, fun e => by have := (HG.out.codes.lt _ e).2; omega⟩⟩)
        go_wp2_with fail
        refine (P1.out _).mono ?_
        rintro e w1 ⟨rfl, rfl⟩
        go_wp2_with (first
          | (at_builtin; refine wpList_append_where _ rfl _ _ 23 rfl w.heap.size 32 i1 (.agg #[.bool false, .bool false, .slice none 0 0]) 3 32 Tryd.underlying23 hi1 hz10 hz11 hz12 rfl (by decide) u5 _ xs rfl HA.out.row ⟨wr.heap.size + 1, 0, none⟩ 1 1 (iCells ⟨false, true, [c + 1, 122]⟩ (.slice (some ⟨wr.heap.size, 0, none⟩) 2 2)) rfl rfl (news_row2 _ _ _ _) (HONE.out _ _ _ rfl) (by unfold maxLen; have := HLK.out.1; omega) (by have := HLK.out.1; omega) HA.out.below.size ?_; intro v' w4 hown4 hgrow4 hwh4; have G4 := Lib.hid ((HA.out.item (it := ⟨false, true, [c + 1, 122]⟩) hown4 hgrow4 hwh4 HV.out.1 HV.out.2).alloc (.cells #[.int .i64 c] /-t-/3)); clear hown4 hgrow4 hwh4)
          | (at_builtin; refine wpList_append_where _ rfl _ _ 29 rfl w.heap.size 3 i2 (.int .i64 0) 1 8 Tryd.underlying29 hi2 hz20 hz21 hz22 rfl (by decide) u6 _ _ rfl G4.out.codes ⟨w4.heap.size, 0, none⟩ 1 1 [.int .i64 c] rfl rfl (news_row _ _ _) (by intro u hu; simp at hu; subst hu; rfl) (by unfold maxLen; have := HLK.out.2; omega) (by have := HLK.out.2; omega) G4.out.below.size ?_; intro vc' w5 hown5 hgrow5 hwh5; have G5 := Lib.hid (G4.out.code hown5 hgrow5 hwh5); clear hown5 hgrow5 hwh5))
        have HFIN := Lib.hid (show Mid9 w w5 v' vc' (ps.take (k + 1)) by
          have := G5.out
          rw [HCC.out.1] at this
          have hit' := hit
          try rw [HCC.out.1] at hit'
          rw [HX.out.1]
          unfold Mid9
          rw [List.map_append, List.map_append, List.map_cons, List.map_cons, List.map_nil, List.map_nil, hit']
          exact ⟨_, this⟩)
        clear G4 G5 HA HV
        go_roundg (gk - 1)
        case measure => omega
        case rel => exact ⟨k + 1, by omega, by go_num, fun e => by omega, HFIN⟩
end Go.Proofs.YtdmmkpbpdhjfmaaDoor
