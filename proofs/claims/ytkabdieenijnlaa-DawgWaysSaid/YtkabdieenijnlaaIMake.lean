/- builder.state by contract: a state for words, by what stands behind so many bytes. -/
import Derived.Test.YtkabdieenijnlaaIState
import Derived.Deep.CutRange
import Derived.Deep.DeepCutAuto
import Derived.Deep.RegionHeld3
import Derived.Shelf.RegionOpen
namespace Go.Proofs.Ytkabdieenijnlaa
open Go Go.RowKit Go.Lib Go.Shelf
attribute [local go_sem] alloc_set

set_option maxRecDepth 100000 in
set_option maxHeartbeats 4000000 in
theorem state_step (h : Nat) (IH : ∀ h', h' + 1 = h → StSays h') : StSays h := by
  intro w T pb pa ms mp g A n cap ws d hbm htx hsrt hsz hdh hn hnn hna
  obtain ⟨w3, hw3⟩ : ∃ w3, w3 = ((w.alloc (.cells #[.slice A n cap] 22)).alloc (.cells #[.int .i64 d] 3)).alloc (.cells #[.bool false, .int .i32 (-1)] 64) := ⟨_, rfl⟩
  have hb3 : Below w.heap.size w w3 := by rw [hw3]; exact (((Below.refl _ w).alloc (Nat.le_refl _) _).alloc (by simp) _).alloc (by simp; omega) _
  have hLM : LM w w3 T T pb pa ms mp g w.heap.size (w.heap.size + 1) (w.heap.size + 1 + 1) A n cap d false 0 ws := by
    have hs1 : (w.alloc (.cells #[.slice A n cap] 22)).heap.size = w.heap.size + 1 := World.size_alloc _ _
    have hs2 : ((w.alloc (.cells #[.slice A n cap] 22)).alloc (.cells #[.int .i64 d] 3)).heap.size = w.heap.size + 2 := by rw [World.size_alloc, hs1]
    refine ⟨hbm.keep hb3, Fr.of_below hb3, ?_, ?_, ?_, ⟨fun ht => ?_, fun ht => ?_, fun ht => ?_⟩, ⟨by omega, by omega, by omega⟩, ⟨by omega, by omega, by omega⟩, hbm.pb_lt, ?_⟩
    · rw [hw3]
      exact (Below.heap_alloc _ _ _ (by omega)).trans ((Below.heap_alloc _ _ _ (by omega)).trans (World.alloc_heap_new w _))
    · rw [hw3]
      refine (Below.heap_alloc _ _ _ (by omega)).trans ?_
      have := World.alloc_heap_new (w.alloc (.cells #[.slice A n cap] 22)) (.cells #[.int .i64 d] 3)
      rwa [hs1] at this
    · rw [hw3]
      have := World.alloc_heap_new ((w.alloc (.cells #[.slice A n cap] 22)).alloc (.cells #[.int .i64 d] 3)) (.cells #[.bool false, .int .i32 (-1)] 64)
      rwa [hs2] at this
    · have := hbm.lt _ ht; omega
    · have := hbm.lt _ ht; omega
    · have := hbm.lt _ ht; omega
    · rcases htx.2 with h0 | ⟨q, off, e, k1, k2, k3, k4, k5⟩
      · exact .inl h0
      · exact .inr ⟨q, off, e, k1, k2, k3, k4, fun j s _ hs => (cell_old hb3 k2).trans (k5 j s hs)⟩
  have hLP : LP g g 0 [] := ⟨GA.Le.refl _, rfl, Made.start g, Nat.le_refl _, Nat.le_refl _⟩
  have HLM := Lib.hid hLM
  have HLP := Lib.hid hLP
  have HT := Lib.hid (And.intro htx (And.intro hsrt (And.intro hsz (And.intro hnn hna))))
  have HIH := Lib.hid IH
  have HW := Lib.hid hw3
  obtain ⟨VW, hVW⟩ : ∃ VW, VW = ws.map (tailD d) := ⟨_, rfl⟩
  rw [← hVW]
  have HVW := Lib.hid hVW
  clear hbm htx hsrt hsz hnn hna IH hb3 hLM hLP hw3 hVW
  go_enter Try.func39, Try.ntmps39
  go_upto_region 2 with fail
  rw [← HW.out]
  obtain ⟨bw, hbw⟩ : ∃ b, b = w.heap.size := ⟨_, rfl⟩
  obtain ⟨bd, hbd⟩ : ∃ b, b = w.heap.size + 1 := ⟨_, rfl⟩
  obtain ⟨nb, hnb⟩ : ∃ b, b = w.heap.size + 1 + 1 := ⟨_, rfl⟩
  rw [← hnb, ← hbd, ← hbw] at HLM
  rw [← hnb, ← hbd, ← hbw]
  clear HW hbw hbd hnb
  -- does the first word end here?
  obtain ⟨f, rs, m, hfrs⟩ : ∃ (f : Bool) (rs : List ByteArray) (m : Nat), Hid (Grp rs d ∧ ws.map (tailD d) = fins f ++ rs.map (tailD d) ∧ m = rs.length ∧ (∀ s ∈ rs, s ∈ ws) ∧ ((f = false ∧ rs = ws ∧ m = n ∧ (n = 0 ∨ ∃ s, ws[0]? = some s ∧ d < s.size)) ∨ (f = true ∧ n = m + 1 ∧ ∃ s, ws = s :: rs ∧ s.size = d))) := by
    have hnl := HT.out.1.1
    rcases first_split HT.out.2.1 (fun s hs => (HT.out.2.2.1 s hs).1) with ⟨e, hg⟩ | ⟨s, rs, e, hs, hg, hm⟩ | ⟨s, rs, e, hs, hg⟩
    · exact ⟨false, ws, n, Lib.hid ⟨hg, rfl, hnl, fun _ h => h, .inl ⟨rfl, rfl, rfl, .inl (by rw [hnl, e]; rfl)⟩⟩⟩
    · exact ⟨true, rs, rs.length, Lib.hid ⟨hg, hm, rfl, fun t ht => by rw [e]; exact List.mem_cons_of_mem _ ht, .inr ⟨rfl, by rw [hnl, e]; rfl, s, e, hs⟩⟩⟩
    · exact ⟨false, ws, n, Lib.hid ⟨hg, rfl, hnl, fun _ h => h, .inl ⟨rfl, rfl, rfl, .inr ⟨s, by rw [e]; rfl, hs⟩⟩⟩⟩
  obtain ⟨x1, x2, x3, x4, x5, x6, x7, x8, x9, x10⟩ := HLM.out.cells
  go_cut [22] (fun b wx => b = .bool f ∧ Hid (LM w wx T T pb pa ms mp g bw bd nb A n cap d false 0 ws))
  case first =>
    have HKN := Lib.hid (show ∀ q, LM w (w3.drewN q) T T pb pa ms mp g bw bd nb A n cap d false 0 ws from fun q => HLM.out.keep ⟨rfl, rfl, rfl, Nat.le_refl _, fun _ _ => rfl⟩)
    have HFR := Lib.hid hfrs.out.2.2.2.2
    clear hfrs
    have hn0 : (0 : Int) ≤ n := by omega
    by_cases hz : n = 0
    · obtain rfl : f = false := by
        rcases HFR.out with ⟨e, _⟩ | ⟨_, e, _⟩
        · exact e
        · omega
      subst hz
      go_quiet (fail)
      go_wp2_with fail
      go_meet
      exact ⟨rfl, Lib.hid (HKN.out _)⟩
    · obtain ⟨s, hs, hsf⟩ : ∃ s, ws[0]? = some s ∧ ((s.size : Int) == (d : Int)) = f := by
        rcases HFR.out with ⟨e, _, _, e0 | ⟨s, hs, hd⟩⟩ | ⟨e, _, s, hs, hd⟩
        · omega
        · exact ⟨s, hs, by rw [e, beq_eq_false_iff_ne]; omega⟩
        · exact ⟨s, by rw [hs]; rfl, by rw [e, beq_iff_eq]; omega⟩
      obtain ⟨q, off, rfl, hq, hcell⟩ : ∃ q off, A = some ⟨q, off, none⟩ ∧ n ≤ cap ∧ w3.cell? ⟨q, off, none⟩ = some (.string s) := by
        rcases HLM.out.tx with h0 | ⟨q, off, e, _, _, k3, _, k5⟩
        · exact absurd h0 hz
        · exact ⟨q, off, e, k3, by have := k5 0 s (by omega) hs; rwa [Nat.add_zero] at this⟩
      have hn1 : (0 : Int) < n := by omega
      have hn2 : 0 < n := by omega
      clear hs hz
      cases f
      · go_quiet (fail)
        go_wp2_with fail
        go_meet
        exact ⟨rfl, Lib.hid (HKN.out _)⟩
      · go_quiet (fail)
        go_wp2_with fail
        go_meet
        exact ⟨rfl, Lib.hid (HKN.out _)⟩
  case rest =>
  obtain ⟨rfl, HL1⟩ := hcut
  clear x1 x2 x3 x4 x5 x6 x7 x8 x9 x10 HLM
  go_step
  go_cut [7] (fun s7 wx => s7 = .pointer (some ⟨nb, 0, none⟩) ∧ Hid (∃ A' cap', LM w wx T T pb pa ms mp g bw bd nb A' m cap' d f 0 rs))
  case first =>
    rcases hfrs.out.2.2.2.2 with ⟨rfl, rfl, rfl, _⟩ | ⟨rfl, hnm, s, hs, _⟩
    · clear hfrs
      go_wp2_with fail
      go_meet
      exact ⟨rfl, Lib.hid ⟨_, _, HL1.out⟩⟩
    · subst hs hnm
      obtain ⟨q, off, rfl, hq⟩ : ∃ q off, A = some ⟨q, off, none⟩ ∧ m + 1 ≤ cap := by
        rcases HL1.out.tx with h0 | ⟨q, off, e, _, _, k3, _⟩
        · omega
        · exact ⟨q, off, e, k3⟩
      have HL2 := Lib.hid (HL1.out.setF true)
      have HL3 := Lib.hid HL2.out.skip
      obtain ⟨x1, x2, x3, x4, x5, x6, x7, x8, x9, x10⟩ := HL1.out.cells
      obtain ⟨y1, y2, y3, y4, y5, y6, y7, y8, y9, y10⟩ := HL2.out.cells
      have hm0 : (0 : Int) ≤ m := by omega
      clear hfrs
      by_cases hc1 : cap = 1
      · obtain rfl : m = 0 := by omega
        subst hc1
        have HL4 := Lib.hid (HL2.out.skip0 (A' := some ⟨q, off, none⟩) (cap' := 0))
        clear HL3
        go_wp2_with fail
        go_meet
        exact ⟨rfl, Lib.hid ⟨_, _, HL4.out⟩⟩
      · have hc2 : 1 < cap := by omega
        go_wp2_with fail
        go_meet
        exact ⟨rfl, Lib.hid ⟨_, _, HL3.out⟩⟩
  case rest =>
  obtain ⟨rfl, HLQ⟩ := hcut
  obtain ⟨A', cap', hlm⟩ := HLQ.out
  have HLM := Lib.hid hlm
  have HG := Lib.hid (show Grp rs d ∧ m = rs.length ∧ (∀ s ∈ rs, d < s.size ∧ s.size ≤ d + h) ∧ (g.nodes.length + wt (rs.map (tailD d)) + 1 ≤ 1000000000 ∧ g.arcs.length + wt (rs.map (tailD d)) ≤ 1000000000) ∧ VW = fins f ++ rs.map (tailD d) from by
    obtain ⟨h1, h2, h3, h4, h5⟩ := hfrs.out
    obtain ⟨-, -, k1, k2, k3⟩ := HT.out
    rw [h2, wt_app, wt_fins, Nat.zero_add] at k2 k3
    exact ⟨h1, h3, fun s hs => ⟨h1.long s hs, (k1 s (h4 s hs)).2⟩, ⟨k2, k3⟩, HVW.out.trans h2⟩)
  have hmn : m ≤ 1000000 := by
    rcases hfrs.out.2.2.2.2 with ⟨_, _, e, _⟩ | ⟨_, e, _⟩ <;> omega
  clear hlm HLQ HT hfrs HL1 HVW hn
  go_wp2_with fail
  go_loopg [9] m (fun gh x wr => gh ≤ m ∧ Hid (∃ T' g' i, LM w wr T T' pb pa ms mp g' bw bd nb A' gh cap' d f i rs ∧ LP g g' i ((rs.map (tailD d)).drop gh) ∧ Sep rs d gh))
  case atStart => 
    refine ⟨Nat.le_refl _, Lib.hid ⟨T, g, 0, HLM.out, ?_, ?_⟩⟩
    · rw [HG.out.2.1, List.drop_of_length_le (by rw [List.length_map]; exact Nat.le_refl _)]
      exact HLP.out
    · rw [HG.out.2.1]; exact Sep.all _ _
  case round =>
    obtain ⟨hgm, HR⟩ := hrel
    clear HLM HLP
    obtain ⟨T', g', i, hlm, hlp, hsep⟩ := HR.out
    have HLM := Lib.hid hlm
    have HLP := Lib.hid (And.intro hlp hsep)
    clear hlm hlp hsep HR
    obtain ⟨x1, x2, x3, x4, x5, x6, x7, x8, x9, x10⟩ := HLM.out.cells
    rcases Nat.eq_zero_or_pos gk with h0 | h0
    · subst h0
      have CE := Lib.hid (show Calls Try.prog 55 #[.map (some ms), .pointer (some ⟨pa, 0, none⟩), .agg #[.bool f, .int .i32 ((i : Int) - 1)]] wr.drew (StPost w T pb pa ms mp g VW) from by
        have hl := HLM.out.keep (Below.refl _ wr).drew
        obtain ⟨p1, p2, p3, p4, p5⟩ := HLP.out.1
        rw [List.drop_zero] at p2 p3 p4 p5
        have hb1 := HG.out.2.2.2.1
        have hV := HG.out.2.2.2.2
        refine (numN_any hl.bm f i (rs.map (tailD d)) p2 (by omega) (by omega)).mono ?_
        rintro e w' ⟨T3, g3, n', he, hb3, hf3, q1, q2, q3, q4, q5⟩
        have hwV : wt VW = wt (rs.map (tailD d)) := by rw [hV, wt_app, wt_fins, Nat.zero_add]
        refine ⟨T3, g3, n', he, hb3, hl.fr.trans hf3, p1.trans q1, by rw [hV]; exact q2, ?_, by omega, by rw [q4]; omega⟩
        rw [hV]
        exact p3.end_ q1 q3 (List.mem_of_getElem? q2))
      clear HLM HLP HG HIH
      go_upto_region 11 with fail
      go_still_tail 11, (by kernel_rfl)
      change wpList _ _ _ _ _ wr.drew
      clear x1 x2 x3 x4 x5 x6 x7 x8 x9 x10
      go_wp2_with (go_at_call 55; refine CE.out.mono ?_; rintro e w5 hpost; obtain ⟨T3, g3, n3, rfl, hpr⟩ := hpost; have HPR := Lib.hid hpr; clear hpr)
      go_ret
      exact ⟨T3, g3, n3, rfl, HPR.out⟩
    · obtain ⟨q, off, rfl, hqc⟩ : ∃ q off, A' = some ⟨q, off, none⟩ ∧ gk ≤ cap' := by
        rcases HLM.out.tx with h1 | ⟨q, off, e, _, _, k3, _⟩
        · omega
        · exact ⟨q, off, e, k3⟩
      obtain ⟨s, hs1, hs2, -⟩ := HG.out.1.at_ (i := gk - 1) (by have := HG.out.2.1; omega)
      have hcell : wr.cell? ⟨q, off + (gk - 1), none⟩ = some (.string s) := by
        rcases HLM.out.tx with h1 | ⟨q', off', e, _, _, k3, _, k5⟩
        · omega
        · cases e
          exact k5 _ s (by omega) hs1
      obtain ⟨by_, hby⟩ : ∃ b, b = hdOf rs d (gk - 1) := ⟨_, rfl⟩
      rw [← hby] at hs2
      have hds : d < s.size := (HG.out.2.2.1 s (List.mem_of_getElem? hs1)).1
      obtain ⟨c', hc', hget⟩ := byte_at hds
      rw [hs2] at hc'
      cases hc'
      have i0 : (0 : Int) ≤ (gk : Int) - 1 := by omega
      have i1 : (gk : Int) - 1 < gk := by omega
      have i2 : ((gk : Int) - 1).toNat = gk - 1 := by omega
      have i3 : IntKind.i64.wrap ((gk : Int) - 1) = (gk : Int) - 1 := IntWalk.i64_in _ (by omega)
      have d0 : (0 : Int) ≤ d := by omega
      have d1 : (d : Int) < s.size := by omega
      have g0 : (0 : Int) < gk := by omega
      have g1 : (1 : Int) ≤ gk := by omega
      have HBY := Lib.hid hby
      have HSZ := Lib.hid (HG.out.2.2.1 s (List.mem_of_getElem? hs1))
      have hba : Below wr.heap.size wr (wr.alloc (.cells #[.int .u8 0] 5)) := (Below.refl _ _).alloc (Nat.le_refl _) _
      have kc : ∀ p v, wr.cell? p = some v → (wr.alloc (.cells #[.int .u8 0] 5)).drew.cell? p = some v := fun p v hp => (cell_old hba (World.block_lt_of_cell? _ _ hp)).trans hp
      have z1 := kc _ _ x1
      have z2 := kc _ _ x2
      have z3 := kc _ _ hcell
      have z4 : (wr.alloc (.cells #[.int .u8 0] 5)).drew.cell? ⟨wr.heap.size, 0, none⟩ = some (.int .u8 0) := new_cell _ _ _ 0
      have z5 : (wr.alloc (.cells #[.int .u8 0] 5)).drew.frozen? ⟨wr.heap.size, 0, none⟩ = false := by
        have := World.alloc_heap_new wr (.cells #[.int .u8 0] 5)
        unfold World.frozen?
        dsimp only
        rw [show (wr.alloc (.cells #[.int .u8 0] 5)).drew.heap[wr.heap.size]? = _ from this]
        simp
      have HBA := Lib.hid hba
      clear hs1 hs2 hby kc hba
      go_upto_region 6 with fail
      go_cut [8] (fun p wx => ∃ b8, p = .pointer (some ⟨b8, 0, none⟩) ∧ Hid (wr.heap.size ≤ b8 ∧ Below wr.heap.size wr wx ∧ wx.heap[b8]? = some (.cells #[.int .u8 by_.toNat] 5 (0, 0))))
      case first =>
        go_region
        all_goals go_wp2_with fail
        all_goals go_meet
        exact ⟨_, rfl, Lib.hid ⟨Nat.le_refl _, ((Below.refl _ wr).alloc (Nat.le_refl _) _).drew, World.alloc_heap_new wr _⟩⟩
      case rest =>
      obtain ⟨b8, rfl, H8⟩ := hcut
      have HLM8 := Lib.hid (HLM.out.keep H8.out.2.1)
      have HT8 := Lib.hid (show ¬ T' b8 from fun ht => by have := HLM.out.bm.lt _ ht; have := H8.out.1; omega)
      clear x1 x2 x3 x4 x5 x6 x7 x8 x9 x10 z1 z2 z3 z4 z5 HBA hcell hget HLM
      obtain ⟨x1, x2, x3, x4, x5, x6, x7, x8, x9, x10⟩ := HLM8.out.cells
      have c8 : wc.cell? ⟨b8, 0, none⟩ = some (.int .u8 by_.toNat) := by simp [World.cell?, H8.out.2.2]
      have CS := Lib.hid (search_any wc bw bd b8 (some ⟨q, off, none⟩) gk cap' d by_ rs ⟨x1, x2, c8, fun j t hj ht => by
          rcases HLM8.out.tx with h1 | ⟨q', off', e, _, _, k3, _, k5⟩
          · omega
          · exact ⟨q', off', e, k3, k5 j t hj ht⟩⟩ (hdOf rs d) (by omega) (fun j hj => by
          obtain ⟨t, e1, e2, _⟩ := HG.out.1.at_ (i := j) (by have := HG.out.2.1; omega)
          exact ⟨t, e1, e2⟩) (fun a b hab hb => HG.out.1.mono a b hab (by have := HG.out.2.1; omega)))
      go_upto_region 8 with (go_at_call 52; refine CS.out.mono ?_; rintro e w2 ⟨k, rfl, hk, hb2⟩; have HK := Lib.hid hk; have HB2 := Lib.hid hb2; clear hk hb2)
      have HLM2 := Lib.hid (HLM8.out.keep HB2.out)
      have c8' := (cell_old (p := ⟨b8, 0, none⟩) HB2.out (World.block_lt_of_cell? _ _ c8)).trans c8
      clear x1 x2 x3 x4 x5 x6 x7 x8 x9 x10 c8 CS HLM8
      obtain ⟨x1, x2, x3, x4, x5, x6, x7, x8, x9, x10⟩ := HLM2.out.cells
      obtain ⟨hkm, hM0, hsplit, hab, hsrt, hsep⟩ := HG.out.1.step (m := gk) (k := k) h0 (by have := HG.out.2.1; omega) HLP.out.2 HK.out.1 (by rw [← HBY.out]; exact HK.out.2.1) (by rw [← HBY.out]; exact HK.out.2.2)
      rw [← HBY.out] at hsplit hab
      obtain ⟨GM, hGM⟩ : ∃ GM, GM = grpM rs d k gk := ⟨_, rfl⟩
      rw [← hGM] at hM0 hsplit hsrt
      have k0 : (0 : Int) ≤ k := by omega
      have k1 : (k : Int) ≤ gk := by omega
      have k2 : k ≤ gk := by omega
      have k3 : k < cap' := by omega
      have k4 : ¬ cap' = k := by omega
      have dd : IntKind.i64.wrap ((d : Int) + 1) = (d : Int) + 1 := IntWalk.i64_in _ (by omega)
      have HS := Lib.hid (And.intro hM0 (And.intro hsplit (And.intro hab (And.intro hsrt (And.intro hsep hGM)))))
      have HWT := Lib.hid (show wt ((rs.map (tailD d)).drop k) = wt (GM.map (tailD (d + 1))) + GM.length + wt ((rs.map (tailD d)).drop gk) ∧ wt ((rs.map (tailD d)).drop k) ≤ wt (rs.map (tailD d)) ∧ 0 < GM.length from by
        refine ⟨by rw [hsplit, wt_app, wt_map, List.length_map], ?_, ?_⟩
        · conv => rhs; rw [← List.take_append_drop k (rs.map (tailD d)), wt_app]
          exact Nat.le_add_left _ _
        · cases GM with
          | nil => exact absurd rfl hM0
          | cons x r => exact Nat.succ_pos _)
      clear hM0 hsplit hab hsrt hsep hGM
      have CALL : ∀ W, Below w2.heap.size w2 W → Calls Try.prog 39 #[.pointer (some ⟨pb, 0, none⟩), .slice (some ⟨q, off + k, none⟩) (gk - k) (cap' - k), .int .i64 ((d : Int) + 1)] W fun e w' => ∃ (T2 : Nat → Prop) (g2 : GA) (t : Nat), e = .returned (.int .i32 t) ∧ LM w w' T T2 pb pa ms mp g2 bw bd nb (some ⟨q, off, none⟩) gk cap' d f i rs ∧ Fr T' T2 W w' ∧
          (g'.Le g2 ∧ g2.N[t]? = some (GM.map (tailD (d + 1))) ∧ Made g' g2 (SetS (GM.map (tailD (d + 1)))) ∧ g2.nodes.length ≤ g'.nodes.length + wt (GM.map (tailD (d + 1))) + 1 ∧ g2.arcs.length ≤ g'.arcs.length + wt (GM.map (tailD (d + 1)))) := by
        intro W hW
        have hLW := HLM2.out.keep hW
        obtain ⟨e1, e2, e3, e4, e5, e6⟩ := HS.out
        have hlen : GM.length = gk - k := by rw [e6]; unfold grpM; rw [List.length_drop, List.length_take]; have := HG.out.2.1; omega
        have hmem : ∀ t ∈ GM, t ∈ rs := fun t ht => by rw [e6] at ht; exact List.mem_of_mem_take (List.mem_of_mem_drop ht)
        obtain ⟨h', hh⟩ : ∃ h', h' + 1 = h := by
          have : d < s.size ∧ s.size ≤ d + h := HSZ.out
          exact ⟨h - 1, by omega⟩
        obtain ⟨hwt, hwl, hwp⟩ := HWT.out
        have hb1 := HG.out.2.2.2.1
        have hn1 := HLP.out.1.nn
        have hn2 := HLP.out.1.na
        have hc := HIH.out h' hh W T' pb pa ms mp g' (some ⟨q, off + k, none⟩) (gk - k) (cap' - k) GM (d + 1) hLW.bm ⟨hlen.symm, .inr (by
          rcases hLW.tx with h1 | ⟨q', off', e, j1, j2, j3, j4, j5⟩
          · omega
          · cases e
            refine ⟨q, off + k, rfl, j1, by have := hLW.fr.only.size; omega, by omega, by omega, fun j t hj => ?_⟩
            rw [e6] at hj
            unfold grpM at hj
            rw [List.getElem?_drop] at hj
            rw [List.getElem?_take] at hj
            split at hj
            · rw [Nat.add_assoc]
              exact j5 (k + j) t (by omega) hj
            · cases hj)⟩ e4 (fun t ht => by have := HG.out.2.2.1 t (hmem t ht); omega) (by omega) (by omega) (by omega) (by omega)
        rw [show ((d + 1 : Nat) : Int) = (d : Int) + 1 by omega] at hc
        refine hc.mono ?_
        rintro e w' ⟨T2, g2, t, he, hbm2, hfr2, r1, r2, r3, r4, r5⟩
        exact ⟨T2, g2, t, he, hLW.call hfr2 hbm2, hfr2, r1, r2, r3, r4, r5⟩
      go_cut [10] (fun p wx => ∃ b10 : Nat, p = .pointer (some ⟨b10, 0, none⟩) ∧ Hid (∃ (T2 : Nat → Prop) (g2 : GA) (t : Nat), LM w wx T T2 pb pa ms mp g2 bw bd nb (some ⟨q, off, none⟩) gk cap' d f i rs ∧ wx.heap[b10]? = some (.cells #[.int .u8 by_.toNat, .int .i32 t, .int .i32 ((i : Int) - 1)] 62 (0, 0)) ∧
        g'.Le g2 ∧ g2.N[t]? = some (GM.map (tailD (d + 1))) ∧ Made g' g2 (SetS (GM.map (tailD (d + 1)))) ∧ g2.nodes.length ≤ g'.nodes.length + wt (GM.map (tailD (d + 1))) + 1 ∧ g2.arcs.length ≤ g'.arcs.length + wt (GM.map (tailD (d + 1)))))
      case first =>
        have SUP := Lib.hid (show ∀ (W : World) (o : Obj), (W.cell? ⟨bw, 0, none⟩ = some (.slice (some ⟨q, off, none⟩) gk cap') ∧ W.cell? ⟨bd, 0, none⟩ = some (.int .i64 d) ∧ W.cell? ⟨nb, 1, none⟩ = some (.int .i32 ((i : Int) - 1)) ∧ W.cell? ⟨b8, 0, none⟩ = some (.int .u8 by_.toNat)) → ((W.alloc o).cell? ⟨bw, 0, none⟩ = some (.slice (some ⟨q, off, none⟩) gk cap') ∧ (W.alloc o).cell? ⟨bd, 0, none⟩ = some (.int .i64 d) ∧ (W.alloc o).cell? ⟨nb, 1, none⟩ = some (.int .i32 ((i : Int) - 1)) ∧ (W.alloc o).cell? ⟨b8, 0, none⟩ = some (.int .u8 by_.toNat)) from fun W o hs => by
          have ka : ∀ p v, W.cell? p = some v → (W.alloc o).cell? p = some v := fun p v hp => (cell_old ((Below.refl W.heap.size W).alloc (Nat.le_refl _) _) (World.block_lt_of_cell? _ _ hp)).trans hp
          exact ⟨ka _ _ hs.1, ka _ _ hs.2.1, ka _ _ hs.2.2.1, ka _ _ hs.2.2.2⟩)
        have hlt4 : bw < w2.heap.size ∧ bd < w2.heap.size ∧ nb < w2.heap.size ∧ b8 < w2.heap.size := ⟨World.block_lt_of_cell? _ _ x1, World.block_lt_of_cell? _ _ x2, World.block_lt_of_cell? _ _ x4, World.block_lt_of_cell? _ _ c8'⟩
        have SET := Lib.hid (show ∀ (W : World) v0 v1 v2, (W.cell? ⟨bw, 0, none⟩ = some (.slice (some ⟨q, off, none⟩) gk cap') ∧ W.cell? ⟨bd, 0, none⟩ = some (.int .i64 d) ∧ W.cell? ⟨nb, 1, none⟩ = some (.int .i32 ((i : Int) - 1)) ∧ W.cell? ⟨b8, 0, none⟩ = some (.int .u8 by_.toNat)) → ((((W.setCell ⟨w2.heap.size, 0, none⟩ v0).setCell ⟨w2.heap.size, 1, none⟩ v1).setCell ⟨w2.heap.size, 2, none⟩ v2).cell? ⟨bw, 0, none⟩ = some (.slice (some ⟨q, off, none⟩) gk cap') ∧ (((W.setCell ⟨w2.heap.size, 0, none⟩ v0).setCell ⟨w2.heap.size, 1, none⟩ v1).setCell ⟨w2.heap.size, 2, none⟩ v2).cell? ⟨bd, 0, none⟩ = some (.int .i64 d) ∧ (((W.setCell ⟨w2.heap.size, 0, none⟩ v0).setCell ⟨w2.heap.size, 1, none⟩ v1).setCell ⟨w2.heap.size, 2, none⟩ v2).cell? ⟨nb, 1, none⟩ = some (.int .i32 ((i : Int) - 1)) ∧ (((W.setCell ⟨w2.heap.size, 0, none⟩ v0).setCell ⟨w2.heap.size, 1, none⟩ v1).setCell ⟨w2.heap.size, 2, none⟩ v2).cell? ⟨b8, 0, none⟩ = some (.int .u8 by_.toNat)) from fun W v0 v1 v2 hs => by
          have ka : ∀ b o v, b < w2.heap.size → W.cell? ⟨b, o, none⟩ = some v → (((W.setCell ⟨w2.heap.size, 0, none⟩ v0).setCell ⟨w2.heap.size, 1, none⟩ v1).setCell ⟨w2.heap.size, 2, none⟩ v2).cell? ⟨b, o, none⟩ = some v := fun b o v hb hp => by
            have ho := ((only1 W ⟨w2.heap.size, 0, none⟩ v0).trans (only1 _ ⟨w2.heap.size, 1, none⟩ v1)).trans (only1 _ ⟨w2.heap.size, 2, none⟩ v2)
            refine Eq.trans ?_ hp
            unfold World.cell?
            dsimp only
            rw [ho.block b (World.block_lt_of_cell? _ _ hp) (by simp only; omega)]
          exact ⟨ka _ _ _ hlt4.1 hs.1, ka _ _ _ hlt4.2.1 hs.2.1, ka _ _ _ hlt4.2.2.1 hs.2.2.1, ka _ _ _ hlt4.2.2.2 hs.2.2.2⟩)
        have CA := Lib.hid (show Calls Try.prog 39 #[.pointer (some ⟨pb, 0, none⟩), .slice (some ⟨q, off + k, none⟩) (gk - k) (cap' - k), .int .i64 ((d : Int) + 1)] w2.drew fun e w' => ∃ t : Nat, e = .returned (.int .i32 t) ∧ (w'.cell? ⟨bw, 0, none⟩ = some (.slice (some ⟨q, off, none⟩) gk cap') ∧ w'.cell? ⟨bd, 0, none⟩ = some (.int .i64 d) ∧ w'.cell? ⟨nb, 1, none⟩ = some (.int .i32 ((i : Int) - 1)) ∧ w'.cell? ⟨b8, 0, none⟩ = some (.int .u8 by_.toNat)) ∧
          Hid (∃ (T2 : Nat → Prop) (g2 : GA), LM w w' T T2 pb pa ms mp g2 bw bd nb (some ⟨q, off, none⟩) gk cap' d f i rs ∧ g'.Le g2 ∧ g2.N[t]? = some (GM.map (tailD (d + 1))) ∧ Made g' g2 (SetS (GM.map (tailD (d + 1)))) ∧ g2.nodes.length ≤ g'.nodes.length + wt (GM.map (tailD (d + 1))) + 1 ∧ g2.arcs.length ≤ g'.arcs.length + wt (GM.map (tailD (d + 1)))) from by
          refine (CALL w2.drew (Below.refl _ w2).drew).mono ?_
          rintro e w' ⟨T2, g2, t, he, hl, hf, hr⟩
          have hcs := hl.cells
          exact ⟨t, he, ⟨hcs.1, hcs.2.1, hcs.2.2.2.1, hf.cell (p := ⟨b8, 0, none⟩) c8' HT8.out⟩, Lib.hid ⟨T2, g2, hl, hr⟩⟩)
        have CB := Lib.hid (show Calls Try.prog 39 #[.pointer (some ⟨pb, 0, none⟩), .slice (some ⟨q, off + k, none⟩) (gk - k) (cap' - k), .int .i64 ((d : Int) + 1)] (w2.alloc (.cells #[.int .u8 0, .int .i32 0, .int .i32 0] 62)).drew fun e w' => ∃ t : Nat, e = .returned (.int .i32 t) ∧ (w'.cell? ⟨bw, 0, none⟩ = some (.slice (some ⟨q, off, none⟩) gk cap') ∧ w'.cell? ⟨bd, 0, none⟩ = some (.int .i64 d) ∧ w'.cell? ⟨nb, 1, none⟩ = some (.int .i32 ((i : Int) - 1)) ∧ w'.cell? ⟨b8, 0, none⟩ = some (.int .u8 by_.toNat)) ∧
            (w'.cell? ⟨w2.heap.size, 0, none⟩ = some (.int .u8 0) ∧ w'.cell? ⟨w2.heap.size, 1, none⟩ = some (.int .i32 0) ∧ w'.cell? ⟨w2.heap.size, 2, none⟩ = some (.int .i32 0) ∧ ∀ o, w'.frozen? ⟨w2.heap.size, o, none⟩ = false) ∧
          Hid ((∃ (T2 : Nat → Prop) (g2 : GA), (LM w w' T T2 pb pa ms mp g2 bw bd nb (some ⟨q, off, none⟩) gk cap' d f i rs ∧ ¬ T2 w2.heap.size) ∧ g'.Le g2 ∧ g2.N[t]? = some (GM.map (tailD (d + 1))) ∧ Made g' g2 (SetS (GM.map (tailD (d + 1)))) ∧ g2.nodes.length ≤ g'.nodes.length + wt (GM.map (tailD (d + 1))) + 1 ∧ g2.arcs.length ≤ g'.arcs.length + wt (GM.map (tailD (d + 1)))) ∧ w'.heap[w2.heap.size]? = some (.cells #[.int .u8 0, .int .i32 0, .int .i32 0] 62 (0, 0))) from by
          refine (CALL _ ((Below.refl _ w2).alloc (Nat.le_refl _) _).drew).mono ?_
          rintro e w' ⟨T2, g2, t, he, hl, hf, hr⟩
          have hcs := hl.cells
          have hnew : (w2.alloc (.cells #[.int .u8 0, .int .i32 0, .int .i32 0] 62)).drew.heap[w2.heap.size]? = some (.cells #[.int .u8 0, .int .i32 0, .int .i32 0] 62 (0, 0)) := World.alloc_heap_new w2 _
          have hnt : ¬ T' w2.heap.size := fun ht => by have := HLM2.out.bm.lt _ ht; omega
          have h10 := hf.block hnew hnt
          have c8b : (w2.alloc (.cells #[.int .u8 0, .int .i32 0, .int .i32 0] 62)).drew.cell? ⟨b8, 0, none⟩ = some (.int .u8 by_.toNat) := (cell_old (p := ⟨b8, 0, none⟩) ((Below.refl _ w2).alloc (Nat.le_refl _) (.cells #[.int .u8 0, .int .i32 0, .int .i32 0] 62)) (World.block_lt_of_cell? _ _ c8')).trans c8'
          refine ⟨t, he, ⟨hcs.1, hcs.2.1, hcs.2.2.2.1, hf.cell (p := ⟨b8, 0, none⟩) c8b HT8.out⟩, ⟨by simp [World.cell?, h10], by simp [World.cell?, h10], by simp [World.cell?, h10], fun o => by simp [World.frozen?, h10]⟩, Lib.hid ⟨⟨T2, g2, ⟨hl, hf.out (Array.getElem?_eq_some_iff.1 hnew).1 hnt⟩, hr⟩, h10⟩⟩)
        have SS0 := Lib.hid (show w2.drew.cell? ⟨bw, 0, none⟩ = some (.slice (some ⟨q, off, none⟩) gk cap') ∧ w2.drew.cell? ⟨bd, 0, none⟩ = some (.int .i64 d) ∧ w2.drew.cell? ⟨nb, 1, none⟩ = some (.int .i32 ((i : Int) - 1)) ∧ w2.drew.cell? ⟨b8, 0, none⟩ = some (.int .u8 by_.toNat) from ⟨x1, x2, x4, c8'⟩)
        have SS1 := Lib.hid (show (w2.alloc (.cells #[.int .u8 0, .int .i32 0, .int .i32 0] 62)).drew.cell? ⟨bw, 0, none⟩ = some (.slice (some ⟨q, off, none⟩) gk cap') ∧ (w2.alloc (.cells #[.int .u8 0, .int .i32 0, .int .i32 0] 62)).drew.cell? ⟨bd, 0, none⟩ = some (.int .i64 d) ∧ (w2.alloc (.cells #[.int .u8 0, .int .i32 0, .int .i32 0] 62)).drew.cell? ⟨nb, 1, none⟩ = some (.int .i32 ((i : Int) - 1)) ∧ (w2.alloc (.cells #[.int .u8 0, .int .i32 0, .int .i32 0] 62)).drew.cell? ⟨b8, 0, none⟩ = some (.int .u8 by_.toNat) from SUP.out w2 _ ⟨x1, x2, x4, c8'⟩)
        clear CALL x1 x2 x3 x4 x5 x6 x7 x8 x9 x10 c8'
        go_region_held3 (fun wx => wx.cell? ⟨bw, 0, none⟩ = some (.slice (some ⟨q, off, none⟩) gk cap') ∧ wx.cell? ⟨bd, 0, none⟩ = some (.int .i64 d) ∧ wx.cell? ⟨nb, 1, none⟩ = some (.int .i32 ((i : Int) - 1)) ∧ wx.cell? ⟨b8, 0, none⟩ = some (.int .u8 by_.toNat))
          (first | exact SS0.out | exact SS1.out | assumption | exact SUP.out _ _ (by assumption) | exact SET.out _ _ _ _ (by assumption))
          (first
          | (go_at_call 39; (with_reducible refine CB.out.mono ?_); rintro e w5 ⟨t, rfl, hs5, ⟨v3, v4, v5, v6⟩, HX5⟩)
          | (go_at_call 39; (with_reducible refine CA.out.mono ?_); rintro e w5 ⟨t, rfl, hs5, HX5⟩))
        all_goals
          first
          | (go_wp2_with fail; go_meet; exact ⟨w5.heap.size, rfl, Lib.hid (by obtain ⟨T2, g2, hl, hr⟩ := HX5.out; exact ⟨T2, g2, t, hl.keep ((Below.refl _ w5).alloc (Nat.le_refl _) _), World.alloc_heap_new w5 _, hr⟩)⟩)
          | (go_wp2_with fail; go_meet; exact ⟨w2.heap.size, rfl, Lib.hid (by
              obtain ⟨⟨T2, g2, ⟨hl, hn⟩, hr⟩, h10⟩ := HX5.out
              have ho := ((only1 w5 ⟨w2.heap.size, 0, none⟩ (.int .u8 by_.toNat)).trans (only1 _ ⟨w2.heap.size, 1, none⟩ (.int .i32 t))).trans (only1 _ ⟨w2.heap.size, 2, none⟩ (.int .i32 ((i : Int) - 1)))
              have hlo := HLM2.out.fr.only.size
              have hl1 := (Array.getElem?_eq_some_iff.1 HLM2.out.cw).1
              have hl2 := (Array.getElem?_eq_some_iff.1 HLM2.out.cd).1
              have hl3 := (Array.getElem?_eq_some_iff.1 HLM2.out.cn).1
              refine ⟨T2, g2, t, hl.other (b := w2.heap.size) ho hlo hn ⟨by omega, by omega, by omega⟩, ?_, hr⟩
              have e0 := heap_set (o := 2) (heap_set (o := 1) (heap_set (o := 0) h10 (.int .u8 by_.toNat)) (.int .i32 t)) (.int .i32 ((i : Int) - 1))
              simpa using e0)⟩)
      case rest =>
      obtain ⟨b10, rfl, HC⟩ := hcut
      obtain ⟨T2, g2, t, hlm3, h10, hle, hN, hmd, hn1, hn2⟩ := HC.out
      have HLM3 := Lib.hid hlm3
      have a0 : wc.cell? ⟨b10, 0, none⟩ = some (.int .u8 by_.toNat) := by simp [World.cell?, h10]
      have a1 : wc.cell? ⟨b10, 1, none⟩ = some (.int .i32 t) := by simp [World.cell?, h10]
      have a2 : wc.cell? ⟨b10, 2, none⟩ = some (.int .i32 ((i : Int) - 1)) := by simp [World.cell?, h10]
      have HG2 := Lib.hid (And.intro hle (And.intro hN (And.intro hmd (And.intro hn1 hn2))))
      clear hlm3 h10 hle hN hmd hn1 hn2 HC HLM2 HT8 HIH H8 HB2 c8'
      have CN := Lib.hid (show Calls Try.prog 54 #[.map (some mp), .pointer (some ⟨pa, 1, none⟩), .agg #[.int .u8 by_.toNat, .int .i32 t, .int .i32 ((i : Int) - 1)]] wc.drew fun e w' => ∃ n' : Nat, e = .returned (.int .i32 n') ∧ (w'.cell? ⟨nb, 1, none⟩ = some (.int .i32 ((i : Int) - 1)) ∧ w'.frozen? ⟨nb, 1, none⟩ = false) ∧
          Hid (∃ (T3 : Nat → Prop) (g3 : GA), LM w w' T T3 pb pa ms mp g3 bw bd nb (some ⟨q, off, none⟩) gk cap' d f i rs ∧ g2.Le g3 ∧ g3.A[n']? = some ((GM.map (tailD (d + 1))).map (by_ :: ·) ++ (rs.map (tailD d)).drop gk) ∧ g3.N = g2.N ∧ g3.nodes = g2.nodes ∧ g3.arcs.length ≤ g2.arcs.length + 1) from by
        have hl3 := HLM3.out.keep (Below.refl _ wc).drew
        obtain ⟨k1, k2, k3, k4, k5⟩ := HG2.out
        obtain ⟨j1, j2, j3⟩ := HWT.out
        have hb1 := HG.out.2.2.2.1
        have m1 := HLP.out.1.nn
        have m2 := HLP.out.1.na
        refine (numA_any hl3.bm by_ t i (GM.map (tailD (d + 1))) ((rs.map (tailD d)).drop gk) k2 (k1.A _ _ HLP.out.1.ar) HS.out.1 HS.out.2.2.1 (by omega) (by omega)).mono ?_
        rintro e w' ⟨T3, g3, n', he, hb3, hf3, r⟩
        have hl4 := hl3.call hf3 hb3
        have hc4 := hl4.cells
        exact ⟨n', he, ⟨hc4.2.2.2.1, hc4.2.2.2.2.2.2.2.2.1⟩, Lib.hid ⟨T3, g3, hl4, r⟩⟩)
      obtain ⟨x1, x2, x3, x4, x5, x6, x7, x8, x9, x10⟩ := HLM3.out.cells
      go_upto_region 9 with fail
      go_still_tail 11, (by kernel_rfl)
      change wpList _ _ _ _ _ wc.drew
      have kk1 : (k : Int) ≤ cap' := by omega
      clear x1 x2 x3 x4 x5 x6 x7 x8 x9 x10 a0 a1 a2 HLM3
      go_upto_region 10 with (go_at_call 54; refine CN.out.mono ?_; rintro e w5 ⟨n', rfl, ⟨v1, v2⟩, HX5⟩)
      obtain ⟨T3, g3, hl5, r1, r2, r3, r4, r5⟩ := HX5.out
      have HL6 := Lib.hid (hl5.setN (n' + 1) (.int .i32 n') (by congr 1; omega))
      obtain ⟨w6, hw6⟩ : ∃ w6, w6 = w5.setCell ⟨nb, 1, none⟩ (.int .i32 n') := ⟨_, rfl⟩
      rw [← hw6] at HL6 ⊢
      have HL7 := Lib.hid (HL6.out.setW (m' := k) k2)
      have HLP3 := Lib.hid (show LP g g3 (n' + 1) ((rs.map (tailD d)).drop k) from by
        obtain ⟨k1, k2, k3, k4, k5⟩ := HG2.out
        obtain ⟨j1, j2, j3⟩ := HWT.out
        obtain ⟨p1, p2, p3, p4, p5⟩ := HLP.out.1
        refine ⟨(p1.trans k1).trans r1, ?_, ?_, ?_, ?_⟩
        · rw [List.getElem?_cons_succ, r2, HS.out.2.1]
        · rw [HS.out.2.1]
          exact (p3.step k3 k1 HS.out.1 HS.out.2.2.1).arcs r3
        · rw [r4]; omega
        · omega)
      obtain ⟨x1, x2, x3, x4, x5, x6, x7, x8, x9, x10⟩ := HL6.out.cells
      clear hw6 hl5 r1 r2 r3 r4 r5 HX5 v1 v2 CN
      go_wp2_with fail
      go_roundg k
      case measure => exact hkm
      case rel => exact ⟨by omega, Lib.hid ⟨T3, g3, n' + 1, HL7.out, HLP3.out, HS.out.2.2.2.2.1⟩⟩
theorem state_all : ∀ h, StSays h
  | 0 => state_step 0 (fun _ e => by omega)
  | h + 1 => state_step (h + 1) (fun _ e => by cases e; exact state_all h)
end Go.Proofs.Ytkabdieenijnlaa
