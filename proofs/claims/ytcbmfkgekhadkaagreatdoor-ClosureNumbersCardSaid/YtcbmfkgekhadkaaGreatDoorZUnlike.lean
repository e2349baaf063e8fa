/- closure.unlike by contract: entries each once, their flags each once. -/
import Derived.Test.YtcbmfkgekhadkaaGreatDoorZCompact
import Derived.Test.YtcbmfkgekhadkaaGreatDoorZOnce
import Derived.Test.YtcbmfkgekhadkaaGreatDoorZGb
import Derived.Deep.AppendLies
import Derived.Deep.RegionLaw
namespace Go.Proofs.YtcbmfkgekhadkaaGreatDoor
open Go Go.RowKit Go.Lib Go.Shelf Go.Sort
attribute [local go_sem] Oper.semAt_some alloc_set

def onceE (e : En) : En := ⟨e.word, onceL e.flags⟩
/-- Two entries of which the same forms are made. -/
def Alike (e e' : En) : Prop := e.word = e'.word ∧ ∀ f, f ∈ e.flags ↔ f ∈ e'.flags
theorem once_alike (e : En) : Alike (onceE e) e := ⟨rfl, fun f => onceL_mem e.flags f⟩

theorem ents_choice {w0 W : World} {g c : Nat} {xs : List Value} {l : List En} (h : EQ w0 W (.slice (some ⟨g, 0, none⟩) l.length c) xs l) :
    ∃ d : Array (OA W g), d.size = l.length ∧ (∀ i, i < l.length → l[i]? = some d[i]!.1.en ∧ Value.slice d[i]!.1.A d[i]!.1.n d[i]!.1.cap ∈ xs) ∧ HoldsK oenc 2 W g 0 d := by
  have h0 : ∀ i : Fin l.length, ∃ x : OA W g, l[i.1]? = some x.1.en ∧ xs[i.1 * 2]? = some (.string x.1.word) ∧ xs[i.1 * 2 + 1]? = some (.slice x.1.A x.1.n x.1.cap) := by
    intro i
    have hi : l[i.1]? = some l[i.1] := List.getElem?_eq_getElem i.2
    obtain ⟨h1, A, cap, h2, h3, h4⟩ := h.ents i.1 _ hi
    refine ⟨⟨⟨l[i.1].word, A, l[i.1].flags.length, cap, l[i.1].flags⟩, fun W' ho => h3.still ho.size fun b hb hlt => ho.block b hlt fun e => ?_⟩, hi, h1, h2⟩
    exact (h4 b hb).2 (by show some g = some b; rw [e])
  obtain ⟨f, hf⟩ := Classical.axiomOfChoice h0
  have hget : ∀ i (hi : i < l.length), (Array.ofFn f)[i]! = f ⟨i, hi⟩ := fun i hi => by
    rw [getElem!_pos _ i (by simpa using hi), Array.getElem_ofFn]
  refine ⟨Array.ofFn f, by simp, fun i hi => ?_, fun t ht => ?_⟩
  · rw [hget i hi]; exact ⟨(hf ⟨i, hi⟩).1, List.mem_of_getElem? (hf ⟨i, hi⟩).2.2⟩
  · have ht' : t < l.length * 2 := by simpa using ht
    have hl : t / 2 < l.length := by omega
    have hx := hf ⟨t / 2, hl⟩
    rw [get_flatK _ _ _ _ (by simpa using ht'), hget _ hl]
    refine ⟨?_, by rw [Nat.zero_add]; exact World.ownsRow.frozenAt h.row t⟩
    have hc := @World.ownsRow.cells _ _ _ _ _ _ _ h.row
    rw [Nat.zero_add, ← add9]
    refine hc (g := g) rfl t _ ?_
    by_cases e : t % 2 = 0
    · have : t = t / 2 * 2 := by omega
      rw [e]
      conv => lhs; rw [this]
      exact hx.2.1
    · have e' : t % 2 = 1 := by omega
      have : t = t / 2 * 2 + 1 := by omega
      rw [e']
      conv => lhs; rw [this]
      exact hx.2.2

theorem perm_mem {α : Type} [Inhabited α] {d d' : Array α} (h : PermIn 0 d.size d d') : (∀ i, i < d'.size → ∃ j, j < d.size ∧ d'[i]! = d[j]!) ∧ ∀ j, j < d.size → ∃ i, i < d'.size ∧ d'[i]! = d[j]! := by
  obtain ⟨h1, -, h3⟩ := h
  rw [show d.extract 0 d.size = d by simp, show d'.extract 0 d.size = d' by rw [← h1]; simp] at h3
  have hm : ∀ x, x ∈ d'.toList ↔ x ∈ d.toList := fun x => h3.mem_iff
  have hin : ∀ (a : Array α) i, i < a.size → a[i]! ∈ a.toList := fun a i hi => by rw [getElem!_pos a i hi]; simp
  have hout : ∀ (a : Array α) x, x ∈ a.toList → ∃ i, i < a.size ∧ a[i]! = x := fun a x hx => by
    obtain ⟨i, hi, e⟩ := List.getElem_of_mem hx
    exact ⟨i, by simpa using hi, by rw [getElem!_pos a i (by simpa using hi)]; simpa using e⟩
  exact ⟨fun i hi => by obtain ⟨j, hj, e⟩ := hout d _ ((hm _).1 (hin d' i hi)); exact ⟨j, hj, e.symm⟩, fun j hj => hout d' _ ((hm _).2 (hin d j hj))⟩

theorem zero_ent (w : World) : (zeroValue 25).run Tryz.prog w = .ok (.agg #[.string ⟨#[]⟩, .slice none 0 0]) w := by kernel_rfl
theorem agg_ent (w : World) : (isAgg 25).run Tryz.prog w = .ok true w := by kernel_rfl
theorem size_ent (w : World) : (Go.sizeOf 25).run Tryz.prog w = .ok 2 w := by kernel_rfl
/-- The sort of a row of entries. -/
theorem sort_any (W : World) (g c : Nat) (d : Array (OA W g)) (hH : HoldsK oenc 2 W g 0 d) (hg : g < W.heap.size) (hd : d.size ≤ 1000000000) :
    Calls Tryz.prog 56 #[.slice (some ⟨g, 0, none⟩) d.size c, .func (.func 52) #[] #[]] W fun e w' => e = .returned (.tuple #[]) ∧ ∃ d' : Array (OA W g), PermIn 0 d.size d d' ∧ d'.size = d.size ∧ CF W g 0 d' d' w' := by
  refine (AnyQ.slices_SortFunc Tryz.sortEn 2 agg_ent size_ent oenc oenc_len oenc_one (fun x y => ordC x.1.en y.1.en) (ordC_swo fun x : OA W g => x.1.en) 52 #[] g 0 c d W (enters_of Tryz.func52 (by kernel_rfl) rfl) ?_ hH hg (by omega)).mono ?_
  · intro m os dk _ x y
    have ho := only_sort (oenc (w := W) (blk := g)) m 0 dk os (OnlyAt.refl _ W)
    exact ord_any _ x.1.en y.1.en x.1.A y.1.A x.1.n y.1.n x.1.cap y.1.cap (x.2 _ ho) (y.2 _ ho)
  · rintro e w' ⟨rfl, d', m, os, hp, -, rfl⟩
    exact ⟨rfl, d', hp, hp.1, only_sort _ _ _ _ _ (OnlyAt.refl _ W), holdsK_sortWorldK_c oenc 2 W g 0 d d' m os hH hg hp.1, rfl⟩
theorem enc_one9 (a : ByteArray) (A : Option Addr) (n c : Nat) : ∀ u ∈ [Value.string a, .slice A n c], u.oneCell' = true := by
  intro u hu
  simp only [List.mem_cons, List.not_mem_nil, or_false] at hu
  rcases hu with rfl | rfl <;> rfl

set_option maxRecDepth 100000 in
set_option maxHeartbeats 4000000 in
theorem unlike_any (w : World) (v : Value) (es : List En) (h : EntsAt w v es) (hn : es.length ≤ 1000000000) (hf : ∀ e ∈ es, e.flags.length ≤ 1000000000000) :
    Calls Tryz.prog 33 #[v] w fun e w' => ∃ v' l, e = .returned v' ∧ (EntsAt w' v' l ∧ ∀ W', w'.heap.size ≤ W'.heap.size → (∀ k, w.heap.size ≤ k → k < w'.heap.size → W'.heap[k]? = w'.heap[k]?) → EntsAt W' v' l) ∧ Below w.heap.size w w' ∧ l.length ≤ es.length ∧ (∀ e ∈ l, ∃ e0 ∈ es, Alike e e0 ∧ e.flags.length ≤ e0.flags.length) ∧ ∀ e0 ∈ es, ∃ e ∈ l, Alike e e0 := by
  obtain ⟨A, cap, rfl⟩ := ents_form h
  obtain ⟨n, hnn⟩ : ∃ n, n = es.length := ⟨_, rfl⟩
  rw [← hnn] at h hn ⊢
  have HO := Lib.hid (ents_open h)
  have HF := Lib.hid hf
  have HN := Lib.hid hnn
  obtain ⟨i1, hi1, hz10, hz11, hz12⟩ := info_parts Tryz.infosY25
  have hmk : ∀ wx : World, (Instr.makeSlice 39 (.int .i64 0) (.int .i64 (n : Int))).run Tryz.prog wx = .ok (.slice (some ⟨wx.heap.size, 0, none⟩) 0 n) (wx.alloc (.cells (madeCells (Value.agg #[.string ⟨#[]⟩, .slice none 0 0]).cells (n * 2)) 25)) := fun wx => by
    have hr := run_make (P := Tryz.prog) wx 39 25 i1 _ Tryz.underlying39 hi1 hz10 .i64 .i64 0 n (Int.le_refl _) (by omega) (by rw [hz12]; omega) (by omega)
    rw [Int.toNat_zero, Int.toNat_natCast, hz11] at hr
    exact hr
  obtain ⟨CS, hCS⟩ : ∃ CS, CS = madeCells (Value.agg #[.string ⟨#[]⟩, .slice none 0 0]).cells (n * 2) := ⟨_, rfl⟩
  have HQ0 := Lib.hid (show EQ w (w.alloc (.cells CS 25)) (.slice (some ⟨w.heap.size, 0, none⟩) 0 n) [] [] from ⟨World.ownsRow_made w _ n (Nat.le_refl _) (by unfold maxLen; omega) (by rw [hCS]; exact size_madeCells _ _), fun i e h => by simp at h, (Below.refl _ _).alloc (Nat.le_refl _) _⟩)
  rw [← hCS] at hmk
  clear h hf hnn hCS
  go_enter Tryz.func33, Tryz.ntmps33
  go_wp2_with fail
  go_loopg [3, 12] n (fun gh s3 i wr => ∃ (k g c : Nat) (xs : List Value), k + gh = n ∧ s3 = .slice (some ⟨g, 0, none⟩) k c ∧ i = .int .i64 k ∧ Hid (EQ w wr (.slice (some ⟨g, 0, none⟩) k c) xs ((es.take k).map onceE)) ∧ Hid (∀ u ∈ xs, ∀ b, u.ownBlock = some b → w.heap.size ≤ b))
  case atStart => exact ⟨0, _, _, _, by omega, rfl, rfl, HQ0, Lib.hid (fun u hu => by cases hu)⟩
  case round =>
    obtain ⟨k, g, c, xs, hk, rfl, rfl, HQ, HFR⟩ := hrel
    by_cases hlt : k < n
    · obtain ⟨e, he⟩ : ∃ e, es[k]? = some e := ⟨es[k]'(by have := HN.out; omega), List.getElem?_eq_getElem _⟩
      obtain ⟨b, off, rfl, hb, hnc, c0, A', cap', c1, hints⟩ := HO.out k e he
      have HE := Lib.hid he
      have hqb := HQ.out.below
      have hbw : b < wr.heap.size := Nat.lt_of_lt_of_le hb hqb.size
      have e0 := (hqb.cell (p := ⟨b, off + k * 2, none⟩) hb).trans c0
      have e1 := (hqb.cell (p := ⟨b, off + k * 2 + 1, none⟩) hb).trans c1
      have HI := Lib.hid (hints.keep (hqb))
      have HFL := Lib.hid (HF.out e (List.mem_of_getElem? he))
      clear c0 c1 hints he hqb
      go_upto_region 5 with fail
      obtain ⟨Wd, hWd⟩ : ∃ Wd, Wd = wr.alloc (.cells #[.string e.word, .slice A' e.flags.length cap'] 25) := ⟨_, rfl⟩
      have hbd : Below wr.heap.size wr Wd := by rw [hWd]; exact (Below.refl _ _).alloc (Nat.le_refl _) _
      have z : Wd.heap[wr.heap.size]? = some (.cells #[.string e.word, .slice A' e.flags.length cap'] 25 (0, 0)) := by rw [hWd]; exact World.alloc_heap_new _ _
      obtain ⟨Bx, hBx⟩ : ∃ Bx, Bx = wr.heap.size := ⟨_, rfl⟩
      rw [← hBx] at z ⊢
      have hzl : Bx < Wd.heap.size := (Array.getElem?_eq_some_iff.1 z).1
      have x0 : Wd.cell? ⟨Bx, 0, none⟩ = some (.string e.word) := by simp [World.cell?, z]
      have x1 : Wd.cell? ⟨Bx, 1, none⟩ = some (.slice A' e.flags.length cap') := by simp [World.cell?, z]
      rw [← hWd]
      have CO := Lib.hid (once_any Wd.drew A' e.flags.length cap' e.flags (HI.out.keep hbd.drew) HFL.out)
      have HD := Lib.hid (And.intro hbd (And.intro hzl hBx))
      have HZ := Lib.hid (show ∀ w1, Below Wd.drew.heap.size Wd.drew w1 → w1.cell? ⟨Bx, 0, none⟩ = some (.string e.word) from fun w1 hb1 => by
        have hb' : Below Wd.heap.size Wd w1 := (Below.refl Wd.heap.size Wd).drew.trans hb1
        exact (cell_old (p := ⟨Bx, 0, none⟩) hb' hzl).trans x0)
      clear hWd e0 e1 hbd z hzl hBx
      have HT := Lib.hid (show ((es.take k).map onceE).length = k by rw [List.length_map, List.length_take]; have := HN.out; omega)
      obtain ⟨ew, hew⟩ : ∃ ew, ew = e.word := ⟨_, rfl⟩
      rw [← hew] at x0 HZ ⊢
      have HEW := Lib.hid hew
      clear hew
      go_region_law (first
        | (refine step_append_lies _ (by rfl) _ _ _ (by rfl) w.heap.size 25 i1 _ 2 40 Tryz.underlying39 hi1 hz10 hz11 hz12 rfl (by omega) (.slice (some ⟨g, 0, none⟩) k c) k xs (by rfl) H1.out.1 ⟨w1.heap.size, 0, none⟩ 1 1 [.string ew, .slice B m cc] (by rfl) (by rfl) (World.news_of_block (cs := #[.string ew, .slice B m cc]) (t := 25) (fr := (0, 0)) (World.alloc_heap_new w1 _)) (enc_one9 _ _ _ _) (by omega) (by unfold maxLen; omega) (by omega) (by have := H1.out.2; simp; omega) (w1.heap.size + 1) (by simp) ?_; intro gg cap4 w4 hown4 hgrow4 hat4 hlt4)
        | (go_simp; go_at_call 51; refine (CO.out).mono ?_; rintro e2 w1 ⟨ov, rfl, horow, hb1⟩; have y0 := HZ.out w1 hb1; obtain ⟨B, cc, rfl⟩ := own_shape horow; obtain ⟨m, hm⟩ : ∃ m, m = (onceL e.flags).length := ⟨_, rfl⟩; rw [← hm] at horow ⊢; have hw1 : Below wr.heap.size wr w1 := HD.out.1.drew.trans (hb1.mono (by simp; have := HD.out.1.size; omega)); have H1 : Hid ((w1.alloc (.cells #[.string ew, .slice B m cc] 25)).ownsRow w.heap.size 25 2 (.slice (some ⟨g, 0, none⟩) k c) k xs ∧ w.heap.size ≤ w1.heap.size) := Lib.hid ⟨by
            have := own_keep9 HQ.out.row (hw1.alloc hw1.size (.cells #[.string ew, .slice B m cc] 25))
            rwa [HT.out] at this, Nat.le_trans HQ.out.below.size hw1.size⟩; have H2 := Lib.hid (And.intro horow (And.intro hw1 (And.intro hb1.size hm))); clear horow hb1 hw1 hm))
      all_goals
        have HN2 : Hid (EQ w w4 (.slice (some ⟨gg, 0, none⟩) (k + 1) cap4) (xs ++ [.string ew, .slice B m cc]) ((es.take (k + 1)).map onceE)) := by
          refine Lib.hid ?_
          have hT : (es.take (k + 1)).map onceE = (es.take k).map onceE ++ [onceE e] := by rw [List.take_add_one, HE.out]; simp
          rw [hT]
          refine EQ.push (wr := wr) (w2 := w1) (w5 := w1.alloc (.cells #[.string ew, .slice B m cc] 25)) HQ.out H2.out.2.1 HEW.out H2.out.2.2.2 ?_ ((Below.refl _ _).alloc (Nat.le_refl _) _) ?_ hgrow4 ?_
          · exact own_less H2.out.1 (by have := HD.out.1.size; simp; omega)
          · rw [HT.out]; exact hown4
          · rcases hat4 with e | e
            · exact .inl e.symm
            · refine .inr fun z hz => ?_
              simp only [Value.ownBlock, Option.some.injEq] at hz
              rw [World.size_alloc]
              omega
        have HFR2 : Hid (∀ u ∈ xs ++ [.string ew, .slice B m cc], ∀ b, u.ownBlock = some b → w.heap.size ≤ b) := Lib.hid fun u hu b hb => by
          rcases List.mem_append.1 hu with hu | hu
          · exact HFR.out u hu b hb
          · simp only [List.mem_cons, List.not_mem_nil, or_false] at hu
            rcases hu with rfl | rfl
            · cases hb
            · have h1 := (H2.out.1.lt b hb).1
              have h2 := HD.out.1.size
              have h3 := HQ.out.below.size
              simp at h1
              omega
        clear x0 x1 y0 hown4 hgrow4 hat4 hlt4 H1 H2 HD HZ CO
        go_wp2_with fail
        go_roundg (gk - 1)
        case measure => omega
        case rel => exact ⟨k + 1, gg, cap4, _, by omega, by rfl, by go_num, HN2, HFR2⟩
    · obtain rfl : k = n := by omega
      have hes : es.take k = es := List.take_of_length_le (by have := HN.out; omega)
      have hq := HQ.out
      rw [hes] at hq
      obtain ⟨L, hL⟩ : ∃ L, L = es.map onceE := ⟨_, rfl⟩
      rw [← hL] at hq
      have hLl : L.length = k := by rw [hL, List.length_map, ← HN.out]
      obtain ⟨W3, hW3⟩ : ∃ W3, W3 = wr.alloc (.cells #[.func (.func 52) #[] #[]] 107) := ⟨_, rfl⟩
      have hst : (store ⟨wr.heap.size, 0, none⟩ (.func (.func 52) #[] #[])).run Tryz.prog (wr.alloc (.cells #[.nilFunc] 107)) = .ok () W3 := by
        have hfz : (wr.alloc (.cells #[.nilFunc] 107)).frozen? ⟨wr.heap.size, 0, none⟩ = false := by
          have := World.alloc_heap_new wr (.cells #[.nilFunc] 107)
          unfold World.frozen?
          rw [this]
          rfl
        rw [run_store _ _ _ _ _ rfl, cell_of_row _ _ 0 _ _ _ (World.alloc_heap_new _ _), hW3]
        simp [hfz, alloc_set]
      have hb3 : Below wr.heap.size wr W3 := by rw [hW3]; exact (Below.refl _ _).alloc (Nat.le_refl _) _
      have hq3 : EQ w W3 (.slice (some ⟨g, 0, none⟩) L.length c) xs L := by rw [hLl]; exact hq.keep hb3
      have hob : W3.cell? ⟨wr.heap.size, 0, none⟩ = some (.func (.func 52) #[] #[]) := by rw [hW3]; exact cell_of_row _ _ 0 _ _ _ (World.alloc_heap_new _ _)
      have hgr := (hq.row.lt g rfl)
      obtain ⟨d, hd1, hd2, hd3⟩ := ents_choice hq3
      rw [hLl] at hd1
      have hgW : g < W3.heap.size := Nat.lt_of_lt_of_le hgr.2 hb3.size
      have CSO := Lib.hid (sort_any W3 g c d hd3 hgW (by omega))
      rw [hd1] at CSO
      have hcc : k ≤ c ∧ c ≤ maxLen := by
        rcases hq.row.2 with ⟨e, _⟩ | ⟨g', cap', cur, e, _, _, h1, h2, _⟩
        · cases e
        · injection e with _ _ e3
          rw [e3, ← hLl]
          exact ⟨h1, h2⟩
      have CCO := Lib.hid (fun (d' : Array (OA W3 g)) (w' : World) (hs : d'.size = k) (hw : CF W3 g 0 d' d' w') => compact_any W3 g 0 wr.heap.size c d' hgW hob (by omega) (by rw [hs]; exact hcc.1) hcc.2 w' hw)
      have HX := Lib.hid (And.intro hL (And.intro hd1 (And.intro hd2 (And.intro hgr (And.intro hcc (And.intro hLl (And.intro hb3 (HQ.out.below))))))))
      clear hes hq hL hb3 hq3 hgr hd1 hd2 hd3 hgW hcc hLl hW3
      go_wp2_with (first
        | (go_at_call 56; refine (CSO.out).mono ?_; rintro e w5 ⟨rfl, d', hp, hs, hcf⟩; have CC := Lib.hid (CCO.out d' w5 hs hcf); rw [hs] at CC; have HP := Lib.hid (And.intro hp hs); clear hp hs hcf)
        | (go_at_call 57; refine (CC.out).mono ?_; rintro e w6 ⟨q, dk, rfl, hqk, ho6, hc6, hf6, hk6⟩))
      go_ret
      obtain ⟨hL, hd1, hd2, hgr, hcc, hLl, hb3, hbw⟩ := HX.out
      obtain ⟨hp1, hp2⟩ := perm_mem (d := d) (d' := d') (by rw [hd1]; exact HP.out.1)
      have hgw : w.heap.size ≤ g := hgr.1
      have hget : ∀ j, j < k → ∃ e0, es[j]? = some e0 ∧ d[j]!.1.en = onceE e0 := fun j hj => by
        have h1 := (hd2 j (by omega)).1
        rw [hL, List.getElem?_map] at h1
        obtain ⟨e0, h2, h3⟩ := Option.map_eq_some_iff.1 h1
        exact ⟨e0, h2, h3.symm⟩
      have hmem : ∀ e, e ∈ (List.range q).map (fun i => dk[i]!.1.en) → ∃ i, i < q ∧ e = dk[i]!.1.en := fun e he => by
        obtain ⟨i, hi, rfl⟩ := List.mem_map.1 he
        exact ⟨i, List.mem_range.1 hi, rfl⟩
      have hnew : ∀ i, i < q → ∀ b, (Value.slice dk[i]!.1.A dk[i]!.1.n dk[i]!.1.cap).ownBlock = some b → w.heap.size ≤ b := fun i hi b hb => by
        obtain ⟨j, hj, e1⟩ := hf6 i hi
        obtain ⟨j2, hj2, e2⟩ := hp1 j (by rw [HP.out.2]; exact hj)
        rw [e1, e2] at hb
        exact HFR.out _ (hd2 j2 (by omega)).2 b hb
      have hread : ∀ W', w6.heap.size ≤ W'.heap.size → (∀ j, w.heap.size ≤ j → j < w6.heap.size → W'.heap[j]? = w6.heap[j]?) → EntsAt W' (.slice (some ⟨g, 0, none⟩) q c) ((List.range q).map (fun i => dk[i]!.1.en)) := fun W' hs hh => by
        have hg6 : g < w6.heap.size := Nat.lt_of_lt_of_le (Nat.lt_of_lt_of_le hgr.2 hb3.size) ho6.size
        refine .inr ⟨g, 0, c, by rw [List.length_map, List.length_range], Nat.lt_of_lt_of_le hg6 hs, by rw [List.length_map, List.length_range]; omega, hcc.2, fun i e hi => ?_⟩
        rw [List.getElem?_map] at hi
        obtain ⟨i', h1, rfl⟩ := Option.map_eq_some_iff.1 hi
        obtain ⟨h2, rfl⟩ := List.getElem?_eq_some_iff.1 h1
        rw [List.getElem_range] at *
        rw [List.length_range] at h2
        obtain ⟨y0, y1⟩ := hc6 i h2
        have hI := dk[i]!.2 w6 ho6
        have hI' : IntsAt W' (.slice dk[i]!.1.A dk[i]!.1.n dk[i]!.1.cap) dk[i]!.1.fl := hI.still hs fun b hb hlt => hh b (hnew i h2 b hb) hlt
        have hcl : ∀ o, W'.cell? ⟨g, o, none⟩ = w6.cell? ⟨g, o, none⟩ := fun o => by
          unfold World.cell?
          rw [hh g hgw hg6]
        obtain ⟨A2, c2, e2, -⟩ := ints_open hI'
        injection e2 with e3 e4 e5
        rw [e4] at hI' y1
        exact ⟨(hcl _).trans y0, _, _, (hcl _).trans y1, hI'⟩
      refine ⟨.slice (some ⟨g, 0, none⟩) q c, (List.range q).map (fun i => dk[i]!.1.en), rfl, ⟨hread w6 (Nat.le_refl _) (fun _ _ _ => rfl), hread⟩, OnlyAt.below (hbw.trans (hb3.mono hbw.size)) ho6 (Nat.le_trans hbw.size hb3.size) (fun j hj => by omega), by rw [List.length_map, List.length_range]; exact hqk, fun e he => ?_, fun e0 he0 => ?_⟩
      · obtain ⟨i, hi, rfl⟩ := hmem e he
        obtain ⟨j, hj, e1⟩ := hf6 i hi
        obtain ⟨j2, hj2, e2⟩ := hp1 j (by rw [HP.out.2]; exact hj)
        obtain ⟨e0, h1, h2⟩ := hget j2 (by omega)
        rw [e1, e2, h2]
        exact ⟨e0, List.mem_of_getElem? h1, once_alike e0, onceL_len _⟩
      · obtain ⟨j, hj, e1⟩ := List.getElem_of_mem he0
        obtain ⟨e0', h1, h2⟩ := hget j (by have := HN.out; omega)
        obtain ⟨i, hi, e2⟩ := hp2 j (by have := HN.out; omega)
        obtain ⟨i2, hi2, hs⟩ := hk6 i (by rw [← HP.out.2]; exact hi)
        refine ⟨dk[i2]!.1.en, List.mem_map.2 ⟨i2, List.mem_range.2 hi2, rfl⟩, ?_⟩
        have e3 : e0' = e0 := by
          rw [List.getElem?_eq_getElem hj] at h1
          exact (Option.some.inj h1).symm.trans e1
        subst e3
        have hen : dk[i2]!.1.en = onceE e0' := by
          rw [← h2, ← e2]
          show (⟨dk[i2]!.1.word, dk[i2]!.1.fl⟩ : En) = ⟨d'[i]!.1.word, d'[i]!.1.fl⟩
          rw [hs.1, hs.2]
        rw [hen]
        exact once_alike e0'
end Go.Proofs.YtcbmfkgekhadkaaGreatDoor
