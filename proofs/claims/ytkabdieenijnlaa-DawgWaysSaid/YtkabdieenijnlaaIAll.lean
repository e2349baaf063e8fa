/- Stage 15's laws: all by contract: the words of an automaton, walked. -/
import Derived.Test.YtkabdieenijnlaaIFew
import Derived.Test.YtkabdieenijnlaaIOut
import Derived.Deep.CutRange
import Derived.Deep.DeepCutAuto
import Derived.Laws.IdiomStrings
import Derived.Lib.ConvBytes
namespace Go.Proofs.Ytkabdieenijnlaa
open Go Go.RowKit Go.Lib

/-- A word behind a beginning. -/
def wordB (head : ByteArray) (x : Bs) : ByteArray := ⟨(head.data.toList ++ x).toArray⟩
theorem wordB_nil (head : ByteArray) : wordB head [] = head := by unfold wordB; simp
theorem wordB_cons (head : ByteArray) (c : UInt8) (x : Bs) : wordB (head ++ ⟨#[c]⟩) x = wordB head (c :: x) := by
  unfold wordB
  congr 1
  simp
theorem wordB_self (s : ByteArray) : wordB ⟨#[]⟩ (tailD 0 s) = s := by unfold wordB tailD; simp
/-- What may turn while a row grows: its own block, and what is new. -/
structure GB (w w' : World) (v v' : Value) : Prop where
  grown : w.grownBy w' v.ownBlock
  wh : v'.ownBlock = v.ownBlock ∨ ∀ g, v'.ownBlock = some g → w.heap.size ≤ g
theorem GB.refl (w : World) (v : Value) : GB w w v v := ⟨⟨rfl, rfl, rfl, Nat.le_refl _, fun _ _ _ => rfl⟩, .inl rfl⟩
theorem GB.trans {w w' w'' : World} {v v' v'' : Value} (h : GB w w' v v') (k : GB w' w'' v' v'') : GB w w'' v v'' := by
  have hs := h.grown.size
  refine ⟨⟨k.grown.os.trans h.grown.os, k.grown.tape.trans h.grown.tape, k.grown.output.trans h.grown.output, Nat.le_trans hs k.grown.size, fun i hi hn => ?_⟩, ?_⟩
  · refine (k.grown.block i (Nat.lt_of_lt_of_le hi hs) (fun e => ?_)).trans (h.grown.block i hi hn)
    rcases h.wh with h1 | h1
    · exact hn (e.trans h1)
    · have := h1 i e.symm; omega
  · rcases k.wh with k1 | k1
    · rcases h.wh with h1 | h1
      · exact .inl (k1.trans h1)
      · exact .inr fun g hg => h1 g (k1 ▸ hg)
    · exact .inr fun g hg => Nat.le_trans hs (k1 g hg)
theorem GB.of_below {w w' : World} (v : Value) (h : Below w.heap.size w w') : GB w w' v v := ⟨⟨h.os, h.tape, h.output, h.size, fun k hk _ => h.block k hk⟩, .inl rfl⟩
theorem GB.below {w0 w w' : World} {v v' : Value} {B : Nat} (hb : Below B w0 w) (h : GB w w' v v') (hB : B ≤ w.heap.size) (hv : ∀ g, v.ownBlock = some g → B ≤ g) : Below B w0 w' :=
  OnlyAt.below hb (OnlyAt.of_grown (T := fun k => v.ownBlock = some k) h.grown fun _k hk => hk) hB fun k hk => hv k hk

def AllSays (w0 : World) (p : Nat) (g : GA) (_st : Nat) (k : Nat) : Prop := ∀ (w : World) (t : Nat) (V : List Bs) (head : ByteArray) (v : Value) (o : List ByteArray), Below w0.heap.size w0 w → g.N[t]? = some V → (∀ x ∈ V, x.length ≤ k) →
  w.ownsRow w0.heap.size 9 1 v o.length (o.map Value.string) → o.length + V.length ≤ 100 → head.size + k ≤ 1000 →
  Calls Try.prog 17 #[.pointer (some ⟨p, 0, none⟩), .int .i64 t, .string head, v, .int .i64 k] w fun e w' => ∃ v', e = .returned v' ∧ w'.ownsRow w0.heap.size 9 1 v' (o ++ V.map (wordB head)).length ((o ++ V.map (wordB head)).map Value.string) ∧ GB w w' v v'
theorem conv_one (c : UInt8) (w : World) (b : Nat) (hc : w.cell? ⟨b, 0, none⟩ = some (.int .u8 c.toNat)) : (convert 40 9 (.slice (some ⟨b, 0, none⟩) 1 1)).run Try.prog w = .ok (.string ⟨#[c]⟩) w :=
  run_convert_bytes_back w 40 9 5 ⟨b, 0, none⟩ 1 [c] Try.underlying40 Try.underlying5 Try.underlying9 (fun j hj => by
    have : j = 0 := by simpa using hj
    subst this
    rw [show (⟨b, 0, none⟩ : Addr).add 0 = ⟨b, 0, none⟩ from add9 b 0]
    simpa using hc)
theorem leads_take {N : List (List Bs)} {ch : List (UInt8 × Nat × Nat)} {j : Nat} {c : UInt8} {t n : Nat} {M : List Bs} (hj : ch[j]? = some (c, t, n)) (ht : N[t]? = some M) : leads N (ch.take (j + 1)) = leads N (ch.take j) ++ M.map (c :: ·) := by
  rw [List.take_add_one, hj]
  unfold leads
  rw [List.flatMap_append]
  congr 1
  simp [List.getD_eq_getElem?_getD, ht]

theorem goes_at {N : List (List Bs)} {ch : List (UInt8 × Nat × Nat)} (h : ChainOk N ch) {j : Nat} {x : UInt8 × Nat × Nat} (hj : ch[j]? = some x) : goes ch x.1 = some x.2.1 := by
  refine goes_hit (pre := ch.take j) (x := x) (fun y hy e => ?_) rfl ⟨ch.drop (j + 1), ?_⟩
  · obtain ⟨i, hi⟩ := List.getElem?_of_mem hy
    rw [List.getElem?_take] at hi
    split at hi
    · have := pw_at h.rise (by omega) hi hj
      rw [e] at this
      exact UInt8.lt_irrefl _ this
    · cases hi
  · rw [List.append_assoc]
    have : [x] ++ ch.drop (j + 1) = ch.drop j := by
      obtain ⟨hlt, e⟩ := List.getElem?_eq_some_iff.1 hj
      rw [List.drop_eq_getElem_cons hlt, e]; rfl
    rw [this, List.take_append_drop]
set_option maxRecDepth 100000 in
set_option maxHeartbeats 4000000 in
theorem all_step (w0 : World) (p : Nat) (g : GA) (st : Nat) (h : AutoAt w0 p g st) (k : Nat) (IH : ∀ k', k' + 1 = k → AllSays w0 p g st k') : AllSays w0 p g st k := by
  intro w t V head v o hb hN hV ho hlen hhead
  obtain ⟨i0, hi, hz0, hz1, hz2⟩ := info_parts Try.infosZ9
  have hA := h.keep hb
  obtain ⟨hw, hch⟩ := words_out h.ok hN
  obtain ⟨f, hf⟩ : ∃ f, f = g.fin (t : Int) := ⟨_, rfl⟩
  obtain ⟨ch, hchn⟩ : ∃ ch, ch = g.out (t : Int) := ⟨_, rfl⟩
  rw [← hf, ← hchn] at hw
  rw [← hchn] at hch
  obtain ⟨RES, hRES⟩ : ∃ r, r = o ++ V.map (wordB head) := ⟨_, rfl⟩
  rw [← hRES]
  have CF := Lib.hid (show Calls Try.prog 23 #[.pointer (some ⟨p, 0, none⟩), .int .i64 t] w fun e w' => e = .returned (.bool f) ∧ w' = w from by
    rw [hf]; exact final_any w p g st hA t)
  have HH := Lib.hid (And.intro hb (And.intro hN (And.intro hV (And.intro hw (And.intro hch (And.intro hRES (And.intro hlen hhead)))))))
  have HA := Lib.hid h
  have HIH := Lib.hid IH
  have HCH := Lib.hid hchn
  obtain ⟨A, cap, rfl⟩ := row_shape ho
  have HO := Lib.hid ho
  obtain ⟨on, hon⟩ : ∃ on, on = o.length := ⟨_, rfl⟩
  rw [← hon] at HO ⊢
  have HON := Lib.hid hon
  have on1 : on ≤ 100 := by omega
  clear hb hN hV hw hch hRES h IH hA hchn hf ho hon
  go_enter Try.func17, Try.ntmps17
  go_upto_region 1 with fail
  go_cut [17] (fun b wx => b = .bool f ∧ w = wx)
  case first =>
    go_wp2_with (go_at_call 23; refine CF.out.mono ?_; rintro e w1 ⟨rfl, rfl⟩)
    go_meet
    exact ⟨rfl, rfl⟩
  case rest =>
  obtain ⟨rfl, rfl⟩ := hcut
  go_step
  obtain ⟨o1, ho1⟩ : ∃ o1, o1 = o ++ (fins f).map (wordB head) := ⟨_, rfl⟩
  obtain ⟨n1, hn1⟩ : ∃ n1, n1 = o1.length := ⟨_, rfl⟩
  have HO1 := Lib.hid (And.intro ho1 hn1)
  go_cut [3] (fun s3 wx => ∃ A' cap', s3 = .slice A' n1 cap' ∧ Hid (wx.ownsRow w0.heap.size 9 1 (.slice A' n1 cap') n1 (o1.map Value.string) ∧ GB w wx (.slice A on cap) (.slice A' n1 cap')))
  case first =>
    cases f with
    | false =>
      have e1 : o1 = o := by rw [ho1]; simp [fins]
      have e2 : n1 = on := by rw [hn1, e1, HON.out]
      subst e1 e2
      go_wp2_with fail
      go_meet
      exact ⟨A, cap, rfl, Lib.hid ⟨HO.out, GB.refl _ _⟩⟩
    | true =>
      have e1 : o1 = o ++ [head] := by rw [ho1]; simp [fins, wordB_nil]
      have e2 : n1 = on + 1 := by rw [hn1, e1, HON.out]; simp
      subst e2
      clear ho1 hn1
      go_wp2_with (at_builtin; refine wpList_append_where _ rfl _ _ 22 rfl w0.heap.size 9 i0 (.string ⟨#[]⟩) 1 16 Try.underlying22 hi hz0 hz1 hz2 rfl (by decide) _ _ _ rfl (HO.out.alloc _) ⟨w.heap.size, 0, none⟩ 1 1 [.string head] rfl rfl (news_row _ _ _) (fun u hu => by simp at hu; subst hu; rfl) (by unfold maxLen; omega) (by omega) (by have := HH.out.1.size; simp; omega) ?_; intro v' w4 hown4 hgrow4 hwh4; obtain ⟨A4, cap4, rfl⟩ := row_shape hown4; have HX4 := Lib.hid (And.intro hown4 (And.intro hgrow4 hwh4)); clear hown4 hgrow4 hwh4)
      go_meet
      refine ⟨A4, cap4, rfl, Lib.hid ⟨by rw [e1, List.map_append]; exact HX4.out.1, ⟨(World.grownBy_alloc _ _ _).trans HX4.out.2.1, HX4.out.2.2.imp id fun h g hg => ?_⟩⟩⟩
      have := h g hg
      rw [World.size_alloc] at this
      omega
  case rest =>
  obtain ⟨A1, cap1, rfl, H1⟩ := hcut
  have HB1 := Lib.hid (H1.out.2.below HH.out.1 HH.out.1.size (fun g hg => (HO.out.lt g hg).1))
  have hn1b : n1 ≤ 100 := by
    obtain ⟨-, -, -, h4, -, -, h7, -⟩ := HH.out
    rw [h4, List.length_append] at h7
    rw [hn1, ho1, List.length_append, List.length_map]
    omega
  rcases k with _ | k'
  · have he : RES = o1 := by
      obtain ⟨-, -, h3, h4, -, h6, -⟩ := HH.out
      have hl : leads g.N ch = [] := by
        refine List.eq_nil_iff_forall_not_mem.2 fun x hx => ?_
        have h9 := h3 x (by rw [h4]; exact List.mem_append_right _ hx)
        obtain ⟨y, _, hy⟩ := List.mem_flatMap.1 hx
        obtain ⟨z, _, rfl⟩ := List.mem_map.1 hy
        simp at h9
      rw [h6, h4, hl, List.append_nil, ho1]
    subst he
    clear ho1
    go_wp2_with fail
    go_ret
    exact ⟨_, rfl, by rw [← hn1]; exact H1.out.1, H1.out.2⟩
  · have hk0 : ¬ (((k' + 1 : Nat) : Int) = 0) := by omega
    have hk1 : ¬ (100 : Int) < n1 := by omega
    have hk2 : ((((k' + 1 : Nat) : Int)) == 0) = false := by rw [beq_eq_false_iff_ne]; exact hk0
    obtain ⟨m, hm⟩ : ∃ m, m = ch.length := ⟨_, rfl⟩
    have CO := Lib.hid (show Calls Try.prog 21 #[.pointer (some ⟨p, 0, none⟩), .int .i64 t] wc fun e w' => ∃ B cb, e = .returned (.slice B m cb) ∧ Hid (w'.ownsRow wc.heap.size 5 1 (.slice B m cb) m ((ch.map fun x => x.1).map u8V) ∧ Below wc.heap.size wc w') from by
      refine (out_any wc p g st (HA.out.keep HB1.out) t).mono ?_
      rintro e w' ⟨v9, rfl, hr, hb⟩
      rw [← HCH.out] at hr
      obtain ⟨B, cb, rfl⟩ := row_shape hr
      rw [List.length_map, ← hm] at hr ⊢
      exact ⟨B, cb, rfl, Lib.hid ⟨hr, hb⟩⟩)
    have HM := Lib.hid hm
    clear ho1 hn1 hm
    go_wp2_with (go_at_call 21; refine CO.out.mono ?_; rintro e w2 ⟨B, cb, rfl, H2⟩)
    have HQ0 := Lib.hid (show w2.ownsRow w0.heap.size 9 1 (.slice A1 n1 cap1) n1 (o1.map Value.string) ∧ GB w w2 (.slice A on cap) (.slice A1 n1 cap1) from ⟨own_keep9 H1.out.1 H2.out.2, H1.out.2.trans (GB.of_below _ H2.out.2)⟩)
    go_loopg [3, 34] m (fun gh v3 y wr => ∃ (j nj : Nat) (Aj : Option Addr) (cj : Nat), j + gh = m ∧ v3 = .slice Aj nj cj ∧ y = .int .i64 j ∧ nj ≤ 100 ∧ Hid (nj = (o1 ++ (leads g.N (ch.take j)).map (wordB head)).length ∧ wr.ownsRow w0.heap.size 9 1 (.slice Aj nj cj) nj ((o1 ++ (leads g.N (ch.take j)).map (wordB head)).map Value.string) ∧ GB w wr (.slice A on cap) (.slice Aj nj cj) ∧ GB w2 wr (.slice A1 n1 cap1) (.slice Aj nj cj)))
    case atStart => exact ⟨0, n1, A1, cap1, by omega, rfl, rfl, hn1b, Lib.hid ⟨by rw [HO1.out.2]; simp [leads], by simpa [leads] using HQ0.out.1, HQ0.out.2, GB.refl _ _⟩⟩
    case round =>
      obtain ⟨j, nj, Aj, cj, hj, rfl, rfl, hnj, HP⟩ := hrel
      have j0 : (0 : Int) ≤ j := by omega
      rcases Nat.eq_zero_or_pos gk with h0 | h0
      · have d1 : ¬ (j : Int) < m := by omega
        have he : RES = o1 ++ (leads g.N (ch.take j)).map (wordB head) := by
          obtain ⟨-, -, -, h4, -, h6, -⟩ := HH.out
          rw [List.take_of_length_le (by have := HM.out; omega), HO1.out.1, h6, h4, List.map_append, List.append_assoc]
        have HE := Lib.hid he
        clear he
        go_wp2_with fail
        go_ret
        refine ⟨_, rfl, ?_, HP.out.2.2.1⟩
        rw [HE.out, ← HP.out.1]
        exact HP.out.2.1
      · have d1 : (j : Int) < m := by omega
        obtain ⟨⟨c, t', nx⟩, hx⟩ : ∃ x, ch[j]? = some x := ⟨_, List.getElem?_eq_getElem (by have := HM.out; omega)⟩
        obtain ⟨M, hM1, hM2⟩ := HH.out.2.2.2.2.1.there _ (List.mem_of_getElem? hx)
        dsimp only at hM1
        have hgo := goes_at HH.out.2.2.2.2.1 hx
        dsimp only at hgo
        have htk := leads_take (N := g.N) hx hM1
        have hwr0 : Below w0.heap.size w0 wr := HP.out.2.2.1.below HH.out.1 HH.out.1.size (fun g hg => (HO.out.lt g hg).1)
        have hnx := next_any wr p g st (HA.out.keep hwr0) t c
        rw [← HCH.out, hgo] at hnx
        dsimp only at hnx
        obtain ⟨q, cbq, hqe, hq1, hq2, hq3, hcells⟩ := own_open9 H2.out.1 (by omega : 0 < m)
        injection hqe with e1 e2 e3
        subst e1 e3
        have hq4 : m ≤ 9223372036854775807 := by unfold maxLen at hq3; omega
        have hqw : wc.heap.size ≤ q := (H2.out.1.lt q rfl).1
        have hcell : wr.cell? ⟨q, j, none⟩ = some (.int .u8 c.toNat) := by
          have hne : some q ≠ (Value.slice A1 n1 cap1).ownBlock := fun e => by
            have := (H1.out.1.lt q e.symm).2
            omega
          have h1 : w2.cell? ⟨q, j, none⟩ = some (.int .u8 c.toNat) := hcells j _ (by rw [List.map_map, List.getElem?_map, hx]; rfl)
          refine Eq.trans ?_ h1
          unfold World.cell?
          dsimp only
          rw [HP.out.2.2.2.grown.block q hq1 hne]
        obtain ⟨wl, hwl⟩ : ∃ wl, wl = (leads g.N ch).length := ⟨_, rfl⟩
        have hlt1 : (leads g.N (ch.take (j + 1))).length ≤ (leads g.N ch).length := by
          unfold leads
          conv => rhs; rw [← List.take_append_drop (j + 1) ch, List.flatMap_append, List.length_append]
          exact Nat.le_add_right _ _
        have hMx : ∀ x ∈ M, x.length ≤ k' := fun x hx' => by
          have h4 := HH.out.2.2.2.1
          have h9 := HH.out.2.2.1 (c :: x) (by
            rw [h4]
            refine List.mem_append_right _ (List.mem_flatMap.2 ⟨_, List.mem_of_getElem? hx, ?_⟩)
            dsimp only
            rw [List.getD_eq_getElem?_getD, hM1]
            exact List.mem_map.2 ⟨x, hx', rfl⟩)
          simpa using h9
        have hbound : nj + M.length ≤ 100 := by
          obtain ⟨-, -, -, h4, -, -, h7, -⟩ := HH.out
          have e5 := HP.out.1
          rw [h4, List.length_append] at h7
          rw [htk, List.length_append, List.length_map] at hlt1
          rw [e5, HO1.out.1, List.length_append, List.length_append, List.length_map, List.length_map]
          omega
        have CX := Lib.hid hnx
        have CR := Lib.hid (show ∀ wx, Below wr.heap.size wr wx → Calls Try.prog 17 #[.pointer (some ⟨p, 0, none⟩), .int .i64 t', .string (head ++ ⟨#[c]⟩), .slice Aj nj cj, .int .i64 k'] wx fun e w' => ∃ A9 n9 c9, e = .returned (.slice A9 n9 c9) ∧ n9 ≤ 100 ∧ Hid (n9 = (o1 ++ (leads g.N (ch.take (j + 1))).map (wordB head)).length ∧ w'.ownsRow w0.heap.size 9 1 (.slice A9 n9 c9) n9 ((o1 ++ (leads g.N (ch.take (j + 1))).map (wordB head)).map Value.string) ∧ GB wr w' (.slice Aj nj cj) (.slice A9 n9 c9)) from fun wx hbx => by
          have hown := own_keep9 HP.out.2.1 hbx
          have hn5 := HP.out.1
          rw [hn5] at hown
          have hc := HIH.out k' rfl wx t' M (head ++ ⟨#[c]⟩) _ _ (hwr0.trans (hbx.mono hwr0.size)) hM1 hMx hown (by rw [← hn5]; exact hbound) (by rw [ByteArray.size_append]; have := HH.out.2.2.2.2.2.2.2; show head.size + 1 + k' ≤ 1000; omega)
          rw [← hn5] at hc
          refine hc.mono ?_
          rintro e w' ⟨v9, rfl, hr9, hg9⟩
          have el : o1 ++ (leads g.N (ch.take j)).map (wordB head) ++ M.map (wordB (head ++ ⟨#[c]⟩)) = o1 ++ (leads g.N (ch.take (j + 1))).map (wordB head) := by
            rw [htk, List.map_append, List.map_map, List.append_assoc]
            congr 2
            apply List.map_congr_left
            intro x _
            exact wordB_cons head c x
          rw [el] at hr9
          obtain ⟨A9, c9, rfl⟩ := row_shape hr9
          refine ⟨A9, _, c9, rfl, ?_, Lib.hid ⟨rfl, hr9, (GB.of_below _ hbx).trans hg9⟩⟩
          rw [← el, List.length_append, List.length_map, ← hn5]
          exact hbound)
        have hh9 : ¬ 9223372036854775807 < head.size + 1 := by omega
        have hcvx := fun wx => conv_one c wx
        have kk : IntKind.i64.wrap (((k' + 1 : Nat) : Int) - 1) = k' := by rw [show (((k' + 1 : Nat) : Int) - 1) = k' by omega]; exact IntWalk.i64_in _ (by omega)
        have kk2 : IntKind.i64.wrap ((k' : Int) + 1 - 1) = k' := by rw [show ((k' : Int) + 1 - 1) = k' by omega]; exact IntWalk.i64_in _ (by omega)
        have kk3 : IntKind.i64.wrap (k' : Int) = k' := IntWalk.i64_in _ (by omega)
        have CXX := Lib.hid (And.intro hwr0 hq1)
        clear hx hM1 hM2 hgo htk hnx hqw hcells hwl hlt1 hMx hbound hwr0
        go_wp2_with (go_at_call 22; refine CX.out.mono ?_; rintro e w3 ⟨rfl, hb3⟩; have HB3 := Lib.hid hb3; have hcvw := hcvx (w3.alloc (.cells #[.int .u8 c.toNat] 5)) w3.heap.size (new_cell _ _ _ 0); clear hb3)
        refine (CR.out _ (HB3.out.alloc HB3.out.size _)).mono ?_
        rintro e w4 ⟨A9, n9, c9, rfl, hn9, H9⟩
        have HN := Lib.hid (show n9 = (o1 ++ (leads g.N (ch.take (j + 1))).map (wordB head)).length ∧ w4.ownsRow w0.heap.size 9 1 (.slice A9 n9 c9) n9 ((o1 ++ (leads g.N (ch.take (j + 1))).map (wordB head)).map Value.string) ∧ GB w w4 (.slice A on cap) (.slice A9 n9 c9) ∧ GB w2 w4 (.slice A1 n1 cap1) (.slice A9 n9 c9) from ⟨H9.out.1, H9.out.2.1, HP.out.2.2.1.trans H9.out.2.2, HP.out.2.2.2.trans H9.out.2.2⟩)
        clear hcell hcvw hcvx H9 CR CX
        go_wp2_with fail
        go_roundg (gk - 1)
        case measure => omega
        case rel => exact ⟨j + 1, n9, A9, c9, by omega, rfl, by go_num, hn9, HN⟩
theorem all_all (w0 : World) (p : Nat) (g : GA) (st : Nat) (h : AutoAt w0 p g st) : ∀ k, AllSays w0 p g st k
  | 0 => all_step w0 p g st h 0 (fun _ e => by omega)
  | k + 1 => all_step w0 p g st h (k + 1) (fun _ e => by cases e; exact all_all w0 p g st h k)
/-- The words of the whole automaton. -/
theorem all15_any (w0 w : World) (p : Nat) (g : GA) (st : Nat) (m : List ByteArray) (h : AutoAt w0 p g st) (hb : Below w0.heap.size w0 w) (hst : g.N[st]? = some (m.map (tailD 0))) (hm : m.length ≤ 40) (hz : ∀ s ∈ m, s.size ≤ 20) :
    Calls Try.prog 17 #[.pointer (some ⟨p, 0, none⟩), .int .i64 st, .string ⟨#[]⟩, .slice none 0 0, .int .i64 20] w fun e w' => ∃ v', e = .returned v' ∧ StrsAt w' v' m ∧ Below w.heap.size w w' := by
  have hc := all_all w0 p g st h 20 w st _ ⟨#[]⟩ (.slice none 0 0) [] hb hst (fun x hx => by
    obtain ⟨s, hs, rfl⟩ := List.mem_map.1 hx
    rw [tailD_len]
    have := hz s hs
    omega) (World.ownsRow_nil _ _ _ _) (by simp; omega) (by show 0 + 20 ≤ 1000; omega)
  refine hc.mono ?_
  rintro e w' ⟨v', rfl, hr, hg⟩
  have el : ([] : List ByteArray) ++ (m.map (tailD 0)).map (wordB ⟨#[]⟩) = m := by
    rw [List.nil_append, List.map_map]
    conv => rhs; rw [← List.map_id m]
    apply List.map_congr_left
    intro s _
    exact wordB_self s
  rw [el] at hr
  exact ⟨v', rfl, strs_own hr rfl, ⟨hg.grown.os, hg.grown.tape, hg.grown.output, hg.grown.size, fun k hk => hg.grown.block k hk (by simp [Value.ownBlock])⟩⟩
end Go.Proofs.Ytkabdieenijnlaa
