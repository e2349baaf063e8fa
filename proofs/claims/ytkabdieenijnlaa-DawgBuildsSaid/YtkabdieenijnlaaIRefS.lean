/- Chapter 15's own answer by contract: Heads, States: how many unlike endings there are. -/
import Derived.Test.YtkabdieenijnlaaIRef
namespace Go.Proofs.Ytkabdieenijnlaa
open Go Go.RowKit Go.Lib

/-! ### Plain -/
theorem rising_nodup {l : List ByteArray} (h : Rising l) : l.Nodup := h.imp fun {a b} hab e => by subst e; exact ltS_irrefl _ hab
theorem split0 : ∀ {x y r r' : Bs}, (∀ c ∈ x, c ≠ 0) → (∀ c ∈ y, c ≠ 0) → x ++ 0 :: r = y ++ 0 :: r' → x = y ∧ r = r'
  | [], [], _, _, _, _, e => ⟨rfl, (List.cons.inj e).2⟩
  | [], b :: y, _, _, _, hy, e => by
    have := (List.cons.inj e).1
    exact absurd this.symm (hy b (List.mem_cons_self ..))
  | a :: x, [], _, _, hx, _, e => by
    have := (List.cons.inj e).1
    exact absurd this (hx a (List.mem_cons_self ..))
  | a :: x, b :: y, r, r', hx, hy, e => by
    obtain ⟨e1, e2⟩ := List.cons.inj e
    obtain ⟨h1, h2⟩ := split0 (fun c hc => hx c (List.mem_cons_of_mem _ hc)) (fun c hc => hy c (List.mem_cons_of_mem _ hc)) e2
    exact ⟨by rw [e1, h1], h2⟩
theorem txt_inj : ∀ {V W : List Bs}, (∀ x ∈ V, ∀ c ∈ x, c ≠ 0) → (∀ x ∈ W, ∀ c ∈ x, c ≠ 0) → txtB V = txtB W → V = W
  | [], [], _, _, _ => rfl
  | [], y :: W, _, _, e => by simp [txtB] at e
  | x :: V, [], _, _, e => by simp [txtB] at e
  | x :: V, y :: W, hV, hW, e => by
    have e' : x ++ 0 :: txtB V = y ++ 0 :: txtB W := by simpa [txtB] using e
    obtain ⟨h1, h2⟩ := split0 (hV x (List.mem_cons_self ..)) (hW y (List.mem_cons_self ..)) e'
    rw [h1, txt_inj (fun z hz => hV z (List.mem_cons_of_mem _ hz)) (fun z hz => hW z (List.mem_cons_of_mem _ hz)) h2]
def toT (V : List Bs) : ByteArray := ⟨(txtB V).toArray⟩
theorem toT_inj {V W : List Bs} (hV : ∀ x ∈ V, ∀ c ∈ x, c ≠ 0) (hW : ∀ x ∈ W, ∀ c ∈ x, c ≠ 0) (e : toT V = toT W) : V = W := by
  refine txt_inj hV hW ?_
  have := congrArg (fun x : ByteArray => x.data.toList) e
  simpa [toT] using this
theorem ends_free {V : List Bs} (h : ∀ x ∈ V, ∀ c ∈ x, c ≠ 0) (p : Bs) : ∀ x ∈ ends V p, ∀ c ∈ x, c ≠ 0 := fun x hx c hc => h (p ++ x) (mem_ends.1 hx) c (List.mem_append_right _ hc)
theorem allEnds_free {V : List Bs} (h : ∀ x ∈ V, ∀ c ∈ x, c ≠ 0) : ∀ L ∈ allEnds V, ∀ x ∈ L, ∀ c ∈ x, c ≠ 0 := by
  intro L hL
  rcases List.mem_cons.1 hL with rfl | hL
  · exact h
  · obtain ⟨p, _, rfl⟩ := List.mem_map.1 hL
    exact ends_free h p
/-- As many texts as there are unlike endings. -/
theorem texts_count {V : List Bs} {Sn : List ByteArray} (hf : ∀ x ∈ V, ∀ c ∈ x, c ≠ 0) (hr : Rising Sn) (hm : ∀ y, y ∈ Sn ↔ ∃ p, (p = [] ∨ p ∈ heads V) ∧ y = toT (ends V p)) : Sn.length = (dd (allEnds V)).length := by
  have hmem : ∀ L ∈ dd (allEnds V), ∀ x ∈ L, ∀ c ∈ x, c ≠ 0 := fun L hL => allEnds_free hf L ((dd_mem _ _).1 hL)
  have hnd : ((dd (allEnds V)).map toT).Nodup := by
    unfold List.Nodup
    rw [List.pairwise_map]
    exact (dd_nodup (allEnds V)).imp_of_mem fun {a b} ha hb hne e => hne (toT_inj (hmem a ha) (hmem b hb) e)
  have e9 : (dd (allEnds V)).length = ((dd (allEnds V)).map toT).length := by rw [List.length_map]
  rw [e9]
  refine len_eq (rising_nodup hr) hnd fun y => ?_
  rw [hm, List.mem_map]
  constructor
  · rintro ⟨p, rfl | hp, rfl⟩
    · exact ⟨V, (dd_mem _ _).2 (List.mem_cons_self ..), rfl⟩
    · exact ⟨ends V p, (dd_mem _ _).2 (List.mem_cons_of_mem _ (List.mem_map.2 ⟨p, hp, rfl⟩)), rfl⟩
  · rintro ⟨L, hL, rfl⟩
    rcases List.mem_cons.1 ((dd_mem _ _).1 hL) with rfl | hL
    · exact ⟨[], .inl rfl, rfl⟩
    · obtain ⟨p, hp, rfl⟩ := List.mem_map.1 hL
      exact ⟨p, .inr hp, rfl⟩

/-! ### Heads -/
/-- A beginning of one of these, of one byte at least; or of so many of the last one. -/
def HeadIn (m : List ByteArray) (s : ByteArray) (j : Nat) (y : ByteArray) : Prop := y = ⟨#[]⟩ ∨ (∃ w ∈ m, ∃ i, 1 ≤ i ∧ i ≤ w.size ∧ y = w.extract 0 i) ∨ ∃ i, 1 ≤ i ∧ i ≤ j ∧ y = s.extract 0 i
structure HeadL (m : List ByteArray) (s : ByteArray) (j : Nat) (N : Nat) (H : List ByteArray) : Prop where
  rise : Rising H
  mem : ∀ y, y ∈ H ↔ HeadIn m s j y
  len : H.length ≤ N
theorem HeadL.start : HeadL [] ⟨#[]⟩ 0 1 [⟨#[]⟩] := by
  refine ⟨by simp [Rising], fun y => ?_, Nat.le_refl _⟩
  unfold HeadIn
  rw [List.mem_singleton]
  constructor
  · exact .inl
  · rintro (h | ⟨w, hw, _⟩ | ⟨i, h1, h2, _⟩)
    · exact h
    · cases hw
    · omega
theorem HeadL.put {m : List ByteArray} {s : ByteArray} {j N : Nat} {H : List ByteArray} (h : HeadL m s j N H) : HeadL m s (j + 1) (N + 1) (putL H (s.extract 0 (j + 1))) := by
  refine ⟨putL_rising _ _ h.rise, fun y => ?_, Nat.le_trans (putL_length _ _) (Nat.succ_le_succ h.len)⟩
  rw [putL_mem, h.mem]
  unfold HeadIn
  constructor
  · rintro (rfl | h1 | h1 | ⟨i, h1, h2, h3⟩)
    · exact .inr (.inr ⟨j + 1, by omega, Nat.le_refl _, rfl⟩)
    · exact .inl h1
    · exact .inr (.inl h1)
    · exact .inr (.inr ⟨i, h1, by omega, h3⟩)
  · rintro (h1 | h1 | ⟨i, h1, h2, h3⟩)
    · exact .inr (.inl h1)
    · exact .inr (.inr (.inl h1))
    · by_cases e : i = j + 1
      · subst e; exact .inl h3
      · exact .inr (.inr (.inr ⟨i, h1, by omega, h3⟩))
theorem HeadL.next {m : List ByteArray} {s : ByteArray} {N : Nat} {H : List ByteArray} (h : HeadL m s s.size N H) (s' : ByteArray) : HeadL (m ++ [s]) s' 0 N H := by
  refine ⟨h.rise, fun y => ?_, h.len⟩
  rw [h.mem]
  unfold HeadIn
  constructor
  · rintro (h1 | ⟨w, hw, h1⟩ | ⟨i, h1, h2, h3⟩)
    · exact .inl h1
    · exact .inr (.inl ⟨w, List.mem_append_left _ hw, h1⟩)
    · exact .inr (.inl ⟨s, by simp, i, h1, h2, h3⟩)
  · rintro (h1 | ⟨w, hw, i, h1, h2, h3⟩ | ⟨i, h1, h2, _⟩)
    · exact .inl h1
    · rcases List.mem_append.1 hw with hw | hw
      · exact .inr (.inl ⟨w, hw, i, h1, h2, h3⟩)
      · simp at hw
        subst hw
        exact .inr (.inr ⟨i, h1, h2, h3⟩)
    · omega
theorem HeadL.any {m : List ByteArray} {s : ByteArray} {N : Nat} {H : List ByteArray} (h : HeadL m s 0 N H) (s' : ByteArray) : HeadL m s' 0 N H := by
  refine ⟨h.rise, fun y => (h.mem y).trans ?_, h.len⟩
  unfold HeadIn
  constructor <;> rintro (h1 | h1 | ⟨i, h1, h2, _⟩) <;> first | exact .inl h1 | exact .inr (.inl h1) | omega

set_option maxRecDepth 100000 in
set_option maxHeartbeats 2000000 in
theorem heads_any (w : World) (v : Value) (l : List ByteArray) (hv : StrsAt w v l) (hl : l.length ≤ 1000) (hz : ∀ s ∈ l, s.size ≤ 1000) :
    Calls Try.prog 31 #[v] w fun e w' => ∃ v', e = .returned v' ∧ ∃ H, StrsP w' v' H ∧ HeadL l ⟨#[]⟩ 0 1001001 H ∧ Below w.heap.size w w' := by
  obtain ⟨A, cap, rfl⟩ := strs_form hv
  obtain ⟨n, hn⟩ : ∃ n, n = l.length := ⟨_, rfl⟩
  rw [← hn] at hv hl ⊢
  have HO := Lib.hid (strs_open hv)
  have HN := Lib.hid (And.intro hn hz)
  have hp0 : StrsP (w.alloc (.cells #[.string ⟨#[]⟩] 9)) (.slice (some ⟨w.heap.size, 0, none⟩) 1 1) [⟨#[]⟩] := .inr ⟨w.heap.size, 0, 1, rfl, by simp, Nat.le_refl _, by unfold maxLen; omega, fun i s hs => by
    have : i = 0 := by have := (List.getElem?_eq_some_iff.1 hs).1; simpa using this
    subst this
    simp at hs
    subst hs
    exact new_cell w _ _ 0⟩
  have HP0 := Lib.hid hp0
  clear hv hn hz hp0
  go_enter Try.func31, Try.ntmps31
  go_wp2_with fail
  go_loopg [3, 4] n (fun gh x i wr => ∃ (k : Nat) (H : List ByteArray), k + gh = n ∧ i = .int .i64 k ∧ Hid (StrsP wr x H ∧ HeadL (l.take k) ⟨#[]⟩ 0 (1 + k * 1000) H ∧ Below w.heap.size w wr))
  case atStart => exact ⟨0, [⟨#[]⟩], by omega, rfl, Lib.hid ⟨HP0.out, by simpa using HeadL.start, (Below.refl _ _).alloc (Nat.le_refl _) _⟩⟩
  case round =>
    obtain ⟨k, H, hk, rfl, HP⟩ := hrel
    rcases Nat.eq_zero_or_pos gk with h0 | h0
    · have d1 : ¬ (k : Int) < n := by omega
      have he : l.take k = l := List.take_of_length_le (by have := HN.out.1; omega)
      have HF := Lib.hid he
      clear he
      go_wp2_with fail
      go_ret
      refine ⟨_, rfl, H, HP.out.1, ?_, HP.out.2.2⟩
      have := HP.out.2.1
      rw [HF.out] at this
      exact ⟨this.rise, this.mem, Nat.le_trans this.len (by omega)⟩
    · have d1 : (k : Int) < n := by omega
      obtain ⟨s, hs⟩ : ∃ s, l[k]? = some s := ⟨_, List.getElem?_eq_getElem (by have := HN.out.1; omega)⟩
      obtain ⟨b, off, rfl, hb, hnc, cx⟩ := HO.out k s hs
      have hs1 := HN.out.2 s (List.mem_of_getElem? hs)
      have htk : l.take (k + 1) = l.take k ++ [s] := by rw [List.take_add_one, hs]; rfl
      have HS := Lib.hid (And.intro htk (And.intro hb cx))
      obtain ⟨gz, hgz⟩ : ∃ gz, gz = gk := ⟨_, rfl⟩
      clear hs htk
      have cx' := (HP.out.2.2.cell (p := ⟨b, off + k, none⟩) hb).trans cx
      go_wp2_with fail
      go_loopg [3, 5] s.size (fun gh x i wq => ∃ (j : Nat) (H : List ByteArray), j + gh = s.size ∧ i = .int .i64 ((j + 1 : Nat) : Int) ∧ Hid (StrsP wq x H ∧ HeadL (l.take k) s j (1 + k * 1000 + j) H ∧ Below w.heap.size w wq))
      case atStart => exact ⟨0, H, by omega, rfl, Lib.hid ⟨HP.out.1, HP.out.2.1.any s, HP.out.2.2⟩⟩
      case round =>
        obtain ⟨j, H2, hj, rfl, HQ⟩ := hrel
        have c9 := (HQ.out.2.2.cell (p := ⟨b, off + k, none⟩) HS.out.2.1).trans HS.out.2.2
        clear cx cx'
        rcases Nat.eq_zero_or_pos gk with h1 | h1
        · obtain rfl : j = s.size := by omega
          have d2 : ¬ (((s.size + 1 : Nat) : Int)) ≤ s.size := by omega
          have d3 : ¬ ((s.size : Int) + 1) ≤ s.size := by omega
          have HNX := Lib.hid (HQ.out.2.1.next ⟨#[]⟩)
          go_wp2_with fail
          go_roundg (gz - 1)
          case measure => omega
          case rel => exact ⟨k + 1, H2, by omega, by go_num, Lib.hid ⟨HQ.out.1, by rw [HS.out.1]; exact ⟨HNX.out.rise, HNX.out.mem, Nat.le_trans HNX.out.len (by omega)⟩, HQ.out.2.2⟩⟩
        · have d2 : (((j + 1 : Nat) : Int)) ≤ s.size := by omega
          have d3 : ((j : Int) + 1) ≤ s.size := by omega
          have d4 : (0 : Int) ≤ ((j + 1 : Nat) : Int) := by omega
          have d5 : (((j + 1 : Nat) : Int)).toNat = j + 1 := by omega
          have CP := Lib.hid (put13_any wr u3 H2 (s.extract 0 (j + 1)) HQ.out.1 (by have := HQ.out.2.1.len; omega))
          go_wp2_with fail
          refine CP.out.mono ?_
          rintro e w2 ⟨v2, rfl, hp2, hb2⟩
          have HQ2 := Lib.hid (show StrsP w2 v2 (putL H2 (s.extract 0 (j + 1))) ∧ HeadL (l.take k) s (j + 1) (1 + k * 1000 + (j + 1)) (putL H2 (s.extract 0 (j + 1))) ∧ Below w.heap.size w w2 from ⟨hp2, HQ.out.2.1.put, HQ.out.2.2.trans (hb2.mono HQ.out.2.2.size)⟩)
          clear hp2 hb2 CP
          go_wp2_with fail
          go_roundg (gk - 1)
          case measure => omega
          case rel => exact ⟨j + 1, _, by omega, by go_num, HQ2⟩

/-! ### States -/
set_option maxRecDepth 100000 in
set_option maxHeartbeats 2000000 in
theorem rstates_any (w : World) (v : Value) (l : List ByteArray) (hv : StrsAt w v l) (hl : l.length ≤ 1000) (hz : ∀ s ∈ l, s.size ≤ 1000) (hf : ∀ s ∈ l, ∀ c ∈ s.data.toList, c ≠ 0) :
    Calls Try.prog 15 #[v] w fun e w' => e = .returned (.int .i64 (dd (allEnds (l.map (tailD 0)))).length) ∧ Below w.heap.size w w' := by
  obtain ⟨A, cap, rfl⟩ := strs_form hv
  obtain ⟨n, hn⟩ : ∃ n, n = l.length := ⟨_, rfl⟩
  rw [← hn] at hv hl ⊢
  obtain ⟨RES, hRES⟩ : ∃ r, r = (dd (allEnds (l.map (tailD 0)))).length := ⟨_, rfl⟩
  rw [← hRES]
  have CH := Lib.hid (show Calls Try.prog 31 #[.slice A n cap] w fun e w' => ∃ B m cb, e = .returned (.slice B m cb) ∧ m ≤ 1001001 ∧ Hid (∃ H, m = H.length ∧ StrsAt w' (.slice B m cb) H ∧ HeadL l ⟨#[]⟩ 0 1001001 H ∧ Below w.heap.size w w') from by
    refine (heads_any w (.slice A n cap) l hv (by omega) hz).mono ?_
    rintro e w' ⟨v', rfl, H, h1, h2, h3⟩
    obtain ⟨B, cb, rfl⟩ := strs_form h1.at_
    exact ⟨B, H.length, cb, rfl, h2.len, Lib.hid ⟨H, rfl, h1.at_, h2, h3⟩⟩)
  have HN := Lib.hid (And.intro hn (And.intro hz (And.intro hf (And.intro hRES hv))))
  clear hv hn hz hf hRES
  go_enter Try.func15, Try.ntmps15
  go_wp2_with (go_at_call 31; refine CH.out.mono ?_; rintro e w1 ⟨B, m, cb, rfl, hm9, H1⟩)
  obtain ⟨H, hm, hH, hHL, hb1⟩ := H1.out
  have HH := Lib.hid (And.intro hm (And.intro hHL hb1))
  have HOH := Lib.hid (strs_open hH)
  clear hm hH hHL hb1 H1 CH
  go_loopg [3, 5] m (fun gh x i wr => ∃ (k ns : Nat) (S : Option Addr) (cs : Nat) (Sn : List ByteArray), k + gh = m ∧ x = .slice S ns cs ∧ i = .int .i64 k ∧ ns ≤ k ∧ Hid (ns = Sn.length ∧ StrsP wr (.slice S ns cs) Sn ∧ Rising Sn ∧ (∀ y, y ∈ Sn ↔ ∃ h ∈ H.take k, y = endsT l h) ∧ Below w1.heap.size w1 wr))
  case atStart => exact ⟨0, 0, none, 0, [], by omega, rfl, rfl, Nat.le_refl _, Lib.hid ⟨rfl, .inl ⟨rfl, rfl⟩, List.Pairwise.nil, fun y => by simp, Below.refl _ _⟩⟩
  case round =>
    obtain ⟨k, ns, S, cs, Sn, hk, rfl, rfl, hns, HP⟩ := hrel
    rcases Nat.eq_zero_or_pos gk with h0 | h0
    · have d1 : ¬ (k : Int) < m := by omega
      have he : RES = ns := by
        obtain ⟨h1, h2, h3, h4, h5⟩ := HP.out
        rw [HN.out.2.2.2.1, h1]
        refine (texts_count (fun x hx c hc => ?_) h3 fun y => ?_).symm
        · obtain ⟨s, hs, rfl⟩ := List.mem_map.1 hx
          rw [tail0] at hc
          exact HN.out.2.2.1 s hs c hc
        · rw [h4, List.take_of_length_le (by have := HH.out.1; omega)]
          constructor
          · rintro ⟨h, hh, rfl⟩
            refine ⟨h.data.toList, ?_, rfl⟩
            rcases (HH.out.2.1.mem h).1 hh with rfl | ⟨s, hs, i, i1, i2, rfl⟩ | ⟨i, i1, i2, _⟩
            · exact .inl rfl
            · right
              unfold heads
              rw [List.mem_flatMap]
              refine ⟨s.data.toList, List.mem_map.2 ⟨s, hs, tail0 s⟩, mem_inis.2 ⟨s.data.toList.drop i, ?_⟩⟩
              have : (s.extract 0 i).data.toList = s.data.toList.take i := by simp
              rw [this, List.take_append_drop]
            · omega
          · rintro ⟨p, hp, rfl⟩
            refine ⟨⟨p.toArray⟩, ?_, by unfold endsT toT; simp⟩
            rw [HH.out.2.1.mem]
            rcases hp with rfl | hp
            · exact .inl rfl
            · cases hpe : p with
              | nil => exact .inl rfl
              | cons c p' =>
                rw [← hpe]
                right; left
                unfold heads at hp
                rw [List.mem_flatMap] at hp
                obtain ⟨x, hx, hp⟩ := hp
                obtain ⟨s, hs, rfl⟩ := List.mem_map.1 hx
                obtain ⟨q, hq⟩ := mem_inis.1 hp
                rw [tail0] at hq
                have hsz : p.length ≤ s.size := by rw [← size_toList, hq, List.length_append]; omega
                refine ⟨s, hs, p.length, by rw [hpe]; simp, hsz, ?_⟩
                apply ByteArray.ext
                apply Array.toList_inj.1
                have : (s.extract 0 p.length).data.toList = s.data.toList.take p.length := by simp
                rw [this, hq]
                simp
      subst he
      go_wp2_with fail
      go_ret
      exact ⟨rfl, HH.out.2.2.trans (HP.out.2.2.2.2.mono HH.out.2.2.size)⟩
    · have d1 : (k : Int) < m := by omega
      obtain ⟨h, hh⟩ : ∃ h, H[k]? = some h := ⟨_, List.getElem?_eq_getElem (by have := HH.out.1; omega)⟩
      obtain ⟨b, off, rfl, hb, hnc, cx⟩ := HOH.out k h hh
      have cx' := (HP.out.2.2.2.2.cell (p := ⟨b, off + k, none⟩) hb).trans cx
      have hbw : Below w.heap.size w wr := HH.out.2.2.trans (HP.out.2.2.2.2.mono HH.out.2.2.size)
      have hsz : h.size ≤ 1000 := by
        rcases (HH.out.2.1.mem h).1 (List.mem_of_getElem? hh) with rfl | ⟨s, hs, i, i1, i2, rfl⟩ | ⟨i, i1, i2, _⟩
        · decide
        · have := HN.out.2.1 s hs
          rw [ByteArray.size_extract]; omega
        · omega
      have CE := Lib.hid (endings_any wr (.slice A n cap) l h (HN.out.2.2.2.2.keep hbw) (by have := HN.out.1; omega) HN.out.2.1 hsz)
      have htk : H.take (k + 1) = H.take k ++ [h] := by rw [List.take_add_one, hh]; rfl
      have CP := Lib.hid (show Calls Try.prog 30 #[.slice S ns cs, .string (endsT l h)] wr fun e w' => ∃ S' ns' cs', e = .returned (.slice S' ns' cs') ∧ ns' ≤ k + 1 ∧ Hid (∃ Sn', ns' = Sn'.length ∧ StrsP w' (.slice S' ns' cs') Sn' ∧ Rising Sn' ∧ (∀ y, y ∈ Sn' ↔ ∃ h ∈ H.take (k + 1), y = endsT l h) ∧ Below w1.heap.size w1 w') from by
        obtain ⟨h1, h2, h3, h4, h5⟩ := HP.out
        refine (put13_any wr (.slice S ns cs) Sn (endsT l h) h2 (by omega)).mono ?_
        rintro e w' ⟨v', rfl, hp, hb9⟩
        obtain ⟨S', cs', rfl⟩ := strs_form hp.at_
        refine ⟨S', _, cs', rfl, by have := putL_length (endsT l h) Sn; omega, Lib.hid ⟨_, rfl, hp, putL_rising _ _ h3, fun y => ?_, h5.trans (hb9.mono h5.size)⟩⟩
        rw [putL_mem, h4, htk]
        constructor
        · rintro (rfl | ⟨h', hh', rfl⟩)
          · exact ⟨h, by simp, rfl⟩
          · exact ⟨h', List.mem_append_left _ hh', rfl⟩
        · rintro ⟨h', hh', rfl⟩
          rcases List.mem_append.1 hh' with hh' | hh'
          · exact .inr ⟨h', hh', rfl⟩
          · simp at hh'; subst hh'; exact .inl rfl)
      clear cx hh hbw htk hsz
      go_wp2_with (first
        | (go_at_call 32; refine CE.out.mono ?_; rintro e w2 ⟨rfl, rfl⟩)
        | (go_at_call 30; refine CP.out.mono ?_; rintro e w3 ⟨S', ns', cs', rfl, hns', H3⟩))
      obtain ⟨Sn', hr3⟩ := H3.out
      have HR3 := Lib.hid hr3
      clear hr3 H3 CE CP
      go_roundg (gk - 1)
      case measure => omega
      case rel => exact ⟨k + 1, ns', S', cs', Sn', by omega, rfl, by go_num, hns', HR3⟩
end Go.Proofs.Ytkabdieenijnlaa
