/- Chapter 15's own answer by contract: Sorted, endings, Heads, States. -/
import Derived.Test.YtkabdieenijnlaaIAll
namespace Go.Proofs.Ytkabdieenijnlaa
open Go Go.RowKit Go.Lib

/-! ### Sorted -/
theorem foldl_put_mem : ∀ (l m : List ByteArray) (x : ByteArray), x ∈ l.foldl putL m ↔ x ∈ m ∨ x ∈ l
  | [], m, x => by simp
  | a :: l, m, x => by
    rw [List.foldl_cons, foldl_put_mem l, putL_mem, List.mem_cons]
    constructor
    · rintro ((h | h) | h)
      · exact .inr (.inl h)
      · exact .inl h
      · exact .inr (.inr h)
    · rintro (h | h | h)
      · exact .inl (.inr h)
      · exact .inl (.inl h)
      · exact .inr h
theorem foldl_put_rising : ∀ (l m : List ByteArray), Rising m → Rising (l.foldl putL m)
  | [], _, h => h
  | a :: l, _, h => foldl_put_rising l _ (putL_rising a _ h)
theorem foldl_put_len : ∀ (l m : List ByteArray), (l.foldl putL m).length ≤ m.length + l.length
  | [], _ => Nat.le_refl _
  | a :: l, m => by
    have h1 := foldl_put_len l (putL m a)
    have h2 := putL_length a m
    rw [List.foldl_cons]
    simp only [List.length_cons]
    omega
def sortedL (l : List ByteArray) : List ByteArray := l.foldl putL []
set_option maxRecDepth 100000 in
set_option maxHeartbeats 2000000 in
theorem sorted_any (w : World) (v : Value) (l : List ByteArray) (h : StrsAt w v l) (hl : l.length ≤ 1000000) :
    Calls Try.prog 11 #[v] w fun e w' => ∃ v', e = .returned v' ∧ StrsP w' v' (sortedL l) ∧ Below w.heap.size w w' := by
  obtain ⟨A, cap, rfl⟩ := strs_form h
  obtain ⟨n, hn⟩ : ∃ n, n = l.length := ⟨_, rfl⟩
  rw [← hn] at h hl ⊢
  have HO := Lib.hid (strs_open h)
  have HN := Lib.hid hn
  clear h hn
  go_enter Try.func11, Try.ntmps11
  go_wp2_with fail
  go_loopg [3, 4] n (fun gh x i wr => ∃ k : Nat, k + gh = n ∧ i = .int .i64 k ∧ Hid (StrsP wr x ((l.take k).foldl putL []) ∧ Below w.heap.size w wr))
  case atStart => exact ⟨0, by omega, rfl, Lib.hid ⟨.inl ⟨rfl, rfl⟩, Below.refl _ _⟩⟩
  case round =>
    obtain ⟨k, hk, rfl, HP⟩ := hrel
    rcases Nat.eq_zero_or_pos gk with h0 | h0
    · have d1 : ¬ (k : Int) < n := by omega
      have he : l.take k = l := List.take_of_length_le (by have := HN.out; omega)
      have HF := Lib.hid he
      clear he
      go_wp2_with fail
      go_ret
      refine ⟨_, rfl, ?_, HP.out.2⟩
      have := HP.out.1
      rwa [HF.out] at this
    · have d1 : (k : Int) < n := by omega
      obtain ⟨s, hs⟩ : ∃ s, l[k]? = some s := ⟨_, List.getElem?_eq_getElem (by have := HN.out; omega)⟩
      obtain ⟨b, off, rfl, hb, hnc, cx⟩ := HO.out k s hs
      have cx' := (HP.out.2.cell (p := ⟨b, off + k, none⟩) hb).trans cx
      have htk : l.take (k + 1) = l.take k ++ [s] := by rw [List.take_add_one, hs]; rfl
      have CP := Lib.hid (put13_any wr u3 _ s HP.out.1 (by
        have := foldl_put_len (l.take k) []
        rw [List.length_take] at this
        simp at this
        omega))
      have HT := Lib.hid htk
      clear hs htk cx
      go_wp2_with (go_at_call 30; refine CP.out.mono ?_; rintro e w2 ⟨v2, rfl, hp, hb2⟩; have HP2 := Lib.hid (And.intro hp hb2); clear hp hb2)
      go_roundg (gk - 1)
      case measure => omega
      case rel => exact ⟨k + 1, by omega, by go_num, Lib.hid ⟨by rw [HT.out, List.foldl_append]; exact HP2.out.1, HP.out.2.trans (HP2.out.2.mono HP.out.2.size)⟩⟩

/-! ### endings -/
/-- Endings as one text. -/
def txtB (V : List Bs) : Bs := V.flatMap fun x => x ++ [0]
def preB (h : Bs) (w : Bs) : Bool := decide (h.length ≤ w.length ∧ w.take h.length = h)
theorem ends_filter : ∀ (h : Bs) (l : List Bs), ends l h = l.filterMap fun w => if preB h w = true then some (w.drop h.length) else none
  | [], l => by
    have : (fun w : Bs => if preB [] w = true then some (w.drop ([] : Bs).length) else none) = some := by funext w; simp [preB]
    rw [this, List.filterMap_some]; rfl
  | c :: p, l => by
    show ends (tails c l) p = _
    rw [ends_filter p (tails c l)]
    unfold tails
    rw [List.filterMap_filterMap]
    congr 1
    funext w
    cases w with
    | nil => simp [tl1, preB]
    | cons b r =>
      simp only [tl1]
      by_cases hb : b = c
      · subst hb
        simp [preB]
      · have : preB (c :: p) (b :: r) = false := by
          unfold preB
          refine decide_eq_false fun hh => hb ?_
          have := hh.2
          simp at this
          exact this.1
        rw [if_neg hb, this]
        rfl
def endsT (m : List ByteArray) (h : ByteArray) : ByteArray := ⟨(txtB (ends (m.map (tailD 0)) h.data.toList)).toArray⟩
theorem tail0 (s : ByteArray) : tailD 0 s = s.data.toList := by unfold tailD; rfl
theorem ends_snoc (m : List ByteArray) (w : ByteArray) (h : Bs) : ends ((m ++ [w]).map (tailD 0)) h = ends (m.map (tailD 0)) h ++ (if preB h w.data.toList = true then [w.data.toList.drop h.length] else []) := by
  rw [ends_filter, ends_filter, List.map_append, List.filterMap_append]
  congr 1
  rw [List.map_cons, List.map_nil, tail0]
  by_cases hp : preB h w.data.toList = true
  · rw [if_pos hp]; simp [hp]
  · rw [if_neg hp]; simp [hp]
theorem txt_app (V W : List Bs) : txtB (V ++ W) = txtB V ++ txtB W := by unfold txtB; rw [List.flatMap_append]
theorem endsT_yes {m : List ByteArray} {w h : ByteArray} (hp : preB h.data.toList w.data.toList = true) (_hs : h.size ≤ w.size) : endsT (m ++ [w]) h = endsT m h ++ w.extract h.size w.size ++ ⟨#[0]⟩ := by
  unfold endsT
  rw [ends_snoc, if_pos hp, txt_app]
  apply ByteArray.ext
  apply Array.toList_inj.1
  simp [txtB]
  rw [List.take_of_length_le (by rw [List.length_drop, size_toList]; exact Nat.le_refl _)]
theorem endsT_no {m : List ByteArray} {w h : ByteArray} (hp : preB h.data.toList w.data.toList = false) : endsT (m ++ [w]) h = endsT m h := by
  unfold endsT
  rw [ends_snoc, if_neg (by rw [hp]; decide), List.append_nil]
theorem endsT_size (m : List ByteArray) (h : ByteArray) (hz : ∀ s ∈ m, s.size ≤ 1000) : (endsT m h).size ≤ m.length * 1001 := by
  obtain ⟨C, hC⟩ : ∃ C, C = 1001 := ⟨_, rfl⟩
  have key : ∀ l : List ByteArray, (∀ s ∈ l, s.size ≤ 1000) → (txtB (ends (l.map (tailD 0)) h.data.toList)).length ≤ l.length * C := by
    intro l hl
    rw [ends_filter]
    induction l with
    | nil => exact Nat.zero_le _
    | cons x l ih =>
      have h1 := ih fun s hs => hl s (List.mem_cons_of_mem _ hs)
      have h2 := hl x (List.mem_cons_self ..)
      have h3 := size_toList x
      rw [List.map_cons, List.filterMap_cons]
      split
      · rw [List.length_cons, Nat.add_mul]; omega
      · rename_i y hy
        have hyl : y.length ≤ x.size := by
          split at hy
          · cases hy; rw [List.length_drop, tail0]; omega
          · cases hy
        show (txtB (y :: _)).length ≤ _
        unfold txtB at h1 ⊢
        rw [List.flatMap_cons, List.length_append, List.length_append]
        rw [List.length_cons (a := x), Nat.add_mul]
        simp only [List.length_cons, List.length_nil]
        omega
  have h1 := key m hz
  rw [hC] at h1
  show (txtB _).toArray.size ≤ _
  simpa using h1

set_option maxRecDepth 100000 in
set_option maxHeartbeats 2000000 in
theorem endings_any (w : World) (v : Value) (l : List ByteArray) (h : ByteArray) (hv : StrsAt w v l) (hl : l.length ≤ 1000) (hz : ∀ s ∈ l, s.size ≤ 1000) (hh : h.size ≤ 1000) :
    Calls Try.prog 32 #[v, .string h] w fun e w' => e = .returned (.string (endsT l h)) ∧ w' = w := by
  obtain ⟨A, cap, rfl⟩ := strs_form hv
  obtain ⟨n, hn⟩ : ∃ n, n = l.length := ⟨_, rfl⟩
  rw [← hn] at hv hl ⊢
  obtain ⟨RES, hRES⟩ : ∃ r, r = endsT l h := ⟨_, rfl⟩
  rw [← hRES]
  have HO := Lib.hid (strs_open hv)
  have HN := Lib.hid (And.intro hn (And.intro hz hRES))
  clear hv hn hz hRES
  go_enter Try.func32, Try.ntmps32
  go_wp2_with fail
  go_loopg [5, 6] n (fun gh x i wr => ∃ (k : Nat) (S : ByteArray), k + gh = n ∧ x = .string S ∧ i = .int .i64 k ∧ wr = w ∧ S.size ≤ 1001000 ∧ Hid (S = endsT (l.take k) h))
  case atStart => exact ⟨0, ⟨#[]⟩, by omega, rfl, rfl, rfl, by decide, Lib.hid (by simp [endsT, ends_filter, txtB])⟩
  case round =>
    obtain ⟨k, S, hk, rfl, rfl, rfl, hS, HP⟩ := hrel
    rcases Nat.eq_zero_or_pos gk with h0 | h0
    · have d1 : ¬ (k : Int) < n := by omega
      have he : RES = S := by rw [HN.out.2.2, HP.out, List.take_of_length_le (by have := HN.out.1; omega)]
      subst he
      go_wp2_with fail
      go_ret
      exact ⟨rfl, rfl⟩
    · have d1 : (k : Int) < n := by omega
      obtain ⟨s, hs⟩ : ∃ s, l[k]? = some s := ⟨_, List.getElem?_eq_getElem (by have := HN.out.1; omega)⟩
      obtain ⟨b, off, rfl, hb, hnc, cx⟩ := HO.out k s hs
      have htk : l.take (k + 1) = l.take k ++ [s] := by rw [List.take_add_one, hs]; rfl
      have hs1 := HN.out.2.1 s (List.mem_of_getElem? hs)
      have hsz := endsT_size (l.take (k + 1)) h fun x hx => HN.out.2.1 x (List.mem_of_mem_take hx)
      have hsz2 : (l.take (k + 1)).length ≤ 1000 := by rw [List.length_take]; omega
      by_cases hle : h.size ≤ s.size
      · have d2 : (h.size : Int) ≤ s.size := by omega
        have hpx : preB h.data.toList s.data.toList = decide (s.extract 0 h.size = h) := by
          unfold preB
          refine decide_eq_decide.2 ⟨fun hp => ?_, fun hp => ?_⟩
          · apply ByteArray.ext
            apply Array.toList_inj.1
            have := hp.2
            rw [size_toList] at this
            simpa using this
          · refine ⟨by rw [size_toList, size_toList]; exact hle, ?_⟩
            rw [size_toList]
            have := congrArg (fun x : ByteArray => x.data.toList) hp
            simpa using this
        by_cases hp : s.extract 0 h.size = h
        · have e1 := endsT_yes (m := l.take k) (hpx.trans (decide_eq_true hp)) hle
          rw [← htk, ← HP.out] at e1
          have d3 : ((s.extract 0 h.size).toList == h.toList) = true := by rw [eq_eq]; exact decide_eq_true hp
          have e2 : (S ++ s.extract h.size s.size ++ ⟨#[0]⟩).size ≤ 1001000 := by rw [← e1]; omega
          have hes : (s.extract h.size s.size).size = s.size - h.size := by rw [ByteArray.size_extract]; omega
          have HE := Lib.hid (And.intro e1 e2)
          have f1 : ¬ 9223372036854775807 < S.size + (s.size - h.size) := by omega
          have f2 : ¬ 9223372036854775807 < S.size + (s.extract h.size s.size).size := by omega
          have f3 : ¬ 9223372036854775807 < (S ++ s.extract h.size s.size).size + 1 := by rw [ByteArray.size_append]; omega
          have f4 : ¬ 9223372036854775807 < S.size + (s.size - h.size) + 1 := by omega
          clear htk hs hs1 hsz hsz2 hpx hp e1 e2 hes
          go_wp2_with fail
          go_roundg (gk - 1)
          case measure => omega
          case rel => exact ⟨k + 1, _, by omega, rfl, by go_num, rfl, HE.out.2, Lib.hid HE.out.1.symm⟩
        · have e1 := endsT_no (m := l.take k) (hpx.trans (decide_eq_false hp))
          rw [← htk, ← HP.out] at e1
          have d3 : ((s.extract 0 h.size).toList == h.toList) = false := by rw [eq_eq]; exact decide_eq_false hp
          have HE := Lib.hid e1
          clear htk hs hs1 hsz hsz2 hpx hp e1
          go_wp2_with fail
          go_roundg (gk - 1)
          case measure => omega
          case rel => exact ⟨k + 1, S, by omega, rfl, by go_num, rfl, hS, Lib.hid HE.out.symm⟩
      · have d2 : ¬ (h.size : Int) ≤ s.size := by omega
        have hpx : preB h.data.toList s.data.toList = false := by
          unfold preB
          exact decide_eq_false fun hp => hle (by have := hp.1; rwa [size_toList, size_toList] at this)
        have e1 := endsT_no (m := l.take k) hpx
        rw [← htk, ← HP.out] at e1
        have HE := Lib.hid e1
        clear htk hs hs1 hsz hsz2 hpx e1 hle
        go_wp2_with fail
        go_roundg (gk - 1)
        case measure => omega
        case rel => exact ⟨k + 1, S, by omega, rfl, by go_num, rfl, hS, Lib.hid HE.out.symm⟩
end Go.Proofs.Ytkabdieenijnlaa
