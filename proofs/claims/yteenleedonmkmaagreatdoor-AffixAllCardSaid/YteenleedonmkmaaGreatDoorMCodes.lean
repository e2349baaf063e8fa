/- The small callees of the rune laws: Place, ValidRune, RuneLen, HasPrefix, Bytes. -/
import Derived.Test.YteenleedonmkmaaGreatDoorProg
import Derived.WalkKit
import Derived.WalkSpells
import Derived.WalkLawsBesides
import Derived.Lib.Hide
import Derived.IntWalk
import Derived.BigQuiet
import Derived.Deep.QuietTactic
import Derived.Test.YteenleedonmkmaaGreatDoorMPlain
import Derived.Test.YteenleedonmkmaaGreatDoorShelf
import Derived.Lib.OthersKept
namespace Go.Proofs.YteenleedonmkmaaGreatDoor
section
open Go Go.RowKit

theorem tmod_facts (v n : Int) (hn : 0 < n) : (v.tmod n < 0 → v % n = v.tmod n + n) ∧ (0 ≤ v.tmod n → v % n = v.tmod n) ∧ -n < v.tmod n ∧ v.tmod n < n := by
  have h1 := Int.emod_nonneg v (show n ≠ 0 by omega)
  have h2 := Int.emod_lt_of_pos v hn
  have ht : v.tmod n = if 0 ≤ v then v % n else if v % n = 0 then 0 else v % n - n := by
    rw [Int.tmod_eq_emod]
    have hd : (n ∣ v) ↔ v % n = 0 := Int.dvd_iff_emod_eq_zero
    by_cases h0 : 0 ≤ v
    · simp [h0]
    · by_cases hz : v % n = 0
      · simp [h0, hd, hz]
      · have : (n.natAbs : Int) = n := by omega
        simp [h0, hd, hz, this]
  by_cases h0 : 0 ≤ v
  · have h : v.tmod n = v % n := by rw [ht, if_pos h0]
    omega
  · by_cases hz : v % n = 0
    · have h : v.tmod n = 0 := by rw [ht, if_neg h0, if_pos hz]
      omega
    · have h : v.tmod n = v % n - n := by rw [ht, if_neg h0, if_neg hz]
      omega

theorem ret_int {k : IntKind} {a b : Int} (h : a = b) : Ending.returned (.int k a) = .returned (.int k b) := by rw [h]

set_option maxHeartbeats 400000 in
theorem validRune_any (r : Int) (w : World) :
    Calls Tryz.prog 43 #[.int .i32 r] w fun e w' => e = .returned (.bool (Utf8.valid r)) ∧ w = w' := by
  by_cases h1 : r < 55296
  · by_cases h0 : 0 ≤ r
    · have hv : Utf8.valid r = true := by simp [Utf8.valid]; omega
      rw [hv]; clear hv
      go_enter Tryz.func43, Tryz.ntmps43
      go_wp2
      all_goals go_ret
      all_goals exact ⟨rfl, rfl⟩
    · have hv : Utf8.valid r = false := by simp [Utf8.valid]; omega
      rw [hv]; clear hv
      go_enter Tryz.func43, Tryz.ntmps43
      go_wp2
      all_goals go_ret
      all_goals exact ⟨rfl, rfl⟩
  · by_cases h2 : 57343 < r
    · by_cases h3 : r ≤ 1114111
      · have hv : Utf8.valid r = true := by simp [Utf8.valid]; omega
        rw [hv]; clear hv
        go_enter Tryz.func43, Tryz.ntmps43
        go_wp2
        all_goals go_ret
        all_goals exact ⟨rfl, rfl⟩
      · have hv : Utf8.valid r = false := by simp [Utf8.valid]; omega
        rw [hv]; clear hv
        go_enter Tryz.func43, Tryz.ntmps43
        go_wp2
        all_goals go_ret
        all_goals exact ⟨rfl, rfl⟩
    · have hv : Utf8.valid r = false := by simp [Utf8.valid]; omega
      rw [hv]; clear hv
      go_enter Tryz.func43, Tryz.ntmps43
      go_wp2
      all_goals go_ret
      all_goals exact ⟨rfl, rfl⟩

/-- runes.Bytes. -/
def bytesOf (c : Int) : ByteArray := if Utf8.valid c then Utf8.encode c else ⟨#[]⟩

set_option maxHeartbeats 400000 in
theorem bytes_any (c : Int) (w : World) :
    Calls Tryz.prog 20 #[.int .i64 c] w fun e w' => e = .returned (.string (bytesOf c)) ∧ w = w' := by
  by_cases h0 : c < 0
  · have hv : bytesOf c = ⟨#[]⟩ := by simp [bytesOf, Utf8.valid]; omega
    rw [hv]; clear hv
    go_enter Tryz.func20, Tryz.ntmps20
    go_wp2_with (fail)
    go_ret
    exact ⟨rfl, rfl⟩
  · by_cases h1 : c > 1114111
    · have hv : bytesOf c = ⟨#[]⟩ := by simp [bytesOf, Utf8.valid]; omega
      rw [hv]; clear hv
      go_enter Tryz.func20, Tryz.ntmps20
      go_wp2_with (fail)
      go_ret
      exact ⟨rfl, rfl⟩
    · have hw : IntKind.i32.wrap c = c := Go.IntWalk.i32_in c (by omega)
      cases hv : Utf8.valid c
      · have hb : bytesOf c = ⟨#[]⟩ := by simp [bytesOf, hv]
        rw [hb]
        go_enter Tryz.func20, Tryz.ntmps20
        go_wp2_with (go_at_call 43; refine (validRune_any _ _).mono ?_; rintro e w' ⟨rfl, rfl⟩)
        go_ret
        exact ⟨rfl, rfl⟩
      · have hb : bytesOf c = Utf8.encode c := by simp [bytesOf, hv]
        rw [hb]
        go_enter Tryz.func20, Tryz.ntmps20
        go_wp2_with (go_at_call 43; refine (validRune_any _ _).mono ?_; rintro e w' ⟨rfl, rfl⟩)
        go_ret
        exact ⟨rfl, rfl⟩
end
section
open Go Go.RowKit Go.Lib

theorem decode_mark (d : List UInt8) (hne : d ≠ []) (h : (decodeL d).1 = 65533) :
    ((decodeL d).2 = 3 ∧ d.take 3 = [239, 191, 189]) ∨ ((decodeL d).2 = 1 ∧ d.take 3 ≠ [239, 191, 189]) := by
  have hl : 0 < d.length := List.length_pos_iff.2 hne
  have k0 := (d.getD 0 0).toNat_lt
  have k1 := (d.getD 1 0).toNat_lt
  have k2 := (d.getD 2 0).toNat_lt
  have k3 := (d.getD 3 0).toNat_lt
  rw [decodeL_N] at h ⊢
  have hN : d.take 3 = [239, 191, 189] → decodeN d.length (d.getD 0 0).toNat (d.getD 1 0).toNat (d.getD 2 0).toNat (d.getD 3 0).toNat = (65533, 3) := by
    intro ht
    have hlen : 3 ≤ d.length := by
      have := congrArg List.length ht
      simp at this; omega
    rw [takeC d (by omega)] at ht
    simp only [List.cons.injEq, and_true] at ht
    rw [ht.1, ht.2.1, ht.2.2]
    have h1 : 1 < d.length := by omega
    have h2 : 2 < d.length := by omega
    simp [decodeN, h1, h2]
  rcases decodeN_shape d.length (d.getD 0 0).toNat (d.getD 1 0).toNat (d.getD 2 0).toNat (d.getD 3 0).toNat with ⟨c, e⟩ | ⟨c1, c2, c3, cv, e⟩ | ⟨c1, c2, c3, c4, cv, cs, e⟩ | ⟨c1, c2, c3, c4, c5, cv, cw, e⟩ | e
  · rw [e] at h; dsimp only at h; omega
  · rw [e] at h; dsimp only at h; omega
  · left
    rw [e] at h ⊢
    dsimp only at h ⊢
    refine ⟨rfl, ?_⟩
    have e0 : d.getD 0 0 = 239 := UInt8.toNat_inj.1 (by show _ = 239; omega)
    have e1 : d.getD 1 0 = 191 := UInt8.toNat_inj.1 (by show _ = 191; omega)
    have e2 : d.getD 2 0 = 189 := UInt8.toNat_inj.1 (by show _ = 189; omega)
    rw [takeC d c2, e0, e1, e2]
  · rw [e] at h; dsimp only at h; omega
  · right
    rw [e]
    refine ⟨rfl, fun ht => ?_⟩
    rw [hN ht] at e
    simp at e

def uVal (at_ : Nat) (d : List UInt8) : Value := .agg #[.int .i64 at_, .int .i64 (decodeL d).2, .int .i64 (uCode d)]

theorem getD_drop_at (s : ByteArray) (p : Nat) (hp : p < s.size) : (s.data.toList.drop p).getD 0 0 = s[p] := by
  have h : p < s.data.toList.length := by rw [← Lib.size_eq]; exact hp
  rw [List.getD, List.getElem?_drop, Nat.add_zero, List.getElem?_eq_getElem h]
  rfl
end
section
open Go Go.RowKit Go.Lib

def uCells (u : Nat × Nat × Int) : List Value := [.int .i64 u.1, .int .i64 u.2.1, .int .i64 u.2.2]

theorem own_below {w w' : World} {B e size n : Nat} {v : Value} {xs : List Value} (h : w.ownsRow B e size v n xs) (hb : Below w.heap.size w w') : w'.ownsRow B e size v n xs := by
  refine ⟨h.1, ?_⟩
  rcases h.2 with hn | ⟨g, cap, cur, rfl, hg, hgg, rest⟩
  · exact .inl hn
  · exact .inr ⟨g, cap, cur, rfl, hg, by rw [hb.block g (Array.getElem?_eq_some_iff.1 hgg).1]; exact hgg, rest⟩

theorem own_iter {w : World} {B e size n K : Nat} {v : Value} {xs : List Value} {s : ByteArray} {pos : Nat} (h : w.ownsRow B e size v n xs) (hk : w.heap[K]? = some (.stringIter s pos)) (pos' : Nat) : (w.iterAt K s pos').ownsRow B e size v n xs := by
  refine ⟨h.1, ?_⟩
  rcases h.2 with hn | ⟨g, cap, cur, rfl, hg, hgg, rest⟩
  · exact .inl hn
  · refine .inr ⟨g, cap, cur, rfl, hg, ?_, rest⟩
    rw [iterAt_other _ _ _ _ _ (by intro e; subst e; rw [hk] at hgg; cases hgg)]
    exact hgg

theorem own_not_iter {w : World} {B e size n K : Nat} {v : Value} {xs : List Value} {s : ByteArray} {pos : Nat} (h : w.ownsRow B e size v n xs) (hk : w.heap[K]? = some (.stringIter s pos)) : some K ≠ v.ownBlock := by
  rcases h.2 with ⟨rfl, _⟩ | ⟨g, cap, cur, rfl, hg, hgg, rest⟩
  · simp [Value.ownBlock]
  · simp only [Value.ownBlock]
    intro e
    obtain rfl : K = g := Option.some.inj e
    rw [hk] at hgg; cases hgg

theorem cells_new (w : World) (cs : List Value) (t : TypeId) : ∀ j u, cs[j]? = some u → (w.alloc (.cells cs.toArray t)).cell? ((⟨w.heap.size, 0, none⟩ : Addr).add j) = some u := by
  intro j u hu
  have hadd : (⟨w.heap.size, 0, none⟩ : Addr).add j = ⟨w.heap.size, j, none⟩ := by unfold Addr.add; split <;> simp_all
  rw [hadd, cell_of_row _ w.heap.size j cs.toArray t (0, 0) (heap_alloc_new w _)]
  simpa using hu
theorem uCells_one (u : Nat × Nat × Int) : ∀ x ∈ uCells u, x.oneCell' = true := by
  intro x hx
  simp only [uCells, List.mem_cons, List.mem_nil_iff, or_false] at hx
  rcases hx with rfl | rfl | rfl <;> rfl

theorem count_any (s : ByteArray) (w : World) (hs : s.size ≤ 1000000000000) :
    Calls Tryz.prog 77 #[.string s] w fun e w' => e = .returned (.int .i64 (Lib.runeCount s)) ∧ Below w.heap.size w w' :=
  (Tryz.utf8_RuneCountInString s w (by omega)).mono fun e w' ⟨he, pos, hw⟩ => ⟨he, by subst hw; exact (Below.refl _ _).alloc (Nat.le_refl _) _⟩

theorem Tryz.info100 : (Tryz.prog.info? 100).map (fun i => (i.zero, i.size, i.bytes)) = some (some (.agg #[.int .i64 0, .int .i64 0, .int .i64 0]), 3, 24) := by kernel_rfl

/-- What holds at the head of each round of All: the units so far lie in a row of its own. -/
def AllInv (s : ByteArray) (w : World) (B K : Nat) (v : Value) (wr : World) (pos : Nat) (us : List (Nat × Nat × Int)) : Prop :=
  pos ≤ s.size ∧ wr.heap[K]? = some (.stringIter s pos) ∧ units 0 s.data.toList = us ++ units pos (s.data.toList.drop pos) ∧ us.length ≤ pos ∧ wr.ownsRow B 100 3 v us.length (us.flatMap uCells) ∧ Below B w wr ∧ B ≤ K

theorem AllInv.step {s : ByteArray} {w : World} {B K : Nat} {v : Value} {wr : World} {pos : Nat} {us : List (Nat × Nat × Int)} (h : AllInv s w B K v wr pos us) (hp : pos < s.size) {N : Nat} {C : Int}
    (hN : N = (decodeL (s.data.toList.drop pos)).2) (hC : C = uCode (s.data.toList.drop pos)) {w2 : World} (hb : Below (wr.iterAt K s (pos + N)).heap.size (wr.iterAt K s (pos + N)) w2) {v' : Value} {w4 : World} {o : Obj}
    (hown : w4.ownsRow B 100 3 v' (us.length + 1) (us.flatMap uCells ++ [.int .i64 pos, .int .i64 N, .int .i64 C])) (hg : (w2.alloc o).grownBy w4 v.ownBlock) : AllInv s w B K v' w4 (pos + N) (us ++ [(pos, N, C)]) := by
  obtain ⟨h1, h2, h3, h4, h5, h6, h7⟩ := h
  have hne : s.data.toList.drop pos ≠ [] := by
    intro h0
    have := congrArg List.length h0
    rw [List.length_drop, ← Lib.size_eq] at this
    simp at this; omega
  have hle := decodeL_le _ hne
  have hw := decodeL_width (s.data.toList.drop pos)
  rw [List.length_drop, ← Lib.size_eq] at hle
  have hKlt : K < wr.heap.size := (Array.getElem?_eq_some_iff.1 h2).1
  have hK1 : (wr.iterAt K s (pos + N)).heap[K]? = some (.stringIter s (pos + N)) := iterAt_heap wr K s pos (pos + N) h2
  have hsz : (wr.iterAt K s (pos + N)).heap.size = wr.heap.size := iterAt_size _ _ _ _
  have hbw := h6.size
  refine ⟨by omega, ?_, ?_, by simp; omega, ?_, ?_, h7⟩
  · rw [hg.block K (by have := hb.size; rw [hsz] at this; simp; omega) (own_not_iter h5 h2), Below.heap_alloc _ _ _ (by have := hb.size; rw [hsz] at this; omega), hb.block K (by omega)]
    exact hK1
  · rw [h3, units_step pos _ hne, ← hN, ← hC, List.drop_drop]
    simp
  · have : (us ++ [(pos, N, C)]).flatMap uCells = us.flatMap uCells ++ [.int .i64 pos, .int .i64 N, .int .i64 C] := by simp [uCells]
    rw [this]
    simpa using hown
  · have hB : B ≤ (wr.iterAt K s (pos + N)).heap.size := by omega
    have b1 : Below B w (wr.iterAt K s (pos + N)) := below_iterAt h6 h7 s _
    have b2 := b1.trans (hb.mono hB)
    exact (b2.alloc (by have := hb.size; omega) o).grown hg (by have := hb.size; simp; omega) (fun k hk => (h5.lt k hk).1)
end
section
open Go Go.RowKit Go.Lib

def codesL (l : List UInt8) : List Int := if validD l then (units 0 l).map (·.2.2) else []

theorem Tryz.info3 : (Tryz.prog.info? 3).map (fun i => (i.zero, i.size, i.bytes)) = some (some (.int .i64 0), 1, 8) := by kernel_rfl

def CodInv (s : ByteArray) (w : World) (B K : Nat) (v : Value) (wr : World) (pos : Nat) (us : List (Nat × Nat × Int)) : Prop :=
  pos ≤ s.size ∧ wr.heap[K]? = some (.stringIter s pos) ∧ units 0 s.data.toList = us ++ units pos (s.data.toList.drop pos) ∧ us.length ≤ pos ∧ wr.ownsRow B 3 1 v us.length (us.map fun u => .int .i64 u.2.2) ∧ Below B w wr ∧ B ≤ K

theorem CodInv.step {s : ByteArray} {w : World} {B K : Nat} {v : Value} {wr : World} {pos : Nat} {us : List (Nat × Nat × Int)} (h : CodInv s w B K v wr pos us) (hp : pos < s.size) {N : Nat} {C : Int}
    (hN : N = (decodeL (s.data.toList.drop pos)).2) (hC : C = uCode (s.data.toList.drop pos)) {v' : Value} {w4 : World} {o : Obj}
    (hown : w4.ownsRow B 3 1 v' (us.length + 1) ((us.map fun u => .int .i64 u.2.2) ++ [.int .i64 C])) (hg : ((wr.iterAt K s (pos + N)).alloc o).grownBy w4 v.ownBlock) : CodInv s w B K v' w4 (pos + N) (us ++ [(pos, N, C)]) := by
  obtain ⟨h1, h2, h3, h4, h5, h6, h7⟩ := h
  have hne : s.data.toList.drop pos ≠ [] := by
    intro h0
    have := congrArg List.length h0
    rw [List.length_drop, ← Lib.size_eq] at this
    simp at this; omega
  have hle := decodeL_le _ hne
  have hw := decodeL_width (s.data.toList.drop pos)
  rw [List.length_drop, ← Lib.size_eq] at hle
  have hKlt : K < wr.heap.size := (Array.getElem?_eq_some_iff.1 h2).1
  have hK1 : (wr.iterAt K s (pos + N)).heap[K]? = some (.stringIter s (pos + N)) := iterAt_heap wr K s pos (pos + N) h2
  have hsz : (wr.iterAt K s (pos + N)).heap.size = wr.heap.size := iterAt_size _ _ _ _
  have hbw := h6.size
  refine ⟨by omega, ?_, ?_, by simp; omega, ?_, ?_, h7⟩
  · rw [hg.block K (by simp; omega) (own_not_iter h5 h2), Below.heap_alloc _ _ _ (by omega)]
    exact hK1
  · rw [h3, units_step pos _ hne, ← hN, ← hC, List.drop_drop]
    simp
  · simpa using hown
  · have b1 : Below B w (wr.iterAt K s (pos + N)) := below_iterAt h6 h7 s _
    exact (b1.alloc (by omega) o).grown hg (by simp; omega) (fun k hk => (h5.lt k hk).1)

theorem units_valid (l : List UInt8) (hv : validD l = true) : ∀ p us t, units 0 l = us ++ units p t → t ≠ [] → uBad t = false := by
  intro p us t h hne
  rw [validD_units l 0, h, units_step p t hne, List.all_append] at hv
  have hh : 0 ≤ uCode t := by
    have := (Bool.and_eq_true_iff.1 hv).2
    rw [List.all_cons, Bool.and_eq_true_iff] at this
    simpa using this.1
  cases hb : uBad t
  · rfl
  · simp [uCode, hb] at hh; omega

set_option maxHeartbeats 1000000 in
theorem codes_yes (s : ByteArray) (w : World) (hs : s.size ≤ 1000000000000) (hT : Lib.Utf8Tabs 1 2 w) (hv : validD s.data.toList = true) :
    Calls Tryz.prog 56 #[.string s] w fun e w' => ∃ v, e = .returned (.tuple #[v, .bool true]) ∧ w'.ownsRow w.heap.size 3 1 v (units 0 s.data.toList).length ((units 0 s.data.toList).map fun u => .int .i64 u.2.2) ∧ Below w.heap.size w w' := by
  obtain ⟨i0, hi, hz0, hz1, hz2⟩ := info_parts Tryz.info3
  have hrc := Lib.runeCount_le s
  have cV : ∀ wx, Lib.Utf8Tabs 1 2 wx → Calls Tryz.prog 76 #[.string s] wx fun e w' => e = .returned (.bool true) ∧ Below wx.heap.size wx w' := by
    intro wx ht
    have := Tryz.utf8_ValidString s wx (by omega) ht
    rwa [hv] at this
  have CV := Lib.hid cV
  have HT := Lib.hid hT
  have HV := Lib.hid hv
  clear cV hT hv
  go_enter Tryz.func56, Tryz.ntmps56
  go_wp2_with (first
    | (go_at_call 76; refine (CV.out _ HT.out).mono ?_; rintro e w0 ⟨rfl, hb0⟩)
    | (go_at_call 77; refine (count_any s _ hs).mono ?_; rintro e w1 ⟨rfl, hb1⟩)
    | (at_make; refine wpList_make_own _ rfl _ _ 37 rfl w.heap.size 3 i0 (.int .i64 0) 1 Tryz.underlying37 hi hz0 hz1 .i64 .i64 _ (Lib.runeCount s) rfl rfl rfl (by rw [hz2]; omega) (by unfold maxLen; omega) (by have := hb1.size; have := hb0.size; omega) ?_; intro w2 hown2 hgrow2))
  have hb01 : Below w.heap.size w w1 := hb0.trans (hb1.mono hb0.size)
  have hb2 : Below w.heap.size w w2 := (hb01.trans ((Below.refl _ _).grown hgrow2 hb01.size (fun k hk => by cases hk)))
  clear hgrow2 hb0 hb1
  generalize Value.slice (some ⟨w1.heap.size, 0, none⟩) 0 (Lib.runeCount s) = v0 at hown2 ⊢
  have hinv0 : CodInv s w w.heap.size w2.heap.size v0 (w2.iter s 0) 0 [] :=
    ⟨Nat.zero_le _, World.iter_heap _ _ _, by simp, Nat.le_refl _, hown2.alloc (.stringIter s 0), hb2.alloc hb2.size _, hb2.size⟩
  clear hown2
  have hsz2 := hb2.size
  obtain ⟨K, hK⟩ : ∃ K, K = w2.heap.size := ⟨_, rfl⟩
  rw [← hK] at hinv0 ⊢
  go_loopw [4] (fun v wr => ∃ (pos : Nat) (us : List (Nat × Nat × Int)), CodInv s w w.heap.size K v wr pos us) (fun _ wr => s.size - wr.iterPos K)
  case atStart => exact ⟨0, [], hinv0⟩
  case round =>
    obtain ⟨pos, us, hinv⟩ := hrel
    have hit := hinv.2.1
    have hpl := hinv.1
    have hul := hinv.2.2.2.1
    have hipos : wr.iterPos K = pos := by simp [World.iterPos, hit]
    have HIT := Lib.hid hit
    have HI := Lib.hid hinv
    have HP := Lib.hid hipos
    clear hit hinv hinv0 hipos hK
    by_cases hp : pos < s.size
    · have hne : s.data.toList.drop pos ≠ [] := by
        intro h0
        have := congrArg List.length h0
        rw [List.length_drop, ← Lib.size_eq] at this
        simp at this; omega
      have hbad := units_valid _ HV.out _ _ _ HI.out.2.2.1 hne
      have hcl := decodeL_rune (s.data.toList.drop pos)
      obtain ⟨c, hc⟩ : ∃ c, c = (decodeL (s.data.toList.drop pos)).1 := ⟨_, rfl⟩
      obtain ⟨N, hN⟩ : ∃ N, N = (decodeL (s.data.toList.drop pos)).2 := ⟨_, rfl⟩
      have hC : (c : Int) = uCode (s.data.toList.drop pos) := by simp [uCode, hbad, hc]
      rw [← hc] at hcl
      have hnx : ∀ ty, (Instr.next (.pointer (some ⟨K, 0, none⟩)) true ty).run Tryz.prog wr = .ok (.tuple #[.bool true, .int .i64 pos, .int .i32 c]) (wr.iterAt K s (pos + N)) := by
        intro ty
        rw [run_next_any_at wr K s pos ty HIT.out hp, hc, hN, decodeL_drop]
      have HN := Lib.hid hN
      have HC := Lib.hid hC
      clear hc hN hC hbad
      have hsz3 := iterAt_size wr K s (pos + N)
      have hbwr := HI.out.2.2.2.2.2.1.size
      have HS := Lib.hid hsz3
      clear hsz3
      go_wp2_with (first
        | (at_builtin; refine wpList_append_own _ rfl _ _ 37 rfl w.heap.size 3 i0 (.int .i64 0) 1 8 Tryz.underlying37 hi hz0 hz1 hz2 rfl (by decide) _ _ _ rfl ((own_iter HI.out.2.2.2.2.1 HIT.out _).alloc _) ⟨(wr.iterAt K s (pos + N)).heap.size, 0, none⟩ 1 1 [.int .i64 c] rfl rfl (cells_new _ _ _) (ints_oneCell .i64 [(c : Int)]) (by unfold maxLen; omega) (by omega) (by have := HS.out; simp; omega) ?_; intro v' w4 hown4 hgrow4 _))
      have hst := Lib.hid (HI.out.step hp HN.out HC.out hown4 hgrow4)
      clear hown4 hgrow4
      go_roundw
      case rel => exact ⟨pos + N, _, hst.out⟩
      case measure =>
        have h1 := hst.out.2.1
        have h2 : w4.iterPos K = pos + N := by simp [World.iterPos, h1]
        have h3 := decodeL_width (s.data.toList.drop pos)
        rw [← HN.out] at h3
        rw [h2, HP.out]
        omega
    · have hnx : ∀ ty, (Instr.next (.pointer (some ⟨K, 0, none⟩)) true ty).run Tryz.prog wr = .ok (.tuple #[.bool false]) wr := fun ty => run_next_end_at wr K s pos ty HIT.out hp
      go_wp2
      go_ret2
      obtain ⟨h1, h2, h3, h4, h5, h6, h7⟩ := HI.out
      have h0 : s.data.toList.drop pos = [] := List.drop_eq_nil_of_le (by rw [← Lib.size_eq]; omega)
      rw [h0, units_nil, List.append_nil] at h3
      exact ⟨_, rfl, by rw [h3]; exact h5, h6⟩

set_option maxHeartbeats 400000 in
theorem codes_no (s : ByteArray) (w : World) (hs : s.size ≤ 1000000000000) (hT : Lib.Utf8Tabs 1 2 w) (hv : validD s.data.toList = false) :
    Calls Tryz.prog 56 #[.string s] w fun e w' => e = .returned (.tuple #[.slice none 0 0, .bool false]) ∧ Below w.heap.size w w' := by
  have cV : ∀ wx, Lib.Utf8Tabs 1 2 wx → Calls Tryz.prog 76 #[.string s] wx fun e w' => e = .returned (.bool false) ∧ Below wx.heap.size wx w' := by
    intro wx ht
    have := Tryz.utf8_ValidString s wx (by omega) ht
    rwa [hv] at this
  have CV := Lib.hid cV
  have HT := Lib.hid hT
  clear cV hT hv
  go_enter Tryz.func56, Tryz.ntmps56
  go_wp2_with (first
    | (go_at_call 76; refine (CV.out _ HT.out).mono ?_; rintro e w0 ⟨rfl, hb0⟩))
  go_ret2
  exact ⟨rfl, hb0⟩

theorem tabs_below {w w' : World} (h : Lib.Utf8Tabs 1 2 w) (hb : Below w.heap.size w w') : Lib.Utf8Tabs 1 2 w' := by
  have h0 : 1 < w.heap.size := World.block_lt_of_cell? _ _ (h.1 0 (by omega))
  have h1 : 2 < w.heap.size := World.block_lt_of_cell? _ _ (h.2 0 (by omega)).1
  exact ⟨fun c hc => (hb.cell (p := ⟨1, c, none⟩) h0).trans (h.1 c hc), fun i hi => ⟨(hb.cell (p := ⟨2, 2 * i, none⟩) h1).trans (h.2 i hi).1, (hb.cell (p := ⟨2, 2 * i + 1, none⟩) h1).trans (h.2 i hi).2⟩⟩

/-- A box of three cells that the call has laid, as it reads and may be written later. -/
theorem box3 {w w' : World} {a b c : Value} {t : TypeId} (hb : Below (w.alloc (.cells #[a, b, c] t)).heap.size (w.alloc (.cells #[a, b, c] t)) w') :
    (w'.cell? ⟨w.heap.size, 0, none⟩ = some a ∧ w'.cell? ⟨w.heap.size, 1, none⟩ = some b ∧ w'.cell? ⟨w.heap.size, 2, none⟩ = some c) ∧
    (w'.frozen? ⟨w.heap.size, 0, none⟩ = false ∧ w'.frozen? ⟨w.heap.size, 1, none⟩ = false ∧ w'.frozen? ⟨w.heap.size, 2, none⟩ = false) := by
  have hl : w.heap.size < (w.alloc (.cells #[a, b, c] t)).heap.size := by simp
  refine ⟨⟨(hb.cell (p := ⟨w.heap.size, 0, none⟩) hl).trans (by simp), (hb.cell (p := ⟨w.heap.size, 1, none⟩) hl).trans (by simp), (hb.cell (p := ⟨w.heap.size, 2, none⟩) hl).trans (by simp)⟩,
    ⟨(hb.frozen (p := ⟨w.heap.size, 0, none⟩) hl).trans (by simp), (hb.frozen (p := ⟨w.heap.size, 1, none⟩) hl).trans (by simp), (hb.frozen (p := ⟨w.heap.size, 2, none⟩) hl).trans (by simp)⟩⟩

/-- runes.Codes. -/
theorem codes_any (s : ByteArray) (w : World) (hs : s.size ≤ 1000000000000) (hT : Lib.Utf8Tabs 1 2 w) :
    Calls Tryz.prog 56 #[.string s] w fun e w' => ∃ v, e = .returned (.tuple #[v, .bool (validD s.data.toList)]) ∧ w'.ownsRow w.heap.size 3 1 v (codesL s.data.toList).length ((codesL s.data.toList).map (Value.int .i64)) ∧ Below w.heap.size w w' := by
  cases hv : validD s.data.toList
  · refine (codes_no s w hs hT hv).mono fun e w' ⟨he, hb⟩ => ⟨_, he, ?_, hb⟩
    simp only [codesL, hv]
    exact World.ownsRow_nil _ _ _ _
  · refine (codes_yes s w hs hT hv).mono fun e w' ⟨v, he, ho, hb⟩ => ⟨v, he, ?_, hb⟩
    simp only [codesL, hv, if_true, List.length_map, List.map_map]
    exact ho
end
end Go.Proofs.YteenleedonmkmaaGreatDoor
