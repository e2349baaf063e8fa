/- The document's example, as the laws ask it: it answers true. Tables in memory of the call's own. -/
import Derived.Test.YtjjjefpdpjaadaaOf
import Derived.OwnWalk
import Derived.Laws.AppendOwn
import Derived.Lib.OthersKept
namespace Go.Proofs.Ytjjjefpdpjaadaa
open Go Go.RowKit

/-- A range's cells. -/
def rCells (r : R3) : List Value := [.int .i64 r.1, .int .i64 r.2.1, .int .i64 r.2.2]
theorem rCells_one (r : R3) : ∀ x ∈ rCells r, x.oneCell' = true := by
  intro x hx
  simp only [rCells, List.mem_cons, List.mem_nil_iff, or_false] at hx
  rcases hx with rfl | rfl | rfl <;> rfl
theorem cells3 : ∀ (us : List R3) (k : Nat) (u : R3), us[k]? = some u →
    (us.flatMap rCells)[k * 3]? = some (.int .i64 u.1) ∧ (us.flatMap rCells)[k * 3 + 1]? = some (.int .i64 u.2.1) ∧ (us.flatMap rCells)[k * 3 + 2]? = some (.int .i64 u.2.2)
  | [], k, u, h => by simp at h
  | x :: us, 0, u, h => by
    simp at h; subst h
    simp [rCells]
  | x :: us, k + 1, u, h => by
    have ih := cells3 us k u (by simpa using h)
    have e : (x :: us).flatMap rCells = rCells x ++ us.flatMap rCells := rfl
    have hl : (rCells x).length = 3 := rfl
    rw [e]
    refine ⟨?_, ?_, ?_⟩
    · rw [List.getElem?_append_right (by omega), hl, show (k + 1) * 3 - 3 = k * 3 by omega]; exact ih.1
    · rw [List.getElem?_append_right (by omega), hl, show (k + 1) * 3 + 1 - 3 = k * 3 + 1 by omega]; exact ih.2.1
    · rw [List.getElem?_append_right (by omega), hl, show (k + 1) * 3 + 2 - 3 = k * 3 + 2 by omega]; exact ih.2.2
theorem cells_new (w : World) (cs : List Value) (t : TypeId) : ∀ j u, cs[j]? = some u → (w.alloc (.cells cs.toArray t)).cell? ((⟨w.heap.size, 0, none⟩ : Addr).add j) = some u := by
  intro j u hu
  have hadd : (⟨w.heap.size, 0, none⟩ : Addr).add j = ⟨w.heap.size, j, none⟩ := by unfold Addr.add; split <;> simp_all
  rw [hadd, cell_of_row _ w.heap.size j cs.toArray t (0, 0) (heap_alloc_new w _)]
  simpa using hu
theorem cells_new' (w : World) (cs : List Value) (t : TypeId) : ∀ j u, cs[j]? = some u → (w.alloc (.cells cs.toArray t)).cell? ⟨w.heap.size, j, none⟩ = some u := by
  intro j u hu
  rw [cell_of_row _ w.heap.size j cs.toArray t (0, 0) (heap_alloc_new w _)]
  simpa using hu

/-- A table in a block of its own. -/
theorem tbl_new (w : World) (t : TypeId) (rs : List R3) (cs : Array Value) (n : Nat) (hn : rs.length = n) (hm : n ≤ maxLen) (hcs : cs = (rs.flatMap rCells).toArray) :
    Tbl (w.alloc (.cells cs t)) (.slice (some ⟨w.heap.size, 0, none⟩) n n) rs := by
  subst hn
  subst hcs
  refine .inr ⟨_, 0, _, rfl, by simp, Nat.le_refl _, hm, fun i r hr => ?_⟩
  obtain ⟨x0, x1, x2⟩ := cells3 rs i r hr
  rw [Nat.zero_add]
  exact ⟨cells_new' w _ t _ _ x0, cells_new' w _ t _ _ x1, cells_new' w _ t _ _ x2⟩

/-- A row of the call's own reads as a table. -/
theorem tbl_own {w : World} {B n : Nat} {v : Value} {rs : List R3} (hn : rs.length = n) (h : w.ownsRow B 27 3 v n (rs.flatMap rCells)) : Tbl w v rs := by
  have hc := @World.ownsRow.cells _ _ _ _ _ _ _ h
  subst hn
  rcases h.2 with ⟨rfl, h0⟩ | ⟨g, cap, cur, rfl, hb, hg, hnc, hcm, _⟩
  · exact .inl ⟨⟨_, _, rfl⟩, List.eq_nil_of_length_eq_zero h0⟩
  · refine .inr ⟨g, 0, cap, rfl, (Array.getElem?_eq_some_iff.1 hg).1, hnc, hcm, fun i r hr => ?_⟩
    have hadd : ∀ j, (⟨g, 0, none⟩ : Addr).add j = ⟨g, j, none⟩ := fun j => by unfold Addr.add; split <;> simp_all
    obtain ⟨x0, x1, x2⟩ := cells3 rs i r hr
    rw [Nat.zero_add]
    exact ⟨by rw [← hadd]; exact hc (g := g) rfl _ _ x0, by rw [← hadd]; exact hc (g := g) rfl _ _ x1, by rw [← hadd]; exact hc (g := g) rfl _ _ x2⟩

theorem ex_ok : okT [(97, 122, 1)] = true := by decide
theorem ex_z : ofT [(97, 122, 1)] 122 = 1 := by decide
theorem ex_A : ofT [(97, 122, 1)] 65 = 0 := by decide

set_option maxHeartbeats 1000000 in
theorem awake_any (w : World) : Calls Try.prog 7 #[] w fun e w' => e = .returned (.bool true) ∧ Below w.heap.size w w' := by
  have c1 : ∀ wx, Calls Try.prog 10 #[.slice none 0 0, .int .i64 97] wx fun e w' => e = .returned (.int .i64 0) ∧ Below wx.heap.size wx w' := fun wx => of_none none 0 97 wx
  have c2 : ∀ wx v, Tbl wx v [(97, 122, 1)] → Calls Try.prog 8 #[v] wx fun e w' => e = .returned (.bool true) ∧ Below wx.heap.size wx w' := fun wx v h => check_any v _ wx h
  have c3 : ∀ wx v, Tbl wx v [(97, 122, 1)] → Calls Try.prog 10 #[v, .int .i64 122] wx fun e w' => e = .returned (.int .i64 1) ∧ Below wx.heap.size wx w' := fun wx v h => by
    have := of_any v _ 122 wx h
    rwa [ex_z] at this
  have c4 : ∀ wx v, Tbl wx v [(97, 122, 1)] → Calls Try.prog 10 #[v, .int .i64 65] wx fun e w' => e = .returned (.int .i64 0) ∧ Below wx.heap.size wx w' := fun wx v h => by
    have := of_any v _ 65 wx h
    rwa [ex_A] at this
  have C1 := Lib.hid c1
  have C2 := Lib.hid c2
  have C3 := Lib.hid c3
  have C4 := Lib.hid c4
  clear c1 c2 c3 c4
  go_enter Try.func7, Try.ntmps7
  go_wp2_with fail
  have ht := tbl_new w 27 [(97, 122, 1)] #[.int .i64 97, .int .i64 122, .int .i64 1] 1 rfl (by decide) rfl
  have HB0 := Lib.hid ((Below.refl w.heap.size w).alloc (Nat.le_refl _) (.cells #[.int .i64 97, .int .i64 122, .int .i64 1] 27))
  have HT := Lib.hid ht
  clear ht
  generalize w.alloc (.cells #[.int .i64 97, .int .i64 122, .int .i64 1] 27) = w1 at HB0 HT ⊢
  refine (C1.out _).mono ?_
  rintro e w2 ⟨rfl, hb2⟩
  have HB2 := Lib.hid (HB0.out.trans (hb2.mono HB0.out.size))
  have HT2 := Lib.hid (HT.out.below hb2)
  clear hb2 HB0 HT
  go_wp2_with fail
  refine (C2.out _ _ HT2.out).mono ?_
  rintro e w3 ⟨rfl, hb3⟩
  have HB3 := Lib.hid (HB2.out.trans (hb3.mono HB2.out.size))
  have HT3 := Lib.hid (HT2.out.below hb3)
  clear hb3 HB2 HT2
  go_wp2_with fail
  refine (C3.out _ _ HT3.out).mono ?_
  rintro e w4 ⟨rfl, hb4⟩
  have HB4 := Lib.hid (HB3.out.trans (hb4.mono HB3.out.size))
  have HT4 := Lib.hid (HT3.out.below hb4)
  clear hb4 HB3 HT3
  go_wp2_with fail
  refine (C4.out _ _ HT4.out).mono ?_
  rintro e w5 ⟨rfl, hb5⟩
  have HB5 := Lib.hid (HB4.out.trans (hb5.mono HB4.out.size))
  clear hb5 HB4 HT4
  go_wp2_with fail
  go_ret
  exact ⟨rfl, HB5.out⟩
end Go.Proofs.Ytjjjefpdpjaadaa
