/- The tokens of SegJoins' texts: letters, so many joiners, letters or a digit, with joiners ahead and behind. -/
import Derived.Test.YtmebboadadlahaaDoorSLaws
import Derived.BigQuiet
namespace Go.Proofs.YtmebboadadlahaaDoor
open Go Go.RowKit Go.Lib

def joinText (a k b : Nat) (W : ByteArray) : ByteArray :=
  (((((ByteArray.mk #[39, 39, 39, 39]).extract 0 a ++ ⟨#[97, 98]⟩) ++ (ByteArray.mk #[39, 39, 39, 39]).extract 0 k) ++ W) ++ (ByteArray.mk #[39, 39, 39, 39]).extract 0 b)
/-- The word behind: a letter and a digit, or two letters. -/
def joinWord (d : Bool) : ByteArray := cond d ⟨#[99, 52]⟩ ⟨#[99, 100]⟩
def joinToks (a k : Nat) (d : Bool) : List Tok :=
  cond (decide (1 < k)) [(a, a + 2, true), (a + 2 + k, a + 4 + k, !d)] [(a, a + 4 + k, !d)]

theorem join_all : ([false, true].all fun d => (List.range 3).all fun a => (List.range 4).all fun k => (List.range 3).all fun b =>
    decide (toksOf Cls.tab (joinText a k b (joinWord d)) = joinToks a k d)) = true := by
  decide +kernel
theorem join_toks {a k b : Nat} (d : Bool) (ha : a < 3) (hk : k < 4) (hb : b < 3) :
    toksOf Cls.tab (joinText a k b (joinWord d)) = joinToks a k d := by
  have h := join_all
  rw [List.all_eq_true] at h
  have h := List.all_eq_true.mp (h d (by cases d <;> simp)) a (List.mem_range.mpr ha)
  have h := List.all_eq_true.mp h k (List.mem_range.mpr hk)
  exact of_decide_eq_true (List.all_eq_true.mp h b (List.mem_range.mpr hb))

theorem joinText_size (a k b : Nat) (d : Bool) : (joinText a k b (joinWord d)).size ≤ 1000 := by
  have hj : ∀ n, ((ByteArray.mk #[39, 39, 39, 39]).extract 0 n).size ≤ 4 := fun n => by
    rw [ByteArray.size_extract]
    have : (ByteArray.mk #[39, 39, 39, 39]).size = 4 := rfl
    omega
  have h1 := hj a
  have h2 := hj k
  have h3 := hj b
  have h4 : (joinWord d).size = 2 := by cases d <;> rfl
  have h5 : ByteArray.size ⟨#[97, 98]⟩ = 2 := rfl
  simp only [joinText, ByteArray.size_append]
  omega

theorem join_far {k : Nat} (a : Nat) (d : Bool) (h : 1 < k) : joinToks a k d = [(a, a + 2, true), (a + 2 + k, a + 4 + k, !d)] := by
  simp [joinToks, h]
theorem join_near {k : Nat} (a : Nat) (d : Bool) (h : ¬ 1 < k) : joinToks a k d = [(a, a + 4 + k, !d)] := by
  simp [joinToks, h]

theorem below_back {a w : World} {m : Nat} (h : Below (a.drewN m).heap.size (a.drewN m) w) : Below a.heap.size a w :=
  (below_drewN (Below.refl a.heap.size a) m).trans h

set_option maxRecDepth 100000 in
set_option maxHeartbeats 8000000 in
theorem joins_far (hA : SegSays) (n l r : Int) (d : Bool) (w : World) (hW : Tabs w) (k a b : Nat) (hk : (k : Int) = n % 4) (ha : (a : Int) = l % 3) (hb : (b : Int) = r % 3) (h1 : 1 < k) :
    Calls Tryd.prog 6 #[.int .i64 n, .int .i64 l, .int .i64 r, .bool d] w fun e w' => e = .returned (.bool true) ∧ Below w.heap.size w w' := by
  have hk4 : k < 4 := by omega
  have ha3 : a < 3 := by omega
  have hb3 : b < 3 := by omega
  have P1 := Lib.hid (fun wx => Cls.place_any n 4 wx (by omega) (by omega))
  have P2 := Lib.hid (fun wx => Cls.place_any l 3 wx (by omega) (by omega))
  have P3 := Lib.hid (fun wx => Cls.place_any r 3 wx (by omega) (by omega))
  rw [← hk] at P1
  rw [← ha] at P2
  rw [← hb] at P3
  have c9 : ∀ wx v, TblU wx v Cls.tab → Calls Tryd.prog 9 #[v, .string (joinText a k b (joinWord d))] wx fun e w' => ∃ g cap, e = .returned (.slice (some ⟨g, 0, none⟩) 2 cap) ∧ (2 ≤ cap ∧ cap ≤ maxLen) ∧
      (w'.cell? ⟨g, 0, none⟩ = some (.int .i64 a) ∧ w'.cell? ⟨g, 1, none⟩ = some (.int .i64 (a + 2)) ∧ w'.cell? ⟨g, 2, none⟩ = some (.bool true) ∧
        w'.cell? ⟨g, 3, none⟩ = some (.int .i64 (a + 2 + k)) ∧ w'.cell? ⟨g, 4, none⟩ = some (.int .i64 (a + 4 + k)) ∧ w'.cell? ⟨g, 5, none⟩ = some (.bool (!d))) ∧ Below wx.heap.size wx w' := by
    intro wx v h
    have hs := joinText_size a k b d
    refine (hA v Cls.tab _ wx h (by omega)).mono ?_
    rintro e w' ⟨v', he, ho, hb⟩
    rw [join_toks d ha3 hk4 hb3, join_far a d h1] at ho
    obtain ⟨g, cap, rfl, _, _, h1, h2, hc⟩ := own_open ho (by simp)
    exact ⟨g, cap, he, ⟨h1, h2⟩, ⟨hc 0 _ rfl, hc 1 _ rfl, hc 2 _ rfl, hc 3 _ rfl, hc 4 _ rfl, hc 5 _ rfl⟩, hb⟩
  have C9 := Lib.hid c9
  have W8 := Lib.hid (awake_any hA)
  have HW := Lib.hid hW
  have T := Lib.hid table_u
  clear c9 hA hW hk ha hb
  have ki : (k : Int) < 4 := by omega
  have k0 : (1 : Int) < k := by omega
  have ai : (a : Int) < 3 := by omega
  have a0 : (0 : Int) ≤ a := by omega
  have bi : (b : Int) < 3 := by omega
  have b0 : (0 : Int) ≤ b := by omega
  go_enter Tryd.func6, Tryd.ntmps6
  go_wp2_with fail
  refine (P1.out _).mono ?_
  rintro e w1 ⟨rfl, rfl⟩
  go_wp2_with fail
  refine (P2.out _).mono ?_
  rintro e w1 ⟨rfl, rfl⟩
  go_wp2_with fail
  refine (P3.out _).mono ?_
  rintro e w1 ⟨rfl, rfl⟩
  cases d
  all_goals
    go_wp2_with fail
    go_quiet (fail)
    go_wp2_with fail
    refine (T.out _ ?_).mono ?_
    · exact HW.out.below (below_drewN (Below.refl _ _) _)
    rintro e w1 ⟨v1, rfl, ht, hb1⟩
    have HT := Lib.hid ht
    have HB1 := Lib.hid hb1
    clear ht hb1
    go_wp2_with fail
    refine (C9.out _ _ HT.out).mono ?_
    rintro e w2 ⟨g, cap, rfl, ⟨c1, c2⟩, ⟨m0, m1, m2, m3, m4, m5⟩, hb2⟩
    unfold maxLen at c2
    have HB2 := Lib.hid (HB1.out.trans (hb2.mono HB1.out.size))
    clear hb2
    go_wp2_with fail
    refine (W8.out _ (HW.out.below (below_back HB2.out))).mono ?_
    rintro e w3 ⟨rfl, hb3⟩
    have HB3 := Lib.hid (HB2.out.trans (hb3.mono HB2.out.size))
    clear hb3
    go_wp2_with fail
    go_ret
    exact ⟨rfl, below_back HB3.out⟩

set_option maxRecDepth 100000 in
set_option maxHeartbeats 8000000 in
theorem joins_near (hA : SegSays) (hC : CountSays) (n l r : Int) (d : Bool) (w : World) (hW : Tabs w) (k a b : Nat) (hk : (k : Int) = n % 4) (ha : (a : Int) = l % 3) (hb : (b : Int) = r % 3) (h1 : ¬ 1 < k) :
    Calls Tryd.prog 6 #[.int .i64 n, .int .i64 l, .int .i64 r, .bool d] w fun e w' => e = .returned (.bool true) ∧ Below w.heap.size w w' := by
  have hk4 : k < 4 := by omega
  have ha3 : a < 3 := by omega
  have hb3 : b < 3 := by omega
  have P1 := Lib.hid (fun wx => Cls.place_any n 4 wx (by omega) (by omega))
  have P2 := Lib.hid (fun wx => Cls.place_any l 3 wx (by omega) (by omega))
  have P3 := Lib.hid (fun wx => Cls.place_any r 3 wx (by omega) (by omega))
  rw [← hk] at P1
  rw [← ha] at P2
  rw [← hb] at P3
  have c9 : ∀ wx v, TblU wx v Cls.tab → Calls Tryd.prog 9 #[v, .string (joinText a k b (joinWord d))] wx fun e w' => ∃ g cap, e = .returned (.slice (some ⟨g, 0, none⟩) 1 cap) ∧ (1 ≤ cap ∧ cap ≤ maxLen) ∧
      (w'.cell? ⟨g, 0, none⟩ = some (.int .i64 a) ∧ w'.cell? ⟨g, 1, none⟩ = some (.int .i64 (a + 4 + k)) ∧ w'.cell? ⟨g, 2, none⟩ = some (.bool (!d))) ∧ Below wx.heap.size wx w' := by
    intro wx v h
    have hs := joinText_size a k b d
    refine (hA v Cls.tab _ wx h (by omega)).mono ?_
    rintro e w' ⟨v', he, ho, hb⟩
    rw [join_toks d ha3 hk4 hb3, join_near a d h1] at ho
    obtain ⟨g, cap, rfl, _, _, h1, h2, hc⟩ := own_open ho (by simp)
    exact ⟨g, cap, he, ⟨h1, h2⟩, ⟨hc 0 _ rfl, hc 1 _ rfl, hc 2 _ rfl⟩, hb⟩
  have c12 : ∀ wx v, TblU wx v Cls.tab → Calls Tryd.prog 12 #[v, .string (joinText a k b (joinWord d))] wx fun e w' => e = .returned (.int .i64 1) ∧ Below wx.heap.size wx w' := by
    intro wx v h
    have hs := joinText_size a k b d
    have := hC v Cls.tab (joinText a k b (joinWord d)) wx h (by omega)
    rwa [join_toks d ha3 hk4 hb3, join_near a d h1] at this
  have C9 := Lib.hid c9
  have C12 := Lib.hid c12
  have W8 := Lib.hid (awake_any hA)
  have HW := Lib.hid hW
  have T := Lib.hid table_u
  clear c9 c12 hA hC hW hk ha hb
  have ki : (k : Int) < 4 := by omega
  have k0 : (0 : Int) ≤ k := by omega
  have k1 : (k : Int) ≤ 1 := by omega
  have ai : (a : Int) < 3 := by omega
  have a0 : (0 : Int) ≤ a := by omega
  have bi : (b : Int) < 3 := by omega
  have b0 : (0 : Int) ≤ b := by omega
  go_enter Tryd.func6, Tryd.ntmps6
  go_wp2_with fail
  refine (P1.out _).mono ?_
  rintro e w1 ⟨rfl, rfl⟩
  go_wp2_with fail
  refine (P2.out _).mono ?_
  rintro e w1 ⟨rfl, rfl⟩
  go_wp2_with fail
  refine (P3.out _).mono ?_
  rintro e w1 ⟨rfl, rfl⟩
  cases d
  all_goals
    go_wp2_with fail
    go_quiet (fail)
    go_wp2_with fail
    refine (T.out _ ?_).mono ?_
    · exact HW.out.below (below_drewN (Below.refl _ _) _)
    rintro e w1 ⟨v1, rfl, ht, hb1⟩
    have HT := Lib.hid ht
    have HB1 := Lib.hid hb1
    clear ht hb1
    go_wp2_with fail
    refine (C9.out _ _ HT.out).mono ?_
    rintro e w2 ⟨g, cap, rfl, ⟨c1, c2⟩, ⟨m0, m1, m2⟩, hb2⟩
    unfold maxLen at c2
    have HB2 := Lib.hid (HB1.out.trans (hb2.mono HB1.out.size))
    clear hb2
    go_wp2_with fail
    refine (T.out _ (HW.out.below (below_back HB2.out))).mono ?_
    rintro e w4 ⟨v4, rfl, ht4, hb4⟩
    have HT4 := Lib.hid ht4
    have HB4 := Lib.hid (HB2.out.trans (hb4.mono HB2.out.size))
    clear ht4 hb4
    go_wp2_with fail
    refine (C12.out _ _ HT4.out).mono ?_
    rintro e w5 ⟨rfl, hb5⟩
    have HB5 := Lib.hid (HB4.out.trans (hb5.mono HB4.out.size))
    clear hb5
    go_wp2_with fail
    refine (W8.out _ (HW.out.below (below_back HB5.out))).mono ?_
    rintro e w3 ⟨rfl, hb3⟩
    have HB3 := Lib.hid (HB5.out.trans (hb3.mono HB5.out.size))
    clear hb3
    go_wp2_with fail
    go_ret
    exact ⟨rfl, below_back HB3.out⟩

theorem joins_law (hA : SegSays) (hC : CountSays) (n l r : Int) (d : Bool) (w : World) (hW : Tabs w) :
    Calls Tryd.prog 6 #[.int .i64 n, .int .i64 l, .int .i64 r, .bool d] w fun e w' => e = .returned (.bool true) ∧ Below w.heap.size w w' := by
  have h1 : ((n % 4).toNat : Int) = n % 4 := by omega
  have h2 : ((l % 3).toNat : Int) = l % 3 := by omega
  have h3 : ((r % 3).toNat : Int) = r % 3 := by omega
  by_cases h : 1 < (n % 4).toNat
  · exact joins_far hA n l r d w hW _ _ _ h1 h2 h3 h
  · exact joins_near hA hC n l r d w hW _ _ _ h1 h2 h3 h
end Go.Proofs.YtmebboadadlahaaDoor
