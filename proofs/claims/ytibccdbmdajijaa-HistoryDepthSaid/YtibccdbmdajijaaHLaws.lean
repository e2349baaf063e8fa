/- Histories, plain; what is asked of a history's calls; what stands between two calls of two of them; stage 8's laws' awake. -/
import Derived.Test.YtibccdbmdajijaaProg
import Derived.Test.YtibccdbmdajijaaSGives
import Derived.Test.YtibccdbmdajijaaWhere
import Derived.Lib.Hide
import Derived.Lib.MapLaws
import Derived.WalkKit
import Derived.WalkSpells
import Derived.WalkLawsBesides
import Derived.IntWalk
import Derived.BigQuiet
import Derived.BigRegion
import Derived.Deep.QuietTactic
import Derived.Below
import Derived.Outline
import Derived.WalkMore
import Derived.Laws.Rows
namespace Go.Proofs.Ytibccdbmdajijaa
open Go Go.RowKit

/-! ### Edits, groups, histories, plain -/
structure Ed where
  k : Int
  d : ByteArray
  i : ByteArray
def eCells (L : List Ed) : List Value := L.flatMap fun x => [.int .i64 x.k, .string x.d, .string x.i]
theorem eCells_at : ∀ {L : List Ed} {i : Nat} {x : Ed}, L[i]? = some x → (eCells L)[i * 3]? = some (.int .i64 x.k) ∧ (eCells L)[i * 3 + 1]? = some (.string x.d) ∧ (eCells L)[i * 3 + 2]? = some (.string x.i)
  | [], i, x, h => by simp at h
  | y :: L, 0, x, h => by
    obtain rfl : y = x := by simpa using h
    exact ⟨rfl, rfl, rfl⟩
  | y :: L, i + 1, x, h => by
    have ih := eCells_at (L := L) (i := i) (x := x) (by simpa using h)
    rw [show (i + 1) * 3 = i * 3 + 3 by omega]
    exact ih
/-- What a group more makes of those that can be undone (of at most D), and of those that can be redone. -/
def pushU (D : Nat) (us : List (List Ed)) (xs : List Ed) : List (List Ed) := if xs.length = 0 then us else (us ++ [xs]).drop (us.length + 1 - D)
def pushR (rs : List (List Ed)) (xs : List Ed) : List (List Ed) := if xs.length = 0 then rs else []
def cutD (d : Int) : Nat := (min (max d 0) 50).toNat

/-! ### Lists of edits in memory -/
theorem eCells_len : ∀ L : List Ed, (eCells L).length = L.length * 3
  | [] => rfl
  | y :: L => by
    have ih := eCells_len L
    show (eCells L).length + 3 = (L.length + 1) * 3
    omega
theorem add_block (a : Addr) (j : Nat) : (a.add j).block = a.block := by unfold Addr.add; split <;> rfl
theorem cell_same {w w' : World} {p : Addr} (h : w'.heap[p.block]? = w.heap[p.block]?) : w'.cell? p = w.cell? p := by unfold World.cell?; simp only [h]
/-- A slice that reads as a list of cells, so many to a place. -/
def Vals (w : World) (size : Nat) (v : Value) (n : Nat) (xs : List Value) : Prop :=
  xs.length = n * size ∧ (v = .slice none 0 0 ∧ n = 0 ∨ ∃ a cap, v = .slice (some a) n cap ∧ n ≤ cap ∧ cap ≤ maxLen ∧ ∀ (j : Nat) u, xs[j]? = some u → w.cell? (a.add j) = some u)
theorem Vals.keep {w w' : World} {size : Nat} {v : Value} {n : Nat} {xs : List Value} (h : Vals w size v n xs) (hb : ∀ b, v.ownBlock = some b → w'.heap[b]? = w.heap[b]?) : Vals w' size v n xs := by
  obtain ⟨hl, h | ⟨a, cap, rfl, h1, h2, h3⟩⟩ := h
  · exact ⟨hl, .inl h⟩
  · exact ⟨hl, .inr ⟨a, cap, rfl, h1, h2, fun j u hu => (cell_same (by rw [add_block]; exact hb _ rfl)).trans (h3 j u hu)⟩⟩
theorem Vals.own {w : World} {B e size n : Nat} {v : Value} {xs : List Value} (h : w.ownsRow B e size v n xs) : Vals w size v n xs := by
  have hc := @World.ownsRow.cells _ _ _ _ _ _ _ h
  refine ⟨h.1, ?_⟩
  rcases h.2 with ⟨hn, rfl⟩ | ⟨g, cap, cur, rfl, _, _, hnc, hcm, _⟩
  · exact .inl ⟨hn, rfl⟩
  · exact .inr ⟨_, cap, rfl, hnc, hcm, hc (g := g) rfl⟩
/-- A slice that reads as a list of edits. -/
def RowAt (w : World) (v : Value) (xs : List Ed) : Prop := Vals w 3 v xs.length (eCells xs) ∧ (0 < xs.length → ∀ b, v.ownBlock = some b → b < w.heap.size)
theorem RowAt.keep {w w' : World} {v : Value} {xs : List Ed} (h : RowAt w v xs) (hs : w.heap.size ≤ w'.heap.size) (hb : ∀ b, 0 < xs.length → v.ownBlock = some b → w'.heap[b]? = w.heap[b]?) : RowAt w' v xs := by
  refine ⟨?_, fun h0 b hv => Nat.lt_of_lt_of_le (h.2 h0 b hv) hs⟩
  by_cases h0 : 0 < xs.length
  · exact h.1.keep fun b => hb b h0
  · have hx : xs = [] := List.eq_nil_of_length_eq_zero (by omega)
    subst hx
    obtain ⟨hl, hv | ⟨a, cap, rfl, h1, h2, _⟩⟩ := h.1
    · exact ⟨hl, .inl hv⟩
    · exact ⟨hl, .inr ⟨a, cap, rfl, h1, h2, fun j u hu => by cases hu⟩⟩
theorem RowAt.on {w w' : World} {v : Value} {xs : List Ed} {B : Nat} (h : RowAt w v xs) (hb : Below B w w') (hB : 0 < xs.length → ∀ b, v.ownBlock = some b → b < B) : RowAt w' v xs :=
  h.keep hb.size (fun b h0 hv => hb.block b (hB h0 b hv))
theorem RowAt.nil (w : World) : RowAt w (.slice none 0 0) [] := ⟨⟨rfl, .inl ⟨rfl, rfl⟩⟩, fun _ b h => by cases h⟩
theorem add_zero_none (g j : Nat) : (⟨g, 0, none⟩ : Addr).add j = ⟨g, j, none⟩ := by unfold Addr.add; split <;> simp_all
theorem RowAt.lit (w : World) (xs : List Ed) (cs : Array Value) (t : TypeId) (hc : cs = (eCells xs).toArray) (hm : xs.length ≤ 1000) :
    RowAt (w.alloc (.cells cs t)) (.slice (some ⟨w.heap.size, 0, none⟩) xs.length xs.length) xs := by
  subst hc
  refine ⟨⟨eCells_len xs, .inr ⟨_, _, rfl, Nat.le_refl _, by unfold maxLen; omega, fun j u hu => ?_⟩⟩, fun _ b h => by cases h; simp⟩
  rw [add_zero_none, cell_of_row _ w.heap.size j (eCells xs).toArray t (0, 0) (World.alloc_heap_new w _)]
  simpa using hu
theorem own_open {w : World} {B e size n : Nat} {v : Value} {xs : List Value} (h : w.ownsRow B e size v n xs) (hn : 0 < n) :
    ∃ g cap, v = .slice (some ⟨g, 0, none⟩) n cap ∧ g < w.heap.size ∧ n ≤ cap ∧ cap ≤ maxLen ∧ ∀ j u, xs[j]? = some u → w.cell? ⟨g, j, none⟩ = some u := by
  have hc := @World.ownsRow.cells _ _ _ _ _ _ _ h
  rcases h.2 with ⟨_, rfl⟩ | ⟨g, cap, cur, rfl, hb, hg, hnc, hcm, _⟩
  · omega
  · refine ⟨g, cap, rfl, (Array.getElem?_eq_some_iff.1 hg).1, hnc, hcm, fun j u hu => ?_⟩
    have hadd : (⟨g, 0, none⟩ : Addr).add j = ⟨g, j, none⟩ := by unfold Addr.add; split <;> simp_all
    rw [← hadd]
    exact hc (g := g) rfl j u hu
theorem RowAt.own {w : World} {B : Nat} {v : Value} {xs : List Ed} (h : w.ownsRow B 31 3 v xs.length (eCells xs)) : RowAt w v xs := ⟨Vals.own h, fun _ b hb => (h.lt b hb).2⟩

/-! ### What is asked of a history's calls -/
/-- Behind a call: a history still, in blocks that were its own, or are new, and are not the answer's (N). -/
def HGoes (R : (Nat → Prop) → World → Addr → Nat → List (List Ed) → List (List Ed) → Prop) (F : Nat → Prop) (w w' : World) (a : Addr) (D : Nat) (us rs : List (List Ed)) (N : Nat → Prop) : Prop :=
  ∃ F', R F' w' a D us rs ∧ OnlyAt F w w' ∧ ∀ k, F' k → (F k ∨ w.heap.size ≤ k) ∧ ¬ N k
structure SaysH (R : (Nat → Prop) → World → Addr → Nat → List (List Ed) → List (List Ed) → Prop) : Prop where
  new : ∀ w (d : Int), -9223372036854775808 ≤ d → d ≤ 9223372036854775807 →
    Calls Try.prog 7 #[.int .i64 d] w fun e w' => ∃ a F, e = .returned (.pointer (some a)) ∧ R F w' a (cutD d) [] [] ∧ OnlyAt (fun _ => False) w w' ∧ ∀ k, F k → w.heap.size ≤ k
  push : ∀ F w a D us rs v xs, R F w a D us rs → RowAt w v xs → (∀ b, v.ownBlock = some b → ¬ F b) → xs.length ≤ 20 →
    Calls Try.prog 11 #[.pointer (some a), v] w fun e w' => e = .returned (.tuple #[]) ∧ HGoes R F w w' a D (pushU D us xs) (pushR rs xs) (fun _ => False)
  undo_no : ∀ F w a D rs, R F w a D [] rs →
    Calls Try.prog 13 #[.pointer (some a)] w fun e w' => ∃ v, e = .returned (.tuple #[v, .bool false]) ∧ w'.ownsRow w.heap.size 31 3 v 0 [] ∧ HGoes R F w w' a D [] rs (fun k => v.ownBlock = some k)
  undo : ∀ F w a D us g rs, R F w a D (us ++ [g]) rs →
    Calls Try.prog 13 #[.pointer (some a)] w fun e w' => ∃ v, e = .returned (.tuple #[v, .bool true]) ∧ w'.ownsRow w.heap.size 31 3 v g.length (eCells g) ∧ HGoes R F w w' a D us (rs ++ [g]) (fun k => v.ownBlock = some k)
  redo_no : ∀ F w a D us, R F w a D us [] →
    Calls Try.prog 16 #[.pointer (some a)] w fun e w' => ∃ v, e = .returned (.tuple #[v, .bool false]) ∧ w'.ownsRow w.heap.size 31 3 v 0 [] ∧ HGoes R F w w' a D us [] (fun k => v.ownBlock = some k)
  redo : ∀ F w a D us g rs, R F w a D us (rs ++ [g]) →
    Calls Try.prog 16 #[.pointer (some a)] w fun e w' => ∃ v, e = .returned (.tuple #[v, .bool true]) ∧ w'.ownsRow w.heap.size 31 3 v g.length (eCells g) ∧ HGoes R F w w' a D (us ++ [g]) rs (fun k => v.ownBlock = some k)
  len : ∀ F w a D us rs, R F w a D us rs →
    Calls Try.prog 18 #[.pointer (some a)] w fun e w' => e = .returned (.tuple #[.int .i64 us.length, .int .i64 rs.length]) ∧ HGoes R F w w' a D us rs (fun _ => False)
  lt : ∀ F w a D us rs, R F w a D us rs → ∀ k, F k → k < w.heap.size
  frame : ∀ F w w' a D us rs, R F w a D us rs → KeepsAt F w w' → R F w' a D us rs
  inv : ∀ F w a D us rs, R F w a D us rs → us.length + rs.length ≤ D ∧ D ≤ 50

/-! ### Between two calls: two objects beside one another -/
structure Two (Ra Rb : (Nat → Prop) → World → Addr → Nat → List (List Ed) → List (List Ed) → Prop) (w : World) (a : Addr) (D : Nat) (us rs : List (List Ed)) (b : Addr) (E : Nat) (vs ss : List (List Ed)) (G : Nat → Prop) (wx : World) : Prop where
  rep : ∃ F1 F2, Ra F1 wx a D us rs ∧ Rb F2 wx b E vs ss ∧ (∀ k, F1 k → w.heap.size ≤ k ∧ ¬ F2 k ∧ ¬ G k) ∧ ∀ k, F2 k → w.heap.size ≤ k ∧ ¬ G k
  below : Below w.heap.size w wx
  mine : ∀ k, G k → k < wx.heap.size
/-- What is asked of the second object: that it bears what it bears. -/
structure Firm (R : (Nat → Prop) → World → Addr → Nat → List (List Ed) → List (List Ed) → Prop) : Prop where
  lt : ∀ F w a D us rs, R F w a D us rs → ∀ k, F k → k < w.heap.size
  frame : ∀ F w w' a D us rs, R F w a D us rs → KeepsAt F w w' → R F w' a D us rs
theorem SaysH.firm {R : (Nat → Prop) → World → Addr → Nat → List (List Ed) → List (List Ed) → Prop} (S : SaysH R) : Firm R := ⟨S.lt, S.frame⟩
/-- No object. -/
def Nil_ (F : Nat → Prop) (_ : World) (_ : Addr) (_ : Nat) (_ _ : List (List Ed)) : Prop := ∀ k, ¬ F k
theorem Nil_.firm : Firm Nil_ := ⟨fun _ _ _ _ _ _ h k hk => (h k hk).elim, fun _ _ _ _ _ _ _ h _ => h⟩
section
variable {Ra Rb : (Nat → Prop) → World → Addr → Nat → List (List Ed) → List (List Ed) → Prop} {w wx w' : World} {a b : Addr} {D E : Nat} {us rs vs ss us' rs' : List (List Ed)} {G : Nat → Prop}
theorem Two.swap (h : Two Ra Rb w a D us rs b E vs ss G wx) : Two Rb Ra w b E vs ss a D us rs G wx := by
  obtain ⟨⟨F1, F2, h1, h2, h3, h4⟩, h5, h6⟩ := h
  exact ⟨⟨F2, F1, h2, h1, fun k hk => ⟨(h4 k hk).1, fun e => (h3 k e).2.1 hk, (h4 k hk).2⟩, fun k hk => ⟨(h3 k hk).1, (h3 k hk).2.2⟩⟩, h5, h6⟩
theorem Two.keep (A : Firm Ra) (B : Firm Rb) (h : Two Ra Rb w a D us rs b E vs ss G wx) (hb : Below wx.heap.size wx w') : Two Ra Rb w a D us rs b E vs ss G w' := by
  obtain ⟨⟨F1, F2, h1, h2, h3, h4⟩, h5, h6⟩ := h
  exact ⟨⟨F1, F2, A.frame F1 wx w' a D us rs h1 ⟨hb.size, fun k hk _ => hb.block k hk⟩, B.frame F2 wx w' b E vs ss h2 ⟨hb.size, fun k hk _ => hb.block k hk⟩, h3, h4⟩, h5.trans (hb.mono h5.size), fun k hk => Nat.lt_of_lt_of_le (h6 k hk) hb.size⟩
/-- Blocks of ours are written. -/
theorem Two.write (A : Firm Ra) (B : Firm Rb) (h : Two Ra Rb w a D us rs b E vs ss G wx) (hG : ∀ k, G k → w.heap.size ≤ k) (ho : OnlyAt G wx w') : Two Ra Rb w a D us rs b E vs ss G w' := by
  obtain ⟨⟨F1, F2, h1, h2, h3, h4⟩, h5, h6⟩ := h
  exact ⟨⟨F1, F2, A.frame F1 wx w' a D us rs h1 (KeepsAt.of_only ho fun k hk e => (h3 k hk).2.2 e), B.frame F2 wx w' b E vs ss h2 (KeepsAt.of_only ho fun k hk e => (h4 k hk).2 e), h3, h4⟩, OnlyAt.below h5 ho h5.size hG, fun k hk => Nat.lt_of_lt_of_le (h6 k hk) ho.size⟩
/-- Fewer blocks are ours. -/
theorem Two.less {G' : Nat → Prop} (h : Two Ra Rb w a D us rs b E vs ss G wx) (hG : ∀ k, G' k → G k) : Two Ra Rb w a D us rs b E vs ss G' wx := by
  obtain ⟨⟨F1, F2, h1, h2, h3, h4⟩, h5, h6⟩ := h
  exact ⟨⟨F1, F2, h1, h2, fun k hk => ⟨(h3 k hk).1, (h3 k hk).2.1, fun e => (h3 k hk).2.2 (hG k e)⟩, fun k hk => ⟨(h4 k hk).1, fun e => (h4 k hk).2 (hG k e)⟩⟩, h5, fun k hk => h6 k (hG k hk)⟩
/-- A new block of ours. -/
theorem Two.add (A : Firm Ra) (B : Firm Rb) (h : Two Ra Rb w a D us rs b E vs ss G wx) (o : Obj) : Two Ra Rb w a D us rs b E vs ss (fun k => G k ∨ k = wx.heap.size) (wx.alloc o) := by
  have h' := h.keep A B ((Below.refl wx.heap.size wx).alloc (Nat.le_refl _) o)
  obtain ⟨⟨F1, F2, h1, h2, h3, h4⟩, h5, h6⟩ := h
  refine ⟨⟨F1, F2, A.frame F1 wx _ a D us rs h1 ⟨by simp, fun k hk _ => Below.heap_alloc _ _ _ hk⟩, B.frame F2 wx _ b E vs ss h2 ⟨by simp, fun k hk _ => Below.heap_alloc _ _ _ hk⟩, fun k hk => ⟨(h3 k hk).1, (h3 k hk).2.1, ?_⟩, fun k hk => ⟨(h4 k hk).1, ?_⟩⟩, h'.below, ?_⟩
  · rintro (e | e)
    · exact (h3 k hk).2.2 e
    · have := A.lt F1 wx a D us rs h1 k hk; omega
  · rintro (e | e)
    · exact (h4 k hk).2 e
    · have := B.lt F2 wx b E vs ss h2 k hk; omega
  · rintro k (e | e)
    · have := h6 k e; simp; omega
    · simp; omega
/-- A call of the first object's. -/
theorem Two.call (_A : Firm Ra) (B : Firm Rb) {f : Nat} {args : Array Value} {Q : Ending → World → (Nat → Prop) → Prop} (h : Two Ra Rb w a D us rs b E vs ss G wx)
    (hc : ∀ F, Ra F wx a D us rs → (∀ k, F k → ¬ G k) → Calls Try.prog f args wx fun e w' => ∃ N, Q e w' N ∧ (∀ k, N k → wx.heap.size ≤ k ∧ k < w'.heap.size) ∧ HGoes Ra F wx w' a D us' rs' N) :
    Calls Try.prog f args wx fun e w' => ∃ N, Q e w' N ∧ (∀ k, N k → wx.heap.size ≤ k) ∧ Hid (Two Ra Rb w a D us' rs' b E vs ss (fun k => G k ∨ N k) w') ∧ Hid (KeepsAt G wx w') := by
  obtain ⟨⟨F1, F2, h1, h2, h3, h4⟩, h5, h6⟩ := h
  refine (hc F1 h1 fun k hk => (h3 k hk).2.2).mono ?_
  rintro e w' ⟨N, hQ, hN, F', hr, ho, hF⟩
  have hlt2 := B.lt F2 wx b E vs ss h2
  refine ⟨N, hQ, fun k hk => (hN k hk).1, Lib.hid ⟨⟨F', F2, hr, B.frame F2 wx w' b E vs ss h2 (KeepsAt.of_only ho fun k hk e => (h3 k e).2.1 hk), fun k hk => ?_, fun k hk => ⟨(h4 k hk).1, ?_⟩⟩, OnlyAt.below h5 ho h5.size fun k hk => (h3 k hk).1, ?_⟩, Lib.hid (KeepsAt.of_only ho fun k hk e => (h3 k e).2.2 hk)⟩
  · obtain ⟨hk1, hk2⟩ := hF k hk
    rcases hk1 with e | e
    · exact ⟨(h3 k e).1, (h3 k e).2.1, by rintro (g | g); exact (h3 k e).2.2 g; exact hk2 g⟩
    · exact ⟨Nat.le_trans h5.size e, fun g => by have := hlt2 k g; omega, by rintro (g | g); (have := h6 k g; omega); exact hk2 g⟩
  · rintro (g | g)
    · exact (h4 k hk).2 g
    · have := (hN k g).1; have := hlt2 k hk; omega
  · rintro k (g | g)
    · exact Nat.lt_of_lt_of_le (h6 k g) ho.size
    · exact (hN k g).2
theorem Two.push (S : SaysH Ra) (B : Firm Rb) (h : Two Ra Rb w a D us rs b E vs ss G wx) {v : Value} {xs : List Ed} (hv : RowAt wx v xs) (hg : ∀ b, v.ownBlock = some b → G b) (hx : xs.length ≤ 20) :
    Calls Try.prog 11 #[.pointer (some a), v] wx fun e w' => e = .returned (.tuple #[]) ∧ Hid (Two Ra Rb w a D (pushU D us xs) (pushR rs xs) b E vs ss G w') ∧ Hid (KeepsAt G wx w') := by
  refine (Two.call S.firm B (Q := fun e _ _ => e = .returned (.tuple #[])) h (fun F hr hF => (S.push F wx a D us rs v xs hr hv (fun b hb hf => hF b hf (hg b hb)) hx).mono fun e w' ⟨he, hh⟩ => ⟨fun _ => False, he, fun k hk => hk.elim, hh⟩)).mono ?_
  rintro e w' ⟨N, he, _, h1, h2⟩
  exact ⟨he, Lib.hid (h1.out.less fun k hk => .inl hk), h2⟩
theorem Two.undo (S : SaysH Ra) (B : Firm Rb) {g : List Ed} (h : Two Ra Rb w a D (us ++ [g]) rs b E vs ss G wx) :
    Calls Try.prog 13 #[.pointer (some a)] wx fun e w' => ∃ v, e = .returned (.tuple #[v, .bool true]) ∧ w'.ownsRow wx.heap.size 31 3 v g.length (eCells g) ∧ Hid (Two Ra Rb w a D us (rs ++ [g]) b E vs ss (fun k => G k ∨ v.ownBlock = some k) w') ∧ Hid (KeepsAt G wx w') := by
  refine (Two.call S.firm B (Q := fun e w' N => ∃ v, e = .returned (.tuple #[v, .bool true]) ∧ w'.ownsRow wx.heap.size 31 3 v g.length (eCells g) ∧ N = fun k => v.ownBlock = some k) h (fun F hr hF => (S.undo F wx a D us g rs hr).mono fun e w' ⟨v, he, ho, hh⟩ => ⟨fun k => v.ownBlock = some k, ⟨v, he, ho, rfl⟩, fun k hk => ho.lt k hk, hh⟩)).mono ?_
  rintro e w' ⟨N, ⟨v, he, ho, rfl⟩, _, h1, h2⟩
  exact ⟨v, he, ho, h1, h2⟩
theorem Two.undo_no (S : SaysH Ra) (B : Firm Rb) (h : Two Ra Rb w a D [] rs b E vs ss G wx) :
    Calls Try.prog 13 #[.pointer (some a)] wx fun e w' => ∃ v, e = .returned (.tuple #[v, .bool false]) ∧ w'.ownsRow wx.heap.size 31 3 v 0 [] ∧ Hid (Two Ra Rb w a D [] rs b E vs ss (fun k => G k ∨ v.ownBlock = some k) w') ∧ Hid (KeepsAt G wx w') := by
  refine (Two.call S.firm B (Q := fun e w' N => ∃ v, e = .returned (.tuple #[v, .bool false]) ∧ w'.ownsRow wx.heap.size 31 3 v 0 [] ∧ N = fun k => v.ownBlock = some k) h (fun F hr hF => (S.undo_no F wx a D rs hr).mono fun e w' ⟨v, he, ho, hh⟩ => ⟨fun k => v.ownBlock = some k, ⟨v, he, ho, rfl⟩, fun k hk => ho.lt k hk, hh⟩)).mono ?_
  rintro e w' ⟨N, ⟨v, he, ho, rfl⟩, _, h1, h2⟩
  exact ⟨v, he, ho, h1, h2⟩
theorem Two.redo (S : SaysH Ra) (B : Firm Rb) {g : List Ed} (h : Two Ra Rb w a D us (rs ++ [g]) b E vs ss G wx) :
    Calls Try.prog 16 #[.pointer (some a)] wx fun e w' => ∃ v, e = .returned (.tuple #[v, .bool true]) ∧ w'.ownsRow wx.heap.size 31 3 v g.length (eCells g) ∧ Hid (Two Ra Rb w a D (us ++ [g]) rs b E vs ss (fun k => G k ∨ v.ownBlock = some k) w') ∧ Hid (KeepsAt G wx w') := by
  refine (Two.call S.firm B (Q := fun e w' N => ∃ v, e = .returned (.tuple #[v, .bool true]) ∧ w'.ownsRow wx.heap.size 31 3 v g.length (eCells g) ∧ N = fun k => v.ownBlock = some k) h (fun F hr hF => (S.redo F wx a D us g rs hr).mono fun e w' ⟨v, he, ho, hh⟩ => ⟨fun k => v.ownBlock = some k, ⟨v, he, ho, rfl⟩, fun k hk => ho.lt k hk, hh⟩)).mono ?_
  rintro e w' ⟨N, ⟨v, he, ho, rfl⟩, _, h1, h2⟩
  exact ⟨v, he, ho, h1, h2⟩
theorem Two.redo_no (S : SaysH Ra) (B : Firm Rb) (h : Two Ra Rb w a D us [] b E vs ss G wx) :
    Calls Try.prog 16 #[.pointer (some a)] wx fun e w' => ∃ v, e = .returned (.tuple #[v, .bool false]) ∧ w'.ownsRow wx.heap.size 31 3 v 0 [] ∧ Hid (Two Ra Rb w a D us [] b E vs ss (fun k => G k ∨ v.ownBlock = some k) w') ∧ Hid (KeepsAt G wx w') := by
  refine (Two.call S.firm B (Q := fun e w' N => ∃ v, e = .returned (.tuple #[v, .bool false]) ∧ w'.ownsRow wx.heap.size 31 3 v 0 [] ∧ N = fun k => v.ownBlock = some k) h (fun F hr hF => (S.redo_no F wx a D us hr).mono fun e w' ⟨v, he, ho, hh⟩ => ⟨fun k => v.ownBlock = some k, ⟨v, he, ho, rfl⟩, fun k hk => ho.lt k hk, hh⟩)).mono ?_
  rintro e w' ⟨N, ⟨v, he, ho, rfl⟩, _, h1, h2⟩
  exact ⟨v, he, ho, h1, h2⟩
theorem Two.len (S : SaysH Ra) (B : Firm Rb) (h : Two Ra Rb w a D us rs b E vs ss G wx) :
    Calls Try.prog 18 #[.pointer (some a)] wx fun e w' => e = .returned (.tuple #[.int .i64 us.length, .int .i64 rs.length]) ∧ Hid (Two Ra Rb w a D us rs b E vs ss G w') ∧ Hid (KeepsAt G wx w') := by
  refine (Two.call S.firm B (Q := fun e _ _ => e = .returned (.tuple #[.int .i64 us.length, .int .i64 rs.length])) h (fun F hr hF => (S.len F wx a D us rs hr).mono fun e w' ⟨he, hh⟩ => ⟨fun _ => False, he, fun k hk => hk.elim, hh⟩)).mono ?_
  rintro e w' ⟨N, he, _, h1, h2⟩
  exact ⟨he, Lib.hid (h1.out.less fun k hk => .inl hk), h2⟩
/-- A new history beside one (or beside none). -/
theorem Two.new (S : SaysH Ra) (B : Firm Rb) (h : Two Nil_ Rb w ⟨0, 0, none⟩ 0 [] [] b E vs ss G wx) (d : Int) (d1 : -9223372036854775808 ≤ d) (d2 : d ≤ 9223372036854775807) :
    Calls Try.prog 7 #[.int .i64 d] wx fun e w' => ∃ a, e = .returned (.pointer (some a)) ∧ Hid (Two Ra Rb w a (cutD d) [] [] b E vs ss G w') ∧ Hid (KeepsAt G wx w') := by
  obtain ⟨⟨F1, F2, h1, h2, h3, h4⟩, h5, h6⟩ := h
  refine (S.new wx d d1 d2).mono ?_
  rintro e w' ⟨a, F, he, hr, ho, hF⟩
  have hlt2 := B.lt F2 wx b E vs ss h2
  refine ⟨a, he, Lib.hid ⟨⟨F, F2, hr, B.frame F2 wx w' b E vs ss h2 (KeepsAt.of_only ho fun _ _ e => e), fun k hk => ⟨Nat.le_trans h5.size (hF k hk), fun e => ?_, fun e => ?_⟩, h4⟩, OnlyAt.below h5 ho h5.size fun k hk => hk.elim, fun k hk => Nat.lt_of_lt_of_le (h6 k hk) ho.size⟩, Lib.hid (KeepsAt.of_only ho fun _ _ e => e)⟩
  · have := hlt2 k e; have := hF k hk; omega
  · have := h6 k e; have := hF k hk; omega
theorem Two.start (w wx : World) (hb : Below w.heap.size w wx) : Two Nil_ Nil_ w ⟨0, 0, none⟩ 0 [] [] ⟨0, 0, none⟩ 0 [] [] (fun _ => False) wx :=
  ⟨⟨fun _ => False, fun _ => False, fun _ h => h, fun _ h => h, fun _ h => h.elim, fun _ h => h.elim⟩, hb, fun _ h => h.elim⟩
end
end Go.Proofs.Ytibccdbmdajijaa
