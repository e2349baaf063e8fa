/- The leads of a search, and first; what Insert and Remove do at a place. -/
import Derived.Test.YtfdnlbeancdajaaTChange
import Derived.Test.YtfdnlbeancdajaaTSearch
namespace Go.Proofs.Ytfdnlbeancdajaa.Avl
open Go Go.RowKit
attribute [local go_sem] fld0 fld1 fld2 wrap_one wrap_zero

/-- A search: what it still wants, how many items are ahead, and of what size. -/
abbrev Sea := Int × Int × Int
def Sea.pass (s : Sea) (l : AT) (x : It) : Sea := (s.1 - l.cnt - 1, s.2.1 + l.cnt + 1, s.2.2 + l.tot + x.2)
def Sea.St (sb : Nat) (s : Sea) (w : World) : Prop := SAt w sb (s.2.1 + s.1) s.2.1 s.2.2
def Sea.StZ (sb : Nat) (s : Sea) (w : World) : Prop := SAt w sb (s.2.2 + s.1) s.2.1 s.2.2
def Sea.Ok (t : AT) (s : Sea) : Prop := 0 ≤ s.2.1 ∧ s.2.1 + t.cnt ≤ 1000000 ∧ 0 ≤ s.2.2 ∧ s.2.2 + t.tot ≤ 1000000000000000000
theorem Sea.ok_l {l r : AT} {x : It} {s : Sea} (h : Sea.Ok (.node l x r) s) : Sea.Ok l s := by
  simp only [Sea.Ok, AT.cnt, AT.tot] at h ⊢; omega
theorem Sea.ok_r {l r : AT} {x : It} {s : Sea} (h : Sea.Ok (.node l x r) s) : Sea.Ok r (s.pass l x) := by
  simp only [Sea.Ok, AT.cnt, AT.tot, Sea.pass] at h ⊢; omega
/-- A search by sizes. -/
def Sea.passZ (s : Sea) (l : AT) (x : It) : Sea := (s.1 - l.tot - x.2, s.2.1 + l.cnt + 1, s.2.2 + l.tot + x.2)
theorem Sea.ok_rZ {l r : AT} {x : It} {s : Sea} (h : Sea.Ok (.node l x r) s) : Sea.Ok r (s.passZ l x) := by
  simp only [Sea.Ok, AT.cnt, AT.tot, Sea.passZ] at h ⊢; omega

def gapStep (s : Sea) : AT → Way × Sea
  | .nil => (.h, s)
  | .node l x _ => if s.1 ≤ l.cnt then (.l, s) else (.r, s.pass l x)
def placeStep (s : Sea) : AT → Way × Sea
  | .nil => (.h, s)
  | .node l x _ => if s.1 < l.cnt then (.l, s) else if s.1 = l.cnt then (.h, s) else (.r, s.pass l x)
def endStep (s : Sea) : AT → Way × Sea
  | .nil => (.h, s)
  | .node l x _ => if s.1 < l.tot then (.l, s) else if s.1 < l.tot + x.2 then (.h, (s.1 - l.tot, s.2.1 + l.cnt, s.2.2 + l.tot)) else (.r, s.passZ l x)
def firstStep (_ : Unit) : AT → Way × Unit
  | .nil => (.h, ())
  | .node .nil _ _ => (.h, ())
  | .node (.node _ _ _) _ _ => (.l, ())

theorem sat_eq {w : World} {sb : Nat} {W A S W' A' S' : Int} (h : SAt w sb W A S) (h1 : W = W') (h2 : A = A') (h3 : S = S') : SAt w sb W' A' S' := by subst h1 h2 h3; exact h

theorem gap_leads (sb : Nat) : Leads 37 #[.pointer (some ⟨sb, 0, none⟩)] #[] (fun z => z = sb) (Sea.St sb) Sea.Ok gapStep where
  call := fun s w b lp rp x l r Fl Fr hn hS hO hT hc ht => by
    have hsb : sb ∉ b :: (Fl ++ Fr) := fun h => hT sb h rfl
    show Calls Try.prog 37 #[.pointer (some ⟨sb, 0, none⟩), .pointer (some ⟨b, 0, none⟩)] w _
    have hO' := hO
    simp only [Sea.Ok, AT.cnt, AT.tot] at hO'
    by_cases h : s.1 ≤ l.cnt
    · simp only [gapStep, if_pos h]
      exact gap_left hS hn hsb (by omega) (by omega) (by omega)
    · simp only [gapStep, if_neg h]
      refine (gap_right hS hn hsb (by omega) (by omega) (by omega)).mono fun e w' ⟨he, hs, ho⟩ => ⟨he, ?_, ho⟩
      exact sat_eq hs (by simp only [Sea.pass]; omega) rfl rfl
  keep := fun s w w' S h ho hT => h.only ho (hT sb rfl)
theorem place_leads (sb : Nat) : Leads 63 #[.pointer (some ⟨sb, 0, none⟩)] #[] (fun z => z = sb) (Sea.St sb) Sea.Ok placeStep where
  call := fun s w b lp rp x l r Fl Fr hn hS hO hT hc ht => by
    have hsb : sb ∉ b :: (Fl ++ Fr) := fun h => hT sb h rfl
    show Calls Try.prog 63 #[.pointer (some ⟨sb, 0, none⟩), .pointer (some ⟨b, 0, none⟩)] w _
    have hO' := hO
    simp only [Sea.Ok, AT.cnt, AT.tot] at hO'
    by_cases h : s.1 < l.cnt
    · simp only [placeStep, if_pos h]
      exact place_left hS hn hsb (by omega) (by omega) (by omega)
    · by_cases h2 : s.1 = l.cnt
      · simp only [placeStep, if_neg h, if_pos h2]
        exact place_here hS hn hsb (by omega) (by omega) (by omega)
      · simp only [placeStep, if_neg h, if_neg h2]
        refine (place_right hS hn hsb (by omega) (by omega) (by omega)).mono fun e w' ⟨he, hs, ho⟩ => ⟨he, ?_, ho⟩
        exact sat_eq hs (by simp only [Sea.pass]; omega) rfl rfl
  keep := fun s w w' S h ho hT => h.only ho (hT sb rfl)
theorem end_leads (sb : Nat) : Leads 62 #[.pointer (some ⟨sb, 0, none⟩)] #[] (fun z => z = sb) (Sea.StZ sb) Sea.Ok endStep where
  call := fun s w b lp rp x l r Fl Fr hn hS hO hT hc ht => by
    have hsb : sb ∉ b :: (Fl ++ Fr) := fun h => hT sb h rfl
    show Calls Try.prog 62 #[.pointer (some ⟨sb, 0, none⟩), .pointer (some ⟨b, 0, none⟩)] w _
    have hO' := hO
    simp only [Sea.Ok, AT.cnt, AT.tot] at hO'
    by_cases h : s.1 < l.tot
    · simp only [endStep, if_pos h]
      exact end_left hS hn hsb (by omega) (by omega) (by omega)
    · by_cases h2 : s.1 < l.tot + x.2
      · simp only [endStep, if_neg h, if_pos h2]
        refine (end_here hS hn hsb (by omega) (by omega) (by omega)).mono fun e w' ⟨he, hs, ho⟩ => ⟨he, ?_, ho⟩
        exact sat_eq hs (show s.2.2 + s.1 = s.2.2 + l.tot + (s.1 - l.tot) by omega) rfl rfl
      · simp only [endStep, if_neg h, if_neg h2]
        refine (end_right hS hn hsb (by omega) (by omega) (by omega)).mono fun e w' ⟨he, hs, ho⟩ => ⟨he, ?_, ho⟩
        exact sat_eq hs (by simp only [Sea.passZ]; omega) rfl rfl
  keep := fun s w w' S h ho hT => h.only ho (hT sb rfl)

set_option maxRecDepth 100000 in
theorem first_leads (Ok : AT → Unit → Prop) : Leads 80 #[] #[] (fun _ => False) (fun (_ : Unit) _ => True) Ok firstStep where
  call := fun s w b lp rp x l r Fl Fr hn hS hO hT hc ht => by
    show Calls Try.prog 80 #[.pointer (some ⟨b, 0, none⟩)] w _
    obtain ⟨c0, -⟩ := hn.cells
    cases l with
    | nil =>
      obtain ⟨rfl, -⟩ := hn.left
      clear hn hS hO hT hc ht
      simp only [firstStep]
      go_enter Try.func80, Try.ntmps80
      go_wp2_with fail
      go_ret
      exact ⟨rfl, trivial, OnlyAt.refl _ _⟩
    | node a y m =>
      obtain ⟨u, ap, mp, Fa, Fm, rfl, -⟩ := hn.left
      clear hn hS hO hT hc ht
      simp only [firstStep]
      go_enter Try.func80, Try.ntmps80
      go_wp2_with fail
      go_ret
      exact ⟨rfl, trivial, OnlyAt.refl _ _⟩
  keep := fun _ _ _ _ _ _ _ => trivial

/-- What Insert does at a place: a node of nothing beside. -/
def putAct (x : It) : AT → AT := fun _ => .node .nil x .nil
set_option maxRecDepth 100000 in
theorem put_acts (kb zb : Nat) (x : It) (hx : x.2 ≤ 1099511627776) : Acts 38 #[] #[.pointer (some ⟨kb, 0, none⟩), .pointer (some ⟨zb, 0, none⟩)] (fun z => z = kb ∨ z = zb) (fun w => w.cell? ⟨kb, 0, none⟩ = some (.int .i64 x.1) ∧ w.cell? ⟨zb, 0, none⟩ = some (.int .i64 x.2))
    (fun t => t = .nil) (putAct x) (fun _ _ _ => True) where
  call := fun w pb po p t F hp hl hpn hT hC hO hc ht => by
    subst hO
    obtain ⟨rfl, rfl⟩ := hl
    show Calls Try.prog 38 #[.pointer (some ⟨pb, po, none⟩), .pointer (some ⟨kb, 0, none⟩), .pointer (some ⟨zb, 0, none⟩)] w _
    obtain ⟨k0, z0⟩ := hC
    have hb : Below w.heap.size w (w.alloc (.cells #[.pointer none, .pointer none, .int .i64 x.1, .int .i64 x.2, .int .i64 0, .int .i64 0, .int .i64 0] 85)) := (Below.refl _ _).alloc (Nat.le_refl _) _
    have hp1 := hp.only (OnlyAt.of_below (T := fun _ => False) hb) id
    have pc := hp1.cell
    have pf := hp1.free
    have HP := Lib.hid hp
    have HB := Lib.hid hb
    have HL := Lib.hid hp.lt
    clear hp hpn hT hc ht hb hp1
    go_enter Try.func38, Try.ntmps38
    go_wp2_with fail
    go_end0
    have hlt := HL.out
    obtain ⟨wa, hwa⟩ : ∃ wa, wa = w.alloc (.cells #[.pointer none, .pointer none, .int .i64 x.1, .int .i64 x.2, .int .i64 0, .int .i64 0, .int .i64 0] 85) := ⟨_, rfl⟩
    have hn : wa.heap[w.heap.size]? = some (.cells (raw none none x 0 0 0) 85 (0, 0)) := by rw [hwa]; exact look_same w _ rfl
    have hba : Below w.heap.size w wa := by rw [hwa]; exact HB.out
    rw [← hwa]
    have h1 := only1 wa ⟨pb, po, none⟩ (.pointer (some ⟨w.heap.size, 0, none⟩))
    refine ⟨rfl, (OnlyAt.of_below hba).trans (h1.mono fun z hz => .inl hz), some ⟨w.heap.size, 0, none⟩, [w.heap.size], ⟨w.heap.size, none, none, [], [], rfl, rfl, ⟨⟨_, _, _, (set_other wa _ _ (show w.heap.size ≠ pb by omega)).trans hn⟩, Lies.nil, Lies.nil, by simp, by simp, by simp⟩⟩, fun z hz => .inr (by simp at hz; omega), ?_, trivial⟩
    exact (SetAt.of_set wa ⟨pb, po, none⟩ _ rfl).before (OnlyAt.of_below (T := fun _ => False) hba) id
  keep := fun w w' S h ho hT => ⟨only_cell ho h.1 (hT kb (.inl rfl)), only_cell ho h.2 (hT zb (.inr rfl))⟩
  size := fun t h => by subst h; simp [putAct, AT.cnt, AT.tot]; exact hx
  up := fun _ _ _ _ _ _ _ _ => trivial
  mend := fun _ _ _ _ _ _ _ _ _ _ _ => trivial
end Go.Proofs.Ytfdnlbeancdajaa.Avl
