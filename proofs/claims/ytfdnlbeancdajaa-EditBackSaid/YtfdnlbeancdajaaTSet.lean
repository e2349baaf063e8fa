/- Set: an item in the place of another. -/
import Derived.Test.YtfdnlbeancdajaaTTree
namespace Go.Proofs.Ytfdnlbeancdajaa.Avl
open Go Go.RowKit
attribute [local go_sem] fld0 fld1 fld2 wrap_one wrap_zero

def setAct (x : It) : AT → AT
  | .nil => .nil
  | .node l _ r => .node l x r
theorem raw_item {w : World} {b : Nat} {lp rp : Option Addr} {x : It} {i s h : Int} (hb : w.heap[b]? = some (.cells (raw lp rp x i s h) 85 (0, 0))) (y : It) :
    ((w.setCell ⟨b, 2, none⟩ (.int .i64 y.1)).setCell ⟨b, 3, none⟩ (.int .i64 y.2)).heap[b]? = some (.cells (raw lp rp y i s h) 85 (0, 0)) := by
  simp only [World.setCell, Array.getElem?_modify, hb, raw]
  simp

set_option maxRecDepth 100000 in
theorem set_acts (kb zb : Nat) (x : It) (hx : x.2 ≤ 1099511627776) : Acts 78 #[] #[.pointer (some ⟨kb, 0, none⟩), .pointer (some ⟨zb, 0, none⟩)] (fun z => z = kb ∨ z = zb) (fun w => w.cell? ⟨kb, 0, none⟩ = some (.int .i64 x.1) ∧ w.cell? ⟨zb, 0, none⟩ = some (.int .i64 x.2))
    (fun t => t.Bal ∧ t ≠ .nil ∧ t.cnt ≤ 700000 ∧ t.tot ≤ 800000000000000000) (setAct x) (fun _ _ _ => True) where
  call := fun w pb po p t F hp hl hpn hT hC hO hc ht => by
    obtain ⟨hbal, hne, hc', ht'⟩ := hO
    cases t with
    | nil => exact absurd rfl hne
    | node l y r =>
    show Calls Try.prog 78 #[.pointer (some ⟨pb, po, none⟩), .pointer (some ⟨kb, 0, none⟩), .pointer (some ⟨zb, 0, none⟩)] w _
    obtain ⟨k0, z0⟩ := hC
    obtain ⟨b, lp, rp, Fl, Fr, rfl, rfl, hn⟩ := Stale.of_lies hl
    obtain ⟨iB, sB, hB, hbB⟩ := hn.here
    obtain ⟨c0, c1, c2, c3, -⟩ := raw_cells hbB
    have ff := fun o => raw_free hbB o
    have pc := hp.cell
    have hpb : pb ≠ b := fun e => hpn (by simp [e])
    have HP := Lib.hid hp
    have HN := Lib.hid hn
    have HB := Lib.hid hbB
    have HX := Lib.hid hpb
    clear hp hl hpn hT hc ht hbal hne hc' ht' hn hbB hpb
    go_enter Try.func78, Try.ntmps78
    go_wp2_with fail
    go_region
    go_wp2_with fail
    go_end0
    obtain ⟨w3, hw3⟩ : ∃ w3, w3 = ((w.setCell ⟨b, 2, none⟩ (.int .i64 x.1)).setCell ⟨b, 3, none⟩ (.int .i64 x.2)).drew := ⟨_, rfl⟩
    have h3 : w3.heap[b]? = some (.cells (raw lp rp x iB sB hB) 85 (0, 0)) := by rw [hw3]; exact raw_item HB.out x
    have ho : OnlyAt (fun z => z = b) w w3 := by rw [hw3]; exact ((only1 w ⟨b, 2, none⟩ _).trans (only1 _ ⟨b, 3, none⟩ _)).trans (OnlyAt.drew _ _)
    first | rw [← hw3] | (rw [← World.setCell_drew]; rw [← hw3])
    have hd := HN.out
    refine ⟨rfl, ho.mono fun z hz => .inr (.inl (by simp [show z = b from hz])), some ⟨b, 0, none⟩, b :: (Fl ++ Fr), ⟨b, lp, rp, Fl, Fr, rfl, rfl, ⟨⟨_, _, _, h3⟩, hd.left.only ho (fun z hz e => hd.nl ((show z = b from e) ▸ hz)), hd.right.only ho (fun z hz e => hd.nr ((show z = b from e) ▸ hz)), hd.nl, hd.nr, hd.apart⟩⟩, fun z hz => .inl hz, SetAt.same HP.out ho HX.out, trivial⟩
  keep := fun w w' S h ho hT => ⟨only_cell ho h.1 (hT kb (.inl rfl)), only_cell ho h.2 (hT zb (.inr rfl))⟩
  size := fun t h => by
    cases t with
    | nil => exact absurd rfl h.2.1
    | node l y r => simp only [setAct, AT.cnt, AT.tot]; omega
  up := fun _ _ _ _ _ _ _ _ => trivial
  mend := fun _ _ _ _ _ _ _ _ _ _ _ => trivial

def setT (x : It) (t : AT) (s : Sea) : AT := chg placeStep (setAct x) t s
theorem set_spec (x : It) : ∀ (t : AT) (i : Nat) (s : Sea), s.1 = i → i < t.cnt → t.Bal → (setT x t s).Bal ∧ (setT x t s).ht = t.ht ∧ (setT x t s).toL = t.toL.set i x
  | .nil, i, s, hs, h, _ => by simp [AT.cnt] at h
  | .node l y r, i, s, hs, h, ⟨h1, h2, h3, h4⟩ => by
    rw [setT]
    by_cases hc : i < l.cnt
    · have hw : placeStep s (.node l y r) = (.l, s) := by simp only [placeStep]; rw [if_pos (by omega)]
      rw [chg_l (by rw [hw]), hw]
      rw [show chg placeStep (setAct x) l (Way.l, s).2 = setT x l s from rfl]
      obtain ⟨b1, b2, b3⟩ := set_spec x l i s hs hc h1
      rw [AT.fix_same (by omega) (by omega)]
      refine ⟨⟨b1, h2, by omega, by omega⟩, by simp only [AT.ht, b2], ?_⟩
      rw [AT.toL, AT.toL, b3, List.set_append_left _ _ (by rw [AT.len]; exact hc)]
    · by_cases hd : i = l.cnt
      · have hw : placeStep s (.node l y r) = (.h, s) := by simp only [placeStep]; rw [if_neg (by omega), if_pos (by omega)]
        rw [chg_h (by rw [hw]), setAct, AT.fx, AT.fix_same h3 h4]
        refine ⟨⟨h1, h2, h3, h4⟩, rfl, ?_⟩
        rw [AT.toL, AT.toL, List.set_append_right _ _ (by rw [AT.len]; omega), AT.len, hd, Nat.sub_self]
        rfl
      · have hw : placeStep s (.node l y r) = (.r, s.pass l y) := by simp only [placeStep]; rw [if_neg (by omega), if_neg (by omega)]
        rw [chg_r (by rw [hw]), hw]
        rw [show chg placeStep (setAct x) r (Way.r, s.pass l y).2 = setT x r (s.pass l y) from rfl]
        obtain ⟨b1, b2, b3⟩ := set_spec x r (i - l.cnt - 1) (s.pass l y) (by simp only [Sea.pass]; omega) (by rw [AT.cnt] at h; omega) h2
        rw [AT.fix_same (by omega) (by omega)]
        refine ⟨⟨h1, b1, by omega, by omega⟩, by simp only [AT.ht, b2], ?_⟩
        rw [AT.toL, AT.toL, b3, List.set_append_right _ _ (by rw [AT.len]; omega), AT.len, show i - l.cnt = (i - l.cnt - 1) + 1 by omega]
        rfl

theorem Try.enters78 : ∀ args w, (callFunc 78 args).run Try.prog w = .ok (.enter 78 args) w := enters_of Try.func78 rfl rfl

set_option maxRecDepth 100000 in
set_option maxHeartbeats 4000000 in
theorem set_of {w : World} {ab : Nat} {p : Option Addr} {t : AT} {F : List Nat} (hT : TreeAt w ab p t F) (i : Nat) (key : Int) (size : Nat) (hi : i < t.cnt) (hz : size ≤ 1099511627776) (hb : t.Bal) (hc : t.cnt ≤ 65536) (ht : t.tot ≤ 72057594037927936) :
    Calls Try.prog 69 #[.pointer (some ⟨ab, 0, none⟩), .int .i64 i, .int .i64 key, .int .i64 size] w fun e w' => e = .returned (.bool true) ∧
      ∃ p' F' s, s.1 = (i : Int) ∧ TreeAt w' ab p' (setT (key, size) t s) F' ∧ (∀ z ∈ F', z ∈ F ∨ w.heap.size ≤ z) ∧ OnlyAt (fun z => z = ab ∨ z ∈ F) w w' := by
  have CH := Lib.hid (fun wx (hx : Below w.heap.size w wx) => has_of (hT.below hx) (i : Int) (by omega) (by omega))
  have HT := Lib.hid hT
  have HX := Lib.hid (And.intro hi (And.intro hz (And.intro hb (And.intro hc ht))))
  obtain ⟨I, hI⟩ : ∃ I : Int, I = i := ⟨_, rfl⟩
  obtain ⟨Z, hZ⟩ : ∃ Z : Int, Z = size := ⟨_, rfl⟩
  have z0 : 0 ≤ Z := by omega
  have z1 : Z ≤ 1099511627776 := by omega
  have CF := Lib.hid (fun wx => fits_of wx Z z0 z1)
  have HE := Lib.hid (And.intro hI hZ)
  rw [← hI] at CH
  rw [← hI, ← hZ]
  clear hT hi hz hb hc ht hI hZ z0 z1
  obtain ⟨w2, hw2⟩ : ∃ w2, w2 = (w.alloc (.cells #[.int .i64 key] 3)).alloc (.cells #[.int .i64 Z] 3) := ⟨_, rfl⟩
  have hb2 : Below w.heap.size w w2 := by rw [hw2]; exact below_alloc (below_alloc (Below.refl _ _) _) _
  have hk2 : w2.cell? ⟨w.heap.size, 0, none⟩ = some (.int .i64 key) := by
    rw [hw2]; simp only [World.cell?]; rw [look_old _ _ (by rw [World.size_alloc]; omega), look_same _ _ rfl]; rfl
  have hz2 : w2.cell? ⟨w.heap.size + 1, 0, none⟩ = some (.int .i64 Z) := by
    rw [hw2]; simp only [World.cell?]; rw [look_same _ _ (by rw [World.size_alloc])]; rfl
  have HK := Lib.hid (And.intro hk2 hz2)
  have HB2 := Lib.hid hb2
  have HW := Lib.hid hw2
  clear hk2 hb2 hw2
  have hmf := run_makeFunc
  go_enter Try.func69, Try.ntmps69
  go_wp2_with fail
  rw [← HW.out]
  refine (CH.out _ HB2.out).mono ?_
  rintro e w3 ⟨rfl, hb3⟩
  have k3 : w3.cell? ⟨w.heap.size, 0, none⟩ = some (.int .i64 key) := (hb3.cell (p := ⟨_, 0, none⟩) (World.block_lt_of_cell? w2 _ HK.out.1)).trans HK.out.1
  have z3 : w3.cell? ⟨w.heap.size + 1, 0, none⟩ = some (.int .i64 Z) := (hb3.cell (p := ⟨_, 0, none⟩) (World.block_lt_of_cell? w2 _ HK.out.2)).trans HK.out.2
  have HB3 := Lib.hid (HB2.out.trans (hb3.mono HB2.out.size))
  have K3 := Lib.hid (And.intro k3 z3)
  clear hb3 k3
  go_wp2_with fail
  refine (CF.out _).mono ?_
  rintro e w4 ⟨rfl, rfl⟩
  clear z3
  go_wp2_with fail
  obtain ⟨w6, hw6⟩ : ∃ w6, w6 = w4.alloc (.cells #[.int .i64 I, .int .i64 0, .int .i64 0, .int .i64 0] 79) := ⟨_, rfl⟩
  have hb6 : Below w4.heap.size w4 w6 := by rw [hw6]; exact (Below.refl _ _).alloc (Nat.le_refl _) _
  have hS : SAt w6 w4.heap.size I 0 0 := by rw [hw6]; exact search_new w4 I
  rw [← hw6]
  have hz := HB3.out.size
  have hT6 := (HT.out.below HB3.out).below hb6
  have hlow := HT.out.low
  obtain ⟨hi, hzz, hb, hc, ht⟩ := HX.out
  obtain ⟨hI, hZ⟩ := HE.out
  have lk := World.block_lt_of_cell? w4 _ K3.out.1
  have lz := World.block_lt_of_cell? w4 _ K3.out.2
  have k6 : w6.cell? ⟨w.heap.size, 0, none⟩ = some (.int .i64 key) := (hb6.cell (p := ⟨_, 0, none⟩) lk).trans K3.out.1
  have z6 : w6.cell? ⟨w.heap.size + 1, 0, none⟩ = some (.int .i64 size) := by rw [← hZ]; exact (hb6.cell (p := ⟨_, 0, none⟩) lz).trans K3.out.2
  have lk' : w.heap.size < w4.heap.size := lk
  have lz' : w.heap.size + 1 < w4.heap.size := lz
  have hz6 : w6.heap.size = w4.heap.size + 1 := by rw [hw6]; exact World.size_alloc _ _
  refine (change_any (place_leads' w4.heap.size) (set_acts w.heap.size (w.heap.size + 1) (key, size) hzz) Try.enters63 Try.enters78 place_goes (fun z h k => by omega) t (I, 0, 0) w6 ab 0 p F hT6.place hT6.lies hT6.out (fun z hz' => ?_) ?_ ⟨k6, z6⟩ ?_ (by omega) (by omega)).mono ?_
  · have hzl : z < w6.heap.size ∧ w.heap.size ≤ z := by rcases hz' with e | e | e <;> omega
    refine ⟨hzl.1, fun h => ?_, fun h => ?_⟩
    · have := hlow z (.inr h); omega
    · have := hlow z (.inl h); omega
  · exact sat_eq hS (by simp) rfl rfl
  · exact ⟨⟨by simp, by simp; omega, by simp, by simp; omega⟩, hb, by simp; omega, by simp; omega, by omega, by omega⟩
  rintro e w7 ⟨rfl, ho7, p7, F7, hl7, hF7, hset7, -⟩
  have hr7 : w7.heap[ab]? = some (.cells #[.pointer p7] 73 (0, 0)) := hset7 _ _ _ hT6.root
  have HR := Lib.hid hr7
  have HL := Lib.hid hl7
  have HF := Lib.hid (And.intro hF7 (And.intro hz6 lk'))
  have HO := Lib.hid (((OnlyAt.of_below (T := fun z => (z = ab ∨ z ∈ F) ∨ w.heap.size ≤ z) HB3.out).trans (OnlyAt.of_below hb6)).trans (ho7.mono fun z hz' => by
    rcases hz' with e | e | e | e | e
    · exact .inl (.inl e)
    · exact .inl (.inr e)
    · exact .inr (by omega)
    · exact .inr (by omega)
    · exact .inr (by omega)))
  clear hr7 hl7 hF7 hset7 ho7 hT6 hS hb6 hlow hi hzz hb hc ht hz6 hz hZ lk lz k6 z6 lk' lz' hI
  go_wp2_with fail
  go_ret
  obtain ⟨hF7, hz6, hz⟩ := HF.out
  refine ⟨rfl, p7, F7, (I, 0, 0), rfl, ⟨HR.out, HL.out, fun h => ?_⟩, fun z hz' => (hF7 z hz').imp id (fun h => by omega), HO.out.old⟩
  rcases hF7 ab h with e | e
  · exact HT.out.out e
  · have := HT.out.lt; omega
end Go.Proofs.Ytfdnlbeancdajaa.Avl
