/- EditBack out of what is asked of a buffer and of edit: edits are done, and go back, the last one first. -/
import Derived.Test.YtfdnlbeancdajaaEBackOf
import Derived.Deep.RegionHeld3
import Derived.Deep.RegionLaw
import Derived.Deep.AppendLies
import Derived.Deep.RegionWith
import Derived.Deep.DeepCutAuto
import Derived.BigRegion
import Derived.Laws.Rows
namespace Go.Proofs.Ytfdnlbeancdajaa.Cl
open Go Go.RowKit
variable {R : Nat → (Nat → Prop) → World → Addr → ByteArray → Nat → Nat → Nat → Prop} {u u' : Nat}

theorem al_one (w : World) (o : Obj) : (w.alloc o).drew.heap[w.heap.size]? = some o := World.alloc_heap_new w o
theorem al_two (w : World) (o p : Obj) : ((w.alloc o).alloc p).drew.heap[w.heap.size + 1]? = some p := by
  have := World.alloc_heap_new (w.alloc o) p
  rw [World.size_alloc] at this
  exact this
theorem al_old (w : World) (o p : Obj) : ((w.alloc o).alloc p).drew.heap[w.heap.size]? = some o :=
  (Below.heap_alloc (w.alloc o) p w.heap.size (by simp)).trans (World.alloc_heap_new w o)
theorem sCells_snoc (L : List ItE) (x : ItE) : sCells (L ++ [x]) = sCells L ++ [.string x.T] := by unfold sCells; rw [List.map_append]; rfl
theorem eCells_snoc (L : List ItE) (x : ItE) : eCells (L ++ [x]) = eCells L ++ [.int .i64 x.k, .string x.d, .string x.t] := by unfold eCells; rw [List.flatMap_append]; rfl
/-- What the rounds of the first loop keep. -/
def Keeps1 (R : Nat → (Nat → Prop) → World → Addr → ByteArray → Nat → Nat → Nat → Prop) (w : World) (a : Addr) (s : ByteArray) (v1 v2 : Value) (j : Nat) (wr : World) : Prop :=
  ∃ (L : List ItE) (cur : ByteArray) (u : Nat), (L.length = j ∧ Steps s L cur ∧ Clean cur ∧ cur.size ≤ 1000 + 13 * j ∧ u ≤ 6000 * j) ∧ R2 (R u) (fun _ => False) w a cur v1 j (sCells L) v2 j (eCells L) wr
theorem Keeps1.next {w wr : World} {a : Addr} {s t D S : ByteArray} {L : List ItE} {P u j : Nat} {v1 v2 : Value} (hI : L.length = j ∧ Steps s L t ∧ Clean t ∧ t.size ≤ 1000 + 13 * j ∧ u ≤ 6000 * j) (hG : Good ⟨t, P, D, S⟩) (hS : S.size ≤ 13) (ht : t.size ≤ 1600)
    (h : R2 (R (u + S.size + t.size)) (fun _ => False) w a (nextT ⟨t, P, D, S⟩) v1 (j + 1) (sCells L ++ [.string t]) v2 (j + 1) (eCells L ++ [.int .i64 P, .string D, .string S]) wr) : Keeps1 R w a s v1 v2 (j + 1) wr := by
  obtain ⟨h1, h2, h3, h4, h5⟩ := hI
  have hb : (nextT ⟨t, P, D, S⟩).size ≤ 1000 + 13 * (j + 1) := by
    rw [hG.size]
    show t.size - D.size + S.size ≤ 1000 + 13 * (j + 1)
    clear h2 h3 hG h
    omega
  have hu : u + S.size + t.size ≤ 6000 * (j + 1) := by
    clear h2 h3 hG h hb
    omega
  refine ⟨L ++ [⟨t, P, D, S⟩], nextT ⟨t, P, D, S⟩, u + S.size + t.size, ⟨by rw [List.length_append, h1]; rfl, Steps.snoc (x := ⟨t, P, D, S⟩) h2 hG, hG.clean, hb, hu⟩, ?_⟩
  rw [sCells_snoc, eCells_snoc]
  exact h
theorem own_slice {w : World} {B e size n : Nat} {v : Value} {xs : List Value} (h : w.ownsRow B e size v n xs) : ∃ A c, v = .slice A n c := by
  rcases h.2 with ⟨rfl, rfl⟩ | ⟨g, cap, cur, rfl, _⟩
  · exact ⟨none, 0, rfl⟩
  · exact ⟨_, _, rfl⟩
/-- Numbers in a slice. -/
def NumsU (w : World) (A : Option Addr) (n cap : Nat) (zs : List Int) : Prop :=
  zs.length = n ∧ n ≤ cap ∧ cap ≤ maxLen ∧ ∀ (j : Nat) z, zs[j]? = some z → ∃ b off, A = some ⟨b, off, none⟩ ∧ b < w.heap.size ∧ w.cell? ⟨b, off + j, none⟩ = some (.int .i64 z)

set_option maxRecDepth 100000 in
set_option maxHeartbeats 24000000 in
theorem back_in (S : SaysP) (B : SaysB R) (U : SaysUndo R) (A0 A : Option Addr) (n0 cap0 n cap : Nat) (zs : List Int) (off : Int) (w : World) (hT : ∀ wx, Below w.heap.size w wx → Calls Try.prog 17 #[.slice A0 n0 cap0] wx (Short 1000 wx)) (hz : NumsU w A n cap zs) (hn : n ≤ 40) (b1 : -9223372036854775808 ≤ off) (b2 : off ≤ 9223372036854775807) :
    Calls Try.prog 5 #[.slice A0 n0 cap0, .slice A n cap, .int .i64 off] w fun e w' => e = .returned (.bool true) ∧ Below w.heap.size w w' := by
  obtain ⟨i1, hi1, hz10, hz11, hz12⟩ := info_parts Try.infos9
  obtain ⟨i2, hi2, hz20, hz21, hz22⟩ := info_parts Try.infos23
  have W7 := Lib.hid (awake_any S)
  have CT := Lib.hid (hT w (Below.refl _ _))
  have hcl : clamp 5000 = 5000 := by decide
  have C1 := Lib.hid (fun wx (s : ByteArray) (hs : s.size ≤ 1000) => B.new wx s 5000 (by rw [hcl]; omega) (by omega) (by omega))
  rw [hcl] at C1
  have n5 : (n : Int) ≤ 40 := by omega
  have HO := Lib.hid hz
  have HN := Lib.hid hn
  have HK := Lib.hid B
  have HU := Lib.hid U
  clear S B U hn hT hcl hz
  go_enter Try.func5, Try.ntmps5
  go_wp2_with fail
  refine CT.out.mono ?_
  rintro e w0 ⟨s, rfl, hs, hsc, hb0⟩
  have H0 := Lib.hid (And.intro hs (And.intro hsc hb0))
  clear hs hsc hb0
  go_wp2_with fail
  refine (C1.out _ _ H0.out.1).mono ?_
  rintro e w1 ⟨a, F, p, h, rfl, hr1, ho1, hf1⟩
  have H1 := Lib.hid (R2.start (Holds.new (X := fun _ => False) H0.out.2.2 hr1 ho1 hf1 (fun _ h => h.elim)))
  clear hr1 ho1 hf1
  go_wp2_with fail
  have hdz : decide ((40 : Int) < n) = false := decide_eq_false (by omega)
  try simp only [hdz]
  clear hdz
  go_loopw [10, 11, 12] (fun v1 v2 i wr => ∃ (j : Nat), j ≤ n ∧ i = .int .i64 j ∧ Hid (Keeps1 R w a s v1 v2 j wr)) (fun _ _ i _ => n - (RowKit.intOf i).toNat)
  case atStart => exact ⟨0, Nat.zero_le _, rfl, [], s, 0, ⟨rfl, Steps.nil s, H0.out.2.1, by have := H0.out.1; omega, Nat.le_refl _⟩, H1.out⟩
  case round =>
    obtain ⟨j, hj, rfl, HL⟩ := hrel
    obtain ⟨L, t, u, hL, hR⟩ := HL.out
    have HT := Lib.hid hR
    have HI := Lib.hid hL
    clear hR hL HL
    have j0 : (0 : Int) ≤ j := by omega
    by_cases hjn : j < n
    · have jn : (j : Int) < n := by omega
      obtain ⟨z, hz⟩ : ∃ z, zs[j]? = some z := ⟨_, List.getElem?_eq_getElem (by rw [HO.out.1]; exact hjn)⟩
      obtain ⟨b, of, rfl, hb, k0⟩ := HO.out.2.2.2 j z hz
      have l0 := (HT.out.below.cell (p := ⟨b, _, none⟩) hb).trans k0
      have i2' : t.size ≤ 1600 := by have := HI.out.2.2.2.1; have := HN.out; omega
      obtain ⟨k, hk⟩ : ∃ k : Int, z % 1073741824 = k := ⟨_, rfl⟩
      have q0 : 0 ≤ k := by omega
      have q1 : k < 1073741824 := by omega
      have c11 : ∀ wx, Calls Try.prog 18 #[.int .i64 z, .int .i64 1073741824] wx fun e w' => e = .returned (.int .i64 k) ∧ wx = w' := fun wx => by
        rw [← hk]; exact place_any z 1073741824 wx (by omega) (by omega)
      have C11 := Lib.hid c11
      have CX := Lib.hid (show ∀ wx v1 v2, Hid (R2 (R u) (fun _ => False) w a t v1 j (sCells L) v2 j (eCells L) wx) → Calls Try.prog 16 #[.pointer (some a)] wx fun e w' => e = .returned (.string t) ∧ Hid (R2 (R u) (fun _ => False) w a t v1 j (sCells L) v2 j (eCells L) w') from fun wx v1 v2 hx => (R2.call hx.out (fun _ h => h.elim) (fun F p hh hr => HK.out.text F wx a t 5000 p hh hr)).mono fun e w' h => ⟨h.1, Lib.hid h.2.1⟩)
      clear c11 hz k0 hk hb
      go_wp2_with fail
      refine (C11.out _).mono ?_
      rintro e wq ⟨rfl, rfl⟩
      go_wp2_with fail
      refine (CX.out _ _ _ HT).mono ?_
      rintro e w2 ⟨rfl, H2⟩
      obtain ⟨N, hN⟩ : ∃ N : Int, (t.size : Int) = N := ⟨_, rfl⟩
      have bN : 0 ≤ N ∧ N ≤ 1600 := by omega
      obtain ⟨P, eP⟩ : ∃ P : Nat, k % (N + 1) = P := ⟨(k % (N + 1)).toNat, by have := Int.emod_nonneg k (show N + 1 ≠ 0 by omega); omega⟩
      have bP : (P : Int) ≤ N := by have := Int.emod_lt_of_pos k (show 0 < N + 1 by omega); omega
      have eP2 : k.tmod (N + 1) = P := by rw [Int.tmod_eq_emod_of_nonneg q0]; exact eP
      obtain ⟨Y, eY⟩ : ∃ Y : Int, k.tdiv 1000 = Y := ⟨_, rfl⟩
      have bY : 0 ≤ Y ∧ Y < 1073741824 := by rw [Int.tdiv_eq_ediv_of_nonneg q0] at eY; omega
      obtain ⟨V, eV⟩ : ∃ V : Int, k.tdiv 30000 = V := ⟨_, rfl⟩
      have bV : 0 ≤ V ∧ V < 1073741824 := by rw [Int.tdiv_eq_ediv_of_nonneg q0] at eV; omega
      obtain ⟨Z0, eZ0⟩ : ∃ Z0 : Int, Y.tmod (N - P + 1) = Z0 := ⟨_, rfl⟩
      have bZ0 : 0 ≤ Z0 ∧ Z0 ≤ N - P := by
        rw [Int.tmod_eq_emod_of_nonneg bY.1] at eZ0
        have := Int.emod_nonneg Y (show N - P + 1 ≠ 0 by omega)
        have := Int.emod_lt_of_pos Y (show 0 < N - P + 1 by omega)
        omega
      obtain ⟨Z, eZ⟩ : ∃ Z : Nat, Z0.tmod 30 = Z := ⟨(Z0.tmod 30).toNat, by rw [Int.tmod_eq_emod_of_nonneg bZ0.1]; omega⟩
      have bZ : (Z : Int) ≤ Z0 ∧ (Z : Int) < 30 := by rw [Int.tmod_eq_emod_of_nonneg bZ0.1] at eZ; omega
      have wf1 : IntKind.i64.wrap (N + 1) = N + 1 := IntWalk.i64_in _ (by omega)
      have wf2 : IntKind.i64.wrap (P : Int) = P := IntWalk.i64_in _ (by omega)
      have wf3 : IntKind.i64.wrap Y = Y := IntWalk.i64_in _ (by omega)
      have wf4 : IntKind.i64.wrap (N - P) = N - P := IntWalk.i64_in _ (by omega)
      have wf5 : IntKind.i64.wrap (N - P + 1) = N - P + 1 := IntWalk.i64_in _ (by omega)
      have wf6 : IntKind.i64.wrap Z0 = Z0 := IntWalk.i64_in _ (by omega)
      have wf7 : IntKind.i64.wrap (Z : Int) = Z := IntWalk.i64_in _ (by omega)
      have wf8 : IntKind.i64.wrap V = V := IntWalk.i64_in _ (by omega)
      have nz : ¬ (N + 1 = 0) := by omega
      have nz2 : ¬ (N - P + 1 = 0) := by omega
      have HQ := Lib.hid (And.intro bN (And.intro bP (And.intro bZ bZ0)))
      clear bN bP bY bV bZ0 bZ
      go_wp2_with fail
      refine (piece_any V w2).mono ?_
      rintro e w5 ⟨S, rfl, hS, hSC, hb5⟩
      have H5 := Lib.hid (R2.on HK.out H2.out hb5)
      have hPZ : P + Z ≤ t.size := by have := HQ.out; omega
      obtain ⟨g1, g2, g3, g4⟩ := do_good t S P Z hPZ (by omega) hS
      have gd := good_of hPZ (show t.size ≤ 2000 by omega) hS HI.out.2.2.1 hSC
      have hu : u + S.size + t.size ≤ 1000000 := by have := HI.out.2.2.2.2; have := HN.out; omega
      have CD := Lib.hid ((R2.call H5.out (fun _ h => h.elim) (fun F p hh hr => HK.out.do_ F w5 a t 5000 p hh P Z S hr hu (by omega) (by have := HQ.out; omega) (by omega) (by have := HQ.out; omega))).mono fun e w' h => show e = .returned (.tuple #[EdV P (t.extract P (P + Z)) S, .int .i64 0]) ∧ Hid (R2 (R (u + S.size + t.size)) (fun _ => False) w a (nextT ⟨t, P, t.extract P (P + Z), S⟩) _ j (sCells L) _ j (eCells L) w') from ⟨by rw [h.1, g1, g2], Lib.hid (g3 ▸ h.2.1)⟩)
      obtain ⟨D, hD⟩ : ∃ D, t.extract P (P + Z) = D := ⟨_, rfl⟩
      rw [hD] at CD gd g4
      simp only [EdV] at CD
      have HG := Lib.hid (And.intro gd (And.intro hS (And.intro hu hSC)))
      have g5 : (D.size : Int) = Z := by omega
      clear g1 g2 g3 g4 gd hS hu hSC hb5 H2 hPZ hD CX C11
      go_wp2_with fail
      refine CD.out.mono ?_
      rintro e w6 ⟨rfl, H6⟩
      clear CD
      have hV1 : ∀ g, Value.ownBlock u10 = some g → g < w6.heap.size := fun g hg => (H6.out.one.lt g hg).2
      go_wp2_with fail
      obtain ⟨w7, hw7⟩ : ∃ w7, w7 = w6.alloc (.cells #[.int .i64 P, .string D, .string S] /-t-/23) := ⟨_, rfl⟩
      obtain ⟨ge, hge⟩ : ∃ ge, ge = w6.heap.size := ⟨_, rfl⟩
      rw [← hw7, ← hge]
      have hz7 : w7.heap.size = ge + 1 := by rw [hw7, hge, World.size_alloc]
      have hE7 : w7.heap[ge]? = some (.cells #[.int .i64 P, .string D, .string S] /-t-/23 (0, 0)) := by rw [hw7, hge]; exact World.alloc_heap_new _ _
      have HR7 := Lib.hid (R2.on HK.out H6.out (show Below w6.heap.size w6 w7 from hw7 ▸ (Below.refl _ _).alloc (Nat.le_refl _) _))
      rw [← hge] at hV1
      have HV1 := Lib.hid hV1
      have HE7 := Lib.hid hE7
      have HZ7 := Lib.hid hz7
      have HN40 := Lib.hid (show j ≤ 100 by have := HN.out; omega)
      have cE : ∀ wx : World, wx.heap[ge]? = some (.cells #[.int .i64 P, .string D, .string S] /-t-/23 (0, 0)) → wx.cell? ⟨ge, 0, none⟩ = some (.int .i64 P) ∧ wx.cell? ⟨ge, 1, none⟩ = some (.string D) ∧ wx.cell? ⟨ge, 2, none⟩ = some (.string S) := fun wx h => by
        refine ⟨?_, ?_, ?_⟩ <;> simp [World.cell?, h]
      have cA : ∀ o : Obj, (w7.alloc o).drew.heap[ge]? = some (.cells #[.int .i64 P, .string D, .string S] /-t-/23 (0, 0)) := fun o => (Below.heap_alloc w7 _ _ (by omega)).trans hE7
      obtain ⟨c0, c1, c2⟩ := cE w7 hE7
      obtain ⟨d0, d1, d2⟩ := cE w7.drew hE7
      obtain ⟨f0, f1, f2⟩ := cE _ (cA (.cells #[.string t] /-t-/9))
      have HCE := Lib.hid cE
      clear hw7 hge hV1 hE7 hz7 cE cA H6 wf1 wf2 wf3 wf4 wf5 wf6 wf7 wf8 eP eP2 eY eV eZ0 eZ
      go_region_law (first
        | (refine step_one (u := u + S.size + t.size) (w := w) (a := a) (T := nextT ⟨t, P, D, S⟩) (v1 := u10) (v2 := u11) (n1 := j) (n2 := j) (x1 := sCells L) (x2 := eCells L) HK.out (by rfl) _ _ (by rfl) (by (first | exact HR7.out | exact R2.on HK.out HR7.out ((Below.refl _ _).alloc (Nat.le_refl _) _) | exact R2.on HK.out HR7.out (below_drewN (Below.refl _ _) 1) | exact R2.on HK.out HR7.out (below_drewN ((Below.refl _ _).alloc (Nat.le_refl _) _) 1) | exact R2.on HK.out HR7.out (below_drewN (((Below.refl _ _).alloc (Nat.le_refl _) _).alloc (by simp) _) 1) | exact R2.on HK.out HR7.out (((below_drewN (Below.refl _ _) 1).alloc (Nat.le_refl _) _).alloc (by simp) _))) (by rfl) _ _ t (by rfl) (by (first | exact World.alloc_heap_new _ _ | exact al_one _ _ | exact al_two _ _ _ | exact al_old _ _ _)) HN40.out ?_
           intro v8 w8 r8
           have HR8 := Lib.hid r8
           obtain ⟨z0, z1, z2⟩ := HCE.out w8 ((r8.2.2 ge (by simp; have := HZ7.out; omega) (fun e => by have := HV1.out _ e; omega)).trans (by (first | exact (Below.heap_alloc _ _ _ (by (have := HZ7.out; first | omega | (simp; omega)))).trans HE7.out | exact (Below.heap_alloc _ _ _ (by (have := HZ7.out; first | omega | (simp; omega)))).trans ((Below.heap_alloc _ _ _ (by (have := HZ7.out; first | omega | (simp; omega)))).trans HE7.out))))
           clear r8)
        | (refine step_two (u := u + S.size + t.size) (w := w) (a := a) (T := nextT ⟨t, P, D, S⟩) (v1 := v8) (v2 := u11) (n1 := j + 1) (n2 := j) (x1 := sCells L ++ [.string t]) (x2 := eCells L) HK.out (by rfl) _ _ (by rfl) (by (first | exact HR8.out.1 | exact R2.on HK.out HR8.out.1 ((Below.refl _ _).alloc (Nat.le_refl _) _) | exact R2.on HK.out HR8.out.1 (below_drewN (Below.refl _ _) 1) | exact R2.on HK.out HR8.out.1 (below_drewN ((Below.refl _ _).alloc (Nat.le_refl _) _) 1) | exact R2.on HK.out HR8.out.1 (below_drewN (((Below.refl _ _).alloc (Nat.le_refl _) _).alloc (by simp) _) 1) | exact R2.on HK.out HR8.out.1 (((below_drewN (Below.refl _ _) 1).alloc (Nat.le_refl _) _).alloc (by simp) _))) (by rfl) _ _ _ _ _ (by rfl) (by (first | exact World.alloc_heap_new _ _ | (refine (HR8.out.2.2 _ (by first | (simp; done) | (simp; omega)) (fun e => by have h1 := HV1.out _ e; have h2 := HZ7.out; first | omega | (simp at h1; omega))).trans ?_; (first | exact World.alloc_heap_new _ _ | exact al_one _ _ | exact al_two _ _ _ | exact al_old _ _ _)))) HN40.out ?_
           intro v9 w9 r9
           have HR9 := Lib.hid r9
           clear r9))
      all_goals
        have HX := Lib.hid (Keeps1.next HI.out HG.out.1 HG.out.2.1 i2' HR9.out)
        clear HR9 HR8
        go_wp2_with fail
        go_roundw
        case rel => exact ⟨j + 1, by omega, by go_num, HX⟩
        case measure => simp [RowKit.intOf]; omega
    · obtain rfl : j = n := by omega
      clear hj hjn
      obtain ⟨s1, s2, s3, s4, s5⟩ := HI.out
      obtain ⟨A2, c2, e2⟩ := own_slice HT.out.two
      obtain ⟨A1, c1, e1⟩ := own_slice HT.out.one
      subst e1 e2
      have HST := Lib.hid (And.intro s1 (And.intro s2 s5))
      have HT2 := Lib.hid (show ∃ u', u' ≤ u + (j - j) * 12000 ∧ R2 (R u') (fun _ => False) w a (txt L t j) (.slice A1 j c1) j (sCells L) (.slice A2 j c2) j (eCells L) wr from ⟨u, by omega, by rw [← s1, txt_end, s1]; exact HT.out⟩)
      clear s1 s2 s3 s4 s5 HI
      go_wp2_with fail
      go_loopw [19] (fun i wr => ∃ m : Nat, m ≤ j ∧ i = .int .i64 ((m : Int) - 1) ∧ Hid (∃ u', u' ≤ u + (j - m) * 12000 ∧ R2 (R u') (fun _ => False) w a (txt L t m) (.slice A1 j c1) j (sCells L) (.slice A2 j c2) j (eCells L) wr)) (fun i _ => (RowKit.intOf i + 1).toNat)
      case atStart => exact ⟨j, Nat.le_refl _, rfl, HT2⟩
      case round =>
        obtain ⟨m, hm, rfl, HV⟩ := hrel
        obtain ⟨u1, hu1, hR1⟩ := HV.out
        have HV1 := Lib.hid hR1
        have HUU := Lib.hid hu1
        clear hu1 HV
        rcases Nat.eq_zero_or_pos m with h0 | h0
        · subst h0
          have CT0 := Lib.hid ((R2.call hR1 (fun _ h => h.elim) (fun F p hh hr => HK.out.text F _ a _ 5000 p hh hr)).mono fun e w' h => show e = .returned (.string s) ∧ Hid (R2 (R u1) (fun _ => False) w a (txt L t 0) (.slice A1 j c1) j (sCells L) (.slice A2 j c2) j (eCells L) w') from ⟨by rw [h.1, HST.out.2.1.first], Lib.hid h.2.1⟩)
          have hl := list_eq s s
          rw [decide_eq_true rfl] at hl
          clear hR1
          go_wp2_with fail
          refine CT0.out.mono ?_
          rintro e w4 ⟨rfl, H4⟩
          go_wp2_with fail
          refine (W7.out _).mono ?_
          rintro e w5 ⟨rfl, hb5⟩
          have HB := Lib.hid (H4.out.below.trans (hb5.mono H4.out.below.size))
          clear hb5
          go_wp2_with fail
          go_ret
          exact ⟨rfl, HB.out⟩
        · obtain ⟨q, rfl⟩ : ∃ q, m = q + 1 := ⟨m - 1, by omega⟩
          obtain ⟨x, hx⟩ : ∃ x, L[q]? = some x := ⟨_, List.getElem?_eq_getElem (by rw [HST.out.1]; omega)⟩
          obtain ⟨g1, _, e1, _, _, _, _⟩ := own_open hR1.one (by omega)
          obtain ⟨g2, _, e2, _, _, _, _⟩ := own_open hR1.two (by omega)
          cases e1
          cases e2
          obtain ⟨y1, y2, y3, y4⟩ := rows_at hR1 (by omega) hx
          have hqi : (((q + 1 : Nat) : Int) - 1) = q := by omega
          have gd := HST.out.2.1.good q x hx
          have hlk := HST.out.2.1.link q x hx
          have htx := txt_in (cur := t) hx
          have q0 : (0 : Int) ≤ q := by omega
          have qj : (q : Int) < j := by omega
          have HG := Lib.hid gd
          have HL := Lib.hid hlk
          have HX := Lib.hid (And.intro hx htx)
          rw [← hlk] at hR1
          have HR1 := Lib.hid hR1
          clear hR1 hlk htx hx gd HV1
          simp only [hqi]
          go_upto_region 24 with fail
          obtain ⟨w1', hw1⟩ : ∃ w1', w1' = wr.alloc (.cells #[.int .i64 x.k, .string x.d, .string x.t] /-t-/23) := ⟨_, rfl⟩
          obtain ⟨gb, hgb⟩ : ∃ gb, gb = wr.heap.size := ⟨_, rfl⟩
          rw [← hw1, ← hgb]
          have hz1 : gb < w1'.heap.size := by rw [hw1, hgb, World.size_alloc]; omega
          have hE1 : w1'.heap[gb]? = some (.cells #[.int .i64 x.k, .string x.d, .string x.t] /-t-/23 (0, 0)) := by rw [hw1, hgb]; exact World.alloc_heap_new _ _
          have cE : ∀ wx : World, wx.heap[gb]? = some (.cells #[.int .i64 x.k, .string x.d, .string x.t] /-t-/23 (0, 0)) → wx.cell? ⟨gb, 2, none⟩ = some (.string x.t) ∧ wx.frozen? ⟨gb, 2, none⟩ = false := fun wx h => by
            refine ⟨?_, ?_⟩ <;> simp [World.cell?, World.frozen?, h]
          obtain ⟨z0, z1⟩ := cE w1' hE1
          obtain ⟨z2, z3⟩ := cE w1'.drew hE1
          have ts := HG.out.short
          have tz : ¬ 9223372036854775807 < x.t.size + 1 := by omega
          have HE1 := Lib.hid hE1
          have HZ1 := Lib.hid hz1
          have HCE := Lib.hid cE
          have HW1 := Lib.hid (And.intro hw1 hgb)
          clear hw1 hgb hE1 hz1 cE y1 y2 y3 y4
          go_cut [] (fun wx => ∃ I : ByteArray, I.size ≤ 100 ∧ Hid (¬ Clean I) ∧ Hid (P2 (R u1) w a (nextT x) g1 c1 g2 c2 j L gb x.k x.d I wx))
          case first =>
            go_region_with ((go_at_call 20; refine (digits_any off _ b1 b2).mono ?_; rintro e w5 ⟨dg, rfl, hdg, hb5⟩; obtain ⟨z5, z6⟩ := HCE.out w5 ((hb5.block _ HZ1.out).trans HE1.out); have tz2 : ¬ 9223372036854775807 < x.t.size + 1 + dg.size := (by omega); have tz3 : ¬ 9223372036854775807 < (x.t ++ ⟨#[0]⟩).size + dg.size := (by rw [ByteArray.size_append]; exact tz2)))
            all_goals
              have hp : P2 (R u1) w a (nextT x) g1 c1 g2 c2 j L gb x.k x.d (x.t ++ ⟨#[0]⟩ ++ dg) (w5.setCell ⟨gb, 2, none⟩ (.string (x.t ++ ⟨#[0]⟩ ++ dg))) := by
                have hb : Below w1'.heap.size w1' w5 := (below_drewN (Below.refl _ _) 1).trans hb5
                rw [HW1.out.2]
                rw [HW1.out.1] at hb
                exact P2.begin HK.out HR1.out hb
              have hnc := not_clean x.t dg
              have hIs : (x.t ++ ⟨#[0]⟩ ++ dg).size ≤ 100 := by
                rw [ByteArray.size_append, ByteArray.size_append]
                have : (⟨#[0]⟩ : ByteArray).size = 1 := rfl
                omega
              go_wp2_with fail
              go_meet
              exact ⟨_, hIs, Lib.hid hnc, Lib.hid hp⟩
          case rest =>
            obtain ⟨I, hIs, hnc0, hp0⟩ := hcut
            have hnc := hnc0.out
            have hp := hp0.out
            clear hnc0 hp0 z0 z1 z2 z3 tz
            obtain ⟨w6, hw6⟩ : ∃ w6, w6 = wc := ⟨_, rfl⟩
            rw [← hw6] at hp ⊢
            clear hw6
            obtain ⟨N, hN, hns, ug1, ug2, hNc⟩ := HG.out.next
            obtain ⟨hds, hku, hts⟩ := HG.out.sizes
            rw [hN] at hp
            have HP := Lib.hid hp
            obtain ⟨ub1, ub2⟩ := undo_bad (s := N) 5000 x.k x.d hNc hnc
            have hu1 : u1 ≤ 240000 + 480000 := by have := HUU.out; have := HST.out.2.2; have := HN.out; omega
            obtain ⟨u2, hu2⟩ : ∃ u2, u2 = u1 + x.d.size + N.size := ⟨_, rfl⟩
            obtain ⟨u3, hu3⟩ : ∃ u3, u3 = u2 + x.d.size + N.size := ⟨_, rfl⟩
            have HUX := Lib.hid (show u3 ≤ u + (j - q) * 12000 by have := HUU.out; omega)
            have HJ0 := Lib.hid (show 0 < j by omega)
            have HX1 := Lib.hid HX.out.1
            have CU1 := Lib.hid (fun wx (h : Hid (P2 (R u1) w a N g1 c1 g2 c2 j L gb x.k x.d I wx)) => by
              have := P2.undo HU.out h.out x.k x.d I (by omega) (by omega) (by omega) (by omega)
              rw [ub1, ub2, ← hu2] at this
              exact this.mono fun e w' h => show e = .returned (.int .i64 2) ∧ Hid (P2 (R u2) w a N g1 c1 g2 c2 j L gb x.k x.d I w') ∧ ((w'.cell? ⟨gb, 0, none⟩ = some (.int .i64 x.k) ∧ w'.cell? ⟨gb, 1, none⟩ = some (.string x.d) ∧ w'.cell? ⟨gb, 2, none⟩ = some (.string I)) ∧
                (w'.cell? ⟨g1, q, none⟩ = some (.string x.T) ∧ w'.cell? ⟨g2, q * 3, none⟩ = some (.int .i64 x.k) ∧ w'.cell? ⟨g2, q * 3 + 1, none⟩ = some (.string x.d) ∧ w'.cell? ⟨g2, q * 3 + 2, none⟩ = some (.string x.t))) from ⟨h.1, h.2, P2.cells h.2 HJ0 HX1⟩)
            have CU2 := Lib.hid (fun wx (h : Hid (P2 (R u2) w a N g1 c1 g2 c2 j L gb x.k x.d I wx)) => by
              have := P2.undo HU.out h.out x.k x.d x.t (by omega) (by omega) (by omega) (by omega)
              rw [ug1, ug2, ← hu3] at this
              exact this.mono fun e w' h => show e = .returned (.int .i64 0) ∧ Hid (P2 (R u3) w a x.T g1 c1 g2 c2 j L gb x.k x.d I w') ∧ ((w'.cell? ⟨gb, 0, none⟩ = some (.int .i64 x.k) ∧ w'.cell? ⟨gb, 1, none⟩ = some (.string x.d) ∧ w'.cell? ⟨gb, 2, none⟩ = some (.string I)) ∧
                (w'.cell? ⟨g1, q, none⟩ = some (.string x.T) ∧ w'.cell? ⟨g2, q * 3, none⟩ = some (.int .i64 x.k) ∧ w'.cell? ⟨g2, q * 3 + 1, none⟩ = some (.string x.d) ∧ w'.cell? ⟨g2, q * 3 + 2, none⟩ = some (.string x.t))) from ⟨h.1, h.2, P2.cells h.2 HJ0 HX1⟩)
            have CTX := Lib.hid (fun (u : Nat) (T : ByteArray) wx (h : Hid (P2 (R u) w a T g1 c1 g2 c2 j L gb x.k x.d I wx)) => (P2.text HK.out h.out).mono fun e w' h => show e = .returned (.string T) ∧ Hid (P2 (R u) w a T g1 c1 g2 c2 j L gb x.k x.d I w') ∧ ((w'.cell? ⟨gb, 0, none⟩ = some (.int .i64 x.k) ∧ w'.cell? ⟨gb, 1, none⟩ = some (.string x.d) ∧ w'.cell? ⟨gb, 2, none⟩ = some (.string I)) ∧
                (w'.cell? ⟨g1, q, none⟩ = some (.string x.T) ∧ w'.cell? ⟨g2, q * 3, none⟩ = some (.int .i64 x.k) ∧ w'.cell? ⟨g2, q * 3 + 1, none⟩ = some (.string x.d) ∧ w'.cell? ⟨g2, q * 3 + 2, none⟩ = some (.string x.t))) from ⟨h.1, h.2, P2.cells h.2 HJ0 HX1⟩)
            have hl1 := list_eq N N
            have hl2 := list_eq x.T x.T
            rw [decide_eq_true rfl] at hl1 hl2
            simp only [EdV] at CU1 CU2
            clear hp hnc hIs ub1 ub2 ug1 ug2 hds hns hku hu1 ts hN hNc hts hu2 hu3
            go_wp2_with fail
            refine (CTX.out _ _ _ HP).mono ?_
            rintro e w7 ⟨rfl, H7, hs7⟩
            have H7d := Lib.hid (P2.drew HK.out H7.out)
            have hs := P2.cells H7d HJ0 HX1
            clear hs7
            go_wp2_with fail
            go_region_held3 (fun wx => ((wx.cell? ⟨gb, 0, none⟩ = some (.int .i64 x.k) ∧ wx.cell? ⟨gb, 1, none⟩ = some (.string x.d) ∧ wx.cell? ⟨gb, 2, none⟩ = some (.string I)) ∧
                (wx.cell? ⟨g1, q, none⟩ = some (.string x.T) ∧ wx.cell? ⟨g2, q * 3, none⟩ = some (.int .i64 x.k) ∧ wx.cell? ⟨g2, q * 3 + 1, none⟩ = some (.string x.d) ∧ wx.cell? ⟨g2, q * 3 + 2, none⟩ = some (.string x.t))))
              (exact hs)
              (first
                | (go_at_call 16; have hG := G3; clear hG; refine Calls.mono (CTX.out _ _ _ G3) ?_; rintro e wn ⟨rfl, G4, hs⟩)
                | (go_at_call 21; have hG := G2; clear hG; refine Calls.mono (CU2.out _ G2) ?_; rintro e wn ⟨rfl, G3, hs⟩)
                | (go_at_call 16; have hG := G1; clear hG; refine Calls.mono (CTX.out _ _ _ G1) ?_; rintro e wn ⟨rfl, G2, hs⟩)
                | (go_at_call 21; have hG := H7d; clear hG; refine Calls.mono (CU1.out _ H7d) ?_; rintro e wn ⟨rfl, G1, hs⟩))
            go_wp2_with fail
            refine ⟨⟨q, by omega, rfl, Lib.hid ⟨u3, HUX.out, ?_⟩⟩, ?_⟩
            · rw [HX.out.2]; exact G4.out.r.forget
            · simp [RowKit.intOf]

set_option maxRecDepth 100000 in
set_option maxHeartbeats 1000000 in
theorem back_out (S : SaysP) (A0 A : Option Addr) (n0 cap0 n cap : Nat) (off : Int) (w : World) (h : 40 < n) (hn : n ≤ 9223372036854775807) :
    Calls Try.prog 5 #[.slice A0 n0 cap0, .slice A n cap, .int .i64 off] w fun e w' => e = .returned (.bool true) ∧ Below w.heap.size w w' := by
  have W7 := Lib.hid (awake_any S)
  have a1 : (40 : Int) < (n : Int) := by omega
  have a2 : (n : Int) ≤ 9223372036854775807 := by omega
  clear S h hn
  go_enter Try.func5, Try.ntmps5
  go_wp2_with fail
  refine (W7.out _).mono ?_
  rintro e w7 ⟨rfl, hb7⟩
  have HB7 := Lib.hid hb7
  clear hb7
  go_wp2_with fail
  go_ret
  exact ⟨rfl, HB7.out⟩
end Go.Proofs.Ytfdnlbeancdajaa.Cl
