/- Add, New and Len, by contract. -/
import Derived.Test.YtfdnlbeancdajaaProg
import Derived.Test.YtfdnlbeancdajaaBMem
import Derived.Test.YtfdnlbeancdajaaWhere
import Derived.StillTailTactics
import Derived.Deep.Cut
import Derived.Deep.CutRange
import Derived.Deep.CutBlock
import Derived.Lib.Hide
import Derived.WalkKit
import Derived.WalkSpells
import Derived.WalkLawsBesides
import Derived.IntWalk
import Derived.BigQuiet
import Derived.Deep.QuietTactic
import Derived.Below
import Derived.Outline
import Derived.WalkMore
namespace Go.Proofs.Ytfdnlbeancdajaa.Sto
open Go Go.RowKit

theorem zeros_size : Try.zeroCells120.size = 1024 := by kernel_rfl
set_option maxRecDepth 100000 in
theorem info40 : ∃ i : TypeInfo, Try.prog.info? 120 = some i ∧ i.zero = some (.agg Try.zeroCells120) ∧ i.size = 1024 := ⟨_, rfl, by kernel_rfl, by kernel_rfl⟩
theorem zero40 (w : World) : (zeroValue /-t-/120).run Try.prog w = .ok (.agg Try.zeroCells120) w := by
  obtain ⟨i, h1, h2, h3⟩ := info40
  simp [zeroValue, typeInfo, h1, h2]

/-- A text copied to where there is room for some of it. -/
theorem run_copy_part (w : World) (ty : TypeId) (g o dLen dCap k : Nat) (s : ByteArray) (cur : Array Value) (t : TypeId) (hg : w.heap[g]? = some (.cells cur t (0, 0))) (hk : k = min s.size dLen) (hfit : o + k ≤ cur.size) :
    (Builtin.copy_ #[/-t-/92, /-t-/9] ty #[.slice (some ⟨g, o, none⟩) dLen dCap, .string s]).run Try.prog w = .ok (.int .i64 (k : Int)) (w.setRow g (laid cur o k s)) := by
  have hr : s.data.toList.length = s.size := by rw [Array.length_toList]; rfl
  have hlen : (Lib.byteCells (s.data.toList.take k)).length = k := by rw [Lib.byteCells_length, List.length_take]; omega
  have hst := run_storeCells_at Try.prog g o t (Lib.byteCells (s.data.toList.take k)) 0 cur w hg (by rw [hlen]; simpa using hfit) (by
    intro v hv
    obtain ⟨x, _, rfl⟩ := List.mem_map.1 hv
    rfl)
  have hmin : Nat.min s.size dLen = k := hk.symm
  rw [hlen] at hst
  simp only [Nat.add_zero] at hst
  have hz : ∀ w, (Go.sizeOf /-t-/5).run Try.prog w = .ok 1 w := Try.sizeOf5
  have hmap : List.take k (List.map (fun b : UInt8 => Value.int IntKind.u8 (b.toNat : Int)) s.data.toList) = Lib.byteCells (s.data.toList.take k) := by
    rw [← List.map_take]; rfl
  simp [Builtin.copy_, run_underlying Try.underlying92, Builtin.lenOf, Builtin.firstCells, hz, hmin]
  rw [hmap, hst]
  simp [Result.andThen, laid, goInt]

theorem wpList_copy_part {w : World} {ops : Array Oper} {rest : List Oper} {o : Oper} {a : Act} {Q : Exit → Act → World → Prop} (hgd : o.guard = none) (d s : Operand)
    (ho : o.op = .call { callee := .builtin .copy, args := #[d, s], argTypes := #[/-t-/92, /-t-/9] }) (g off dLen dCap k : Nat) (r : ByteArray) (hd : a.eval d = .slice (some ⟨g, off, none⟩) dLen dCap) (hs : a.eval s = .string r)
    (cur : Array Value) (t : TypeId) (hg : w.heap[g]? = some (.cells cur t (0, 0))) (hk : k = min r.size dLen) (hfit : off + k ≤ cur.size)
    (h : wpList Try.prog ops Q rest (a.put o.dst (.int .i64 (k : Int))) (w.setRow g (laid cur off k r))) : wpList Try.prog ops Q (o :: rest) a w := by
  refine wpList_plain hgd fun K hK => ?_
  have hrun := run_copy_part w o.type g off dLen dCap k r cur t hg hk hfit
  unfold Oper.wp
  simp [execOp, ho, resolve, invoke, builtin, hd, hs, hrun, Result.andThen]
  exact hK _ _ h

set_option maxRecDepth 100000 in
theorem info38 : ∃ i : TypeInfo, Try.prog.info? 118 = some i ∧ i.zero = some (.pointer none) ∧ i.size = 1 ∧ i.bytes = 8 := ⟨_, rfl, rfl, rfl, rfl⟩

theorem cut_join (r : ByteArray) (k : Nat) (hk : k ≤ r.size) : r.extract 0 k ++ r.extract k r.size = r := by
  rw [ByteArray.extract_append_extract]
  rw [Nat.min_eq_left (Nat.zero_le _), Nat.max_eq_right hk]
  exact ByteArray.extract_zero_size

/-- How many bytes a text has (a measure's name). -/
def sizeOfText : Value → Nat
  | .string s => s.size
  | _ => 0

/-- Between two rounds: what is left to add, and a store of the rest. -/
def AddR (w : World) (b : Nat) (v : Value) (cs : List Nat) (all : ByteArray) (r : ByteArray) (wr : World) : Prop :=
  ∃ (u : ByteArray) (v' : Value) (cs' : List Nat), u ++ r = all ∧ Lies wr b v' cs' u ∧ cs'.length * 1024 < u.size + 1024 ∧ OnlyAt (Foot b v cs) w wr ∧ ∀ k, Foot b v' cs' k → Foot b v cs k ∨ w.heap.size ≤ k
/-- .. and room in the last chunk. -/
def AddM (w : World) (b : Nat) (v : Value) (cs : List Nat) (all : ByteArray) (r : ByteArray) (wr : World) : Prop :=
  ∃ (u : ByteArray) (v' : Value) (cs' : List Nat), u ++ r = all ∧ Lies wr b v' cs' u ∧ (u.size < cs'.length * 1024 ∧ cs'.length * 1024 ≤ u.size + 1024) ∧ OnlyAt (Foot b v cs) w wr ∧ ∀ k, Foot b v' cs' k → Foot b v cs k ∨ w.heap.size ≤ k

attribute [local go_sem] zero40 in
set_option maxRecDepth 100000 in
set_option maxHeartbeats 2000000 in
theorem add_any (w : World) (b : Nat) (v : Value) (cs : List Nat) (s t : ByteArray) (h : Lies w b v cs s) (ht : cs.length * 1024 < s.size + 1024) (hsz : s.size + t.size ≤ 1000000) :
    Calls Try.prog 52 #[.pointer (some ⟨b, 0, none⟩), .string t] w fun e w' => e = .returned (.int .i64 s.size) ∧ Hid (AddR w b v cs (s ++ t) ⟨#[]⟩ w') := by
  have c1 := h.cell1
  have H0 := Lib.hid (show AddR w b v cs (s ++ t) t w from ⟨s, v, cs, rfl, h, ht, OnlyAt.refl _ _, fun k hk => .inl hk⟩)
  have HZ := Lib.hid (show (s ++ t).size ≤ 1000000 by rw [ByteArray.size_append]; exact hsz)
  clear h ht
  go_enter Try.func52, Try.ntmps52
  go_wp2_with fail
  go_loopw [1] (fun x wr => ∃ r : ByteArray, x = .string r ∧ Hid (AddR w b v cs (s ++ t) r wr)) (fun x _ => sizeOfText x)
  case atStart => exact ⟨t, rfl, H0⟩
  case round =>
    obtain ⟨r, rfl, HR⟩ := hrel
    by_cases hr : r.size = 0
    · have hr0 : r = ⟨#[]⟩ := by
        cases r with | mk d => congr; exact Array.eq_empty_of_size_eq_zero hr
      subst hr0
      go_wp2_with fail
      go_ret
      exact ⟨rfl, HR⟩
    · have hr1 : (0 : Int) < r.size := by omega
      have hr2 : 0 < r.size := by omega
      obtain ⟨u, v1, cs1, hu, hL, hT, hO, hF⟩ := HR.out
      have c2 := hL.cell1
      have HL := Lib.hid hL
      have HT := Lib.hid hT
      have HO := Lib.hid hO
      have HF := Lib.hid hF
      have HU := Lib.hid hu
      have hus : (u.size : Int) ≤ 1000000 := by have h1 := HZ.out; have h2 := congrArg ByteArray.size hu; rw [ByteArray.size_append] at h2; omega
      clear hu hL hT hO hF hr c1 hsz
      go_upto_if 19 with fail
      go_cut [1] from 11 to 60 (fun x wx => x = .string r ∧ Hid (AddM w b v cs (s ++ t) r wx))
      case first =>
        by_cases h0 : u.size % 1024 = 0
        · have e0 : (u.size : Int).tmod 1024 = 0 := by rw [Int.tmod_eq_emod_of_nonneg (by omega)]; omega
          have e1 : (u.size : Int) % 1024 = 0 := by omega
          have hs0 : u.size = cs1.length * 1024 := by have := HL.out.fits; have := HT.out; omega
          have HS := Lib.hid hs0
          have c0 := HL.out.cell0
          have hcl : cs1.length ≤ 1000000 := by omega
          obtain ⟨i0, hi, hz0, hz1, hz2⟩ := info38
          clear h0 hs0
          go_wp2_with (at_builtin; refine wpList_append_where _ rfl _ _ /-t-/108 rfl 0 /-t-/118 i0 (.pointer none) 1 8 Try.underlying108 hi hz0 hz1 hz2 rfl (by decide) v1 cs1.length (ptrs cs1) rfl ((HL.out.row.alloc _).alloc _) ⟨wr.heap.size + 1, 0, none⟩ 1 1 [.pointer (some ⟨wr.heap.size, 0, none⟩)] rfl rfl ?c1 ?c2 ?c3 ?c4 ?c5 ?_)
          case c1 =>
            intro j x hj
            match j, hj with
            | 0, hj =>
              simp only [List.getElem?_cons_zero, Option.some.injEq] at hj
              subst hj
              rw [add_at]
              have hh := World.alloc_heap_new (wr.alloc (.cells Try.zeroCells120 /-t-/120)) (.cells #[.pointer (some ⟨wr.heap.size, 0, none⟩)] /-t-/118)
              rw [World.size_alloc] at hh
              simp only [World.cell?, hh]
              rfl
          case c2 => intro x hx; simp only [List.mem_singleton] at hx; subst hx; rfl
          case c3 => unfold maxLen; omega
          case c4 => omega
          case c5 => exact Nat.zero_le _
          intro v2 w3 hrow hg hwh
          have hho : OnlyAt (fun _ => False) wr ((wr.alloc (.cells Try.zeroCells120 /-t-/120)).alloc (.cells #[.pointer (some ⟨wr.heap.size, 0, none⟩)] /-t-/118)) := (OnlyAt.alloc _ _ _).trans (OnlyAt.alloc _ _ _)
          have hh2 : ((wr.alloc (.cells Try.zeroCells120 /-t-/120)).alloc (.cells #[.pointer (some ⟨wr.heap.size, 0, none⟩)] /-t-/118)).heap[wr.heap.size]? = some (.cells Try.zeroCells120 /-t-/120 (0, 0)) :=
            (Below.heap_alloc _ _ _ (by simp)).trans (World.alloc_heap_new _ _)
          have hb3 : w3.heap[b]? = some (.cells #[v1, .int .i64 (u.size : Int)] /-t-/110 (0, 0)) :=
            ((hg.block b (Nat.lt_of_lt_of_le (HL.out.lt b (.inl rfl)) hho.size) (fun e => HL.out.row_ne e.symm)).trans (hho.block b (HL.out.lt b (.inl rfl)) (fun hf => hf))).trans HL.out.cell
          have HM := Lib.hid (HL.out.more HS.out zeros_size rfl hho hh2 hrow hg (by simpa using hwh))
          have d0 : w3.cell? ⟨b, 0, none⟩ = some v1 := by simp [World.cell?, hb3]
          have f0 : w3.frozen? ⟨b, 0, none⟩ = false := by simp [World.frozen?, hb3]
          obtain ⟨ao, n', cap, rfl⟩ : ∃ ao n' cap, v2 = .slice ao n' cap := by
            rcases hrow.2 with ⟨hv, _⟩ | ⟨g, cap, cur, hv, _⟩
            · exact ⟨_, _, _, hv⟩
            · exact ⟨_, _, _, hv⟩
          clear hho hh2 hb3 hrow hg hwh c0 c2
          go_wp2_with fail
          go_meet
          case rel =>
            have hlen : (cs1 ++ [wr.heap.size]).length = cs1.length + 1 := by simp
            refine ⟨rfl, u, _, cs1 ++ [wr.heap.size], HU.out, HM.out.1, ⟨?_, ?_⟩, ?_, fun k hk => ?_⟩
            · have := HS.out; omega
            · have := HS.out; omega
            · exact HO.out.then HM.out.2.1 HF.out
            · rcases HM.out.2.2 k hk with h1 | h1
              · exact HF.out k h1
              · exact .inr (Nat.le_trans HO.out.size h1)
        · have e0 : 0 < (u.size : Int).tmod 1024 := by rw [Int.tmod_eq_emod_of_nonneg (by omega)]; omega
          have e1 : 0 < (u.size : Int) % 1024 := by omega
          go_wp2_with fail
          go_meet
          case rel =>
            refine ⟨rfl, u, v1, cs1, HU.out, HL.out, ⟨?_, ?_⟩, HO.out, HF.out⟩
            · have := HL.out.fits; omega
            · have := HT.out; omega
      case rest =>
        obtain ⟨rfl, HM⟩ := hcut
        clear HL HT HO HF HU c2 hus
        obtain ⟨u2, v2, cs2, hu, hL, ⟨hT1, hT2⟩, hO, hF⟩ := HM.out
        obtain ⟨c, hc⟩ : ∃ c, cs2[u2.size / 1024]? = some c := ⟨_, List.getElem?_eq_getElem (by omega)⟩
        obtain ⟨g, cap, hv, hcap, hcg⟩ := hL.list hc
        subst hv
        obtain ⟨arr, harr, has, _⟩ := hL.chunk _ _ hc
        obtain ⟨o, ho⟩ : ∃ o : Nat, o = u2.size % 1024 := ⟨_, rfl⟩
        obtain ⟨j, hj⟩ : ∃ j : Nat, j = u2.size / 1024 := ⟨_, rfl⟩
        obtain ⟨k, hk⟩ : ∃ k : Nat, k = min r.size (1024 - o) := ⟨_, rfl⟩
        have hus : (u2.size : Int) ≤ 1000000 := by have h1 := HZ.out; have h2 := congrArg ByteArray.size hu; rw [ByteArray.size_append] at h2; omega
        have d0 : wc.drew.cell? ⟨b, 0, none⟩ = some (.slice (some ⟨g, 0, none⟩) cs2.length cap) := hL.cell0
        have d1 : wc.drew.cell? ⟨b, 1, none⟩ = some (.int .i64 u2.size) := hL.cell1
        have d2 : wc.drew.cell? ⟨g, j, none⟩ = some (.pointer (some ⟨c, 0, none⟩)) := by rw [hj]; exact hcg
        have e1 : (u2.size : Int).tdiv 1024 = (j : Int) := by rw [Int.tdiv_eq_ediv_of_nonneg (by omega)]; omega
        have e2 : (u2.size : Int).tmod 1024 = (o : Int) := by rw [Int.tmod_eq_emod_of_nonneg (by omega)]; omega
        have e3 : IntKind.i64.wrap (j : Int) = j := IntWalk.i64_in _ (by omega)
        have e4 : IntKind.i64.wrap (o : Int) = o := IntWalk.i64_in _ (by omega)
        have l1 : j < cs2.length := by omega
        have l2 : o < 1024 := by omega
        have l7 : ¬ 1024 = o := by omega
        have l3 : (0 : Int) ≤ j := by omega
        have l4 : (j : Int) < cs2.length := by omega
        have l5 : (0 : Int) ≤ o := by omega
        have l6 : (o : Int) ≤ 1024 := by omega
        have HL := Lib.hid hL
        have HA := Lib.hid harr
        have HO := Lib.hid ho
        have HJ := Lib.hid hj
        have HK := Lib.hid hk
        have HC := Lib.hid hc
        have HU2 := Lib.hid hu
        have HT2 := Lib.hid (And.intro hT1 hT2)
        have HO2 := Lib.hid hO
        have HF2 := Lib.hid hF
        clear hL harr hu hT1 hT2 hO hF hc ho hj hk hcg
        go_wp2_with fail
        go_still_tail 19, (by kernel_rfl)
        change wpList _ _ _ _ _ wc.drew
        refine wpList_copy_part rfl _ _ rfl c o _ _ k r rfl rfl arr /-t-/120 HA.out ?hk ?hfit ?_
        case hk => have := HK.out; omega
        case hfit => have := HK.out; rw [has]; omega
        have HM2 := Lib.hid (Lies.copied (w := wc.drew) (HL.out.frame (fun _ _ => rfl)) HC.out HO.out HA.out (k := k) (r := r) (by have := HK.out; omega) (by have := HK.out; omega))
        have hcb : c ≠ b := (HL.out.chunk_ne (List.mem_of_getElem? HC.out)).1
        have m1 : (wc.drew.setRow c (laid arr o k r)).cell? ⟨b, 1, none⟩ = some (.int .i64 u2.size) := (cell_setRow_other _ _ _ _ (fun e => hcb e.symm)).trans d1
        have f1 : (wc.drew.setRow c (laid arr o k r)).frozen? ⟨b, 1, none⟩ = false := by
          have hh : (wc.drew.setRow c (laid arr o k r)).heap[b]? = some (.cells #[.slice (some ⟨g, 0, none⟩) cs2.length cap, .int .i64 u2.size] /-t-/110 (0, 0)) := (setRow_other _ _ _ _ (fun e => hcb e.symm)).trans HL.out.cell
          simp [World.frozen?, hh]
        obtain ⟨wd, hwd⟩ : ∃ wd, wd = wc.drew.setRow c (laid arr o k r) := ⟨_, rfl⟩
        rw [← hwd] at HM2 m1 f1
        rw [← hwd]
        clear hwd d0 d1 d2 hcb
        have k1 : (k : Int) ≤ r.size := by have := HK.out; omega
        have k2 : (0 : Int) ≤ k := by omega
        have k3 : (u2.size : Int) + k ≤ 2000000 := by have := HK.out; omega
        go_wp2_with fail
        have hM := HM2.out
        rw [Int.natCast_add] at hM
        have hk2 := HK.out
        have hsz3 : (u2 ++ r.extract 0 k).size = u2.size + k := by rw [ByteArray.size_append, ByteArray.size_extract]; omega
        refine ⟨⟨_, rfl, u2 ++ r.extract 0 k, _, cs2, ?_, hM.1, ?_, HO2.out.then ⟨hM.2.os, hM.2.tape, hM.2.output, hM.2.size, hM.2.block⟩ HF2.out, HF2.out⟩, ?_⟩
        · rw [ByteArray.append_assoc, cut_join r k (by omega)]; exact HU2.out
        · rw [hsz3]
          have h1 := HT2.out
          have h2 := HO.out
          omega
        · have : (r.extract k r.size).size = r.size - k := by rw [ByteArray.size_extract]; omega
          simp only [sizeOfText, this]
          have := HO.out
          omega

/-- A new store of nothing. -/
theorem lies_new (w : World) : Lies (w.alloc (.cells #[.slice none 0 0, .int .i64 0] /-t-/110)) w.heap.size (.slice none 0 0) [] ⟨#[]⟩ :=
  ⟨World.alloc_heap_new _ _, World.ownsRow_nil _ _ _ _, fun j c h => by simp at h, List.nodup_nil, Nat.le_refl _⟩

set_option maxRecDepth 100000 in
set_option maxHeartbeats 1000000 in
theorem new_any (w : World) (f : ByteArray) (hf : f.size ≤ 1000000) :
    Calls Try.prog 33 #[.string f] w fun e w' => ∃ (b : Nat) (v : Value) (cs : List Nat), e = .returned (.pointer (some ⟨b, 0, none⟩)) ∧ Lies w' b v cs f ∧ cs.length * 1024 < f.size + 1024 ∧
      OnlyAt (fun _ => False) w w' ∧ ∀ k, Foot b v cs k → w.heap.size ≤ k := by
  have CA := Lib.hid (add_any (w.alloc (.cells #[.slice none 0 0, .int .i64 0] /-t-/110)) w.heap.size (.slice none 0 0) [] ⟨#[]⟩ f (lies_new w) (by show 0 * 1024 < 0 + 1024; omega) (by show 0 + f.size ≤ _; omega))
  go_enter Try.func33, Try.ntmps33
  go_wp2_with (go_at_call 52; refine (CA.out).mono ?_; rintro e w1 ⟨rfl, H⟩)
  go_ret
  obtain ⟨u, v, cs, hu, hL, hT, hO, hF⟩ := H.out
  have hu2 : u = f := by
    rw [show (⟨#[]⟩ : ByteArray) = ByteArray.empty from rfl, ByteArray.append_empty, ByteArray.empty_append] at hu
    exact hu
  subst hu2
  have hnew : ∀ k, Foot w.heap.size (.slice none 0 0) [] k → w.heap.size ≤ k := by
    rintro k (rfl | hk | hk)
    · exact Nat.le_refl _
    · cases hk
    · cases hk
  refine ⟨_, v, cs, rfl, hL, hT, ((OnlyAt.alloc _ _ _).trans (hO.mono (T' := fun k => w.heap.size ≤ k) hnew)).fresh, fun k hk => ?_⟩
  rcases hF k hk with h | h
  · exact hnew k h
  · simp at h; omega
end Go.Proofs.Ytfdnlbeancdajaa.Sto
