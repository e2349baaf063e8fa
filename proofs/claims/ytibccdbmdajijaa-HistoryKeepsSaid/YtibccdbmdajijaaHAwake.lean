/- Stage 8's laws' awake, out of what is asked of a history's calls. -/
import Derived.Test.YtibccdbmdajijaaHLaws
namespace Go.Proofs.Ytibccdbmdajijaa
open Go Go.RowKit
variable {R : (Nat → Prop) → World → Addr → Nat → List (List Ed) → List (List Ed) → Prop}

set_option maxRecDepth 100000 in
set_option maxHeartbeats 1000000 in
theorem awake_any (S : SaysH R) (w : World) : Calls Try.prog 9 #[] w fun e w' => e = .returned (.bool true) ∧ Below w.heap.size w w' := by
  have HS := Lib.hid S
  have C1 := Lib.hid ((Two.start w w (Below.refl _ _)).new S Nil_.firm 0 (by omega) (by omega))
  have C2 := Lib.hid (fun wx a (h : Hid (Two R Nil_ w a (cutD 0) [] [] ⟨0, 0, none⟩ 0 [] [] (fun _ => False) wx)) => h.out.swap.new S S.firm 3 (by omega) (by omega))
  clear S
  go_enter Try.func9, Try.ntmps9
  go_wp2_with fail
  refine C1.out.mono ?_
  rintro e w1 ⟨a, rfl, H1, -⟩
  go_wp2_with fail
  refine (C2.out _ _ H1).mono ?_
  rintro e w2 ⟨b, rfl, H2, -⟩
  have H3 := Lib.hid ((H2.out.add HS.out.firm HS.out.firm (.cells #[.int .i64 0, .string ⟨#[]⟩, .string ⟨#[120]⟩] /-t-/31)).swap)
  have hr := RowAt.lit w2 [⟨0, ⟨#[]⟩, ⟨#[120]⟩⟩] #[.int .i64 0, .string ⟨#[]⟩, .string ⟨#[120]⟩] /-t-/31 rfl (by decide)
  have HR := Lib.hid hr
  have C3 := Lib.hid (H3.out.push HS.out HS.out.firm hr (fun b h => .inr (by cases h; rfl)) (by decide))
  rw [show pushU (cutD 0) [] [(⟨0, ⟨#[]⟩, ⟨#[120]⟩⟩ : Ed)] = [] from rfl, show pushR [] [(⟨0, ⟨#[]⟩, ⟨#[120]⟩⟩ : Ed)] = [] from rfl] at C3
  clear hr C1 C2 H1
  go_wp2_with fail
  refine C3.out.mono ?_
  rintro e w4 ⟨rfl, H4, hk4⟩
  have hr4 := HR.out.keep hk4.out.size (fun b _ h => hk4.out.block b (by cases h; simp) (.inr (by cases h; rfl)))
  have C4 := Lib.hid (H4.out.swap.push HS.out HS.out.firm hr4 (fun b h => .inr (by cases h; rfl)) (by decide))
  rw [show pushU (cutD 3) [] [(⟨0, ⟨#[]⟩, ⟨#[120]⟩⟩ : Ed)] = [] ++ [[⟨0, ⟨#[]⟩, ⟨#[120]⟩⟩]] from rfl, show pushR [] [(⟨0, ⟨#[]⟩, ⟨#[120]⟩⟩ : Ed)] = [] from rfl] at C4
  clear hr4 hk4 C3 H3 H2
  go_wp2_with fail
  refine C4.out.mono ?_
  rintro e w5 ⟨rfl, H5, hk5⟩
  have C5 := Lib.hid (H5.out.swap.len HS.out HS.out.firm)
  clear hk5 C4 H4
  go_wp2_with fail
  refine C5.out.mono ?_
  rintro e w6 ⟨rfl, H6, hk6⟩
  have C6 := Lib.hid (H6.out.swap.len HS.out HS.out.firm)
  clear hk6 C5 H5
  go_wp2_with fail
  refine C6.out.mono ?_
  rintro e w7 ⟨rfl, H7, hk7⟩
  have C7 := Lib.hid (H7.out.undo HS.out HS.out.firm)
  clear hk7 C6 H6
  go_wp2_with fail
  refine C7.out.mono ?_
  rintro e w8 ⟨v, rfl, ho, H8, hk8⟩
  obtain ⟨g, cap, rfl, hlt, hn, hm, hc⟩ := own_open ho (by decide)
  have hcell := hc 2 (.string ⟨#[120]⟩) rfl
  have C8 := Lib.hid (H8.out.swap.undo_no HS.out HS.out.firm)
  have HC := Lib.hid (And.intro hlt hcell)
  clear hk8 C7 H7 ho hc hlt hcell hn hm
  go_wp2_with fail
  refine C8.out.mono ?_
  rintro e w9 ⟨v, rfl, ho, H9, hk9⟩
  have hcell : w9.cell? ⟨g, 2, none⟩ = some (.string ⟨#[120]⟩) := by
    have hb := hk9.out.block g HC.out.1 (.inr rfl)
    unfold World.cell? at *
    have := HC.out.2
    simp only [hb]
    exact this
  have HB := Lib.hid H9.out.below
  clear hk9 C8 H8 ho H9
  go_wp2_with fail
  go_ret
  exact ⟨rfl, HB.out⟩
end Go.Proofs.Ytibccdbmdajijaa
