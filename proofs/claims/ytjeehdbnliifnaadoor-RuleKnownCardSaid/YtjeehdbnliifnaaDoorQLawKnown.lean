/- Stage 10's law RuleKnown, out of what is asked of rule's calls. -/
import Derived.Test.YtjeehdbnliifnaaDoorQLaws
import Derived.Test.YtjeehdbnliifnaaDoorNPlace
namespace Go.Proofs.YtjeehdbnliifnaaDoor
open Go Go.RowKit

def kLine : Nat → ByteArray
  | 0 => ⟨#[83, 70, 88, 32, 83, 32, 89, 32, 48, 32, 115, 32, 46]⟩
  | 1 => ⟨#[83, 70, 88, 32, 83, 32, 89, 32, 121, 32, 105, 101, 115, 32, 91, 94, 97, 101, 105, 111, 117, 93, 121]⟩
  | 2 => ⟨#[83, 70, 88, 32, 83, 32, 89, 32, 121, 32, 105, 101, 115, 32, 91, 94, 97, 101, 105, 111, 117, 93, 121]⟩
  | 3 => ⟨#[83, 70, 88, 32, 68, 32, 89, 32, 101, 32, 105, 110, 103, 32, 101]⟩
  | 4 => ⟨#[80, 70, 88, 32, 85, 32, 89, 32, 48, 32, 117, 110, 32, 46]⟩
  | 5 => ⟨#[80, 70, 88, 32, 85, 32, 89, 32, 97, 32, 117, 110, 32, 97]⟩
  | 6 => ⟨#[80, 70, 88, 32, 85, 32, 89, 32, 98, 32, 117, 110, 32, 46]⟩
  | 7 => ⟨#[83, 70, 88, 32, 83, 32, 89, 32, 97, 32, 48, 32, 46]⟩
  | 8 => ⟨#[83, 70, 88, 32, 83, 32, 89, 32, 195, 169, 32, 101, 32, 46]⟩
  | 9 => ⟨#[83, 70, 88, 32, 83, 32, 89, 32, 48, 32, 115, 32, 91, 94, 115, 93]⟩
  | 10 => ⟨#[83, 70, 88, 32, 83, 32, 89, 32, 48, 32, 115, 32, 46, 46]⟩
  | _ => ⟨#[83, 70, 88, 32, 83, 32, 89, 32, 97, 98, 32, 99, 100, 32, 97, 98]⟩
def kWord : Nat → ByteArray
  | 0 => ⟨#[99, 97, 116]⟩
  | 1 => ⟨#[99, 105, 116, 121]⟩
  | 2 => ⟨#[98, 111, 121]⟩
  | 3 => ⟨#[109, 97, 107, 101]⟩
  | 4 => ⟨#[100, 111]⟩
  | 5 => ⟨#[97, 98, 99]⟩
  | 6 => ⟨#[97, 98, 99]⟩
  | 7 => ⟨#[97]⟩
  | 8 => ⟨#[99, 97, 102, 195, 169]⟩
  | 9 => ⟨#[98, 117, 115]⟩
  | 10 => ⟨#[97]⟩
  | _ => ⟨#[97, 98]⟩
def kWant : Nat → ByteArray
  | 0 => ⟨#[99, 97, 116, 115]⟩
  | 1 => ⟨#[99, 105, 116, 105, 101, 115]⟩
  | 2 => ⟨#[]⟩
  | 3 => ⟨#[109, 97, 107, 105, 110, 103]⟩
  | 4 => ⟨#[117, 110, 100, 111]⟩
  | 5 => ⟨#[117, 110, 98, 99]⟩
  | 6 => ⟨#[]⟩
  | 7 => ⟨#[]⟩
  | 8 => ⟨#[99, 97, 102, 101]⟩
  | 9 => ⟨#[]⟩
  | 10 => ⟨#[]⟩
  | _ => ⟨#[99, 100]⟩
def aLine : Value := .agg #[.string ⟨#[83, 70, 88, 32, 83, 32, 89, 32, 48, 32, 115, 32, 46]⟩, .string ⟨#[83, 70, 88, 32, 83, 32, 89, 32, 121, 32, 105, 101, 115, 32, 91, 94, 97, 101, 105, 111, 117, 93, 121]⟩, .string ⟨#[83, 70, 88, 32, 83, 32, 89, 32, 121, 32, 105, 101, 115, 32, 91, 94, 97, 101, 105, 111, 117, 93, 121]⟩, .string ⟨#[83, 70, 88, 32, 68, 32, 89, 32, 101, 32, 105, 110, 103, 32, 101]⟩, .string ⟨#[80, 70, 88, 32, 85, 32, 89, 32, 48, 32, 117, 110, 32, 46]⟩, .string ⟨#[80, 70, 88, 32, 85, 32, 89, 32, 97, 32, 117, 110, 32, 97]⟩, .string ⟨#[80, 70, 88, 32, 85, 32, 89, 32, 98, 32, 117, 110, 32, 46]⟩, .string ⟨#[83, 70, 88, 32, 83, 32, 89, 32, 97, 32, 48, 32, 46]⟩, .string ⟨#[83, 70, 88, 32, 83, 32, 89, 32, 195, 169, 32, 101, 32, 46]⟩, .string ⟨#[83, 70, 88, 32, 83, 32, 89, 32, 48, 32, 115, 32, 91, 94, 115, 93]⟩, .string ⟨#[83, 70, 88, 32, 83, 32, 89, 32, 48, 32, 115, 32, 46, 46]⟩, .string ⟨#[83, 70, 88, 32, 83, 32, 89, 32, 97, 98, 32, 99, 100, 32, 97, 98]⟩]
theorem pkLine0 (w : World) : (Instr.index 41 aLine (.int .i64 0)).run Tryd.prog w = .ok (.string (kLine 0)) w := by kernel_rfl
theorem pkLine1 (w : World) : (Instr.index 41 aLine (.int .i64 1)).run Tryd.prog w = .ok (.string (kLine 1)) w := by kernel_rfl
theorem pkLine2 (w : World) : (Instr.index 41 aLine (.int .i64 2)).run Tryd.prog w = .ok (.string (kLine 2)) w := by kernel_rfl
theorem pkLine3 (w : World) : (Instr.index 41 aLine (.int .i64 3)).run Tryd.prog w = .ok (.string (kLine 3)) w := by kernel_rfl
theorem pkLine4 (w : World) : (Instr.index 41 aLine (.int .i64 4)).run Tryd.prog w = .ok (.string (kLine 4)) w := by kernel_rfl
theorem pkLine5 (w : World) : (Instr.index 41 aLine (.int .i64 5)).run Tryd.prog w = .ok (.string (kLine 5)) w := by kernel_rfl
theorem pkLine6 (w : World) : (Instr.index 41 aLine (.int .i64 6)).run Tryd.prog w = .ok (.string (kLine 6)) w := by kernel_rfl
theorem pkLine7 (w : World) : (Instr.index 41 aLine (.int .i64 7)).run Tryd.prog w = .ok (.string (kLine 7)) w := by kernel_rfl
theorem pkLine8 (w : World) : (Instr.index 41 aLine (.int .i64 8)).run Tryd.prog w = .ok (.string (kLine 8)) w := by kernel_rfl
theorem pkLine9 (w : World) : (Instr.index 41 aLine (.int .i64 9)).run Tryd.prog w = .ok (.string (kLine 9)) w := by kernel_rfl
theorem pkLine10 (w : World) : (Instr.index 41 aLine (.int .i64 10)).run Tryd.prog w = .ok (.string (kLine 10)) w := by kernel_rfl
theorem pkLine11 (w : World) : (Instr.index 41 aLine (.int .i64 11)).run Tryd.prog w = .ok (.string (kLine 11)) w := by kernel_rfl
theorem pkLine (h : Nat) (hh : h < 12) (w : World) : (Instr.index 41 (.agg #[.string ⟨#[83, 70, 88, 32, 83, 32, 89, 32, 48, 32, 115, 32, 46]⟩, .string ⟨#[83, 70, 88, 32, 83, 32, 89, 32, 121, 32, 105, 101, 115, 32, 91, 94, 97, 101, 105, 111, 117, 93, 121]⟩, .string ⟨#[83, 70, 88, 32, 83, 32, 89, 32, 121, 32, 105, 101, 115, 32, 91, 94, 97, 101, 105, 111, 117, 93, 121]⟩, .string ⟨#[83, 70, 88, 32, 68, 32, 89, 32, 101, 32, 105, 110, 103, 32, 101]⟩, .string ⟨#[80, 70, 88, 32, 85, 32, 89, 32, 48, 32, 117, 110, 32, 46]⟩, .string ⟨#[80, 70, 88, 32, 85, 32, 89, 32, 97, 32, 117, 110, 32, 97]⟩, .string ⟨#[80, 70, 88, 32, 85, 32, 89, 32, 98, 32, 117, 110, 32, 46]⟩, .string ⟨#[83, 70, 88, 32, 83, 32, 89, 32, 97, 32, 48, 32, 46]⟩, .string ⟨#[83, 70, 88, 32, 83, 32, 89, 32, 195, 169, 32, 101, 32, 46]⟩, .string ⟨#[83, 70, 88, 32, 83, 32, 89, 32, 48, 32, 115, 32, 91, 94, 115, 93]⟩, .string ⟨#[83, 70, 88, 32, 83, 32, 89, 32, 48, 32, 115, 32, 46, 46]⟩, .string ⟨#[83, 70, 88, 32, 83, 32, 89, 32, 97, 98, 32, 99, 100, 32, 97, 98]⟩]) (.int .i64 h)).run Tryd.prog w = .ok (.string (kLine h)) w := by
  have hc : h = 0 ∨ h = 1 ∨ h = 2 ∨ h = 3 ∨ h = 4 ∨ h = 5 ∨ h = 6 ∨ h = 7 ∨ h = 8 ∨ h = 9 ∨ h = 10 ∨ h = 11 := by omega
  rcases hc with rfl | rfl | rfl | rfl | rfl | rfl | rfl | rfl | rfl | rfl | rfl | rfl
  · exact pkLine0 w
  · exact pkLine1 w
  · exact pkLine2 w
  · exact pkLine3 w
  · exact pkLine4 w
  · exact pkLine5 w
  · exact pkLine6 w
  · exact pkLine7 w
  · exact pkLine8 w
  · exact pkLine9 w
  · exact pkLine10 w
  · exact pkLine11 w
def aWord : Value := .agg #[.string ⟨#[99, 97, 116]⟩, .string ⟨#[99, 105, 116, 121]⟩, .string ⟨#[98, 111, 121]⟩, .string ⟨#[109, 97, 107, 101]⟩, .string ⟨#[100, 111]⟩, .string ⟨#[97, 98, 99]⟩, .string ⟨#[97, 98, 99]⟩, .string ⟨#[97]⟩, .string ⟨#[99, 97, 102, 195, 169]⟩, .string ⟨#[98, 117, 115]⟩, .string ⟨#[97]⟩, .string ⟨#[97, 98]⟩]
theorem pkWord0 (w : World) : (Instr.index 41 aWord (.int .i64 0)).run Tryd.prog w = .ok (.string (kWord 0)) w := by kernel_rfl
theorem pkWord1 (w : World) : (Instr.index 41 aWord (.int .i64 1)).run Tryd.prog w = .ok (.string (kWord 1)) w := by kernel_rfl
theorem pkWord2 (w : World) : (Instr.index 41 aWord (.int .i64 2)).run Tryd.prog w = .ok (.string (kWord 2)) w := by kernel_rfl
theorem pkWord3 (w : World) : (Instr.index 41 aWord (.int .i64 3)).run Tryd.prog w = .ok (.string (kWord 3)) w := by kernel_rfl
theorem pkWord4 (w : World) : (Instr.index 41 aWord (.int .i64 4)).run Tryd.prog w = .ok (.string (kWord 4)) w := by kernel_rfl
theorem pkWord5 (w : World) : (Instr.index 41 aWord (.int .i64 5)).run Tryd.prog w = .ok (.string (kWord 5)) w := by kernel_rfl
theorem pkWord6 (w : World) : (Instr.index 41 aWord (.int .i64 6)).run Tryd.prog w = .ok (.string (kWord 6)) w := by kernel_rfl
theorem pkWord7 (w : World) : (Instr.index 41 aWord (.int .i64 7)).run Tryd.prog w = .ok (.string (kWord 7)) w := by kernel_rfl
theorem pkWord8 (w : World) : (Instr.index 41 aWord (.int .i64 8)).run Tryd.prog w = .ok (.string (kWord 8)) w := by kernel_rfl
theorem pkWord9 (w : World) : (Instr.index 41 aWord (.int .i64 9)).run Tryd.prog w = .ok (.string (kWord 9)) w := by kernel_rfl
theorem pkWord10 (w : World) : (Instr.index 41 aWord (.int .i64 10)).run Tryd.prog w = .ok (.string (kWord 10)) w := by kernel_rfl
theorem pkWord11 (w : World) : (Instr.index 41 aWord (.int .i64 11)).run Tryd.prog w = .ok (.string (kWord 11)) w := by kernel_rfl
theorem pkWord (h : Nat) (hh : h < 12) (w : World) : (Instr.index 41 (.agg #[.string ⟨#[99, 97, 116]⟩, .string ⟨#[99, 105, 116, 121]⟩, .string ⟨#[98, 111, 121]⟩, .string ⟨#[109, 97, 107, 101]⟩, .string ⟨#[100, 111]⟩, .string ⟨#[97, 98, 99]⟩, .string ⟨#[97, 98, 99]⟩, .string ⟨#[97]⟩, .string ⟨#[99, 97, 102, 195, 169]⟩, .string ⟨#[98, 117, 115]⟩, .string ⟨#[97]⟩, .string ⟨#[97, 98]⟩]) (.int .i64 h)).run Tryd.prog w = .ok (.string (kWord h)) w := by
  have hc : h = 0 ∨ h = 1 ∨ h = 2 ∨ h = 3 ∨ h = 4 ∨ h = 5 ∨ h = 6 ∨ h = 7 ∨ h = 8 ∨ h = 9 ∨ h = 10 ∨ h = 11 := by omega
  rcases hc with rfl | rfl | rfl | rfl | rfl | rfl | rfl | rfl | rfl | rfl | rfl | rfl
  · exact pkWord0 w
  · exact pkWord1 w
  · exact pkWord2 w
  · exact pkWord3 w
  · exact pkWord4 w
  · exact pkWord5 w
  · exact pkWord6 w
  · exact pkWord7 w
  · exact pkWord8 w
  · exact pkWord9 w
  · exact pkWord10 w
  · exact pkWord11 w
def aWant : Value := .agg #[.string ⟨#[99, 97, 116, 115]⟩, .string ⟨#[99, 105, 116, 105, 101, 115]⟩, .string ⟨#[]⟩, .string ⟨#[109, 97, 107, 105, 110, 103]⟩, .string ⟨#[117, 110, 100, 111]⟩, .string ⟨#[117, 110, 98, 99]⟩, .string ⟨#[]⟩, .string ⟨#[]⟩, .string ⟨#[99, 97, 102, 101]⟩, .string ⟨#[]⟩, .string ⟨#[]⟩, .string ⟨#[99, 100]⟩]
theorem pkWant0 (w : World) : (Instr.index 41 aWant (.int .i64 0)).run Tryd.prog w = .ok (.string (kWant 0)) w := by kernel_rfl
theorem pkWant1 (w : World) : (Instr.index 41 aWant (.int .i64 1)).run Tryd.prog w = .ok (.string (kWant 1)) w := by kernel_rfl
theorem pkWant2 (w : World) : (Instr.index 41 aWant (.int .i64 2)).run Tryd.prog w = .ok (.string (kWant 2)) w := by kernel_rfl
theorem pkWant3 (w : World) : (Instr.index 41 aWant (.int .i64 3)).run Tryd.prog w = .ok (.string (kWant 3)) w := by kernel_rfl
theorem pkWant4 (w : World) : (Instr.index 41 aWant (.int .i64 4)).run Tryd.prog w = .ok (.string (kWant 4)) w := by kernel_rfl
theorem pkWant5 (w : World) : (Instr.index 41 aWant (.int .i64 5)).run Tryd.prog w = .ok (.string (kWant 5)) w := by kernel_rfl
theorem pkWant6 (w : World) : (Instr.index 41 aWant (.int .i64 6)).run Tryd.prog w = .ok (.string (kWant 6)) w := by kernel_rfl
theorem pkWant7 (w : World) : (Instr.index 41 aWant (.int .i64 7)).run Tryd.prog w = .ok (.string (kWant 7)) w := by kernel_rfl
theorem pkWant8 (w : World) : (Instr.index 41 aWant (.int .i64 8)).run Tryd.prog w = .ok (.string (kWant 8)) w := by kernel_rfl
theorem pkWant9 (w : World) : (Instr.index 41 aWant (.int .i64 9)).run Tryd.prog w = .ok (.string (kWant 9)) w := by kernel_rfl
theorem pkWant10 (w : World) : (Instr.index 41 aWant (.int .i64 10)).run Tryd.prog w = .ok (.string (kWant 10)) w := by kernel_rfl
theorem pkWant11 (w : World) : (Instr.index 41 aWant (.int .i64 11)).run Tryd.prog w = .ok (.string (kWant 11)) w := by kernel_rfl
theorem pkWant (h : Nat) (hh : h < 12) (w : World) : (Instr.index 41 (.agg #[.string ⟨#[99, 97, 116, 115]⟩, .string ⟨#[99, 105, 116, 105, 101, 115]⟩, .string ⟨#[]⟩, .string ⟨#[109, 97, 107, 105, 110, 103]⟩, .string ⟨#[117, 110, 100, 111]⟩, .string ⟨#[117, 110, 98, 99]⟩, .string ⟨#[]⟩, .string ⟨#[]⟩, .string ⟨#[99, 97, 102, 101]⟩, .string ⟨#[]⟩, .string ⟨#[]⟩, .string ⟨#[99, 100]⟩]) (.int .i64 h)).run Tryd.prog w = .ok (.string (kWant h)) w := by
  have hc : h = 0 ∨ h = 1 ∨ h = 2 ∨ h = 3 ∨ h = 4 ∨ h = 5 ∨ h = 6 ∨ h = 7 ∨ h = 8 ∨ h = 9 ∨ h = 10 ∨ h = 11 := by omega
  rcases hc with rfl | rfl | rfl | rfl | rfl | rfl | rfl | rfl | rfl | rfl | rfl | rfl
  · exact pkWant0 w
  · exact pkWant1 w
  · exact pkWant2 w
  · exact pkWant3 w
  · exact pkWant4 w
  · exact pkWant5 w
  · exact pkWant6 w
  · exact pkWant7 w
  · exact pkWant8 w
  · exact pkWant9 w
  · exact pkWant10 w
  · exact pkWant11 w
/-- The cases, plain. -/
def kRule (h : Nat) : Ru := (parseR (kLine h)).getD ru0
theorem known_facts : ∀ h : Fin 12, (parseR (kLine h.val)).isSome = true ∧ (kRule h.val).cond.length ≤ 8 ∧ ((kRule h.val).cond.all fun it => decide (it.set.length ≤ 1200)) = true ∧ (kRule h.val).strip.size ≤ 20 ∧ (kRule h.val).add.size ≤ 20 ∧
    applyR (kRule h.val) (kWord h.val) = kWant h.val ∧ applyR (kRule h.val) (⟨#[255]⟩ ++ kWord h.val) = ⟨#[]⟩ ∧ (kLine h.val).size ≤ 100 ∧ (kWord h.val).size ≤ 100 := by decide +kernel
theorem known_case (h : Nat) (hh : h < 12) : parseR (kLine h) = some (kRule h) ∧ FewR (kRule h) ∧ applyR (kRule h) (kWord h) = kWant h ∧ applyR (kRule h) (⟨#[255]⟩ ++ kWord h) = ⟨#[]⟩ ∧ (kLine h).size ≤ 100 ∧ (kWord h).size ≤ 100 := by
  obtain ⟨h1, h2, h3, h4, h5, h6, h7, h8, h9⟩ := known_facts ⟨h, hh⟩
  dsimp only at h1 h2 h3 h4 h5 h6 h7 h8 h9
  refine ⟨?_, ⟨by omega, fun it hit => ?_, by omega, by omega⟩, h6, h7, h8, h9⟩
  · unfold kRule
    cases hp : parseR (kLine h) with
    | none => rw [hp] at h1; cases h1
    | some r => rfl
  · have := List.all_eq_true.1 h3 it hit
    simpa using this
theorem okB_list (s : ByteArray) : okB s = !s.toList.isEmpty := by
  unfold okB
  rw [ByteArray.toList_eq, Lib.size_eq]
  cases s.data.toList <;> simp
theorem ru_boxK {w : World} {v : Value} {r : Ru} (h : RuAt w v r) : ∃ p f c s a A n cap, v = .agg #[.bool p, .int .i64 f, .bool c, .string s, .string a, .slice A n cap] := by
  obtain ⟨A, cap, rfl, _⟩ := h
  exact ⟨_, _, _, _, _, _, _, _, rfl⟩
variable {T : World → Prop}

set_option maxRecDepth 100000 in
set_option maxHeartbeats 4000000 in
theorem known_law (S : SaysR T) (w : World) (hT : T w) (how : Int) : Calls Tryd.prog 5 #[.int .i64 how] w fun e w' => e = .returned (.bool true) ∧ Below w.heap.size w w' := by
  obtain ⟨h, hh⟩ : ∃ h : Nat, how % 12 = h := ⟨(how % 12).toNat, by omega⟩
  have hlt : h < 12 := by omega
  have PL := Lib.hid (fun wx => place9 how 12 wx (by omega) (by omega))
  rw [hh] at PL
  obtain ⟨f1, f2, f3, f4, f5, f6⟩ := known_case h hlt
  have i1 := pkLine h hlt
  have i2 := pkWord h hlt
  have i3 := pkWant h hlt
  obtain ⟨L, hL⟩ : ∃ L, L = kLine h := ⟨_, rfl⟩
  obtain ⟨W, hW⟩ : ∃ W, W = kWord h := ⟨_, rfl⟩
  obtain ⟨X, hX⟩ : ∃ X, X = kWant h := ⟨_, rfl⟩
  obtain ⟨r, hr⟩ : ∃ r, r = kRule h := ⟨_, rfl⟩
  rw [← hL, ← hr] at f1
  rw [← hr] at f2
  rw [← hr, ← hW, ← hX] at f3
  rw [← hr, ← hW] at f4
  rw [← hL] at f5 i1
  rw [← hW] at f6 i2
  rw [← hX] at i3
  have C1 := Lib.hid (fun wx (ht : T wx) => S.parse wx L ht (by omega))
  rw [f1] at C1
  have HS := Lib.hid (And.intro S hT)
  have HF := Lib.hid (And.intro f2 (And.intro f3 f4))
  have hself : (X.toList == X.toList) = true := by simp
  have hcat : ¬ 9223372036854775807 < 1 + W.size := by omega
  have hW100 := Lib.hid f6
  clear f1 f2 f3 f4 f5 hh hL hW hX hr S hT f6
  go_enter Tryd.func5, Tryd.ntmps5
  go_wp2_with fail
  refine (PL.out _).mono ?_
  rintro e w0 ⟨rfl, rfl⟩
  go_wp2_with fail
  refine (C1.out _ HS.out.2).mono ?_
  rintro e w1 ⟨v, rfl, h1, hb1⟩
  simp only [Option.getD_some] at h1
  obtain ⟨p, f, c, s0, a0, A, n, cap, rfl⟩ := ru_boxK h1
  have hba := (Below.refl w1.heap.size w1).alloc (Nat.le_refl _) (.cells #[.bool p, .int .i64 f, .bool c, .string s0, .string a0, .slice A n cap] /-t-/25)
  have t1 := HS.out.1.kept w1 _ (HS.out.1.kept w w1 HS.out.2 hb1) hba
  have C2 := Lib.hid (HS.out.1.apply _ _ r W t1 (h1.keep hba) HF.out.1 (by have := hW100.out; omega))
  rw [HF.out.2.1] at C2
  have H1 := Lib.hid (And.intro (h1.keep hba) (And.intro (hb1.trans (hba.mono hb1.size)) t1))
  clear h1 hb1 t1 hba C1
  go_wp2_with fail
  refine C2.out.mono ?_
  rintro e w2 ⟨rfl, hb2⟩
  obtain ⟨x0, x1, x2, x3, x4, x5⟩ := box6 hb2
  have hsz : (⟨#[255]⟩ ++ W : ByteArray).size ≤ 200 := by
    rw [ByteArray.size_append, show ByteArray.size ⟨#[255]⟩ = 1 from rfl]
    have := hW100.out; omega
  have C3 := Lib.hid (HS.out.1.apply w2 _ r (⟨#[255]⟩ ++ W) (HS.out.1.kept _ _ H1.out.2.2 hb2) (H1.out.1.keep hb2) HF.out.1 hsz)
  rw [HF.out.2.2] at C3
  have B2 := Lib.hid (H1.out.2.1.trans (hb2.mono H1.out.2.1.size))
  clear hb2 C2 hsz
  go_wp2_with fail
  refine C3.out.mono ?_
  rintro e w3 ⟨rfl, hb3⟩
  have hb3' := B2.out.trans (hb3.mono B2.out.size)
  have C4 := Lib.hid (awake_any HS.out.1 w3 (HS.out.1.kept w w3 HS.out.2 hb3'))
  have B3 := Lib.hid hb3'
  have e1 : okB (⟨#[]⟩ : ByteArray) = false := rfl
  have e2 : (okB X == !(X.toList.isEmpty)) = true := by rw [okB_list]; simp
  clear hb3 hb3' C3 x0 x1 x2 x3 x4 x5
  go_wp2_with fail
  refine C4.out.mono ?_
  rintro e w4 ⟨rfl, hb4⟩
  have HB := Lib.hid (B3.out.trans (hb4.mono B3.out.size))
  clear hb4
  go_wp2_with fail
  go_ret
  exact ⟨rfl, HB.out⟩
end Go.Proofs.YtjeehdbnliifnaaDoor
