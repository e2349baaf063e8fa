/- Stage 16's law DictCases, plain: a word in small letters, with a great one first, all great. No program. -/
import Derived.Test.YtfehpcbmdancoaaGreatDoorPaPlain
namespace Go.Proofs.YtfehpcbmdancoaaGreatDoor
open Go Go.Lib

def lowL : List UInt8 := [97, 98, 99, 100, 101, 102, 103, 104, 105, 106, 107, 108]
def uppL : List UInt8 := [65, 66, 67, 68, 69, 70, 71, 72, 73, 74, 75, 76]
def smW (k : Nat) : ByteArray := ⟨(lowL.take k).toArray⟩
def grW (k : Nat) : ByteArray := ⟨(uppL.take k).toArray⟩
def s1W (k : Nat) : ByteArray := ⟨((lowL.take k).drop 1).toArray⟩
def gbW (i : Nat) : ByteArray := ⟨((uppL.drop i).take 1).toArray⟩
def scW (k i : Nat) : ByteArray := ⟨((lowL.take k).drop i).toArray⟩
def dSm (k : Nat) : Di := ⟨[smW k], []⟩
def dTi (k : Nat) : Di := ⟨[⟨#[65]⟩ ++ s1W k], []⟩
theorem caseN : ∀ K : Fin 8, newD ⟨#[]⟩ (smW (K.1 + 2) ++ ⟨#[10]⟩) = (some (dSm (K.1 + 2)), 0, 0, 0) ∧ newD ⟨#[]⟩ (⟨#[65]⟩ ++ s1W (K.1 + 2) ++ ⟨#[10]⟩) = (some (dTi (K.1 + 2)), 0, 0, 0) := by decide +kernel
theorem caseE : ∀ K : Fin 8, (⟨#[97, 98, 99, 100, 101, 102, 103, 104, 105, 106, 107, 108]⟩ : ByteArray).extract 0 (K.1 + 2) = smW (K.1 + 2) ∧ (⟨#[65, 66, 67, 68, 69, 70, 71, 72, 73, 74, 75, 76]⟩ : ByteArray).extract 0 (K.1 + 2) = grW (K.1 + 2) ∧ (grW (K.1 + 2)).extract 0 1 = ⟨#[65]⟩ ∧ (smW (K.1 + 2)).extract 1 (K.1 + 2) = s1W (K.1 + 2) ∧ (smW (K.1 + 2)).size = K.1 + 2 ∧ (grW (K.1 + 2)).size = K.1 + 2 ∧ (s1W (K.1 + 2)).size = K.1 + 1 := by decide +kernel
theorem caseI : ∀ K I : Fin 8, I.1 ≤ K.1 → (smW (K.1 + 2)).extract 0 (I.1 + 1) = smW (I.1 + 1) ∧ (grW (K.1 + 2)).extract (I.1 + 1) (I.1 + 1 + 1) = gbW (I.1 + 1) ∧ (smW (K.1 + 2)).extract (I.1 + 1 + 1) (K.1 + 2) = scW (K.1 + 2) (I.1 + 1 + 1) ∧ (smW (I.1 + 1)).size = I.1 + 1 ∧ (gbW (I.1 + 1)).size = 1 ∧ (scW (K.1 + 2) (I.1 + 1 + 1)).size ≤ 20 := by decide +kernel
theorem caseH : ∀ K : Fin 8, hasD (dSm (K.1 + 2)) (smW (K.1 + 2)).data.toList = true ∧ hasD (dSm (K.1 + 2)) (⟨#[65]⟩ ++ s1W (K.1 + 2) : ByteArray).data.toList = true ∧ hasD (dSm (K.1 + 2)) (grW (K.1 + 2)).data.toList = true ∧ hasD (dTi (K.1 + 2)) (smW (K.1 + 2)).data.toList = false ∧ hasD (dTi (K.1 + 2)) (⟨#[65]⟩ ++ s1W (K.1 + 2) : ByteArray).data.toList = true ∧ hasD (dTi (K.1 + 2)) (grW (K.1 + 2)).data.toList = true ∧
    isD (dSm (K.1 + 2)) (⟨#[65]⟩ ++ s1W (K.1 + 2) : ByteArray).data.toList = false ∧ isD (dTi (K.1 + 2)) (⟨#[65]⟩ ++ s1W (K.1 + 2) : ByteArray).data.toList = true ∧ hasD (dSm (K.1 + 2)) [] = false := by decide +kernel
theorem caseO : ∀ K I : Fin 8, I.1 ≤ K.1 → hasD (dSm (K.1 + 2)) (smW (I.1 + 1) ++ gbW (I.1 + 1) ++ scW (K.1 + 2) (I.1 + 1 + 1)).data.toList = false ∧ hasD (dTi (K.1 + 2)) (smW (I.1 + 1) ++ gbW (I.1 + 1) ++ scW (K.1 + 2) (I.1 + 1 + 1)).data.toList = false := by decide +kernel
end Go.Proofs.YtfehpcbmdancoaaGreatDoor
