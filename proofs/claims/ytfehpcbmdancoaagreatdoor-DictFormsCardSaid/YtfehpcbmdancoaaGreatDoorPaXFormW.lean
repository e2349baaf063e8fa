/- Stage 16's law DictForms, plain: stems with a suffix and a prefix that cross. No program. -/
import Derived.Test.YtfehpcbmdancoaaGreatDoorPaPlain
namespace Go.Proofs.YtfehpcbmdancoaaGreatDoor
open Go Go.Lib

def stemL : List UInt8 := [98, 99, 100, 102, 103, 104, 106, 107, 108, 109, 110, 112, 113, 114, 115, 116, 118, 119, 120, 122, 98]
def sufL : List UInt8 := [49, 50, 51, 52, 53, 54, 55, 56, 57]
def preL : List UInt8 := [97, 98, 99, 100, 101, 102, 103, 104, 105]
def stemW (k : Nat) : ByteArray := ⟨(stemL.take k).toArray⟩
def sufW (j : Nat) : ByteArray := ⟨(sufL.take j).toArray⟩
def preW (j : Nat) : ByteArray := ⟨(preL.take j).toArray⟩
def affW (j : Nat) : ByteArray := ⟨#[83, 70, 88, 32, 83, 32, 89, 32, 48, 32]⟩ ++ sufW j ++ ⟨#[32, 46, 10, 80, 70, 88, 32, 80, 32, 89, 32, 48, 32]⟩ ++ preW j ++ ⟨#[32, 46, 10]⟩
def lstW (k : Nat) : ByteArray := stemW k ++ ⟨#[47, 83, 80, 10]⟩
def dForm (k j : Nat) : Di := ⟨[preW j ++ stemW k, preW j ++ stemW k ++ sufW j, stemW k, stemW k ++ sufW j], []⟩
theorem formN : ∀ (k : Fin 20) (j : Fin 9), newD (affW (j.1 + 1)) (lstW (k.1 + 1)) = (some (dForm (k.1 + 1) (j.1 + 1)), 0, 0, 0) := by decide +kernel
theorem formH : ∀ (k : Fin 20) (j : Fin 9), hasD (dForm (k.1 + 1) (j.1 + 1)) (stemW (k.1 + 1)).data.toList = true ∧ hasD (dForm (k.1 + 1) (j.1 + 1)) (stemW (k.1 + 1) ++ sufW (j.1 + 1)).data.toList = true ∧ hasD (dForm (k.1 + 1) (j.1 + 1)) (preW (j.1 + 1) ++ stemW (k.1 + 1)).data.toList = true ∧ hasD (dForm (k.1 + 1) (j.1 + 1)) (preW (j.1 + 1) ++ stemW (k.1 + 1) ++ sufW (j.1 + 1)).data.toList = true := by decide +kernel
theorem formX : ∀ (k : Fin 20) (j : Fin 9), hasD (dForm (k.1 + 1) (j.1 + 1)) (sufW (j.1 + 1)).data.toList = false ∧ hasD (dForm (k.1 + 1) (j.1 + 1)) (preW (j.1 + 1)).data.toList = false ∧ hasD (dForm (k.1 + 1) (j.1 + 1)) (preW (j.1 + 1) ++ sufW (j.1 + 1)).data.toList = false ∧ hasD (dForm (k.1 + 1) (j.1 + 1)) (stemW (k.1 + 1) ++ preW (j.1 + 1)).data.toList = false := by decide +kernel
theorem formD : ∀ (k : Fin 20) (j : Fin 9), (preW (j.1 + 1) ++ stemW (k.1 + 1) ++ sufW (j.1 + 1)).data.toList ∈ bytesD (dForm (k.1 + 1) (j.1 + 1)) := by decide +kernel
theorem stemE : ∀ k : Fin 22, (⟨#[98, 99, 100, 102, 103, 104, 106, 107, 108, 109, 110, 112, 113, 114, 115, 116, 118, 119, 120, 122, 98]⟩ : ByteArray).extract 0 k.1 = stemW k.1 ∧ (stemW k.1).size = k.1 := by decide +kernel
theorem sufE : ∀ k : Fin 10, (⟨#[49, 50, 51, 52, 53, 54, 55, 56, 57]⟩ : ByteArray).extract 0 k.1 = sufW k.1 ∧ (⟨#[97, 98, 99, 100, 101, 102, 103, 104, 105]⟩ : ByteArray).extract 0 k.1 = preW k.1 ∧ (sufW k.1).size = k.1 ∧ (preW k.1).size = k.1 := by decide +kernel
theorem formS : ∀ (k : Fin 22) (j : Fin 10), (affW j.1).size ≤ 1000 ∧ (lstW k.1).size ≤ 1000 := by decide +kernel
end Go.Proofs.YtfehpcbmdancoaaGreatDoor
