/- What is asked of a store's calls. -/
import Derived.Test.YtfdnlbeancdajaaProg
import Derived.Test.YtfdnlbeancdajaaSGives
import Derived.Lib.Hide
import Derived.Lib.MapLaws
import Derived.WalkKit
import Derived.WalkSpells
import Derived.WalkLawsBesides
import Derived.IntWalk
import Derived.BigQuiet
import Derived.Deep.QuietTactic
import Derived.Below
import Derived.Outline
import Derived.WalkMore
namespace Go.Proofs.Ytfdnlbeancdajaa.Sto
open Go Go.RowKit

/-- What is asked of a store's calls. Rep F w a s: at a, in the blocks F, lies a store of the text s. -/
structure Says (Rep : (Nat → Prop) → World → Addr → ByteArray → Prop) : Prop where
  new : ∀ w (f : ByteArray), f.size ≤ 1000000 → Calls Try.prog 33 #[.string f] w fun e w' => ∃ a F, e = .returned (.pointer (some a)) ∧ Rep F w' a f ∧ OnlyAt (fun _ => False) w w' ∧ ∀ k, F k → w.heap.size ≤ k
  add : ∀ F w a s (t : ByteArray), Rep F w a s → s.size + t.size ≤ 1000000 →
    Calls Try.prog 52 #[.pointer (some a), .string t] w fun e w' => ∃ F', e = .returned (.int .i64 s.size) ∧ Rep F' w' a (s ++ t) ∧ OnlyAt F w w' ∧ ∀ k, F' k → F k ∨ w.heap.size ≤ k
  yes : ∀ F w a s (k m : Nat), Rep F w a s → k + m ≤ s.size → s.size ≤ 1000000 →
    Calls Try.prog 64 #[.pointer (some a), .int .i64 k, .int .i64 m] w fun e w' => ∃ F', e = .returned (.tuple #[.string (s.extract k (k + m)), .bool true]) ∧ Rep F' w' a s ∧ OnlyAt F w w' ∧ ∀ k, F' k → F k ∨ w.heap.size ≤ k
  no : ∀ F w a s (k m : Int), Rep F w a s → (k < 0 ∨ m < 0 ∨ (s.size : Int) < k ∨ (s.size : Int) - k < m) → s.size ≤ 1000000 → -9223372036854775808 ≤ k → k ≤ 9223372036854775807 → -9223372036854775808 ≤ m → m ≤ 9223372036854775807 →
    Calls Try.prog 64 #[.pointer (some a), .int .i64 k, .int .i64 m] w fun e w' => ∃ F', e = .returned (.tuple #[.string ⟨#[]⟩, .bool false]) ∧ Rep F' w' a s ∧ OnlyAt F w w' ∧ ∀ k, F' k → F k ∨ w.heap.size ≤ k
  lt : ∀ F w a s, Rep F w a s → ∀ k, F k → k < w.heap.size
  frame : ∀ F w w' a s, Rep F w a s → KeepsAt F w w' → Rep F w' a s

end Go.Proofs.Ytfdnlbeancdajaa.Sto
