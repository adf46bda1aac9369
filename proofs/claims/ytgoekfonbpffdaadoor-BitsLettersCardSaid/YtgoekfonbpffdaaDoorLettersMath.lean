/-
  The plain mathematics of nine letters: what a letter adds to the mode, the mode that nine letters make, and that this is the one mode whose letters they are. No program here.
-/
import Derived.Test.YtgoekfonbpffdaaDoorRwx
import Derived.Lib.Bytealg
namespace Go.Proofs.YtgoekfonbpffdaaDoor
def rowAt (i : Nat) : ByteArray := if i % 3 = 0 then rowR else if i % 3 = 1 then rowW else if i = 8 then rowT else rowS
/-- Where a letter stands in its place's row. -/
def idx (i : Nat) (c : UInt8) : Int := Lib.indexByte (rowAt i).data.toList c
/-- What a letter at place i, k-th of its row, adds. -/
def contrib (i k : Nat) : Nat := (k % 2) * 2 ^ (8 - i) ||| (k / 2) * 2 ^ (11 - i / 3)
def pstep (i : Nat) (c : UInt8) (M : Nat) : Option Nat := if idx i c < 0 then none else some (M ||| contrib i (idx i c).toNat)
/-- The mode of the first places. -/
def pm (l : List UInt8) : Nat → Option Nat
  | 0 => some 0
  | i + 1 => match pm l i with
    | some M => pstep i (l.getD i 0) M
    | none => none
theorem pm_fin : ∀ a b : Fin 64, pm (rwxL ((64 * a.val + b.val : Nat) : Int)) 9 = some (64 * a.val + b.val) := by decide +kernel
theorem pm_all (m : Nat) (h : m < 4096) : pm (rwxL (m : Int)) 9 = some m := by
  have := pm_fin ⟨m / 64, by omega⟩ ⟨m % 64, by omega⟩
  simp only at this
  have e : 64 * (m / 64) + m % 64 = m := by omega
  rw [e] at this
  exact this
end Go.Proofs.YtgoekfonbpffdaaDoor
