/-
  Reserved paths; nothing of the program.
-/
import Derived.Test.YtolpcnhgmmnmcaaGreatDoorPMath
namespace Go.Proofs.YtolpcnhgmmnmcaaGreatDoor
def dbsK : Bs := [47, 118, 97, 114, 47, 108, 105, 98, 47, 100, 112, 107, 103]
def admK : Bs := [47, 101, 116, 99, 47, 97, 108, 116, 101, 114, 110, 97, 116, 105, 118, 101, 115]
def newK : Bs := [46, 100, 112, 107, 103, 45, 110, 101, 119]
def tmpK : Bs := [46, 100, 112, 107, 103, 45, 116, 109, 112]
def disK : Bs := [46, 100, 112, 107, 103, 45, 100, 105, 115, 116]
def inK (d p : Bs) : Bool := decide (p = d) || under d p
def endK (p : Bs) : Bool := Lib.hasSuffix p newK || Lib.hasSuffix p tmpK || Lib.hasSuffix p disK
def rsvK (p : Bs) : Bool := inK dbsK p || inK admK p || endK p
theorem suffix_is (s e : Bs) : Lib.hasSuffix s e = (decide (e.length ≤ s.length) && decide (s.drop (s.length - e.length) = e)) := by
  unfold Lib.hasSuffix
  by_cases h : e <:+ s
  · rw [List.isSuffixOf_iff_suffix.2 h]
    obtain ⟨a, rfl⟩ := h
    simp
  · have : e.isSuffixOf s = false := by
      cases g : e.isSuffixOf s
      · rfl
      · exact absurd (List.isSuffixOf_iff_suffix.1 g) h
    rw [this]
    by_cases hl : e.length ≤ s.length
    · rw [decide_eq_true hl, Bool.true_and, decide_eq_false]
      intro g
      exact h ⟨s.take (s.length - e.length), by have e2 := List.take_append_drop (s.length - e.length) s; rw [g] at e2; exact e2⟩
    · rw [decide_eq_false hl]; rfl
end Go.Proofs.YtolpcnhgmmnmcaaGreatDoor
