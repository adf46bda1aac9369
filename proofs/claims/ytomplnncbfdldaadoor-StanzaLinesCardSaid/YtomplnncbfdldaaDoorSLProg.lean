/-
  The program's Lines and Words, in the forms that StanzaLines' walk wants.
-/
import Derived.Test.YtomplnncbfdldaaDoorSPWords2
namespace Go.Proofs.YtomplnncbfdldaaDoor
open Go.RowKit
theorem lines_any (s : ByteArray) (hs : s.size ≤ 90000) (w : World) : Calls Tryd.prog 5 #[.string s] w fun e w' => ∃ v z, e = .returned (.tuple #[v, .int .i64 z]) ∧
    ((spl 10 s.data.toList).getLast? = some [] → z = 0 ∧ HoldT w' v (spl 10 s.data.toList).dropLast) ∧ (¬ (spl 10 s.data.toList).getLast? = some [] → z = 2 ∧ HoldT w' v []) ∧ Below w.heap.size w w' :=
  (slines_any s hs w).mono fun _ w' ⟨v, z, he, h1, h2, hb⟩ => ⟨v, z, he, (fun g => by
    obtain ⟨a, b⟩ := h1 (spl 10 s.data.toList).dropLast (by unfold linesO; rw [if_pos g])
    exact ⟨a, b.holds⟩), (fun g => by
    obtain ⟨a, b⟩ := h2 (by unfold linesO; rw [if_neg g])
    subst b
    exact ⟨a, (OwnT.nil w' w.heap.size).holds⟩), hb⟩
theorem words_any (s : ByteArray) (hs : s.size ≤ 90000) (w : World) : Calls Tryd.prog 8 #[.string s] w fun e w' => ∃ v, e = .returned v ∧ HoldT w' v (wordsL s.data.toList) ∧ Below w.heap.size w w' :=
  (pwords_any s hs w).mono fun _ _ ⟨v, he, h1, hb⟩ => ⟨v, he, h1.holds, hb⟩
end Go.Proofs.YtomplnncbfdldaaDoor
