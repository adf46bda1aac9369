/-
  Fired triggers that a call builds: their texts lie in rows of their own, apart by the element's type.
-/
import Derived.Test.YtceohgjfjndcmaaGreatDoorGHold
import Derived.Test.YtceohgjfjndcmaaGreatDoorBoxV
namespace Go.Proofs.YtceohgjfjndcmaaGreatDoor
open Go.RowKit
theorem kinds_apart {w : World} {b1 b2 s1 s2 n1 n2 : Nat} {v1 v2 : Value} {x1 x2 : List Value} {e1 e2 : TypeId} (h1 : w.ownsRow b1 e1 s1 v1 n1 x1) (h2 : w.ownsRow b2 e2 s2 v2 n2 x2) (he : e1 ≠ e2) : v1.ownBlock = none ∨ v1.ownBlock ≠ v2.ownBlock := by
  rcases h1.2 with ⟨rfl, _⟩ | ⟨g, cap, cur, rfl, hb, hg, _⟩
  · exact .inl rfl
  · refine .inr fun e => ?_
    rcases h2.2 with ⟨rfl, _⟩ | ⟨g', cap', cur', rfl, hb', hg', _⟩
    · simp [Value.ownBlock] at e
    · simp only [Value.ownBlock, Option.some.injEq] at e
      subst e
      rw [hg] at hg'
      simp only [Option.some.injEq, Obj.cells.injEq] at hg'
      exact he hg'.2.1
theorem OwnT.on {w w' : World} {base : Nat} {v : Value} {l : List Bs} (h : OwnT w base v l) (hb : Below w.heap.size w w') : OwnT w' base v l := World.ownsRow.kept h (grownV hb) (by cases v.ownBlock <;> simp)
/-- The slice value v owns the fired triggers M; who waits lies in rows of texts. -/
def OwnG (w : World) (base : Nat) (v : Value) (M : List Fr) : Prop := ∃ L : List Fp, L.map (·.1) = M ∧ (∀ p ∈ L, OwnT w 0 p.2 p.1.2) ∧ OwnF w base v L
theorem OwnG.nil (w : World) (base : Nat) : OwnG w base (.slice none 0 0) [] := ⟨[], rfl, fun p hp => by simp at hp, OwnV.nil _ _ _ _⟩
theorem OwnG.on {w w' : World} {base : Nat} {v : Value} {M : List Fr} (h : OwnG w base v M) (hb : Below w.heap.size w w') : OwnG w' base v M := by
  obtain ⟨L, h1, h2, h3⟩ := h
  exact ⟨L, h1, fun p hp => (h2 p hp).on hb, h3.on hb⟩
theorem OwnG.holds {w : World} {base : Nat} {v : Value} {M : List Fr} (h : OwnG w base v M) : ∃ L : List Fp, L.map (·.1) = M ∧ HoldF w v L := by
  obtain ⟨L, h1, h2, h3⟩ := h
  exact ⟨L, h1, fun p hp => (h2 p hp).holds, h3.holds⟩
theorem OwnG.app {w w' : World} {o : Obj} {base : Nat} {v v' : Value} {L : List Fp} {x : Fr} {u : Value} {a : ByteArray} (h2 : ∀ p ∈ L, OwnT w 0 p.2 p.1.2) (h3 : OwnF w base v L) (hu : OwnT w 0 u x.2) (ha : a.data.toList = x.1)
    (hown : w'.ownsRow base 74 2 v' (L.length + 1) ((L.map cellsF).flatten ++ [.string a, u])) (hg : (w.alloc o).grownBy w' v.ownBlock) : OwnG w' base v' (L.map (·.1) ++ [x]) := by
  have hk : ∀ {u : Value} {l : List Bs}, OwnT w 0 u l → OwnT w' 0 u l := fun hu => World.ownsRow.kept (World.ownsRow.alloc hu o) hg (kinds_apart hu h3.2 (by decide))
  refine ⟨L ++ [(x, u)], by rw [List.map_append]; rfl, fun p hp => ?_, OwnF.app (p := (x, u)) ha hown⟩
  rcases List.mem_append.1 hp with hp | hp
  · exact hk (h2 p hp)
  · simp at hp; subst hp; exact hk hu
end Go.Proofs.YtceohgjfjndcmaaGreatDoor
