/-
  Selections in memory: held, owned; slices.IndexFunc and ContainsFunc of them.
-/
import Derived.Test.YtnfhccnicojdcaaGreatDoorYMath
import Derived.Test.YtnfhccnicojdcaaGreatDoorRowV
import Derived.Lib.SliceRun
import Derived.RangeFuncRecord
namespace Go.Proofs.YtnfhccnicojdcaaGreatDoor
open Go.RowKit
abbrev bsT (l : Bs) : ByteArray := ⟨l.toArray⟩
abbrev cellsY (x : Sl) : Rw := [.string (bsT x.1), .bool x.2.1, .string (bsT x.2.2)]
abbrev aggY (x : Sl) : Value := .agg #[.string (bsT x.1), .bool x.2.1, .string (bsT x.2.2)]
abbrev HoldY (w : World) (v : Value) (l : List (Sl)) : Prop := HoldV 3 w v (l.map cellsY)
theorem HoldY.parts {w : World} {v : Value} {l : List (Sl)} (h : HoldY w v l) : ∃ (a : Option Addr) (c b o : Nat), v = .slice a l.length c ∧ l.length ≤ c ∧ (0 < l.length → a = some ⟨b, o, none⟩ ∧ b < w.heap.size) ∧
    ∀ (j : Nat) x, l[j]? = some x → w.cell? ⟨b, o + j * 3, none⟩ = some (.string (bsT x.1)) ∧ w.cell? ⟨b, o + j * 3 + 1, none⟩ = some (.bool x.2.1) ∧ w.cell? ⟨b, o + j * 3 + 2, none⟩ = some (.string (bsT x.2.2)) := by
  obtain ⟨a, c, b, o, e, hc, ha, hcell⟩ := h
  rw [List.length_map] at e hc ha
  refine ⟨a, c, b, o, e, hc, ha, fun j x hx => ?_⟩
  have := hcell j (cellsY x) (by rw [List.getElem?_map, hx]; rfl)
  exact ⟨this 0 _ (by omega) rfl, this 1 _ (by omega) rfl, this 2 _ (by omega) rfl⟩
abbrev OwnY (T : TypeId) (w : World) (base : Nat) (v : Value) (l : List (Sl)) : Prop := OwnV T 3 w base v (l.map cellsY)
theorem cellsY_len (l : List (Sl)) : ∀ r ∈ l.map cellsY, r.length = 3 := fun r hr => by obtain ⟨x, _, rfl⟩ := List.mem_map.1 hr; rfl
theorem OwnY.app {T : TypeId} {w' : World} {base : Nat} {v' : Value} {l : List (Sl)} {x : Sl} {c0 : ByteArray} {c2 : ByteArray} (h0 : c0.data.toList = x.1) (h2 : c2.data.toList = x.2.2) (h : w'.ownsRow base T 3 v' (l.length + 1) ((l.map cellsY).flatten ++ [.string c0, .bool x.2.1, .string c2])) : OwnY T w' base v' (l ++ [x]) := by
  have := OwnV.app (T := T) (k := 3) (rows := l.map cellsY) (r := cellsY x) (cellsY_len l) rfl (by rw [List.length_map]; rw [strOf h0, strOf h2] at h; exact h)
  unfold OwnY; rw [List.map_append]; exact this
theorem OwnY.one (l : List (Sl)) : ∀ u ∈ (l.map cellsY).flatten, u.oneCell' = true := fun u hu => by
  obtain ⟨r, hr, hu⟩ := List.mem_flatten.1 hu
  obtain ⟨x, _, rfl⟩ := List.mem_map.1 hr
  simp only [List.mem_cons, List.not_mem_nil, or_false] at hu
  rcases hu with rfl | rfl | rfl <;> rfl
def PredY (l : List Sl) (g : Nat) (lb : Array Value) (p : Sl → Bool) (w : World) : Prop :=
  ∀ W x, x ∈ l → Below w.heap.size w W → Calls Tryz.prog g (#[aggY x] ++ lb) W fun e w' => e = .returned (.bool (p x)) ∧ Below W.heap.size W w'
def idxY (l : List (Sl)) (p : Sl → Bool) : Int := match l.findIdx? p with
  | some k => (k : Int)
  | none => -1
theorem idxY_hit {l : List (Sl)} {p : Sl → Bool} {k : Nat} {x : Sl} (hx : l[k]? = some x) (hp : p x = true) (hb : ∀ (j : Nat) y, j < k → l[j]? = some y → p y = false) : l.findIdx? p = some k := by
  rw [List.findIdx?_eq_some_iff_getElem]
  obtain ⟨hk, e⟩ := List.getElem?_eq_some_iff.1 hx
  exact ⟨hk, by rw [e]; exact hp, fun j hj => by rw [hb j _ hj (List.getElem?_eq_getElem (by omega))]; simp⟩
theorem idxY_miss {l : List (Sl)} {p : Sl → Bool} (hb : ∀ (j : Nat) y, l[j]? = some y → p y = false) : l.findIdx? p = none := by
  rw [List.findIdx?_eq_none_iff]
  intro y hy
  obtain ⟨j, hj⟩ := List.mem_iff_getElem?.1 hy
  exact hb j y hj
theorem idxY_neg {l : List Sl} {p : Sl → Bool} : (0 ≤ idxY l p) = (l.any p = true) := by
  unfold idxY
  cases h : l.findIdx? p with
  | none =>
    rw [List.findIdx?_eq_none_iff] at h
    have : l.any p = false := by rw [List.any_eq_false]; intro x hx; rw [h x hx]; simp
    rw [this]; simp
  | some k =>
    obtain ⟨hk, hp, _⟩ := List.findIdx?_eq_some_iff_getElem.1 h
    have : l.any p = true := List.any_eq_true.2 ⟨_, List.getElem_mem hk, hp⟩
    rw [this]; simp
end Go.Proofs.YtnfhccnicojdcaaGreatDoor
