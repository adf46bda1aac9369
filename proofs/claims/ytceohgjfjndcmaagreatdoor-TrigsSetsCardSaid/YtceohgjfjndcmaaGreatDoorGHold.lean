/-
  Slices of interests (two texts, a bool) and of fired triggers (a text, a slice of texts) in memory.
-/
import Derived.Test.YtceohgjfjndcmaaGreatDoorGMath
import Derived.Test.YtceohgjfjndcmaaGreatDoorRowV
namespace Go.Proofs.YtceohgjfjndcmaaGreatDoor
open Go.RowKit
abbrev bsT (l : Bs) : ByteArray := ⟨l.toArray⟩
abbrev cellsI (x : It) : Rw := [.string (bsT x.1), .string (bsT x.2.1), .bool x.2.2]
abbrev aggI (x : It) : Value := .agg #[.string (bsT x.1), .string (bsT x.2.1), .bool x.2.2]
abbrev HoldI (w : World) (v : Value) (l : List It) : Prop := HoldV 3 w v (l.map cellsI)
theorem HoldI.parts {w : World} {v : Value} {l : List It} (h : HoldI w v l) : ∃ (a : Option Addr) (c b o : Nat), v = .slice a l.length c ∧ l.length ≤ c ∧ (0 < l.length → a = some ⟨b, o, none⟩ ∧ b < w.heap.size) ∧
    ∀ (j : Nat) x, l[j]? = some x → w.cell? ⟨b, o + j * 3, none⟩ = some (.string (bsT x.1)) ∧ w.cell? ⟨b, o + j * 3 + 1, none⟩ = some (.string (bsT x.2.1)) ∧ w.cell? ⟨b, o + j * 3 + 2, none⟩ = some (.bool x.2.2) := by
  obtain ⟨a, c, b, o, e, hc, ha, hcell⟩ := h
  rw [List.length_map] at e hc ha
  refine ⟨a, c, b, o, e, hc, ha, fun j x hx => ?_⟩
  have := hcell j (cellsI x) (by rw [List.getElem?_map, hx]; rfl)
  exact ⟨this 0 _ (by omega) rfl, this 1 _ (by omega) rfl, this 2 _ (by omega) rfl⟩
abbrev OwnI (w : World) (base : Nat) (v : Value) (l : List It) : Prop := OwnV 53 3 w base v (l.map cellsI)
theorem cellsI_len (l : List It) : ∀ r ∈ l.map cellsI, r.length = 3 := fun r hr => by obtain ⟨x, _, rfl⟩ := List.mem_map.1 hr; rfl
theorem OwnI.app {w' : World} {base : Nat} {v' : Value} {l : List It} {x : It} {a b : ByteArray} (ha : a.data.toList = x.1) (hb : b.data.toList = x.2.1) (h : w'.ownsRow base 53 3 v' (l.length + 1) ((l.map cellsI).flatten ++ [.string a, .string b, .bool x.2.2])) : OwnI w' base v' (l ++ [x]) := by
  have := OwnV.app (T := 53) (k := 3) (rows := l.map cellsI) (r := cellsI x) (cellsI_len l) rfl (by rw [List.length_map]; rw [strOf ha, strOf hb] at h; exact h)
  unfold OwnI; rw [List.map_append]; exact this
theorem infoI : (Tryz.prog.info? 53).map (fun i => (i.zero, i.size, i.bytes)) = some (some (.agg #[.string ⟨#[]⟩, .string ⟨#[]⟩, .bool false]), 3, 40) := by kernel_rfl
-- Fired triggers
/-- A fired trigger, and the slice value of who waits. -/
abbrev Fp := Fr × Value
abbrev cellsF (p : Fp) : Rw := [.string (bsT p.1.1), p.2]
abbrev aggF (p : Fp) : Value := .agg #[.string (bsT p.1.1), p.2]
def InF (w : World) (L : List Fp) : Prop := ∀ p ∈ L, HoldT w p.2 p.1.2
theorem InF.on {w w' : World} {L : List Fp} (h : InF w L) (hb : Below w.heap.size w w') : InF w' L := fun p hp => (h p hp).on hb
theorem HoldT.one {w : World} {v : Value} {l : List Bs} (h : HoldT w v l) : v.oneCell' = true := by
  obtain ⟨a, c, b, o, rfl, _⟩ := h; rfl
theorem HoldT.form {w : World} {v : Value} {l : List Bs} (h : HoldT w v l) : ∃ a c, v = .slice a l.length c := by
  obtain ⟨a, c, b, o, rfl, _⟩ := h; exact ⟨a, c, rfl⟩
def HoldF (w : World) (v : Value) (L : List Fp) : Prop := InF w L ∧ HoldV 2 w v (L.map cellsF)
theorem HoldF.on {w w' : World} {v : Value} {L : List Fp} (h : HoldF w v L) (hb : Below w.heap.size w w') : HoldF w' v L := ⟨h.1.on hb, h.2.on hb⟩
theorem HoldF.parts {w : World} {v : Value} {L : List Fp} (h : HoldF w v L) : ∃ (a : Option Addr) (c b o : Nat), v = .slice a L.length c ∧ L.length ≤ c ∧ (0 < L.length → a = some ⟨b, o, none⟩ ∧ b < w.heap.size) ∧
    ∀ (j : Nat) p, L[j]? = some p → w.cell? ⟨b, o + j * 2, none⟩ = some (.string (bsT p.1.1)) ∧ w.cell? ⟨b, o + j * 2 + 1, none⟩ = some p.2 := by
  obtain ⟨_, a, c, b, o, e, hc, ha, hcell⟩ := h
  rw [List.length_map] at e hc ha
  refine ⟨a, c, b, o, e, hc, ha, fun j x hx => ?_⟩
  have := hcell j (cellsF x) (by rw [List.getElem?_map, hx]; rfl)
  exact ⟨this 0 _ (by omega) rfl, this 1 _ (by omega) rfl⟩
abbrev OwnF (w : World) (base : Nat) (v : Value) (L : List Fp) : Prop := OwnV 74 2 w base v (L.map cellsF)
theorem cellsF_len (l : List Fp) : ∀ r ∈ l.map cellsF, r.length = 2 := fun r hr => by obtain ⟨x, _, rfl⟩ := List.mem_map.1 hr; rfl
theorem OwnF.app {w' : World} {base : Nat} {v' : Value} {L : List Fp} {p : Fp} {a : ByteArray} (ha : a.data.toList = p.1.1) (h : w'.ownsRow base 74 2 v' (L.length + 1) ((L.map cellsF).flatten ++ [.string a, p.2])) : OwnF w' base v' (L ++ [p]) := by
  have := OwnV.app (T := 74) (k := 2) (rows := L.map cellsF) (r := cellsF p) (cellsF_len L) rfl (by rw [List.length_map]; rw [strOf ha] at h; exact h)
  unfold OwnF; rw [List.map_append]; exact this
theorem infoF : (Tryz.prog.info? 74).map (fun i => (i.zero, i.size, i.bytes)) = some (some (.agg #[.string ⟨#[]⟩, .slice none 0 0]), 2, 40) := by kernel_rfl
end Go.Proofs.YtceohgjfjndcmaaGreatDoor
