/-
  The reference's Lower; slices of rows of texts in memory; the reference's Get: what they return; nothing old turns.
-/
import Derived.Test.YtomplnncbfdldaaDoorSField
import Derived.Laws.Runes
import Derived.ShutString
namespace Go.Proofs.YtomplnncbfdldaaDoor
open Go.RowKit
theorem enc_low : ∀ d : Fin 26, Utf8.encode ((97 + d.val : Nat) : Int) = ⟨#[UInt8.ofNat (97 + d.val)]⟩ := by decide +kernel
theorem low_up {c : UInt8} (h1 : 65 ≤ c.toNat) (h2 : c.toNat ≤ 90) : lowC c = UInt8.ofNat (c.toNat + 32) := by
  unfold lowC upB
  rw [decide_eq_true h1, decide_eq_true h2]
  simp only [Bool.and_self, if_true]
  apply UInt8.toNat_inj.1
  rw [UInt8.toNat_add, UInt8.toNat_ofNat']
  rfl
theorem low_no {c : UInt8} (h : ¬ (65 ≤ c.toNat ∧ c.toNat ≤ 90)) : lowC c = c := by
  unfold lowC upB
  rw [if_neg]
  simp only [Bool.and_eq_true, decide_eq_true_eq]; exact h
theorem rune_low (c : UInt8) (h1 : 65 ≤ c.toNat) (h2 : c.toNat ≤ 90) (w : World) : (convert 21 9 (.int .i32 ((c.toNat : Int) + 32))).run Tryd.prog w = .ok (.string ⟨#[lowC c]⟩) w := by
  have e := enc_low ⟨c.toNat - 65, by omega⟩
  simp only [] at e
  have e2 : 97 + (c.toNat - 65) = c.toNat + 32 := by omega
  rw [e2] at e
  rw [run_convert_int_string w 21 9 .i32 _ (by kernel_rfl) Tryd.underlying9, show ((c.toNat : Int) + 32) = ((c.toNat + 32 : Nat) : Int) by omega, e, low_up h1 h2]
-- Rows
/-- The slice value v holds the rows rs, of k texts each. -/
def HoldR (k : Nat) (w : World) (v : Value) (rs : List (List Bs)) : Prop :=
  ∃ (a : Option Addr) (c b o : Nat), v = .slice a rs.length c ∧ rs.length ≤ c ∧ (0 < rs.length → a = some ⟨b, o, none⟩ ∧ b < w.heap.size) ∧
    ∀ (j : Nat) r, rs[j]? = some r → ∀ (i : Nat) x, i < k → r[i]? = some x → w.cell? ⟨b, o + j * k + i, none⟩ = some (.string ⟨x.toArray⟩)
theorem HoldR.on {k : Nat} {w w' : World} {v : Value} {rs : List (List Bs)} (h : HoldR k w v rs) (hb : Below w.heap.size w w') : HoldR k w' v rs := by
  obtain ⟨a, c, b, o, rfl, hc, ha, hcell⟩ := h
  refine ⟨a, c, b, o, rfl, hc, fun h0 => ⟨(ha h0).1, Nat.lt_of_lt_of_le (ha h0).2 hb.size⟩, fun j r hj i x hi hx => ?_⟩
  have h0 : 0 < rs.length := by have := (List.getElem?_eq_some_iff.1 hj).1; omega
  rw [hb.cell (ha h0).2]
  exact hcell j r hj i x hi hx
theorem HoldR.cut {k : Nat} {w : World} {a : Option Addr} {c n : Nat} {rs : List (List Bs)} (h : HoldR k w (.slice a n c) rs) (m : Nat) (hm : m ≤ n) : HoldR k w (.slice a m c) (rs.take m) := by
  obtain ⟨a', c', b, o, e, hc, ha, hcell⟩ := h
  simp only [Value.slice.injEq] at e
  obtain ⟨rfl, rfl, rfl⟩ := e
  have hl : (rs.take m).length = m := by rw [List.length_take]; omega
  refine ⟨a, c, b, o, by rw [hl], by omega, fun h0 => ha (by omega), fun j r hj => ?_⟩
  rw [List.getElem?_take] at hj
  split at hj
  · exact hcell j r hj
  · cases hj
def rowF (f : Fld) : List Bs := [f.1, f.2]
def getF (l : List Fld) (n : Bs) : Bs × Bool := match l.find? (fun f => decide (lower f.1 = lower n)) with
  | some f => (f.2, true)
  | none => ([], false)
theorem getF_snd (l : List Fld) (n : Bs) : (getF l n).2 = decide (lower n ∈ l.map fun f => lower f.1) := by
  unfold getF
  cases h : l.find? (fun f => decide (lower f.1 = lower n)) with
  | some f =>
    have h1 := List.find?_some h
    have h2 := List.mem_of_find?_eq_some h
    simp only [decide_eq_true_eq] at h1
    exact (decide_eq_true (List.mem_map.2 ⟨f, h2, h1⟩)).symm
  | none =>
    rw [List.find?_eq_none] at h
    refine (decide_eq_false fun hm => ?_).symm
    obtain ⟨f, hf, e⟩ := List.mem_map.1 hm
    exact h f hf (by simp [e])
theorem getF_no {l : List Fld} {n : Bs} {k : Nat} (h : ∀ (j : Nat) (hj : j < l.length), j < k → lower l[j].1 ≠ lower n) (hk : k = l.length) : getF l n = ([], false) := by
  unfold getF
  rw [List.find?_eq_none.2]
  intro f hf g
  obtain ⟨j, hj, rfl⟩ := List.mem_iff_getElem.1 hf
  exact h j hj (by omega) (by simpa using g)
theorem getF_at {l : List Fld} {n : Bs} {k : Nat} (hk : k < l.length) (h : ∀ (j : Nat) (hj : j < l.length), j < k → lower l[j].1 ≠ lower n) (g : lower l[k].1 = lower n) : getF l n = (l[k].2, true) := by
  have e : l.find? (fun f => decide (lower f.1 = lower n)) = some l[k] := by
    rw [List.find?_eq_some_iff_getElem]
    exact ⟨by simp [g], k, hk, rfl, fun j hj => by simp; exact h j (by omega) hj⟩
  unfold getF; rw [e]
def GetPost (l : List Fld) (n : Bs) (w : World) (e : Ending) (w' : World) : Prop := e = .returned (.tuple #[.string ⟨(getF l n).1.toArray⟩, .bool (getF l n).2]) ∧ w' = w
end Go.Proofs.YtomplnncbfdldaaDoor
