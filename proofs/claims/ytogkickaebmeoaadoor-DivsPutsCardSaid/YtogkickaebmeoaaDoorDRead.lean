/-
  The program's read of three lines, and Parse: what each returns; nothing old turns. Condition: LaidP.
-/
import Derived.Test.YtogkickaebmeoaaDoorDOwn
import Derived.Test.YtogkickaebmeoaaDoorSPLines2
import Derived.BigRegion
namespace Go.Proofs.YtogkickaebmeoaaDoor
open Go.RowKit
def ReadPost (a b c : ByteArray) (w : World) (e : Ending) (w' : World) : Prop := e = .returned (.agg #[.string a, .string b, .string (if c.data.toList = [58] then ⟨#[]⟩ else c)]) ∧ Below w.heap.size w w'
set_option maxRecDepth 100000 in
set_option maxHeartbeats 8000000 in
theorem read9_any (B o m cap : Nat) (hm : 3 ≤ m) (hmm : m ≤ 1000000) (a b c : ByteArray) (w : World) (h0 : w.cell? ⟨B, o, none⟩ = some (.string a)) (h1 : w.cell? ⟨B, o + 1, none⟩ = some (.string b)) (h2 : w.cell? ⟨B, o + 2, none⟩ = some (.string c)) :
    Calls Tryd.prog 90 #[.slice (some ⟨B, o, none⟩) m cap] w (ReadPost a b c w) := by
  have hq := eqTL c [58]
  have HP : Hid (∀ (z : ByteArray) w', z = (if c.data.toList = [58] then ⟨#[]⟩ else c) → Below w.heap.size w w' → ReadPost a b c w (.returned (.agg #[.string a, .string b, .string z])) w') := Lib.hid (fun z w' e hb => ⟨by rw [e], hb⟩)
  obtain ⟨a0, a1, a2⟩ := cells3_on ⟨h0, h1, h2⟩ ((Below.refl w.heap.size w).alloc (Nat.le_refl _) (.cells #[.string ⟨#[]⟩, .string ⟨#[]⟩, .string ⟨#[]⟩] 54))
  obtain ⟨b0, b1, b2⟩ := cells3_on ⟨a0, a1, a2⟩ ((Below.refl _ _).alloc (Nat.le_refl _) (.cells #[.string ⟨#[]⟩, .string ⟨#[]⟩, .string ⟨#[]⟩] 54))
  have BL : ∀ x y z x' y' z' : ByteArray, Below w.heap.size w ((w.alloc (.cells #[.string x, .string y, .string z] 54)).alloc (.cells #[.string x', .string y', .string z'] 54)) := fun x y z x' y' z' => ((Below.refl _ w).alloc (Nat.le_refl _) _).alloc (by simp) _
  have HBL := Lib.hid BL
  clear BL
  have m0 : (0 : Int) < (m : Int) := by omega
  have m1 : (1 : Int) < (m : Int) := by omega
  have m2 : (2 : Int) < (m : Int) := by omega
  by_cases hc : c.data.toList = [58]
  · rw [decide_eq_true hc] at hq
    have HZ : Hid ((⟨#[]⟩ : ByteArray) = (if c.data.toList = [58] then ⟨#[]⟩ else c)) := Lib.hid (by rw [if_pos hc])
    clear hc
    go_enter Tryd.func90, Tryd.ntmps90
    go_wp2
    go_region
    clear a0 a1 a2 b0 b1 b2 h0 h1 h2
    go_wp2
    exact bodyPost_ret (v := .agg #[.string a, .string b, .string ⟨#[]⟩]) (by simp [results, Tryd.results90, go_sem]) rfl (HP.out _ _ HZ.out (HBL.out _ _ _ _ _ _).drew)
  · rw [decide_eq_false hc] at hq
    have HZ : Hid (c = (if c.data.toList = [58] then ⟨#[]⟩ else c)) := Lib.hid (by rw [if_neg hc])
    clear hc
    go_enter Tryd.func90, Tryd.ntmps90
    go_wp2
    go_region
    clear a0 a1 a2 b0 b1 b2 h0 h1 h2
    go_wp2
    exact bodyPost_ret (v := .agg #[.string a, .string b, .string c]) (by simp [results, Tryd.results90, go_sem]) rfl (HP.out _ _ HZ.out (HBL.out _ _ _ _ _ _).drew)
end Go.Proofs.YtogkickaebmeoaaDoor
