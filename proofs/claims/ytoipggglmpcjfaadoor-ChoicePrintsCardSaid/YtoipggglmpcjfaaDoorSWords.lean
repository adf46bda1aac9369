/-
  The reference's Lines and Words, and (of layer 2) Same: what each returns; nothing old turns.
-/
import Derived.Test.YtoipggglmpcjfaaDoorSSplit
namespace Go.Proofs.YtoipggglmpcjfaaDoor
open Go.RowKit
theorem HoldT.cut {w : World} {a : Option Addr} {c n : Nat} {ls : List Bs} (h : HoldT w (.slice a n c) ls) (k : Nat) (hk : k ≤ n) : HoldT w (.slice a k c) (ls.take k) := by
  obtain ⟨a', c', b, o, e, hc, ha, hcell⟩ := h
  simp only [Value.slice.injEq] at e
  obtain ⟨rfl, rfl, rfl⟩ := e
  have hl : (ls.take k).length = k := by rw [List.length_take]; omega
  refine ⟨a, c, b, o, by rw [hl], by omega, fun h0 => ha (by omega), fun j l hj => ?_⟩
  rw [List.getElem?_take] at hj
  split at hj
  · exact hcell j l hj
  · cases hj
theorem getLastAt {ls : List Bs} {n : Nat} (h : ls.length = n + 1) : ls.getLast? = some (ls[n]'(by omega)) := by
  have e : ls.length - 1 = n := by omega
  rw [List.getLast?_eq_getElem?, e]
  exact List.getElem?_eq_getElem _
def LinesPost (s : Bs) (w : World) (e : Ending) (w' : World) : Prop := ∃ v, e = .returned (.tuple #[v, .bool (decide ((spl 10 s).getLast? = some []))]) ∧ HoldT w' v (spl 10 s).dropLast ∧ Below w.heap.size w w'
set_option maxRecDepth 100000 in
set_option maxHeartbeats 4000000 in
theorem lines_ref (s : ByteArray) (hs : s.size ≤ 100000) (w : World) : Calls Tryd.prog 28 #[.string s] w (LinesPost s.data.toList w) := by
  have C := fun w => split_ref6 s hs 10 w
  have hne := spl_ne 10 s.data.toList
  have hln := spl_len 10 s.data.toList
  rw [← sizeOf] at hln
  have HP : Hid (∀ e w' v x, (spl 10 s.data.toList).getLast? = some x → e = .returned (.tuple #[v, .bool (decide (x = []))]) → HoldT w' v (spl 10 s.data.toList).dropLast → Below w.heap.size w w' → LinesPost s.data.toList w e w') := Lib.hid (fun e w' v x hx he h1 h2 => ⟨v, by rw [hx, he]; simp, h1, h2⟩)
  generalize spl 10 s.data.toList = ls at *
  obtain ⟨n, hn⟩ : ∃ n, ls.length = n + 1 := ⟨ls.length - 1, by have := List.length_pos_iff.2 hne; omega⟩
  have hnb : n ≤ 100000 := by omega
  clear hne
  go_enter Tryd.func28, Tryd.ntmps28
  go_wp2_with (first | (go_at_call 42; refine (C _).mono ?_; rintro e w1 ⟨v1, rfl, ho, hb⟩; obtain ⟨a, c, b, o, rfl, hc, ha, hcell⟩ := ho.holds; have HB1 := Lib.hid hb; have HH := Lib.hid ho.holds; clear ho hb; refine Hid.out ?_))
  refine Lib.hid ?_
  obtain ⟨rfl, hbw⟩ := ha (by omega)
  rw [hn] at hc HH
  have hcx := hcell n _ (List.getElem?_eq_getElem (by omega))
  have HX : Hid (ls.getLast? = some ls[n]) := Lib.hid (getLastAt hn)
  have HC : Hid (HoldT w1 (.slice (some ⟨b, o, none⟩) n c) ls.dropLast) := Lib.hid (by rw [List.dropLast_eq_take, hn]; exact HH.out.cut n (by omega))
  obtain ⟨x, hx⟩ : ∃ x : ByteArray, x.data.toList = ls[n] := ⟨⟨(ls[n]).toArray⟩, by simp⟩
  rw [← strOf hx] at hcx
  rw [← hx] at HX
  have he := emptyT x
  have HS := Lib.hid (sizeOf x)
  clear hcell ha HH hx C hn
  by_cases h0 : x.size = 0
  · rw [decide_eq_true h0] at he
    go_wp2
    go_quiet (fail)
    go_wp2
    go_ret2
    exact HP.out _ _ (.slice (some ⟨b, o, none⟩) n c) _ HX.out (by rw [decide_eq_true (List.eq_nil_of_length_eq_zero (by rw [← HS.out]; exact h0))]; rfl) (HC.out.on (belowQ (Below.refl _ _) _)) (belowQ HB1.out _)
  · rw [decide_eq_false h0] at he
    go_wp2
    go_quiet (fail)
    go_wp2
    go_ret2
    exact HP.out _ _ (.slice (some ⟨b, o, none⟩) n c) _ HX.out (by rw [decide_eq_false (fun e => h0 (by rw [HS.out, e]; rfl))]; rfl) (HC.out.on (belowQ (Below.refl _ _) _)) (belowQ HB1.out _)
end Go.Proofs.YtoipggglmpcjfaaDoor
