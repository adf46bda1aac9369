/-
  The walk of DivsTrue: for every list and two texts it returns true; nothing old turns. Condition: LaidP.
-/
import Derived.Test.YtgjnhnaccdmbjaaDoorDAwake
namespace Go.Proofs.YtgjnhnaccdmbjaaDoor.divsTruew
open Go.RowKit
set_option maxRecDepth 100000 in
set_option maxHeartbeats 8000000 in
theorem walk (v : Value) (l : List Dv) (bl : l.length ≤ maxLen) (bs : ∀ x ∈ l, x.1.length ≤ maxLen ∧ x.2.1.length ≤ maxLen ∧ x.2.2.length ≤ maxLen) (p : ByteArray) (bp : p.size ≤ 9223372036854775807) (q : ByteArray) (bq : q.size ≤ 9223372036854775807) (w : World) (h : HoldD w v l) (hL : LaidP w) :
    Calls Tryd.prog 6 #[v, .string p, .string q] w fun e' w' => e' = .returned (.bool true) ∧ Below w.heap.size w w' := by
  have AW := fun W (hb : Below w.heap.size w W) => awake9 W (hL.on hb)
  have FE := few_any v l w bl bs h
  unfold FewPost at FE
  have HR := Lib.hid (Below.refl w.heap.size w)
  have HH := Lib.hid h
  obtain ⟨a, c, b, o, rfl, -, -, -⟩ := h.parts
  clear h hL bl bs
  by_cases hf : FewD l
  case neg =>
    rw [fewB_no hf] at FE
    clear hf
    generalize l.length = n at *
    go_enter Tryd.func6, Tryd.ntmps6
    go_wp2_with (first
          | (go_at_call 8; refine FE.mono ?_; rintro e w1 ⟨rfl, rfl⟩)
          | (go_at_call 9; refine (AW _ HR.out).mono ?_; rintro e w2 ⟨rfl, hb⟩))
    go_ret
    exact ⟨rfl, hb⟩
  rw [fewB_yes hf] at FE
  have hln := hf.1
  by_cases hp : 300 < p.size
  · clear hf
    generalize l.length = n at *
    go_enter Tryd.func6, Tryd.ntmps6
    go_wp2_with (first
          | (go_at_call 8; refine FE.mono ?_; rintro e w1 ⟨rfl, rfl⟩)
          | (go_at_call 9; refine (AW _ HR.out).mono ?_; rintro e w2 ⟨rfl, hb⟩))
    go_ret
    exact ⟨rfl, hb⟩
  by_cases hq : 300 < q.size
  · clear hf
    generalize l.length = n at *
    go_enter Tryd.func6, Tryd.ntmps6
    go_wp2_with (first
          | (go_at_call 8; refine FE.mono ?_; rintro e w1 ⟨rfl, rfl⟩)
          | (go_at_call 9; refine (AW _ HR.out).mono ?_; rintro e w2 ⟨rfl, hb⟩))
    go_ret
    exact ⟨rfl, hb⟩
  have T1 := fun W (hb : Below w.heap.size w W) => true_any _ l (by omega) p q W (HoldR.on HH.out hb)
  have T2 := fun W (hb : Below w.heap.size w W) => true_ref _ l (by omega) p q W (HoldR.on HH.out hb)
  have F1 := fun W (hb : Below w.heap.size w W) => from_any _ l (by omega) p W (HoldR.on HH.out hb)
  have F2 := fun W (hb : Below w.heap.size w W) => from_ref _ l (by omega) p W (HoldR.on HH.out hb)
  unfold ToPost at T1 T2
  unfold FromPost at F1 F2
  generalize bsA (toD l p.data.toList q.data.toList) = TT at *
  generalize bsA (fromD l p.data.toList) = FF at *
  clear HH hf
  generalize l.length = n at *
  have e1 := eqT TT TT
  have e2 := eqT FF FF
  rw [decide_eq_true rfl] at e1 e2
  go_enter Tryd.func6, Tryd.ntmps6
  go_wp2_with (first
    | (go_at_call 8; refine FE.mono ?_; rintro e w1 ⟨rfl, rfl⟩)
    | (go_at_call 25; (with_reducible refine (T1 _ HR.out).mono ?_); rintro e w2 ⟨rfl, hb⟩; have HB2 := Lib.hid hb; clear hb T1)
    | (go_at_call 26; (with_reducible refine (T2 _ HB2.out).mono ?_); rintro e w3 ⟨rfl, hb⟩; have HB3 := Lib.hid (HB2.out.trans (hb.mono HB2.out.size)); clear hb T2)
    | (go_at_call 27; (with_reducible refine (F1 _ HB3.out).mono ?_); rintro e w4 ⟨rfl, hb⟩; have HB4 := Lib.hid (HB3.out.trans (hb.mono HB3.out.size)); clear hb F1)
    | (go_at_call 28; (with_reducible refine (F2 _ HB4.out).mono ?_); rintro e w5 ⟨rfl, hb⟩; have HB5 := Lib.hid (HB4.out.trans (hb.mono HB4.out.size)); clear hb F2)
    | (go_at_call 9; refine (AW _ HB5.out).mono ?_; rintro e w6 ⟨rfl, hb⟩; have HB6 := Lib.hid (HB5.out.trans (hb.mono HB5.out.size)); clear hb))
  go_ret
  exact ⟨rfl, HB6.out⟩
end Go.Proofs.YtgjnhnaccdmbjaaDoor.divsTruew
