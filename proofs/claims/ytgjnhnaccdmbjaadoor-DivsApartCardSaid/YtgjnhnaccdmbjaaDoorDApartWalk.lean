/-
  The walk of DivsApart: for every list and two texts it returns true; nothing old turns. Condition: LaidP.
-/
import Derived.Test.YtgjnhnaccdmbjaaDoorDAwake
namespace Go.Proofs.YtgjnhnaccdmbjaaDoor.divsApartw
open Go.RowKit
set_option maxRecDepth 100000 in
set_option maxHeartbeats 8000000 in
theorem walk (v : Value) (l : List Dv) (bl : l.length ≤ maxLen) (bs : ∀ x ∈ l, x.1.length ≤ maxLen ∧ x.2.1.length ≤ maxLen ∧ x.2.2.length ≤ maxLen) (p : ByteArray) (bp : p.size ≤ 9223372036854775807) (q : ByteArray) (bq : q.size ≤ 9223372036854775807) (w : World) (h : HoldD w v l) (hL : LaidP w) :
    Calls Tryd.prog 7 #[v, .string p, .string q] w fun e' w' => e' = .returned (.bool true) ∧ Below w.heap.size w w' := by
  have AW := fun W (hb : Below w.heap.size w W) => awake9 W (hL.on hb)
  have FE := few_any v l w bl bs h
  unfold FewPost at FE
  have HR := Lib.hid (Below.refl w.heap.size w)
  have HH := Lib.hid h
  have hL0 := Lib.hid hL
  obtain ⟨a, c, b, o, rfl, -, -, -⟩ := h.parts
  clear h hL bl bs
  by_cases hf : FewD l
  case neg =>
    rw [fewB_no hf] at FE
    clear hf
    generalize l.length = n at *
    go_enter Tryd.func7, Tryd.ntmps7
    go_wp2_with (first
          | (go_at_call 8; refine FE.mono ?_; rintro e w1 ⟨rfl, rfl⟩)
          | (go_at_call 9; refine (AW _ HR.out).mono ?_; rintro e w2 ⟨rfl, hb⟩))
    go_ret
    exact ⟨rfl, hb⟩
  rw [fewB_yes hf] at FE
  have hln := hf.1
  by_cases hp : 300 < p.size
  · clear hf
    generalize l.length = n at *
    go_enter Tryd.func7, Tryd.ntmps7
    go_wp2_with (first
          | (go_at_call 8; refine FE.mono ?_; rintro e w1 ⟨rfl, rfl⟩)
          | (go_at_call 9; refine (AW _ HR.out).mono ?_; rintro e w2 ⟨rfl, hb⟩))
    go_ret
    exact ⟨rfl, hb⟩
  by_cases hq : 300 < q.size
  · clear hf
    generalize l.length = n at *
    go_enter Tryd.func7, Tryd.ntmps7
    go_wp2_with (first
          | (go_at_call 8; refine FE.mono ?_; rintro e w1 ⟨rfl, rfl⟩)
          | (go_at_call 9; refine (AW _ HR.out).mono ?_; rintro e w2 ⟨rfl, hb⟩))
    go_ret
    exact ⟨rfl, hb⟩
  have CK := check9_any _ l (by omega) hf.small w hL0.out HH.out
  unfold ChkPost at CK
  have F1 := fun W (hb : Below w.heap.size w W) => from_any _ l (by omega) p W (HoldR.on HH.out hb)
  have F2 := fun W (hb : Below w.heap.size w W) => from_any _ l (by omega) q W (HoldR.on HH.out hb)
  have T1 := fun W (hb : Below w.heap.size w W) => true_any _ l (by omega) p ⟨#[]⟩ W (HoldR.on HH.out hb)
  have T2 := fun W (hb : Below w.heap.size w W) => true_any _ l (by omega) q ⟨#[]⟩ W (HoldR.on HH.out hb)
  have F3 := fun W (hb : Below w.heap.size w W) => from_any _ l (by omega) (bsA (toD l p.data.toList [])) W (HoldR.on HH.out hb)
  have F4 := fun W (hb : Below w.heap.size w W) => from_any _ l (by omega) (bsA (toD l q.data.toList [])) W (HoldR.on HH.out hb)
  unfold ToPost at T1 T2
  unfold FromPost at F1 F2 F3 F4
  by_cases hz : checkD l = 0
  case neg =>
    have hzn : (checkD l != 0) = true := bne_iff_ne.2 hz
    generalize checkD l = z at *
    clear HH hf T1 T2 F1 F2 F3 F4 hz
    generalize l.length = n at *
    go_enter Tryd.func7, Tryd.ntmps7
    go_wp2_with (first
      | (go_at_call 8; refine FE.mono ?_; rintro e w1 ⟨rfl, rfl⟩)
      | (go_at_call 12; (with_reducible refine CK.mono ?_); rintro e w2 ⟨rfl, hb⟩; have HB2 := Lib.hid hb; clear hb CK)
      | (go_at_call 27; first | ((with_reducible refine (F1 _ HB2.out).mono ?_); rintro e w3 ⟨rfl, hb⟩; have HB3 := Lib.hid (HB2.out.trans (hb.mono HB2.out.size)); clear hb F1) | ((with_reducible refine (F2 _ HB3.out).mono ?_); rintro e w4 ⟨rfl, hb⟩; have HB4 := Lib.hid (HB3.out.trans (hb.mono HB3.out.size)); clear hb F2) | ((with_reducible refine (F3 _ HB6.out).mono ?_); rintro e w7 ⟨rfl, hb⟩; have HB7 := Lib.hid (HB6.out.trans (hb.mono HB6.out.size)); clear hb F3) | ((with_reducible refine (F4 _ HB7.out).mono ?_); rintro e w8 ⟨rfl, hb⟩; have HB8 := Lib.hid (HB7.out.trans (hb.mono HB7.out.size)); clear hb F4))
      | (go_at_call 25; first | ((with_reducible refine (T1 _ HB4.out).mono ?_); rintro e w5 ⟨rfl, hb⟩; have HB5 := Lib.hid (HB4.out.trans (hb.mono HB4.out.size)); clear hb T1) | ((with_reducible refine (T2 _ HB5.out).mono ?_); rintro e w6 ⟨rfl, hb⟩; have HB6 := Lib.hid (HB5.out.trans (hb.mono HB5.out.size)); clear hb T2))
      | (go_at_call 9; refine (AW _ HB2.out).mono ?_; rintro e w9 ⟨rfl, hb⟩; have HB9 := Lib.hid (HB2.out.trans (hb.mono HB2.out.size)); clear hb))
    go_ret
    exact ⟨rfl, HB9.out⟩
  rw [hz] at CK
  have ho := (checkD_zero hz).2
  have s1 := eqT (bsA (fromD l p.data.toList)) p
  have s2 := eqT (bsA (fromD l q.data.toList)) q
  have s3 := eqT p q
  rw [bytesOf] at s1 s2
  by_cases h1 : fromD l p.data.toList = p.data.toList
  case neg =>
    rw [decide_eq_false h1] at s1
    generalize bsA (fromD l p.data.toList) = X at *
    clear HH hf T1 T2 F2 F3 F4 hz h1 ho s2 s3
    generalize l.length = n at *
    go_enter Tryd.func7, Tryd.ntmps7
    go_wp2_with (first
      | (go_at_call 8; refine FE.mono ?_; rintro e w1 ⟨rfl, rfl⟩)
      | (go_at_call 12; (with_reducible refine CK.mono ?_); rintro e w2 ⟨rfl, hb⟩; have HB2 := Lib.hid hb; clear hb CK)
      | (go_at_call 27; first | ((with_reducible refine (F1 _ HB2.out).mono ?_); rintro e w3 ⟨rfl, hb⟩; have HB3 := Lib.hid (HB2.out.trans (hb.mono HB2.out.size)); clear hb F1) | ((with_reducible refine (F2 _ HB3.out).mono ?_); rintro e w4 ⟨rfl, hb⟩; have HB4 := Lib.hid (HB3.out.trans (hb.mono HB3.out.size)); clear hb F2) | ((with_reducible refine (F3 _ HB6.out).mono ?_); rintro e w7 ⟨rfl, hb⟩; have HB7 := Lib.hid (HB6.out.trans (hb.mono HB6.out.size)); clear hb F3) | ((with_reducible refine (F4 _ HB7.out).mono ?_); rintro e w8 ⟨rfl, hb⟩; have HB8 := Lib.hid (HB7.out.trans (hb.mono HB7.out.size)); clear hb F4))
      | (go_at_call 25; first | ((with_reducible refine (T1 _ HB4.out).mono ?_); rintro e w5 ⟨rfl, hb⟩; have HB5 := Lib.hid (HB4.out.trans (hb.mono HB4.out.size)); clear hb T1) | ((with_reducible refine (T2 _ HB5.out).mono ?_); rintro e w6 ⟨rfl, hb⟩; have HB6 := Lib.hid (HB5.out.trans (hb.mono HB5.out.size)); clear hb T2))
      | (go_at_call 9; refine (AW _ HB3.out).mono ?_; rintro e w9 ⟨rfl, hb⟩; have HB9 := Lib.hid (HB3.out.trans (hb.mono HB3.out.size)); clear hb))
    go_ret
    exact ⟨rfl, HB9.out⟩
  rw [decide_eq_true h1] at s1
  by_cases h2 : fromD l q.data.toList = q.data.toList
  case neg =>
    rw [decide_eq_false h2] at s2
    generalize bsA (fromD l p.data.toList) = X at *
    generalize bsA (fromD l q.data.toList) = Y at *
    clear HH hf T1 T2 F3 F4 hz h1 h2 ho s3
    generalize l.length = n at *
    go_enter Tryd.func7, Tryd.ntmps7
    go_wp2_with (first
      | (go_at_call 8; refine FE.mono ?_; rintro e w1 ⟨rfl, rfl⟩)
      | (go_at_call 12; (with_reducible refine CK.mono ?_); rintro e w2 ⟨rfl, hb⟩; have HB2 := Lib.hid hb; clear hb CK)
      | (go_at_call 27; first | ((with_reducible refine (F1 _ HB2.out).mono ?_); rintro e w3 ⟨rfl, hb⟩; have HB3 := Lib.hid (HB2.out.trans (hb.mono HB2.out.size)); clear hb F1) | ((with_reducible refine (F2 _ HB3.out).mono ?_); rintro e w4 ⟨rfl, hb⟩; have HB4 := Lib.hid (HB3.out.trans (hb.mono HB3.out.size)); clear hb F2) | ((with_reducible refine (F3 _ HB6.out).mono ?_); rintro e w7 ⟨rfl, hb⟩; have HB7 := Lib.hid (HB6.out.trans (hb.mono HB6.out.size)); clear hb F3) | ((with_reducible refine (F4 _ HB7.out).mono ?_); rintro e w8 ⟨rfl, hb⟩; have HB8 := Lib.hid (HB7.out.trans (hb.mono HB7.out.size)); clear hb F4))
      | (go_at_call 25; first | ((with_reducible refine (T1 _ HB4.out).mono ?_); rintro e w5 ⟨rfl, hb⟩; have HB5 := Lib.hid (HB4.out.trans (hb.mono HB4.out.size)); clear hb T1) | ((with_reducible refine (T2 _ HB5.out).mono ?_); rintro e w6 ⟨rfl, hb⟩; have HB6 := Lib.hid (HB5.out.trans (hb.mono HB5.out.size)); clear hb T2))
      | (go_at_call 9; refine (AW _ HB4.out).mono ?_; rintro e w9 ⟨rfl, hb⟩; have HB9 := Lib.hid (HB4.out.trans (hb.mono HB4.out.size)); clear hb))
    go_ret
    exact ⟨rfl, HB9.out⟩
  rw [decide_eq_true h2] at s2
  by_cases h3 : p.data.toList = q.data.toList
  · rw [decide_eq_true h3] at s3
    generalize bsA (fromD l p.data.toList) = X at *
    generalize bsA (fromD l q.data.toList) = Y at *
    clear HH hf T1 T2 F3 F4 hz h1 h2 h3 ho
    generalize l.length = n at *
    go_enter Tryd.func7, Tryd.ntmps7
    go_wp2_with (first
      | (go_at_call 8; refine FE.mono ?_; rintro e w1 ⟨rfl, rfl⟩)
      | (go_at_call 12; (with_reducible refine CK.mono ?_); rintro e w2 ⟨rfl, hb⟩; have HB2 := Lib.hid hb; clear hb CK)
      | (go_at_call 27; first | ((with_reducible refine (F1 _ HB2.out).mono ?_); rintro e w3 ⟨rfl, hb⟩; have HB3 := Lib.hid (HB2.out.trans (hb.mono HB2.out.size)); clear hb F1) | ((with_reducible refine (F2 _ HB3.out).mono ?_); rintro e w4 ⟨rfl, hb⟩; have HB4 := Lib.hid (HB3.out.trans (hb.mono HB3.out.size)); clear hb F2) | ((with_reducible refine (F3 _ HB6.out).mono ?_); rintro e w7 ⟨rfl, hb⟩; have HB7 := Lib.hid (HB6.out.trans (hb.mono HB6.out.size)); clear hb F3) | ((with_reducible refine (F4 _ HB7.out).mono ?_); rintro e w8 ⟨rfl, hb⟩; have HB8 := Lib.hid (HB7.out.trans (hb.mono HB7.out.size)); clear hb F4))
      | (go_at_call 25; first | ((with_reducible refine (T1 _ HB4.out).mono ?_); rintro e w5 ⟨rfl, hb⟩; have HB5 := Lib.hid (HB4.out.trans (hb.mono HB4.out.size)); clear hb T1) | ((with_reducible refine (T2 _ HB5.out).mono ?_); rintro e w6 ⟨rfl, hb⟩; have HB6 := Lib.hid (HB5.out.trans (hb.mono HB5.out.size)); clear hb T2))
      | (go_at_call 9; refine (AW _ HB4.out).mono ?_; rintro e w9 ⟨rfl, hb⟩; have HB9 := Lib.hid (HB4.out.trans (hb.mono HB4.out.size)); clear hb))
    go_ret
    exact ⟨rfl, HB9.out⟩
  rw [decide_eq_false h3] at s3
  have s4 := eqT (bsA (toD l p.data.toList [])) (bsA (toD l q.data.toList []))
  rw [bytesOf, bytesOf, decide_eq_false (to_apart ho h1 h2 h3)] at s4
  have s5 := eqT p p
  have s6 := eqT q q
  rw [decide_eq_true rfl] at s5 s6
  have e3 : bsA (fromD l (bsA (toD l p.data.toList [])).data.toList) = p := by rw [bytesOf, from_to ho h1]
  have e4 : bsA (fromD l (bsA (toD l q.data.toList [])).data.toList) = q := by rw [bytesOf, from_to ho h2]
  rw [e3] at F3
  rw [e4] at F4
  dsimp only at T1 T2
  generalize bsA (toD l p.data.toList []) = TP at *
  generalize bsA (toD l q.data.toList []) = TQ at *
  generalize bsA (fromD l p.data.toList) = X at *
  generalize bsA (fromD l q.data.toList) = Y at *
  clear HH hf hz h1 h2 h3 ho e3 e4
  generalize l.length = n at *
  go_enter Tryd.func7, Tryd.ntmps7
  go_wp2_with (first
      | (go_at_call 8; refine FE.mono ?_; rintro e w1 ⟨rfl, rfl⟩)
      | (go_at_call 12; (with_reducible refine CK.mono ?_); rintro e w2 ⟨rfl, hb⟩; have HB2 := Lib.hid hb; clear hb CK)
      | (go_at_call 27; first | ((with_reducible refine (F1 _ HB2.out).mono ?_); rintro e w3 ⟨rfl, hb⟩; have HB3 := Lib.hid (HB2.out.trans (hb.mono HB2.out.size)); clear hb F1) | ((with_reducible refine (F2 _ HB3.out).mono ?_); rintro e w4 ⟨rfl, hb⟩; have HB4 := Lib.hid (HB3.out.trans (hb.mono HB3.out.size)); clear hb F2) | ((with_reducible refine (F3 _ HB6.out).mono ?_); rintro e w7 ⟨rfl, hb⟩; have HB7 := Lib.hid (HB6.out.trans (hb.mono HB6.out.size)); clear hb F3) | ((with_reducible refine (F4 _ HB7.out).mono ?_); rintro e w8 ⟨rfl, hb⟩; have HB8 := Lib.hid (HB7.out.trans (hb.mono HB7.out.size)); clear hb F4))
      | (go_at_call 25; first | ((with_reducible refine (T1 _ HB4.out).mono ?_); rintro e w5 ⟨rfl, hb⟩; have HB5 := Lib.hid (HB4.out.trans (hb.mono HB4.out.size)); clear hb T1) | ((with_reducible refine (T2 _ HB5.out).mono ?_); rintro e w6 ⟨rfl, hb⟩; have HB6 := Lib.hid (HB5.out.trans (hb.mono HB5.out.size)); clear hb T2))
      | (go_at_call 9; refine (AW _ HB8.out).mono ?_; rintro e w9 ⟨rfl, hb⟩; have HB9 := Lib.hid (HB8.out.trans (hb.mono HB8.out.size)); clear hb))
  go_ret
  exact ⟨rfl, HB9.out⟩
end Go.Proofs.YtgjnhnaccdmbjaaDoor.divsApartw
