/-
  The walk of StanzaPrints: for every list of stanzas it returns true; nothing old turns.
-/
import Derived.Test.YtiikdphilbibnaaSAwake
import Derived.Test.YtiikdphilbibnaaSFew
namespace Go.Proofs.Ytiikdphilbibnaa.stanzaPrintsw
open Go.RowKit
theorem drew1 {w0 w w' : World} {B : Nat} (hb : Below B w0 w) (h : ∃ q, w' = w.drewN q) : Below B w0 w' := by
  obtain ⟨q, rfl⟩ := h; exact belowQ hb q
theorem Small.mono {l : List (List Fld)} {A B : Nat} (h : Small l A) (hab : A ≤ B) : Small l B := ⟨Nat.le_trans h.n hab, fun st hst => Nat.le_trans (h.ns st hst) hab, fun st hst f hf => ⟨Nat.le_trans (h.fs st hst f hf).1 hab, Nat.le_trans (h.fs st hst f hf).2 hab⟩, Nat.le_trans h.pr hab⟩
set_option maxRecDepth 100000 in
set_option maxHeartbeats 8000000 in
theorem walk (v : Value) (l : List (List Fld)) (w : World) (h : HoldRR 2 w v (l.map (·.map rowF))) :
    Calls Try.prog 4 #[v] w fun e' w' => e' = .returned (.bool true) ∧ Below w.heap.size w w' := by
  have AW := fun w => sawake w
  have FW := few_any v l w h
  unfold FewPost at FW
  have HH := Lib.hid h
  obtain ⟨T, hT⟩ : ∃ T : ByteArray, T = ⟨(printE l).1.toArray⟩ := ⟨_, rfl⟩
  obtain ⟨z, hz⟩ : ∃ z : Int, z = (printE l).2 := ⟨_, rfl⟩
  have hTl : T.data.toList = (printE l).1 := by rw [hT]
  have HTZ : Hid (printE l = (T.data.toList, z)) := Lib.hid (by rw [hTl, hz])
  have PA : ∀ w', Small l 10000 → HoldRR 2 w' v (l.map (·.map rowF)) → Calls Try.prog 10 #[v] w' fun e w'' => e = .returned (.tuple #[.string T, .int .i64 z]) ∧ Below w'.heap.size w' w'' := fun w' hs hh => by
    have := print_any v l (Small.mono hs (by omega)) w' hh
    unfold PrintPost at this; rw [← hT, ← hz] at this; exact this
  have PR : ∀ w', Small l 10000 → HoldRR 2 w' v (l.map (·.map rowF)) → Calls Try.prog 11 #[v] w' fun e w'' => e = .returned (.tuple #[.string T, .int .i64 z]) ∧ Below w'.heap.size w' w'' := fun w' hs hh => by
    have := print_ref v l hs.n hs.ns (fun st hst f hf => by have := hs.fs st hst f hf; omega) (by have := hs.pr; omega) w' hh
    unfold PrintPost at this; rw [← hT, ← hz] at this; exact this
  have HPA := Lib.hid PA
  have HPR := Lib.hid PR
  have hTT : (T.toList == T.toList) = true := by simp
  clear h hT hz hTl PA PR
  go_enter Try.func4, Try.ntmps4
  go_wp2_with (first | (go_at_call 9; (with_reducible refine FW.mono ?_); rintro e w1 ⟨fb, rfl, hf, hq⟩; have HF := Lib.hid hf; have HB1 := Lib.hid (drew1 (Below.refl w.heap.size w) hq); clear hq hf FW; refine Hid.out ?_))
  refine Lib.hid ?_
  cases fb with
  | false =>
    go_wp2_with (first | (go_at_call 6; (with_reducible refine (AW _).mono ?_); rintro e w3 ⟨rfl, hb⟩; have HB3 := Lib.hid (HB1.out.trans (hb.mono HB1.out.size)); clear hb))
    go_ret
    exact ⟨rfl, HB3.out⟩
  | true =>
    have HS := Lib.hid (HF.out rfl).small
    by_cases hz0 : z = 0
    · subst hz0
      have hpp := print_parse HTZ.out
      have hts : T.size ≤ 20000 := by
        have h1 := (print_ok HTZ.out).1
        have h2 := HS.out.pr
        rw [← h1, ← sizeOf] at h2; omega
      have P := fun w => sparse_any T hts w
      have HPP := Lib.hid (fun (w' : World) (v : Value) (z : Int) (hh : ∀ l, parseS T.data.toList = some l → z = 0 ∧ HoldRR 2 w' v (l.map (·.map rowF))) => hh l hpp)
      have SM := fun u w' (h1 : HoldRR 2 w' u (l.map (·.map rowF))) (h2 : HoldRR 2 w' v (l.map (·.map rowF))) => same_ref6 u v l HS.out.n HS.out.ns w' h1 h2
      have HSM := Lib.hid SM
      clear hpp SM HTZ HF
      go_wp2_with (first
        | (go_at_call 10; (with_reducible refine (HPA.out _ HS.out (HH.out.on HB1.out)).mono ?_); rintro e w2 ⟨rfl, hb⟩; have HB2 := Lib.hid (HB1.out.trans (hb.mono HB1.out.size)); clear hb)
        | (go_at_call 11; (with_reducible refine (HPR.out _ HS.out (HH.out.on HB2.out)).mono ?_); rintro e w3 ⟨rfl, hb⟩; have HB3 := Lib.hid (HB2.out.trans (hb.mono HB2.out.size)); clear hb)
        | (go_at_call 12; (with_reducible refine (P _).mono ?_); rintro e w4 ⟨v4, z4, rfl, h4, -, hb⟩; obtain ⟨rfl, hh4⟩ := HPP.out _ _ _ h4; have HH4 := Lib.hid hh4; have HB4 := Lib.hid (HB3.out.trans (hb.mono HB3.out.size)); clear hb h4 hh4 P)
        | (go_at_call 13; (with_reducible refine (HSM.out _ _ HH4.out (HH.out.on HB4.out)).mono ?_); rintro e w5 ⟨rfl, hq⟩; have HB5 := Lib.hid (drew1 HB4.out hq); clear hq)
        | (go_at_call 6; (with_reducible refine (AW _).mono ?_); rintro e w6 ⟨rfl, hb⟩; have HB6 := Lib.hid (HB5.out.trans (hb.mono HB5.out.size)); clear hb))
      go_ret
      exact ⟨rfl, HB6.out⟩
    · have hzz : (z == z) = true := by simp
      have hzb : (z == 0) = false := by rw [beq_eq_false_iff_ne]; exact hz0
      clear HTZ HF
      go_wp2_with (first
        | (go_at_call 10; (with_reducible refine (HPA.out _ HS.out (HH.out.on HB1.out)).mono ?_); rintro e w2 ⟨rfl, hb⟩; have HB2 := Lib.hid (HB1.out.trans (hb.mono HB1.out.size)); clear hb)
        | (go_at_call 11; (with_reducible refine (HPR.out _ HS.out (HH.out.on HB2.out)).mono ?_); rintro e w3 ⟨rfl, hb⟩; have HB3 := Lib.hid (HB2.out.trans (hb.mono HB2.out.size)); clear hb)
        | (go_at_call 6; (with_reducible refine (AW _).mono ?_); rintro e w6 ⟨rfl, hb⟩; have HB6 := Lib.hid (HB3.out.trans (hb.mono HB3.out.size)); clear hb))
      go_ret
      exact ⟨rfl, HB6.out⟩
end Go.Proofs.Ytiikdphilbibnaa.stanzaPrintsw
