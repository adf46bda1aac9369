/-
  The walk of StanzaParses: for every text it returns true; nothing old turns.
-/
import Derived.Test.YtiikdphilbibnaaSAwake
namespace Go.Proofs.Ytiikdphilbibnaa.stanzaParsesw
open Go.RowKit
theorem drew1 {w0 w w' : World} {B : Nat} (hb : Below B w0 w) (h : ∃ q, w' = w.drewN q) : Below B w0 w' := by
  obtain ⟨q, rfl⟩ := h; exact belowQ hb q
theorem nil_len {w : World} {v : Value} (h : HoldRR 2 w v []) : ∃ a c, v = .slice a 0 c := by
  obtain ⟨a, c, b, o, rfl, _⟩ := h
  exact ⟨a, c, rfl⟩
set_option maxRecDepth 100000 in
set_option maxHeartbeats 8000000 in
theorem walk (s : ByteArray) (_ : s.size ≤ 9223372036854775807) (w : World) :
    Calls Try.prog 5 #[.string s] w fun e' w' => e' = .returned (.bool true) ∧ Below w.heap.size w w' := by
  have AW := fun w => sawake w
  by_cases h : 2000 < s.size
  · go_enter Try.func5, Try.ntmps5
    go_wp2_with (first | (go_at_call 6; refine (AW _).mono ?_; rintro e w1 ⟨rfl, hb⟩; have HB := Lib.hid hb; clear hb))
    go_ret
    exact ⟨rfl, HB.out⟩
  · have hs : s.size ≤ 2000 := by omega
    have P1 := fun w => sparse_any s (by omega) w
    have P2 := fun w => parse_ref6 s (by omega) w
    unfold ParsePost6 at P2
    have hsz := sizeOf s
    have hss : (s.toList == s.toList) = true := by simp
    clear h
    cases hp : parseS s.data.toList with
    | none =>
      have HP := Lib.hid hp
      clear hp hsz
      go_enter Try.func5, Try.ntmps5
      go_wp2_with (first
        | (go_at_call 12; (with_reducible refine (P1 _).mono ?_); rintro e w1 ⟨v1, z1, rfl, -, h1, hb⟩; obtain ⟨rfl, hh⟩ := h1 HP.out; obtain ⟨a1, c1, rfl⟩ := nil_len hh; have HB1 := Lib.hid hb; clear hb hh h1 P1)
        | (go_at_call 14; (with_reducible refine (P2 _).mono ?_); rintro e w2 ⟨v2, b2, rfl, -, h2, hb⟩; obtain rfl := h2 HP.out; have HB2 := Lib.hid (HB1.out.trans (hb.mono HB1.out.size)); clear hb h2 P2)
        | (go_at_call 6; (with_reducible refine (AW _).mono ?_); rintro e w3 ⟨rfl, hb⟩; have HB3 := Lib.hid (HB2.out.trans (hb.mono HB2.out.size)); clear hb))
      go_ret
      exact ⟨rfl, HB3.out⟩
    | some l =>
      have HP := Lib.hid hp
      have hsm := parse_small hp
      rw [← hsz] at hsm
      have HS : Hid (Small l 10000) := Lib.hid ⟨by have := hsm.n; omega, fun st hst => by have := hsm.ns st hst; omega, fun st hst f hf => by have := hsm.fs st hst f hf; omega, by have := hsm.pr; omega⟩
      have hpr := parse_print hp
      have PA : ∀ v w', HoldRR 2 w' v (l.map (·.map rowF)) → Calls Try.prog 10 #[v] w' fun e w'' => e = .returned (.tuple #[.string s, .int .i64 0]) ∧ Below w'.heap.size w' w'' := fun v w' hh => by
        have := print_any v l ⟨by have := HS.out.n; omega, fun st hst => by have := HS.out.ns st hst; omega, fun st hst f hf => by have := HS.out.fs st hst f hf; omega, by have := HS.out.pr; omega⟩ w' hh
        unfold PrintPost at this; rw [hpr, ← strOf (x := s) rfl] at this; exact this
      have HPA := Lib.hid PA
      have HSM := Lib.hid (fun u v w' (h1 : HoldRR 2 w' u (l.map (·.map rowF))) (h2 : HoldRR 2 w' v (l.map (·.map rowF))) => same_ref6 u v l HS.out.n HS.out.ns w' h1 h2)
      clear hp hsz hsm hpr PA
      go_enter Try.func5, Try.ntmps5
      go_wp2_with (first
        | (go_at_call 12; (with_reducible refine (P1 _).mono ?_); rintro e w1 ⟨v1, z1, rfl, h1, -, hb⟩; obtain ⟨rfl, hh⟩ := h1 l HP.out; have HH1 := Lib.hid hh; have HB1 := Lib.hid hb; clear hb hh h1 P1)
        | (go_at_call 14; (with_reducible refine (P2 _).mono ?_); rintro e w2 ⟨v2, b2, rfl, h2, -, hb⟩; obtain ⟨rfl, hh, -⟩ := h2 l HP.out; have HH2 := Lib.hid (And.intro (HH1.out.on hb) hh); have HB2 := Lib.hid (HB1.out.trans (hb.mono HB1.out.size)); clear hb hh h2 P2)
        | (go_at_call 13; (with_reducible refine (HSM.out _ _ _ HH2.out.1 HH2.out.2).mono ?_); rintro e w3 ⟨rfl, hq⟩; have HH3 := Lib.hid (HH2.out.1.on (drew1 (Below.refl _ _) hq)); have HB3 := Lib.hid (drew1 HB2.out hq); clear hq)
        | (go_at_call 10; (with_reducible refine (HPA.out _ _ HH3.out).mono ?_); rintro e w4 ⟨rfl, hb⟩; have HB4 := Lib.hid (HB3.out.trans (hb.mono HB3.out.size)); clear hb)
        | (go_at_call 6; (with_reducible refine (AW _).mono ?_); rintro e w5 ⟨rfl, hb⟩; have HB5 := Lib.hid (HB4.out.trans (hb.mono HB4.out.size)); clear hb))
      go_ret
      exact ⟨rfl, HB5.out⟩
end Go.Proofs.Ytiikdphilbibnaa.stanzaParsesw
