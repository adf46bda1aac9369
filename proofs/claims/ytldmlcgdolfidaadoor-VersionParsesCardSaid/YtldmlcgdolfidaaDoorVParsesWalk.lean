/-
  The walk of VersionParses: for every text it returns true; nothing old turns.
-/
import Derived.Test.YtldmlcgdolfidaaDoorVAwake
import Derived.Laws.StructEq
namespace Go.Proofs.YtldmlcgdolfidaaDoor.versionParsesw
open Go.RowKit
theorem ver_old {w1 w2 : World} {Y : Obj} {z : Int} {U V : ByteArray} (hb : Below (w1.alloc (.cells #[.int .i64 z, .string U, .string V] 24)).heap.size (w1.alloc (.cells #[.int .i64 z, .string U, .string V] 24)) w2) :
    (w2.alloc Y).cell? ⟨w1.heap.size, 0, none⟩ = some (.int .i64 z) ∧ (w2.alloc Y).cell? ⟨w1.heap.size, 1, none⟩ = some (.string U) ∧ (w2.alloc Y).cell? ⟨w1.heap.size, 2, none⟩ = some (.string V) ∧ w1.heap.size + 1 ≤ w2.heap.size := by
  have hsz := hb.size
  simp only [World.size_alloc] at hsz
  have h1 := (bcells hb).1
  have h2 := (bcells ((Below.refl w2.heap.size w2).alloc (Nat.le_refl _) Y)).1
  exact ⟨by rw [h2 _ _ (by omega), h1 _ _ (by simp)]; simp [World.cell?_alloc_new], by rw [h2 _ _ (by omega), h1 _ _ (by simp)]; simp [World.cell?_alloc_new], by rw [h2 _ _ (by omega), h1 _ _ (by simp)]; simp [World.cell?_alloc_new], hsz⟩
theorem old3 {A B : World} {b : Nat} {z : Int} {U V : ByteArray} (h : A.cell? ⟨b, 0, none⟩ = some (.int .i64 z) ∧ A.cell? ⟨b, 1, none⟩ = some (.string U) ∧ A.cell? ⟨b, 2, none⟩ = some (.string V)) (hb : Below A.heap.size A B) : B.cell? ⟨b, 0, none⟩ = some (.int .i64 z) ∧ B.cell? ⟨b, 1, none⟩ = some (.string U) ∧ B.cell? ⟨b, 2, none⟩ = some (.string V) := by
  have hlt := World.block_lt_of_cell? A _ h.1
  have k := (bcells hb).1
  exact ⟨by rw [k _ _ hlt]; exact h.1, by rw [k _ _ hlt]; exact h.2.1, by rw [k _ _ hlt]; exact h.2.2⟩
theorem al {A : World} (o : Obj) : Below A.heap.size A (A.alloc o) := (Below.refl _ _).alloc (Nat.le_refl _) o
set_option maxRecDepth 100000 in
set_option maxHeartbeats 8000000 in
theorem walk (s : ByteArray) (_ : s.size ≤ 9223372036854775807) (w : World) (hlv : LaidV w) :
    Calls Tryd.prog 3 #[.string s] w fun e' w' => e' = .returned (.bool true) ∧ Below w.heap.size w w' := by
  have HLW := Lib.hid hlv
  clear hlv
  have AW := fun (w : World) (hw : LaidV w) => vawake w hw
  by_cases h : 1000 < s.size
  · go_enter Tryd.func3, Tryd.ntmps3
    go_wp2_with (first | (go_at_call 9; refine (AW _ (by first | exact Hid.out (by assumption) | exact LaidV.al (by assumption) _ | exact LaidV.dr (by assumption) _ | exact HLW.out.on (Hid.out (by assumption)) | exact HLW.out.on (belowQ (Hid.out (by assumption)) _) | exact HLW.out.on (Hid.out (by assumption)).drew)).mono ?_; rintro e w1 ⟨rfl, hb⟩; have HLX := Lib.hid (LaidV.on (by first | exact Hid.out (by assumption) | exact LaidV.al (by assumption) _ | exact LaidV.dr (by assumption) _ | exact HLW.out.on (Hid.out (by assumption)) | exact HLW.out.on (belowQ (Hid.out (by assumption)) _) | exact HLW.out.on (Hid.out (by assumption)).drew) hb); have HB := Lib.hid hb; clear hb))
    go_ret
    exact ⟨rfl, HB.out⟩
  · have h1 : s.size ≤ 1000 := by omega
    have P1 := fun (w : World) (hw : LaidV w) => parse_any s h1 w hw
    have P2 := fun w => parse_ref s h1 w
    unfold ParsePost at P1 P2
    obtain ⟨z, U, V, k, hk, hz, hz', hU, hV, ok1, bad1, e1⟩ := parse_parts s h1
    simp only [e1] at P1 P2
    have hUU : (U.toList == U.toList) = true := by simp
    have hVV : (V.toList == V.toList) = true := by simp
    rcases hk with rfl | rfl | rfl
    · obtain ⟨hva, hpe⟩ := ok1 rfl
      have T1 := fun (w : World) (hw : LaidV w) => vtext_any z (by omega) (by omega) U V (by omega) (by omega) w hw
      have hlen : (verText (z, U.data.toList, V.data.toList)).length ≤ 300 := by
        rw [verText_is]
        have hu := sizeOf U
        have hv := sizeOf V
        have hi := itoa_sz (max z 0) (by omega) (by omega)
        unfold headT tailT
        simp only [List.length_append]
        split <;> split <;> simp only [List.length_append, List.length_cons, List.length_nil] <;> (try omega)
      have hrt := parse_text hpe
      have hct := compare_text hpe
      obtain ⟨T, hT⟩ : ∃ T : ByteArray, T = ⟨(verText (z, U.data.toList, V.data.toList)).toArray⟩ := ⟨_, rfl⟩
      have hTl : T.data.toList = verText (z, U.data.toList, V.data.toList) := by rw [hT]
      rw [← hT] at T1
      rw [← hTl] at hlen hrt hct
      rw [← sizeOf] at hlen hrt hct
      have hT1 : T.size ≤ 1000 := by omega
      have P3 := fun (w : World) (hw : LaidV w) => parse_any T hT1 w hw
      have C1 := fun (w : World) (hw : LaidV w) => compare_any s T h1 hT1 w hw
      unfold ParsePost at P3
      have HBB : Hid (∀ w1 w2 w3 w4 w5, Below w.heap.size w w1 → Below (w1.alloc (.cells #[.int .i64 z, .string U, .string V] 24)).heap.size (w1.alloc (.cells #[.int .i64 z, .string U, .string V] 24)) w2 → Below (w2.alloc (.cells #[.int .i64 z, .string U, .string V] 24)).heap.size (w2.alloc (.cells #[.int .i64 z, .string U, .string V] 24)) w3 → Below w3.heap.size w3 w4 → Below w4.heap.size w4 w5 → Below w.heap.size w w5) := Lib.hid (fun w1 w2 w3 w4 w5 b1 b2 b3 b4 b5 => by
        have g1 := b1.trans ((al (.cells #[.int .i64 z, .string U, .string V] 24)).mono b1.size)
        have g2 := g1.trans (b2.mono g1.size)
        have g3 := g2.trans ((al (.cells #[.int .i64 z, .string U, .string V] 24)).mono g2.size)
        have g4 := g3.trans (b3.mono g3.size)
        have g5 := g4.trans (b4.mono g4.size)
        exact g5.trans (b5.mono g5.size))
      by_cases h80 : 80 < T.size
      · have e3 : parseV T.data.toList = .tuple #[.agg #[.int .i64 0, .string ⟨#[]⟩, .string ⟨#[]⟩], .int .i64 8] := parseV_long (by rw [← sizeOf]; exact h80)
        simp only [e3] at P3
        clear e3 hrt hct hTl hT hva hpe ok1 bad1 e1 h
        go_enter Tryd.func3, Tryd.ntmps3
        go_wp2_with (first | (go_at_call 10; refine (P1 _ (by first | exact Hid.out (by assumption) | exact LaidV.al (by assumption) _ | exact LaidV.dr (by assumption) _ | exact HLW.out.on (Hid.out (by assumption)) | exact HLW.out.on (belowQ (Hid.out (by assumption)) _) | exact HLW.out.on (Hid.out (by assumption)).drew)).mono ?_; clear P1; rintro e w1 ⟨rfl, hb⟩; have HLX := Lib.hid (LaidV.on (by first | exact Hid.out (by assumption) | exact LaidV.al (by assumption) _ | exact LaidV.dr (by assumption) _ | exact HLW.out.on (Hid.out (by assumption)) | exact HLW.out.on (belowQ (Hid.out (by assumption)) _) | exact HLW.out.on (Hid.out (by assumption)).drew) hb); have HB1 := Lib.hid hb; clear hb) | (go_at_call 11; refine (P2 _).mono ?_; clear P2; rintro e w2 ⟨rfl, hb⟩; have HLX := Lib.hid (LaidV.on (by first | exact Hid.out (by assumption) | exact LaidV.al (by assumption) _ | exact LaidV.dr (by assumption) _ | exact HLW.out.on (Hid.out (by assumption)) | exact HLW.out.on (belowQ (Hid.out (by assumption)) _) | exact HLW.out.on (Hid.out (by assumption)).drew) hb); have HB2 := Lib.hid hb; obtain ⟨c0, c1, c2, hsz⟩ := ver_old (Y := (.cells #[.int .i64 z, .string U, .string V] 24)) hb; clear hb) | (go_at_call 12; refine (T1 _ (by first | exact Hid.out (by assumption) | exact LaidV.al (by assumption) _ | exact LaidV.dr (by assumption) _ | exact HLW.out.on (Hid.out (by assumption)) | exact HLW.out.on (belowQ (Hid.out (by assumption)) _) | exact HLW.out.on (Hid.out (by assumption)).drew)).mono ?_; rintro e w3 ⟨rfl, hb⟩; have HLX := Lib.hid (LaidV.on (by first | exact Hid.out (by assumption) | exact LaidV.al (by assumption) _ | exact LaidV.dr (by assumption) _ | exact HLW.out.on (Hid.out (by assumption)) | exact HLW.out.on (belowQ (Hid.out (by assumption)) _) | exact HLW.out.on (Hid.out (by assumption)).drew) hb); have HB3 := Lib.hid hb; clear hb) | (go_at_call 10; refine (P3 _ (by first | exact Hid.out (by assumption) | exact LaidV.al (by assumption) _ | exact LaidV.dr (by assumption) _ | exact HLW.out.on (Hid.out (by assumption)) | exact HLW.out.on (belowQ (Hid.out (by assumption)) _) | exact HLW.out.on (Hid.out (by assumption)).drew)).mono ?_; rintro e w4 ⟨rfl, hb⟩; have HLX := Lib.hid (LaidV.on (by first | exact Hid.out (by assumption) | exact LaidV.al (by assumption) _ | exact LaidV.dr (by assumption) _ | exact HLW.out.on (Hid.out (by assumption)) | exact HLW.out.on (belowQ (Hid.out (by assumption)) _) | exact HLW.out.on (Hid.out (by assumption)).drew) hb); have HB4 := Lib.hid hb; clear hb) | (go_at_call 9; refine (AW _ (by first | exact Hid.out (by assumption) | exact LaidV.al (by assumption) _ | exact LaidV.dr (by assumption) _ | exact HLW.out.on (Hid.out (by assumption)) | exact HLW.out.on (belowQ (Hid.out (by assumption)) _) | exact HLW.out.on (Hid.out (by assumption)).drew)).mono ?_; rintro e w5 ⟨rfl, hb⟩; have HLX := Lib.hid (LaidV.on (by first | exact Hid.out (by assumption) | exact LaidV.al (by assumption) _ | exact LaidV.dr (by assumption) _ | exact HLW.out.on (Hid.out (by assumption)) | exact HLW.out.on (belowQ (Hid.out (by assumption)) _) | exact HLW.out.on (Hid.out (by assumption)).drew) hb); have HB5 := Lib.hid hb; clear hb))
        go_ret
        exact ⟨rfl, HBB.out _ _ _ _ _ HB1.out HB2.out HB3.out (HB4.out.trans ((al _).mono HB4.out.size)) HB5.out⟩
      · have e3 : parseV T.data.toList = .tuple #[.agg #[.int .i64 z, .string U, .string V], .int .i64 0] := by
          unfold parseV verV
          rw [hrt (by omega)]
        rw [hct (by omega)] at C1
        simp only [e3] at P3
        clear e3 hrt hct hTl hT hva hpe ok1 bad1 e1 h
        go_enter Tryd.func3, Tryd.ntmps3
        go_wp2_with (first | (go_at_call 10; refine (P1 _ (by first | exact Hid.out (by assumption) | exact LaidV.al (by assumption) _ | exact LaidV.dr (by assumption) _ | exact HLW.out.on (Hid.out (by assumption)) | exact HLW.out.on (belowQ (Hid.out (by assumption)) _) | exact HLW.out.on (Hid.out (by assumption)).drew)).mono ?_; clear P1; rintro e w1 ⟨rfl, hb⟩; have HLX := Lib.hid (LaidV.on (by first | exact Hid.out (by assumption) | exact LaidV.al (by assumption) _ | exact LaidV.dr (by assumption) _ | exact HLW.out.on (Hid.out (by assumption)) | exact HLW.out.on (belowQ (Hid.out (by assumption)) _) | exact HLW.out.on (Hid.out (by assumption)).drew) hb); have HB1 := Lib.hid hb; clear hb) | (go_at_call 11; refine (P2 _).mono ?_; clear P2; rintro e w2 ⟨rfl, hb⟩; have HLX := Lib.hid (LaidV.on (by first | exact Hid.out (by assumption) | exact LaidV.al (by assumption) _ | exact LaidV.dr (by assumption) _ | exact HLW.out.on (Hid.out (by assumption)) | exact HLW.out.on (belowQ (Hid.out (by assumption)) _) | exact HLW.out.on (Hid.out (by assumption)).drew) hb); have HB2 := Lib.hid hb; obtain ⟨c0, c1, c2, hsz⟩ := ver_old (Y := (.cells #[.int .i64 z, .string U, .string V] 24)) hb; clear hb) | (go_at_call 12; refine (T1 _ (by first | exact Hid.out (by assumption) | exact LaidV.al (by assumption) _ | exact LaidV.dr (by assumption) _ | exact HLW.out.on (Hid.out (by assumption)) | exact HLW.out.on (belowQ (Hid.out (by assumption)) _) | exact HLW.out.on (Hid.out (by assumption)).drew)).mono ?_; rintro e w3 ⟨rfl, hb⟩; have HLX := Lib.hid (LaidV.on (by first | exact Hid.out (by assumption) | exact LaidV.al (by assumption) _ | exact LaidV.dr (by assumption) _ | exact HLW.out.on (Hid.out (by assumption)) | exact HLW.out.on (belowQ (Hid.out (by assumption)) _) | exact HLW.out.on (Hid.out (by assumption)).drew) hb); have HB3 := Lib.hid hb; have HC3 := Lib.hid (old3 ⟨c0, c1, c2⟩ hb); clear hb c0 c1 c2) | (go_at_call 10; refine (P3 _ (by first | exact Hid.out (by assumption) | exact LaidV.al (by assumption) _ | exact LaidV.dr (by assumption) _ | exact HLW.out.on (Hid.out (by assumption)) | exact HLW.out.on (belowQ (Hid.out (by assumption)) _) | exact HLW.out.on (Hid.out (by assumption)).drew)).mono ?_; rintro e w4 ⟨rfl, hb⟩; have HLX := Lib.hid (LaidV.on (by first | exact Hid.out (by assumption) | exact LaidV.al (by assumption) _ | exact LaidV.dr (by assumption) _ | exact HLW.out.on (Hid.out (by assumption)) | exact HLW.out.on (belowQ (Hid.out (by assumption)) _) | exact HLW.out.on (Hid.out (by assumption)).drew) hb); have HB4 := Lib.hid hb; obtain ⟨c0, c1, c2⟩ := old3 (old3 HC3.out hb) (al (.cells #[.int .i64 z, .string U, .string V] 24)); clear hb) | (go_at_call 13; refine (C1 _ (by first | exact Hid.out (by assumption) | exact LaidV.al (by assumption) _ | exact LaidV.dr (by assumption) _ | exact HLW.out.on (Hid.out (by assumption)) | exact HLW.out.on (belowQ (Hid.out (by assumption)) _) | exact HLW.out.on (Hid.out (by assumption)).drew)).mono ?_; rintro e w6 ⟨rfl, hb⟩; have HLX := Lib.hid (LaidV.on (by first | exact Hid.out (by assumption) | exact LaidV.al (by assumption) _ | exact LaidV.dr (by assumption) _ | exact HLW.out.on (Hid.out (by assumption)) | exact HLW.out.on (belowQ (Hid.out (by assumption)) _) | exact HLW.out.on (Hid.out (by assumption)).drew) hb); have HB6 := Lib.hid hb; clear hb) | (go_at_call 9; refine (AW _ (by first | exact Hid.out (by assumption) | exact LaidV.al (by assumption) _ | exact LaidV.dr (by assumption) _ | exact HLW.out.on (Hid.out (by assumption)) | exact HLW.out.on (belowQ (Hid.out (by assumption)) _) | exact HLW.out.on (Hid.out (by assumption)).drew)).mono ?_; rintro e w5 ⟨rfl, hb⟩; have HLX := Lib.hid (LaidV.on (by first | exact Hid.out (by assumption) | exact LaidV.al (by assumption) _ | exact LaidV.dr (by assumption) _ | exact HLW.out.on (Hid.out (by assumption)) | exact HLW.out.on (belowQ (Hid.out (by assumption)) _) | exact HLW.out.on (Hid.out (by assumption)).drew) hb); have HB5 := Lib.hid hb; clear hb))
        go_ret
        exact ⟨rfl, HBB.out _ _ _ _ _ HB1.out HB2.out HB3.out ((HB4.out.trans ((al _).mono HB4.out.size)).trans (HB6.out.mono (by have := HB4.out.size; simp; omega))) HB5.out⟩
    · clear ok1 bad1 e1 h
      go_enter Tryd.func3, Tryd.ntmps3
      go_wp2_with (first | (go_at_call 10; refine (P1 _ (by first | exact Hid.out (by assumption) | exact LaidV.al (by assumption) _ | exact LaidV.dr (by assumption) _ | exact HLW.out.on (Hid.out (by assumption)) | exact HLW.out.on (belowQ (Hid.out (by assumption)) _) | exact HLW.out.on (Hid.out (by assumption)).drew)).mono ?_; clear P1; rintro e w1 ⟨rfl, hb⟩; have HLX := Lib.hid (LaidV.on (by first | exact Hid.out (by assumption) | exact LaidV.al (by assumption) _ | exact LaidV.dr (by assumption) _ | exact HLW.out.on (Hid.out (by assumption)) | exact HLW.out.on (belowQ (Hid.out (by assumption)) _) | exact HLW.out.on (Hid.out (by assumption)).drew) hb); have HB1 := Lib.hid hb; clear hb) | (go_at_call 11; refine (P2 _).mono ?_; clear P2; rintro e w2 ⟨rfl, hb⟩; have HLX := Lib.hid (LaidV.on (by first | exact Hid.out (by assumption) | exact LaidV.al (by assumption) _ | exact LaidV.dr (by assumption) _ | exact HLW.out.on (Hid.out (by assumption)) | exact HLW.out.on (belowQ (Hid.out (by assumption)) _) | exact HLW.out.on (Hid.out (by assumption)).drew) hb); have HB2 := Lib.hid hb; obtain ⟨c0, c1, c2, hsz⟩ := ver_old (Y := (.cells #[.int .i64 z, .string U, .string V] 24)) hb; clear hb) | (go_at_call 9; refine (AW _ (by first | exact Hid.out (by assumption) | exact LaidV.al (by assumption) _ | exact LaidV.dr (by assumption) _ | exact HLW.out.on (Hid.out (by assumption)) | exact HLW.out.on (belowQ (Hid.out (by assumption)) _) | exact HLW.out.on (Hid.out (by assumption)).drew)).mono ?_; rintro e w5 ⟨rfl, hb⟩; have HLX := Lib.hid (LaidV.on (by first | exact Hid.out (by assumption) | exact LaidV.al (by assumption) _ | exact LaidV.dr (by assumption) _ | exact HLW.out.on (Hid.out (by assumption)) | exact HLW.out.on (belowQ (Hid.out (by assumption)) _) | exact HLW.out.on (Hid.out (by assumption)).drew) hb); have HB5 := Lib.hid hb; clear hb))
      go_ret
      refine ⟨rfl, ?_⟩
      have g1 := HB1.out.trans ((al (.cells #[.int .i64 z, .string U, .string V] 24)).mono HB1.out.size)
      have g2 := g1.trans (HB2.out.mono g1.size)
      have g3 := g2.trans ((al (.cells #[.int .i64 z, .string U, .string V] 24)).mono g2.size)
      exact g3.trans (HB5.out.mono g3.size)
    · clear ok1 bad1 e1 h
      go_enter Tryd.func3, Tryd.ntmps3
      go_wp2_with (first | (go_at_call 10; refine (P1 _ (by first | exact Hid.out (by assumption) | exact LaidV.al (by assumption) _ | exact LaidV.dr (by assumption) _ | exact HLW.out.on (Hid.out (by assumption)) | exact HLW.out.on (belowQ (Hid.out (by assumption)) _) | exact HLW.out.on (Hid.out (by assumption)).drew)).mono ?_; clear P1; rintro e w1 ⟨rfl, hb⟩; have HLX := Lib.hid (LaidV.on (by first | exact Hid.out (by assumption) | exact LaidV.al (by assumption) _ | exact LaidV.dr (by assumption) _ | exact HLW.out.on (Hid.out (by assumption)) | exact HLW.out.on (belowQ (Hid.out (by assumption)) _) | exact HLW.out.on (Hid.out (by assumption)).drew) hb); have HB1 := Lib.hid hb; clear hb) | (go_at_call 11; refine (P2 _).mono ?_; clear P2; rintro e w2 ⟨rfl, hb⟩; have HLX := Lib.hid (LaidV.on (by first | exact Hid.out (by assumption) | exact LaidV.al (by assumption) _ | exact LaidV.dr (by assumption) _ | exact HLW.out.on (Hid.out (by assumption)) | exact HLW.out.on (belowQ (Hid.out (by assumption)) _) | exact HLW.out.on (Hid.out (by assumption)).drew) hb); have HB2 := Lib.hid hb; obtain ⟨c0, c1, c2, hsz⟩ := ver_old (Y := (.cells #[.int .i64 z, .string U, .string V] 24)) hb; clear hb) | (go_at_call 9; refine (AW _ (by first | exact Hid.out (by assumption) | exact LaidV.al (by assumption) _ | exact LaidV.dr (by assumption) _ | exact HLW.out.on (Hid.out (by assumption)) | exact HLW.out.on (belowQ (Hid.out (by assumption)) _) | exact HLW.out.on (Hid.out (by assumption)).drew)).mono ?_; rintro e w5 ⟨rfl, hb⟩; have HLX := Lib.hid (LaidV.on (by first | exact Hid.out (by assumption) | exact LaidV.al (by assumption) _ | exact LaidV.dr (by assumption) _ | exact HLW.out.on (Hid.out (by assumption)) | exact HLW.out.on (belowQ (Hid.out (by assumption)) _) | exact HLW.out.on (Hid.out (by assumption)).drew) hb); have HB5 := Lib.hid hb; clear hb))
      go_ret
      refine ⟨rfl, ?_⟩
      have g1 := HB1.out.trans ((al (.cells #[.int .i64 z, .string U, .string V] 24)).mono HB1.out.size)
      have g2 := g1.trans (HB2.out.mono g1.size)
      have g3 := g2.trans ((al (.cells #[.int .i64 z, .string U, .string V] 24)).mono g2.size)
      exact g3.trans (HB5.out.mono g3.size)
end Go.Proofs.YtldmlcgdolfidaaDoor.versionParsesw
