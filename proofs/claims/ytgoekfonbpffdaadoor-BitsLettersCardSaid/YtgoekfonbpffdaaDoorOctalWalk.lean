/-
  The walk of BitsOctal: for every int and every text it returns true; of what was there nothing has turned. Condition: LaidE.
-/
import Derived.Test.YtgoekfonbpffdaaDoorParseDigits
import Derived.Test.YtgoekfonbpffdaaDoorRefText
namespace Go.Proofs.YtgoekfonbpffdaaDoor
open Go.RowKit Go.Sort
theorem is_ok (w : World) : Calls Tryd.prog 15 #[.int .i64 0, .bool true] w fun e w' => e = .returned (.bool true) ∧ w = w' := by
  go_enter Tryd.func15, Tryd.ntmps15
  go_wp2
  go_ret
  exact ⟨rfl, rfl⟩
theorem is_form (w : World) : Calls Tryd.prog 15 #[.int .i64 2, .bool false] w fun e w' => e = .returned (.bool true) ∧ w = w' := by
  go_enter Tryd.func15, Tryd.ntmps15
  go_wp2
  go_ret
  exact ⟨rfl, rfl⟩
namespace bitsOctalw
set_option maxHeartbeats 2000000 in
theorem walk (m : Int) (_ : -9223372036854775808 ≤ m ∧ m ≤ 9223372036854775807) (s : ByteArray) (_ : s.size ≤ 9223372036854775807) (w : World) (h : LaidE w) :
    Calls Tryd.prog 3 #[.int .i64 m, .string s] w fun e w' => e = .returned (.bool true) ∧ Below w.heap.size w w' := by
  by_cases hs : s.size ≤ 1000
  · have hlow := fun w => low_any m 12 (by omega) w
    have e12 : (2 : Int) ^ 12 = 4096 := by decide
    have hq : m % 4096 = ((nat64 m % 4096 : Nat) : Int) := (nat64_mod m 12 (by decide)).symm
    have hlt : nat64 m % 4096 < 8 ^ 4 := Nat.mod_lt _ (by decide)
    have C1 := fun w (h : Laid w) => octal_any m w h
    have C2 := fun w => octal_ref m w
    rw [e12, hq] at hlow
    generalize nat64 m % 4096 = q at *
    have hsz : (ByteArray.mk (digL 8 q 4).toArray).size ≤ 1000 := by rw [size_of_list, digL_length]; omega
    have C3 : ∀ w, LaidE w → Calls Tryd.prog 11 #[.string ⟨(digL 8 q 4).toArray⟩] w fun e w' => e = .returned (.tuple #[.int .i64 q, .int .i64 0]) ∧ Below w.heap.size w w' := fun w h => (parseOctal_any _ hsz w h).mono fun e w' he => by
      unfold OctPost at he
      have hn : numOf 8 4 (ByteArray.mk (digL 8 q 4).toArray).data.toList = some q := numOf_digL 8 4 q (by decide) (by decide) hlt
      rw [hn] at he
      exact he
    have P1 := parseOctal_any s hs w h
    have P2 := fun w => parseOctal_ref s hs w
    clear hsz hlt hq e12
    have HC1 := Lib.hid C1
    have HC3 := Lib.hid C3
    have HE := Lib.hid h
    cases hp : numOf 8 4 s.data.toList
    all_goals
      unfold OctPost at P1
      unfold OctRPost at P2
      rw [hp] at P1
      simp only [hp] at P2
      clear hp C1 C3 h
      go_enter Tryd.func3, Tryd.ntmps3
      go_wp2_with (go_at_call 11; refine P1.mono ?_; rintro e w1 ⟨rfl, hb1⟩; refine Hid.out ?_)
      have h1 := HE.out.on hb1
      have A1 := HC1.out w1 h1.laid
      have HB1 := Lib.hid (And.intro h1 hb1)
      clear h1 hb1 P1
      refine Lib.hid ?_
      go_wp2_with (first | (go_at_call 12; refine (P2 _).mono ?_; rintro e w2 ⟨rfl, rfl⟩) | (go_at_call 13; refine A1.mono ?_; rintro e w2 ⟨rfl, hb2⟩; refine Hid.out ?_))
      have h2 := HB1.out.1.on hb2
      have A2 := HC3.out w2 h2
      have HB2 := Lib.hid (And.intro h2 hb2)
      clear h2 hb2 A1
      refine Lib.hid ?_
      go_wp2_with (go_at_call 11; refine A2.mono ?_; rintro e w3 ⟨rfl, hb3⟩; refine Hid.out ?_)
      have h3 := HB2.out.1.on hb3
      have A3 := HC1.out w3 h3.laid
      have HB3 := Lib.hid (And.intro h3 hb3)
      clear h3 hb3 A2
      refine Lib.hid ?_
      go_wp2_with (go_at_call 13; refine A3.mono ?_; rintro e w4 ⟨rfl, hb4⟩; refine Hid.out ?_)
      have h4 := HB3.out.1.on hb4
      have A4 := awake_any w4 h4.laid
      have HB4 := Lib.hid hb4
      clear h4 hb4 A3
      refine Lib.hid ?_
      go_wp2_with (first | (go_at_call 14; refine (C2 _).mono ?_; rintro e w5 ⟨rfl, rfl⟩) | (go_at_call 15; first | ((with_reducible refine (is_ok _).mono ?_); rintro e w5 ⟨rfl, rfl⟩) | ((with_reducible refine (is_form _).mono ?_); rintro e w5 ⟨rfl, rfl⟩)) | (go_at_call 16; refine (hlow _).mono ?_; rintro e w5 ⟨rfl, rfl⟩) | (go_at_call 10; refine A4.mono ?_; rintro e w5 ⟨rfl, hb5⟩; have HB5 := Lib.hid hb5; clear hb5))
      go_ret
      exact ⟨rfl, fin (fin (fin (fin HB1.out.2 HB2.out.2) HB3.out.2) HB4.out) HB5.out⟩
  · have A := awake_any w h.laid
    have hs' : 1000 < s.size := by omega
    clear h hs
    go_enter Tryd.func3, Tryd.ntmps3
    go_wp2_with (go_at_call 10; refine A.mono ?_; rintro e w1 ⟨rfl, hb⟩; have HB := Lib.hid hb; clear hb)
    go_ret
    exact ⟨rfl, HB.out⟩
end bitsOctalw
end Go.Proofs.YtgoekfonbpffdaaDoor
