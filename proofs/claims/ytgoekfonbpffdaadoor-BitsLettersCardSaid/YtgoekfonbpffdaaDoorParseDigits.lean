/-
  The program's parseDigits, ParseOctal and ParseHex, for every text of at most 1000 bytes: the number whose numeral the text is, or EFORM; of what was there nothing has turned. Conditions: the listed variables are laid.
-/
import Derived.Test.YtgoekfonbpffdaaDoorErrs
namespace Go.Proofs.YtgoekfonbpffdaaDoor
open Go.RowKit Go.Sort
/-- What a reader of numerals returns: the number and OK, or 0 and EFORM. -/
def PdPost (b W : Nat) (s : ByteArray) (w : World) (e : Ending) (w' : World) : Prop :=
  (match numOf b W s.data.toList with
    | some n => e = .returned (.tuple #[.int .u64 n, .int .i64 0])
    | none => e = .returned (.tuple #[.int .u64 0, .int .i64 2])) ∧ Below w.heap.size w w'
set_option maxHeartbeats 1000000 in
theorem parseDigits_any (b W sh : Nat) (hb : b = 8 ∧ sh = 3 ∧ W = 4 ∨ b = 16 ∧ sh = 4 ∧ W = 16) (t : ByteArray) (ht : t.size ≤ 1000) (w : World) (h : LaidE w) :
    Calls Tryd.prog 41 #[.string t, .int .i64 b, .int .i64 W] w (PdPost b W t w) := by
  have HE := Lib.hid h
  have hlen : t.data.toList.length = t.size := Lib.size_eq t
  by_cases hsz : t.size = W
  · have HU := parseUint_any b W (by omega) t hsz w h
    have hbW : b = 8 ∧ W = 4 ∨ b = 16 ∧ W = 16 := by omega
    have HBW := Lib.hid hbW
    have hb2 : 1 < b ∧ b ≤ 16 ∧ 1 ≤ W ∧ W ≤ 22 := by omega
    obtain ⟨hb3, hb4, hW1, hW2⟩ := hb2
    have hbs : b = 8 ∧ sh = 3 ∨ b = 16 ∧ sh = 4 := by omega
    have HQ := Lib.hid hbs
    clear h hb hbs hbW
    cases hp : pv b 0 t.data.toList with
    | none =>
      have H2 : Calls Tryd.prog 52 #[.string t, .int .i64 b, .int .i64 64] w fun e w' => (∃ p, e = .returned (.tuple #[.int .u64 0, .iface 80 p])) ∧ Below w.heap.size w w' := HU.mono fun e w' he => by unfold Pu2Post at he; rw [hp] at he; exact he
      have hn : numOf b W t.data.toList = none := by unfold numOf; rw [hp]
      have HN := Lib.hid hn
      have hszi : ((t.size : Int) != (W : Int)) = false := by rw [bne_eq_false_iff_eq]; omega
      clear hp HU hn hlen hsz
      go_enter Tryd.func41, Tryd.ntmps41
      go_wp2_with (go_at_call 52; refine H2.mono ?_; rintro e w1 ⟨⟨p, rfl⟩, hbl⟩; have HB := Lib.hid hbl; clear hbl)
      go_ret2
      unfold PdPost
      rw [HN.out]
      exact ⟨rfl, HB.out⟩
    | some n =>
      have H2 : Calls Tryd.prog 52 #[.string t, .int .i64 b, .int .i64 64] w fun e w' => e = .returned (.tuple #[.int .u64 n, .nilIface]) ∧ Below w.heap.size w w' := HU.mono fun e w' he => by unfold Pu2Post at he; rw [hp] at he; exact he
      have hn := pv_lt b _ 0 n hp
      rw [hlen, hsz, Nat.zero_add, Nat.one_mul] at hn
      have hn64 : n < 18446744073709551616 := by
        have hbW : b = 8 ∧ W = 4 ∨ b = 16 ∧ W = 16 := HBW.out
        rcases hbW with ⟨rfl, rfl⟩ | ⟨rfl, rfl⟩
        · have e : (8 : Nat) ^ 4 = 4096 := by decide
          omega
        · have e : (16 : Nat) ^ 16 = 18446744073709551616 := by decide
          omega
      have HNN := Lib.hid hn
      have HP := Lib.hid hp
      have hszi : ((t.size : Int) != (W : Int)) = false := by rw [bne_eq_false_iff_eq]; omega
      clear hp HU hn hlen hsz
      go_enter Tryd.func41, Tryd.ntmps41
      go_wp2_with (go_at_call 52; refine H2.mono ?_; rintro e w1 ⟨rfl, hbl⟩; refine Hid.out ?_)
      have HPD := padded_any b sh n W HQ.out hn64 hW1 hW2 HNN.out w1 (HE.out.laid.on hbl)
      have HB := Lib.hid hbl
      clear hbl H2
      refine Lib.hid ?_
      go_wp2_with (go_at_call 42; refine HPD.mono ?_; rintro e w2 ⟨rfl, hbl2⟩; have HB2 := Lib.hid hbl2; clear hbl2)
      · go_ret2
        unfold PdPost
        have hq : ¬ digL b n W = t.data.toList := by
          have hw0 : (!digL b n W == t.toList) = true := by assumption
          intro e
          rw [ByteArray.toList_eq, e] at hw0
          simp at hw0
        have hn : numOf b W t.data.toList = none := by unfold numOf; rw [HP.out]; simp [hq]
        rw [hn]
        exact ⟨rfl, fin HB.out HB2.out⟩
      · go_ret2
        unfold PdPost
        have hq : digL b n W = t.data.toList := by
          have hw0 : (!digL b n W == t.toList) = false := by assumption
          rw [ByteArray.toList_eq] at hw0
          simpa using hw0
        have hn : numOf b W t.data.toList = some n := by unfold numOf; rw [HP.out]; simp [hq]
        rw [hn]
        exact ⟨rfl, fin HB.out HB2.out⟩
  · have hn : numOf b W t.data.toList = none := by
      cases h2 : numOf b W t.data.toList with
      | none => rfl
      | some n => exact absurd (hlen.symm.trans (numOf_len h2)) hsz
    have HN := Lib.hid hn
    have hszi : ((t.size : Int) != (W : Int)) = true := by rw [bne_iff_ne]; omega
    clear h hn hlen hsz hb
    go_enter Tryd.func41, Tryd.ntmps41
    go_wp2
    go_ret2
    unfold PdPost
    rw [HN.out]
    exact ⟨rfl, Below.refl _ _⟩
def OctPost (s : ByteArray) (w : World) (e : Ending) (w' : World) : Prop :=
  (match numOf 8 4 s.data.toList with
    | some n => e = .returned (.tuple #[.int .i64 n, .int .i64 0])
    | none => e = .returned (.tuple #[.int .i64 0, .int .i64 2])) ∧ Below w.heap.size w w'
set_option maxHeartbeats 1000000 in
theorem parseOctal_any (t : ByteArray) (ht : t.size ≤ 1000) (w : World) (h : LaidE w) :
    Calls Tryd.prog 11 #[.string t] w (OctPost t w) := by
  have H := parseDigits_any 8 4 3 (Or.inl ⟨rfl, rfl, rfl⟩) t ht w h
  have hlen : t.data.toList.length = t.size := Lib.size_eq t
  have HE := Lib.hid h
  clear h
  cases hp : numOf 8 4 t.data.toList with
  | none =>
    have H2 : Calls Tryd.prog 41 #[.string t, .int .i64 8, .int .i64 4] w fun e w' => e = .returned (.tuple #[.int .u64 0, .int .i64 2]) ∧ Below w.heap.size w w' := H.mono fun e w' he => by unfold PdPost at he; rw [hp] at he; exact he
    have HP := Lib.hid hp
    clear hp H
    go_enter Tryd.func11, Tryd.ntmps11
    go_wp2_with (go_at_call 41; refine H2.mono ?_; rintro e w1 ⟨rfl, hbl⟩; have HB := Lib.hid hbl; clear hbl)
    go_ret2
    unfold OctPost
    rw [HP.out]
    exact ⟨rfl, HB.out⟩
  | some n =>
    have H2 : Calls Tryd.prog 41 #[.string t, .int .i64 8, .int .i64 4] w fun e w' => e = .returned (.tuple #[.int .u64 n, .int .i64 0]) ∧ Below w.heap.size w w' := H.mono fun e w' he => by unfold PdPost at he; rw [hp] at he; exact he
    have hn := numOf_lt (numOf_len hp) hp
    have hn2 : n < 4096 := hn
    have HP := Lib.hid hp
    clear hp H hn
    go_enter Tryd.func11, Tryd.ntmps11
    go_wp2_with (go_at_call 41; refine H2.mono ?_; rintro e w1 ⟨rfl, hbl⟩; have HB := Lib.hid hbl; clear hbl)
    go_ret2
    unfold OctPost
    rw [HP.out]
    exact ⟨rfl, HB.out⟩
set_option maxHeartbeats 1000000 in
theorem parseHex_any (t : ByteArray) (ht : t.size ≤ 1000) (w : World) (h : LaidE w) :
    Calls Tryd.prog 31 #[.string t] w (PdPost 16 16 t w) := by
  have H := parseDigits_any 16 16 4 (Or.inr ⟨rfl, rfl, rfl⟩) t ht w h
  have HE := Lib.hid h
  clear h
  cases hp : numOf 16 16 t.data.toList with
  | none =>
    have H2 : Calls Tryd.prog 41 #[.string t, .int .i64 16, .int .i64 16] w fun e w' => e = .returned (.tuple #[.int .u64 0, .int .i64 2]) ∧ Below w.heap.size w w' := H.mono fun e w' he => by unfold PdPost at he; rw [hp] at he; exact he
    have HP := Lib.hid hp
    clear hp H
    go_enter Tryd.func31, Tryd.ntmps31
    go_wp2_with (go_at_call 41; refine H2.mono ?_; rintro e w1 ⟨rfl, hbl⟩; have HB := Lib.hid hbl; clear hbl)
    go_ret2
    unfold PdPost
    rw [HP.out]
    exact ⟨rfl, HB.out⟩
  | some n =>
    have H2 : Calls Tryd.prog 41 #[.string t, .int .i64 16, .int .i64 16] w fun e w' => e = .returned (.tuple #[.int .u64 n, .int .i64 0]) ∧ Below w.heap.size w w' := H.mono fun e w' he => by unfold PdPost at he; rw [hp] at he; exact he
    have HP := Lib.hid hp
    clear hp H
    go_enter Tryd.func31, Tryd.ntmps31
    go_wp2_with (go_at_call 41; refine H2.mono ?_; rintro e w1 ⟨rfl, hbl⟩; have HB := Lib.hid hbl; clear hbl)
    go_ret2
    unfold PdPost
    rw [HP.out]
    exact ⟨rfl, HB.out⟩
end Go.Proofs.YtgoekfonbpffdaaDoor
