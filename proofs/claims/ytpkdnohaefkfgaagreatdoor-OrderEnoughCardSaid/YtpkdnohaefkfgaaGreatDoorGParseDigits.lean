/-
  The program's parseDigits, ParseOctal and ParseHex, for every text of at most 1000 bytes: the number whose numeral the text is, or EFORM; of what was there nothing has turned. Conditions: the listed variables are laid.
-/
import Derived.Test.YtpkdnohaefkfgaaGreatDoorGParse
namespace Go.Proofs.YtpkdnohaefkfgaaGreatDoor
open Go.RowKit Go.Sort
/-- LAID, AND THE TWO ERRORS. -/
structure LaidE (w : World) : Prop where
  laid : Laid w
  syn : ∃ tp p, w.var? Tryz.prog "strconv.ErrSyntax" = some #[.iface tp p]
  rng : ∃ tp p, w.var? Tryz.prog "strconv.ErrRange" = some #[.iface tp p]
theorem gSynB : Tryz.prog.globalNamed "strconv.ErrSyntax" = some 2 := by kernel_rfl
theorem gRngB : Tryz.prog.globalNamed "strconv.ErrRange" = some 3 := by kernel_rfl
theorem tSynB : (Tryz.prog.globals[2]?).map (·.type) = some 104 := by kernel_rfl
theorem tRngB : (Tryz.prog.globals[3]?).map (·.type) = some 104 := by kernel_rfl
theorem cES : Tryz.prog.cellsOf 159 = 1 := by kernel_rfl
theorem starE : "*" ++ "errors.errorString" = "*errors.errorString" := by decide
theorem rowE (u : TypeId) (h : Tryz.prog.typeName? 3 u = some "*errors.errorString") : u = 157 :=
  typeName_ptr_named (nm := "errors.errorString") (by rw [starE]; kernel_rfl) (by kernel_rfl) (by decide) u (by rw [starE]; exact h)
theorem LaidE.below {B : Nat} {w w' : World} (h : LaidE w) (hb : Below B w w') (hB : 9 ≤ B) : LaidE w' where
  laid := h.laid.below hb hB
  syn := by obtain ⟨tp, p, hv⟩ := h.syn; exact ⟨tp, p, var?_below hb gSynB (by omega) hv⟩
  rng := by obtain ⟨tp, p, hv⟩ := h.rng; exact ⟨tp, p, var?_below hb gRngB (by omega) hv⟩
theorem LaidE.on {w w' : World} (h : LaidE w) (hb : Below w.heap.size w w') : LaidE w' := h.below hb h.laid.size
def Pu2Post (b : Nat) (s : ByteArray) (w : World) (e : Ending) (w' : World) : Prop :=
  (match pv b 0 s.data.toList with
    | some n => e = .returned (.tuple #[.int .u64 n, .nilIface])
    | none => ∃ p, e = .returned (.tuple #[.int .u64 0, .iface 133 p])) ∧ Below w.heap.size w w'
set_option maxHeartbeats 1000000 in
theorem parseUint_any (b W : Nat) (hb : b = 8 ∧ W = 4 ∨ b = 16 ∧ W = 16) (t : ByteArray) (ht : t.size = W) (w : World) (h : LaidE w) :
    Calls Tryz.prog 82 #[.string t, .int .i64 b, .int .i64 64] w (Pu2Post b t w) := by
  have H : Calls Tryz.prog 99 #[.string t, .int .i64 b, .int .i64 64] w (PuPost b t w) := by
    rcases hb with ⟨rfl, rfl⟩ | ⟨rfl, rfl⟩
    · exact parseUint_in8 t ht w
    · exact parseUint_in16 t ht w
  have hsz : t.size ≤ 281474976710656 := by omega
  have HE := Lib.hid h
  have HZ := Lib.hid hsz
  clear h ht hb hsz
  cases hp : pv b 0 t.data.toList with
  | some n =>
    have HP := Lib.hid hp
    have H2 : Calls Tryz.prog 99 #[.string t, .int .i64 b, .int .i64 64] w fun e w' => e = .returned (.tuple #[.int .u64 n, .nilIface]) ∧ Below w.heap.size w w' := H.mono fun e w' he => by unfold PuPost at he; rw [hp] at he; exact he
    clear hp H
    go_enter Tryz.func82, Tryz.ntmps82
    go_wp2_with (go_at_call 99; refine H2.mono ?_; rintro e w1 ⟨rfl, hbl⟩; have HB := Lib.hid hbl; clear hbl)
    go_ret2
    unfold Pu2Post
    rw [HP.out]
    exact ⟨rfl, HB.out⟩
  | none =>
    have HP := Lib.hid hp
    have H2 : Calls Tryz.prog 99 #[.string t, .int .i64 b, .int .i64 64] w fun e w' => e = .returned (.tuple #[.int .u64 0, .iface 131 (.int .i64 2)]) ∧ Below w.heap.size w w' := H.mono fun e w' he => by unfold PuPost at he; rw [hp] at he; exact he
    clear hp H
    go_enter Tryz.func82, Tryz.ntmps82
    go_wp2_with (go_at_call 99; refine H2.mono ?_; rintro e w1 ⟨rfl, hbl⟩; refine Hid.out ?_)
    have hE1 := HE.out.on hbl
    obtain ⟨tp, p, hv⟩ := hE1.syn
    have hc : w1.cell? ⟨2, 0, none⟩ = some (.iface tp p) := by have h0 := World.var?_cell gSynB hv 0; simpa using h0
    have HT := fun fn => Any.strconv_toError_syntax Tryz.laysC245 fn t b 64 (.iface tp p) w1 HZ.out hc (Or.inr ⟨_, _, rfl⟩)
    have HB := Lib.hid hbl
    clear hbl hE1 hc hv
    refine Lib.hid ?_
    go_wp2_with (go_at_call 100; refine (HT _).mono ?_; rintro e w2 ⟨N, rfl, _, _, hbl2⟩; have HB2 := Lib.hid hbl2; clear hbl2)
    go_ret2
    unfold Pu2Post
    rw [HP.out]
    exact ⟨⟨_, rfl⟩, finB HB.out HB2.out⟩
end Go.Proofs.YtpkdnohaefkfgaaGreatDoor
namespace Go.Proofs.YtpkdnohaefkfgaaGreatDoor
open Go.RowKit Go.Sort
/-- What a reader of numerals returns: the number and OK, or 0 and EFORM. -/
def PdPost (b W : Nat) (s : ByteArray) (w : World) (e : Ending) (w' : World) : Prop :=
  (match numOf b W s.data.toList with
    | some n => e = .returned (.tuple #[.int .u64 n, .int .i64 0])
    | none => e = .returned (.tuple #[.int .u64 0, .int .i64 2])) ∧ Below w.heap.size w w'
set_option maxHeartbeats 1000000 in
theorem parseDigits_any (b W sh : Nat) (hb : b = 8 ∧ sh = 3 ∧ W = 4 ∨ b = 16 ∧ sh = 4 ∧ W = 16) (t : ByteArray) (ht : t.size ≤ 4000) (w : World) (h : LaidE w) :
    Calls Tryz.prog 92 #[.string t, .int .i64 b, .int .i64 W] w (PdPost b W t w) := by
  have HE := Lib.hid h
  have hlen : t.data.toList.length = t.size := Lib.size_eq t
  by_cases hsz : t.size = W
  · have HU := parseUint_any b W (by omega) t hsz w h
    have hbW : b = 8 ∧ W = 4 ∨ b = 16 ∧ W = 16 := by omega
    have HBW := Lib.hid hbW
    have hb2 : 1 < b ∧ b ≤ 16 ∧ 1 ≤ W ∧ W ≤ 22 := by omega
    obtain ⟨hb3, hb4, hW1, hW2⟩ := hb2
    have hbs : b = 8 ∧ sh = 3 ∨ b = 16 ∧ sh = 4 := by omega
    have HQ := Lib.hid hbs
    clear h hb hbs hbW
    cases hp : pv b 0 t.data.toList with
    | none =>
      have H2 : Calls Tryz.prog 82 #[.string t, .int .i64 b, .int .i64 64] w fun e w' => (∃ p, e = .returned (.tuple #[.int .u64 0, .iface 133 p])) ∧ Below w.heap.size w w' := HU.mono fun e w' he => by unfold Pu2Post at he; rw [hp] at he; exact he
      have hn : numOf b W t.data.toList = none := by unfold numOf; rw [hp]
      have HN := Lib.hid hn
      have hszi : ((t.size : Int) != (W : Int)) = false := by rw [bne_eq_false_iff_eq]; omega
      clear hp HU hn hlen hsz
      go_enter Tryz.func92, Tryz.ntmps92
      go_wp2_with (go_at_call 82; refine H2.mono ?_; rintro e w1 ⟨⟨p, rfl⟩, hbl⟩; have HB := Lib.hid hbl; clear hbl)
      go_ret2
      unfold PdPost
      rw [HN.out]
      exact ⟨rfl, HB.out⟩
    | some n =>
      have H2 : Calls Tryz.prog 82 #[.string t, .int .i64 b, .int .i64 64] w fun e w' => e = .returned (.tuple #[.int .u64 n, .nilIface]) ∧ Below w.heap.size w w' := HU.mono fun e w' he => by unfold Pu2Post at he; rw [hp] at he; exact he
      have hn := pv_lt b _ 0 n hp
      rw [hlen, hsz, Nat.zero_add, Nat.one_mul] at hn
      have hn64 : n < 18446744073709551616 := by
        have hbW : b = 8 ∧ W = 4 ∨ b = 16 ∧ W = 16 := HBW.out
        rcases hbW with ⟨rfl, rfl⟩ | ⟨rfl, rfl⟩
        · have e : (8 : Nat) ^ 4 = 4096 := by decide
          omega
        · have e : (16 : Nat) ^ 16 = 18446744073709551616 := by decide
          omega
      have HNN := Lib.hid hn
      have HP := Lib.hid hp
      have hszi : ((t.size : Int) != (W : Int)) = false := by rw [bne_eq_false_iff_eq]; omega
      clear hp HU hn hlen hsz
      go_enter Tryz.func92, Tryz.ntmps92
      go_wp2_with (go_at_call 82; refine H2.mono ?_; rintro e w1 ⟨rfl, hbl⟩; refine Hid.out ?_)
      have HPD := padded_any b sh n W HQ.out hn64 hW1 hW2 HNN.out w1 (HE.out.laid.on hbl)
      have HB := Lib.hid hbl
      clear hbl H2
      refine Lib.hid ?_
      go_wp2_with (go_at_call 108; refine HPD.mono ?_; rintro e w2 ⟨rfl, hbl2⟩; have HB2 := Lib.hid hbl2; clear hbl2)
      · go_ret2
        unfold PdPost
        have hq : ¬ digL b n W = t.data.toList := by
          have hw0 : (!digL b n W == t.toList) = true := by assumption
          intro e
          rw [ByteArray.toList_eq, e] at hw0
          simp at hw0
        have hn : numOf b W t.data.toList = none := by unfold numOf; rw [HP.out]; simp [hq]
        rw [hn]
        exact ⟨rfl, finB HB.out HB2.out⟩
      · go_ret2
        unfold PdPost
        have hq : digL b n W = t.data.toList := by
          have hw0 : (!digL b n W == t.toList) = false := by assumption
          rw [ByteArray.toList_eq] at hw0
          simpa using hw0
        have hn : numOf b W t.data.toList = some n := by unfold numOf; rw [HP.out]; simp [hq]
        rw [hn]
        exact ⟨rfl, finB HB.out HB2.out⟩
  · have hn : numOf b W t.data.toList = none := by
      cases h2 : numOf b W t.data.toList with
      | none => rfl
      | some n => exact absurd (hlen.symm.trans (numOf_len h2)) hsz
    have HN := Lib.hid hn
    have hszi : ((t.size : Int) != (W : Int)) = true := by rw [bne_iff_ne]; omega
    clear h hn hlen hsz hb
    go_enter Tryz.func92, Tryz.ntmps92
    go_wp2
    go_ret2
    unfold PdPost
    rw [HN.out]
    exact ⟨rfl, Below.refl _ _⟩
set_option maxHeartbeats 1000000 in
theorem parseHex_any (t : ByteArray) (ht : t.size ≤ 4000) (w : World) (h : LaidE w) :
    Calls Tryz.prog 73 #[.string t] w (PdPost 16 16 t w) := by
  have H := parseDigits_any 16 16 4 (Or.inr ⟨rfl, rfl, rfl⟩) t ht w h
  have HE := Lib.hid h
  clear h
  cases hp : numOf 16 16 t.data.toList with
  | none =>
    have H2 : Calls Tryz.prog 92 #[.string t, .int .i64 16, .int .i64 16] w fun e w' => e = .returned (.tuple #[.int .u64 0, .int .i64 2]) ∧ Below w.heap.size w w' := H.mono fun e w' he => by unfold PdPost at he; rw [hp] at he; exact he
    have HP := Lib.hid hp
    clear hp H
    go_enter Tryz.func73, Tryz.ntmps73
    go_wp2_with (go_at_call 92; refine H2.mono ?_; rintro e w1 ⟨rfl, hbl⟩; have HB := Lib.hid hbl; clear hbl)
    go_ret2
    unfold PdPost
    rw [HP.out]
    exact ⟨rfl, HB.out⟩
  | some n =>
    have H2 : Calls Tryz.prog 92 #[.string t, .int .i64 16, .int .i64 16] w fun e w' => e = .returned (.tuple #[.int .u64 n, .int .i64 0]) ∧ Below w.heap.size w w' := H.mono fun e w' he => by unfold PdPost at he; rw [hp] at he; exact he
    have HP := Lib.hid hp
    clear hp H
    go_enter Tryz.func73, Tryz.ntmps73
    go_wp2_with (go_at_call 92; refine H2.mono ?_; rintro e w1 ⟨rfl, hbl⟩; have HB := Lib.hid hbl; clear hbl)
    go_ret2
    unfold PdPost
    rw [HP.out]
    exact ⟨rfl, HB.out⟩
end Go.Proofs.YtpkdnohaefkfgaaGreatDoor
