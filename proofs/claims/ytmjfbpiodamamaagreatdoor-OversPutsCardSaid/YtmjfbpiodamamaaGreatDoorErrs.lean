/-
  The two errors of strconv that numerals' readers name, as the rows list them (LaidE), out of the list of six; strconv.ParseUint at the bases 8 and 16, and the program's parseDigits, ParseOctal and ParseHex: what each returns for every text of at most 1000 bytes. Conditions: the listed variables are laid.
-/
import Derived.Test.YtmjfbpiodamamaaGreatDoorParse
namespace Go.Proofs.YtmjfbpiodamamaaGreatDoor
open Go.RowKit Go.Sort
/-- LAID, AND THE TWO ERRORS. -/
structure LaidE (w : World) : Prop where
  laid : Laid w
  syn : ∃ tp p, w.var? Tryz.prog "strconv.ErrSyntax" = some #[.iface tp p]
  rng : ∃ tp p, w.var? Tryz.prog "strconv.ErrRange" = some #[.iface tp p]
theorem gSyn : Tryz.prog.globalNamed "strconv.ErrSyntax" = some 6 := by kernel_rfl
theorem gRng : Tryz.prog.globalNamed "strconv.ErrRange" = some 7 := by kernel_rfl
theorem tSyn : (Tryz.prog.globals[6]?).map (·.type) = some 56 := by kernel_rfl
theorem tRng : (Tryz.prog.globals[7]?).map (·.type) = some 56 := by kernel_rfl
theorem cES : Tryz.prog.cellsOf 174 = 1 := by kernel_rfl
theorem starE : "*" ++ "errors.errorString" = "*errors.errorString" := by decide
theorem rowE (u : TypeId) (h : Tryz.prog.typeName? 3 u = some "*errors.errorString") : u = 172 :=
  typeName_ptr_named (nm := "errors.errorString") (by rw [starE]; kernel_rfl) (by kernel_rfl) (by decide) u (by rw [starE]; exact h)
theorem LaidE.below {B : Nat} {w w' : World} (h : LaidE w) (hb : Below B w w') (hB : 8 ≤ B) : LaidE w' where
  laid := h.laid.below hb hB
  syn := by obtain ⟨tp, p, hv⟩ := h.syn; exact ⟨tp, p, var?_below hb gSyn (by omega) hv⟩
  rng := by obtain ⟨tp, p, hv⟩ := h.rng; exact ⟨tp, p, var?_below hb gRng (by omega) hv⟩
theorem LaidE.on {w w' : World} (h : LaidE w) (hb : Below w.heap.size w w') : LaidE w' := h.below hb h.laid.size
def Pu2Post (b : Nat) (s : ByteArray) (w : World) (e : Ending) (w' : World) : Prop :=
  (match pv b 0 s.data.toList with
    | some n => e = .returned (.tuple #[.int .u64 n, .nilIface])
    | none => ∃ p, e = .returned (.tuple #[.int .u64 0, .iface 159 p])) ∧ Below w.heap.size w w'
set_option maxHeartbeats 1000000 in
theorem parseUint_any (b W : Nat) (hb : b = 8 ∧ W = 4 ∨ b = 16 ∧ W = 16) (t : ByteArray) (ht : t.size = W) (w : World) (h : LaidE w) :
    Calls Tryz.prog 117 #[.string t, .int .i64 b, .int .i64 64] w (Pu2Post b t w) := by
  have H : Calls Tryz.prog 134 #[.string t, .int .i64 b, .int .i64 64] w (PuPost b t w) := by
    rcases hb with ⟨rfl, rfl⟩ | ⟨rfl, rfl⟩
    · exact parseUint_in8 t ht w
    · exact parseUint_in16 t ht w
  have hsz : t.size ≤ 281474976710656 := by omega
  have HE := Lib.hid h
  have HZ := Lib.hid hsz
  clear h ht hb hsz
  cases hp : pv b 0 t.data.toList with
  | some n =>
    have HP := Lib.hid hp
    have H2 : Calls Tryz.prog 134 #[.string t, .int .i64 b, .int .i64 64] w fun e w' => e = .returned (.tuple #[.int .u64 n, .nilIface]) ∧ Below w.heap.size w w' := H.mono fun e w' he => by unfold PuPost at he; rw [hp] at he; exact he
    clear hp H
    go_enter Tryz.func117, Tryz.ntmps117
    go_wp2_with (go_at_call 134; refine H2.mono ?_; rintro e w1 ⟨rfl, hbl⟩; have HB := Lib.hid hbl; clear hbl)
    go_ret2
    unfold Pu2Post
    rw [HP.out]
    exact ⟨rfl, HB.out⟩
  | none =>
    have HP := Lib.hid hp
    have H2 : Calls Tryz.prog 134 #[.string t, .int .i64 b, .int .i64 64] w fun e w' => e = .returned (.tuple #[.int .u64 0, .iface 156 (.int .i64 2)]) ∧ Below w.heap.size w w' := H.mono fun e w' he => by unfold PuPost at he; rw [hp] at he; exact he
    clear hp H
    go_enter Tryz.func117, Tryz.ntmps117
    go_wp2_with (go_at_call 134; refine H2.mono ?_; rintro e w1 ⟨rfl, hbl⟩; refine Hid.out ?_)
    have hE1 := HE.out.on hbl
    obtain ⟨tp, p, hv⟩ := hE1.syn
    have hc : w1.cell? ⟨6, 0, none⟩ = some (.iface tp p) := by have h0 := World.var?_cell gSyn hv 0; simpa using h0
    have HT := fun fn => Any.strconv_toError_syntax Tryz.laysC245 fn t b 64 (.iface tp p) w1 HZ.out hc (Or.inr ⟨_, _, rfl⟩)
    have HB := Lib.hid hbl
    clear hbl hE1 hc hv
    refine Lib.hid ?_
    go_wp2_with (go_at_call 133; refine (HT _).mono ?_; rintro e w2 ⟨N, rfl, _, _, hbl2⟩; have HB2 := Lib.hid hbl2; clear hbl2)
    go_ret2
    unfold Pu2Post
    rw [HP.out]
    exact ⟨⟨_, rfl⟩, fin HB.out HB2.out⟩
end Go.Proofs.YtmjfbpiodamamaaGreatDoor
