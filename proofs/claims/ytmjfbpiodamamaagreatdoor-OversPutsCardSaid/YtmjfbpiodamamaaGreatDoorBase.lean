/-
  What the program lays and what outlives any call (Laid), and the contracts of FormatUint at the bases 8 and 16, padded, Octal, Hex, Sum and Text: what each returns; of what was there nothing has turned. Conditions: Laid; the arguments are int64s and uint64s.
-/
import Derived.Test.YtmjfbpiodamamaaGreatDoorShelf
import Derived.Test.YtmjfbpiodamamaaGreatDoorFormat
import Derived.Test.YtmjfbpiodamamaaGreatDoorBitsRef
import Derived.WalkSmall
import Derived.ShutString
namespace Go.Proofs.YtmjfbpiodamamaaGreatDoor
open Go.RowKit Go.Sort

/-- The letters of the nine places, as the program lays them. -/
def rowR : ByteArray := ⟨#[45, 114]⟩
def rowW : ByteArray := ⟨#[45, 119]⟩
def rowS : ByteArray := ⟨#[45, 120, 83, 115]⟩
def rowTB : ByteArray := ⟨#[45, 120, 84, 116]⟩
def letArr : Array Value := #[.string rowR, .string rowW, .string rowS, .string rowR, .string rowW, .string rowS, .string rowR, .string rowW, .string rowTB]
/-- WHAT THE WORLD HOLDS OF THE PROGRAM's OWN VARIABLES. -/
structure Laid (w : World) : Prop where
  tz : TzAt w
  pow : Lib.TabIs Tryz.prog w "internal/strconv.uint64pow10" .u64 Lib.pow10Tab
  size : 8 ≤ w.heap.size
theorem gPow : Tryz.prog.globalNamed "internal/strconv.uint64pow10" = some 1 := by kernel_rfl
theorem Laid.below {B : Nat} {w w' : World} (h : Laid w) (hb : Below B w w') (hB : 8 ≤ B) : Laid w' where
  tz := ⟨by rw [hb.cell (p := ⟨5, 7, none⟩) (show 5 < B by omega)]; exact h.tz.1, by rw [hb.cell (p := ⟨5, 15, none⟩) (show 5 < B by omega)]; exact h.tz.2⟩
  pow := by
    have := h.pow
    unfold Lib.TabIs at this ⊢
    exact var?_below hb gPow (by omega) this
  size := by have := h.size; have := hb.size; omega
theorem Laid.on {w w' : World} (h : Laid w) (hb : Below w.heap.size w w') : Laid w' := h.below hb h.size
theorem Laid.alloc {w : World} (h : Laid w) (o : Obj) : Laid (w.alloc o) := h.on ((Below.refl _ _).alloc (Nat.le_refl _) o)

theorem block_of_var {P : Program} {w : World} {n : String} {g : Nat} {cs : Array Value} (hg : P.globalNamed n = some g) (h : w.var? P n = some cs) : ∃ t fr, w.heap[g]? = some (.cells cs t fr) := by
  unfold World.var? at h
  simp only [hg, Option.bind_some] at h
  split at h
  · rename_i c t fr hh
    cases h
    exact ⟨t, fr, hh⟩
  · cases h
/-- The shortest numeral. -/
structure Short (b u L : Nat) : Prop where
  pos : 1 ≤ L
  le : L ≤ 22
  lt : u < b ^ L
  least : ∀ k, u < b ^ k → 1 ≤ k → L ≤ k
def FmtPost (b u : Nat) (w : World) (e : Ending) (w' : World) : Prop := ∃ L, Short b u L ∧ e = .returned (.string ⟨(digL b u L).toArray⟩) ∧ Below w.heap.size w w'
set_option maxHeartbeats 400000 in
theorem fmtUint_in (b sh u : Nat) (hb : b = 8 ∧ sh = 3 ∨ b = 16 ∧ sh = 4) (hu : u < 18446744073709551616) (w : World) (h : Laid w) :
    Calls Tryz.prog 91 #[.int .u64 u, .int .i64 b] w (FmtPost b u w) := by
  have H := formatBits_any b sh u hb hu w (fun o => (h.alloc o).tz)
  have hb2 : b = 8 ∨ b = 16 := by omega
  have hb3 : ((b : Int) == 10) = false := by rcases hb2 with rfl | rfl <;> decide
  have BL := Lib.hid h
  clear h hb
  go_enter Tryz.func91, Tryz.ntmps91
  go_wp2_with (go_at_call 111; refine H.mono ?_; rintro e w' ⟨L, ⟨h1, h2, h3, h4⟩, rfl, hbl⟩; have HP : Hid (Short b u L ∧ Below w.heap.size w w') := Lib.hid ⟨⟨h1, h2, h3, h4⟩, hbl⟩; clear h1 h2 h3 h4 hbl)
  go_ret
  exact ⟨L, HP.out.1, rfl, HP.out.2⟩
set_option maxHeartbeats 400000 in
theorem fmtUint (b sh u : Nat) (hb : b = 8 ∧ sh = 3 ∨ b = 16 ∧ sh = 4) (hu : u < 18446744073709551616) (w : World) (h : Laid w) :
    Calls Tryz.prog 70 #[.int .u64 u, .int .i64 b] w (FmtPost b u w) := by
  have H := fmtUint_in b sh u hb hu w h
  have BL := Lib.hid h
  clear h hb
  go_enter Tryz.func70, Tryz.ntmps70
  go_wp2_with (go_at_call 91; refine H.mono ?_; rintro e w' ⟨L, hS, rfl, hbl⟩; have HP := Lib.hid hS; have HB := Lib.hid hbl; clear hS hbl)
  go_ret
  exact ⟨L, HP.out, rfl, HB.out⟩
theorem ret_str {a b : ByteArray} (h : a = b) : Ending.returned (.string a) = .returned (.string b) := by rw [h]
theorem str_append (a b : Array UInt8) : (ByteArray.mk a ++ ByteArray.mk b) = ByteArray.mk (a ++ b) := by
  apply ByteArray.ext; rw [ByteArray.data_append]
theorem below_grownB (w : World) (k : Nat) (os : Array Obj) : Below w.heap.size w (grow (w.drewN k) os) :=
  ⟨rfl, rfl, rfl, by show w.heap.size ≤ (w.heap ++ os).size; rw [Array.size_append]; omega, fun j hj => by show (w.heap ++ os)[j]? = w.heap[j]?; rw [Array.getElem?_append_left hj]⟩
theorem repeat_zero (c : Nat) : Lib.repeatL (ByteArray.mk #[48]).data.toList c = List.replicate c 48 := by
  induction c with
  | zero => rfl
  | succ c ih => rw [Lib.repeatL, ih, List.replicate_succ]; rfl
set_option maxRecDepth 100000 in
theorem rep0 (c : Nat) (hc : c ≤ 22) (w : World) :
    Calls Tryz.prog 71 #[.string ⟨#[48]⟩, .int .i64 c] w fun e w' => e = .returned (.string ⟨(List.replicate c (48 : UInt8)).toArray⟩) ∧ Below w.heap.size w w' := by
  have h1 : (ByteArray.mk #[48]).size = 1 := rfl
  have H := Tryz.strings_Repeat ⟨#[48]⟩ c w (by omega) (by rw [h1]; omega)
  rw [repeat_zero] at H
  exact H
set_option maxHeartbeats 400000 in
theorem padded_any (b sh u n : Nat) (hb : b = 8 ∧ sh = 3 ∨ b = 16 ∧ sh = 4) (hu : u < 18446744073709551616) (hn : 1 ≤ n) (hn2 : n ≤ 22) (hlt : u < b ^ n) (w : World) (h : Laid w) :
    Calls Tryz.prog 50 #[.int .u64 u, .int .i64 b, .int .i64 n] w fun e w' => e = .returned (.string ⟨(digL b u n).toArray⟩) ∧ Below w.heap.size w w' := by
  have H := fmtUint b sh u hb hu w h
  have BL := Lib.hid h
  have hb0 : Hid (0 < b) := Lib.hid (by omega)
  have HL := Lib.hid hlt
  clear h hb hlt
  go_enter Tryz.func50, Tryz.ntmps50
  go_wp2_with (go_at_call 70; refine H.mono ?_; rintro e w1 ⟨L, hS, rfl, hbl⟩; refine Hid.out ?_)
  obtain ⟨c, rfl⟩ : ∃ c, n = L + c := ⟨n - L, by have := hS.least n HL.out hn; omega⟩
  refine Lib.hid ?_
  have HP := Lib.hid hS
  have HB := Lib.hid hbl
  have hlen := digL_length b u L
  have hsz : (ByteArray.mk (digL b u L).toArray).size = L := by rw [size_of_list, digL_length]
  clear hS hbl H
  have hsub : (L : Int) + c - L = c := by omega
  go_wp2_with (go_at_call 71; refine (rep0 c (by omega) _).mono ?_; rintro e w2 ⟨rfl, hbl2⟩; have HB2 := Lib.hid hbl2; clear hbl2)
  go_ret
  refine ⟨?_, HB.out.trans (HB2.out.mono HB.out.size)⟩
  rw [Nat.add_comm L c, digL_pad b u L c hb0.out HP.out.lt]
  exact ret_str (str_append (Array.replicate c 48) (digL b u L).toArray |>.trans (by congr 1; simp))
set_option maxHeartbeats 400000 in
theorem octal_any (m : Int) (w : World) (h : Laid w) :
    Calls Tryz.prog 27 #[.int .i64 m] w fun e w' => e = .returned (.string ⟨(digL 8 (nat64 m % 4096) 4).toArray⟩) ∧ Below w.heap.size w w' := by
  have hlt : nat64 m % 4096 < 4096 := Nat.mod_lt _ (by decide)
  have H := padded_any 8 3 (nat64 m % 4096) 4 (Or.inl ⟨rfl, rfl⟩) (by omega) (by omega) (by omega) (by omega) w h
  have hm : bits .and .i64 m 4095 = ((nat64 m % 4096 : Nat) : Int) := by rw [and_4095]; exact (nat64_mod m 12 (by decide)).symm
  generalize nat64 m % 4096 = q at *
  have BL := Lib.hid h
  clear h
  go_enter Tryz.func27, Tryz.ntmps27
  go_wp2_with (go_at_call 50; refine H.mono ?_; rintro e w1 ⟨rfl, hbl⟩; have HB := Lib.hid hbl; clear hbl)
  go_ret
  exact ⟨rfl, HB.out⟩
set_option maxHeartbeats 400000 in
theorem text_any (n : Int) (h0 : -9223372036854775808 ≤ n) (h1 : n ≤ 9223372036854775807) (w : World) (h : Laid w) :
    Calls Tryz.prog 49 #[.int .i64 n] w fun e w' => e = .returned (.string ⟨(Lib.itoa n).toArray⟩) ∧ Below w.heap.size w w' := by
  have H := Tryz.strconv_Itoa n h0 h1 w h.pow
  have BL := Lib.hid h
  clear h
  go_enter Tryz.func49, Tryz.ntmps49
  go_wp2_with (go_at_call 69; refine H.mono ?_; rintro e w1 ⟨rfl, k, os, rfl⟩)
  go_ret
  exact ⟨rfl, below_grownB _ _ _⟩
/-- The sum of a text's bytes. -/
def sumN (l : List UInt8) : Nat := l.foldl (fun h c => (h ^^^ c.toNat) * 1099511628211 % 18446744073709551616) 14695981039346656037
theorem sumN_snoc (l : List UInt8) (c : UInt8) : sumN (l ++ [c]) = (sumN l ^^^ c.toNat) * 1099511628211 % 18446744073709551616 := by
  unfold sumN; rw [List.foldl_append, List.foldl_cons, List.foldl_nil]
theorem sumN_lt (l : List UInt8) : sumN l < 18446744073709551616 := by
  rcases List.eq_nil_or_concat l with rfl | ⟨l', c, rfl⟩
  · show 14695981039346656037 < 18446744073709551616
    omega
  · rw [List.concat_eq_append, sumN_snoc]; omega
theorem take_snocB (s : ByteArray) (k : Nat) (h : k < s.size) : s.data.toList.take (k + 1) = s.data.toList.take k ++ [s[k]] := by
  rw [List.take_succ_eq_append_getElem (by simpa using h)]; rfl
theorem sum_step (s : ByteArray) (k q : Nat) (h : k < s.size) (hq : q = sumN (s.data.toList.take k)) :
    IntKind.u64.wrap (bits .xor .u64 (q : Int) (IntKind.u64.wrap (s[k].toNat : Int)) * 1099511628211) = ((sumN (s.data.toList.take (k + 1)) : Nat) : Int) := by
  have hb : s[k].toNat < 256 := s[k].toNat_lt
  have hq2 : q < 18446744073709551616 := by rw [hq]; exact sumN_lt _
  have e1 : IntKind.u64.wrap (s[k].toNat : Int) = (s[k].toNat : Int) := by rw [IntKind.wrap_u64]; omega
  rw [take_snocB s k h, sumN_snoc, ← hq, e1, u64_xor_nat q _ hq2 (by omega), IntKind.wrap_u64]
  omega
end Go.Proofs.YtmjfbpiodamamaaGreatDoor
