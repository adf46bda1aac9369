/-
  From the rows' condition on the listed variables to what the walks ask of the world (Laid); and the two errors of strconv that the numerals' readers name.
-/
import Derived.Shelf.Strings.Builder1
import Derived.Shelf.Strings.Builder2
import Derived.Shelf.Strings.OnBuilder
import Derived.Shelf.Strings.Trim
import Derived.Shelf.Small.Utf8
import Derived.Shelf.Small.Strs
import Derived.Shelf.Small.Wraps
import Derived.Shelf.Strings.BuilderF
import Derived.Shelf.Strings.BuilderK
import Derived.Shelf.Utf8.RuneCount
import Derived.Shelf.Strings.Builder2Cap
import Derived.Shelf.Strconv.Itoa0
import Derived.Shelf.Strconv.Itoa1
import Derived.Shelf.LaysM
import Derived.Shelf.Strconv.Itoa2
import Derived.Shelf.Strconv.Itoa3
import Derived.Shelf.Strconv.Clone
import Derived.Shelf.Strconv.SyntaxError
import Derived.Shelf.LaysC
import Derived.Shelf.Strconv.ToError
import Derived.Shelf.Strconv.Lower
import Derived.Shelf.Strconv.ParseUint10
import Derived.Shelf.Strconv.ParseUint10Empty
import Derived.Shelf.Strconv.ParseUint10Any
import Derived.Shelf.Strconv.RangeError
import Derived.Shelf.Strconv.ToErrorRange
import Derived.Shelf.Strconv.ParseUintEmpty
import Derived.Shelf.Strconv.ParseUint10b64
import Derived.Shelf.Strconv.ParseUint10b32
import Derived.Shelf.Strconv.ParseUint10b16
import Derived.Shelf.Strconv.ParseUint10b8
import Derived.Shelf.Strconv.ParseUint10At
import Derived.Shelf.Strings.Search1
import Derived.Shelf.Strings.Search2
import Derived.Shelf.Strings.Search3
import Derived.Shelf.Strings.Cut
import Derived.Shelf.Strings.Count
import Derived.Shelf.Strings.Shaped
import Derived.Shelf.Strings.LastIndex
import Derived.Shelf.Strings.LastIndexAll
import Derived.Shelf.Strings.Prefix
import Derived.Shelf.Strings.Split
import Derived.Shelf.Strings.SplitShaped
import Derived.Shelf.Unicode.Decode
import Derived.Shelf.Strings.Runes
import Derived.Shelf.Strings.RuneCount
import Derived.Shelf.Strings.AsciiSet
import Derived.Shelf.Strings.Explode
import Derived.Shelf.Bits.Mul64
import Derived.Shelf.Strings.Repeat
import Derived.Shelf.Unicode.DecodeSlow
import Derived.Shelf.Unicode.DecodeAny
import Derived.Shelf.Strings.BuilderCap
import Derived.Ground.Names2Prog
import Derived.Shelf.Slices.SearchI
import Derived.Test.YtpkdnohaefkfgaaGreatDoorProg
import Derived.Test.YtpkdnohaefkfgaaGreatDoorGShelf
import Derived.Test.YtpkdnohaefkfgaaGreatDoorGFormat
import Derived.Test.YtpkdnohaefkfgaaGreatDoorGParseMath
import Derived.WalkSmall
import Derived.ShutString
import Derived.Test.YtpkdnohaefkfgaaGreatDoorCards
import Derived.Test.YtpkdnohaefkfgaaGreatDoorTie
import Derived.Lib.LaidTab
import Derived.Stop.LaidErr
namespace Go.Proofs
open Go.Shelf
def Tryz.lays321_ren : Go.Shelf.Ren := ⟨fun | 321 => 118 | n => n, fun | 5 => 5 | n => n, fun | n => n⟩
theorem Tryz.lays321 : Go.Proofs.Lays.n321 Tryz.prog Tryz.lays321_ren := {
  mixed := by kernel_rfl
  f321 := Tryz.func118.trans (congrArg some (by kernel_rfl))
  t5 := Tryz.underlying5
  a5 := Tryz.isAgg5
  z5 := Tryz.sizeOf5
  v5 := Tryz.zeroValue5 }
open Go.RowKit in
/-- internal/strconv.lower: 'c | ('x' - 'X')': the bit 32 set. The world is as it was. (LAID: no walk: one application.) -/
theorem Tryz.internal_strconv_lower (c : Int) (w : World) :
    Calls Tryz.prog 118 #[.int .u8 c] w fun e w' => e = .returned (.int .u8 (bits .or .u8 c 32)) ∧ w' = w := Any.internal_strconv_lower Tryz.lays321 c w
def Tryz.lays105_ren : Go.Shelf.Ren := ⟨fun | 105 => 127 | 212 => 144 | 99 => 109 | 165 => 105 | 166 => 106 | 170 => 145 | 169 => 107 | 263 => 157 | 264 => 158 | 206 => 128 | 240 => 124 | 241 => 125 | 276 => 141 | 277 => 142 | n => n, fun | 9 => 9 | 3 => 3 | 4 => 4 | 20 => 20 | 0 => 0 | 46 => 130 | 109 => 150 | 5 => 5 | 72 => 120 | 76 => 122 | 51 => 114 | 146 => 115 | 53 => 99 | 148 => 166 | 70 => 117 | 37 => 118 | 75 => 104 | 127 => 136 | 164 => 147 | 80 => 124 | n => n, fun | n => n⟩
theorem Tryz.lays105 : Go.Proofs.Lays.n105 Tryz.prog Tryz.lays105_ren := {
  mixed := by kernel_rfl
  f99 := Tryz.func109.trans (congrArg some (by kernel_rfl))
  f105 := Tryz.func127.trans (congrArg some (by kernel_rfl))
  f165 := Tryz.func105.trans (congrArg some (by kernel_rfl))
  f166 := Tryz.func106.trans (congrArg some (by kernel_rfl))
  f169 := Tryz.func107.trans (congrArg some (by kernel_rfl))
  f170 := Tryz.func145.trans (congrArg some (by kernel_rfl))
  f206 := Tryz.func128.trans (congrArg some (by kernel_rfl))
  f212 := Tryz.func144.trans (congrArg some (by kernel_rfl))
  f240 := Tryz.func124.trans (congrArg some (by kernel_rfl))
  f241 := Tryz.func125.trans (congrArg some (by kernel_rfl))
  f263 := Tryz.func157.trans (congrArg some (by kernel_rfl))
  f264 := Tryz.func158.trans (congrArg some (by kernel_rfl))
  f276 := Tryz.func141.trans (congrArg some (by kernel_rfl))
  f277 := Tryz.func142.trans (congrArg some (by kernel_rfl))
  t0 := Tryz.underlying0
  a0 := Tryz.isAgg0
  z0 := Tryz.sizeOf0
  v0 := Tryz.zeroValue0
  t3 := Tryz.underlying3
  a3 := Tryz.isAgg3
  z3 := Tryz.sizeOf3
  v3 := Tryz.zeroValue3
  t4 := Tryz.underlying4
  a4 := Tryz.isAgg4
  z4 := Tryz.sizeOf4
  v4 := Tryz.zeroValue4
  t5 := Tryz.underlying5
  a5 := Tryz.isAgg5
  z5 := Tryz.sizeOf5
  v5 := Tryz.zeroValue5
  t9 := Tryz.underlying9
  a9 := Tryz.isAgg9
  z9 := Tryz.sizeOf9
  v9 := Tryz.zeroValue9
  t20 := Tryz.underlying20
  a20 := Tryz.isAgg20
  z20 := Tryz.sizeOf20
  v20 := Tryz.zeroValue20
  t37 := Tryz.underlying118
  a37 := Tryz.isAgg118
  z37 := Tryz.sizeOf118
  v37 := Tryz.zeroValue118
  t46 := Tryz.underlying130
  a46 := Tryz.isAgg130
  z46 := Tryz.sizeOf130
  v46 := Tryz.zeroValue130
  t51 := Tryz.underlying114
  a51 := Tryz.isAgg114
  z51 := Tryz.sizeOf114
  v51 := Tryz.zeroValue114
  t53 := Tryz.underlying99
  a53 := Tryz.isAgg99
  z53 := Tryz.sizeOf99
  v53 := Tryz.zeroValue99
  t70 := Tryz.underlying117
  a70 := Tryz.isAgg117
  z70 := Tryz.sizeOf117
  v70 := Tryz.zeroValue117
  t72 := Tryz.underlying120
  a72 := Tryz.isAgg120
  z72 := Tryz.sizeOf120
  v72 := Tryz.zeroValue120
  t75 := Tryz.underlying104
  a75 := Tryz.isAgg104
  z75 := Tryz.sizeOf104
  v75 := Tryz.zeroValue104
  t76 := Tryz.underlying122
  a76 := Tryz.isAgg122
  z76 := Tryz.sizeOf122
  v76 := Tryz.zeroValue122
  t109 := Tryz.underlying150
  a109 := Tryz.isAgg150
  z109 := Tryz.sizeOf150
  v109 := Tryz.zeroValue150
  t127 := Tryz.underlying136
  a127 := Tryz.isAgg136
  z127 := Tryz.sizeOf136
  v127 := Tryz.zeroValue136
  t146 := Tryz.underlying115
  a146 := Tryz.isAgg115
  z146 := Tryz.sizeOf115
  v146 := Tryz.zeroValue115
  t148 := Tryz.underlying166
  a148 := Tryz.isAgg166
  z148 := Tryz.sizeOf166
  v148 := Tryz.zeroValue166
  t164 := Tryz.underlying147
  a164 := Tryz.isAgg147
  z164 := Tryz.sizeOf147
  v164 := Tryz.zeroValue147 }
theorem Tryz.Builder_Extra_105 : Builder.Extra Tryz.prog Tryz.lays105_ren := {
  sizeBuilder := by kernel_rfl
  liesBuilder := by kernel_rfl
  t5 := Tryz.underlying5
  a5 := Tryz.isAgg5
  z5 := Tryz.sizeOf5
  v5 := Tryz.zeroValue5
  infoByte := by kernel_rfl
  cellsByte := by kernel_rfl
  sizeByte := by kernel_rfl
  neB5 := by decide }
open Go.RowKit Go.Lib in
/-- **strings.Repeat: count ≥ 0, the result within one allocation: count copies of s.** (LAID: no walk: one application.) -/
theorem Tryz.strings_Repeat (s : ByteArray) (c : Nat) (w : World) (hc : c ≤ 9223372036854775807) (hlen : s.size * c ≤ 140737488355328) :
    Calls Tryz.prog 127 #[.string s, .int .i64 c] w fun e w' => e = .returned (.string ⟨(Lib.repeatL s.data.toList c).toArray⟩) ∧ Below w.heap.size w w' := Any.strings_Repeat Tryz.lays105 Tryz.Builder_Extra_105 s c w hc hlen

end Go.Proofs
namespace Go.Proofs.YtpkdnohaefkfgaaGreatDoor
open Go.RowKit Go.Sort

/-- WHAT THE WORLD HOLDS OF THE PROGRAM's OWN VARIABLES. -/
structure Laid (w : World) : Prop where
  tz : TzAt w
  pow : Lib.TabIs Tryz.prog w "internal/strconv.uint64pow10" .u64 Lib.pow10Tab
  size : 9 ≤ w.heap.size
theorem gPowB : Tryz.prog.globalNamed "internal/strconv.uint64pow10" = some 4 := by kernel_rfl
theorem Laid.below {B : Nat} {w w' : World} (h : Laid w) (hb : Below B w w') (hB : 9 ≤ B) : Laid w' where
  tz := ⟨by rw [hb.cell (p := ⟨6, 7, none⟩) (show 6 < B by omega)]; exact h.tz.1, by rw [hb.cell (p := ⟨6, 15, none⟩) (show 6 < B by omega)]; exact h.tz.2⟩
  pow := by
    have := h.pow
    unfold Lib.TabIs at this ⊢
    exact var?_below hb gPowB (by omega) this
  size := by have := h.size; have := hb.size; omega
theorem Laid.on {w w' : World} (h : Laid w) (hb : Below w.heap.size w w') : Laid w' := h.below hb h.size
theorem Laid.alloc {w : World} (h : Laid w) (o : Obj) : Laid (w.alloc o) := h.on ((Below.refl _ _).alloc (Nat.le_refl _) o)

/-- The shortest numeral. -/
structure Short (b u L : Nat) : Prop where
  pos : 1 ≤ L
  le : L ≤ 22
  lt : u < b ^ L
  least : ∀ k, u < b ^ k → 1 ≤ k → L ≤ k
def FmtPost (b u : Nat) (w : World) (e : Ending) (w' : World) : Prop := ∃ L, Short b u L ∧ e = .returned (.string ⟨(digL b u L).toArray⟩) ∧ Below w.heap.size w w'
set_option maxHeartbeats 400000 in
theorem fmtUint_in (b sh u : Nat) (hb : b = 8 ∧ sh = 3 ∨ b = 16 ∧ sh = 4) (hu : u < 18446744073709551616) (w : World) (h : Laid w) :
    Calls Tryz.prog 143 #[.int .u64 u, .int .i64 b] w (FmtPost b u w) := by
  have H := formatBits_any b sh u hb hu w (fun o => (h.alloc o).tz)
  have hb2 : b = 8 ∨ b = 16 := by omega
  have hb3 : ((b : Int) == 10) = false := by rcases hb2 with rfl | rfl <;> decide
  have BL := Lib.hid h
  clear h hb
  go_enter Tryz.func143, Tryz.ntmps143
  go_wp2_with (go_at_call 156; refine H.mono ?_; rintro e w' ⟨L, ⟨h1, h2, h3, h4⟩, rfl, hbl⟩; have HP : Hid (Short b u L ∧ Below w.heap.size w w') := Lib.hid ⟨⟨h1, h2, h3, h4⟩, hbl⟩; clear h1 h2 h3 h4 hbl)
  go_ret
  exact ⟨L, HP.out.1, rfl, HP.out.2⟩
set_option maxHeartbeats 400000 in
theorem fmtUint (b sh u : Nat) (hb : b = 8 ∧ sh = 3 ∨ b = 16 ∧ sh = 4) (hu : u < 18446744073709551616) (w : World) (h : Laid w) :
    Calls Tryz.prog 126 #[.int .u64 u, .int .i64 b] w (FmtPost b u w) := by
  have H := fmtUint_in b sh u hb hu w h
  have BL := Lib.hid h
  clear h hb
  go_enter Tryz.func126, Tryz.ntmps126
  go_wp2_with (go_at_call 143; refine H.mono ?_; rintro e w' ⟨L, hS, rfl, hbl⟩; have HP := Lib.hid hS; have HB := Lib.hid hbl; clear hS hbl)
  go_ret
  exact ⟨L, HP.out, rfl, HB.out⟩
theorem ret_str {a b : ByteArray} (h : a = b) : Ending.returned (.string a) = .returned (.string b) := by rw [h]
theorem str_append (a b : Array UInt8) : (ByteArray.mk a ++ ByteArray.mk b) = ByteArray.mk (a ++ b) := by
  apply ByteArray.ext; rw [ByteArray.data_append]
theorem repeat_zero (c : Nat) : Lib.repeatL (ByteArray.mk #[48]).data.toList c = List.replicate c 48 := by
  induction c with
  | zero => rfl
  | succ c ih => rw [Lib.repeatL, ih, List.replicate_succ]; rfl
set_option maxRecDepth 100000 in
theorem rep0 (c : Nat) (hc : c ≤ 22) (w : World) :
    Calls Tryz.prog 127 #[.string ⟨#[48]⟩, .int .i64 c] w fun e w' => e = .returned (.string ⟨(List.replicate c (48 : UInt8)).toArray⟩) ∧ Below w.heap.size w w' := by
  have h1 : (ByteArray.mk #[48]).size = 1 := rfl
  have H := Tryz.strings_Repeat ⟨#[48]⟩ c w (by omega) (by rw [h1]; omega)
  rw [repeat_zero] at H
  exact H
set_option maxHeartbeats 400000 in
theorem padded_any (b sh u n : Nat) (hb : b = 8 ∧ sh = 3 ∨ b = 16 ∧ sh = 4) (hu : u < 18446744073709551616) (hn : 1 ≤ n) (hn2 : n ≤ 22) (hlt : u < b ^ n) (w : World) (h : Laid w) :
    Calls Tryz.prog 108 #[.int .u64 u, .int .i64 b, .int .i64 n] w fun e w' => e = .returned (.string ⟨(digL b u n).toArray⟩) ∧ Below w.heap.size w w' := by
  have H := fmtUint b sh u hb hu w h
  have BL := Lib.hid h
  have hb0 : Hid (0 < b) := Lib.hid (by omega)
  have HL := Lib.hid hlt
  clear h hb hlt
  go_enter Tryz.func108, Tryz.ntmps108
  go_wp2_with (go_at_call 126; refine H.mono ?_; rintro e w1 ⟨L, hS, rfl, hbl⟩; refine Hid.out ?_)
  obtain ⟨c, rfl⟩ : ∃ c, n = L + c := ⟨n - L, by have := hS.least n HL.out hn; omega⟩
  refine Lib.hid ?_
  have HP := Lib.hid hS
  have HB := Lib.hid hbl
  have hlen := digL_length b u L
  have hsz : (ByteArray.mk (digL b u L).toArray).size = L := by rw [size_of_list, digL_length]
  clear hS hbl H
  have hsub : (L : Int) + c - L = c := by omega
  go_wp2_with (go_at_call 127; refine (rep0 c (by omega) _).mono ?_; rintro e w2 ⟨rfl, hbl2⟩; have HB2 := Lib.hid hbl2; clear hbl2)
  go_ret
  refine ⟨?_, HB.out.trans (HB2.out.mono HB.out.size)⟩
  rw [Nat.add_comm L c, digL_pad b u L c hb0.out HP.out.lt]
  exact ret_str (str_append (Array.replicate c 48) (digL b u L).toArray |>.trans (by congr 1; simp))
end Go.Proofs.YtpkdnohaefkfgaaGreatDoor
namespace Go.Proofs.YtpkdnohaefkfgaaGreatDoor
open Go.RowKit Go.Sort

theorem gTz : Tryz.prog.globalNamed "math/bits.deBruijn64tab" = some 6 := by kernel_rfl
theorem tTz : (Tryz.prog.globals[6]?).map (·.type) = some 187 := by kernel_rfl
theorem tPowB : (Tryz.prog.globals[4]?).map (·.type) = some 178 := by kernel_rfl
theorem c64B : Tryz.prog.cellsOf 187 = 64 := by kernel_rfl
theorem c20B : Tryz.prog.cellsOf 178 = 20 := by kernel_rfl
theorem cU8B : Tryz.prog.cellsOf 5 = 1 := by kernel_rfl
theorem cU64B : Tryz.prog.cellsOf 99 = 1 := by kernel_rfl
theorem cStrB : Tryz.prog.cellsOf 9 = 1 := by kernel_rfl
def tzTab : List Int := [0, 1, 56, 2, 57, 49, 28, 3, 61, 58, 42, 50, 38, 29, 17, 4, 62, 47, 59, 36, 45, 43, 51, 22, 53, 39, 33, 30, 24, 18, 12, 5, 63, 55, 48, 27, 60, 41, 37, 16, 46, 35, 44, 21, 52, 32, 23, 11, 54, 26, 40, 15, 34, 20, 31, 10, 25, 14, 19, 9, 13, 8, 7, 6]
theorem laid_of {W : World} (h1 : Lib.TabIs Tryz.prog W "math/bits.deBruijn64tab" .u8 tzTab) (h2 : Lib.TabIs Tryz.prog W "internal/strconv.uint64pow10" .u64 Lib.pow10Tab) (hs : 9 ≤ W.heap.size) : Laid W where
  tz := ⟨h1.cell gTz 7 (by decide), h1.cell gTz 15 (by decide)⟩
  pow := h2
  size := hs
theorem finB {w W w1 : World} (h : Below w.heap.size w W) (hb : Below W.heap.size W w1) : Below w.heap.size w w1 := h.trans (hb.mono h.size)
end Go.Proofs.YtpkdnohaefkfgaaGreatDoor
