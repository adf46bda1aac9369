import Derived.Test.YtkbkaeefdhkgdaaGreatDoorGShelf
import Derived.Test.YtkbkaeefdhkgdaaGreatDoorGFormat
import Derived.Test.YtkbkaeefdhkgdaaGreatDoorCards
import Derived.Test.YtkbkaeefdhkgdaaGreatDoorTie
import Derived.Stop.LaidErr
set_option maxRecDepth 100000
set_option maxHeartbeats 32000000
namespace Go.Proofs
open Go.Shelf
def Tryz.lays321_ren : Go.Shelf.Ren := ⟨fun | 321 => 197 | n => n, fun | 5 => 5 | n => n, fun | n => n⟩
theorem Tryz.lays321 : Go.Proofs.Lays.n321 Tryz.prog Tryz.lays321_ren := {
 mixed := by kernel_rfl
 f321 := Tryz.func197.trans (congrArg some (by kernel_rfl))
 t5 := Tryz.underlying5
 a5 := Tryz.isAgg5
 z5 := Tryz.sizeOf5
 v5 := Tryz.zeroValue5 }
open Go.RowKit in
theorem Tryz.internal_strconv_lower (c : Int) (w : World) :
  Calls Tryz.prog 197 #[.int .u8 c] w fun e w' => e = .returned (.int .u8 (bits .or .u8 c 32)) ∧ w' = w := Any.internal_strconv_lower Tryz.lays321 c w
def Tryz.lays105_ren : Go.Shelf.Ren := ⟨fun | 105 => 204 | 212 => 213 | 99 => 114 | 165 => 89 | 166 => 46 | 170 => 214 | 169 => 48 | 263 => 220 | 264 => 221 | 206 => 146 | 240 => 94 | 241 => 128 | 276 => 132 | 277 => 158 | n => n, fun | 9 => 9 | 3 => 3 | 4 => 4 | 20 => 20 | 0 => 0 | 46 => 202 | 109 => 217 | 5 => 5 | 72 => 88 | 76 => 91 | 51 => 196 | 146 => 197 | 53 => 104 | 148 => 229 | 70 => 85 | 37 => 86 | 75 => 90 | 127 => 141 | 164 => 167 | 80 => 94 | n => n, fun | n => n⟩
theorem Tryz.lays105 : Go.Proofs.Lays.n105 Tryz.prog Tryz.lays105_ren := {
 mixed := by kernel_rfl
 f99 := Tryz.func114.trans (congrArg some (by kernel_rfl))
 f105 := Tryz.func204.trans (congrArg some (by kernel_rfl))
 f165 := Tryz.func89.trans (congrArg some (by kernel_rfl))
 f166 := Tryz.func46.trans (congrArg some (by kernel_rfl))
 f169 := Tryz.func48.trans (congrArg some (by kernel_rfl))
 f170 := Tryz.func214.trans (congrArg some (by kernel_rfl))
 f206 := Tryz.func146.trans (congrArg some (by kernel_rfl))
 f212 := Tryz.func213.trans (congrArg some (by kernel_rfl))
 f240 := Tryz.func94.trans (congrArg some (by kernel_rfl))
 f241 := Tryz.func128.trans (congrArg some (by kernel_rfl))
 f263 := Tryz.func220.trans (congrArg some (by kernel_rfl))
 f264 := Tryz.func221.trans (congrArg some (by kernel_rfl))
 f276 := Tryz.func132.trans (congrArg some (by kernel_rfl))
 f277 := Tryz.func158.trans (congrArg some (by kernel_rfl))
 t0 := Tryz.underlying0
 a0 := Tryz.isAgg0
 z0 := Tryz.sizeOf0
 v0 := Tryz.zeroValue0
 t3 := Tryz.underlying3
 a3 := Tryz.isAgg3
 z3 := Tryz.sizeOf3
 v3 := Tryz.zeroValue3
 t4 := Tryz.underlying4
 a4 := Tryz.isAgg4
 z4 := Tryz.sizeOf4
 v4 := Tryz.zeroValue4
 t5 := Tryz.underlying5
 a5 := Tryz.isAgg5
 z5 := Tryz.sizeOf5
 v5 := Tryz.zeroValue5
 t9 := Tryz.underlying9
 a9 := Tryz.isAgg9
 z9 := Tryz.sizeOf9
 v9 := Tryz.zeroValue9
 t20 := Tryz.underlying20
 a20 := Tryz.isAgg20
 z20 := Tryz.sizeOf20
 v20 := Tryz.zeroValue20
 t37 := Tryz.underlying86
 a37 := Tryz.isAgg86
 z37 := Tryz.sizeOf86
 v37 := Tryz.zeroValue86
 t46 := Tryz.underlying202
 a46 := Tryz.isAgg202
 z46 := Tryz.sizeOf202
 v46 := Tryz.zeroValue202
 t51 := Tryz.underlying196
 a51 := Tryz.isAgg196
 z51 := Tryz.sizeOf196
 v51 := Tryz.zeroValue196
 t53 := Tryz.underlying104
 a53 := Tryz.isAgg104
 z53 := Tryz.sizeOf104
 v53 := Tryz.zeroValue104
 t70 := Tryz.underlying85
 a70 := Tryz.isAgg85
 z70 := Tryz.sizeOf85
 v70 := Tryz.zeroValue85
 t72 := Tryz.underlying88
 a72 := Tryz.isAgg88
 z72 := Tryz.sizeOf88
 v72 := Tryz.zeroValue88
 t75 := Tryz.underlying90
 a75 := Tryz.isAgg90
 z75 := Tryz.sizeOf90
 v75 := Tryz.zeroValue90
 t76 := Tryz.underlying91
 a76 := Tryz.isAgg91
 z76 := Tryz.sizeOf91
 v76 := Tryz.zeroValue91
 t109 := Tryz.underlying217
 a109 := Tryz.isAgg217
 z109 := Tryz.sizeOf217
 v109 := Tryz.zeroValue217
 t127 := Tryz.underlying141
 a127 := Tryz.isAgg141
 z127 := Tryz.sizeOf141
 v127 := Tryz.zeroValue141
 t146 := Tryz.underlying197
 a146 := Tryz.isAgg197
 z146 := Tryz.sizeOf197
 v146 := Tryz.zeroValue197
 t148 := Tryz.underlying229
 a148 := Tryz.isAgg229
 z148 := Tryz.sizeOf229
 v148 := Tryz.zeroValue229
 t164 := Tryz.underlying167
 a164 := Tryz.isAgg167
 z164 := Tryz.sizeOf167
 v164 := Tryz.zeroValue167 }
theorem Tryz.Builder_Extra_105 : Builder.Extra Tryz.prog Tryz.lays105_ren := {
 sizeBuilder := by kernel_rfl
 liesBuilder := by kernel_rfl
 t5 := Tryz.underlying5
 a5 := Tryz.isAgg5
 z5 := Tryz.sizeOf5
 v5 := Tryz.zeroValue5
 infoByte := by kernel_rfl
 cellsByte := by kernel_rfl
 sizeByte := by kernel_rfl
 neB5 := by decide }
open Go.RowKit Go.Lib in
theorem Tryz.strings_Repeat (s : ByteArray) (c : Nat) (w : World) (hc : c ≤ 9223372036854775807) (hlen : s.size * c ≤ 140737488355328) :
  Calls Tryz.prog 204 #[.string s, .int .i64 c] w fun e w' => e = .returned (.string ⟨(Lib.repeatL s.data.toList c).toArray⟩) ∧ Below w.heap.size w w' := Any.strings_Repeat Tryz.lays105 Tryz.Builder_Extra_105 s c w hc hlen
end Go.Proofs
namespace Go.Proofs.YtkbkaeefdhkgdaaGreatDoor
section
open Go.RowKit Go.Sort
structure Laid (w : World) : Prop where
 tz : TzAt w
 pow : Lib.TabIs Tryz.prog w "internal/strconv.uint64pow10" .u64 Lib.pow10Tab
 size : 9 ≤ w.heap.size
theorem gPowB : Tryz.prog.globalNamed "internal/strconv.uint64pow10" = some 6 := by kernel_rfl
theorem Laid.below {B : Nat} {w w' : World} (h : Laid w) (hb : Below B w w') (hB : 9 ≤ B) : Laid w' where
 tz := ⟨by rw [hb.cell (p := ⟨8, 7, none⟩) (show 8 < B by omega)]; exact h.tz.1, by rw [hb.cell (p := ⟨8, 15, none⟩) (show 8 < B by omega)]; exact h.tz.2⟩
 pow := by
  have := h.pow
  unfold Lib.TabIs at this ⊢
  exact var?_below hb gPowB (by omega) this
 size := by have := h.size; have := hb.size; omega
theorem Laid.on {w w' : World} (h : Laid w) (hb : Below w.heap.size w w') : Laid w' := h.below hb h.size
theorem Laid.alloc {w : World} (h : Laid w) (o : Obj) : Laid (w.alloc o) := h.on ((Below.refl _ _).alloc (Nat.le_refl _) o)
structure Short (b u L : Nat) : Prop where
 pos : 1 ≤ L
 le : L ≤ 22
 lt : u < b ^ L
 least : ∀ k, u < b ^ k → 1 ≤ k → L ≤ k
def FmtPost (b u : Nat) (w : World) (e : Ending) (w' : World) : Prop := ∃ L, Short b u L ∧ e = .returned (.string ⟨(digL b u L).toArray⟩) ∧ Below w.heap.size w w'
theorem fmtUint_in (b sh u : Nat) (hb : b = 8 ∧ sh = 3 ∨ b = 16 ∧ sh = 4) (hu : u < 18446744073709551616) (w : World) (h : Laid w) :
  Calls Tryz.prog 212 #[.int .u64 u, .int .i64 b] w (FmtPost b u w) := by
 have H := formatBits_any b sh u hb hu w (fun o => (h.alloc o).tz)
 have hb2 : b = 8 ∨ b = 16 := by omega
 have hb3 : ((b : Int) == 10) = false := by rcases hb2 with rfl | rfl <;> decide
 have BL := Lib.hid h
 clear h hb
 go_enter Tryz.func212, Tryz.ntmps212
 go_wp2_with (go_at_call 219; refine H.mono ?_; rintro e w' ⟨L, ⟨h1, h2, h3, h4⟩, rfl, hbl⟩; have HP : Hid (Short b u L ∧ Below w.heap.size w w') := Lib.hid ⟨⟨h1, h2, h3, h4⟩, hbl⟩; clear h1 h2 h3 h4 hbl)
 go_ret
 exact ⟨L, HP.out.1, rfl, HP.out.2⟩
theorem fmtUint (b sh u : Nat) (hb : b = 8 ∧ sh = 3 ∨ b = 16 ∧ sh = 4) (hu : u < 18446744073709551616) (w : World) (h : Laid w) :
  Calls Tryz.prog 203 #[.int .u64 u, .int .i64 b] w (FmtPost b u w) := by
 have H := fmtUint_in b sh u hb hu w h
 have BL := Lib.hid h
 clear h hb
 go_enter Tryz.func203, Tryz.ntmps203
 go_wp2_with (go_at_call 212; refine H.mono ?_; rintro e w' ⟨L, hS, rfl, hbl⟩; have HP := Lib.hid hS; have HB := Lib.hid hbl; clear hS hbl)
 go_ret
 exact ⟨L, HP.out, rfl, HB.out⟩
theorem ret_str {a b : ByteArray} (h : a = b) : Ending.returned (.string a) = .returned (.string b) := by rw [h]
theorem str_append (a b : Array UInt8) : (ByteArray.mk a ++ ByteArray.mk b) = ByteArray.mk (a ++ b) := by
 apply ByteArray.ext; rw [ByteArray.data_append]
theorem repeat_zero (c : Nat) : Lib.repeatL (ByteArray.mk #[48]).data.toList c = List.replicate c 48 := by
 induction c with
 | zero => rfl
 | succ c ih => rw [Lib.repeatL, ih, List.replicate_succ]; rfl
theorem rep0 (c : Nat) (hc : c ≤ 22) (w : World) :
  Calls Tryz.prog 204 #[.string ⟨#[48]⟩, .int .i64 c] w fun e w' => e = .returned (.string ⟨(List.replicate c (48 : UInt8)).toArray⟩) ∧ Below w.heap.size w w' := by
 have h1 : (ByteArray.mk #[48]).size = 1 := rfl
 have H := Tryz.strings_Repeat ⟨#[48]⟩ c w (by omega) (by rw [h1]; omega)
 rw [repeat_zero] at H
 exact H
theorem padded_any (b sh u n : Nat) (hb : b = 8 ∧ sh = 3 ∨ b = 16 ∧ sh = 4) (hu : u < 18446744073709551616) (hn : 1 ≤ n) (hn2 : n ≤ 22) (hlt : u < b ^ n) (w : World) (h : Laid w) :
  Calls Tryz.prog 187 #[.int .u64 u, .int .i64 b, .int .i64 n] w fun e w' => e = .returned (.string ⟨(digL b u n).toArray⟩) ∧ Below w.heap.size w w' := by
 have H := fmtUint b sh u hb hu w h
 have BL := Lib.hid h
 have hb0 : Hid (0 < b) := Lib.hid (by omega)
 have HL := Lib.hid hlt
 clear h hb hlt
 go_enter Tryz.func187, Tryz.ntmps187
 go_wp2_with (go_at_call 203; refine H.mono ?_; rintro e w1 ⟨L, hS, rfl, hbl⟩; refine Hid.out ?_)
 obtain ⟨c, rfl⟩ : ∃ c, n = L + c := ⟨n - L, by have := hS.least n HL.out hn; omega⟩
 refine Lib.hid ?_
 have HP := Lib.hid hS
 have HB := Lib.hid hbl
 have hlen := digL_length b u L
 have hsz : (ByteArray.mk (digL b u L).toArray).size = L := by rw [size_of_list, digL_length]
 clear hS hbl H
 have hsub : (L : Int) + c - L = c := by omega
 go_wp2_with (go_at_call 204; refine (rep0 c (by omega) _).mono ?_; rintro e w2 ⟨rfl, hbl2⟩; have HB2 := Lib.hid hbl2; clear hbl2)
 go_ret
 refine ⟨?_, HB.out.trans (HB2.out.mono HB.out.size)⟩
 rw [Nat.add_comm L c, digL_pad b u L c hb0.out HP.out.lt]
 exact ret_str (str_append (Array.replicate c 48) (digL b u L).toArray |>.trans (by congr 1; simp))
theorem take_snocB (s : ByteArray) (k : Nat) (h : k < s.size) : s.data.toList.take (k + 1) = s.data.toList.take k ++ [s[k]] := by
 rw [List.take_succ_eq_append_getElem (by simpa using h)]; rfl
end
section
open Go.RowKit Go.Sort
theorem gTz : Tryz.prog.globalNamed "math/bits.deBruijn64tab" = some 8 := by kernel_rfl
theorem tTz : (Tryz.prog.globals[8]?).map (·.type) = some 239 := by kernel_rfl
theorem tPowB : (Tryz.prog.globals[6]?).map (·.type) = some 233 := by kernel_rfl
theorem c64B : Tryz.prog.cellsOf 239 = 64 := by kernel_rfl
theorem c20B : Tryz.prog.cellsOf 233 = 20 := by kernel_rfl
theorem cU8B : Tryz.prog.cellsOf 5 = 1 := by kernel_rfl
theorem cU64B : Tryz.prog.cellsOf 104 = 1 := by kernel_rfl
theorem cStrB : Tryz.prog.cellsOf 9 = 1 := by kernel_rfl
def tzTab : List Int := [0, 1, 56, 2, 57, 49, 28, 3, 61, 58, 42, 50, 38, 29, 17, 4, 62, 47, 59, 36, 45, 43, 51, 22, 53, 39, 33, 30, 24, 18, 12, 5, 63, 55, 48, 27, 60, 41, 37, 16, 46, 35, 44, 21, 52, 32, 23, 11, 54, 26, 40, 15, 34, 20, 31, 10, 25, 14, 19, 9, 13, 8, 7, 6]
theorem laid_of {W : World} (h1 : Lib.TabIs Tryz.prog W "math/bits.deBruijn64tab" .u8 tzTab) (h2 : Lib.TabIs Tryz.prog W "internal/strconv.uint64pow10" .u64 Lib.pow10Tab) (hs : 9 ≤ W.heap.size) : Laid W where
 tz := ⟨h1.cell gTz 7 (by decide), h1.cell gTz 15 (by decide)⟩
 pow := h2
 size := hs
theorem finB {w W w1 : World} (h : Below w.heap.size w W) (hb : Below W.heap.size W w1) : Below w.heap.size w w1 := h.trans (hb.mono h.size)
end
section
def lo (c : UInt8) : Nat := c.toNat ||| 32
def dv (c : UInt8) : Option Nat := if 48 ≤ c.toNat ∧ c.toNat ≤ 57 then some (c.toNat - 48) else if 97 ≤ lo c ∧ lo c ≤ 122 then some (lo c - 87) else none
def dvb (b : Nat) (c : UInt8) : Option Nat := match dv c with
 | some d => if d < b then some d else none
 | none => none
def pv (b : Nat) : Nat → List UInt8 → Option Nat
 | acc, [] => some acc
 | acc, c :: l => match dvb b c with
  | some d => pv b (acc * b + d) l
  | none => none
theorem pv_some {b acc d : Nat} {c : UInt8} {l : List UInt8} (h : dvb b c = some d) : pv b acc (c :: l) = pv b (acc * b + d) l := by rw [pv, h]
theorem pv_none {b acc : Nat} {c : UInt8} {l : List UInt8} (h : dvb b c = none) : pv b acc (c :: l) = none := by rw [pv, h]
theorem dv_fin : ∀ q : Fin 16, dv (dgc q.val) = some q.val := by decide +kernel
theorem dvb_dgc (b q : Nat) (hq : q < b) (hb : b ≤ 16) : dvb b (dgc q) = some q := by
 have h := dv_fin ⟨q, by omega⟩
 simp only at h
 unfold dvb
 rw [h]
 simp [hq]
theorem pv_digL (b u : Nat) (hb : 0 < b) (hb2 : b ≤ 16) : ∀ (L acc : Nat), pv b acc (digL b u L) = some (acc * b ^ L + u % b ^ L)
 | 0, acc => by rw [digL_zero, pv]; simp [Nat.mod_one]
 | L + 1, acc => by
  rw [digL_succ, pv_some (dvb_dgc b _ (Nat.mod_lt _ hb) hb2), pv_digL b u hb hb2 L, Nat.mod_pow_succ, Nat.pow_succ]
  congr 1
  rw [Nat.add_mul, Nat.mul_assoc acc b, Nat.mul_comm b (b ^ L), Nat.mul_comm (u / b ^ L % b)]
  omega
theorem pv_lt (b : Nat) : ∀ (l : List UInt8) (acc n : Nat), pv b acc l = some n → n < (acc + 1) * b ^ l.length
 | [], acc, n, h => by rw [pv] at h; cases h; simp
 | c :: l, acc, n, h => by
  cases hd : dvb b c with
  | none => rw [pv_none hd] at h; cases h
  | some d =>
   rw [pv_some hd] at h
   have h1 := pv_lt b l _ _ h
   have hdb : d < b := by
    unfold dvb at hd
    split at hd
    ·
     split at hd
     ·
      rename_i hlt; cases hd; exact hlt
     ·
      cases hd
    ·
     cases hd
   have h2 : acc * b + d + 1 ≤ (acc + 1) * b := by rw [Nat.add_mul]; omega
   have h3 := Nat.mul_le_mul_right (b ^ l.length) h2
   rw [List.length_cons, Nat.pow_succ, Nat.mul_comm (b ^ l.length) b, ← Nat.mul_assoc]
   omega
def numOf (b W : Nat) (l : List UInt8) : Option Nat := match pv b 0 l with
 | some n => if digL b n W = l then some n else none
 | none => none
theorem numOf_digL (b W u : Nat) (hb : 0 < b) (hb2 : b ≤ 16) (hu : u < b ^ W) : numOf b W (digL b u W) = some u := by
 have h := pv_digL b u hb hb2 W 0
 rw [Nat.mod_eq_of_lt hu, Nat.zero_mul, Nat.zero_add] at h
 unfold numOf
 rw [h]
 simp
theorem numOf_some {b W n : Nat} {l : List UInt8} (h : numOf b W l = some n) : digL b n W = l := by
 unfold numOf at h
 split at h
 ·
  split at h
  ·
   rename_i e; cases h; exact e
  ·
   cases h
 ·
  cases h
theorem numOf_len {b W n : Nat} {l : List UInt8} (h : numOf b W l = some n) : l.length = W := by rw [← numOf_some h, digL_length]
theorem numOf_lt {b W n : Nat} {l : List UInt8} (hl : l.length = W) (h : numOf b W l = some n) : n < b ^ W := by
 unfold numOf at h
 split at h
 ·
  rename_i m hm
  split at h
  ·
   cases h
   have := pv_lt b l 0 n hm
   rw [hl] at this
   omega
  ·
   cases h
 ·
  cases h
end
section
open Go.RowKit Go.Sort
theorem enc_fin : ∀ d : Fin 16, Utf8.encode ((dgc d.val).toNat : Int) = ⟨#[dgc d.val]⟩ := by decide +kernel
theorem rune_at (d : Nat) (hd : d < 16) (z : Int) (hz : z = ((dgc d).toNat : Int)) (w : World) : (convert 21 9 (.int .i32 z)).run Tryz.prog w = .ok (.string ⟨#[dgc d]⟩) w := by
 rw [run_convert_int_string w 21 9 .i32 _ (by kernel_rfl) Tryz.underlying9, hz]
 have h := enc_fin ⟨d, hd⟩
 simp only at h
 rw [h]
theorem digL_cons (b u k : Nat) : (ByteArray.mk #[dgc (u / b ^ k % b)] ++ ByteArray.mk (digL b u k).toArray) = ByteArray.mk (digL b u (k + 1)).toArray := by
 rw [str_append, digL_succ]
 congr 1
 simp
theorem hex_ref (q : Nat) (hq : q < 18446744073709551616) (w : World) :
  Calls Tryz.prog 111 #[.int .u64 q] w fun e w' => e = .returned (.string ⟨(digL 16 q 16).toArray⟩) ∧ w = w' := by
 go_enter Tryz.func111, Tryz.ntmps111
 go_wp2
 go_loop [0, 3, 4, 5] (fun n s i _ => ∃ (k N : Nat) (S : ByteArray), k ≤ 16 ∧ n = .int .u64 N ∧ s = .string S ∧ i = .int .i64 k ∧ N < 18446744073709551616 ∧ S.size ≤ k ∧ Hid (N = q / 16 ^ k ∧ S = ⟨(digL 16 q k).toArray⟩)) (fun _ _ i _ => 16 - (intOf i).toNat)
 case atStart => exact ⟨0, q, ⟨#[]⟩, by omega, rfl, rfl, rfl, hq, Nat.le_refl _, Lib.hid ⟨by simp, rfl⟩⟩
 case round =>
  obtain ⟨k, N, S, hk, rfl, rfl, rfl, hN, hSz, H⟩ := hrel
  have h1s : ∀ x, (ByteArray.mk #[x]).size = 1 := fun _ => rfl
  by_cases hk4 : k < 16
  ·
   have HS : Hid (ByteArray.mk #[dgc (N % 16)] ++ S = ⟨(digL 16 q (k + 1)).toArray⟩) := Lib.hid (by rw [H.out.2, H.out.1]; exact digL_cons 16 q k)
   have HD : Hid (N / 16 = q / 16 ^ (k + 1)) := Lib.hid (by rw [H.out.1, Nat.div_div_eq_div_mul, Nat.pow_succ])
   by_cases hd : N % 16 < 10
   ·
    have hch := rune_at (N % 16) (by omega) (48 + (N : Int) % 16) (by rw [dgc_lt _ (by omega)]; omega)
    have hdi : (N : Int) % 16 < 10 := by omega
    go_wp2
    go_round
    case rel => exact ⟨k + 1, N / 16, ByteArray.mk #[dgc (N % 16)] ++ S, by omega, by go_num, rfl, by go_num, by omega, by rw [ByteArray.size_append, h1s]; omega, Lib.hid ⟨HD.out, HS.out⟩⟩
    case measure => simp [intOf]; omega
   ·
    have hch := rune_at (N % 16) (by omega) (97 + (N : Int) % 16 - 10) (by rw [dgc_ge _ (by omega) (by omega)]; omega)
    have hdi : 10 ≤ (N : Int) % 16 := by omega
    go_wp2
    go_round
    case rel => exact ⟨k + 1, N / 16, ByteArray.mk #[dgc (N % 16)] ++ S, by omega, by go_num, rfl, by go_num, by omega, by rw [ByteArray.size_append, h1s]; omega, Lib.hid ⟨HD.out, HS.out⟩⟩
    case measure => simp [intOf]; omega
  ·
   obtain rfl : k = 16 := by omega
   go_wp2
   go_ret
   exact ⟨ret_str H.out.2, rfl⟩
def rv (l : List UInt8) : Int := l.foldl (fun n c => 8 * n + (c.toNat : Int) - 48) 0
end
section
open Go.RowKit Go.Sort
def hstep (X : Nat) (c : UInt8) : Nat := (IntKind.u64.wrap (16 * (X : Int) + IntKind.u64.wrap (if 97 ≤ c.toNat then (c.toNat : Int) - 87 else (c.toNat : Int) - 48))).toNat
theorem hstep_eq (X : Nat) (c : UInt8) : ((hstep X c : Nat) : Int) = IntKind.u64.wrap (16 * (X : Int) + IntKind.u64.wrap (if 97 ≤ c.toNat then (c.toNat : Int) - 87 else (c.toNat : Int) - 48)) := by
 unfold hstep
 rw [Int.toNat_of_nonneg]
 rw [IntKind.wrap_u64]
 exact Int.emod_nonneg _ (by decide)
theorem hstep_lt (X : Nat) (c : UInt8) : hstep X c < 18446744073709551616 := by
 have h := hstep_eq X c
 rw [IntKind.wrap_u64] at h
 omega
theorem hstep_dgc (X d : Nat) (hd : d < 16) : hstep X (dgc d) = (16 * X + d) % 18446744073709551616 := by
 have h := hstep_eq X (dgc d)
 have e : (if 97 ≤ (dgc d).toNat then ((dgc d).toNat : Int) - 87 else ((dgc d).toNat : Int) - 48) = d := by
  rcases Nat.lt_or_ge d 10 with h1 | h1
  ·
   rw [dgc_lt d h1, if_neg (by omega)]; omega
  ·
   rw [dgc_ge d h1 hd, if_pos (by omega)]; omega
 rw [e, IntKind.wrap_u64, IntKind.wrap_u64] at h
 omega
def hv (l : List UInt8) : Nat := l.foldl hstep 0
theorem hv_snoc (l : List UInt8) (c : UInt8) : hv (l ++ [c]) = hstep (hv l) c := by unfold hv; rw [List.foldl_append, List.foldl_cons, List.foldl_nil]
theorem hv_digL0 (u : Nat) : ∀ (L acc : Nat), acc < 18446744073709551616 → (digL 16 u L).foldl hstep acc = (acc * 16 ^ L + u % 16 ^ L) % 18446744073709551616
 | 0, acc, h => by rw [digL_zero]; simp [Nat.mod_one]; omega
 | L + 1, acc, h => by
  have hd : u / 16 ^ L % 16 < 16 := Nat.mod_lt _ (by decide)
  rw [digL_succ, List.foldl_cons, hstep_dgc _ _ hd, hv_digL0 u L _ (Nat.mod_lt _ (by decide)), Nat.mod_pow_succ, Nat.pow_succ]
  have e : acc * (16 ^ L * 16) + (u % 16 ^ L + 16 ^ L * (u / 16 ^ L % 16)) = (16 * acc + u / 16 ^ L % 16) * 16 ^ L + u % 16 ^ L := by
   rw [Nat.add_mul, Nat.mul_comm (16 ^ L) 16, ← Nat.mul_assoc, Nat.mul_comm acc 16, Nat.mul_comm (16 ^ L) (u / 16 ^ L % 16)]
   omega
  rw [e]
  generalize 16 * acc + u / 16 ^ L % 16 = A
  generalize u % 16 ^ L = B
  rw [Nat.add_mod, Nat.mul_mod, Nat.mod_mod, ← Nat.mul_mod, ← Nat.add_mod]
theorem hv_num (m : Nat) (h : m < 16 ^ 16) : hv (digL 16 m 16) = m := by
 have h2 : m < 18446744073709551616 := h
 unfold hv
 rw [hv_digL0 m 16 0 (by omega), Nat.mod_eq_of_lt h, Nat.zero_mul, Nat.zero_add, Nat.mod_eq_of_lt h2]
theorem hv_lt (l : List UInt8) : hv l < 18446744073709551616 := by
 rcases List.eq_nil_or_concat l with rfl | ⟨l', c, rfl⟩
 ·
  show 0 < 18446744073709551616
  omega
 ·
  rw [List.concat_eq_append, hv_snoc]; exact hstep_lt _ _
theorem hv_eq (l : List UInt8) (h : digL 16 (hv l) 16 = l) : numOf 16 16 l = some (hv l) := by
 have hlt : hv l < 16 ^ 16 := hv_lt l
 generalize hv l = m at h hlt
 subst h
 exact numOf_digL 16 16 m (by decide) (by decide) hlt
theorem hv_ne (l : List UInt8) (h : ¬ digL 16 (hv l) 16 = l) : numOf 16 16 l = none := by
 cases hn : numOf 16 16 l with
 | none => rfl
 | some m =>
  have h1 := numOf_lt (numOf_len hn) hn
  exfalso
  apply h
  have e : hv l = m := by rw [← numOf_some hn]; exact hv_num m h1
  rw [e]
  exact numOf_some hn
def HexRPost (l : List UInt8) (w : World) (e : Ending) (w' : World) : Prop :=
 (match numOf 16 16 l with
  | some n => e = .returned (.tuple #[.int .u64 n, .bool true])
  | none => e = .returned (.tuple #[.int .u64 0, .bool false])) ∧ w = w'
theorem parseHex_ref (t : ByteArray) (ht : t.size ≤ 4000) (w : World) :
  Calls Tryz.prog 60 #[.string t] w (HexRPost t.data.toList w) := by
 have hlen : t.data.toList.length = t.size := Lib.size_eq t
 by_cases hs : t.size = 16
 ·
  have HLEN := Lib.hid (hlen.trans hs)
  clear hlen
  have hs' : t.size ≤ 16 ∧ 16 ≤ t.size := by omega
  obtain ⟨hs0, hs1⟩ := hs'
  have hne : ((t.size : Int) != 16) = false := by rw [bne_eq_false_iff_eq]; omega
  clear hs
  go_enter Tryz.func60, Tryz.ntmps60
  go_wp2
  go_loop [4, 5, 6] (fun x i _ => ∃ (k X : Nat), k ≤ 16 ∧ i = .int .i64 k ∧ x = .int .u64 X ∧ X < 18446744073709551616 ∧ Hid (X = hv (t.data.toList.take k))) (fun _ i _ => 16 - (intOf i).toNat)
  case atStart => exact ⟨0, 0, by omega, rfl, rfl, by omega, Lib.hid rfl⟩
  case round =>
   obtain ⟨k, X, hk, rfl, rfl, hX, H⟩ := hrel
   by_cases hlt : k < 16
   ·
    have hlt2 : k < t.size := by omega
    have hst : ((hv (t.data.toList.take (k + 1)) : Nat) : Int) = IntKind.u64.wrap (16 * (X : Int) + IntKind.u64.wrap (if 97 ≤ t[k].toNat then (t[k].toNat : Int) - 87 else (t[k].toNat : Int) - 48)) := by
     rw [take_snocB t k hlt2, hv_snoc, ← H.out, hstep_eq]
    have hc := t[k].toNat_lt
    by_cases h97 : 97 ≤ t[k].toNat
    ·
     rw [if_pos h97] at hst
     have HS := Lib.hid hst
     clear hst
     go_wp2
     go_round
     case rel => exact ⟨k + 1, hv (t.data.toList.take (k + 1)), by omega, by go_num, by rw [HS.out]; congr 1; simp only [IntKind.wrap_u64]; omega, hv_lt _, Lib.hid rfl⟩
     case measure => simp [intOf]; omega
    ·
     rw [if_neg h97] at hst
     have HS := Lib.hid hst
     clear hst
     go_wp2
     go_round
     case rel => exact ⟨k + 1, hv (t.data.toList.take (k + 1)), by omega, by go_num, by rw [HS.out]; congr 1; simp only [IntKind.wrap_u64]; omega, hv_lt _, Lib.hid rfl⟩
     case measure => simp [intOf]; omega
   ·
    obtain rfl : k = 16 := by omega
    have hN : X = hv t.data.toList := by rw [H.out, List.take_of_length_le (by have := HLEN.out; omega)]
    have HN := Lib.hid hN
    have C := fun w => hex_ref X hX w
    clear hN hlt H
    by_cases hq : digL 16 X 16 = t.data.toList
    ·
     have HM := Lib.hid (hv_eq t.data.toList (by rw [← HN.out]; exact hq))
     have hqt : (digL 16 X 16 == t.toList) = true := by rw [ByteArray.toList_eq, hq]; simp
     clear hq
     go_wp2_with (go_at_call 111; refine (C _).mono ?_; rintro e w1 ⟨rfl, rfl⟩)
     go_ret2
     unfold HexRPost
     rw [HM.out, ← HN.out]
     exact ⟨rfl, rfl⟩
    ·
     have HR : Hid (numOf 16 16 t.data.toList = none) := Lib.hid (hv_ne _ (by rw [← HN.out]; exact hq))
     have hqt : (digL 16 X 16 == t.toList) = false := by rw [ByteArray.toList_eq]; simpa using hq
     clear hq
     go_wp2_with (go_at_call 111; refine (C _).mono ?_; rintro e w1 ⟨rfl, rfl⟩)
     go_ret2
     unfold HexRPost
     rw [HR.out]
     exact ⟨rfl, rfl⟩
 ·
  have HR : Hid (numOf 16 16 t.data.toList = none) := Lib.hid (by
   cases h2 : numOf 16 16 t.data.toList with
   | none => rfl
   | some n => exact absurd (hlen.symm.trans (numOf_len h2)) hs)
  have hne : ((t.size : Int) != 16) = true := by rw [bne_iff_ne]; omega
  clear hs hlen
  go_enter Tryz.func60, Tryz.ntmps60
  go_wp2
  go_ret2
  unfold HexRPost
  rw [HR.out]
  exact ⟨rfl, rfl⟩
end
end Go.Proofs.YtkbkaeefdhkgdaaGreatDoor
