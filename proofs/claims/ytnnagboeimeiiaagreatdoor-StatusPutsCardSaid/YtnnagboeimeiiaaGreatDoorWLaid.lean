import Derived.Shelf.Strings.Builder1
import Derived.Shelf.Strings.Builder2
import Derived.Shelf.Strings.OnBuilder
import Derived.Shelf.Small.Strs
import Derived.Shelf.Small.Wraps
import Derived.Shelf.Strings.BuilderF
import Derived.Shelf.Strings.BuilderK
import Derived.Shelf.Strings.Builder2Cap
import Derived.Shelf.Strconv.Itoa0
import Derived.Shelf.Strconv.Itoa1
import Derived.Shelf.LaysM
import Derived.Shelf.Strconv.Itoa2
import Derived.Shelf.Strconv.Itoa3
import Derived.Shelf.Strconv.Clone
import Derived.Shelf.Strconv.SyntaxError
import Derived.Shelf.LaysC
import Derived.Shelf.Strconv.ToError
import Derived.Shelf.Strconv.Lower
import Derived.Shelf.Strconv.ParseUint10
import Derived.Shelf.Strconv.ParseUint10Empty
import Derived.Shelf.Strconv.ParseUint10Any
import Derived.Shelf.Strconv.RangeError
import Derived.Shelf.Strconv.ToErrorRange
import Derived.Shelf.Strconv.ParseUintEmpty
import Derived.Shelf.Strconv.ParseUint10b64
import Derived.Shelf.Strconv.ParseUint10b32
import Derived.Shelf.Strconv.ParseUint10b16
import Derived.Shelf.Strconv.ParseUint10b8
import Derived.Shelf.Strconv.ParseUint10At
import Derived.Shelf.Strings.Search1
import Derived.Shelf.Strings.Search2
import Derived.Shelf.Strings.Search3
import Derived.Shelf.Strings.Cut
import Derived.Shelf.Strings.Count
import Derived.Shelf.Strings.Shaped
import Derived.Shelf.Strings.LastIndex
import Derived.Shelf.Strings.LastIndexAll
import Derived.Shelf.Strings.Prefix
import Derived.Shelf.Strings.Split
import Derived.Shelf.Strings.SplitShaped
import Derived.Shelf.Unicode.Decode
import Derived.Shelf.Strings.RuneCount
import Derived.Shelf.Strings.Explode
import Derived.Shelf.Bits.Mul64
import Derived.Shelf.Strings.Repeat
import Derived.Shelf.Unicode.DecodeSlow
import Derived.Shelf.Unicode.DecodeAny
import Derived.Shelf.Strings.BuilderCap
import Derived.Test.YtnnagboeimeiiaaGreatDoorProg
import Derived.Test.YtnnagboeimeiiaaGreatDoorWParseMath
import Derived.WalkKit
import Derived.WalkSpells
import Derived.WalkLawsBesides
import Derived.Lib.Hide
import Derived.Lib.OwnBridge
import Derived.Lib.ItoaMem
import Derived.Test.YtnnagboeimeiiaaGreatDoorWShelf
import Derived.WalkSmall
import Derived.ShutString
import Derived.Test.YtnnagboeimeiiaaGreatDoorCards
import Derived.Test.YtnnagboeimeiiaaGreatDoorTie
import Derived.Lib.LaidTab
import Derived.Stop.LaidErr
namespace Go.Proofs
open Go.Shelf
def Tryz.lays321_ren : Go.Shelf.Ren := ⟨fun | 321 => 218 | n => n, fun | 5 => 5 | n => n, fun | n => n⟩
theorem Tryz.lays321 : Go.Proofs.Lays.n321 Tryz.prog Tryz.lays321_ren := {
 mixed := by kernel_rfl
 f321 := Tryz.func218.trans (congrArg some (by kernel_rfl))
 t5 := Tryz.underlying5
 a5 := Tryz.isAgg5
 z5 := Tryz.sizeOf5
 v5 := Tryz.zeroValue5 }
open Go.RowKit in
theorem Tryz.internal_strconv_lower (c : Int) (w : World) :
   Calls Tryz.prog 218 #[.int .u8 c] w fun e w' => e = .returned (.int .u8 (bits .or .u8 c 32)) ∧ w' = w := Any.internal_strconv_lower Tryz.lays321 c w
def Tryz.lays105_ren : Go.Shelf.Ren := ⟨fun | 105 => 225 | 212 => 234 | 99 => 131 | 165 => 121 | 166 => 73 | 170 => 235 | 169 => 75 | 263 => 241 | 264 => 242 | 206 => 165 | 240 => 126 | 241 => 158 | 276 => 162 | 277 => 187 | n => n, fun | 9 => 9 | 3 => 3 | 4 => 4 | 20 => 20 | 0 => 0 | 46 => 214 | 109 => 229 | 5 => 5 | 72 => 106 | 76 => 109 | 51 => 207 | 146 => 208 | 53 => 85 | 148 => 241 | 70 => 103 | 37 => 104 | 75 => 108 | 127 => 162 | 164 => 185 | 80 => 112 | n => n, fun | n => n⟩
theorem Tryz.lays105 : Go.Proofs.Lays.n105 Tryz.prog Tryz.lays105_ren := {
 mixed := by kernel_rfl
 f99 := Tryz.func131.trans (congrArg some (by kernel_rfl))
 f105 := Tryz.func225.trans (congrArg some (by kernel_rfl))
 f165 := Tryz.func121.trans (congrArg some (by kernel_rfl))
 f166 := Tryz.func73.trans (congrArg some (by kernel_rfl))
 f169 := Tryz.func75.trans (congrArg some (by kernel_rfl))
 f170 := Tryz.func235.trans (congrArg some (by kernel_rfl))
 f206 := Tryz.func165.trans (congrArg some (by kernel_rfl))
 f212 := Tryz.func234.trans (congrArg some (by kernel_rfl))
 f240 := Tryz.func126.trans (congrArg some (by kernel_rfl))
 f241 := Tryz.func158.trans (congrArg some (by kernel_rfl))
 f263 := Tryz.func241.trans (congrArg some (by kernel_rfl))
 f264 := Tryz.func242.trans (congrArg some (by kernel_rfl))
 f276 := Tryz.func162.trans (congrArg some (by kernel_rfl))
 f277 := Tryz.func187.trans (congrArg some (by kernel_rfl))
 t0 := Tryz.underlying0
 a0 := Tryz.isAgg0
 z0 := Tryz.sizeOf0
 v0 := Tryz.zeroValue0
 t3 := Tryz.underlying3
 a3 := Tryz.isAgg3
 z3 := Tryz.sizeOf3
 v3 := Tryz.zeroValue3
 t4 := Tryz.underlying4
 a4 := Tryz.isAgg4
 z4 := Tryz.sizeOf4
 v4 := Tryz.zeroValue4
 t5 := Tryz.underlying5
 a5 := Tryz.isAgg5
 z5 := Tryz.sizeOf5
 v5 := Tryz.zeroValue5
 t9 := Tryz.underlying9
 a9 := Tryz.isAgg9
 z9 := Tryz.sizeOf9
 v9 := Tryz.zeroValue9
 t20 := Tryz.underlying20
 a20 := Tryz.isAgg20
 z20 := Tryz.sizeOf20
 v20 := Tryz.zeroValue20
 t37 := Tryz.underlying104
 a37 := Tryz.isAgg104
 z37 := Tryz.sizeOf104
 v37 := Tryz.zeroValue104
 t46 := Tryz.underlying214
 a46 := Tryz.isAgg214
 z46 := Tryz.sizeOf214
 v46 := Tryz.zeroValue214
 t51 := Tryz.underlying207
 a51 := Tryz.isAgg207
 z51 := Tryz.sizeOf207
 v51 := Tryz.zeroValue207
 t53 := Tryz.underlying85
 a53 := Tryz.isAgg85
 z53 := Tryz.sizeOf85
 v53 := Tryz.zeroValue85
 t70 := Tryz.underlying103
 a70 := Tryz.isAgg103
 z70 := Tryz.sizeOf103
 v70 := Tryz.zeroValue103
 t72 := Tryz.underlying106
 a72 := Tryz.isAgg106
 z72 := Tryz.sizeOf106
 v72 := Tryz.zeroValue106
 t75 := Tryz.underlying108
 a75 := Tryz.isAgg108
 z75 := Tryz.sizeOf108
 v75 := Tryz.zeroValue108
 t76 := Tryz.underlying109
 a76 := Tryz.isAgg109
 z76 := Tryz.sizeOf109
 v76 := Tryz.zeroValue109
 t109 := Tryz.underlying229
 a109 := Tryz.isAgg229
 z109 := Tryz.sizeOf229
 v109 := Tryz.zeroValue229
 t127 := Tryz.underlying162
 a127 := Tryz.isAgg162
 z127 := Tryz.sizeOf162
 v127 := Tryz.zeroValue162
 t146 := Tryz.underlying208
 a146 := Tryz.isAgg208
 z146 := Tryz.sizeOf208
 v146 := Tryz.zeroValue208
 t148 := Tryz.underlying241
 a148 := Tryz.isAgg241
 z148 := Tryz.sizeOf241
 v148 := Tryz.zeroValue241
 t164 := Tryz.underlying185
 a164 := Tryz.isAgg185
 z164 := Tryz.sizeOf185
 v164 := Tryz.zeroValue185 }
theorem Tryz.Builder_Extra_105 : Builder.Extra Tryz.prog Tryz.lays105_ren := {
 sizeBuilder := by kernel_rfl
 liesBuilder := by kernel_rfl
 t5 := Tryz.underlying5
 a5 := Tryz.isAgg5
 z5 := Tryz.sizeOf5
 v5 := Tryz.zeroValue5
 infoByte := by kernel_rfl
 cellsByte := by kernel_rfl
 sizeByte := by kernel_rfl
 neB5 := by decide }
open Go.RowKit Go.Lib in
theorem Tryz.strings_Repeat (s : ByteArray) (c : Nat) (w : World) (hc : c ≤ 9223372036854775807) (hlen : s.size * c ≤ 140737488355328) :
   Calls Tryz.prog 225 #[.string s, .int .i64 c] w fun e w' => e = .returned (.string ⟨(Lib.repeatL s.data.toList c).toArray⟩) ∧ Below w.heap.size w w' := Any.strings_Repeat Tryz.lays105 Tryz.Builder_Extra_105 s c w hc hlen
end Go.Proofs
namespace Go.Proofs.YtnnagboeimeiiaaGreatDoor
open Go.RowKit Go.Sort
set_option maxHeartbeats 400000 in
theorem ispow (b : Nat) (hb : b = 8 ∨ b = 16) (w : World) :
   Calls Tryz.prog 247 #[.int .i64 b] w fun e w' => e = .returned (.bool true) ∧ w = w' := by
 rcases hb with rfl | rfl
 all_goals
   go_enter Tryz.func247, Tryz.ntmps247
   go_wp2
   go_ret
   exact ⟨by kernel_rfl, rfl⟩
def TzAt (w : World) : Prop := w.cell? ⟨8, 7, none⟩ = some (.int .u8 3) ∧ w.cell? ⟨8, 15, none⟩ = some (.int .u8 4)
set_option maxHeartbeats 400000 in
theorem tz64 (b sh : Nat) (hb : b = 8 ∧ sh = 3 ∨ b = 16 ∧ sh = 4) (w : World) (h : TzAt w) :
   Calls Tryz.prog 250 #[.int .u64 b] w fun e w' => e = .returned (.int .i64 sh) ∧ w = w' := by
 obtain ⟨h7, h15⟩ := h
 have e : (IntKind.u64.wrap (bits .and .u64 8 (IntKind.u64.wrap (-8)) * 285870213051353865) / 288230376151711744) = 7 := by kernel_rfl
 have e' : (IntKind.u64.wrap (bits .and .u64 16 (IntKind.u64.wrap (-16)) * 285870213051353865) / 288230376151711744) = 15 := by kernel_rfl
 rcases hb with ⟨rfl, rfl⟩ | ⟨rfl, rfl⟩
 all_goals
   go_enter Tryz.func250, Tryz.ntmps250
   go_wp2
   go_ret
   exact ⟨rfl, rfl⟩
set_option maxHeartbeats 400000 in
theorem tz (b sh : Nat) (hb : b = 8 ∧ sh = 3 ∨ b = 16 ∧ sh = 4) (w : World) (h : TzAt w) :
   Calls Tryz.prog 248 #[.int .u64 b] w fun e w' => e = .returned (.int .i64 sh) ∧ w = w' := by
 have H := tz64 b sh hb w h
 rcases hb with ⟨rfl, rfl⟩ | ⟨rfl, rfl⟩
 all_goals
   go_enter Tryz.func248, Tryz.ntmps248
   go_wp2_with (go_at_call 250; refine H.mono ?_; rintro e w' ⟨rfl, rfl⟩)
   go_ret
   exact ⟨rfl, rfl⟩
def digTab : ByteArray := ⟨#[48, 49, 50, 51, 52, 53, 54, 55, 56, 57, 97, 98, 99, 100, 101, 102, 103, 104, 105, 106, 107, 108, 109, 110, 111, 112, 113, 114, 115, 116, 117, 118, 119, 120, 121, 122]⟩
theorem digTab_size : digTab.size = 36 := by decide +kernel
theorem digTab_fin : ∀ p : Fin 16, digTab[p.val]! = dgc p.val := by decide +kernel
theorem idx_dig (z : Int) (i : Nat) (hz : z = i) (hi : i < 16) (w : World) :
   (Instr.index 9 (.string digTab) (.int .u64 z)).run Tryz.prog w = .ok (.int .u8 ((dgc i).toNat : Int)) w := by
 subst hz
 rw [run_index_string w 9 digTab .u64 _ Tryz.underlying9, dif_pos ⟨by omega, by rw [digTab_size]; omega⟩]
 have e : ((i : Int)).toNat = i := by omega
 simp only [e]
 have h := digTab_fin ⟨i, hi⟩
 simp only at h
 rw [← h, getElem!_pos digTab i (by rw [digTab_size]; omega)]
theorem and_u64_7 (v : Nat) (hv : v < 18446744073709551616) : bits .and .u64 (v : Int) 7 = (v : Int) % 8 := by
 have h := u64_and_nat v 7 hv (by omega)
 rw [nat_mask3] at h
 rw [show (7 : Int) = ((7 : Nat) : Int) from rfl, h]; omega
theorem and_u64_15 (v : Nat) (hv : v < 18446744073709551616) : bits .and .u64 (v : Int) 15 = (v : Int) % 16 := by
 have h := u64_and_nat v 15 hv (by omega)
 rw [nat_mask4] at h
 rw [show (15 : Int) = ((15 : Nat) : Int) from rfl, h]; omega
abbrev encB : UInt8 → Value := fun b => Value.int .u8 (b.toNat : Int)
theorem zeros_at (i : Nat) (h : i < 65) : Tryz.zeroCells246[i]? = some (.int .u8 0) := by
 have e : Tryz.zeroCells246 = Array.replicate 65 (.int .u8 0) := by kernel_rfl
 rw [e, Array.getElem?_replicate, if_pos h]
theorem holds_zero65 (w : World) : Holds encB (w.alloc (.cells Tryz.zeroCells246 246)) w.heap.size 0 (Array.replicate 65 (0 : UInt8)) := fun j hj => by
 have hj' : j < 65 := by simpa using hj
 refine ⟨?_, World.frozen?_alloc_new _ _ _ _⟩
 rw [World.cell?_alloc_new, Nat.zero_add, zeros_at j hj', getElem!_pos _ j hj]
 simp
theorem below_rowB (w : World) (o : Obj) (d : Array UInt8) : Below w.heap.size w (putRow encB (w.alloc o) w.heap.size 0 d) :=
 Lib.below_putRow (q := 0) ((Below.refl _ _).alloc (Nat.le_refl _) _) (Nat.le_refl _)
theorem store1 (w : World) (blk : Nat) (dk : Array UInt8) (n : Nat) (x : UInt8) (hn : n < dk.size) :
   (putRow encB w blk 0 dk).setCell ⟨blk, n, none⟩ (.int .u8 (x.toNat : Int)) = putRow encB w blk 0 (dk.setIfInBounds n x) := by
 have := putRow_set encB w blk 0 dk n x hn
 rwa [Nat.zero_add] at this
theorem fin_str (b u n v : Nat) (dk : Array UInt8) (W : World) (blk : Nat) (d0 : Array UInt8) (h0 : Holds encB W blk 0 d0) (hs : d0.size = 65) (HI : FInv b u (n + 1) v dk) (hv : v < b) :
   (convert 104 9 (.slice (some ⟨blk, n, none⟩) (65 - n) (65 - n))).run Tryz.prog ((putRow encB W blk 0 dk).setCell ⟨blk, n, none⟩ (.int .u8 ((dgc v).toNat : Int))) = .ok (.string ⟨(digL b u (65 - n)).toArray⟩) ((putRow encB W blk 0 dk).setCell ⟨blk, n, none⟩ (.int .u8 ((dgc v).toNat : Int))) := by
 have hle := HI.le
 have hsz := HI.size
 rw [store1 _ _ _ _ _ (by omega)]
 have hH := holds_putRow encB W blk 0 d0 (dk.setIfInBounds n (dgc v)) h0 (by simp [hsz, hs])
 have h := run_convert_bytes_back (P := Tryz.prog) (putRow encB W blk 0 (dk.setIfInBounds n (dgc v))) 104 9 5 ⟨blk, n, none⟩ (65 - n) (digL b u (65 - n)) Tryz.underlying104 Tryz.underlying5 Tryz.underlying9 (fun j hj => by
   rw [(HI.last hv).1 j hj, Lib.add_plain]
   rw [digL_length] at hj
   have := (hH (n + j) (by simp; omega)).1
   rwa [Nat.zero_add] at this)
 rw [digL_length] at h
 exact h
theorem len_facts {b u n v : Nat} {dk : Array UInt8} (HI : FInv b u (n + 1) v dk) (hb : 8 ≤ b) (hv : v < b) (hn : 44 ≤ n + 1) :
   1 ≤ 65 - n ∧ 65 - n ≤ 22 ∧ u < b ^ (65 - n) ∧ (∀ k, u < b ^ k → 1 ≤ k → 65 - n ≤ k) := by
 have hle := HI.le
 refine ⟨by omega, by omega, (HI.last hv).2, fun k hk hk1 => ?_⟩
 rcases HI.pos with hp | hp
 · omega
 · rcases Nat.lt_or_ge k (65 - n) with hlt | hge
   · exfalso
     have hr := HI.rest
     have h1 : b ^ k ≤ b ^ (65 - (n + 1)) := Nat.pow_le_pow_right (by omega) (by omega)
     rw [Nat.div_eq_of_lt (Nat.lt_of_lt_of_le hk h1)] at hr
     omega
   · exact hge
theorem slice65 (blk n : Nat) (hn : n < 65) (W : World) :
   (Instr.sliceAt 246 (.pointer (some ⟨blk, 0, none⟩)) (some (.int .i64 (n : Int))) none none).run Tryz.prog W = .ok (.slice (some ⟨blk, n, none⟩) (65 - n) (65 - n)) W := by
 have hal : Tryz.prog.arrayLen 246 = 65 := by kernel_rfl
 rw [run_sliceAt_array_l W 246 ⟨blk, 0, none⟩ (by kernel_rfl) .i64 (n : Int) (by omega) (by rw [hal]; omega)]
 go_simp
 omega
set_option maxRecDepth 100000 in
set_option maxHeartbeats 2000000 in
theorem formatBits_any (b sh u : Nat) (hb : b = 8 ∧ sh = 3 ∨ b = 16 ∧ sh = 4) (hu : u < 18446744073709551616) (w : World) (h : ∀ o, TzAt (w.alloc o)) :
   Calls Tryz.prog 240 #[.slice none 0 0, .int .u64 u, .int .i64 b, .bool false, .bool false] w fun e w' => ∃ L, (1 ≤ L ∧ L ≤ 22 ∧ u < b ^ L ∧ (∀ k, u < b ^ k → 1 ≤ k → L ≤ k)) ∧ e = .returned (.tuple #[.slice none 0 0, .string ⟨(digL b u L).toArray⟩]) ∧ Below w.heap.size w w' := by
 have HPOW := fun w => ispow b (by omega) w
 have HTZ := fun o => tz b sh hb (w.alloc o) (h o)
 have HH0 := Lib.hid (holds_zero65 w)
 rcases hb with ⟨rfl, rfl⟩ | ⟨rfl, rfl⟩
 · go_enter Tryz.func240, Tryz.ntmps240
   go_name_bytes PM hPM
   clear hPM
   go_name_bytes SM hSM
   have eSM : SM = digTab := by rw [← hSM]; decide +kernel
   subst eSM
   clear hSM
   go_wp2_with (first | (go_at_call 247; refine (HPOW _).mono ?_; rintro e w' ⟨rfl, rfl⟩) | (go_at_call 248; refine (HTZ _).mono ?_; rintro e w' ⟨rfl, rfl⟩))
   have BL := Lib.hid h
   clear h HPOW HTZ
   go_loopw [1, 13] (fun vu vi wr => ∃ (v i : Nat) (dk : Array UInt8), vu = .int .u64 v ∧ vi = .int .i64 i ∧ wr = putRow encB (w.alloc (.cells Tryz.zeroCells246 246)) w.heap.size 0 dk ∧ v < 18446744073709551616 ∧ 44 ≤ i ∧ i ≤ 65 ∧ Hid (FInv 8 u i v dk)) (fun _ vi _ => (intOf vi).toNat)
   case atStart => exact ⟨u, 65, Array.replicate 65 0, rfl, rfl, (putRow_self _ _ _ _ _ HH0.out).symm, hu, by omega, by omega, Lib.hid (FInv.start 8 u _ (by simp))⟩
   case round =>
     obtain ⟨v, i, dk, rfl, rfl, hw0, hv, hi, hi2, HI⟩ := hrel
     rename World => W0
     have hHr : Holds encB W0 w.heap.size 0 dk := by rw [hw0]; exact holds_putRow _ _ _ _ _ dk HH0.out (by rw [HI.out.size]; simp)
     have hs := HI.out.size
     obtain ⟨n, rfl⟩ : ∃ n, i = n + 1 := ⟨i - 1, by omega⟩
     have hc : W0.cell? ⟨w.heap.size, n, none⟩ = some (.int .u8 (dk[n]!.toNat : Int)) := by have := (hHr n (by omega)).1; rwa [Nat.zero_add] at this
     have hf : W0.frozen? ⟨w.heap.size, n, none⟩ = false := by have := (hHr n (by omega)).2; rwa [Nat.zero_add] at this
     have AW := Lib.hid hw0
     have AS := Lib.hid hs
     clear hw0 hHr hs
     by_cases hlt : v < 8
     · have hX := idx_dig v v rfl (by omega)
       have hsl := slice65 w.heap.size n (by omega)
       have hcv := fin_str 8 u n v dk (w.alloc (.cells Tryz.zeroCells246 246)) w.heap.size _ HH0.out (by simp) HI.out hlt
       rw [← AW.out] at hcv
       go_wp2
       go_ret2
       exact ⟨65 - n, len_facts HI.out (by omega) hlt hi, rfl, by rw [AW.out, store1 _ _ _ _ _ (by have := AS.out; omega)]; exact below_rowB _ _ _⟩
     · have hge : 8 ≤ v := by omega
       clear hlt
       have hand := and_u64_7 v hv
       have hX := idx_dig ((v : Int) % 8) (v % 8) (by omega) (by omega)
       go_wp2
       go_roundw
       case rel =>
         have HI2 := HI.out.step (by omega) hge
         exact ⟨v / 8, n, dk.setIfInBounds n (dgc (v % 8)), by go_num, rfl, by rw [AW.out, store1 _ _ _ _ _ (by have := AS.out; omega)], by omega, HI2.low (by omega) hu, by omega, Lib.hid HI2⟩
       case measure => simp [intOf]
 · go_enter Tryz.func240, Tryz.ntmps240
   go_name_bytes PM hPM
   clear hPM
   go_name_bytes SM hSM
   have eSM : SM = digTab := by rw [← hSM]; decide +kernel
   subst eSM
   clear hSM
   go_wp2_with (first | (go_at_call 247; refine (HPOW _).mono ?_; rintro e w' ⟨rfl, rfl⟩) | (go_at_call 248; refine (HTZ _).mono ?_; rintro e w' ⟨rfl, rfl⟩))
   have BL := Lib.hid h
   clear h HPOW HTZ
   go_loopw [1, 13] (fun vu vi wr => ∃ (v i : Nat) (dk : Array UInt8), vu = .int .u64 v ∧ vi = .int .i64 i ∧ wr = putRow encB (w.alloc (.cells Tryz.zeroCells246 246)) w.heap.size 0 dk ∧ v < 18446744073709551616 ∧ 44 ≤ i ∧ i ≤ 65 ∧ Hid (FInv 16 u i v dk)) (fun _ vi _ => (intOf vi).toNat)
   case atStart => exact ⟨u, 65, Array.replicate 65 0, rfl, rfl, (putRow_self _ _ _ _ _ HH0.out).symm, hu, by omega, by omega, Lib.hid (FInv.start 16 u _ (by simp))⟩
   case round =>
     obtain ⟨v, i, dk, rfl, rfl, hw0, hv, hi, hi2, HI⟩ := hrel
     rename World => W0
     have hHr : Holds encB W0 w.heap.size 0 dk := by rw [hw0]; exact holds_putRow _ _ _ _ _ dk HH0.out (by rw [HI.out.size]; simp)
     have hs := HI.out.size
     obtain ⟨n, rfl⟩ : ∃ n, i = n + 1 := ⟨i - 1, by omega⟩
     have hc : W0.cell? ⟨w.heap.size, n, none⟩ = some (.int .u8 (dk[n]!.toNat : Int)) := by have := (hHr n (by omega)).1; rwa [Nat.zero_add] at this
     have hf : W0.frozen? ⟨w.heap.size, n, none⟩ = false := by have := (hHr n (by omega)).2; rwa [Nat.zero_add] at this
     have AW := Lib.hid hw0
     have AS := Lib.hid hs
     clear hw0 hHr hs
     by_cases hlt : v < 16
     · have hX := idx_dig v v rfl (by omega)
       have hsl := slice65 w.heap.size n (by omega)
       have hcv := fin_str 16 u n v dk (w.alloc (.cells Tryz.zeroCells246 246)) w.heap.size _ HH0.out (by simp) HI.out hlt
       rw [← AW.out] at hcv
       go_wp2
       go_ret2
       exact ⟨65 - n, len_facts HI.out (by omega) hlt hi, rfl, by rw [AW.out, store1 _ _ _ _ _ (by have := AS.out; omega)]; exact below_rowB _ _ _⟩
     · have hge : 16 ≤ v := by omega
       clear hlt
       have hand := and_u64_15 v hv
       have hX := idx_dig ((v : Int) % 16) (v % 16) (by omega) (by omega)
       go_wp2
       go_roundw
       case rel =>
         have HI2 := HI.out.step (by omega) hge
         exact ⟨v / 16, n, dk.setIfInBounds n (dgc (v % 16)), by go_num, rfl, by rw [AW.out, store1 _ _ _ _ _ (by have := AS.out; omega)], by omega, HI2.low (by omega) hu, by omega, Lib.hid HI2⟩
       case measure => simp [intOf]
end Go.Proofs.YtnnagboeimeiiaaGreatDoor
namespace Go.Proofs.YtnnagboeimeiiaaGreatDoor
open Go.RowKit
end Go.Proofs.YtnnagboeimeiiaaGreatDoor
namespace Go.Proofs.YtnnagboeimeiiaaGreatDoor
open Go.RowKit Go.Sort
structure Laid (w : World) : Prop where
 tz : TzAt w
 pow : Lib.TabIs Tryz.prog w "internal/strconv.uint64pow10" .u64 Lib.pow10Tab
 size : 9 ≤ w.heap.size
theorem gPowB : Tryz.prog.globalNamed "internal/strconv.uint64pow10" = some 6 := by kernel_rfl
theorem Laid.below {B : Nat} {w w' : World} (h : Laid w) (hb : Below B w w') (hB : 9 ≤ B) : Laid w' where
 tz := ⟨by rw [hb.cell (p := ⟨8, 7, none⟩) (show 8 < B by omega)]; exact h.tz.1, by rw [hb.cell (p := ⟨8, 15, none⟩) (show 8 < B by omega)]; exact h.tz.2⟩
 pow := by
   have := h.pow
   unfold Lib.TabIs at this ⊢
   exact var?_below hb gPowB (by omega) this
 size := by have := h.size; have := hb.size; omega
theorem Laid.on {w w' : World} (h : Laid w) (hb : Below w.heap.size w w') : Laid w' := h.below hb h.size
theorem Laid.alloc {w : World} (h : Laid w) (o : Obj) : Laid (w.alloc o) := h.on ((Below.refl _ _).alloc (Nat.le_refl _) o)
structure Short (b u L : Nat) : Prop where
 pos : 1 ≤ L
 le : L ≤ 22
 lt : u < b ^ L
 least : ∀ k, u < b ^ k → 1 ≤ k → L ≤ k
def FmtPost (b u : Nat) (w : World) (e : Ending) (w' : World) : Prop := ∃ L, Short b u L ∧ e = .returned (.string ⟨(digL b u L).toArray⟩) ∧ Below w.heap.size w w'
set_option maxHeartbeats 400000 in
theorem fmtUint_in (b sh u : Nat) (hb : b = 8 ∧ sh = 3 ∨ b = 16 ∧ sh = 4) (hu : u < 18446744073709551616) (w : World) (h : Laid w) :
   Calls Tryz.prog 233 #[.int .u64 u, .int .i64 b] w (FmtPost b u w) := by
 have H := formatBits_any b sh u hb hu w (fun o => (h.alloc o).tz)
 have hb2 : b = 8 ∨ b = 16 := by omega
 have hb3 : ((b : Int) == 10) = false := by rcases hb2 with rfl | rfl <;> decide
 have BL := Lib.hid h
 clear h hb
 go_enter Tryz.func233, Tryz.ntmps233
 go_wp2_with (go_at_call 240; refine H.mono ?_; rintro e w' ⟨L, ⟨h1, h2, h3, h4⟩, rfl, hbl⟩; have HP : Hid (Short b u L ∧ Below w.heap.size w w') := Lib.hid ⟨⟨h1, h2, h3, h4⟩, hbl⟩; clear h1 h2 h3 h4 hbl)
 go_ret
 exact ⟨L, HP.out.1, rfl, HP.out.2⟩
set_option maxHeartbeats 400000 in
theorem fmtUint (b sh u : Nat) (hb : b = 8 ∧ sh = 3 ∨ b = 16 ∧ sh = 4) (hu : u < 18446744073709551616) (w : World) (h : Laid w) :
   Calls Tryz.prog 224 #[.int .u64 u, .int .i64 b] w (FmtPost b u w) := by
 have H := fmtUint_in b sh u hb hu w h
 have BL := Lib.hid h
 clear h hb
 go_enter Tryz.func224, Tryz.ntmps224
 go_wp2_with (go_at_call 233; refine H.mono ?_; rintro e w' ⟨L, hS, rfl, hbl⟩; have HP := Lib.hid hS; have HB := Lib.hid hbl; clear hS hbl)
 go_ret
 exact ⟨L, HP.out, rfl, HB.out⟩
theorem ret_str {a b : ByteArray} (h : a = b) : Ending.returned (.string a) = .returned (.string b) := by rw [h]
theorem str_append (a b : Array UInt8) : (ByteArray.mk a ++ ByteArray.mk b) = ByteArray.mk (a ++ b) := by
 apply ByteArray.ext; rw [ByteArray.data_append]
theorem repeat_zero (c : Nat) : Lib.repeatL (ByteArray.mk #[48]).data.toList c = List.replicate c 48 := by
 induction c with
 | zero => rfl
 | succ c ih => rw [Lib.repeatL, ih, List.replicate_succ]; rfl
set_option maxRecDepth 100000 in
theorem rep0 (c : Nat) (hc : c ≤ 22) (w : World) :
   Calls Tryz.prog 225 #[.string ⟨#[48]⟩, .int .i64 c] w fun e w' => e = .returned (.string ⟨(List.replicate c (48 : UInt8)).toArray⟩) ∧ Below w.heap.size w w' := by
 have h1 : (ByteArray.mk #[48]).size = 1 := rfl
 have H := Tryz.strings_Repeat ⟨#[48]⟩ c w (by omega) (by rw [h1]; omega)
 rw [repeat_zero] at H
 exact H
set_option maxHeartbeats 400000 in
theorem padded_any (b sh u n : Nat) (hb : b = 8 ∧ sh = 3 ∨ b = 16 ∧ sh = 4) (hu : u < 18446744073709551616) (hn : 1 ≤ n) (hn2 : n ≤ 22) (hlt : u < b ^ n) (w : World) (h : Laid w) :
   Calls Tryz.prog 207 #[.int .u64 u, .int .i64 b, .int .i64 n] w fun e w' => e = .returned (.string ⟨(digL b u n).toArray⟩) ∧ Below w.heap.size w w' := by
 have H := fmtUint b sh u hb hu w h
 have BL := Lib.hid h
 have hb0 : Hid (0 < b) := Lib.hid (by omega)
 have HL := Lib.hid hlt
 clear h hb hlt
 go_enter Tryz.func207, Tryz.ntmps207
 go_wp2_with (go_at_call 224; refine H.mono ?_; rintro e w1 ⟨L, hS, rfl, hbl⟩; refine Hid.out ?_)
 obtain ⟨c, rfl⟩ : ∃ c, n = L + c := ⟨n - L, by have := hS.least n HL.out hn; omega⟩
 refine Lib.hid ?_
 have HP := Lib.hid hS
 have HB := Lib.hid hbl
 have hlen := digL_length b u L
 have hsz : (ByteArray.mk (digL b u L).toArray).size = L := by rw [size_of_list, digL_length]
 clear hS hbl H
 have hsub : (L : Int) + c - L = c := by omega
 go_wp2_with (go_at_call 225; refine (rep0 c (by omega) _).mono ?_; rintro e w2 ⟨rfl, hbl2⟩; have HB2 := Lib.hid hbl2; clear hbl2)
 go_ret
 refine ⟨?_, HB.out.trans (HB2.out.mono HB.out.size)⟩
 rw [Nat.add_comm L c, digL_pad b u L c hb0.out HP.out.lt]
 exact ret_str (str_append (Array.replicate c 48) (digL b u L).toArray |>.trans (by congr 1; simp))
theorem take_snocB (s : ByteArray) (k : Nat) (h : k < s.size) : s.data.toList.take (k + 1) = s.data.toList.take k ++ [s[k]] := by
 rw [List.take_succ_eq_append_getElem (by simpa using h)]; rfl
end Go.Proofs.YtnnagboeimeiiaaGreatDoor
namespace Go.Proofs.YtnnagboeimeiiaaGreatDoor
open Go.RowKit Go.Sort
theorem gTz : Tryz.prog.globalNamed "math/bits.deBruijn64tab" = some 8 := by kernel_rfl
theorem tTz : (Tryz.prog.globals[8]?).map (·.type) = some 251 := by kernel_rfl
theorem tPowB : (Tryz.prog.globals[6]?).map (·.type) = some 245 := by kernel_rfl
theorem c64B : Tryz.prog.cellsOf 251 = 64 := by kernel_rfl
theorem c20B : Tryz.prog.cellsOf 245 = 20 := by kernel_rfl
theorem cU8B : Tryz.prog.cellsOf 5 = 1 := by kernel_rfl
theorem cU64B : Tryz.prog.cellsOf 85 = 1 := by kernel_rfl
theorem cStrB : Tryz.prog.cellsOf 9 = 1 := by kernel_rfl
def tzTab : List Int := [0, 1, 56, 2, 57, 49, 28, 3, 61, 58, 42, 50, 38, 29, 17, 4, 62, 47, 59, 36, 45, 43, 51, 22, 53, 39, 33, 30, 24, 18, 12, 5, 63, 55, 48, 27, 60, 41, 37, 16, 46, 35, 44, 21, 52, 32, 23, 11, 54, 26, 40, 15, 34, 20, 31, 10, 25, 14, 19, 9, 13, 8, 7, 6]
theorem laid_of {W : World} (h1 : Lib.TabIs Tryz.prog W "math/bits.deBruijn64tab" .u8 tzTab) (h2 : Lib.TabIs Tryz.prog W "internal/strconv.uint64pow10" .u64 Lib.pow10Tab) (hs : 9 ≤ W.heap.size) : Laid W where
 tz := ⟨h1.cell gTz 7 (by decide), h1.cell gTz 15 (by decide)⟩
 pow := h2
 size := hs
theorem finB {w W w1 : World} (h : Below w.heap.size w W) (hb : Below W.heap.size W w1) : Below w.heap.size w w1 := h.trans (hb.mono h.size)
end Go.Proofs.YtnnagboeimeiiaaGreatDoor
