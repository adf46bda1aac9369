/-
  Plain of a text: what it returns; nothing old turns. The library's WriteByte, laid at this program.
-/
import Derived.Test.YtapdmlejgakhaaaWMatch
import Derived.Shelf.Strings.BuilderK
import Derived.Shelf.Strings.MapGrows
namespace Go.Proofs.Ytapdmlejgakhaaa
open Go.RowKit Go.Shelf
abbrev tB : TypeId := 31
abbrev tU : TypeId := 5
/-- The Builder at block b (all that is its own from B on) holds the bytes l. -/
abbrev Bld (B b : Nat) (l : Bs) (w : World) : Prop := Lib.IsBuilderF tB tU B b (Lib.byteCells l) w
theorem bld_new (B : Nat) (w : World) (h : B ≤ w.heap.size) : Bld B w.heap.size [] (w.alloc (.cells #[.pointer none, .slice none 0 0] tB)) :=
  .inl ⟨h, .slice none 0 0, heap_alloc_new w _, World.ownsRowF_nil _ _ _ _, by simp [Value.ownBlock]⟩
theorem bstr_any (B b : Nat) (l : Bs) (w : World) (h : Bld B b l w) (hB : B ≤ w.heap.size) : Calls Try.prog 11 #[.pointer (some ⟨b, 0, none⟩)] w fun e w' => e = .returned (.string ⟨l.toArray⟩) ∧ Below B w w' :=
  (Try.Builder_String_any_k B b l w h hB).mono fun _ _ hp => ⟨hp.1, hp.2.2.1⟩
def wbRen : Go.Shelf.Ren := ⟨fun | 167 => 10 | 240 => 15 | 276 => 20 | n => n, fun | 0 => 0 | 4 => 4 | 5 => 5 | 9 => 9 | 20 => 20 | 37 => 29 | 70 => 28 | 72 => 31 | 75 => 34 | 80 => 36 | 164 => 48 | n => n, fun | n => n⟩
theorem wbLays : Go.Proofs.Lays.n167 Try.prog wbRen := {
  mixed := by kernel_rfl
  f167 := Try.func10.trans (congrArg some (by kernel_rfl))
  f240 := Try.func15.trans (congrArg some (by kernel_rfl))
  f276 := Try.func20.trans (congrArg some (by kernel_rfl))
  t0 := Try.underlying0
  a0 := Try.isAgg0
  z0 := Try.sizeOf0
  v0 := Try.zeroValue0
  t4 := Try.underlying4
  a4 := Try.isAgg4
  z4 := Try.sizeOf4
  v4 := Try.zeroValue4
  t5 := Try.underlying5
  a5 := Try.isAgg5
  z5 := Try.sizeOf5
  v5 := Try.zeroValue5
  t9 := Try.underlying9
  a9 := Try.isAgg9
  z9 := Try.sizeOf9
  v9 := Try.zeroValue9
  t20 := Try.underlying20
  a20 := Try.isAgg20
  z20 := Try.sizeOf20
  v20 := Try.zeroValue20
  t37 := Try.underlying29
  a37 := Try.isAgg29
  z37 := Try.sizeOf29
  v37 := Try.zeroValue29
  t70 := Try.underlying28
  a70 := Try.isAgg28
  z70 := Try.sizeOf28
  v70 := Try.zeroValue28
  t72 := Try.underlying31
  a72 := Try.isAgg31
  z72 := Try.sizeOf31
  v72 := Try.zeroValue31
  t75 := Try.underlying34
  a75 := Try.isAgg34
  z75 := Try.sizeOf34
  v75 := Try.zeroValue34
  t164 := Try.underlying48
  a164 := Try.isAgg48
  z164 := Try.sizeOf48
  v164 := Try.zeroValue48 }
theorem wbExtra : Builder.Extra Try.prog wbRen := {
  sizeBuilder := by kernel_rfl
  liesBuilder := by kernel_rfl
  t5 := Try.underlying5
  a5 := Try.isAgg5
  z5 := Try.sizeOf5
  v5 := Try.zeroValue5
  infoByte := by kernel_rfl
  cellsByte := by kernel_rfl
  sizeByte := by kernel_rfl
  neB5 := by decide }
theorem wbyte_any (B b : Nat) (l : Bs) (c : UInt8) (w : World) (h : Bld B b l w) (hl : l.length ≤ 100000000000) (hB : B ≤ w.heap.size) :
    Calls Try.prog 10 #[.pointer (some ⟨b, 0, none⟩), .int .u8 c.toNat] w fun e w' => ∃ v, e = .returned v ∧ Bld B b (l ++ [c]) w' ∧ Below B w w' := by
  have := Any.Builder_WriteByte_k (ρ := wbRen) wbLays wbExtra B b (Lib.byteCells l) c.toNat w h (by rw [Lib.byteCells_length]; omega) hB
  refine Calls.mono this fun e w' hp => ⟨_, hp.1, .inr ?_, hp.2.2.1⟩
  rw [Lib.byteCells_append]; exact hp.2.1
theorem wb92_any (B b : Nat) (l : Bs) (w : World) (h : Bld B b l w) (hl : l.length ≤ 100000000000) (hB : B ≤ w.heap.size) :
    Calls Try.prog 10 #[.pointer (some ⟨b, 0, none⟩), .int .u8 92] w fun e w' => ∃ v, e = .returned v ∧ Bld B b (l ++ [92]) w' ∧ Below B w w' := wbyte_any B b l 92 w h hl hB
theorem plain_snoc (s : ByteArray) (k : Nat) (h : k < s.size) : plainL (s.data.toList.take (k + 1)) = plainL (s.data.toList.take k) ++ (if spec s[k] then [92, s[k]] else [s[k]]) := by
  have e : s.data.toList.take (k + 1) = s.data.toList.take k ++ [s[k]] := by
    rw [List.take_succ_eq_append_getElem (by rw [← sizeOf]; exact h)]; rfl
  rw [e]; unfold plainL
  rw [List.flatMap_append]; simp
theorem spec_idx (c : UInt8) : (spec c = true → 0 ≤ Lib.indexByte [42, 63, 91, 93, 92] c) ∧ (spec c = false → Lib.indexByte [42, 63, 91, 93, 92] c < 0) := by
  have h : ∀ n : Fin 256, (spec (UInt8.ofNat n.1) = true → 0 ≤ Lib.indexByte [42, 63, 91, 93, 92] (UInt8.ofNat n.1)) ∧ (spec (UInt8.ofNat n.1) = false → Lib.indexByte [42, 63, 91, 93, 92] (UInt8.ofNat n.1) < 0) := by decide +kernel
  have e : UInt8.ofNat c.toNat = c := UInt8.toNat_inj.1 (by rw [UInt8.toNat_ofNat']; exact Nat.mod_eq_of_lt c.toNat_lt)
  have := h ⟨c.toNat, c.toNat_lt⟩
  rwa [e] at this
theorem idx_any (c : UInt8) (W : World) : Calls Try.prog 9 #[.string ⟨#[42, 63, 91, 93, 92]⟩, .int .u8 c.toNat] W fun e w' => e = .returned (.int .i64 (Lib.indexByte [42, 63, 91, 93, 92] c)) ∧ w' = W := by
  have := Try.strings_IndexByte ⟨#[42, 63, 91, 93, 92]⟩ c.toNat W
  rwa [show ((c.toNat : Int).toNat.toUInt8) = c from UInt8.toNat_inj.1 (by simp)] at this
set_option maxHeartbeats 4000000 in
theorem plain_any (s : ByteArray) (hs : s.size ≤ 100000) (w : World) : Calls Try.prog 6 #[.string s] w fun e w' => e = .returned (.string (bsT (plainL s.data.toList))) ∧ Below w.heap.size w w' := by
  have HD0 := Lib.hid (bld_new w.heap.size w (Nat.le_refl _))
  have HB0 := Lib.hid ((Below.refl w.heap.size w).alloc (Nat.le_refl _) (.cells #[.pointer none, .slice none 0 0] tB))
  go_enter Try.func6, Try.ntmps6
  go_wp2
  obtain ⟨bb, hbb⟩ : ∃ bb, bb = w.heap.size := ⟨_, rfl⟩
  have HEB := Lib.hid hbb
  have HD1 : Hid (Bld w.heap.size bb [] (w.alloc (.cells #[.pointer none, .slice none 0 0] tB))) := Lib.hid (by rw [hbb]; exact HD0.out)
  rw [← hbb] at HB0 ⊢
  clear hbb HD0
  go_loopw [7] (fun i wr => ∃ k : Nat, k ≤ s.size ∧ i = .int .i64 k ∧ Hid (Bld w.heap.size bb (plainL (s.data.toList.take k)) wr) ∧ bb < wr.heap.size ∧ Hid (Below w.heap.size w wr)) (fun i _ => s.size - (intOf i).toNat)
  case atStart => exact ⟨0, by omega, rfl, HD1, by rw [HEB.out]; simp, Lib.hid (by have := HB0.out; rw [HEB.out] at this; exact this)⟩
  case round =>
    obtain ⟨k, hk, rfl, HD, hbw, HB⟩ := hrel
    have hsz := HB.out.size
    have hpl := plainL_len (s.data.toList.take k)
    have htl : (s.data.toList.take k).length ≤ k := List.length_take_le _ _
    clear HD1 HB0
    by_cases hlt : k < s.size
    · have HS := Lib.hid (plain_snoc s k hlt)
      have I2 := fun W => idx_any s[k] W
      obtain ⟨p1, p2⟩ := spec_idx s[k]
      obtain ⟨q, hq⟩ : ∃ q, Lib.indexByte [42, 63, 91, 93, 92] s[k] = q := ⟨_, rfl⟩
      rw [hq] at I2 p1 p2
      cases hsp : spec s[k]
      · have hq2 := p2 hsp
        have hq3 : decide (0 ≤ q) = false := decide_eq_false (by omega)
        have HS2 : Hid (plainL (s.data.toList.take k) ++ [s[k]] = plainL (s.data.toList.take (k + 1))) := Lib.hid (by rw [HS.out, hsp]; rfl)
        clear hsp hq p1 p2 HS
        go_wp2_with (first
          | (go_at_call 9; (with_reducible refine (I2 _).mono ?_); rintro e w2 ⟨rfl, rfl⟩)
          | (go_at_call 10; (with_reducible refine (wbyte_any w.heap.size bb _ s[k] _ HD.out (by omega) hsz).mono ?_); rintro e w3 ⟨v3, rfl, hd3, hb3⟩; have HD3 := Lib.hid hd3; have HB3 := Lib.hid (HB.out.trans hb3); have hbw3 := Nat.lt_of_lt_of_le hbw hb3.size; clear hd3 hb3))
        have HD4 : Hid (Bld w.heap.size bb (plainL (s.data.toList.take (k + 1))) w3) := Lib.hid (by rw [← HS2.out]; exact HD3.out)
        go_roundw
        case rel => exact ⟨k + 1, by omega, by go_num, HD4, hbw3, HB3⟩
        case measure => simp [intOf]; omega
      · have hq2 := p1 hsp
        have hq3 : decide (0 ≤ q) = true := decide_eq_true hq2
        have HS2 : Hid ((plainL (s.data.toList.take k) ++ [92]) ++ [s[k]] = plainL (s.data.toList.take (k + 1))) := Lib.hid (by rw [HS.out, hsp, List.append_assoc]; rfl)
        have hl2 : ∀ x : Bs, (x ++ [92]).length = x.length + 1 := fun x => by simp
        have HL2 := Lib.hid (hl2 (plainL (s.data.toList.take k)))
        clear hsp hq p1 p2 HS hl2
        go_wp2_with (first
          | (go_at_call 9; (with_reducible refine (I2 _).mono ?_); rintro e w2 ⟨rfl, rfl⟩)
          | (go_at_call 10; (with_reducible refine (wb92_any w.heap.size bb _ _ HD.out (by omega) hsz).mono ?_); rintro e w3 ⟨v3, rfl, hd3, hb3⟩; have HD3 := Lib.hid hd3; have HB3 := Lib.hid (HB.out.trans hb3); have hbw3 := Nat.lt_of_lt_of_le hbw hb3.size; clear hd3 hb3 HD)
          | (go_at_call 10; (with_reducible refine (wbyte_any w.heap.size bb _ s[k] _ HD3.out (by rw [HL2.out]; omega) HB3.out.size).mono ?_); rintro e w4 ⟨v4, rfl, hd3, hb3⟩; have HD4 := Lib.hid hd3; have HB4 := Lib.hid (HB3.out.trans hb3); have hbw4 := Nat.lt_of_lt_of_le hbw3 hb3.size; clear hd3 hb3))
        have HD5 : Hid (Bld w.heap.size bb (plainL (s.data.toList.take (k + 1))) w4) := Lib.hid (by rw [← HS2.out]; exact HD4.out)
        go_roundw
        case rel => exact ⟨k + 1, by omega, by go_num, HD5, hbw4, HB4⟩
        case measure => simp [intOf]; omega
    · obtain rfl : k = s.size := by omega
      have HE : Hid (s.data.toList.take s.size = s.data.toList) := Lib.hid (List.take_of_length_le (by rw [← sizeOf]; exact Nat.le_refl _))
      have BS := bstr_any w.heap.size bb _ wr HD.out hsz
      clear hlt
      go_wp2_with (go_at_call 11; refine BS.mono ?_; rintro e w3 ⟨rfl, hb3⟩; have HB3 := Lib.hid (HB.out.trans hb3); clear hb3)
      go_ret
      exact ⟨by first | rfl | (rw [HE.out]; rfl), HB3.out⟩
end Go.Proofs.Ytapdmlejgakhaaa
