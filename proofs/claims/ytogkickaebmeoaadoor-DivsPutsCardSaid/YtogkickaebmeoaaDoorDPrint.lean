/-
  The program's Print of diversions: what it returns; nothing old turns. Condition: LaidP.
-/
import Derived.Test.YtogkickaebmeoaaDoorDBld
namespace Go.Proofs.YtogkickaebmeoaaDoor
open Go.RowKit Go.Shelf
open Classical in
noncomputable def printD (l : List Dv) : Bs × Int := if checkD l = 0 then (textD l, 0) else ([], checkD l)
theorem printD_ok {l : List Dv} (h : checkD l = 0) : printD l = (textD l, 0) := by unfold printD; rw [if_pos h]
theorem printD_no {l : List Dv} (h : ¬ checkD l = 0) : printD l = ([], checkD l) := by unfold printD; rw [if_neg h]
def PrPost (l : List Dv) (w : World) (e : Ending) (w' : World) : Prop := e = .returned (.tuple #[.string (bsA (printD l).1), .int .i64 (printD l).2]) ∧ Below w.heap.size w w'
theorem bld_dr {B b : Nat} {l : Bs} {W : World} (h : Bld B b l W) : Bld B b l W.drew := h
theorem s3_after {w W2 V V' : World} {b b0 : Nat} {o : Obj} {X Y Z : ByteArray} {t : TypeId} (h : W2.heap[b0]? = some (.cells #[.string X, .string Y, .string Z] t (0, 0))) (hne : b0 ≠ b) (hV : (W2.alloc o).drew = V) (ht : t ≠ tU) (ho : Oth b V V') (hb : Below w.heap.size w V') :
    V'.cell? ⟨b0, 0, none⟩ = some (.string X) ∧ V'.cell? ⟨b0, 1, none⟩ = some (.string Y) ∧ V'.cell? ⟨b0, 2, none⟩ = some (.string Z) ∧ Below w.heap.size w V' := by
  subst hV
  have h1 : (W2.alloc o).drew.heap[b0]? = some (.cells #[.string X, .string Y, .string Z] t (0, 0)) := (Below.heap_alloc _ _ _ (Array.getElem?_eq_some_iff.1 h).1).trans h
  have h2 := heap_oth h1 ho hne ht
  exact ⟨cell_heap h2 rfl, cell_heap h2 rfl, cell_heap h2 rfl, hb⟩
theorem textD_drop {l : List Dv} {k : Nat} {x : Dv} (h : l[k]? = some x) : textD (l.drop k) = rowT x ++ textD (l.drop (k + 1)) := by
  obtain ⟨hk, e⟩ := List.getElem?_eq_some_iff.1 h
  rw [List.drop_eq_getElem_cons hk, e]
  unfold textD; rw [List.flatMap_cons]
theorem byD_or (c : ByteArray) : (orT c ⟨#[58]⟩).data.toList = byD c.data.toList := by
  unfold orT byD
  by_cases h : c.data.toList = []
  · rw [if_pos h, if_pos h]
  · rw [if_neg h, if_neg h]
theorem rowT_is (X Y Z : ByteArray) : (X ++ ⟨#[10]⟩ ++ Y ++ ⟨#[10]⟩ ++ orT Z ⟨#[58]⟩ ++ ⟨#[10]⟩ : ByteArray).data.toList = rowT (X.data.toList, Y.data.toList, Z.data.toList) := by
  unfold rowT
  simp only [ByteArray.data_append, Array.toList_append, byD_or]
  simp
theorem byD_len (b : Bs) : (byD b).length ≤ b.length + 1 := by unfold byD; split <;> simp_all
theorem rowT_len {x : Dv} (h : x.1.length ≤ 4000 ∧ x.2.1.length ≤ 4000 ∧ x.2.2.length ≤ 4000) : (rowT x).length ≤ 12004 := by
  have := byD_len x.2.2
  unfold rowT; simp; omega
theorem textD_len : ∀ {l : List Dv}, SmallD l → (textD l).length ≤ 12004 * l.length
  | [], _ => by simp [textD]
  | x :: l, h => by
    have h1 := rowT_len (h x (by simp))
    have h2 := textD_len (l := l) (fun y hy => h y (by simp [hy]))
    have e : textD (x :: l) = rowT x ++ textD l := rfl
    rw [e, List.length_append, List.length_cons]; omega
theorem checkD_ways (l : List Dv) : checkD l = 22 ∨ checkD l = 0 ∨ checkD l = 1 := by
  unfold checkD
  split
  · exact .inl rfl
  · split
    · exact .inr (.inl rfl)
    · exact .inr (.inr rfl)
set_option maxRecDepth 100000 in
set_option maxHeartbeats 16000000 in
theorem print9_any (v : Value) (l : List Dv) (hl : l.length ≤ 90000) (hs : SmallD l) (w : World) (hL : LaidP w) (h : HoldD w v l) : Calls Tryd.prog 65 #[v] w (PrPost l w) := by
  have CK := check9_any v l hl hs w hL h
  unfold ChkPost at CK
  by_cases hz : checkD l = 0
  case neg =>
    have HP : Hid (∀ w', Below w.heap.size w w' → PrPost l w (.returned (.tuple #[.string ⟨#[]⟩, .int .i64 (checkD l)])) w') := Lib.hid (fun w' hb => ⟨by rw [printD_no hz], hb⟩)
    obtain ⟨a, c, b, o, rfl, hc, ha, hcell⟩ := h.parts
    have hzz : checkD l = 22 ∨ checkD l = 1 := by rcases checkD_ways l with g | g | g <;> simp_all
    generalize checkD l = z at *
    clear hcell ha h hs
    generalize l.length = n at *
    rcases hzz with rfl | rfl
    all_goals
      clear hz
      go_enter Tryd.func65, Tryd.ntmps65
      go_wp2_with (go_at_call 88; refine CK.mono ?_; rintro e w1 ⟨rfl, hb⟩; have HB := Lib.hid hb; clear hb)
      go_ret2
      exact HP.out _ HB.out
  have HP : Hid (∀ (S : ByteArray) w', S.data.toList = textD l → Below w.heap.size w w' → PrPost l w (.returned (.tuple #[.string S, .int .i64 0])) w') := Lib.hid (fun S w' hS hb => ⟨by rw [printD_ok hz]; show _ = Ending.returned (Value.tuple #[.string (bsA (textD l)), .int .i64 0]); rw [← hS, show bsA S.data.toList = S from (strOf (x := S) rfl).symm], hb⟩)
  rw [hz] at CK
  have hlen := textD_len hs
  have h64 := (checkD_zero hz).1
  obtain ⟨a, c, b, o, rfl, hc, ha, hcell⟩ := h.parts
  have HC := Lib.hid hcell
  have HS := Lib.hid hs
  obtain ⟨n, hN⟩ : ∃ n, l.length = n := ⟨_, rfl⟩
  rw [hN] at hc ha hl CK hlen h64 ⊢
  have HN := Lib.hid hN
  clear hcell hN h hs hz hL
  go_enter Tryd.func65, Tryd.ntmps65
  go_wp2_with (go_at_call 88; refine CK.mono ?_; rintro e w1 ⟨rfl, hb⟩; have HB1 := Lib.hid hb; have hs1 := hb.size; clear hb)
  clear CK
  have HB2 : Hid (Below w.heap.size w (w1.alloc (.cells #[.pointer none, .slice none 0 0] tB))) := Lib.hid (HB1.out.alloc hs1 _)
  have HD0 := Lib.hid (bld_new w.heap.size w1 hs1)
  obtain ⟨bb, hbb⟩ : ∃ bb, bb = w1.heap.size := ⟨_, rfl⟩
  rw [← hbb] at HD0 ⊢
  have HEB := Lib.hid hbb
  clear hbb
  go_loopw [15] (fun i wr => ∃ (k : Nat) (out : Bs), k ≤ n ∧ i = .int .i64 k ∧ Hid (out ++ textD (l.drop k) = textD l) ∧ Hid (Bld w.heap.size bb out wr) ∧ bb < wr.heap.size ∧ Hid (Below w.heap.size w wr)) (fun i _ => n - (intOf i).toNat)
  case atStart => exact ⟨0, [], by omega, rfl, Lib.hid rfl, HD0, by rw [HEB.out]; simp, HB2⟩
  case round =>
    obtain ⟨k, out, hk, rfl, HO, HD, hbw2, HB⟩ := hrel
    have hsz := HB.out.size
    have hol : out.length ≤ 12004 * n := by
      have := congrArg List.length HO.out
      rw [List.length_append] at this; omega
    by_cases hlt : k < n
    · obtain ⟨rfl, hbw⟩ := ha (by omega)
      obtain ⟨x, hx⟩ : ∃ x, l[k]? = some x := ⟨_, List.getElem?_eq_getElem (by rw [HN.out]; exact hlt)⟩
      obtain ⟨c0, c1, c2⟩ := HC.out k x hx
      rw [← HB.out.cell (p := ⟨b, o + k * 3, none⟩) hbw] at c0
      rw [← HB.out.cell (p := ⟨b, o + k * 3 + 1, none⟩) hbw] at c1
      rw [← HB.out.cell (p := ⟨b, o + k * 3 + 2, none⟩) hbw] at c2
      have hsx := HS.out x (List.mem_of_getElem? hx)
      obtain ⟨X, hX⟩ : ∃ X, X = bsA x.1 := ⟨_, rfl⟩
      obtain ⟨Y, hY⟩ : ∃ Y, Y = bsA x.2.1 := ⟨_, rfl⟩
      obtain ⟨Z, hZ⟩ : ∃ Z, Z = bsA x.2.2 := ⟨_, rfl⟩
      have hXs : X.size ≤ 4000 := by rw [hX, sizeOf, bytesOf]; omega
      have hYs : Y.size ≤ 4000 := by rw [hY, sizeOf, bytesOf]; omega
      have hZs : (orT Z ⟨#[58]⟩).size ≤ 4001 := by rw [sizeOf, byD_or, hZ, bytesOf]; have := byD_len x.2.2; omega
      have HO2 : Hid (out ++ (X ++ ⟨#[10]⟩ ++ Y ++ ⟨#[10]⟩ ++ orT Z ⟨#[58]⟩ ++ ⟨#[10]⟩ : ByteArray).data.toList ++ textD (l.drop (k + 1)) = textD l) := Lib.hid (by
        rw [rowT_is, hX, hY, hZ, bytesOf, bytesOf, bytesOf, List.append_assoc, ← HO.out, textD_drop hx])
      rw [← hX] at c0
      rw [← hY] at c1
      rw [← hZ] at c2
      have OR := fun B W h0 h1 => or2s B Z ⟨#[58]⟩ (by decide) W h0 h1
      have h1s : ∀ x, (ByteArray.mk #[x]).size = 1 := fun _ => rfl
      obtain ⟨x0, x1, x2⟩ := box3 wr X Y Z 54
      have hbx : (wr.alloc (.cells #[.string X, .string Y, .string Z] 54)).heap[wr.heap.size]? = some (.cells #[.string X, .string Y, .string Z] 54 (0, 0)) := heap_alloc_new wr _
      have B0 := HB.out.alloc hsz (.cells #[.string X, .string Y, .string Z] 54)
      have HD2 := Lib.hid (HD.out.alloc (.cells #[.string X, .string Y, .string Z] 54))
      have hs := And.intro x0 (And.intro x1 (And.intro x2 B0))
      have hz2 : (wr.alloc (.cells #[.string X, .string Y, .string Z] 54)).heap.size = wr.heap.size + 1 := World.size_alloc _ _
      have HBX := Lib.hid hbx
      generalize orT Z ⟨#[58]⟩ = T at *
      clear hX hY hZ hx hsx x0 x1 x2 B0 HO HC HS hbx HD
      go_wp2
      generalize wr.alloc (.cells #[.string X, .string Y, .string Z] 54) = W2 at *
      obtain ⟨b0, hb0⟩ : ∃ b0, wr.heap.size = b0 := ⟨_, rfl⟩
      rw [hb0] at hs HBX hz2 ⊢
      have HB0 := Lib.hid hb0
      obtain ⟨x0, x1, x2, hB⟩ := hs
      have hs := And.intro x0 (And.intro x1 (And.intro x2 hB))
      have HBD : Hid (Bld w.heap.size bb out W2) := HD2
      have hne : b0 ≠ bb := by omega
      have HZ2 := Lib.hid hz2
      clear hz2
      have WS := fun (V : World) (h : Bld w.heap.size bb out V) (hV : w.heap.size ≤ V.heap.size) => wstr_any w.heap.size bb out (X ++ ⟨#[10]⟩ ++ Y ++ ⟨#[10]⟩ ++ T ++ ⟨#[10]⟩) V h (by omega) (by simp only [ByteArray.size_append, h1s]; omega) hV
      have hB2 := hB.size
      have q1 : ¬ 9223372036854775807 < X.size + 1 := by omega
      have q2 : ¬ 9223372036854775807 < X.size + 1 + Y.size := by omega
      have q3 : ¬ 9223372036854775807 < X.size + 1 + Y.size + 1 := by omega
      have q4 : ¬ 9223372036854775807 < X.size + 1 + Y.size + 1 + T.size := by omega
      have q5 : ¬ 9223372036854775807 < X.size + 1 + Y.size + 1 + T.size + 1 := by omega
      go_region_held3 (fun V => V.cell? ⟨b0, 0, none⟩ = some (.string X) ∧ V.cell? ⟨b0, 1, none⟩ = some (.string Y) ∧ V.cell? ⟨b0, 2, none⟩ = some (.string Z) ∧ Below w.heap.size w V)
        (first | assumption | exact hs | exact s3_dr hs | exact s3_on (by assumption) ((Below.refl _ _).alloc (Nat.le_refl _) _))
        ((first
          | (go_at_call 89; refine (OR _ _ (by simp [World.cell?_alloc_new]) (by simp [World.cell?_alloc_new])).mono ?_; rintro e w3 ⟨rfl, rfl⟩)
          | (go_at_call 42; refine (WS _ (bld_dr (Lib.IsBuilderF.alloc HBD.out _)) (by simp; omega)).mono ?_; rintro e w3 ⟨v3, rfl, hd3, hb3, ho3⟩; have HD3 := Lib.hid hd3; have HB3 := Lib.hid ((hB.alloc hB2 _).drew.trans hb3); have hz3 := hb3.size; have hS3 := s3_after HBX.out hne rfl (by decide) ho3 HB3.out)))
      rename_i hHeld
      have HW3 := Lib.hid hHeld.2.2.2
      clear hHeld hS3 hd3 hb3 ho3
      have hz4 : wr.heap.size < w3.heap.size := by have := HZ2.out; simp at hz3; omega
      clear hz3
      go_wp2
      go_roundw
      case rel => exact ⟨k + 1, _, by omega, by go_num, HO2, HD3, by omega, HW3⟩
      case measure => simp [intOf]; omega
    · obtain rfl : k = n := by omega
      have HE : Hid (out = textD l) := Lib.hid (by have := HO.out; rw [List.drop_of_length_le (by rw [HN.out]; omega)] at this; simpa [textD] using this)
      have BS := bstr_any w.heap.size bb out wr HD.out hsz
      clear hlt HO
      go_wp2_with (go_at_call 43; refine BS.mono ?_; rintro e w3 ⟨rfl, hb3⟩; have HB3 := Lib.hid (HB.out.trans hb3); clear hb3)
      go_ret2
      exact HP.out _ _ (by rw [HE.out]) HB3.out
end Go.Proofs.YtogkickaebmeoaaDoor
