/-
  The program's Text of a version: what it returns; nothing old turns. Condition: LaidV.
-/
import Derived.Test.YtldmlcgdolfidaaDoorVPEpoch
import Derived.Test.YtldmlcgdolfidaaDoorVCompare
namespace Go.Proofs.YtldmlcgdolfidaaDoor
open Go.RowKit Go.Sort
theorem below_grown (w : World) (k : Nat) (os : Array Obj) : Below w.heap.size w (grow (w.drewN k) os) :=
  ⟨rfl, rfl, rfl, by show w.heap.size ≤ (w.heap ++ os).size; rw [Array.size_append]; omega, fun j hj => by show (w.heap ++ os)[j]? = w.heap[j]?; rw [Array.getElem?_append_left hj]⟩
theorem btext_any (n : Int) (h0 : 0 ≤ n) (h1 : n ≤ 9223372036854775807) (w : World) (h : LaidV w) : Calls Tryd.prog 30 #[.int .i64 n] w fun e w' => e = .returned (.string ⟨(Lib.itoa n).toArray⟩) ∧ Below w.heap.size w w' := by
  have C := Tryd.strconv_Itoa n (by omega) h1 w h.pow
  clear h
  go_enter Tryd.func30, Tryd.ntmps30
  go_wp2_with (go_at_call 50; refine C.mono ?_; rintro e w1 ⟨rfl, k, os, rfl⟩)
  go_ret
  exact ⟨rfl, below_grown _ _ _⟩
theorem has_any (s : ByteArray) (c : UInt8) (w : World) : Calls Tryd.prog 29 #[.string s, .string ⟨#[c]⟩] w fun e w' => e = .returned (.bool (decide (c ∈ s.data.toList))) ∧ w = w' :=
  (Tryd.strings_Contains_one s c w).mono fun _ _ h => ⟨by
    rw [h.1]
    congr 3
    have := firstI_neg (c := c) (l := s.data.toList)
    rw [idx_first]
    exact propext ⟨fun g => Decidable.of_not_not fun x => by have := this.2 x; omega, fun g => by by_cases x : firstI c s.data.toList < 0; exact absurd g (this.1 x); omega⟩, h.2.symm⟩
def headP (e : Int) (u : Bs) : Bs := if max e 0 ≠ 0 ∨ (58 : UInt8) ∈ u then Lib.itoa (max e 0) ++ [58] else []
theorem headP_is (e : Int) (u : Bs) : headP e u = headT e u := by
  unfold headP headT
  congr 1
  exact propext ⟨fun h => h.imp (fun g => by omega) id, fun h => h.imp (fun g => by omega) id⟩
set_option maxRecDepth 100000 in
set_option maxHeartbeats 4000000 in
theorem vtext_any (e : Int) (he0 : -9223372036854775808 ≤ e) (he1 : e ≤ 9223372036854775807) (u r : ByteArray) (hu : u.size ≤ 1000) (hr : r.size ≤ 1000) (w : World) (h : LaidV w) :
    Calls Tryd.prog 12 #[.agg #[.int .i64 e, .string u, .string r]] w fun e' w' => e' = .returned (.string ⟨(verText (e, u.data.toList, r.data.toList)).toArray⟩) ∧ Below w.heap.size w w' := by
  have A1 := fun w => has_any u 58 w
  have A2 := fun w => has_any u 45 w
  have T1 := fun (w' : World) (hw : LaidV w') => btext_any (max e 0) (by omega) (by omega) w' hw
  have HL := Lib.hid h
  obtain ⟨I, hI, hIs⟩ : ∃ I : ByteArray, I.data.toList = Lib.itoa (max e 0) ∧ I.size ≤ 20 := ⟨⟨(Lib.itoa (max e 0)).toArray⟩, by simp, by rw [sizeOf, bytesOf]; exact itoa_sz _ (by omega) (by omega)⟩
  rw [← strOf hI] at T1
  obtain ⟨p, hp⟩ : ∃ p, decide ((58 : UInt8) ∈ u.data.toList) = p := ⟨_, rfl⟩
  obtain ⟨q, hq⟩ : ∃ q, decide ((45 : UInt8) ∈ u.data.toList) = q := ⟨_, rfl⟩
  rw [hp] at A1
  rw [hq] at A2
  have HH : Hid (∀ S : ByteArray, ((max e 0 ≠ 0 ∨ p = true) ∧ S = (I ++ ⟨#[58]⟩) ++ u ∨ max e 0 = 0 ∧ p = false ∧ S = u) → S.data.toList = headT e u.data.toList ++ u.data.toList) := Lib.hid (fun S g => by
    rw [← headP_is]
    unfold headP
    rcases g with ⟨g, rfl⟩ | ⟨g1, g2, rfl⟩
    · rw [if_pos (g.imp id fun x => by rw [← hp] at x; exact of_decide_eq_true x), appL, appL, hI]
    · rw [if_neg (fun x => x.elim (fun y => y g1) fun y => by rw [← hp] at g2; exact of_decide_eq_false g2 y)]; simp)
  have HT : Hid (∀ S : ByteArray, S.data.toList = headT e u.data.toList ++ u.data.toList → ∀ R : ByteArray, ((r.data.toList ≠ [48] ∨ q = true) ∧ R = S ++ (⟨#[45]⟩ ++ r) ∨ r.data.toList = [48] ∧ q = false ∧ R = S) → R = ⟨(verText (e, u.data.toList, r.data.toList)).toArray⟩) := Lib.hid (fun S hS R g => by
    refine strOf ?_
    rw [verText_is]
    unfold tailT
    rcases g with ⟨g, rfl⟩ | ⟨g1, g2, rfl⟩
    · rw [if_pos (g.imp id fun x => by rw [← hq] at x; exact of_decide_eq_true x), appL, appL, hS]; simp
    · rw [if_neg (fun x => x.elim (fun y => y g1) fun y => by rw [← hq] at g2; exact of_decide_eq_false g2 y), hS]; simp)
  obtain ⟨RR, HRR⟩ : ∃ RR : ByteArray, Hid (RR = ⟨(verText (e, u.data.toList, r.data.toList)).toArray⟩) := ⟨_, Lib.hid rfl⟩
  rw [← HRR.out]
  have h1s : ∀ x, (ByteArray.mk #[x]).size = 1 := fun _ => rfl
  have hr0 := eqTL r [48]
  have hm0 : 0 ≤ max e 0 := by omega
  have hm1 : max e 0 ≤ 9223372036854775807 := by omega
  clear hI hp hq h
  have HLA : Hid (LaidV (w.alloc (.cells #[.int .i64 e, .string u, .string r] 24))) := Lib.hid (LaidV.al HL _)
  have HBA : Hid (Below w.heap.size w (w.alloc (.cells #[.int .i64 e, .string u, .string r] 24))) := Lib.hid ((Below.refl _ _).alloc (Nat.le_refl _) _)
  have KC : ∀ w2, Below (w.alloc (.cells #[.int .i64 e, .string u, .string r] 24)).heap.size (w.alloc (.cells #[.int .i64 e, .string u, .string r] 24)) w2 → w2.cell? ⟨w.heap.size, 1, none⟩ = some (.string u) ∧ w2.cell? ⟨w.heap.size, 2, none⟩ = some (.string r) := fun w2 hb => by
    have k := (bcells hb).1
    exact ⟨by rw [k _ _ (by simp)]; simp [World.cell?_alloc_new], by rw [k _ _ (by simp)]; simp [World.cell?_alloc_new]⟩
  have HKC := Lib.hid KC
  clear KC HL
  by_cases he : 0 < e
  · have hm : max e 0 = e := by omega
    have hm2 : (max e 0 ≠ 0 ∨ p = true) := .inl (by omega)
    have hmb : (max e 0 != 0) = true := by simp; omega
    have HS := Lib.hid (HH.out ((I ++ ⟨#[58]⟩) ++ u) (.inl ⟨hm2, rfl⟩))
    clear hm hm2
    go_enter Tryd.func12, Tryd.ntmps12
    go_upto_if 16 with fail
    go_cut [3] (fun s3 wx => ∃ S : ByteArray, s3 = .string S ∧ S.size ≤ 1100 ∧ Hid (S.data.toList = headT e u.data.toList ++ u.data.toList) ∧ wx.cell? ⟨w.heap.size, 1, none⟩ = some (.string u) ∧ wx.cell? ⟨w.heap.size, 2, none⟩ = some (.string r) ∧ Hid (Below w.heap.size w wx))
    case first =>
      clear A1 A2
      go_wp2_with (first | (go_at_call 30; refine (T1 _ HLA.out).mono ?_; rintro e1 w1 ⟨rfl, hb⟩; obtain ⟨d1, d2⟩ := HKC.out _ hb; have HB := Lib.hid (fin HBA.out hb); clear hb))
      go_meet
      case rel => exact ⟨_, rfl, by rw [ByteArray.size_append, ByteArray.size_append, h1s]; omega, HS, d1, d2, HB⟩
    case rest =>
      obtain ⟨S, rfl, hS, HS, d1, d2, HB⟩ := hcut
      have HE := Lib.hid (HT.out S HS.out)
      have K3 : (r.data.toList = [48] ∧ q = false) ∨ (r.data.toList = [48] ∧ q = true) ∨ r.data.toList ≠ [48] := by
        by_cases h : r.data.toList = [48]
        · cases q
          · exact .inl ⟨h, rfl⟩
          · exact .inr (.inl ⟨h, rfl⟩)
        · exact .inr (.inr h)
      clear HS HH T1 HT
      rcases K3 with ⟨hr1, hz⟩ | ⟨hr1, hz⟩ | hr1
      · have HF := Lib.hid (HE.out S (.inr ⟨hr1, hz, rfl⟩))
        rw [decide_eq_true hr1] at hr0
        rw [hz] at A2
        clear HE hr1 hz
        go_wp2_with (first | (go_at_call 29; (with_reducible refine (A2 _).mono ?_); rintro e1 w1 ⟨rfl, rfl⟩))
        go_ret
        exact ⟨RT.ret_str (HF.out.trans HRR.out.symm), HB.out⟩
      · have HF := Lib.hid (HE.out (S ++ (⟨#[45]⟩ ++ r)) (.inl ⟨.inr hz, rfl⟩))
        rw [decide_eq_true hr1] at hr0
        rw [hz] at A2
        clear HE hr1 hz
        go_wp2_with (first | (go_at_call 29; (with_reducible refine (A2 _).mono ?_); rintro e1 w1 ⟨rfl, rfl⟩))
        go_ret
        exact ⟨RT.ret_str (HF.out.trans HRR.out.symm), HB.out⟩
      · have HF := Lib.hid (HE.out (S ++ (⟨#[45]⟩ ++ r)) (.inl ⟨.inl hr1, rfl⟩))
        rw [decide_eq_false hr1] at hr0
        clear HE hr1
        go_wp2
        go_ret
        exact ⟨RT.ret_str (HF.out.trans HRR.out.symm), HB.out⟩
  · have hm : max e 0 = 0 := by omega
    simp only [hm] at T1
    clear hm0 hm1
    go_enter Tryd.func12, Tryd.ntmps12
    go_upto_if 16 with (first | (go_at_call 29; (with_reducible refine (A1 _).mono ?_); rintro e1 w1 ⟨rfl, rfl⟩))
    go_cut [3] (fun s3 wx => ∃ S : ByteArray, s3 = .string S ∧ S.size ≤ 1100 ∧ Hid (S.data.toList = headT e u.data.toList ++ u.data.toList) ∧ wx.cell? ⟨w.heap.size, 1, none⟩ = some (.string u) ∧ wx.cell? ⟨w.heap.size, 2, none⟩ = some (.string r) ∧ Hid (Below w.heap.size w wx))
    case first =>
      clear A1 A2
      cases p
      · have HS := Lib.hid (HH.out u (.inr ⟨hm, rfl, rfl⟩))
        obtain ⟨d1, d2⟩ := HKC.out _ (Below.refl _ _)
        clear hm
        go_wp2
        go_meet
        case rel => exact ⟨_, rfl, by omega, HS, d1, d2, HBA⟩
      · have HS := Lib.hid (HH.out ((I ++ ⟨#[58]⟩) ++ u) (.inl ⟨.inr rfl, rfl⟩))
        clear hm
        go_wp2_with (first | (go_at_call 30; refine (T1 _ HLA.out).mono ?_; rintro e1 w1 ⟨rfl, hb⟩; obtain ⟨d1, d2⟩ := HKC.out _ hb; have HB := Lib.hid (fin HBA.out hb); clear hb))
        go_meet
        case rel => exact ⟨_, rfl, by rw [ByteArray.size_append, ByteArray.size_append, h1s]; omega, HS, d1, d2, HB⟩
    case rest =>
      obtain ⟨S, rfl, hS, HS, d1, d2, HB⟩ := hcut
      have HE := Lib.hid (HT.out S HS.out)
      have K3 : (r.data.toList = [48] ∧ q = false) ∨ (r.data.toList = [48] ∧ q = true) ∨ r.data.toList ≠ [48] := by
        by_cases h : r.data.toList = [48]
        · cases q
          · exact .inl ⟨h, rfl⟩
          · exact .inr (.inl ⟨h, rfl⟩)
        · exact .inr (.inr h)
      clear HS HH T1 HT
      rcases K3 with ⟨hr1, hz⟩ | ⟨hr1, hz⟩ | hr1
      · have HF := Lib.hid (HE.out S (.inr ⟨hr1, hz, rfl⟩))
        rw [decide_eq_true hr1] at hr0
        rw [hz] at A2
        clear HE hr1 hz
        go_wp2_with (first | (go_at_call 29; (with_reducible refine (A2 _).mono ?_); rintro e1 w1 ⟨rfl, rfl⟩))
        go_ret
        exact ⟨RT.ret_str (HF.out.trans HRR.out.symm), HB.out⟩
      · have HF := Lib.hid (HE.out (S ++ (⟨#[45]⟩ ++ r)) (.inl ⟨.inr hz, rfl⟩))
        rw [decide_eq_true hr1] at hr0
        rw [hz] at A2
        clear HE hr1 hz
        go_wp2_with (first | (go_at_call 29; (with_reducible refine (A2 _).mono ?_); rintro e1 w1 ⟨rfl, rfl⟩))
        go_ret
        exact ⟨RT.ret_str (HF.out.trans HRR.out.symm), HB.out⟩
      · have HF := Lib.hid (HE.out (S ++ (⟨#[45]⟩ ++ r)) (.inl ⟨.inl hr1, rfl⟩))
        rw [decide_eq_false hr1] at hr0
        clear HE hr1
        go_wp2
        go_ret
        exact ⟨RT.ret_str (HF.out.trans HRR.out.symm), HB.out⟩
end Go.Proofs.YtldmlcgdolfidaaDoor
