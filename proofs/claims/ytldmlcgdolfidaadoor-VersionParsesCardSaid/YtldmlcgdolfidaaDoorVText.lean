/-
  The reference's Text of a version: what it returns; nothing old turns.
-/
import Derived.Test.YtldmlcgdolfidaaDoorVParse
import Derived.Test.YtldmlcgdolfidaaDoorRText
import Derived.Deep.DeepCutAuto
import Derived.Deep.CutRange
namespace Go.Proofs.YtldmlcgdolfidaaDoor
open Go.RowKit
def headT (e : Int) (u : Bs) : Bs := if 0 < e ∨ (58 : UInt8) ∈ u then Lib.itoa (max e 0) ++ [58] else []
def tailT (u r : Bs) : Bs := if r ≠ [48] ∨ (45 : UInt8) ∈ u then 45 :: r else []
theorem verText_is (e : Int) (u r : Bs) : verText (e, u, r) = (headT e u ++ u) ++ tailT u r := by unfold verText headT tailT; simp
theorem itoa_sz (n : Int) (h0 : 0 ≤ n) (h1 : n ≤ 9223372036854775807) : (Lib.itoa n).length ≤ 20 := by
  rw [itoa_nat n h0]
  have := dec_len 19 n.toNat (by omega)
  omega
theorem appL (a b : ByteArray) : (a ++ b).data.toList = a.data.toList ++ b.data.toList := by simp
set_option maxRecDepth 100000 in
set_option maxHeartbeats 4000000 in
theorem vtext_ref (e : Int) (he0 : -9223372036854775808 ≤ e) (he1 : e ≤ 9223372036854775807) (u r : ByteArray) (hu : u.size ≤ 1000) (hr : r.size ≤ 1000) (w : World) :
    Calls Tryd.prog 14 #[.agg #[.int .i64 e, .string u, .string r]] w fun e' w' => e' = .returned (.string ⟨(verText (e, u.data.toList, r.data.toList)).toArray⟩) ∧ Below w.heap.size w w' := by
  have A1 := fun w => atFirst_ref u (by omega) 58 w
  have A2 := fun w => atFirst_ref u (by omega) 45 w
  have T1 := fun w => RT.text_ref (max e 0) (by omega) (by omega) w
  have k1 := firstI_neg (c := 58) (l := u.data.toList)
  have k2 := firstI_neg (c := 45) (l := u.data.toList)
  have b1 := firstI_ge (c := 58) (l := u.data.toList)
  have b2 := firstI_ge (c := 45) (l := u.data.toList)
  have hul := sizeOf u
  obtain ⟨I, hI, hIs⟩ : ∃ I : ByteArray, I.data.toList = Lib.itoa (max e 0) ∧ I.size ≤ 20 := ⟨⟨(Lib.itoa (max e 0)).toArray⟩, by simp, by rw [sizeOf, bytesOf]; exact itoa_sz _ (by omega) (by omega)⟩
  rw [← strOf hI] at T1
  have HH : Hid (∀ S : ByteArray, ((0 < e ∨ ¬ firstI 58 u.data.toList < 0) ∧ S = (I ++ ⟨#[58]⟩) ++ u ∨ ¬ 0 < e ∧ firstI 58 u.data.toList < 0 ∧ S = u) → S.data.toList = headT e u.data.toList ++ u.data.toList) := Lib.hid (fun S h => by
    unfold headT
    rcases h with ⟨h, rfl⟩ | ⟨h1, h2, rfl⟩
    · rw [if_pos (h.imp id fun x => Decidable.of_not_not fun g => x (k1.2 g)), appL, appL, hI]
    · rw [if_neg (fun x => x.elim h1 fun g => k1.1 h2 g)]; simp)
  have HT : Hid (∀ S : ByteArray, S.data.toList = headT e u.data.toList ++ u.data.toList → ∀ R : ByteArray, ((r.data.toList ≠ [48] ∨ ¬ firstI 45 u.data.toList < 0) ∧ R = (S ++ ⟨#[45]⟩) ++ r ∨ ¬ r.data.toList ≠ [48] ∧ firstI 45 u.data.toList < 0 ∧ R = S) → R = ⟨(verText (e, u.data.toList, r.data.toList)).toArray⟩) := Lib.hid (fun S hS R h => by
    refine strOf ?_
    rw [verText_is]
    unfold tailT
    rcases h with ⟨h, rfl⟩ | ⟨h1, h2, rfl⟩
    · rw [if_pos (h.imp id fun x => Decidable.of_not_not fun g => x (k2.2 g)), appL, appL, hS]; simp
    · rw [if_neg (fun x => x.elim h1 fun g => k2.1 h2 g), hS]; simp)
  generalize firstI 58 u.data.toList = z1 at *
  generalize firstI 45 u.data.toList = z2 at *
  have c1 : -1 ≤ z1 ∧ z1 < 2000 := by rcases b1 with h | h <;> omega
  have c2 : -1 ≤ z2 ∧ z2 < 2000 := by rcases b2 with h | h <;> omega
  obtain ⟨c11, c12⟩ := c1
  obtain ⟨c21, c22⟩ := c2
  obtain ⟨RR, HRR⟩ : ∃ RR : ByteArray, Hid (RR = ⟨(verText (e, u.data.toList, r.data.toList)).toArray⟩) := ⟨_, Lib.hid rfl⟩
  rw [← HRR.out]
  have h1s : ∀ x, (ByteArray.mk #[x]).size = 1 := fun _ => rfl
  have hr0 := eqTL r [48]
  clear k1 k2 b1 b2 hul hI
  go_enter Tryd.func14, Tryd.ntmps14
  by_cases he : 0 < e
  · go_upto_if 14 with fail
    go_cut [3] (fun s3 wx => ∃ S : ByteArray, s3 = .string S ∧ S.size ≤ 1100 ∧ Hid (S.data.toList = headT e u.data.toList ++ u.data.toList) ∧ wx = w.alloc (.cells #[.int .i64 e, .string u, .string r] 24))
    case first =>
      clear A1
      have HS := Lib.hid (HH.out ((I ++ ⟨#[58]⟩) ++ u) (.inl ⟨.inl (by omega), rfl⟩))
      go_wp2_with (first | (go_at_call 34; refine (T1 _).mono ?_; rintro e1 w1 ⟨rfl, rfl⟩))
      go_meet
      case rel => exact ⟨_, rfl, by rw [ByteArray.size_append, ByteArray.size_append, h1s]; omega, HS, rfl⟩
    case rest =>
      obtain ⟨S, rfl, hS, HS, rfl⟩ := hcut
      have HE := Lib.hid (HT.out S HS.out)
      have K3 : (r.data.toList = [48] ∧ z2 < 0) ∨ (r.data.toList = [48] ∧ ¬ z2 < 0) ∨ r.data.toList ≠ [48] := by
        by_cases h : r.data.toList = [48]
        · by_cases g : z2 < 0
          · exact .inl ⟨h, g⟩
          · exact .inr (.inl ⟨h, g⟩)
        · exact .inr (.inr h)
      clear HS HH T1 HT he
      rcases K3 with ⟨hr1, hz⟩ | ⟨hr1, hz⟩ | hr1
      · have HF := Lib.hid (HE.out S (.inr ⟨by simp [hr1], hz, rfl⟩))
        rw [decide_eq_true hr1] at hr0
        clear HE hr1
        go_wp2_with (first | (go_at_call 26; refine (A2 _).mono ?_; rintro e1 w1 ⟨rfl, rfl⟩))
        go_ret
        exact ⟨RT.ret_str (HF.out.trans HRR.out.symm), (Below.refl _ _).alloc (Nat.le_refl _) _⟩
      · have HF := Lib.hid (HE.out ((S ++ ⟨#[45]⟩) ++ r) (.inl ⟨.inr (by omega), rfl⟩))
        rw [decide_eq_true hr1] at hr0
        clear HE hr1
        go_wp2_with (first | (go_at_call 26; refine (A2 _).mono ?_; rintro e1 w1 ⟨rfl, rfl⟩))
        go_ret
        exact ⟨RT.ret_str (HF.out.trans HRR.out.symm), (Below.refl _ _).alloc (Nat.le_refl _) _⟩
      · have HF := Lib.hid (HE.out ((S ++ ⟨#[45]⟩) ++ r) (.inl ⟨.inl (by simpa using hr1), rfl⟩))
        rw [decide_eq_false hr1] at hr0
        clear HE hr1
        go_wp2
        go_ret
        exact ⟨RT.ret_str (HF.out.trans HRR.out.symm), (Below.refl _ _).alloc (Nat.le_refl _) _⟩
  · go_upto_if 14 with (first | (go_at_call 26; refine (A1 _).mono ?_; rintro e1 w1 ⟨rfl, rfl⟩))
    go_cut [3] (fun s3 wx => ∃ S : ByteArray, s3 = .string S ∧ S.size ≤ 1100 ∧ Hid (S.data.toList = headT e u.data.toList ++ u.data.toList) ∧ wx = w.alloc (.cells #[.int .i64 e, .string u, .string r] 24))
    case first =>
      clear A1
      by_cases hz : z1 < 0
      · have HS := Lib.hid (HH.out u (.inr ⟨by omega, hz, rfl⟩))
        go_wp2
        go_meet
        case rel => exact ⟨_, rfl, by omega, HS, rfl⟩
      · have HS := Lib.hid (HH.out ((I ++ ⟨#[58]⟩) ++ u) (.inl ⟨.inr (by omega), rfl⟩))
        go_wp2_with (first | (go_at_call 34; refine (T1 _).mono ?_; rintro e1 w1 ⟨rfl, rfl⟩))
        go_meet
        case rel => exact ⟨_, rfl, by rw [ByteArray.size_append, ByteArray.size_append, h1s]; omega, HS, rfl⟩
    case rest =>
      obtain ⟨S, rfl, hS, HS, rfl⟩ := hcut
      have HE := Lib.hid (HT.out S HS.out)
      have K3 : (r.data.toList = [48] ∧ z2 < 0) ∨ (r.data.toList = [48] ∧ ¬ z2 < 0) ∨ r.data.toList ≠ [48] := by
        by_cases h : r.data.toList = [48]
        · by_cases g : z2 < 0
          · exact .inl ⟨h, g⟩
          · exact .inr (.inl ⟨h, g⟩)
        · exact .inr (.inr h)
      clear HS HH T1 HT he
      rcases K3 with ⟨hr1, hz⟩ | ⟨hr1, hz⟩ | hr1
      · have HF := Lib.hid (HE.out S (.inr ⟨by simp [hr1], hz, rfl⟩))
        rw [decide_eq_true hr1] at hr0
        clear HE hr1
        go_wp2_with (first | (go_at_call 26; refine (A2 _).mono ?_; rintro e1 w1 ⟨rfl, rfl⟩))
        go_ret
        exact ⟨RT.ret_str (HF.out.trans HRR.out.symm), (Below.refl _ _).alloc (Nat.le_refl _) _⟩
      · have HF := Lib.hid (HE.out ((S ++ ⟨#[45]⟩) ++ r) (.inl ⟨.inr (by omega), rfl⟩))
        rw [decide_eq_true hr1] at hr0
        clear HE hr1
        go_wp2_with (first | (go_at_call 26; refine (A2 _).mono ?_; rintro e1 w1 ⟨rfl, rfl⟩))
        go_ret
        exact ⟨RT.ret_str (HF.out.trans HRR.out.symm), (Below.refl _ _).alloc (Nat.le_refl _) _⟩
      · have HF := Lib.hid (HE.out ((S ++ ⟨#[45]⟩) ++ r) (.inl ⟨.inl (by simpa using hr1), rfl⟩))
        rw [decide_eq_false hr1] at hr0
        clear HE hr1
        go_wp2
        go_ret
        exact ⟨RT.ret_str (HF.out.trans HRR.out.symm), (Below.refl _ _).alloc (Nat.le_refl _) _⟩
end Go.Proofs.YtldmlcgdolfidaaDoor
