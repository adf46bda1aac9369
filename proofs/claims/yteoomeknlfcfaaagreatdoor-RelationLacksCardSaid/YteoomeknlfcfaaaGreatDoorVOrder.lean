/-
  The reference's Order: what it returns; of the world nothing turns but draws.
-/
import Derived.Test.YteoomeknlfcfaaaGreatDoorVPiece
namespace Go.Proofs.YteoomeknlfcfaaaGreatDoor
open Go.RowKit
theorem noughts_le (l : Bs) : (noughts l).length ≤ l.length := (List.dropWhile_sublist _).length_le
theorem piece_ref' (s : ByteArray) (hs : s.size ≤ 100000) : ∃ P N X : ByteArray, P.data.toList = nonD s.data.toList ∧ N.data.toList = noughts (digs s.data.toList) ∧ X.data.toList = rest s.data.toList ∧
    P.size ≤ s.size ∧ N.size ≤ s.size ∧ X.size ≤ s.size ∧ (0 < s.size → X.size < s.size) ∧ ∀ w, Calls Tryz.prog 109 #[.string s] w fun e w' => e = .returned (.tuple #[.string P, .string N, .string X]) ∧ ∃ q, w' = w.drewN q := by
  have h1 := nonD_le s.data.toList
  have h2 := digs_le s.data.toList
  have h3 := noughts_le (digs s.data.toList)
  have h4 := rest_le s.data.toList
  have h5 := rest_lt s.data.toList
  have hl := sizeOf s
  refine ⟨⟨(nonD s.data.toList).toArray⟩, ⟨(noughts (digs s.data.toList)).toArray⟩, ⟨(rest s.data.toList).toArray⟩, by simp, by simp, by simp, by rw [sizeOf, bytesOf]; omega, by rw [sizeOf, bytesOf]; omega, by rw [sizeOf, bytesOf]; omega, ?_, fun w => piece_ref s hs w⟩
  intro h0
  have := h5 (fun e => by rw [e, List.length_nil] at hl; omega)
  rw [sizeOf, bytesOf]; omega
set_option maxHeartbeats 4000000 in
theorem order_ref (a b : ByteArray) (ha : a.size ≤ 100000) (hb : b.size ≤ 100000) (w : World) : Calls Tryz.prog 91 #[.string a, .string b] w fun e w' => e = .returned (.int .i64 (order a.data.toList b.data.toList)) ∧ ∃ q, w' = w.drewN q := by
  obtain ⟨R, HR⟩ : ∃ R, Hid (order a.data.toList b.data.toList = R) := ⟨_, rfl⟩
  rw [HR.out]
  go_enter Tryz.func91, Tryz.ntmps91
  go_wp2
  go_loopw [0, 1] (fun x y wr => ∃ A B : ByteArray, x = .string A ∧ y = .string B ∧ A.size ≤ 100000 ∧ B.size ≤ 100000 ∧ Hid (order A.data.toList B.data.toList = R) ∧ Hid (∃ q, wr = w.drewN q)) (fun x y _ => (match x with | .string S => S.size | _ => 0) + (match y with | .string S => S.size | _ => 0))
  case atStart => exact ⟨a, b, rfl, rfl, ha, hb, HR, Lib.hid ⟨0, rfl⟩⟩
  case round =>
    obtain ⟨A, B, rfl, rfl, hA, hB, H, HQ⟩ := hrel
    clear HR ha hb
    by_cases he : A.size = 0 ∧ B.size = 0
    · obtain ⟨h1, h2⟩ := he
      have e1 : A.toList.isEmpty = true := by rw [emptyT, decide_eq_true h1]
      have e2 : B.toList.isEmpty = true := by rw [emptyT, decide_eq_true h2]
      have HZ : Hid (R = 0) := Lib.hid (by
        have h := H.out
        rw [sizeOf] at h1 h2
        rw [List.eq_nil_of_length_eq_zero h1, List.eq_nil_of_length_eq_zero h2] at h
        rw [← h]; exact order_end)
      clear h1 h2 H
      go_wp2
      go_ret
      exact ⟨reti HZ.out.symm, HQ.out⟩
    · obtain ⟨P1, N1, X1, p1, n1, x1, sp1, sn1, sx1, lx1, C1⟩ := piece_ref' A hA
      obtain ⟨P2, N2, X2, p2, n2, x2, sp2, sn2, sx2, lx2, C2⟩ := piece_ref' B hB
      have hn := order_next A.data.toList B.data.toList
      rw [H.out, ← p1, ← p2, ← n1, ← n2, ← x1, ← x2] at hn
      have hm : X1.size + X2.size < A.size + B.size := by
        by_cases h : 0 < A.size
        · have := lx1 h; omega
        · have := lx2 (by omega); omega
      have HE : Hid ((A.toList.isEmpty = false ∧ B.toList.isEmpty = false) ∨ (A.toList.isEmpty = false ∧ B.toList.isEmpty = true) ∨ (A.toList.isEmpty = true ∧ B.toList.isEmpty = false)) := Lib.hid (by
        rw [emptyT, emptyT]
        by_cases h1 : A.size = 0
        · have h2 : ¬ B.size = 0 := fun h2 => he ⟨h1, h2⟩
          right; right; simp [h1, h2]
        · by_cases h2 : B.size = 0
          · right; left; simp [h1, h2]
          · left; simp [h1, h2])
      have W := fun w => words_ref P1 P2 (by omega) (by omega) w
      have M := fun w => numbers_ref N1 N2 w
      have vw := wcmp_good.vals P1.data.toList P2.data.toList
      have vn := ncmp_good.vals N1.data.toList N2.data.toList
      generalize wcmp P1.data.toList P2.data.toList = c at *
      generalize ncmp N1.data.toList N2.data.toList = d at *
      have HN := Lib.hid hn
      clear hn he p1 p2 n1 n2 x1 x2 lx1 lx2 H
      have hb1 : -1 ≤ c ∧ c ≤ 1 := by omega
      have hb2 : -1 ≤ d ∧ d ≤ 1 := by omega
      clear vw vn
      obtain ⟨hc1, hc2⟩ := hb1
      obtain ⟨hd1, hd2⟩ := hb2
      by_cases hc : c = 0
      · subst hc
        by_cases hd : d = 0
        · subst hd
          have G : Hid (order X1.data.toList X2.data.toList = R) := Lib.hid (by have h := HN.out; simpa using h.symm)
          clear HN
          rcases HE.out with ⟨e1, e2⟩ | ⟨e1, e2⟩ | ⟨e1, e2⟩ <;> clear HE
          all_goals
            go_wp2_with fail
            refine (C1 _).mono ?_
            rintro e w1 ⟨rfl, q1, rfl⟩
            go_wp2_with fail
            refine (C2 _).mono ?_
            rintro e w1 ⟨rfl, q2, rfl⟩
            go_wp2_with (first | (go_at_call 110; refine (W _).mono ?_; rintro e w1 ⟨rfl, rfl⟩) | (go_at_call 111; refine (M _).mono ?_; rintro e w1 ⟨rfl, rfl⟩))
            go_roundw
            case rel => exact ⟨X1, X2, rfl, rfl, by omega, by omega, G, Lib.hid (by obtain ⟨q, hq⟩ := HQ.out; exact ⟨q + (q1 + q2), by rw [hq]; simp [World.drewN_drewN]⟩)⟩
            case measure => simp only []; omega
        · have hd' : (d != 0) = true := by simpa using hd
          have G : Hid (d = R) := Lib.hid (by have h := HN.out; simp [hd] at h; exact h.symm)
          clear HN
          rcases HE.out with ⟨e1, e2⟩ | ⟨e1, e2⟩ | ⟨e1, e2⟩ <;> clear HE
          all_goals
            go_wp2_with fail
            refine (C1 _).mono ?_
            rintro e w1 ⟨rfl, q1, rfl⟩
            go_wp2_with fail
            refine (C2 _).mono ?_
            rintro e w1 ⟨rfl, q2, rfl⟩
            go_wp2_with (first | (go_at_call 110; refine (W _).mono ?_; rintro e w1 ⟨rfl, rfl⟩) | (go_at_call 111; refine (M _).mono ?_; rintro e w1 ⟨rfl, rfl⟩))
            go_ret
            exact ⟨reti G.out, by obtain ⟨q, hq⟩ := HQ.out; exact ⟨q + (q1 + q2), by rw [hq]; simp [World.drewN_drewN]⟩⟩
      · have hc' : (c != 0) = true := by simpa using hc
        have G : Hid (c = R) := Lib.hid (by have h := HN.out; simp [hc] at h; exact h.symm)
        clear HN
        rcases HE.out with ⟨e1, e2⟩ | ⟨e1, e2⟩ | ⟨e1, e2⟩ <;> clear HE
        all_goals
          go_wp2_with fail
          refine (C1 _).mono ?_
          rintro e w1 ⟨rfl, q1, rfl⟩
          go_wp2_with fail
          refine (C2 _).mono ?_
          rintro e w1 ⟨rfl, q2, rfl⟩
          go_wp2_with (first | (go_at_call 110; refine (W _).mono ?_; rintro e w1 ⟨rfl, rfl⟩) | (go_at_call 111; refine (M _).mono ?_; rintro e w1 ⟨rfl, rfl⟩))
          go_ret
          exact ⟨reti G.out, by obtain ⟨q, hq⟩ := HQ.out; exact ⟨q + (q1 + q2), by rw [hq]; simp [World.drewN_drewN]⟩⟩
end Go.Proofs.YteoomeknlfcfaaaGreatDoor
