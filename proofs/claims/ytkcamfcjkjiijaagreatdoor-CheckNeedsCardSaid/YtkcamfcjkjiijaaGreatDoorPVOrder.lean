/-
  The reference's Order: what it returns; of the world nothing turns but draws.
-/
import Derived.Test.YtkcamfcjkjiijaaGreatDoorPVRefB
namespace Go.Proofs.YtkcamfcjkjiijaaGreatDoor
open Go.RowKit
theorem tw_lt {α : Type} {p : α → Bool} {l : List α} {k : Nat} (h : k < (l.takeWhile p).length) : ∃ hk : k < l.length, p l[k] = true := by
  have h1 := takeWhile_le p l
  refine ⟨by omega, ?_⟩
  have h2 := List.all_eq_true.1 (List.all_takeWhile (p := p) (l := l)) _ (List.getElem_mem h)
  have h3 : (l.takeWhile p)[k] = l[k] := (List.takeWhile_prefix p).getElem h
  rwa [h3] at h2
theorem tw_end {α : Type} {p : α → Bool} : ∀ {l : List α} (h : (l.takeWhile p).length < l.length), p l[(l.takeWhile p).length] = false
  | [], h => absurd h (by simp)
  | x :: l, h => by
    cases hx : p x
    · simp [hx]
    · have h' : (l.takeWhile p).length < l.length := by simpa [hx] using h
      have := tw_end h'
      simpa [hx] using this
theorem tw_take {α : Type} (p : α → Bool) (l : List α) : l.take (l.takeWhile p).length = l.takeWhile p := (List.prefix_iff_eq_take.1 (List.takeWhile_prefix p)).symm
theorem nd_lt (s : ByteArray) (k : Nat) (h : k < (nonD s.data.toList).length) : ∃ hk : k < s.size, dgB s[k] = false := by
  obtain ⟨hk, hp⟩ := tw_lt h
  refine ⟨by rw [sizeOf]; exact hk, ?_⟩
  have hp' : (!dgB (s[k]'(by rw [sizeOf]; exact hk))) = true := hp
  simpa using hp'
theorem nd_at (s : ByteArray) (k : Nat) (hk : k < s.size) (e : k = (nonD s.data.toList).length) : dgB s[k] = true := by
  subst e
  have hp : (!dgB (s[(nonD s.data.toList).length]'hk)) = false := tw_end (p := fun c => !dgB c) (l := s.data.toList) (by rw [← sizeOf]; exact hk)
  simpa using hp
theorem dg_lt (s : ByteArray) (k : Nat) (h1 : (nonD s.data.toList).length ≤ k) (h2 : k < (nonD s.data.toList).length + (digs s.data.toList).length) : ∃ hk : k < s.size, dgB s[k] = true := by
  have hle := digs_le s.data.toList
  have hk : k < s.size := by rw [sizeOf]; omega
  refine ⟨hk, ?_⟩
  obtain ⟨hk', hp⟩ := tw_lt (p := dgB) (l := s.data.toList.drop (nonD s.data.toList).length) (k := k - (nonD s.data.toList).length) (by unfold digs at h2; omega)
  rw [List.getElem_drop] at hp
  have e : (nonD s.data.toList).length + (k - (nonD s.data.toList).length) = k := by omega
  simp only [e] at hp
  exact hp
theorem dg_at (s : ByteArray) (k : Nat) (hk : k < s.size) (e : k = (nonD s.data.toList).length + (digs s.data.toList).length) : dgB s[k] = false := by
  subst e
  have hl := sizeOf s
  have := tw_end (p := dgB) (l := s.data.toList.drop (nonD s.data.toList).length) (by rw [List.length_drop]; unfold digs at hk; omega)
  rw [List.getElem_drop] at this
  exact this
theorem noughts_yes {s : ByteArray} (h : 0 < s.size) (e : s[0] = 48) : noughts s.data.toList = noughts (s.extract 1 s.size).data.toList := by
  rw [extL, List.take_of_length_le (by rw [List.length_drop, sizeOf]; omega)]
  have := dropC s 0 h
  rw [List.drop_zero] at this
  rw [this, e]; simp [noughts]
theorem noughts_no {s : ByteArray} (h : 0 < s.size) (e : ¬ s[0] = 48) : noughts s.data.toList = s.data.toList := by
  have := dropC s 0 h
  rw [List.drop_zero] at this
  rw [this]; simp [noughts, e]
theorem noughts_nil {s : ByteArray} (h : s.size = 0) : noughts s.data.toList = s.data.toList := by
  rw [sizeOf] at h
  rw [List.eq_nil_of_length_eq_zero h]; rfl
theorem ext_nonD (s : ByteArray) : (s.extract 0 (nonD s.data.toList).length).data.toList = nonD s.data.toList := by
  rw [extL, List.drop_zero, Nat.sub_zero]; exact tw_take _ _
theorem ext_digs (s : ByteArray) : (s.extract (nonD s.data.toList).length ((nonD s.data.toList).length + (digs s.data.toList).length)).data.toList = digs s.data.toList := by
  rw [extL, Nat.add_sub_cancel_left]; exact tw_take _ _
theorem ext_rest (s : ByteArray) : (s.extract ((nonD s.data.toList).length + (digs s.data.toList).length) s.size).data.toList = rest s.data.toList := by
  rw [extL, List.take_of_length_le (by rw [List.length_drop, sizeOf]; omega)]; rfl
def pieceV (s : ByteArray) : Value := .tuple #[.string ⟨(nonD s.data.toList).toArray⟩, .string ⟨(noughts (digs s.data.toList)).toArray⟩, .string ⟨(rest s.data.toList).toArray⟩]
def PiecePost (s : ByteArray) (w : World) (e : Ending) (w' : World) : Prop := e = .returned (pieceV s) ∧ ∃ q, w' = w.drewN q
set_option maxHeartbeats 4000000 in
theorem piece_ref (s : ByteArray) (hs : s.size ≤ 100000) (w : World) : Calls Tryz.prog 151 #[.string s] w (PiecePost s w) := by
  have C := fun c w => digit_ref c w
  have hle := digs_le s.data.toList
  rw [← sizeOf] at hle
  have N1 := Lib.hid (nd_lt s)
  have N2 := Lib.hid (nd_at s)
  have N3 := Lib.hid (dg_lt s)
  have N4 := Lib.hid (dg_at s)
  have N5 := Lib.hid (And.intro (ext_nonD s) (And.intro (ext_digs s) (ext_rest s)))
  obtain ⟨R, HR⟩ : ∃ R, Hid (pieceV s = R) := ⟨_, rfl⟩
  have HP : Hid (∀ e w', PiecePost s w e w' ↔ e = .returned R ∧ ∃ q, w' = w.drewN q) := Lib.hid (fun e w' => by unfold PiecePost; rw [HR.out])
  refine Calls.mono (R := fun e w' => e = .returned R ∧ ∃ q, w' = w.drewN q) ?_ (fun e w' h => (HP.out e w').2 h)
  unfold pieceV at HR
  generalize hnd : (nonD s.data.toList).length = nd at *
  generalize hdg : (digs s.data.toList).length = dg at *
  clear hnd hdg HP
  go_enter Tryz.func151, Tryz.ntmps151
  go_wp2
  go_loop [5] (fun i => ∃ k : Nat, k ≤ nd ∧ i = .int .i64 k) (fun i => nd - (intOf i).toNat)
  case atStart => exact ⟨0, by omega, rfl⟩
  case round =>
    obtain ⟨k, hk, rfl⟩ := hrel
    by_cases hlt : k < nd
    · obtain ⟨hks, hd⟩ := N1.out k hlt
      have D := C s[k]
      rw [hd] at D
      have hx := s[k].toNat_lt
      clear hd
      go_wp2_with (go_at_call 128; refine (D _).mono ?_; rintro e w1 ⟨rfl, rfl⟩)
      go_round
      case rel => exact ⟨k + 1, by omega, by go_num⟩
      case measure => simp [intOf]; omega
    · obtain rfl : k = nd := by omega
      clear hlt
      by_cases hks : k < s.size
      case' pos =>
        have hd := N2.out k hks rfl
        have D := C s[k]
        rw [hd] at D
        have hx := s[k].toNat_lt
        clear hd
        go_wp2_with (go_at_call 128; refine (D _).mono ?_; rintro e w1 ⟨rfl, rfl⟩)
        clear D
      case' neg =>
        go_wp2
      all_goals
        go_loop [6] (fun i => ∃ j : Nat, k ≤ j ∧ j ≤ k + dg ∧ i = .int .i64 j) (fun i => k + dg - (intOf i).toNat)
        case atStart => exact ⟨k, by omega, by omega, rfl⟩
        case round =>
          obtain ⟨j, hj1, hj2, rfl⟩ := hrel
          by_cases hjl : j < k + dg
          · obtain ⟨hjs, hd⟩ := N3.out j hj1 hjl
            have D := C s[j]
            rw [hd] at D
            have hx := s[j].toNat_lt
            clear hd
            go_wp2_with (go_at_call 128; refine (D _).mono ?_; rintro e w1 ⟨rfl, rfl⟩)
            go_round
            case rel => exact ⟨j + 1, by omega, by omega, by go_num⟩
            case measure => simp [intOf]; omega
          · obtain rfl : j = k + dg := by omega
            clear hjl hj1 hj2
            by_cases hjs : k + dg < s.size
            case' pos =>
              have hd := N4.out _ hjs rfl
              have D := C s[k + dg]
              rw [hd] at D
              have hx := s[k + dg].toNat_lt
              clear hd
              go_wp2_with (go_at_call 128; refine (D _).mono ?_; rintro e w1 ⟨rfl, rfl⟩)
              try clear D
            case' neg =>
              go_wp2
            all_goals
              go_loop [7] (fun v => ∃ S : ByteArray, v = .string S ∧ S.size ≤ 100000 ∧ Hid (noughts S.data.toList = noughts (digs s.data.toList))) (fun v => match v with | .string S => S.size | _ => 0)
              case atStart => exact ⟨_, rfl, by rw [ByteArray.size_extract]; omega, Lib.hid (by rw [N5.out.2.1])⟩
              case round =>
                obtain ⟨S, rfl, hS, H⟩ := hrel
                have fin : noughts S.data.toList = S.data.toList → Hid (Ending.returned (.tuple #[.string (s.extract 0 k), .string S, .string (s.extract (k + dg) s.size)]) = Ending.returned R) := fun hn => Lib.hid (by
                  rw [← HR.out, strOf (N5.out.1), strOf (N5.out.2.2), strOf (x := S) (l := noughts (digs s.data.toList)) (by rw [← H.out, hn])])
                by_cases h0 : 0 < S.size
                · by_cases e : S[0] = 48
                  · have h1 : ((S[0].toNat : Int) == 48) = true := by rw [e]; rfl
                    have HN : Hid (noughts (S.extract 1 S.size).data.toList = noughts (digs s.data.toList)) := Lib.hid (by rw [← noughts_yes h0 e]; exact H.out)
                    clear e fin
                    go_wp2
                    go_round
                    case rel => exact ⟨_, rfl, by rw [ByteArray.size_extract]; omega, HN⟩
                    case measure => simp only [ByteArray.size_extract]; omega
                  · have h1 : ((S[0].toNat : Int) == 48) = false := by
                      rw [beq_eq_false_iff_ne]; intro g; exact e (UInt8.toNat_inj.1 (by show S[0].toNat = 48; omega))
                    have F := fin (noughts_no h0 e)
                    clear e fin
                    go_wp2
                    go_quiet (fail)
                    go_wp2
                    go_ret3
                    exact ⟨F.out, _, rfl⟩
                · have F := fin (noughts_nil (by omega))
                  clear fin
                  go_wp2
                  go_quiet (fail)
                  go_wp2
                  go_ret3
                  exact ⟨F.out, _, rfl⟩
end Go.Proofs.YtkcamfcjkjiijaaGreatDoor
namespace Go.Proofs.YtkcamfcjkjiijaaGreatDoor
open Go.RowKit
theorem noughts_le (l : Bs) : (noughts l).length ≤ l.length := (List.dropWhile_sublist _).length_le
theorem piece_ref' (s : ByteArray) (hs : s.size ≤ 100000) : ∃ P N X : ByteArray, P.data.toList = nonD s.data.toList ∧ N.data.toList = noughts (digs s.data.toList) ∧ X.data.toList = rest s.data.toList ∧
    P.size ≤ s.size ∧ N.size ≤ s.size ∧ X.size ≤ s.size ∧ (0 < s.size → X.size < s.size) ∧ ∀ w, Calls Tryz.prog 151 #[.string s] w fun e w' => e = .returned (.tuple #[.string P, .string N, .string X]) ∧ ∃ q, w' = w.drewN q := by
  have h1 := nonD_le s.data.toList
  have h2 := digs_le s.data.toList
  have h3 := noughts_le (digs s.data.toList)
  have h4 := rest_le s.data.toList
  have h5 := rest_lt s.data.toList
  have hl := sizeOf s
  refine ⟨⟨(nonD s.data.toList).toArray⟩, ⟨(noughts (digs s.data.toList)).toArray⟩, ⟨(rest s.data.toList).toArray⟩, by simp, by simp, by simp, by rw [sizeOf, bytesOf]; omega, by rw [sizeOf, bytesOf]; omega, by rw [sizeOf, bytesOf]; omega, ?_, fun w => piece_ref s hs w⟩
  intro h0
  have := h5 (fun e => by rw [e, List.length_nil] at hl; omega)
  rw [sizeOf, bytesOf]; omega
set_option maxHeartbeats 4000000 in
theorem order_ref (a b : ByteArray) (ha : a.size ≤ 100000) (hb : b.size ≤ 100000) (w : World) : Calls Tryz.prog 130 #[.string a, .string b] w fun e w' => e = .returned (.int .i64 (order a.data.toList b.data.toList)) ∧ ∃ q, w' = w.drewN q := by
  obtain ⟨R, HR⟩ : ∃ R, Hid (order a.data.toList b.data.toList = R) := ⟨_, rfl⟩
  rw [HR.out]
  go_enter Tryz.func130, Tryz.ntmps130
  go_wp2
  go_loopw [0, 1] (fun x y wr => ∃ A B : ByteArray, x = .string A ∧ y = .string B ∧ A.size ≤ 100000 ∧ B.size ≤ 100000 ∧ Hid (order A.data.toList B.data.toList = R) ∧ Hid (∃ q, wr = w.drewN q)) (fun x y _ => (match x with | .string S => S.size | _ => 0) + (match y with | .string S => S.size | _ => 0))
  case atStart => exact ⟨a, b, rfl, rfl, ha, hb, HR, Lib.hid ⟨0, rfl⟩⟩
  case round =>
    obtain ⟨A, B, rfl, rfl, hA, hB, H, HQ⟩ := hrel
    clear HR ha hb
    by_cases he : A.size = 0 ∧ B.size = 0
    · obtain ⟨h1, h2⟩ := he
      have e1 : A.toList.isEmpty = true := by rw [emptyT, decide_eq_true h1]
      have e2 : B.toList.isEmpty = true := by rw [emptyT, decide_eq_true h2]
      have HZ : Hid (R = 0) := Lib.hid (by
        have h := H.out
        rw [sizeOf] at h1 h2
        rw [List.eq_nil_of_length_eq_zero h1, List.eq_nil_of_length_eq_zero h2] at h
        rw [← h]; exact order_end)
      clear h1 h2 H
      go_wp2
      go_ret
      exact ⟨reti HZ.out.symm, HQ.out⟩
    · obtain ⟨P1, N1, X1, p1, n1, x1, sp1, sn1, sx1, lx1, C1⟩ := piece_ref' A hA
      obtain ⟨P2, N2, X2, p2, n2, x2, sp2, sn2, sx2, lx2, C2⟩ := piece_ref' B hB
      have hn := order_next A.data.toList B.data.toList
      rw [H.out, ← p1, ← p2, ← n1, ← n2, ← x1, ← x2] at hn
      have hm : X1.size + X2.size < A.size + B.size := by
        by_cases h : 0 < A.size
        · have := lx1 h; omega
        · have := lx2 (by omega); omega
      have HE : Hid ((A.toList.isEmpty = false ∧ B.toList.isEmpty = false) ∨ (A.toList.isEmpty = false ∧ B.toList.isEmpty = true) ∨ (A.toList.isEmpty = true ∧ B.toList.isEmpty = false)) := Lib.hid (by
        rw [emptyT, emptyT]
        by_cases h1 : A.size = 0
        · have h2 : ¬ B.size = 0 := fun h2 => he ⟨h1, h2⟩
          right; right; simp [h1, h2]
        · by_cases h2 : B.size = 0
          · right; left; simp [h1, h2]
          · left; simp [h1, h2])
      have W := fun w => words_ref P1 P2 (by omega) (by omega) w
      have M := fun w => numbers_ref N1 N2 w
      have vw := wcmp_good.vals P1.data.toList P2.data.toList
      have vn := ncmp_good.vals N1.data.toList N2.data.toList
      generalize wcmp P1.data.toList P2.data.toList = c at *
      generalize ncmp N1.data.toList N2.data.toList = d at *
      have HN := Lib.hid hn
      clear hn he p1 p2 n1 n2 x1 x2 lx1 lx2 H
      have hb1 : -1 ≤ c ∧ c ≤ 1 := by omega
      have hb2 : -1 ≤ d ∧ d ≤ 1 := by omega
      clear vw vn
      obtain ⟨hc1, hc2⟩ := hb1
      obtain ⟨hd1, hd2⟩ := hb2
      by_cases hc : c = 0
      · subst hc
        by_cases hd : d = 0
        · subst hd
          have G : Hid (order X1.data.toList X2.data.toList = R) := Lib.hid (by have h := HN.out; simpa using h.symm)
          clear HN
          rcases HE.out with ⟨e1, e2⟩ | ⟨e1, e2⟩ | ⟨e1, e2⟩ <;> clear HE
          all_goals
            go_wp2_with fail
            refine (C1 _).mono ?_
            rintro e w1 ⟨rfl, q1, rfl⟩
            go_wp2_with fail
            refine (C2 _).mono ?_
            rintro e w1 ⟨rfl, q2, rfl⟩
            go_wp2_with (first | (go_at_call 152; refine (W _).mono ?_; rintro e w1 ⟨rfl, rfl⟩) | (go_at_call 153; refine (M _).mono ?_; rintro e w1 ⟨rfl, rfl⟩))
            go_roundw
            case rel => exact ⟨X1, X2, rfl, rfl, by omega, by omega, G, Lib.hid (by obtain ⟨q, hq⟩ := HQ.out; exact ⟨q + (q1 + q2), by rw [hq]; simp [World.drewN_drewN]⟩)⟩
            case measure => simp only []; omega
        · have hd' : (d != 0) = true := by simpa using hd
          have G : Hid (d = R) := Lib.hid (by have h := HN.out; simp [hd] at h; exact h.symm)
          clear HN
          rcases HE.out with ⟨e1, e2⟩ | ⟨e1, e2⟩ | ⟨e1, e2⟩ <;> clear HE
          all_goals
            go_wp2_with fail
            refine (C1 _).mono ?_
            rintro e w1 ⟨rfl, q1, rfl⟩
            go_wp2_with fail
            refine (C2 _).mono ?_
            rintro e w1 ⟨rfl, q2, rfl⟩
            go_wp2_with (first | (go_at_call 152; refine (W _).mono ?_; rintro e w1 ⟨rfl, rfl⟩) | (go_at_call 153; refine (M _).mono ?_; rintro e w1 ⟨rfl, rfl⟩))
            go_ret
            exact ⟨reti G.out, by obtain ⟨q, hq⟩ := HQ.out; exact ⟨q + (q1 + q2), by rw [hq]; simp [World.drewN_drewN]⟩⟩
      · have hc' : (c != 0) = true := by simpa using hc
        have G : Hid (c = R) := Lib.hid (by have h := HN.out; simp [hc] at h; exact h.symm)
        clear HN
        rcases HE.out with ⟨e1, e2⟩ | ⟨e1, e2⟩ | ⟨e1, e2⟩ <;> clear HE
        all_goals
          go_wp2_with fail
          refine (C1 _).mono ?_
          rintro e w1 ⟨rfl, q1, rfl⟩
          go_wp2_with fail
          refine (C2 _).mono ?_
          rintro e w1 ⟨rfl, q2, rfl⟩
          go_wp2_with (first | (go_at_call 152; refine (W _).mono ?_; rintro e w1 ⟨rfl, rfl⟩) | (go_at_call 153; refine (M _).mono ?_; rintro e w1 ⟨rfl, rfl⟩))
          go_ret
          exact ⟨reti G.out, by obtain ⟨q, hq⟩ := HQ.out; exact ⟨q + (q1 + q2), by rw [hq]; simp [World.drewN_drewN]⟩⟩
end Go.Proofs.YtkcamfcjkjiijaaGreatDoor
