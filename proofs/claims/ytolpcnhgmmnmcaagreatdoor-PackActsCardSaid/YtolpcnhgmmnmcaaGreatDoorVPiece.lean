/-
  The reference's piece and Order: what each returns; of the world nothing turns but draws.
-/
import Derived.Test.YtolpcnhgmmnmcaaGreatDoorVRefB
namespace Go.Proofs.YtolpcnhgmmnmcaaGreatDoor
open Go.RowKit
theorem tw_lt {α : Type} {p : α → Bool} {l : List α} {k : Nat} (h : k < (l.takeWhile p).length) : ∃ hk : k < l.length, p l[k] = true := by
  have h1 := takeWhile_le p l
  refine ⟨by omega, ?_⟩
  have h2 := List.all_eq_true.1 (List.all_takeWhile (p := p) (l := l)) _ (List.getElem_mem h)
  have h3 : (l.takeWhile p)[k] = l[k] := (List.takeWhile_prefix p).getElem h
  rwa [h3] at h2
theorem tw_end {α : Type} {p : α → Bool} : ∀ {l : List α} (h : (l.takeWhile p).length < l.length), p l[(l.takeWhile p).length] = false
  | [], h => absurd h (by simp)
  | x :: l, h => by
    cases hx : p x
    · simp [hx]
    · have h' : (l.takeWhile p).length < l.length := by simpa [hx] using h
      have := tw_end h'
      simpa [hx] using this
theorem tw_take {α : Type} (p : α → Bool) (l : List α) : l.take (l.takeWhile p).length = l.takeWhile p := (List.prefix_iff_eq_take.1 (List.takeWhile_prefix p)).symm
theorem nd_lt (s : ByteArray) (k : Nat) (h : k < (nonD s.data.toList).length) : ∃ hk : k < s.size, dgB s[k] = false := by
  obtain ⟨hk, hp⟩ := tw_lt h
  refine ⟨by rw [sizeOf]; exact hk, ?_⟩
  have hp' : (!dgB (s[k]'(by rw [sizeOf]; exact hk))) = true := hp
  simpa using hp'
theorem nd_at (s : ByteArray) (k : Nat) (hk : k < s.size) (e : k = (nonD s.data.toList).length) : dgB s[k] = true := by
  subst e
  have hp : (!dgB (s[(nonD s.data.toList).length]'hk)) = false := tw_end (p := fun c => !dgB c) (l := s.data.toList) (by rw [← sizeOf]; exact hk)
  simpa using hp
theorem dg_lt (s : ByteArray) (k : Nat) (h1 : (nonD s.data.toList).length ≤ k) (h2 : k < (nonD s.data.toList).length + (digs s.data.toList).length) : ∃ hk : k < s.size, dgB s[k] = true := by
  have hle := digs_le s.data.toList
  have hk : k < s.size := by rw [sizeOf]; omega
  refine ⟨hk, ?_⟩
  obtain ⟨hk', hp⟩ := tw_lt (p := dgB) (l := s.data.toList.drop (nonD s.data.toList).length) (k := k - (nonD s.data.toList).length) (by unfold digs at h2; omega)
  rw [List.getElem_drop] at hp
  have e : (nonD s.data.toList).length + (k - (nonD s.data.toList).length) = k := by omega
  simp only [e] at hp
  exact hp
theorem dg_at (s : ByteArray) (k : Nat) (hk : k < s.size) (e : k = (nonD s.data.toList).length + (digs s.data.toList).length) : dgB s[k] = false := by
  subst e
  have hl := sizeOf s
  have := tw_end (p := dgB) (l := s.data.toList.drop (nonD s.data.toList).length) (by rw [List.length_drop]; unfold digs at hk; omega)
  rw [List.getElem_drop] at this
  exact this
theorem noughts_yes {s : ByteArray} (h : 0 < s.size) (e : s[0] = 48) : noughts s.data.toList = noughts (s.extract 1 s.size).data.toList := by
  rw [extL, List.take_of_length_le (by rw [List.length_drop, sizeOf]; omega)]
  have := dropC s 0 h
  rw [List.drop_zero] at this
  rw [this, e]; simp [noughts]
theorem noughts_no {s : ByteArray} (h : 0 < s.size) (e : ¬ s[0] = 48) : noughts s.data.toList = s.data.toList := by
  have := dropC s 0 h
  rw [List.drop_zero] at this
  rw [this]; simp [noughts, e]
theorem noughts_nil {s : ByteArray} (h : s.size = 0) : noughts s.data.toList = s.data.toList := by
  rw [sizeOf] at h
  rw [List.eq_nil_of_length_eq_zero h]; rfl
theorem ext_nonD (s : ByteArray) : (s.extract 0 (nonD s.data.toList).length).data.toList = nonD s.data.toList := by
  rw [extL, List.drop_zero, Nat.sub_zero]; exact tw_take _ _
theorem ext_digs (s : ByteArray) : (s.extract (nonD s.data.toList).length ((nonD s.data.toList).length + (digs s.data.toList).length)).data.toList = digs s.data.toList := by
  rw [extL, Nat.add_sub_cancel_left]; exact tw_take _ _
theorem ext_rest (s : ByteArray) : (s.extract ((nonD s.data.toList).length + (digs s.data.toList).length) s.size).data.toList = rest s.data.toList := by
  rw [extL, List.take_of_length_le (by rw [List.length_drop, sizeOf]; omega)]; rfl
def pieceV (s : ByteArray) : Value := .tuple #[.string ⟨(nonD s.data.toList).toArray⟩, .string ⟨(noughts (digs s.data.toList)).toArray⟩, .string ⟨(rest s.data.toList).toArray⟩]
def PiecePost (s : ByteArray) (w : World) (e : Ending) (w' : World) : Prop := e = .returned (pieceV s) ∧ ∃ q, w' = w.drewN q
end Go.Proofs.YtolpcnhgmmnmcaaGreatDoor
