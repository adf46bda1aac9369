/-
  How large what the program reads may be; nothing of the program.
-/
import Derived.Test.YtomplnncbfdldaaDoorSPIndex
namespace Go.Proofs.YtomplnncbfdldaaDoor
open Go.RowKit
theorem joinC_tails : ∀ (t : Bs) (ms : List Bs), (joinC 10 (t :: ms.map List.tail)).length ≤ t.length + lenS ms
  | t, [] => by simp [joinC, lenS]
  | t, m :: ms => by
    have ih := joinC_tails m.tail ms
    rw [List.map_cons, joinC, List.length_append, List.length_cons]
    have h1 : m.tail.length ≤ m.length := by simp
    have h2 : lenS (m :: ms) = m.length + 1 + lenS ms := by simp [lenS]
    omega
theorem trim1_len (x : Bs) : (trim1 x).length ≤ x.length := by
  unfold trim1
  split
  · rw [List.length_tail]; omega
  · exact Nat.le_refl _
theorem dropW_nil {α : Type} (p : α → Bool) : ∀ l : List α, l.dropWhile p = [] → l.all p = true
  | [], _ => rfl
  | a :: l, h => by
    rw [List.dropWhile_cons] at h
    split at h
    · rename_i ha
      rw [List.all_cons, ha, dropW_nil p l h]; rfl
    · cases h
theorem readFld_len (p : Bs) (ms : List Bs) : wF (readFld p ms) ≤ 3 * lenS (p :: ms) := by
  have h1 := joinC_tails (trim1 (p.drop (colonAt p + 1))) ms
  have h2 : (trim1 (p.drop (colonAt p + 1))).length ≤ (p.drop (colonAt p + 1)).length := trim1_len _
  have h3 : (p.take (colonAt p)).length + (p.drop (colonAt p + 1)).length ≤ p.length := by rw [List.length_take, List.length_drop]; omega
  have h4 : lenS (p :: ms) = p.length + 1 + lenS ms := by simp [lenS]
  unfold wF readFld
  show (p.take (colonAt p)).length + 3 * (joinC 10 (trim1 (p.drop (colonAt p + 1)) :: ms.map List.tail)).length + 3 ≤ _
  omega
theorem lenS_app (a b : List Bs) : lenS (a ++ b) = lenS a + lenS b := by simp [lenS]
theorem readFlds_len : ∀ (n : Nat) (ls : List Bs), ls.length ≤ n → wFs (readFlds ls) ≤ 3 * lenS ls
  | _, [], _ => by rw [readFlds_nil]; simp [wFs]
  | 0, _ :: _, h => by simp at h
  | n + 1, p :: ps, h => by
    have hd := dropW_le hbB ps
    rw [List.length_cons] at h
    have ih := readFlds_len n (ps.dropWhile hbB) (by omega)
    have h1 := readFld_len p (ps.takeWhile hbB)
    have h2 := lenS_app (ps.takeWhile hbB) (ps.dropWhile hbB)
    rw [List.takeWhile_append_dropWhile] at h2
    have h3 : ∀ q : List Bs, lenS (p :: q) = p.length + 1 + lenS q := fun q => by simp [lenS]
    rw [readFlds_cons]
    have h4 : wFs (readFld p (ps.takeWhile hbB) :: readFlds (ps.dropWhile hbB)) = wF (readFld p (ps.takeWhile hbB)) + wFs (readFlds (ps.dropWhile hbB)) := by simp only [wFs, List.map_cons, List.sum_cons]
    rw [h3] at h1 ⊢
    omega
theorem lenS_pos {ls : List Bs} (h : ls ≠ []) : 1 ≤ lenS ls := by
  cases ls with
  | nil => exact absurd rfl h
  | cons p ps => simp only [lenS, List.map_cons, List.sum_cons]; omega
theorem readSs_len : ∀ (n : Nat) (ls : List Bs), ls.length ≤ n → wS (readSs ls) ≤ 4 * lenS ls
  | _, [], _ => by rw [readSs_nil]; simp [wS]
  | 0, _ :: _, h => by simp at h
  | n + 1, p :: ps, h => by
    have hp := lenS_pos (ls := p :: ps) (by simp)
    cases ha : (p :: ps).all neB with
    | true =>
      have h1 := readFlds_len _ (p :: ps) (Nat.le_refl _)
      rw [readSs_last (by simp) ha]
      show ([readFlds (p :: ps)].map fun st => wFs st + 1).sum ≤ _
      rw [List.map_cons, List.map_nil, List.sum_cons, List.sum_nil]
      omega
    | false =>
      have hd := dropN_lt (p :: ps) (by simp)
      have ih := readSs_len n (((p :: ps).dropWhile neB).drop 1) (by omega)
      have h1 := readFlds_len _ ((p :: ps).takeWhile neB) (Nat.le_refl _)
      have h2 := lenS_app ((p :: ps).takeWhile neB) ((p :: ps).dropWhile neB)
      rw [List.takeWhile_append_dropWhile] at h2
      have h3 : lenS (((p :: ps).dropWhile neB).drop 1) + 1 ≤ lenS ((p :: ps).dropWhile neB) := by
        cases hq : (p :: ps).dropWhile neB with
        | nil =>
          have h9 := dropW_nil neB _ hq
          rw [ha] at h9; cases h9
        | cons x xs => simp only [List.drop_succ_cons, List.drop_zero, lenS, List.map_cons, List.sum_cons]; omega
      rw [readSs_cut ha]
      have h4 : wS (readFlds ((p :: ps).takeWhile neB) :: readSs (((p :: ps).dropWhile neB).drop 1)) = wFs (readFlds ((p :: ps).takeWhile neB)) + 1 + wS (readSs (((p :: ps).dropWhile neB).drop 1)) := by simp only [wS, List.map_cons, List.sum_cons]
      omega
theorem readSs_small {s : Bs} {ls : List Bs} (h : linesO s = some ls) : Small (readSs ls) (4 * (s.length + 1)) := by
  unfold linesO at h
  split at h
  · cases h
    refine small_of ?_
    have h1 := readSs_len _ (spl 10 s).dropLast (Nat.le_refl _)
    have h2 := drop_sum (spl 10 s)
    rw [spl_sum] at h2
    omega
  · cases h
end Go.Proofs.YtomplnncbfdldaaDoor
