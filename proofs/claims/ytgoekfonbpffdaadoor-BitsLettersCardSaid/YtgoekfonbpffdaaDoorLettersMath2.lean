/-
  Nine letters and the mode that they make: that mode's letters are just these, and no text of other letters is any mode's. No program here.
-/
import Derived.Test.YtgoekfonbpffdaaDoorLettersMath
namespace Go.Proofs.YtgoekfonbpffdaaDoor
theorem rowR_l : rowR.data.toList = [45, 114] := rfl
theorem rowW_l : rowW.data.toList = [45, 119] := rfl
theorem rowS_l : rowS.data.toList = [45, 120, 83, 115] := rfl
theorem rowT_l : rowT.data.toList = [45, 120, 84, 116] := rfl
theorem ix2 (a b c : UInt8) : Lib.indexByte [a, b] c = if a = c then 0 else if b = c then 1 else -1 := by
  simp only [Lib.indexByte, beq_iff_eq]
  by_cases h1 : a = c <;> by_cases h2 : b = c <;> simp [h1, h2]
theorem ix4 (a b d e c : UInt8) : Lib.indexByte [a, b, d, e] c = if a = c then 0 else if b = c then 1 else if d = c then 2 else if e = c then 3 else -1 := by
  simp only [Lib.indexByte, beq_iff_eq]
  by_cases h1 : a = c <;> by_cases h2 : b = c <;> by_cases h3 : d = c <;> by_cases h4 : e = c <;> simp [h1, h2, h3, h4]
theorem idx_r (i : Nat) (hi : i % 3 = 0) (c : UInt8) (h : ¬ idx i c < 0) : (c = 45 ∧ idx i c = 0) ∨ (c = 114 ∧ idx i c = 1) := by
  unfold idx rowAt at h ⊢
  rw [if_pos hi, rowR_l, ix2] at h ⊢
  by_cases h1 : (45 : UInt8) = c
  · left; simp [h1.symm]
  · by_cases h2 : (114 : UInt8) = c
    · right; subst h2; decide
    · rw [if_neg h1, if_neg h2] at h; omega
theorem idx_w (i : Nat) (hi : i % 3 = 1) (c : UInt8) (h : ¬ idx i c < 0) : (c = 45 ∧ idx i c = 0) ∨ (c = 119 ∧ idx i c = 1) := by
  unfold idx rowAt at h ⊢
  rw [if_neg (by omega), if_pos hi, rowW_l, ix2] at h ⊢
  by_cases h1 : (45 : UInt8) = c
  · left; simp [h1.symm]
  · by_cases h2 : (119 : UInt8) = c
    · right; subst h2; decide
    · rw [if_neg h1, if_neg h2] at h; omega
theorem idx_x (i : Nat) (hi : i % 3 = 2) (h8 : i ≠ 8) (c : UInt8) (h : ¬ idx i c < 0) : (c = 45 ∧ idx i c = 0) ∨ (c = 120 ∧ idx i c = 1) ∨ (c = 83 ∧ idx i c = 2) ∨ (c = 115 ∧ idx i c = 3) := by
  unfold idx rowAt at h ⊢
  rw [if_neg (by omega), if_neg (by omega), if_neg h8, rowS_l, ix4] at h ⊢
  by_cases h1 : (45 : UInt8) = c
  · left; simp [h1.symm]
  · by_cases h2 : (120 : UInt8) = c
    · right; left; subst h2; decide
    · by_cases h3 : (83 : UInt8) = c
      · right; right; left; subst h3; decide
      · by_cases h4 : (115 : UInt8) = c
        · right; right; right; subst h4; decide
        · rw [if_neg h1, if_neg h2, if_neg h3, if_neg h4] at h; omega
theorem idx_t (c : UInt8) (h : ¬ idx 8 c < 0) : (c = 45 ∧ idx 8 c = 0) ∨ (c = 120 ∧ idx 8 c = 1) ∨ (c = 84 ∧ idx 8 c = 2) ∨ (c = 116 ∧ idx 8 c = 3) := by
  unfold idx rowAt at h ⊢
  rw [if_neg (by omega), if_neg (by omega), if_pos rfl, rowT_l, ix4] at h ⊢
  by_cases h1 : (45 : UInt8) = c
  · left; simp [h1.symm]
  · by_cases h2 : (120 : UInt8) = c
    · right; left; subst h2; decide
    · by_cases h3 : (84 : UInt8) = c
      · right; right; left; subst h3; decide
      · by_cases h4 : (116 : UInt8) = c
        · right; right; right; subst h4; decide
        · rw [if_neg h1, if_neg h2, if_neg h3, if_neg h4] at h; omega
theorem pm_step {l : List UInt8} {i M : Nat} (h : pm l (i + 1) = some M) : ∃ N, pm l i = some N ∧ ¬ idx i (l.getD i 0) < 0 := by
  unfold pm at h
  split at h
  · rename_i N hN
    unfold pstep at h
    split at h
    · cases h
    · rename_i hk
      exact ⟨N, hN, hk⟩
  · cases h
/-- The bits of a mode out of nine letters' places in their rows. -/
theorem letters_of (l : List UInt8) (h : l.length = 9) (hk : ∀ i, i < 9 → ¬ idx i (l.getD i 0) < 0) : ∃ m : Nat, m < 4096 ∧ rwxL (m : Int) = l := by
  have g : ∀ i, i < 9 → i % 3 ≠ 2 → ∃ k : Nat, k < 2 ∧ l.getD i 0 = (if k = 1 then (if i % 3 = 0 then 114 else 119) else 45) := fun i hi h3 => by
    rcases Nat.lt_or_ge (i % 3) 1 with h0 | h0
    · rcases idx_r i (by omega) _ (hk i hi) with ⟨e, _⟩ | ⟨e, _⟩
      · exact ⟨0, by omega, by rw [e]; simp⟩
      · exact ⟨1, by omega, by rw [e]; simp; omega⟩
    · rcases idx_w i (by omega) _ (hk i hi) with ⟨e, _⟩ | ⟨e, _⟩
      · exact ⟨0, by omega, by rw [e]; simp⟩
      · exact ⟨1, by omega, by rw [e, if_pos rfl, if_neg (by omega)]⟩
  have g2 : ∀ i, i < 9 → i % 3 = 2 → ∃ k j : Nat, k < 2 ∧ j < 2 ∧ l.getD i 0 = (if j = 1 then (if k = 1 then (if i = 8 then 116 else 115) else (if i = 8 then 84 else 83)) else if k = 1 then 120 else 45) := fun i hi h3 => by
    by_cases h8 : i = 8
    · subst h8
      rcases idx_t _ (hk 8 hi) with ⟨e, _⟩ | ⟨e, _⟩ | ⟨e, _⟩ | ⟨e, _⟩
      · exact ⟨0, 0, by omega, by omega, by rw [e]; simp⟩
      · exact ⟨1, 0, by omega, by omega, by rw [e]; simp⟩
      · exact ⟨0, 1, by omega, by omega, by rw [e]; simp⟩
      · exact ⟨1, 1, by omega, by omega, by rw [e]; simp⟩
    · rcases idx_x i h3 h8 _ (hk i hi) with ⟨e, _⟩ | ⟨e, _⟩ | ⟨e, _⟩ | ⟨e, _⟩
      · exact ⟨0, 0, by omega, by omega, by rw [e]; simp⟩
      · exact ⟨1, 0, by omega, by omega, by rw [e]; simp⟩
      · exact ⟨0, 1, by omega, by omega, by rw [e]; simp [h8]⟩
      · exact ⟨1, 1, by omega, by omega, by rw [e]; simp [h8]⟩
  obtain ⟨a0, b0, e0⟩ := g 0 (by omega) (by omega)
  obtain ⟨a1, b1, e1⟩ := g 1 (by omega) (by omega)
  obtain ⟨a2, c2, b2, d2, e2⟩ := g2 2 (by omega) (by omega)
  obtain ⟨a3, b3, e3⟩ := g 3 (by omega) (by omega)
  obtain ⟨a4, b4, e4⟩ := g 4 (by omega) (by omega)
  obtain ⟨a5, c5, b5, d5, e5⟩ := g2 5 (by omega) (by omega)
  obtain ⟨a6, b6, e6⟩ := g 6 (by omega) (by omega)
  obtain ⟨a7, b7, e7⟩ := g 7 (by omega) (by omega)
  obtain ⟨a8, c8, b8, d8, e8⟩ := g2 8 (by omega) (by omega)
  obtain ⟨m, hm⟩ : ∃ m : Nat, m = a0 * 256 + a1 * 128 + a2 * 64 + a3 * 32 + a4 * 16 + a5 * 8 + a6 * 4 + a7 * 2 + a8 + c2 * 2048 + c5 * 1024 + c8 * 512 := ⟨_, rfl⟩
  have bb : ∀ (j : Nat) (a : Nat) (N : Int), (2 : Int) ^ j = N → ((m : Int) / N % 2 = 1 ↔ a = 1) → (bitB m j = true) = (a = 1) := fun j a N hN hj => by
    unfold bitB
    rw [hN]
    simp only [decide_eq_true_eq]
    exact propext hj
  have q8 := bb 8 a0 256 (by decide) (by omega)
  have q7 := bb 7 a1 128 (by decide) (by omega)
  have q6 := bb 6 a2 64 (by decide) (by omega)
  have q5 := bb 5 a3 32 (by decide) (by omega)
  have q4 := bb 4 a4 16 (by decide) (by omega)
  have q3 := bb 3 a5 8 (by decide) (by omega)
  have q2 := bb 2 a6 4 (by decide) (by omega)
  have q1 := bb 1 a7 2 (by decide) (by omega)
  have q0 := bb 0 a8 1 (by decide) (by omega)
  have q11 := bb 11 c2 2048 (by decide) (by omega)
  have q10 := bb 10 c5 1024 (by decide) (by omega)
  have q9 := bb 9 c8 512 (by decide) (by omega)
  refine ⟨m, by omega, ?_⟩
  apply List.ext_getElem
  · simp [rwxL, h]
  · intro j h1 h2
    have hj : j < 9 := by omega
    have hget : l[j] = l.getD j 0 := by simp [List.getD, List.getElem?_eq_getElem h2]
    refine Eq.trans (b := letAt m j) (by simp [rwxL]) (Eq.trans ?_ hget.symm)
    clear hget
    have hj9 : j = 0 ∨ j = 1 ∨ j = 2 ∨ j = 3 ∨ j = 4 ∨ j = 5 ∨ j = 6 ∨ j = 7 ∨ j = 8 := by omega
    rcases hj9 with rfl | rfl | rfl | rfl | rfl | rfl | rfl | rfl | rfl
    · rw [e0]; simp [letAt, q8]
    · rw [e1]; simp [letAt, q7]
    · rw [e2]; simp [letAt, q6, q11]
    · rw [e3]; simp [letAt, q5]
    · rw [e4]; simp [letAt, q4]
    · rw [e5]; simp [letAt, q3, q10]
    · rw [e6]; simp [letAt, q2]
    · rw [e7]; simp [letAt, q1]
    · rw [e8]; simp [letAt, q0, q9]
theorem pm_idx {l : List UInt8} : ∀ {n M : Nat}, pm l n = some M → ∀ i, i < n → ¬ idx i (l.getD i 0) < 0
  | 0, M, h, i, hi => by omega
  | n + 1, M, h, i, hi => by
    obtain ⟨N, hN, hk⟩ := pm_step h
    rcases Nat.lt_or_ge i n with h1 | h1
    · exact pm_idx hN i h1
    · have : i = n := by omega
      subst this
      exact hk
/-- THE MODE THAT NINE LETTERS MAKE HAS JUST THESE LETTERS. -/
theorem pm_some {l : List UInt8} {M : Nat} (h : l.length = 9) (hp : pm l 9 = some M) : M < 4096 ∧ rwxL (M : Int) = l := by
  obtain ⟨m, hm, e⟩ := letters_of l h (pm_idx hp)
  have h2 := pm_all m hm
  rw [e, hp] at h2
  cases h2
  exact ⟨hm, e⟩
/-- The mode whose letters a text is. -/
def numR (l : List UInt8) : Option Nat := if l.length = 9 then pm l 9 else none
theorem rwxL_len (m : Int) : (rwxL m).length = 9 := by simp [rwxL]
theorem numR_rwx (m : Nat) (h : m < 4096) : numR (rwxL m) = some m := by unfold numR; rw [if_pos (rwxL_len _), pm_all m h]
theorem numR_some {l : List UInt8} {M : Nat} (h : numR l = some M) : M < 4096 ∧ rwxL (M : Int) = l := by
  unfold numR at h
  split at h
  · rename_i hl; exact pm_some hl h
  · cases h
/-- Only the lowest twelve bits count. -/
theorem rwxL_low (m : Int) : rwxL m = rwxL ((nat64 m % 4096 : Nat) : Int) := by
  have hq : m % 4096 = ((nat64 m % 4096 : Nat) : Int) := (nat64_mod m 12 (by decide)).symm
  rw [← hq]
  have hb : ∀ j, j < 12 → bitB m j = bitB (m % 4096) j := fun j hj => by
    rw [bitB_nat64 m j (by omega), bitB_nat64 (m % 4096) j (by omega)]
    have e : nat64 (m % 4096) = nat64 m % 2 ^ 12 := by
      have : m % 4096 = ((nat64 m % 4096 : Nat) : Int) := hq
      rw [this]
      exact nat64_of _ (Nat.mod_lt _ (by decide))
    rw [e, Nat.testBit_mod_two_pow]
    simp [hj]
  unfold rwxL
  apply List.map_congr_left
  intro j hj
  have hj9 : j < 9 := by simpa using hj
  unfold letAt
  rw [hb (8 - j) (by omega), hb (11 - j / 3) (by omega)]
end Go.Proofs.YtgoekfonbpffdaaDoor
