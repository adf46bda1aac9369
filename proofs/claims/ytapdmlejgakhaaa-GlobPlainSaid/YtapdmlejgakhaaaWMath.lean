/-
  Patterns: their steps, what steps stand for, how a pattern is read; nothing of the program.
-/
import Derived.Test.YtapdmlejgakhaaaPMath
namespace Go.Proofs.Ytapdmlejgakhaaa
open Go.RowKit
inductive Stp where
  | star
  | one (f : UInt8 → Bool)
def Stp.isStar : Stp → Bool
  | .star => true
  | .one _ => false
/-- Does it hold of a text or of what is left of it behind some bytes? -/
def anySuf (k : Bs → Bool) : Bs → Bool
  | [] => k []
  | c :: t => k (c :: t) || anySuf k t
def mB : List Stp → Bs → Bool
  | [], s => s.isEmpty
  | .star :: l, s => anySuf (mB l) s
  | .one _ :: _, [] => false
  | .one f :: l, c :: t => f c && mB l t
theorem anySuf_iff (k : Bs → Bool) : ∀ s, anySuf k s = true ↔ ∃ j, j ≤ s.length ∧ k (s.drop j) = true
  | [] => by
    unfold anySuf
    constructor
    · intro h; exact ⟨0, by simp, h⟩
    · rintro ⟨j, hj, h⟩; simpa using h
  | c :: t => by
    unfold anySuf
    rw [Bool.or_eq_true, anySuf_iff k t]
    constructor
    · rintro (h | ⟨j, hj, h⟩)
      · exact ⟨0, by simp, h⟩
      · exact ⟨j + 1, by simp; omega, by simpa using h⟩
    · rintro ⟨j, hj, h⟩
      cases j with
      | zero => exact .inl h
      | succ j => exact .inr ⟨j, by simp at hj; omega, by simpa using h⟩
theorem anySuf_self {k : Bs → Bool} {s : Bs} (h : k s = true) : anySuf k s = true := (anySuf_iff k s).2 ⟨0, by omega, h⟩
theorem anySuf_drop {k : Bs → Bool} {s : Bs} {m : Nat} (h : anySuf k (s.drop m) = true) : anySuf k s = true := by
  obtain ⟨j, hj, h⟩ := (anySuf_iff k _).1 h
  rw [List.drop_drop] at h
  rw [List.length_drop] at hj
  by_cases hm : m ≤ s.length
  · exact (anySuf_iff k s).2 ⟨m + j, by omega, h⟩
  · rw [List.drop_of_length_le (by omega)] at h
    exact (anySuf_iff k s).2 ⟨s.length, by omega, by rw [List.drop_of_length_le (by omega)]; exact h⟩
/-- The first i steps are bytes, and fit. -/
def OkT (l : List Stp) (s : Bs) (i : Nat) : Prop := ∀ j, j < i → ∃ f c, l[j]? = some (.one f) ∧ s[j]? = some c ∧ f c = true
theorem OkT.zero (l : List Stp) (s : Bs) : OkT l s 0 := fun j h => absurd h (by omega)
theorem OkT.succ {l : List Stp} {s : Bs} {i : Nat} {f : UInt8 → Bool} {c : UInt8} (h : OkT l s i) (hf : l[i]? = some (.one f)) (hc : s[i]? = some c) (g : f c = true) : OkT l s (i + 1) := fun j hj => by
  by_cases e : j = i
  · subst e; exact ⟨f, c, hf, hc, g⟩
  · exact h j (by omega)
theorem OkT.run : ∀ {l : List Stp} {s : Bs} {i : Nat}, OkT l s i → mB l s = mB (l.drop i) (s.drop i)
  | l, s, 0, _ => rfl
  | l, s, i + 1, h => by
    obtain ⟨f, c, hf, hc, g⟩ := h 0 (by omega)
    cases l with
    | nil => simp at hf
    | cons x l =>
      cases s with
      | nil => simp at hc
      | cons d s =>
        simp only [List.getElem?_cons_zero, Option.some.injEq] at hf hc
        subst hf hc
        have := OkT.run (l := l) (s := s) (i := i) (fun j hj => by
          obtain ⟨f', c', h1, h2, h3⟩ := h (j + 1) (by omega)
          exact ⟨f', c', by simpa using h1, by simpa using h2, h3⟩)
        rw [mB, g, Bool.true_and, this]; rfl
theorem ones_run : ∀ {l : List Stp} {t : Bs} {i : Nat}, (∀ j, j < i → ∃ f, l[j]? = some (.one f)) → mB l t = true → i ≤ t.length ∧ mB (l.drop i) (t.drop i) = true
  | l, t, 0, _, h => ⟨by omega, h⟩
  | l, t, i + 1, h, hm => by
    obtain ⟨f, hf⟩ := h 0 (by omega)
    cases l with
    | nil => simp at hf
    | cons x l =>
      simp only [List.getElem?_cons_zero, Option.some.injEq] at hf
      subst hf
      cases t with
      | nil => rw [mB] at hm; cases hm
      | cons d t =>
        rw [mB, Bool.and_eq_true] at hm
        obtain ⟨h1, h2⟩ := ones_run (l := l) (t := t) (i := i) (fun j hj => by
          obtain ⟨f', h1⟩ := h (j + 1) (by omega)
          exact ⟨f', by simpa using h1⟩) hm.2
        exact ⟨by simp; omega, by simpa using h2⟩
theorem drop_at {α : Type} {l : List α} {i : Nat} {x : α} (h : l[i]? = some x) : l.drop i = x :: l.drop (i + 1) := by
  obtain ⟨hi, e⟩ := List.getElem?_eq_some_iff.1 h
  rw [List.drop_eq_getElem_cons hi, e]
/-- What steps stand for, if they were behind a star, or not. -/
def stB (starred : Bool) (l : List Stp) (s : Bs) : Bool := if starred then anySuf (mB l) s else mB l s
theorem st_star {b : Bool} {l : List Stp} {s : Bs} {i : Nat} (h : OkT l s i) (hs : l[i]? = some .star) : stB b l s = stB true (l.drop (i + 1)) (s.drop i) := by
  have e : mB l s = anySuf (mB (l.drop (i + 1))) (s.drop i) := by rw [h.run, drop_at hs, mB]
  unfold stB
  rw [if_pos rfl]
  cases b with
  | false => rw [if_neg (by decide), e]
  | true =>
    rw [if_pos rfl]
    apply Bool.eq_iff_iff.2
    constructor
    · intro g
      obtain ⟨j, hj, g⟩ := (anySuf_iff _ _).1 g
      obtain ⟨g1, g2⟩ := ones_run (fun j hj => by obtain ⟨f, c, h1, _⟩ := h j hj; exact ⟨f, h1⟩) g
      rw [drop_at hs, mB, List.drop_drop] at g2
      have e2 : s.drop (j + i) = (s.drop i).drop j := by rw [List.drop_drop]; congr 1; omega
      rw [e2] at g2
      exact anySuf_drop g2
    · intro g
      exact anySuf_self (by rw [e]; exact g)
theorem st_short {b : Bool} {l : List Stp} {s : Bs} {f : UInt8 → Bool} (h : OkT l s s.length) (hs : l[s.length]? = some (.one f)) : stB b l s = false := by
  have hn : ∀ t : Bs, t.length ≤ s.length → mB l t = false := fun t ht => by
    cases g : mB l t with
    | false => rfl
    | true =>
      have := (ones_run (i := s.length + 1) (fun j hj => by
        by_cases e : j = s.length
        · subst e; exact ⟨f, hs⟩
        · obtain ⟨f, c, h1, _⟩ := h j (by omega); exact ⟨f, h1⟩) g).1
      omega
  unfold stB
  cases b with
  | false => rw [if_neg (by decide), hn s (by omega)]
  | true =>
    rw [if_pos rfl]
    cases g : anySuf (mB l) s with
    | false => rfl
    | true =>
      obtain ⟨j, hj, g⟩ := (anySuf_iff _ _).1 g
      rw [hn _ (by rw [List.length_drop]; omega)] at g
      cases g
theorem st_skip {l : List Stp} {s : Bs} (h0 : 0 < s.length) (h : mB l s = false) : stB true l s = stB true l (s.drop 1) := by
  cases s with
  | nil => simp at h0
  | cons c t => unfold stB; rw [if_pos rfl, if_pos rfl, anySuf, h]; rfl
theorem mB_miss {l : List Stp} {s : Bs} {i : Nat} {f : UInt8 → Bool} {c : UInt8} (h : OkT l s i) (hf : l[i]? = some (.one f)) (hc : s[i]? = some c) (g : f c = false) : mB l s = false := by
  rw [h.run, drop_at hf, drop_at hc, mB, g]; rfl
theorem OkT.le {l : List Stp} {s : Bs} {i : Nat} (h : OkT l s i) : i ≤ s.length := by
  by_cases e : i ≤ s.length
  · exact e
  · obtain ⟨f, c, _, hc, _⟩ := h s.length (by omega)
    have := (List.getElem?_eq_some_iff.1 hc).1
    omega
theorem mB_end {l : List Stp} {s : Bs} (h : OkT l s l.length) : mB l s = decide (s.length = l.length) := by
  have := h.le
  rw [h.run, List.drop_of_length_le (Nat.le_refl _), mB]
  by_cases e : s.length = l.length
  · rw [decide_eq_true e, List.drop_of_length_le (by omega)]; rfl
  · rw [decide_eq_false e]
    cases g : s.drop l.length with
    | nil => have := congrArg List.length g; rw [List.length_drop] at this; simp at this; omega
    | cons => rfl
theorem mB_append : ∀ (a b : List Stp) (x y : Bs), mB a x = true → mB b y = true → mB (a ++ b) (x ++ y) = true
  | [], b, x, y, h, g => by
    rw [mB] at h
    have : x = [] := by simpa using h
    subst this; exact g
  | .star :: a, b, x, y, h, g => by
    rw [mB] at h
    obtain ⟨j, hj, h⟩ := (anySuf_iff _ _).1 h
    have := mB_append a b _ y h g
    rw [List.cons_append, mB]
    refine (anySuf_iff _ _).2 ⟨j, by rw [List.length_append]; omega, ?_⟩
    rw [List.drop_append_of_le_length hj]; exact this
  | .one f :: a, b, [], y, h, g => by rw [mB] at h; cases h
  | .one f :: a, b, c :: x, y, h, g => by
    rw [mB, Bool.and_eq_true] at h
    rw [List.cons_append, List.cons_append, mB, h.1, mB_append a b x y h.2 g]; rfl
def litS (c : UInt8) : Stp := .one (fun b => b == c)
theorem mB_lit : ∀ (s t : Bs), mB (s.map litS) t = decide (t = s)
  | [], t => by rw [List.map_nil, mB]; cases t <;> simp
  | c :: s, [] => by rw [List.map_cons, litS, mB]; simp
  | c :: s, d :: t => by
    rw [List.map_cons, litS, mB, mB_lit s t]
    apply Bool.eq_iff_iff.2
    simp
theorem mB_all (t : Bs) : mB [.star] t = true := by
  rw [mB]
  exact (anySuf_iff _ _).2 ⟨t.length, by omega, by rw [List.drop_of_length_le (by omega)]; rfl⟩
-- How a pattern is read
def litL : Bs → Option (UInt8 × Bs)
  | [] => none
  | c :: t => if c = 92 then t.head?.map (fun d => (d, t.tail)) else some (c, t)
theorem litL_one {c : UInt8} {t : Bs} (h : c ≠ 92) : litL (c :: t) = some (c, t) := if_neg h
theorem litL_cases {p r : Bs} {c : UInt8} (h : litL p = some (c, r)) : p = 92 :: c :: r ∨ (c ≠ 92 ∧ p = c :: r) := by
  cases p with
  | nil => cases h
  | cons d t =>
    by_cases e : d = 92
    · subst e
      cases t with
      | nil => cases h
      | cons e u => cases h; exact .inl rfl
    · rw [litL_one e] at h; cases h; exact .inr ⟨e, rfl⟩
def memL (p : Bs) : Option (UInt8 × UInt8 × Bs) := (litL p).bind fun x =>
  if x.2.head? = some 45 ∧ x.2.tail.head? ≠ some 93 then (litL x.2.tail).map (fun y => (x.1, y.1, y.2)) else some (x.1, x.1, x.2)
def inR (a b x : UInt8) : Bool := decide (a.toNat ≤ x.toNat) && decide (x.toNat ≤ b.toNat)
def setGo : Nat → Bool → Bs → (UInt8 → Bool) → Option ((UInt8 → Bool) × Bs)
  | 0, _, _, _ => none
  | n + 1, begins, p, f => if begins = false ∧ p.head? = some 93 then some (f, p.tail) else (memL p).bind fun x => setGo n false x.2.2 (fun y => f y || inR x.1 x.2.1 y)
def negB (p : Bs) : Bool := decide (p.head? = some 33)
def bodyB (p : Bs) : Bs := if negB p then p.tail else p
def setL (p : Bs) : Option (Stp × Bs) := (setGo ((bodyB p).length + 1) true (bodyB p) (fun _ => false)).map fun y => (.one (fun x => y.1 x != negB p), y.2)
def firstL : Bs → Option (Stp × Bs)
  | [] => none
  | c :: t => if c = 42 then some (.star, t) else if c = 63 then some (.one (fun _ => true), t) else if c = 91 then setL t else (litL (c :: t)).map fun y => (litS y.1, y.2)
theorem firstL_lit {c : UInt8} {t : Bs} (h1 : c ≠ 42) (h2 : c ≠ 63) (h3 : c ≠ 91) : firstL (c :: t) = (litL (c :: t)).map fun y => (litS y.1, y.2) := by
  rw [firstL, if_neg h1, if_neg h2, if_neg h3]
theorem firstL_set (t : Bs) : firstL (91 :: t) = setL t := rfl
def stepsGo : Nat → Bs → Option (List Stp)
  | _, [] => some []
  | 0, _ :: _ => none
  | n + 1, c :: t => (firstL (c :: t)).bind fun x => (stepsGo n x.2).map (x.1 :: ·)
def stepsL (p : Bs) : Option (List Stp) := if 200 < p.length then none else stepsGo p.length p
def matchL (p s : Bs) : Bool := match stepsL p with
  | none => false
  | some l => mB l s
theorem litL_len {p r : Bs} {c : UInt8} (h : litL p = some (c, r)) : r.length < p.length := by
  rcases litL_cases h with rfl | ⟨_, rfl⟩
  · simp only [List.length_cons]; omega
  · simp
theorem memL_some {p r : Bs} {a b : UInt8} (h : memL p = some (a, b, r)) : ∃ r', litL p = some (a, r') ∧ ((r'.head? = some 45 ∧ r'.tail.head? ≠ some 93 ∧ litL r'.tail = some (b, r)) ∨ (¬ (r'.head? = some 45 ∧ r'.tail.head? ≠ some 93) ∧ b = a ∧ r = r')) := by
  unfold memL at h
  obtain ⟨⟨a', r'⟩, h1, h2⟩ := Option.bind_eq_some_iff.1 h
  dsimp only at h2
  by_cases hc : r'.head? = some 45 ∧ r'.tail.head? ≠ some 93
  · rw [if_pos hc] at h2
    obtain ⟨⟨b', v⟩, h3, h4⟩ := Option.map_eq_some_iff.1 h2
    cases h4
    exact ⟨r', h1, .inl ⟨hc.1, hc.2, h3⟩⟩
  · rw [if_neg hc] at h2
    cases h2
    exact ⟨r, h1, .inr ⟨hc, rfl, rfl⟩⟩
theorem memL_len {p r : Bs} {a b : UInt8} (h : memL p = some (a, b, r)) : r.length < p.length := by
  obtain ⟨r', h1, ⟨_, _, h2⟩ | ⟨_, _, rfl⟩⟩ := memL_some h
  · have := litL_len h1; have h3 := litL_len h2; rw [List.length_tail] at h3; omega
  · exact litL_len h1
theorem setGo_len : ∀ {n : Nat} {b : Bool} {p r : Bs} {f g : UInt8 → Bool}, setGo n b p f = some (g, r) → r.length < p.length
  | 0, b, p, r, f, g, h => by cases h
  | n + 1, b, p, r, f, g, h => by
    rw [setGo] at h
    by_cases hc : b = false ∧ p.head? = some 93
    · rw [if_pos hc] at h
      cases h
      cases p with
      | nil => simp at hc
      | cons c t => simp
    · rw [if_neg hc] at h
      obtain ⟨⟨a, c, q⟩, hm, h2⟩ := Option.bind_eq_some_iff.1 h
      have h1 := memL_len hm
      have h2 := setGo_len h2
      dsimp only at h2; omega
theorem bodyB_len (p : Bs) : (bodyB p).length ≤ p.length := by
  unfold bodyB; split <;> simp
theorem setL_len {p r : Bs} {x : Stp} (h : setL p = some (x, r)) : r.length < p.length := by
  unfold setL at h
  obtain ⟨⟨f, r'⟩, hg, h2⟩ := Option.map_eq_some_iff.1 h
  cases h2
  have := setGo_len hg
  have := bodyB_len p
  dsimp only at *; omega
theorem firstL_len {p r : Bs} {x : Stp} (h : firstL p = some (x, r)) : r.length < p.length := by
  cases p with
  | nil => cases h
  | cons c t =>
    by_cases e1 : c = 42
    · subst e1; cases h; simp
    by_cases e2 : c = 63
    · subst e2; cases h; simp
    by_cases e3 : c = 91
    · subst e3; rw [firstL_set] at h; have := setL_len h; simp; omega
    rw [firstL_lit e1 e2 e3] at h
    obtain ⟨⟨d, q⟩, hl, h2⟩ := Option.map_eq_some_iff.1 h
    cases h2
    exact litL_len hl
theorem stepsGo_more : ∀ {n m : Nat} {p : Bs}, p.length ≤ n → p.length ≤ m → stepsGo n p = stepsGo m p
  | n, m, [], _, _ => by cases n <;> cases m <;> rfl
  | 0, m, c :: t, h, _ => by simp at h
  | n + 1, 0, c :: t, _, h => by simp at h
  | n + 1, m + 1, c :: t, h1, h2 => by
    rw [stepsGo, stepsGo]
    cases hf : firstL (c :: t) with
    | none => rfl
    | some x =>
      obtain ⟨y, r⟩ := x
      have := firstL_len hf
      rw [Option.bind_some, Option.bind_some, stepsGo_more (n := n) (m := m) (by simp at h1 this ⊢; omega) (by simp at h2 this ⊢; omega)]
theorem litL_app {p r q : Bs} {c : UInt8} (h : litL p = some (c, r)) : litL (p ++ q) = some (c, r ++ q) := by
  rcases litL_cases h with rfl | ⟨e, rfl⟩
  · rfl
  · exact litL_one e
theorem head_app {p q : Bs} (h : p ≠ []) : (p ++ q).head? = p.head? ∧ (p ++ q).tail = p.tail ++ q := by
  cases p with
  | nil => exact absurd rfl h
  | cons c t => exact ⟨rfl, rfl⟩
theorem memL_app {p r q : Bs} {a b : UInt8} (h : memL p = some (a, b, r)) (hr : r ≠ []) : memL (p ++ q) = some (a, b, r ++ q) := by
  obtain ⟨r', h1, h2⟩ := memL_some h
  have g1 := litL_app (q := q) h1
  unfold memL
  rw [g1, Option.bind_some]
  dsimp only
  have hr' : r' ≠ [] := by
    rcases h2 with ⟨e, _⟩ | ⟨_, _, rfl⟩
    · intro e2; subst e2; cases e
    · exact hr
  obtain ⟨k1, k2⟩ := head_app (q := q) hr'
  rw [k1, k2]
  rcases h2 with ⟨e1, e2, e3⟩ | ⟨e1, rfl, rfl⟩
  · have ht : r'.tail ≠ [] := fun e => by rw [e] at e3; cases e3
    rw [(head_app (q := q) ht).1, if_pos ⟨e1, e2⟩, litL_app (q := q) e3]; rfl
  · by_cases e45 : r.head? = some 45
    · have ht : r.tail ≠ [] := fun e => e1 ⟨e45, by rw [e]; simp⟩
      rw [(head_app (q := q) ht).1, if_neg e1]
    · rw [if_neg (fun h => e45 h.1)]
theorem setGo_app : ∀ {n : Nat} {b : Bool} {p r q : Bs} {f g : UInt8 → Bool} {m : Nat}, n ≤ m → setGo n b p f = some (g, r) → setGo m b (p ++ q) f = some (g, r ++ q)
  | 0, b, p, r, q, f, g, m, _, h => by cases h
  | n + 1, b, p, r, q, f, g, 0, hm, h => by omega
  | n + 1, b, p, r, q, f, g, m + 1, hm, h => by
    rw [setGo] at h ⊢
    have hp : p ≠ [] := fun e => by
      subst e
      rw [if_neg (by simp)] at h; cases h
    rw [(head_app (q := q) hp).1, (head_app (q := q) hp).2]
    by_cases hc : b = false ∧ p.head? = some 93
    · rw [if_pos hc] at h ⊢; cases h; rfl
    · rw [if_neg hc] at h ⊢
      obtain ⟨⟨a, c, u⟩, hm', h2⟩ := Option.bind_eq_some_iff.1 h
      dsimp only at h2
      have hu : u ≠ [] := fun e => by
        subst e
        cases n with
        | zero => cases h2
        | succ n => rw [setGo, if_neg (by simp)] at h2; cases h2
      rw [memL_app hm' hu, Option.bind_some]
      exact setGo_app (by omega) h2
theorem setL_app {p r q : Bs} {x : Stp} (h : setL p = some (x, r)) : setL (p ++ q) = some (x, r ++ q) := by
  unfold setL at h ⊢
  obtain ⟨⟨f, r'⟩, hg, h2⟩ := Option.map_eq_some_iff.1 h
  cases h2
  have hp : p ≠ [] := fun e => by subst e; cases hg
  have e1 : negB (p ++ q) = negB p := by unfold negB; rw [(head_app (q := q) hp).1]
  have e2 : bodyB (p ++ q) = bodyB p ++ q := by
    unfold bodyB; rw [e1, (head_app (q := q) hp).2]; split <;> rfl
  rw [e1, e2, setGo_app (m := (bodyB p ++ q).length + 1) (by rw [List.length_append]; omega) hg]; rfl
theorem firstL_app {p r q : Bs} {x : Stp} (h : firstL p = some (x, r)) : firstL (p ++ q) = some (x, r ++ q) := by
  cases p with
  | nil => cases h
  | cons c t =>
    rw [List.cons_append]
    by_cases e1 : c = 42
    · subst e1; cases h; rfl
    by_cases e2 : c = 63
    · subst e2; cases h; rfl
    by_cases e3 : c = 91
    · subst e3; rw [firstL_set] at h ⊢; exact setL_app h
    rw [firstL_lit e1 e2 e3] at h ⊢
    obtain ⟨⟨d, u⟩, hl, h2⟩ := Option.map_eq_some_iff.1 h
    cases h2
    have := litL_app (q := q) hl
    rw [List.cons_append] at this
    rw [this]; rfl
theorem stepsGo_app : ∀ {n m : Nat} {p q : Bs} {a b : List Stp}, stepsGo n p = some a → stepsGo m q = some b → p.length ≤ n → q.length ≤ m → stepsGo (n + m) (p ++ q) = some (a ++ b)
  | n, m, [], q, a, b, h1, h2, _, hm => by
    have : a = [] := by cases n <;> (rw [stepsGo] at h1; cases h1; rfl)
    subst this
    rw [List.nil_append, List.nil_append, stepsGo_more (n := n + m) (m := m) (by omega) hm]; exact h2
  | 0, m, c :: t, q, a, b, h1, h2, hn, _ => by simp at hn
  | n + 1, m, c :: t, q, a, b, h1, h2, hn, hm => by
    rw [stepsGo] at h1
    obtain ⟨⟨y, r⟩, hf, h3⟩ := Option.bind_eq_some_iff.1 h1
    obtain ⟨l, hg, h4⟩ := Option.map_eq_some_iff.1 h3
    dsimp only at hg h4
    subst h4
    have hl := firstL_len hf
    have := stepsGo_app hg h2 (by simp at hn hl; omega) hm
    have hfa := firstL_app (q := q) hf
    rw [List.cons_append] at hfa
    rw [List.cons_append, show n + 1 + m = (n + m) + 1 by omega, stepsGo, hfa, Option.bind_some]
    dsimp only
    rw [this]; rfl
theorem match_join {p q x y : Bs} (hp : p.length ≤ 100) (hq : q.length ≤ 100) (h1 : matchL p x = true) (h2 : matchL q y = true) : matchL (p ++ q) (x ++ y) = true := by
  unfold matchL stepsL at *
  rw [if_neg (by omega)] at h1 h2
  rw [if_neg (by rw [List.length_append]; omega)]
  cases ha : stepsGo p.length p with
  | none => rw [ha] at h1; cases h1
  | some a =>
    cases hb : stepsGo q.length q with
    | none => rw [hb] at h2; cases h2
    | some b =>
      rw [ha] at h1; rw [hb] at h2
      rw [List.length_append, stepsGo_app ha hb (by omega) (by omega)]
      exact mB_append a b x y h1 h2
-- What stands for a text alone
def spec (c : UInt8) : Bool := c == 42 || c == 63 || c == 91 || c == 93 || c == 92
def plainL (s : Bs) : Bs := s.flatMap fun c => if spec c then [92, c] else [c]
theorem plainL_len (s : Bs) : (plainL s).length ≤ 2 * s.length := by
  induction s with
  | nil => simp [plainL]
  | cons c s ih =>
    have e : plainL (c :: s) = (if spec c then [92, c] else [c]) ++ plainL s := rfl
    rw [e, List.length_append, List.length_cons]
    split <;> (simp only [List.length_cons, List.length_nil]; omega)
theorem firstL_plain (c : UInt8) (t : Bs) : firstL ((if spec c then [92, c] else [c]) ++ t) = some (litS c, t) := by
  cases h : spec c with
  | true => rfl
  | false =>
    unfold spec at h
    simp only [Bool.or_eq_false_iff, beq_eq_false_iff_ne] at h
    obtain ⟨⟨⟨⟨h1, h2⟩, h3⟩, h4⟩, h5⟩ := h
    show firstL (c :: t) = _
    rw [firstL_lit h1 h2 h3, litL_one h5]; rfl
theorem steps_plain : ∀ (s : Bs) (n : Nat), (plainL s).length ≤ n → stepsGo n (plainL s) = some (s.map litS)
  | [], n, _ => by cases n <;> rfl
  | c :: s, n, h => by
    have e : plainL (c :: s) = (if spec c then [92, c] else [c]) ++ plainL s := rfl
    have hf := firstL_plain c (plainL s)
    have hl := firstL_len hf
    rw [← e] at hf hl
    cases n with
    | zero => omega
    | succ n =>
      cases hx : plainL (c :: s) with
      | nil => rw [hx] at hl; simp at hl
      | cons d u =>
        rw [hx] at hf hl h
        rw [stepsGo, hf, Option.bind_some]
        dsimp only
        rw [steps_plain s n (by simp at h hl; omega)]; rfl
theorem plain_right {s : Bs} (h : s.length ≤ 100) : stepsL (plainL s) = some (s.map litS) := by
  have := plainL_len s
  unfold stepsL
  rw [if_neg (by omega)]
  exact steps_plain s _ (Nat.le_refl _)
theorem plain_match {s t : Bs} (h : s.length ≤ 100) : matchL (plainL s) t = decide (t = s) := by
  unfold matchL; rw [plain_right h]; exact mB_lit s t
theorem star_match (t : Bs) : matchL [42] t = true := by
  have e : stepsL [42] = some [.star] := rfl
  unfold matchL; rw [e]; exact mB_all t
end Go.Proofs.Ytapdmlejgakhaaa
