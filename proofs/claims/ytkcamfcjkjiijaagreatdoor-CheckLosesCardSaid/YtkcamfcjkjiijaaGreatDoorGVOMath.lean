/-
  The order of texts byte by byte: what a text is at, steps, and numbers with the first other digit kept; nothing of the program.
-/
import Derived.Test.YtkcamfcjkjiijaaGreatDoorGVMath
namespace Go.Proofs.YtkcamfcjkjiijaaGreatDoor
/-- The weight of what a text is at. -/
def atW : Bs → Int
  | [] => 0
  | c :: _ => if dgB c = true then 0 else wt c
theorem wt_ne (c : UInt8) : wt c ≠ 0 := by
  unfold wt
  by_cases h : c.toNat = 126
  · rw [if_pos h]; omega
  · rw [if_neg h]
    by_cases g : ltB c = true
    · rw [if_pos g]
      simp only [ltB, Bool.or_eq_true, Bool.and_eq_true, decide_eq_true_eq] at g
      omega
    · rw [if_neg g]; omega
theorem nonD_yes {c : UInt8} {t : Bs} (h : dgB c = true) : nonD (c :: t) = [] := by simp [nonD, h]
theorem nonD_no {c : UInt8} {t : Bs} (h : dgB c = false) : nonD (c :: t) = c :: nonD t := by simp [nonD, h]
theorem digs_no {c : UInt8} {t : Bs} (h : dgB c = false) : digs (c :: t) = digs t := by unfold digs; rw [nonD_no h]; rfl
theorem rest_no {c : UInt8} {t : Bs} (h : dgB c = false) : rest (c :: t) = rest t := by
  unfold rest; rw [nonD_no h, digs_no h, List.length_cons, show (nonD t).length + 1 + (digs t).length = ((nonD t).length + (digs t).length) + 1 from by omega, List.drop_succ_cons]
theorem atW_hd (s : Bs) : hd 0 ((nonD s).map wt) = atW s := by
  cases s with
  | nil => rfl
  | cons c t =>
    cases h : dgB c
    · rw [nonD_no h]; simp [hd, atW, h]
    · rw [nonD_yes h]; simp [hd, atW, h]
theorem atW_zero {s : Bs} (h : atW s = 0) : nonD s = [] := by
  cases s with
  | nil => rfl
  | cons c t =>
    cases g : dgB c
    · have := wt_ne c
      simp [atW, g] at h
      exact absurd h this
    · exact nonD_yes g
theorem order_ne {a b : Bs} (h : atW a ≠ atW b) : order a b = sgn (atW a) (atW b) := by
  have hs : sgn (atW a) (atW b) ≠ 0 := by have := sgn_cases (atW a) (atW b); omega
  have hw : wcmp (nonD a) (nonD b) = sgn (atW a) (atW b) := by
    unfold wcmp
    rw [lexL_next sgn_good, atW_hd, atW_hd, if_pos hs]
  rw [order_next, hw, if_pos hs]
theorem order_skip {c d : UInt8} {t u : Bs} (hc : dgB c = false) (hd : dgB d = false) (e : wt c = wt d) : order (c :: t) (d :: u) = order t u := by
  rw [order_next (c :: t) (d :: u), order_next t u, digs_no hc, digs_no hd, rest_no hc, rest_no hd, nonD_no hc, nonD_no hd]
  have : wcmp (c :: nonD t) (d :: nonD u) = wcmp (nonD t) (nonD u) := by
    unfold wcmp
    rw [List.map_cons, List.map_cons, lexL_next sgn_good]
    simp only [Go.Proofs.YtkcamfcjkjiijaaGreatDoor.hd, List.head?_cons, Option.getD_some, List.tail_cons, e, sgn_eq, ne_eq, not_true, if_false]
  rw [this]
def dfin (f : Int) (n m : Bs) : Int := if n.length < m.length then -1 else if m.length < n.length then 1 else if f ≠ 0 then f else bcmp n m
theorem dfin_ncmp (n m : Bs) : dfin 0 n m = ncmp n m := by
  rw [ncmp_both]
  unfold dfin both
  show _ = if sgn (n.length : Int) (m.length : Int) ≠ 0 then sgn (n.length : Int) (m.length : Int) else bcmp n m
  by_cases h : n.length < m.length
  · rw [if_pos h, sgn_lt (by omega)]; rfl
  · by_cases g : m.length < n.length
    · rw [if_neg h, if_pos g, sgn_gt (by omega)]; rfl
    · have e : n.length = m.length := by omega
      rw [if_neg h, if_neg g, e, sgn_eq]
theorem bcmp_cons (c d : UInt8) (n m : Bs) : bcmp (c :: n) (d :: m) = if sgn c.toNat d.toNat ≠ 0 then sgn c.toNat d.toNat else bcmp n m := by
  unfold bcmp
  rcases Nat.lt_trichotomy c.toNat d.toNat with h | h | h
  · have hl : c < d := UInt8.lt_iff_toNat_lt.2 h
    rw [if_pos (List.cons_lt_cons_iff.2 (.inl hl)), sgn_lt (by omega)]; rfl
  · have e : c = d := UInt8.toNat_inj.1 h
    subst e
    rw [sgn_eq]
    simp
  · have hl : ¬ c < d := fun g => by have := UInt8.lt_iff_toNat_lt.1 g; omega
    have hn : c ≠ d := fun g => by subst g; omega
    rw [if_neg (fun g => by rcases List.cons_lt_cons_iff.1 g with g | g; exact hl g; exact hn g.1), if_neg (fun g => by injection g with g _; exact hn g), sgn_gt (by omega)]; rfl
def orI (f g : Int) : Int := if f ≠ 0 then f else g
theorem dfin_step (f : Int) (c d : UInt8) (n m : Bs) : dfin f (c :: n) (d :: m) = dfin (orI f (sgn c.toNat d.toNat)) n m := by
  unfold dfin orI
  rw [List.length_cons, List.length_cons, bcmp_cons]
  by_cases h : n.length < m.length
  · rw [if_pos (by omega), if_pos h]
  · by_cases g : m.length < n.length
    · rw [if_neg (by omega), if_pos (by omega), if_neg h, if_pos g]
    · rw [if_neg (by omega), if_neg (by omega), if_neg h, if_neg g]
      by_cases e : f = 0
      · subst e; simp
      · simp [e]
/-- What two numbers' rests tell, f being the first other digit so far. -/
def numR (f : Int) (x y : Bs) : Int := dfin f (x.takeWhile dgB) (y.takeWhile dgB)
theorem numR_both {c d : UInt8} {x y : Bs} (f : Int) (hc : dgB c = true) (hd : dgB d = true) : numR f (c :: x) (d :: y) = numR (orI f (sgn c.toNat d.toNat)) x y := by
  unfold numR; rw [List.takeWhile_cons, List.takeWhile_cons, if_pos hc, if_pos hd, dfin_step]
theorem tail_dg {c : UInt8} {x : Bs} (hc : dgB c = true) : (c :: x).dropWhile dgB = x.dropWhile dgB := by rw [List.dropWhile_cons, if_pos hc]
theorem take_none {x : Bs} (h : headDg x = false) : x.takeWhile dgB = [] ∧ x.dropWhile dgB = x := by
  cases x with
  | nil => exact ⟨rfl, rfl⟩
  | cons c x =>
    have h' : dgB c = false := h
    rw [List.takeWhile_cons, List.dropWhile_cons, if_neg (by simp [h']), if_neg (by simp [h'])]; exact ⟨rfl, rfl⟩
theorem take_some {x : Bs} (h : headDg x = true) : 0 < (x.takeWhile dgB).length := by
  cases x with
  | nil => cases h
  | cons c x =>
    have h' : dgB c = true := h
    rw [List.takeWhile_cons, if_pos h']; simp
theorem numR_a {x y : Bs} (f : Int) (hx : headDg x = true) (hy : headDg y = false) : numR f x y = 1 := by
  have := take_some hx
  unfold numR dfin; rw [(take_none hy).1, if_neg (by simp), if_pos (by simpa using this)]
theorem numR_b {x y : Bs} (f : Int) (hx : headDg x = false) (hy : headDg y = true) : numR f x y = -1 := by
  have := take_some hy
  unfold numR dfin; rw [(take_none hx).1, if_pos (by simpa using this)]
theorem numR_end {x y : Bs} (f : Int) (hx : headDg x = false) (hy : headDg y = false) : numR f x y = f := by
  unfold numR dfin; rw [(take_none hx).1, (take_none hy).1]
  by_cases h : f = 0
  · subst h; decide
  · simp [h]
theorem noughts_take (l : Bs) : (noughts l).takeWhile dgB = noughts (l.takeWhile dgB) ∧ (noughts l).dropWhile dgB = l.dropWhile dgB := by
  induction l with
  | nil => exact ⟨rfl, rfl⟩
  | cons c t ih =>
    by_cases h : c = 48
    · subst h
      have e1 : noughts ((48 : UInt8) :: t) = noughts t := by simp [noughts]
      have e2 : ((48 : UInt8) :: t).takeWhile dgB = 48 :: t.takeWhile dgB := by rw [List.takeWhile_cons, if_pos (by decide)]
      have e3 : noughts ((48 : UInt8) :: t.takeWhile dgB) = noughts (t.takeWhile dgB) := by simp [noughts]
      rw [e1, e2, e3, tail_dg (by decide)]
      exact ih
    · have e1 : ∀ u : Bs, noughts (c :: u) = c :: u := fun u => by simp [noughts, h]
      rw [e1]
      refine ⟨?_, rfl⟩
      cases g : dgB c
      · rw [List.takeWhile_cons, if_neg (by simp [g])]; rfl
      · rw [List.takeWhile_cons, if_pos g, e1]
theorem at_stop {a : Bs} (h : atW a = 0) : digs a = a.takeWhile dgB ∧ rest a = a.dropWhile dgB := by
  have h0 := atW_zero h
  have e : digs a = a.takeWhile dgB := by unfold digs; rw [h0]; rfl
  refine ⟨e, ?_⟩
  unfold rest
  rw [e, h0, List.length_nil, Nat.zero_add]
  have := List.takeWhile_append_dropWhile (p := dgB) (l := a)
  conv => lhs; rw [← this]
  rw [List.drop_left' (by rw [this])]
/-- Two numbers, and then the rests. -/
theorem order_num {a b : Bs} (ha : atW a = 0) (hb : atW b = 0) : order a b = if numR 0 (noughts a) (noughts b) ≠ 0 then numR 0 (noughts a) (noughts b) else order ((noughts a).dropWhile dgB) ((noughts b).dropWhile dgB) := by
  rw [order_next, atW_zero ha, atW_zero hb, (at_stop ha).1, (at_stop hb).1, (at_stop ha).2, (at_stop hb).2]
  have hw : wcmp [] [] = 0 := by decide
  rw [hw, if_neg (by omega), (noughts_take a).2, (noughts_take b).2]
  unfold numR
  rw [(noughts_take a).1, (noughts_take b).1, dfin_ncmp]
theorem drop_le (l : Bs) : (l.dropWhile dgB).length ≤ l.length := (List.dropWhile_sublist _).length_le
/-- What is at a stop, and is not empty, gets shorter. -/
theorem stop_lt {a : Bs} (h : atW a = 0) (hne : a ≠ []) : (a.dropWhile dgB).length < a.length := by
  rw [← (at_stop h).2]; exact rest_lt a hne
-- Marks
theorem only_same {m m' s : Bs} (h : ∀ c ∈ s, m.contains c = m'.contains c) : onlyB m s = onlyB m' s := by
  unfold onlyB
  rw [Bool.eq_iff_iff, List.all_eq_true, List.all_eq_true]
  exact ⟨fun g c hc => by rw [← h c hc]; exact g c hc, fun g c hc => by rw [h c hc]; exact g c hc⟩
theorem cut_sub (s : Bs) : ∀ c ∈ (cutHy s).1, c ∈ s := by
  unfold cutHy
  split
  · exact fun c h => h
  · exact fun c h => List.mem_of_mem_take h
theorem restV_plain {e : Int} {s : Bs} (h : (58 : UInt8) ∉ s) : restV e [46, 43, 45, 126] s = restV e [46, 43, 45, 126, 58] s := by
  unfold restV
  rw [only_same (m := [46, 43, 45, 126]) (m' := [46, 43, 45, 126, 58]) (s := (cutHy s).1)]
  intro c hc
  have hn : c ≠ 58 := fun e => h (e ▸ cut_sub s c hc)
  simp [hn]
end Go.Proofs.YtkcamfcjkjiijaaGreatDoor
