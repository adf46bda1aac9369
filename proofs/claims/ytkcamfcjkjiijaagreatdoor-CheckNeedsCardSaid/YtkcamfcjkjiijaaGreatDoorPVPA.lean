/-
  The program's digit, letter, begins, weight, consists, and which parts of a version may be: what each returns; the world stays as it was.
-/
import Derived.Test.YtkcamfcjkjiijaaGreatDoorPVMath
import Derived.Test.YtkcamfcjkjiijaaGreatDoorPVRefB
import Derived.Test.YtkcamfcjkjiijaaGreatDoorPShelf
namespace Go.Proofs.YtkcamfcjkjiijaaGreatDoor
/-- The weight of what a text is at. -/
def atW : Bs → Int
  | [] => 0
  | c :: _ => if dgB c = true then 0 else wt c
theorem wt_ne (c : UInt8) : wt c ≠ 0 := by
  unfold wt
  by_cases h : c.toNat = 126
  · rw [if_pos h]; omega
  · rw [if_neg h]
    by_cases g : ltB c = true
    · rw [if_pos g]
      simp only [ltB, Bool.or_eq_true, Bool.and_eq_true, decide_eq_true_eq] at g
      omega
    · rw [if_neg g]; omega
theorem nonD_yes {c : UInt8} {t : Bs} (h : dgB c = true) : nonD (c :: t) = [] := by simp [nonD, h]
theorem nonD_no {c : UInt8} {t : Bs} (h : dgB c = false) : nonD (c :: t) = c :: nonD t := by simp [nonD, h]
theorem digs_no {c : UInt8} {t : Bs} (h : dgB c = false) : digs (c :: t) = digs t := by unfold digs; rw [nonD_no h]; rfl
theorem rest_no {c : UInt8} {t : Bs} (h : dgB c = false) : rest (c :: t) = rest t := by
  unfold rest; rw [nonD_no h, digs_no h, List.length_cons, show (nonD t).length + 1 + (digs t).length = ((nonD t).length + (digs t).length) + 1 from by omega, List.drop_succ_cons]
theorem atW_hd (s : Bs) : hd 0 ((nonD s).map wt) = atW s := by
  cases s with
  | nil => rfl
  | cons c t =>
    cases h : dgB c
    · rw [nonD_no h]; simp [hd, atW, h]
    · rw [nonD_yes h]; simp [hd, atW, h]
theorem atW_zero {s : Bs} (h : atW s = 0) : nonD s = [] := by
  cases s with
  | nil => rfl
  | cons c t =>
    cases g : dgB c
    · have := wt_ne c
      simp [atW, g] at h
      exact absurd h this
    · exact nonD_yes g
theorem order_ne {a b : Bs} (h : atW a ≠ atW b) : order a b = sgn (atW a) (atW b) := by
  have hs : sgn (atW a) (atW b) ≠ 0 := by have := sgn_cases (atW a) (atW b); omega
  have hw : wcmp (nonD a) (nonD b) = sgn (atW a) (atW b) := by
    unfold wcmp
    rw [lexL_next sgn_good, atW_hd, atW_hd, if_pos hs]
  rw [order_next, hw, if_pos hs]
theorem order_skip {c d : UInt8} {t u : Bs} (hc : dgB c = false) (hd : dgB d = false) (e : wt c = wt d) : order (c :: t) (d :: u) = order t u := by
  rw [order_next (c :: t) (d :: u), order_next t u, digs_no hc, digs_no hd, rest_no hc, rest_no hd, nonD_no hc, nonD_no hd]
  have : wcmp (c :: nonD t) (d :: nonD u) = wcmp (nonD t) (nonD u) := by
    unfold wcmp
    rw [List.map_cons, List.map_cons, lexL_next sgn_good]
    simp only [Go.Proofs.YtkcamfcjkjiijaaGreatDoor.hd, List.head?_cons, Option.getD_some, List.tail_cons, e, sgn_eq, ne_eq, not_true, if_false]
  rw [this]
def dfin (f : Int) (n m : Bs) : Int := if n.length < m.length then -1 else if m.length < n.length then 1 else if f ≠ 0 then f else bcmp n m
theorem dfin_ncmp (n m : Bs) : dfin 0 n m = ncmp n m := by
  rw [ncmp_both]
  unfold dfin both
  show _ = if sgn (n.length : Int) (m.length : Int) ≠ 0 then sgn (n.length : Int) (m.length : Int) else bcmp n m
  by_cases h : n.length < m.length
  · rw [if_pos h, sgn_lt (by omega)]; rfl
  · by_cases g : m.length < n.length
    · rw [if_neg h, if_pos g, sgn_gt (by omega)]; rfl
    · have e : n.length = m.length := by omega
      rw [if_neg h, if_neg g, e, sgn_eq]
theorem bcmp_cons (c d : UInt8) (n m : Bs) : bcmp (c :: n) (d :: m) = if sgn c.toNat d.toNat ≠ 0 then sgn c.toNat d.toNat else bcmp n m := by
  unfold bcmp
  rcases Nat.lt_trichotomy c.toNat d.toNat with h | h | h
  · have hl : c < d := UInt8.lt_iff_toNat_lt.2 h
    rw [if_pos (List.cons_lt_cons_iff.2 (.inl hl)), sgn_lt (by omega)]; rfl
  · have e : c = d := UInt8.toNat_inj.1 h
    subst e
    rw [sgn_eq]
    simp
  · have hl : ¬ c < d := fun g => by have := UInt8.lt_iff_toNat_lt.1 g; omega
    have hn : c ≠ d := fun g => by subst g; omega
    rw [if_neg (fun g => by rcases List.cons_lt_cons_iff.1 g with g | g; exact hl g; exact hn g.1), if_neg (fun g => by injection g with g _; exact hn g), sgn_gt (by omega)]; rfl
def orI (f g : Int) : Int := if f ≠ 0 then f else g
theorem dfin_step (f : Int) (c d : UInt8) (n m : Bs) : dfin f (c :: n) (d :: m) = dfin (orI f (sgn c.toNat d.toNat)) n m := by
  unfold dfin orI
  rw [List.length_cons, List.length_cons, bcmp_cons]
  by_cases h : n.length < m.length
  · rw [if_pos (by omega), if_pos h]
  · by_cases g : m.length < n.length
    · rw [if_neg (by omega), if_pos (by omega), if_neg h, if_pos g]
    · rw [if_neg (by omega), if_neg (by omega), if_neg h, if_neg g]
      by_cases e : f = 0
      · subst e; simp
      · simp [e]
/-- What two numbers' rests tell, f being the first other digit so far. -/
def numR (f : Int) (x y : Bs) : Int := dfin f (x.takeWhile dgB) (y.takeWhile dgB)
theorem numR_both {c d : UInt8} {x y : Bs} (f : Int) (hc : dgB c = true) (hd : dgB d = true) : numR f (c :: x) (d :: y) = numR (orI f (sgn c.toNat d.toNat)) x y := by
  unfold numR; rw [List.takeWhile_cons, List.takeWhile_cons, if_pos hc, if_pos hd, dfin_step]
theorem tail_dg {c : UInt8} {x : Bs} (hc : dgB c = true) : (c :: x).dropWhile dgB = x.dropWhile dgB := by rw [List.dropWhile_cons, if_pos hc]
theorem take_none {x : Bs} (h : headDg x = false) : x.takeWhile dgB = [] ∧ x.dropWhile dgB = x := by
  cases x with
  | nil => exact ⟨rfl, rfl⟩
  | cons c x =>
    have h' : dgB c = false := h
    rw [List.takeWhile_cons, List.dropWhile_cons, if_neg (by simp [h']), if_neg (by simp [h'])]; exact ⟨rfl, rfl⟩
theorem take_some {x : Bs} (h : headDg x = true) : 0 < (x.takeWhile dgB).length := by
  cases x with
  | nil => cases h
  | cons c x =>
    have h' : dgB c = true := h
    rw [List.takeWhile_cons, if_pos h']; simp
theorem numR_a {x y : Bs} (f : Int) (hx : headDg x = true) (hy : headDg y = false) : numR f x y = 1 := by
  have := take_some hx
  unfold numR dfin; rw [(take_none hy).1, if_neg (by simp), if_pos (by simpa using this)]
theorem numR_b {x y : Bs} (f : Int) (hx : headDg x = false) (hy : headDg y = true) : numR f x y = -1 := by
  have := take_some hy
  unfold numR dfin; rw [(take_none hx).1, if_pos (by simpa using this)]
theorem numR_end {x y : Bs} (f : Int) (hx : headDg x = false) (hy : headDg y = false) : numR f x y = f := by
  unfold numR dfin; rw [(take_none hx).1, (take_none hy).1]
  by_cases h : f = 0
  · subst h; decide
  · simp [h]
theorem noughts_take (l : Bs) : (noughts l).takeWhile dgB = noughts (l.takeWhile dgB) ∧ (noughts l).dropWhile dgB = l.dropWhile dgB := by
  induction l with
  | nil => exact ⟨rfl, rfl⟩
  | cons c t ih =>
    by_cases h : c = 48
    · subst h
      have e1 : noughts ((48 : UInt8) :: t) = noughts t := by simp [noughts]
      have e2 : ((48 : UInt8) :: t).takeWhile dgB = 48 :: t.takeWhile dgB := by rw [List.takeWhile_cons, if_pos (by decide)]
      have e3 : noughts ((48 : UInt8) :: t.takeWhile dgB) = noughts (t.takeWhile dgB) := by simp [noughts]
      rw [e1, e2, e3, tail_dg (by decide)]
      exact ih
    · have e1 : ∀ u : Bs, noughts (c :: u) = c :: u := fun u => by simp [noughts, h]
      rw [e1]
      refine ⟨?_, rfl⟩
      cases g : dgB c
      · rw [List.takeWhile_cons, if_neg (by simp [g])]; rfl
      · rw [List.takeWhile_cons, if_pos g, e1]
theorem at_stop {a : Bs} (h : atW a = 0) : digs a = a.takeWhile dgB ∧ rest a = a.dropWhile dgB := by
  have h0 := atW_zero h
  have e : digs a = a.takeWhile dgB := by unfold digs; rw [h0]; rfl
  refine ⟨e, ?_⟩
  unfold rest
  rw [e, h0, List.length_nil, Nat.zero_add]
  have := List.takeWhile_append_dropWhile (p := dgB) (l := a)
  conv => lhs; rw [← this]
  rw [List.drop_left' (by rw [this])]
/-- Two numbers, and then the rests. -/
theorem order_num {a b : Bs} (ha : atW a = 0) (hb : atW b = 0) : order a b = if numR 0 (noughts a) (noughts b) ≠ 0 then numR 0 (noughts a) (noughts b) else order ((noughts a).dropWhile dgB) ((noughts b).dropWhile dgB) := by
  rw [order_next, atW_zero ha, atW_zero hb, (at_stop ha).1, (at_stop hb).1, (at_stop ha).2, (at_stop hb).2]
  have hw : wcmp [] [] = 0 := by decide
  rw [hw, if_neg (by omega), (noughts_take a).2, (noughts_take b).2]
  unfold numR
  rw [(noughts_take a).1, (noughts_take b).1, dfin_ncmp]
theorem drop_le (l : Bs) : (l.dropWhile dgB).length ≤ l.length := (List.dropWhile_sublist _).length_le
/-- What is at a stop, and is not empty, gets shorter. -/
theorem stop_lt {a : Bs} (h : atW a = 0) (hne : a ≠ []) : (a.dropWhile dgB).length < a.length := by
  rw [← (at_stop h).2]; exact rest_lt a hne
-- Marks
theorem only_same {m m' s : Bs} (h : ∀ c ∈ s, m.contains c = m'.contains c) : onlyB m s = onlyB m' s := by
  unfold onlyB
  rw [Bool.eq_iff_iff, List.all_eq_true, List.all_eq_true]
  exact ⟨fun g c hc => by rw [← h c hc]; exact g c hc, fun g c hc => by rw [h c hc]; exact g c hc⟩
theorem cut_sub (s : Bs) : ∀ c ∈ (cutHy s).1, c ∈ s := by
  unfold cutHy
  split
  · exact fun c h => h
  · exact fun c h => List.mem_of_mem_take h
theorem restV_plain {e : Int} {s : Bs} (h : (58 : UInt8) ∉ s) : restV e [46, 43, 45, 126] s = restV e [46, 43, 45, 126, 58] s := by
  unfold restV
  rw [only_same (m := [46, 43, 45, 126]) (m' := [46, 43, 45, 126, 58]) (s := (cutHy s).1)]
  intro c hc
  have hn : c ≠ 58 := fun e => h (e ▸ cut_sub s c hc)
  simp [hn]
end Go.Proofs.YtkcamfcjkjiijaaGreatDoor
namespace Go.Proofs.YtkcamfcjkjiijaaGreatDoor
open Go.RowKit
theorem digit_any (c : UInt8) (w : World) : Calls Tryz.prog 170 #[.int .u8 c.toNat] w fun e w' => e = .returned (.bool (dgB c)) ∧ w = w' := by
  have hc := c.toNat_lt
  obtain ⟨B, HB⟩ : ∃ B, Hid (dgB c = B) := ⟨_, rfl⟩
  rw [HB.out]
  unfold dgB at HB
  generalize c.toNat = n at *
  by_cases h1 : 48 ≤ n
  · go_enter Tryz.func170, Tryz.ntmps170
    go_wp2
    go_ret
    exact ⟨retb (by rw [← HB.out, Bool.eq_iff_iff]; simp only [Bool.and_eq_true, decide_eq_true_eq]; omega), rfl⟩
  · go_enter Tryz.func170, Tryz.ntmps170
    go_wp2
    go_ret
    exact ⟨retb (by rw [← HB.out, decide_eq_false h1]; rfl), rfl⟩
theorem letter_any (c : UInt8) (w : World) : Calls Tryz.prog 171 #[.int .u8 c.toNat] w fun e w' => e = .returned (.bool (ltB c)) ∧ w = w' := by
  have hc := c.toNat_lt
  obtain ⟨B, HB⟩ : ∃ B, Hid (ltB c = B) := ⟨_, rfl⟩
  rw [HB.out]
  unfold ltB at HB
  generalize c.toNat = n at *
  by_cases h1 : 97 ≤ n
  · by_cases h2 : n ≤ 122
    · go_enter Tryz.func171, Tryz.ntmps171
      go_wp2
      go_ret
      exact ⟨retb (by rw [← HB.out, Bool.eq_iff_iff]; simp only [Bool.or_eq_true, Bool.and_eq_true, decide_eq_true_eq, true_iff]; omega), rfl⟩
    · go_enter Tryz.func171, Tryz.ntmps171
      go_wp2
      go_ret
      exact ⟨retb (by rw [← HB.out, Bool.eq_iff_iff]; simp only [Bool.or_eq_true, Bool.and_eq_true, decide_eq_true_eq]; omega), rfl⟩
  · by_cases h3 : 65 ≤ n
    · go_enter Tryz.func171, Tryz.ntmps171
      go_wp2
      go_ret
      exact ⟨retb (by rw [← HB.out, Bool.eq_iff_iff]; simp only [Bool.or_eq_true, Bool.and_eq_true, decide_eq_true_eq]; omega), rfl⟩
    · go_enter Tryz.func171, Tryz.ntmps171
      go_wp2
      go_ret
      exact ⟨retb (by rw [← HB.out, Bool.eq_iff_iff]; simp only [Bool.or_eq_true, Bool.and_eq_true, decide_eq_true_eq, Bool.false_eq_true, false_iff]; omega), rfl⟩
theorem cons_of {s : ByteArray} (h : 0 < s.size) : s.data.toList = s[0] :: s.data.toList.drop 1 := by
  have := dropC s 0 h
  rwa [List.drop_zero] at this
theorem nil_of {s : ByteArray} (h : s.size = 0) : s.data.toList = [] := List.eq_nil_of_length_eq_zero (by rw [← sizeOf]; exact h)
theorem head_cons {s : ByteArray} (h : 0 < s.size) : headDg s.data.toList = dgB s[0] := by rw [cons_of h]; rfl
theorem headDg_nil {s : ByteArray} (h : s.size = 0) : headDg s.data.toList = false := by rw [nil_of h]; rfl
theorem begins_any (s : ByteArray) (w : World) : Calls Tryz.prog 158 #[.string s] w fun e w' => e = .returned (.bool (headDg s.data.toList)) ∧ w = w' := by
  have C := fun c w => digit_any c w
  by_cases h : 0 < s.size
  · rw [head_cons h]
    have e1 : s.toList.isEmpty = false := by rw [emptyT, decide_eq_false (by omega)]
    have D := C s[0]
    have hc := s[0].toNat_lt
    clear C
    go_enter Tryz.func158, Tryz.ntmps158
    go_wp2_with (go_at_call 170; refine (D _).mono ?_; rintro e w1 ⟨rfl, rfl⟩)
    go_ret
    exact ⟨rfl, rfl⟩
  · rw [headDg_nil (by omega)]
    have e1 : s.toList.isEmpty = true := by rw [emptyT, decide_eq_true (by omega)]
    clear C
    go_enter Tryz.func158, Tryz.ntmps158
    go_wp2
    go_ret
    exact ⟨rfl, rfl⟩
theorem at_nil {s : ByteArray} (h : s.size = 0) : atW s.data.toList = 0 := by rw [nil_of h]; rfl
theorem at_dg {s : ByteArray} (h : 0 < s.size) (g : dgB s[0] = true) : atW s.data.toList = 0 := by rw [cons_of h]; simp [atW, g]
theorem at_no {s : ByteArray} (h : 0 < s.size) (g : dgB s[0] = false) : atW s.data.toList = wt s[0] := by rw [cons_of h]; simp [atW, g]
theorem weight_any (s : ByteArray) (w : World) : Calls Tryz.prog 156 #[.string s] w fun e w' => e = .returned (.int .i64 (atW s.data.toList)) ∧ w = w' := by
  by_cases h : 0 < s.size
  · have e1 : s.toList.isEmpty = false := by rw [emptyT, decide_eq_false (by omega)]
    have D := fun w => digit_any s[0] w
    have L := fun w => letter_any s[0] w
    have hc := s[0].toNat_lt
    cases hd : dgB s[0]
    · rw [at_no h hd]
      rw [hd] at D
      by_cases h1 : s[0].toNat = 126
      · rw [wt_tilde h1]
        have h1' : ((s[0].toNat : Int) == 126) = true := by rw [h1]; rfl
        clear hd L h1
        go_enter Tryz.func156, Tryz.ntmps156
        go_wp2_with (go_at_call 170; refine (D _).mono ?_; rintro e w1 ⟨rfl, rfl⟩)
        go_ret
        exact ⟨rfl, rfl⟩
      · have h1' : ((s[0].toNat : Int) == 126) = false := by rw [beq_eq_false_iff_ne]; omega
        cases h2 : ltB s[0]
        · rw [wt_other h1 h2]
          rw [h2] at L
          clear hd h2 h1
          go_enter Tryz.func156, Tryz.ntmps156
          go_wp2_with (first | (go_at_call 170; refine (D _).mono ?_; rintro e w1 ⟨rfl, rfl⟩) | (go_at_call 171; refine (L _).mono ?_; rintro e w1 ⟨rfl, rfl⟩))
          go_ret
          exact ⟨rfl, rfl⟩
        · rw [wt_letter h1 h2]
          rw [h2] at L
          clear hd h2 h1
          go_enter Tryz.func156, Tryz.ntmps156
          go_wp2_with (first | (go_at_call 170; refine (D _).mono ?_; rintro e w1 ⟨rfl, rfl⟩) | (go_at_call 171; refine (L _).mono ?_; rintro e w1 ⟨rfl, rfl⟩))
          go_ret
          exact ⟨rfl, rfl⟩
    · rw [at_dg h hd]
      rw [hd] at D
      clear hd L
      go_enter Tryz.func156, Tryz.ntmps156
      go_wp2_with (go_at_call 170; refine (D _).mono ?_; rintro e w1 ⟨rfl, rfl⟩)
      go_ret
      exact ⟨rfl, rfl⟩
  · rw [at_nil (by omega)]
    have e1 : s.toList.isEmpty = true := by rw [emptyT, decide_eq_true (by omega)]
    go_enter Tryz.func156, Tryz.ntmps156
    go_wp2
    go_ret
    exact ⟨rfl, rfl⟩
theorem idx_mem (l : Bs) (c : UInt8) : Lib.indexByte l c < 0 ↔ l.contains c = false := by
  induction l with
  | nil => simp [Lib.indexByte]
  | cons b l ih =>
    have hge := Lib.indexByte_ge l c
    unfold Lib.indexByte
    by_cases h : b = c
    · subst h; simp
    · have h' : ¬ c = b := fun g => h g.symm
      rw [if_neg (by simpa using h)]
      by_cases g : Lib.indexByte l c = -1
      · rw [if_pos (by simpa using g)]
        have := ih.1 (by omega)
        simp only [List.contains_cons, this, Bool.or_false]
        simp [h']
      · rw [if_neg (by simpa using g)]
        have hn : ¬ Lib.indexByte l c < 0 := by omega
        constructor
        · intro _; omega
        · intro hf
          have : l.contains c = false := by simp only [List.contains_cons, Bool.or_eq_false_iff] at hf; exact hf.2
          exact absurd (ih.2 this) hn
set_option maxHeartbeats 1000000 in
theorem consists_any (s m : ByteArray) (hs : s.size ≤ 100000) (w : World) : Calls Tryz.prog 186 #[.string s, .string m] w fun e w' => e = .returned (.bool (onlyB m.data.toList s.data.toList)) ∧ w = w' := by
  obtain ⟨R, HR⟩ : ∃ R, Hid (onlyB m.data.toList s.data.toList = R) := ⟨_, rfl⟩
  rw [HR.out]
  have DA := fun c w => digit_any c w
  have LA := fun c w => letter_any c w
  go_enter Tryz.func186, Tryz.ntmps186
  go_wp2
  go_loop [8] (fun i => ∃ k : Nat, k ≤ s.size ∧ i = .int .i64 k ∧ Hid ((s.data.toList.take k).all (fun c => dgB c || ltB c || m.data.toList.contains c) = true)) (fun i => s.size - (intOf i).toNat)
  case atStart => exact ⟨0, by omega, rfl, Lib.hid (by simp)⟩
  case round =>
    obtain ⟨k, hk, rfl, H⟩ := hrel
    by_cases hlt : k < s.size
    · have hc := s[k].toNat_lt
      have D := DA s[k]
      have L := LA s[k]
      have C3 := fun w => Tryz.strings_IndexByte m (s[k].toNat : Int) w
      have hx : (s[k].toNat : Int).toNat.toUInt8 = s[k] := by rw [Int.toNat_natCast]; simp
      simp only [hx] at C3
      have hge := Lib.indexByte_ge m.data.toList s[k]
      have hix := idx_mem m.data.toList s[k]
      generalize Lib.indexByte m.data.toList s[k] = ix at *
      have hN : (dgB s[k] || ltB s[k] || m.data.toList.contains s[k]) = true → Hid ((s.data.toList.take (k + 1)).all (fun c => dgB c || ltB c || m.data.toList.contains c) = true) := fun g => Lib.hid (allNx hlt H.out g)
      have hS : (dgB s[k] || ltB s[k] || m.data.toList.contains s[k]) = false → Hid (false = R) := fun g => Lib.hid (by rw [← HR.out]; unfold onlyB; exact (allSt hlt g).symm)
      clear hx DA LA
      cases hl : ltB s[k]
      · rw [hl] at L hN hS
        cases hd : dgB s[k]
        · rw [hd] at D hN hS
          cases hm : m.data.toList.contains s[k]
          · rw [hm] at hN hS
            have hneg : ix < 0 := hix.2 hm
            have HS := hS rfl
            clear hix hl hd hm hN hS
            go_wp2_with (first | (go_at_call 171; refine (L _).mono ?_; rintro e w1 ⟨rfl, rfl⟩) | (go_at_call 170; refine (D _).mono ?_; rintro e w1 ⟨rfl, rfl⟩) | (go_at_call 102; refine (C3 _).mono ?_; rintro e w1 ⟨rfl, rfl⟩))
            go_ret
            exact ⟨retb HS.out, rfl⟩
          · rw [hm] at hN hS
            have hneg : ¬ ix < 0 := fun h => by rw [hix.1 h] at hm; cases hm
            have HN := hN rfl
            clear hix hl hd hm hN hS
            go_wp2_with (first | (go_at_call 171; refine (L _).mono ?_; rintro e w1 ⟨rfl, rfl⟩) | (go_at_call 170; refine (D _).mono ?_; rintro e w1 ⟨rfl, rfl⟩) | (go_at_call 102; refine (C3 _).mono ?_; rintro e w1 ⟨rfl, rfl⟩))
            go_round
            case rel => exact ⟨k + 1, by omega, by go_num, HN⟩
            case measure => simp [intOf]; omega
        · rw [hd] at D hN hS
          have HN := hN rfl
          clear hix hl hd hN hS C3
          go_wp2_with (first | (go_at_call 171; refine (L _).mono ?_; rintro e w1 ⟨rfl, rfl⟩) | (go_at_call 170; refine (D _).mono ?_; rintro e w1 ⟨rfl, rfl⟩))
          go_round
          case rel => exact ⟨k + 1, by omega, by go_num, HN⟩
          case measure => simp [intOf]; omega
      · rw [hl] at L hN hS
        have HN := hN (by simp)
        clear hix hl hN hS C3 D
        go_wp2_with (first | (go_at_call 171; refine (L _).mono ?_; rintro e w1 ⟨rfl, rfl⟩))
        go_round
        case rel => exact ⟨k + 1, by omega, by go_num, HN⟩
        case measure => simp [intOf]; omega
    · obtain rfl : k = s.size := by omega
      have HT : Hid (true = R) := Lib.hid (by rw [← HR.out]; unfold onlyB; exact (allDn H.out).symm)
      clear hlt DA LA
      go_wp2
      go_ret
      exact ⟨retb HT.out, rfl⟩
theorem rightUp_any (s : ByteArray) (hs : s.size ≤ 100000) (w : World) : Calls Tryz.prog 168 #[.string s] w fun e w' => e = .returned (.bool (headDg s.data.toList && onlyB [46, 43, 45, 126, 58] s.data.toList)) ∧ w = w' := by
  have C := fun w => consists_any s ⟨#[46, 43, 45, 126, 58]⟩ hs w
  by_cases h : 0 < s.size
  · have e1 : s.toList.isEmpty = false := by rw [emptyT, decide_eq_false (by omega)]
    have D := fun w => digit_any s[0] w
    have hc := s[0].toNat_lt
    rw [head_cons h]
    have hm : (ByteArray.mk #[46, 43, 45, 126, 58]).data.toList = [46, 43, 45, 126, 58] := rfl
    rw [hm] at C
    clear hm
    generalize onlyB [46, 43, 45, 126, 58] s.data.toList = B at *
    cases hd : dgB s[0]
    · rw [hd] at D
      clear hd C
      go_enter Tryz.func168, Tryz.ntmps168
      go_wp2_with (go_at_call 170; refine (D _).mono ?_; rintro e w1 ⟨rfl, rfl⟩)
      go_ret
      exact ⟨rfl, rfl⟩
    · rw [hd] at D
      clear hd
      go_enter Tryz.func168, Tryz.ntmps168
      go_wp2_with (first | (go_at_call 170; refine (D _).mono ?_; rintro e w1 ⟨rfl, rfl⟩) | (go_at_call 186; refine (C _).mono ?_; rintro e w1 ⟨rfl, rfl⟩))
      go_ret
      exact ⟨by simp, rfl⟩
  · rw [headDg_nil (by omega)]
    have e1 : s.toList.isEmpty = true := by rw [emptyT, decide_eq_true (by omega)]
    clear C
    go_enter Tryz.func168, Tryz.ntmps168
    go_wp2
    go_ret
    exact ⟨rfl, rfl⟩
theorem rightRev_any (s : ByteArray) (hs : s.size ≤ 100000) (w : World) : Calls Tryz.prog 169 #[.string s] w fun e w' => e = .returned (.bool (decide (0 < s.size) && onlyB [46, 43, 126] s.data.toList)) ∧ w = w' := by
  have C := fun w => consists_any s ⟨#[46, 43, 126]⟩ hs w
  have hm : (ByteArray.mk #[46, 43, 126]).data.toList = [46, 43, 126] := rfl
  rw [hm] at C
  clear hm
  generalize onlyB [46, 43, 126] s.data.toList = B at *
  by_cases h : 0 < s.size
  · have e1 : s.toList.isEmpty = false := by rw [emptyT, decide_eq_false (by omega)]
    rw [decide_eq_true h, Bool.true_and]
    go_enter Tryz.func169, Tryz.ntmps169
    go_wp2_with (first | (go_at_call 186; refine (C _).mono ?_; rintro e w1 ⟨rfl, rfl⟩))
    go_ret
    exact ⟨rfl, rfl⟩
  · rw [decide_eq_false h]
    have e1 : s.toList.isEmpty = true := by rw [emptyT, decide_eq_true (by omega)]
    clear C
    go_enter Tryz.func169, Tryz.ntmps169
    go_wp2
    go_ret
    exact ⟨rfl, rfl⟩
end Go.Proofs.YtkcamfcjkjiijaaGreatDoor
