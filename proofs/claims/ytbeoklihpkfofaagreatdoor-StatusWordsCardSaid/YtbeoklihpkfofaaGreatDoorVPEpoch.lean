/-
  The order of texts byte by byte: what a text is at, steps, and numbers with the first other digit kept; nothing of the program. The program's digit, letter, begins, weight, consists, and which parts of a version may be: what each returns; the world stays as it was. What the versions' readers ask of the program's variables (LaidV); strings.Cut at one byte, strconv.ParseUint at base 10, and the program's parseEpoch: what each returns; nothing old turns. Conditions: LaidV.
-/
import Derived.Test.YtbeoklihpkfofaaGreatDoorLList
import Derived.Test.YtbeoklihpkfofaaGreatDoorVRefB
import Derived.Test.YtbeoklihpkfofaaGreatDoorShelf
import Derived.WalkSmall
import Derived.Shelf.Strconv.ToError
import Derived.Shelf.Strconv.ToErrorRange
import Derived.Shelf.Strconv.ParseUintEmpty
import Derived.Lib.AtoiTie
import Derived.Lib.ParseIntBCases
import Derived.Lib.ItoaMem
namespace Go.Proofs.YtbeoklihpkfofaaGreatDoor
/-- The weight of what a text is at. -/
def atW : Bs → Int
  | [] => 0
  | c :: _ => if dgB c = true then 0 else wt c
theorem wt_ne (c : UInt8) : wt c ≠ 0 := by
  unfold wt
  by_cases h : c.toNat = 126
  · rw [if_pos h]; omega
  · rw [if_neg h]
    by_cases g : ltB c = true
    · rw [if_pos g]
      simp only [ltB, Bool.or_eq_true, Bool.and_eq_true, decide_eq_true_eq] at g
      omega
    · rw [if_neg g]; omega
theorem nonD_yes {c : UInt8} {t : Bs} (h : dgB c = true) : nonD (c :: t) = [] := by simp [nonD, h]
theorem nonD_no {c : UInt8} {t : Bs} (h : dgB c = false) : nonD (c :: t) = c :: nonD t := by simp [nonD, h]
theorem digs_no {c : UInt8} {t : Bs} (h : dgB c = false) : digs (c :: t) = digs t := by unfold digs; rw [nonD_no h]; rfl
theorem rest_no {c : UInt8} {t : Bs} (h : dgB c = false) : rest (c :: t) = rest t := by
  unfold rest; rw [nonD_no h, digs_no h, List.length_cons, show (nonD t).length + 1 + (digs t).length = ((nonD t).length + (digs t).length) + 1 from by omega, List.drop_succ_cons]
theorem atW_hd (s : Bs) : hd 0 ((nonD s).map wt) = atW s := by
  cases s with
  | nil => rfl
  | cons c t =>
    cases h : dgB c
    · rw [nonD_no h]; simp [hd, atW, h]
    · rw [nonD_yes h]; simp [hd, atW, h]
theorem atW_zero {s : Bs} (h : atW s = 0) : nonD s = [] := by
  cases s with
  | nil => rfl
  | cons c t =>
    cases g : dgB c
    · have := wt_ne c
      simp [atW, g] at h
      exact absurd h this
    · exact nonD_yes g
theorem order_ne {a b : Bs} (h : atW a ≠ atW b) : order a b = sgn (atW a) (atW b) := by
  have hs : sgn (atW a) (atW b) ≠ 0 := by have := sgn_cases (atW a) (atW b); omega
  have hw : wcmp (nonD a) (nonD b) = sgn (atW a) (atW b) := by
    unfold wcmp
    rw [lexL_next sgn_good, atW_hd, atW_hd, if_pos hs]
  rw [order_next, hw, if_pos hs]
theorem order_skip {c d : UInt8} {t u : Bs} (hc : dgB c = false) (hd : dgB d = false) (e : wt c = wt d) : order (c :: t) (d :: u) = order t u := by
  rw [order_next (c :: t) (d :: u), order_next t u, digs_no hc, digs_no hd, rest_no hc, rest_no hd, nonD_no hc, nonD_no hd]
  have : wcmp (c :: nonD t) (d :: nonD u) = wcmp (nonD t) (nonD u) := by
    unfold wcmp
    rw [List.map_cons, List.map_cons, lexL_next sgn_good]
    simp only [Go.Proofs.YtbeoklihpkfofaaGreatDoor.hd, List.head?_cons, Option.getD_some, List.tail_cons, e, sgn_eq, ne_eq, not_true, if_false]
  rw [this]
def dfin (f : Int) (n m : Bs) : Int := if n.length < m.length then -1 else if m.length < n.length then 1 else if f ≠ 0 then f else bcmp n m
theorem dfin_ncmp (n m : Bs) : dfin 0 n m = ncmp n m := by
  rw [ncmp_both]
  unfold dfin both
  show _ = if sgn (n.length : Int) (m.length : Int) ≠ 0 then sgn (n.length : Int) (m.length : Int) else bcmp n m
  by_cases h : n.length < m.length
  · rw [if_pos h, sgn_lt (by omega)]; rfl
  · by_cases g : m.length < n.length
    · rw [if_neg h, if_pos g, sgn_gt (by omega)]; rfl
    · have e : n.length = m.length := by omega
      rw [if_neg h, if_neg g, e, sgn_eq]
theorem bcmp_cons (c d : UInt8) (n m : Bs) : bcmp (c :: n) (d :: m) = if sgn c.toNat d.toNat ≠ 0 then sgn c.toNat d.toNat else bcmp n m := by
  unfold bcmp
  rcases Nat.lt_trichotomy c.toNat d.toNat with h | h | h
  · have hl : c < d := UInt8.lt_iff_toNat_lt.2 h
    rw [if_pos (List.cons_lt_cons_iff.2 (.inl hl)), sgn_lt (by omega)]; rfl
  · have e : c = d := UInt8.toNat_inj.1 h
    subst e
    rw [sgn_eq]
    simp
  · have hl : ¬ c < d := fun g => by have := UInt8.lt_iff_toNat_lt.1 g; omega
    have hn : c ≠ d := fun g => by subst g; omega
    rw [if_neg (fun g => by rcases List.cons_lt_cons_iff.1 g with g | g; exact hl g; exact hn g.1), if_neg (fun g => by injection g with g _; exact hn g), sgn_gt (by omega)]; rfl
def orI (f g : Int) : Int := if f ≠ 0 then f else g
theorem dfin_step (f : Int) (c d : UInt8) (n m : Bs) : dfin f (c :: n) (d :: m) = dfin (orI f (sgn c.toNat d.toNat)) n m := by
  unfold dfin orI
  rw [List.length_cons, List.length_cons, bcmp_cons]
  by_cases h : n.length < m.length
  · rw [if_pos (by omega), if_pos h]
  · by_cases g : m.length < n.length
    · rw [if_neg (by omega), if_pos (by omega), if_neg h, if_pos g]
    · rw [if_neg (by omega), if_neg (by omega), if_neg h, if_neg g]
      by_cases e : f = 0
      · subst e; simp
      · simp [e]
/-- What two numbers' rests tell, f being the first other digit so far. -/
def numR (f : Int) (x y : Bs) : Int := dfin f (x.takeWhile dgB) (y.takeWhile dgB)
theorem numR_both {c d : UInt8} {x y : Bs} (f : Int) (hc : dgB c = true) (hd : dgB d = true) : numR f (c :: x) (d :: y) = numR (orI f (sgn c.toNat d.toNat)) x y := by
  unfold numR; rw [List.takeWhile_cons, List.takeWhile_cons, if_pos hc, if_pos hd, dfin_step]
theorem tail_dg {c : UInt8} {x : Bs} (hc : dgB c = true) : (c :: x).dropWhile dgB = x.dropWhile dgB := by rw [List.dropWhile_cons, if_pos hc]
def headN (x : Bs) : Bool := headDg x
theorem take_none {x : Bs} (h : headDg x = false) : x.takeWhile dgB = [] ∧ x.dropWhile dgB = x := by
  cases x with
  | nil => exact ⟨rfl, rfl⟩
  | cons c x =>
    have h' : dgB c = false := h
    rw [List.takeWhile_cons, List.dropWhile_cons, if_neg (by simp [h']), if_neg (by simp [h'])]; exact ⟨rfl, rfl⟩
theorem take_some {x : Bs} (h : headDg x = true) : 0 < (x.takeWhile dgB).length := by
  cases x with
  | nil => cases h
  | cons c x =>
    have h' : dgB c = true := h
    rw [List.takeWhile_cons, if_pos h']; simp
theorem numR_a {x y : Bs} (f : Int) (hx : headDg x = true) (hy : headDg y = false) : numR f x y = 1 := by
  have := take_some hx
  unfold numR dfin; rw [(take_none hy).1, if_neg (by simp), if_pos (by simpa using this)]
theorem numR_b {x y : Bs} (f : Int) (hx : headDg x = false) (hy : headDg y = true) : numR f x y = -1 := by
  have := take_some hy
  unfold numR dfin; rw [(take_none hx).1, if_pos (by simpa using this)]
theorem numR_end {x y : Bs} (f : Int) (hx : headDg x = false) (hy : headDg y = false) : numR f x y = f := by
  unfold numR dfin; rw [(take_none hx).1, (take_none hy).1]
  by_cases h : f = 0
  · subst h; decide
  · simp [h]
theorem noughts_take (l : Bs) : (noughts l).takeWhile dgB = noughts (l.takeWhile dgB) ∧ (noughts l).dropWhile dgB = l.dropWhile dgB := by
  induction l with
  | nil => exact ⟨rfl, rfl⟩
  | cons c t ih =>
    by_cases h : c = 48
    · subst h
      have e1 : noughts ((48 : UInt8) :: t) = noughts t := by simp [noughts]
      have e2 : ((48 : UInt8) :: t).takeWhile dgB = 48 :: t.takeWhile dgB := by rw [List.takeWhile_cons, if_pos (by decide)]
      have e3 : noughts ((48 : UInt8) :: t.takeWhile dgB) = noughts (t.takeWhile dgB) := by simp [noughts]
      rw [e1, e2, e3, tail_dg (by decide)]
      exact ih
    · have e1 : ∀ u : Bs, noughts (c :: u) = c :: u := fun u => by simp [noughts, h]
      rw [e1]
      refine ⟨?_, rfl⟩
      cases g : dgB c
      · rw [List.takeWhile_cons, if_neg (by simp [g])]; rfl
      · rw [List.takeWhile_cons, if_pos g, e1]
theorem at_stop {a : Bs} (h : atW a = 0) : digs a = a.takeWhile dgB ∧ rest a = a.dropWhile dgB := by
  have h0 := atW_zero h
  have e : digs a = a.takeWhile dgB := by unfold digs; rw [h0]; rfl
  refine ⟨e, ?_⟩
  unfold rest
  rw [e, h0, List.length_nil, Nat.zero_add]
  have := List.takeWhile_append_dropWhile (p := dgB) (l := a)
  conv => lhs; rw [← this]
  rw [List.drop_left' (by rw [this])]
/-- Two numbers, and then the rests. -/
theorem order_num {a b : Bs} (ha : atW a = 0) (hb : atW b = 0) : order a b = if numR 0 (noughts a) (noughts b) ≠ 0 then numR 0 (noughts a) (noughts b) else order ((noughts a).dropWhile dgB) ((noughts b).dropWhile dgB) := by
  rw [order_next, atW_zero ha, atW_zero hb, (at_stop ha).1, (at_stop hb).1, (at_stop ha).2, (at_stop hb).2]
  have hw : wcmp [] [] = 0 := by decide
  rw [hw, if_neg (by omega), (noughts_take a).2, (noughts_take b).2]
  unfold numR
  rw [(noughts_take a).1, (noughts_take b).1, dfin_ncmp]
theorem drop_le (l : Bs) : (l.dropWhile dgB).length ≤ l.length := (List.dropWhile_sublist _).length_le
/-- What is at a stop, and is not empty, gets shorter. -/
theorem stop_lt {a : Bs} (h : atW a = 0) (hne : a ≠ []) : (a.dropWhile dgB).length < a.length := by
  rw [← (at_stop h).2]; exact rest_lt a hne
-- Marks
theorem only_same {m m' s : Bs} (h : ∀ c ∈ s, m.contains c = m'.contains c) : onlyB m s = onlyB m' s := by
  unfold onlyB
  rw [Bool.eq_iff_iff, List.all_eq_true, List.all_eq_true]
  exact ⟨fun g c hc => by rw [← h c hc]; exact g c hc, fun g c hc => by rw [h c hc]; exact g c hc⟩
theorem cut_sub (s : Bs) : ∀ c ∈ (cutHy s).1, c ∈ s := by
  unfold cutHy
  split
  · exact fun c h => h
  · exact fun c h => List.mem_of_mem_take h
theorem restV_plain {e : Int} {s : Bs} (h : (58 : UInt8) ∉ s) : restV e [46, 43, 45, 126] s = restV e [46, 43, 45, 126, 58] s := by
  unfold restV
  rw [only_same (m := [46, 43, 45, 126]) (m' := [46, 43, 45, 126, 58]) (s := (cutHy s).1)]
  intro c hc
  have hn : c ≠ 58 := fun e => h (e ▸ cut_sub s c hc)
  simp [hn]
end Go.Proofs.YtbeoklihpkfofaaGreatDoor
namespace Go.Proofs.YtbeoklihpkfofaaGreatDoor
open Go.RowKit
theorem digit_any (c : UInt8) (w : World) : Calls Tryz.prog 168 #[.int .u8 c.toNat] w fun e w' => e = .returned (.bool (dgB c)) ∧ w = w' := by
  have hc := c.toNat_lt
  obtain ⟨B, HB⟩ : ∃ B, Hid (dgB c = B) := ⟨_, rfl⟩
  rw [HB.out]
  unfold dgB at HB
  generalize c.toNat = n at *
  by_cases h1 : 48 ≤ n
  · go_enter Tryz.func168, Tryz.ntmps168
    go_wp2
    go_ret
    exact ⟨retb (by rw [← HB.out, Bool.eq_iff_iff]; simp only [Bool.and_eq_true, decide_eq_true_eq]; omega), rfl⟩
  · go_enter Tryz.func168, Tryz.ntmps168
    go_wp2
    go_ret
    exact ⟨retb (by rw [← HB.out, decide_eq_false h1]; rfl), rfl⟩
theorem letter_any (c : UInt8) (w : World) : Calls Tryz.prog 195 #[.int .u8 c.toNat] w fun e w' => e = .returned (.bool (ltB c)) ∧ w = w' := by
  have hc := c.toNat_lt
  obtain ⟨B, HB⟩ : ∃ B, Hid (ltB c = B) := ⟨_, rfl⟩
  rw [HB.out]
  unfold ltB at HB
  generalize c.toNat = n at *
  by_cases h1 : 97 ≤ n
  · by_cases h2 : n ≤ 122
    · go_enter Tryz.func195, Tryz.ntmps195
      go_wp2
      go_ret
      exact ⟨retb (by rw [← HB.out, Bool.eq_iff_iff]; simp only [Bool.or_eq_true, Bool.and_eq_true, decide_eq_true_eq, true_iff]; omega), rfl⟩
    · go_enter Tryz.func195, Tryz.ntmps195
      go_wp2
      go_ret
      exact ⟨retb (by rw [← HB.out, Bool.eq_iff_iff]; simp only [Bool.or_eq_true, Bool.and_eq_true, decide_eq_true_eq]; omega), rfl⟩
  · by_cases h3 : 65 ≤ n
    · go_enter Tryz.func195, Tryz.ntmps195
      go_wp2
      go_ret
      exact ⟨retb (by rw [← HB.out, Bool.eq_iff_iff]; simp only [Bool.or_eq_true, Bool.and_eq_true, decide_eq_true_eq]; omega), rfl⟩
    · go_enter Tryz.func195, Tryz.ntmps195
      go_wp2
      go_ret
      exact ⟨retb (by rw [← HB.out, Bool.eq_iff_iff]; simp only [Bool.or_eq_true, Bool.and_eq_true, decide_eq_true_eq, Bool.false_eq_true, false_iff]; omega), rfl⟩
theorem cons_of {s : ByteArray} (h : 0 < s.size) : s.data.toList = s[0] :: s.data.toList.drop 1 := by
  have := dropC s 0 h
  rwa [List.drop_zero] at this
theorem nil_of {s : ByteArray} (h : s.size = 0) : s.data.toList = [] := List.eq_nil_of_length_eq_zero (by rw [← sizeOf]; exact h)
theorem head_cons {s : ByteArray} (h : 0 < s.size) : headDg s.data.toList = dgB s[0] := by rw [cons_of h]; rfl
theorem headDg_nil {s : ByteArray} (h : s.size = 0) : headDg s.data.toList = false := by rw [nil_of h]; rfl
theorem at_nil {s : ByteArray} (h : s.size = 0) : atW s.data.toList = 0 := by rw [nil_of h]; rfl
theorem at_dg {s : ByteArray} (h : 0 < s.size) (g : dgB s[0] = true) : atW s.data.toList = 0 := by rw [cons_of h]; simp [atW, g]
theorem at_no {s : ByteArray} (h : 0 < s.size) (g : dgB s[0] = false) : atW s.data.toList = wt s[0] := by rw [cons_of h]; simp [atW, g]
theorem idx_mem (l : Bs) (c : UInt8) : Lib.indexByte l c < 0 ↔ l.contains c = false := by
  induction l with
  | nil => simp [Lib.indexByte]
  | cons b l ih =>
    have hge := Lib.indexByte_ge l c
    unfold Lib.indexByte
    by_cases h : b = c
    · subst h; simp
    · have h' : ¬ c = b := fun g => h g.symm
      rw [if_neg (by simpa using h)]
      by_cases g : Lib.indexByte l c = -1
      · rw [if_pos (by simpa using g)]
        have := ih.1 (by omega)
        simp only [List.contains_cons, this, Bool.or_false]
        simp [h']
      · rw [if_neg (by simpa using g)]
        have hn : ¬ Lib.indexByte l c < 0 := by omega
        constructor
        · intro _; omega
        · intro hf
          have : l.contains c = false := by simp only [List.contains_cons, Bool.or_eq_false_iff] at hf; exact hf.2
          exact absurd (ih.2 this) hn
set_option maxHeartbeats 1000000 in
theorem consists_any (s m : ByteArray) (hs : s.size ≤ 100000) (w : World) : Calls Tryz.prog 169 #[.string s, .string m] w fun e w' => e = .returned (.bool (onlyB m.data.toList s.data.toList)) ∧ w = w' := by
  obtain ⟨R, HR⟩ : ∃ R, Hid (onlyB m.data.toList s.data.toList = R) := ⟨_, rfl⟩
  rw [HR.out]
  have DA := fun c w => digit_any c w
  have LA := fun c w => letter_any c w
  go_enter Tryz.func169, Tryz.ntmps169
  go_wp2
  go_loop [8] (fun i => ∃ k : Nat, k ≤ s.size ∧ i = .int .i64 k ∧ Hid ((s.data.toList.take k).all (fun c => dgB c || ltB c || m.data.toList.contains c) = true)) (fun i => s.size - (intOf i).toNat)
  case atStart => exact ⟨0, by omega, rfl, Lib.hid (by simp)⟩
  case round =>
    obtain ⟨k, hk, rfl, H⟩ := hrel
    by_cases hlt : k < s.size
    · have hc := s[k].toNat_lt
      have D := DA s[k]
      have L := LA s[k]
      have C3 := fun w => Tryz.strings_IndexByte m (s[k].toNat : Int) w
      have hx : (s[k].toNat : Int).toNat.toUInt8 = s[k] := by rw [Int.toNat_natCast]; simp
      simp only [hx] at C3
      have hge := Lib.indexByte_ge m.data.toList s[k]
      have hix := idx_mem m.data.toList s[k]
      generalize Lib.indexByte m.data.toList s[k] = ix at *
      have hN : (dgB s[k] || ltB s[k] || m.data.toList.contains s[k]) = true → Hid ((s.data.toList.take (k + 1)).all (fun c => dgB c || ltB c || m.data.toList.contains c) = true) := fun g => Lib.hid (allNx hlt H.out g)
      have hS : (dgB s[k] || ltB s[k] || m.data.toList.contains s[k]) = false → Hid (false = R) := fun g => Lib.hid (by rw [← HR.out]; unfold onlyB; exact (allSt hlt g).symm)
      clear hx DA LA
      cases hl : ltB s[k]
      · rw [hl] at L hN hS
        cases hd : dgB s[k]
        · rw [hd] at D hN hS
          cases hm : m.data.toList.contains s[k]
          · rw [hm] at hN hS
            have hneg : ix < 0 := hix.2 hm
            have HS := hS rfl
            clear hix hl hd hm hN hS
            go_wp2_with (first | (go_at_call 195; refine (L _).mono ?_; rintro e w1 ⟨rfl, rfl⟩) | (go_at_call 168; refine (D _).mono ?_; rintro e w1 ⟨rfl, rfl⟩) | (go_at_call 70; refine (C3 _).mono ?_; rintro e w1 ⟨rfl, rfl⟩))
            go_ret
            exact ⟨retb HS.out, rfl⟩
          · rw [hm] at hN hS
            have hneg : ¬ ix < 0 := fun h => by rw [hix.1 h] at hm; cases hm
            have HN := hN rfl
            clear hix hl hd hm hN hS
            go_wp2_with (first | (go_at_call 195; refine (L _).mono ?_; rintro e w1 ⟨rfl, rfl⟩) | (go_at_call 168; refine (D _).mono ?_; rintro e w1 ⟨rfl, rfl⟩) | (go_at_call 70; refine (C3 _).mono ?_; rintro e w1 ⟨rfl, rfl⟩))
            go_round
            case rel => exact ⟨k + 1, by omega, by go_num, HN⟩
            case measure => simp [intOf]; omega
        · rw [hd] at D hN hS
          have HN := hN rfl
          clear hix hl hd hN hS C3
          go_wp2_with (first | (go_at_call 195; refine (L _).mono ?_; rintro e w1 ⟨rfl, rfl⟩) | (go_at_call 168; refine (D _).mono ?_; rintro e w1 ⟨rfl, rfl⟩))
          go_round
          case rel => exact ⟨k + 1, by omega, by go_num, HN⟩
          case measure => simp [intOf]; omega
      · rw [hl] at L hN hS
        have HN := hN (by simp)
        clear hix hl hN hS C3 D
        go_wp2_with (first | (go_at_call 195; refine (L _).mono ?_; rintro e w1 ⟨rfl, rfl⟩))
        go_round
        case rel => exact ⟨k + 1, by omega, by go_num, HN⟩
        case measure => simp [intOf]; omega
    · obtain rfl : k = s.size := by omega
      have HT : Hid (true = R) := Lib.hid (by rw [← HR.out]; unfold onlyB; exact (allDn H.out).symm)
      clear hlt DA LA
      go_wp2
      go_ret
      exact ⟨retb HT.out, rfl⟩
theorem rightUp_any (s : ByteArray) (hs : s.size ≤ 100000) (w : World) : Calls Tryz.prog 126 #[.string s] w fun e w' => e = .returned (.bool (headDg s.data.toList && onlyB [46, 43, 45, 126, 58] s.data.toList)) ∧ w = w' := by
  have C := fun w => consists_any s ⟨#[46, 43, 45, 126, 58]⟩ hs w
  by_cases h : 0 < s.size
  · have e1 : s.toList.isEmpty = false := by rw [emptyT, decide_eq_false (by omega)]
    have D := fun w => digit_any s[0] w
    have hc := s[0].toNat_lt
    rw [head_cons h]
    have hm : (ByteArray.mk #[46, 43, 45, 126, 58]).data.toList = [46, 43, 45, 126, 58] := rfl
    rw [hm] at C
    clear hm
    generalize onlyB [46, 43, 45, 126, 58] s.data.toList = B at *
    cases hd : dgB s[0]
    · rw [hd] at D
      clear hd C
      go_enter Tryz.func126, Tryz.ntmps126
      go_wp2_with (go_at_call 168; refine (D _).mono ?_; rintro e w1 ⟨rfl, rfl⟩)
      go_ret
      exact ⟨rfl, rfl⟩
    · rw [hd] at D
      clear hd
      go_enter Tryz.func126, Tryz.ntmps126
      go_wp2_with (first | (go_at_call 168; refine (D _).mono ?_; rintro e w1 ⟨rfl, rfl⟩) | (go_at_call 169; refine (C _).mono ?_; rintro e w1 ⟨rfl, rfl⟩))
      go_ret
      exact ⟨by simp, rfl⟩
  · rw [headDg_nil (by omega)]
    have e1 : s.toList.isEmpty = true := by rw [emptyT, decide_eq_true (by omega)]
    clear C
    go_enter Tryz.func126, Tryz.ntmps126
    go_wp2
    go_ret
    exact ⟨rfl, rfl⟩
theorem rightRev_any (s : ByteArray) (hs : s.size ≤ 100000) (w : World) : Calls Tryz.prog 127 #[.string s] w fun e w' => e = .returned (.bool (decide (0 < s.size) && onlyB [46, 43, 126] s.data.toList)) ∧ w = w' := by
  have C := fun w => consists_any s ⟨#[46, 43, 126]⟩ hs w
  have hm : (ByteArray.mk #[46, 43, 126]).data.toList = [46, 43, 126] := rfl
  rw [hm] at C
  clear hm
  generalize onlyB [46, 43, 126] s.data.toList = B at *
  by_cases h : 0 < s.size
  · have e1 : s.toList.isEmpty = false := by rw [emptyT, decide_eq_false (by omega)]
    rw [decide_eq_true h, Bool.true_and]
    go_enter Tryz.func127, Tryz.ntmps127
    go_wp2_with (first | (go_at_call 169; refine (C _).mono ?_; rintro e w1 ⟨rfl, rfl⟩))
    go_ret
    exact ⟨rfl, rfl⟩
  · rw [decide_eq_false h]
    have e1 : s.toList.isEmpty = true := by rw [emptyT, decide_eq_true (by omega)]
    clear C
    go_enter Tryz.func127, Tryz.ntmps127
    go_wp2
    go_ret
    exact ⟨rfl, rfl⟩
end Go.Proofs.YtbeoklihpkfofaaGreatDoor
namespace Go.Proofs.YtbeoklihpkfofaaGreatDoor
open Go.RowKit
/-- WHAT THE WORLD HOLDS OF THE PROGRAM's VARIABLES. -/
structure LaidV (w : World) : Prop where
  pow : Lib.TabIs Tryz.prog w "internal/strconv.uint64pow10" .u64 Lib.pow10Tab
  syn : ∃ tp p, w.var? Tryz.prog "strconv.ErrSyntax" = some #[.iface tp p]
  rng : ∃ tp p, w.var? Tryz.prog "strconv.ErrRange" = some #[.iface tp p]
  size : 8 ≤ w.heap.size
theorem gPow : Tryz.prog.globalNamed "internal/strconv.uint64pow10" = some 6 := by kernel_rfl
theorem gSyn : Tryz.prog.globalNamed "strconv.ErrSyntax" = some 2 := by kernel_rfl
theorem gRng : Tryz.prog.globalNamed "strconv.ErrRange" = some 3 := by kernel_rfl
theorem LaidV.on {w w' : World} (h : LaidV w) (hb : Below w.heap.size w w') : LaidV w' where
  pow := by
    have := h.pow
    unfold Lib.TabIs at this ⊢
    exact var?_below hb gPow (by have := h.size; omega) this
  syn := by obtain ⟨tp, p, hv⟩ := h.syn; exact ⟨tp, p, var?_below hb gSyn (by have := h.size; omega) hv⟩
  rng := by obtain ⟨tp, p, hv⟩ := h.rng; exact ⟨tp, p, var?_below hb gRng (by have := h.size; omega) hv⟩
  size := Nat.le_trans h.size hb.size
theorem LaidV.al {w : World} (h : Hid (LaidV w)) (o : Obj) : LaidV (w.alloc o) := h.out.on ((Below.refl _ _).alloc (Nat.le_refl _) o)
theorem LaidV.dr {w : World} (h : Hid (LaidV w)) (q : Nat) : LaidV (w.drewN q) := h.out.on (belowQ (Below.refl _ _) q)
-- strings.Cut at one byte
theorem idx_first (l : Bs) (c : UInt8) : Lib.indexByte l c = firstI c l := by
  induction l with
  | nil => rfl
  | cons b l ih =>
    unfold Lib.indexByte
    by_cases h : b = c
    · subst h
      rw [if_pos (by simp)]
      unfold firstI
      rw [if_pos (by simp)]; simp
    · rw [if_neg (by simpa using h), ih]
      have hm : c ∈ b :: l ↔ c ∈ l := by
        rw [List.mem_cons]
        exact ⟨fun g => g.elim (fun e => absurd e.symm h) id, .inr⟩
      unfold firstI
      by_cases g : c ∈ l
      · rw [if_pos g, if_pos (hm.2 g), List.takeWhile_cons, if_pos (decide_eq_true h), List.length_cons]
        rw [if_neg (by rw [beq_iff_eq]; omega)]
        omega
      · rw [if_neg g, if_neg (fun x => g (hm.1 x)), if_pos (by simp)]
def Cut1Post (s : ByteArray) (c : UInt8) (w : World) (e : Ending) (w' : World) : Prop :=
  (∃ q, w' = w.drewN q) ∧ ((firstI c s.data.toList = -1 ∧ e = .returned (.tuple #[.string s, .string ⟨#[]⟩, .bool false])) ∨
    ∃ k : Nat, firstI c s.data.toList = k ∧ k < s.size ∧ e = .returned (.tuple #[.string (s.extract 0 k), .string (s.extract (k + 1) s.size), .bool true]))
theorem first_cases (s : ByteArray) (c : UInt8) : firstI c s.data.toList = -1 ∨ ∃ k : Nat, firstI c s.data.toList = k ∧ k < s.size := by
  have h := firstI_ge (c := c) (l := s.data.toList)
  have hl := sizeOf s
  by_cases h0 : firstI c s.data.toList = -1
  · exact .inl h0
  · right
    refine ⟨(firstI c s.data.toList).toNat, ?_, ?_⟩ <;> rcases h with ⟨h, h'⟩ | ⟨h, h'⟩ <;> omega
theorem cut1_in (s : ByteArray) (hs : s.size ≤ 100000) (c : UInt8) (w : World) : Calls Tryz.prog 164 #[.string s, .string ⟨#[c]⟩] w (Cut1Post s c w) := by
  have C := fun w => Tryz.stringslite_Index_one s c w
  rw [idx_first] at C
  have h1s : (ByteArray.mk #[c]).size = 1 := rfl
  rcases first_cases s c with h | ⟨k, h, hk⟩
  · have HP : Hid (∀ q e, e = .returned (.tuple #[.string s, .string ⟨#[]⟩, .bool false]) → Cut1Post s c w e (w.drewN q)) := Lib.hid (fun q e he => ⟨⟨q, rfl⟩, .inl ⟨h, he⟩⟩)
    rw [h] at C
    clear h
    go_enter Tryz.func164, Tryz.ntmps164
    go_wp2_with (go_at_call 191; refine (C _).mono ?_; rintro e w1 ⟨rfl, hw⟩; subst hw)
    go_ret3
    exact HP.out 0 _ rfl
  · have HP : Hid (∀ q e, e = .returned (.tuple #[.string (s.extract 0 k), .string (s.extract (k + 1) s.size), .bool true]) → Cut1Post s c w e (w.drewN q)) := Lib.hid (fun q e he => ⟨⟨q, rfl⟩, .inr ⟨k, h, hk, he⟩⟩)
    rw [h] at C
    clear h
    go_enter Tryz.func164, Tryz.ntmps164
    go_wp2_with (go_at_call 191; refine (C _).mono ?_; rintro e w1 ⟨rfl, hw⟩; subst hw)
    go_region
    go_wp2
    go_ret3
    exact HP.out 1 _ rfl
theorem cut1_any (s : ByteArray) (hs : s.size ≤ 100000) (c : UInt8) (w : World) : Calls Tryz.prog 123 #[.string s, .string ⟨#[c]⟩] w (Cut1Post s c w) := by
  have C := cut1_in s hs c w
  rcases first_cases s c with h | ⟨k, h, hk⟩
  · have C' : Calls Tryz.prog 164 #[.string s, .string ⟨#[c]⟩] w fun e w' => e = .returned (.tuple #[.string s, .string ⟨#[]⟩, .bool false]) ∧ ∃ q, w' = w.drewN q := C.mono fun e w' hp => by
      obtain ⟨hq, ⟨_, he⟩ | ⟨j, hj, _⟩⟩ := hp
      · exact ⟨he, hq⟩
      · omega
    have HP : Hid (∀ q e, e = .returned (.tuple #[.string s, .string ⟨#[]⟩, .bool false]) → Cut1Post s c w e (w.drewN q)) := Lib.hid (fun q e he => ⟨⟨q, rfl⟩, .inl ⟨h, he⟩⟩)
    clear h C
    go_enter Tryz.func123, Tryz.ntmps123
    go_wp2_with (go_at_call 164; refine C'.mono ?_; rintro e w1 ⟨rfl, q, rfl⟩)
    go_ret3
    exact HP.out q _ rfl
  · have C' : Calls Tryz.prog 164 #[.string s, .string ⟨#[c]⟩] w fun e w' => e = .returned (.tuple #[.string (s.extract 0 k), .string (s.extract (k + 1) s.size), .bool true]) ∧ ∃ q, w' = w.drewN q := C.mono fun e w' hp => by
      obtain ⟨hq, ⟨h', _⟩ | ⟨j, hj, _, he⟩⟩ := hp
      · omega
      · obtain rfl : j = k := by omega
        exact ⟨he, hq⟩
    have HP : Hid (∀ q e, e = .returned (.tuple #[.string (s.extract 0 k), .string (s.extract (k + 1) s.size), .bool true]) → Cut1Post s c w e (w.drewN q)) := Lib.hid (fun q e he => ⟨⟨q, rfl⟩, .inr ⟨k, h, hk, he⟩⟩)
    clear h C
    go_enter Tryz.func123, Tryz.ntmps123
    go_wp2_with (go_at_call 164; refine C'.mono ?_; rintro e w1 ⟨rfl, q, rfl⟩)
    go_ret3
    exact HP.out q _ rfl
-- Numbers
theorem decFrom_yes : ∀ (l : Bs) (acc : Nat), l.all dgB = true → ∃ n : Nat, Lib.decFrom acc l = some n ∧ (n : Int) = l.foldl (fun n c => 10 * n + (c.toNat : Int) - 48) (acc : Int)
  | [], acc, _ => ⟨acc, rfl, rfl⟩
  | c :: l, acc, h => by
    rw [List.all_cons, Bool.and_eq_true] at h
    have hd := h.1
    simp only [dgB, Bool.and_eq_true, decide_eq_true_eq] at hd
    obtain ⟨n, h1, h2⟩ := decFrom_yes l (acc * 10 + (c.toNat - 48)) h.2
    refine ⟨n, ?_, ?_⟩
    · unfold Lib.decFrom Lib.digitVal
      rw [if_pos hd]; exact h1
    · rw [h2, List.foldl_cons]; congr 1; omega
theorem decFrom_no : ∀ (l : Bs) (acc : Nat), l.all dgB = false → Lib.decFrom acc l = none
  | [], acc, h => by cases h
  | c :: l, acc, h => by
    unfold Lib.decFrom Lib.digitVal
    by_cases hd : 48 ≤ c.toNat ∧ c.toNat ≤ 57
    · rw [if_pos hd]
      refine decFrom_no l _ ?_
      rw [List.all_cons] at h
      have : dgB c = true := by simp only [dgB, Bool.and_eq_true, decide_eq_true_eq]; exact hd
      rw [this, Bool.true_and] at h; exact h
    · rw [if_neg hd]
theorem uintB_short (l : Bs) (hl : l.length ≤ 18) : Lib.parseUintB 64 l = Lib.NumEnd.ofOption (Lib.decNat l) := by
  have eM : (2 : Nat) ^ 64 - 1 = 18446744073709551615 := by decide
  rw [← Lib.parseMag_short l hl]
  unfold Lib.parseUintB Lib.parseMag
  rw [eM, Lib.parseUintM_64]
/-- What parseEpoch tells. -/
def epochP (l : Bs) : Int × Int := if l ≠ [] ∧ l.length ≤ 9 ∧ l.all dgB = true then (epochOf l, 0) else (0, 2)
theorem epochP_yes {l : Bs} (h : l ≠ [] ∧ l.length ≤ 9 ∧ l.all dgB = true) : epochP l = (epochOf l, 0) := if_pos h
theorem epochP_no {l : Bs} (h : ¬ (l ≠ [] ∧ l.length ≤ 9 ∧ l.all dgB = true)) : epochP l = (0, 2) := if_neg h
theorem epoch_lt {l : Bs} (h : l.length ≤ 9) (ha : l.all dgB = true) : 0 ≤ epochOf l ∧ epochOf l < 1000000000 := by
  have h1 := epoch_bd l ha
  have h2 : (10 : Int) ^ l.length ≤ 10 ^ 9 := by exact_mod_cast Nat.pow_le_pow_right (n := 10) (by decide) h
  have e : (10 : Int) ^ 9 = 1000000000 := by decide
  omega
theorem uint_ok {l : Bs} {n : Nat} (h : Lib.parseUintB 64 l = .ok n) (hl : l.length ≤ 9) : l ≠ [] ∧ l.all dgB = true ∧ (n : Int) = epochOf l := by
  rw [uintB_short l (by omega)] at h
  unfold Lib.decNat at h
  cases l with
  | nil => cases h
  | cons c t =>
    rw [if_neg (by simp)] at h
    cases ha : (c :: t).all dgB
    · rw [decFrom_no _ _ ha] at h; cases h
    · obtain ⟨m, h1, h2⟩ := decFrom_yes (c :: t) 0 ha
      rw [h1] at h
      cases h
      exact ⟨by simp, rfl, h2⟩
theorem uint_bad {l : Bs} (h : ∀ n, Lib.parseUintB 64 l ≠ .ok n) : ¬ (l ≠ [] ∧ l.length ≤ 9 ∧ l.all dgB = true) := by
  rintro ⟨h1, h2, h3⟩
  obtain ⟨n, g1, _⟩ := decFrom_yes l 0 h3
  refine h n ?_
  rw [uintB_short l (by omega)]
  unfold Lib.decNat
  rw [if_neg (by cases l <;> simp at h1 ⊢), g1]; rfl
theorem syn_cell {w : World} (h : LaidV w) : ∃ tp p, w.cell? ⟨2, 0, none⟩ = some (.iface tp p) := by
  obtain ⟨tp, p, hv⟩ := h.syn
  exact ⟨tp, p, by have h0 := World.var?_cell gSyn hv 0; simpa using h0⟩
theorem rng_cell {w : World} (h : LaidV w) : ∃ tp p, w.cell? ⟨3, 0, none⟩ = some (.iface tp p) := by
  obtain ⟨tp, p, hv⟩ := h.rng
  exact ⟨tp, p, by have h0 := World.var?_cell gRng hv 0; simpa using h0⟩
def UintPost (l : Bs) (w : World) (e : Ending) (w' : World) : Prop :=
  Below w.heap.size w w' ∧ ((∃ n : Nat, (l.length ≤ 9 → l ≠ [] ∧ l.all dgB = true ∧ (n : Int) = epochOf l) ∧ e = .returned (.tuple #[.int .u64 n, .nilIface])) ∨
    (¬ (l ≠ [] ∧ l.length ≤ 9 ∧ l.all dgB = true)) ∧ ∃ (z : Int) (T : TypeId) (p : Value), e = .returned (.tuple #[.int .u64 z, .iface T p]))
theorem fin {w W w1 : World} (h : Below w.heap.size w W) (hb : Below W.heap.size W w1) : Below w.heap.size w w1 := h.trans (hb.mono h.size)
set_option maxHeartbeats 2000000 in
theorem uint_any (s : ByteArray) (hs : s.size ≤ 100000) (w : World) (h : LaidV w) : Calls Tryz.prog 165 #[.string s, .int .i64 10, .int .i64 64] w (UintPost s.data.toList w) := by
  have C : Calls Tryz.prog 192 #[.string s, .int .i64 10, .int .i64 64] w fun e w' => e = .returned (Lib.uintTupleM 216 18446744073709551615 (Lib.parseUintB 64 s.data.toList)) ∧ Below w.heap.size w w' :=
    (Tryz.internal_strconv_ParseUint_10_at64 s (by omega) w).mono fun e w' he => ⟨he.1, by rcases he.2 with rfl | rfl; exact Below.refl _ _; exact Lib.bytesWorld_below w _ s⟩
  have HL := Lib.hid h
  have hz : s.size ≤ 281474976710656 := by omega
  have HZ := Lib.hid hz
  clear h hz hs
  rcases g : Lib.parseUintB 64 s.data.toList with n | _ | _
  · rw [g] at C
    have HP : Hid (∀ w' e, Below w.heap.size w w' → e = .returned (.tuple #[.int .u64 n, .nilIface]) → UintPost s.data.toList w e w') := Lib.hid (fun w' e hb he => ⟨hb, .inl ⟨n, uint_ok g, he⟩⟩)
    have C' : Calls Tryz.prog 192 #[.string s, .int .i64 10, .int .i64 64] w fun e w' => e = .returned (.tuple #[.int .u64 n, .nilIface]) ∧ Below w.heap.size w w' := C
    clear g C
    go_enter Tryz.func165, Tryz.ntmps165
    go_wp2_with (go_at_call 192; refine C'.mono ?_; rintro e w1 ⟨rfl, hb⟩; have HB := Lib.hid hb; clear hb)
    go_ret2
    exact HP.out _ _ HB.out rfl
  · rw [g] at C
    have HP : Hid (∀ (T : TypeId) (p : Value) w' e, Below w.heap.size w w' → e = .returned (.tuple #[.int .u64 0, .iface T p]) → UintPost s.data.toList w e w') := Lib.hid (fun T p w' e hb he => ⟨hb, .inr ⟨uint_bad (fun n h => by rw [g] at h; cases h), _, T, p, he⟩⟩)
    have C' : Calls Tryz.prog 192 #[.string s, .int .i64 10, .int .i64 64] w fun e w' => e = .returned (.tuple #[.int .u64 0, .iface 216 (.int .i64 2)]) ∧ Below w.heap.size w w' := C
    clear g C
    go_enter Tryz.func165, Tryz.ntmps165
    go_wp2_with (go_at_call 192; refine C'.mono ?_; rintro e w1 ⟨rfl, hb⟩; refine Hid.out ?_)
    obtain ⟨tp, p, hc⟩ := syn_cell (HL.out.on hb)
    have HT := fun fn => Any.strconv_toError_syntax Tryz.laysC245 fn s 10 64 (.iface tp p) w1 HZ.out hc (Or.inr ⟨_, _, rfl⟩)
    have HB := Lib.hid hb
    clear hb hc
    refine Lib.hid ?_
    go_wp2_with (go_at_call 193; refine (HT _).mono ?_; rintro e w2 ⟨N, rfl, _, _, hb2⟩; have HB2 := Lib.hid hb2; clear hb2)
    go_ret2
    exact HP.out _ _ _ _ (fin HB.out HB2.out) rfl
  · rw [g] at C
    have HP : Hid (∀ (T : TypeId) (p : Value) w' e, Below w.heap.size w w' → e = .returned (.tuple #[.int .u64 18446744073709551615, .iface T p]) → UintPost s.data.toList w e w') := Lib.hid (fun T p w' e hb he => ⟨hb, .inr ⟨uint_bad (fun n h => by rw [g] at h; cases h), _, T, p, he⟩⟩)
    have C' : Calls Tryz.prog 192 #[.string s, .int .i64 10, .int .i64 64] w fun e w' => e = .returned (.tuple #[.int .u64 18446744073709551615, .iface 216 (.int .i64 1)]) ∧ Below w.heap.size w w' := C
    clear g C
    go_enter Tryz.func165, Tryz.ntmps165
    go_wp2_with (go_at_call 192; refine C'.mono ?_; rintro e w1 ⟨rfl, hb⟩; refine Hid.out ?_)
    obtain ⟨tp, p, hc⟩ := rng_cell (HL.out.on hb)
    have HT := fun fn => Any.strconv_toError_range Tryz.laysC245 fn s 10 64 (.iface tp p) w1 HZ.out hc (Or.inr ⟨_, _, rfl⟩)
    have HB := Lib.hid hb
    clear hb hc
    refine Lib.hid ?_
    go_wp2_with (go_at_call 193; refine (HT _).mono ?_; rintro e w2 ⟨N, rfl, _, _, hb2⟩; have HB2 := Lib.hid hb2; clear hb2)
    go_ret2
    exact HP.out _ _ _ _ (fin HB.out HB2.out) rfl
def EpochPost (l : Bs) (w : World) (e : Ending) (w' : World) : Prop := e = .returned (.tuple #[.int .i64 (epochP l).1, .int .i64 (epochP l).2]) ∧ Below w.heap.size w w'
set_option maxHeartbeats 2000000 in
theorem epoch_any (s : ByteArray) (hs : s.size ≤ 100000) (w : World) (h : LaidV w) : Calls Tryz.prog 124 #[.string s] w (EpochPost s.data.toList w) := by
  have C := uint_any s hs w h
  have hl := sizeOf s
  refine Calls.mono (R := fun e w' => EpochPost s.data.toList w e w') ?_ (fun _ _ h => h)
  by_cases hy : s.data.toList ≠ [] ∧ s.data.toList.length ≤ 9 ∧ s.data.toList.all dgB = true
  · have C' : Calls Tryz.prog 165 #[.string s, .int .i64 10, .int .i64 64] w fun e w' => e = .returned (.tuple #[.int .u64 (epochOf s.data.toList), .nilIface]) ∧ Below w.heap.size w w' := C.mono fun e w' hp => by
      obtain ⟨hb, ⟨n, hn, he⟩ | ⟨hn, _⟩⟩ := hp
      · rw [← (hn hy.2.1).2.2]; exact ⟨he, hb⟩
      · exact absurd hy hn
    have hp := epochP_yes hy
    have hb := epoch_lt hy.2.1 hy.2.2
    have HP : Hid (∀ w' e, Below w.heap.size w w' → e = .returned (.tuple #[.int .i64 (epochOf s.data.toList), .int .i64 0]) → EpochPost s.data.toList w e w') := Lib.hid (fun w' e hb he => ⟨by rw [he, hp], hb⟩)
    have h9 : s.size ≤ 9 := by rw [hl]; exact hy.2.1
    obtain ⟨hb1, hb2⟩ := hb
    generalize epochOf s.data.toList = z at *
    clear hy hp hl C h
    go_enter Tryz.func124, Tryz.ntmps124
    go_wp2_with (go_at_call 165; refine C'.mono ?_; rintro e w1 ⟨rfl, hb⟩; have HB := Lib.hid hb; clear hb)
    go_ret2
    exact HP.out _ _ HB.out rfl
  · have hp := epochP_no hy
    have HP : Hid (∀ w' e, Below w.heap.size w w' → e = .returned (.tuple #[.int .i64 0, .int .i64 2]) → EpochPost s.data.toList w e w') := Lib.hid (fun w' e hb he => ⟨by rw [he, hp], hb⟩)
    by_cases h9 : s.size ≤ 9
    · have C' : Calls Tryz.prog 165 #[.string s, .int .i64 10, .int .i64 64] w fun e w' => ∃ (z : Int) (T : TypeId) (p : Value), e = .returned (.tuple #[.int .u64 z, .iface T p]) ∧ Below w.heap.size w w' := C.mono fun e w' hp => by
        obtain ⟨hb, ⟨n, hn, he⟩ | ⟨_, z, T, p, he⟩⟩ := hp
        · have := hn (by omega)
          exact absurd ⟨this.1, by omega, this.2.1⟩ hy
        · exact ⟨z, T, p, he, hb⟩
      clear hy hp hl C h
      go_enter Tryz.func124, Tryz.ntmps124
      go_wp2_with (go_at_call 165; refine C'.mono ?_; rintro e w1 ⟨z, T, p, rfl, hb⟩; have HB := Lib.hid hb; clear hb)
      go_ret2
      exact HP.out _ _ HB.out rfl
    · have C' : Calls Tryz.prog 165 #[.string s, .int .i64 10, .int .i64 64] w fun e w' => ∃ (z : Int) (v : Value), e = .returned (.tuple #[.int .u64 z, v]) ∧ (v = .nilIface ∨ ∃ T p, v = .iface T p) ∧ Below w.heap.size w w' := C.mono fun e w' hp => by
        obtain ⟨hb, ⟨n, hn, he⟩ | ⟨_, z, T, p, he⟩⟩ := hp
        · exact ⟨_, _, he, .inl rfl, hb⟩
        · exact ⟨_, _, he, .inr ⟨T, p, rfl⟩, hb⟩
      have h9' : 9 < s.size := by omega
      clear hy hp hl C h h9
      go_enter Tryz.func124, Tryz.ntmps124
      go_wp2_with (go_at_call 165; refine C'.mono ?_; rintro e w1 ⟨z, v, rfl, (rfl | ⟨T, p, rfl⟩), hb⟩ <;> (have HB := Lib.hid hb; clear hb))
      all_goals
        go_ret2
        exact HP.out _ _ HB.out rfl
end Go.Proofs.YtbeoklihpkfofaaGreatDoor
