import Derived.Test.YtkbkaeefdhkgdaaGreatDoorGSPrintM
set_option maxRecDepth 100000
set_option maxHeartbeats 32000000
namespace Go.Proofs.YtkbkaeefdhkgdaaGreatDoor
section
open Go.Lib
def trim1 (s : Bs) : Bs := if s.head? = some 32 then s.tail else s
def hbB (q : Bs) : Bool := decide (q.head? = some 32)
def neB (q : Bs) : Bool := decide (q ≠ [])
def readFld (p : Bs) (more : List Bs) : Fld := (p.take (colonAt p), joinC 10 (trim1 (p.drop (colonAt p + 1)) :: more.map List.tail))
def readFldsN : Nat → List Bs → List Fld
 | _, [] => []
 | 0, _ :: _ => []
 | n + 1, p :: ps => readFld p (ps.takeWhile hbB) :: readFldsN n (ps.dropWhile hbB)
def readFlds (ls : List Bs) : List Fld := readFldsN ls.length ls
theorem dropW_le {α : Type} (p : α → Bool) (l : List α) : (l.dropWhile p).length ≤ l.length := (List.dropWhile_sublist _).length_le
theorem readFldsN_any : ∀ (n m : Nat) (ls : List Bs), ls.length ≤ n → ls.length ≤ m → readFldsN n ls = readFldsN m ls
 | n, m, [], _, _ => by cases n <;> cases m <;> rfl
 | 0, _, _ :: _, h, _ => by simp at h
 | _, 0, _ :: _, _, h => by simp at h
 | n + 1, m + 1, p :: ps, h1, h2 => by
  have := dropW_le hbB ps
  simp only [List.length_cons] at h1 h2
  rw [readFldsN, readFldsN, readFldsN_any n m _ (by omega) (by omega)]
theorem readFlds_nil : readFlds [] = [] := rfl
theorem readFlds_cons (p : Bs) (ps : List Bs) : readFlds (p :: ps) = readFld p (ps.takeWhile hbB) :: readFlds (ps.dropWhile hbB) := by
 have := dropW_le hbB ps
 unfold readFlds
 rw [List.length_cons, readFldsN, readFldsN_any _ (ps.dropWhile hbB).length _ (by omega) (Nat.le_refl _)]
def readSsN : Nat → List Bs → List (List Fld)
 | _, [] => []
 | 0, _ :: _ => []
 | n + 1, p :: ps => if (p :: ps).all neB = true then [readFlds (p :: ps)] else readFlds ((p :: ps).takeWhile neB) :: readSsN n (((p :: ps).dropWhile neB).drop 1)
def readSs (ls : List Bs) : List (List Fld) := readSsN ls.length ls
theorem dropN_lt (ls : List Bs) (h : ls ≠ []) : ((ls.dropWhile neB).drop 1).length < ls.length := by
 have := dropW_le neB ls
 have h0 := List.length_pos_iff.2 h
 rw [List.length_drop]; omega
theorem readSsN_any : ∀ (n m : Nat) (ls : List Bs), ls.length ≤ n → ls.length ≤ m → readSsN n ls = readSsN m ls
 | n, m, [], _, _ => by cases n <;> cases m <;> rfl
 | 0, _, _ :: _, h, _ => by simp at h
 | _, 0, _ :: _, _, h => by simp at h
 | n + 1, m + 1, p :: ps, h1, h2 => by
  have := dropN_lt (p :: ps) (by simp)
  rw [readSsN, readSsN, readSsN_any n m _ (by simp only [List.length_cons] at *; omega) (by simp only [List.length_cons] at *; omega)]
theorem readSs_nil : readSs [] = [] := rfl
theorem readSs_last {ls : List Bs} (h : ls ≠ []) (ha : ls.all neB = true) : readSs ls = [readFlds ls] := by
 cases ls with
 | nil => exact absurd rfl h
 | cons p ps => unfold readSs; rw [List.length_cons, readSsN, if_pos ha]
theorem readSs_cut {ls : List Bs} (ha : ls.all neB = false) : readSs ls = readFlds (ls.takeWhile neB) :: readSs ((ls.dropWhile neB).drop 1) := by
 cases ls with
 | nil => cases ha
 | cons p ps =>
  have := dropN_lt (p :: ps) (by simp)
  unfold readSs
  rw [List.length_cons, readSsN, if_neg (by rw [ha]; simp), readSsN_any _ (((p :: ps).dropWhile neB).drop 1).length _ (by simp only [List.length_cons] at *; omega) (Nat.le_refl _)]
-- What is printed is read as it was
theorem trim_head (p : Bs) : trim1 (headLine' p) = p := by
 unfold trim1 headLine'
 by_cases h : p = []
 ·
  subst h; simp
 ·
  rw [if_pos h]; simp
theorem tail_cons (ps : List Bs) : (ps.map fun q => (32 : UInt8) :: q).map List.tail = ps := by
 rw [List.map_map]; simp [Function.comp_def]
theorem linesS_head (st : List Fld) (h : ∀ f ∈ st, FldOk f) : (linesS st).takeWhile hbB = [] ∧ (linesS st).dropWhile hbB = linesS st := by
 cases st with
 | nil => exact ⟨rfl, rfl⟩
 | cons f st =>
  have e : linesS (f :: st) = linesF f ++ linesS st := by simp [linesS]
  have hf := h f (by simp)
  rw [e]
  unfold linesF
  cases hs : spl 10 f.2 with
  | nil => exact absurd hs (spl_ne _ _)
  | cons p ps =>
   have hh : hbB (f.1 ++ 58 :: headLine' p) = false := by unfold hbB; exact decide_eq_false (head_not hf _).1
   rw [List.cons_append, List.takeWhile_cons, List.dropWhile_cons, hh]; exact ⟨rfl, rfl⟩
theorem takeW_append {p : Bs → Bool} : ∀ {a b : List Bs}, (∀ x ∈ a, p x = true) → (a ++ b).takeWhile p = a ++ b.takeWhile p ∧ (a ++ b).dropWhile p = b.dropWhile p
 | [], b, _ => ⟨rfl, rfl⟩
 | x :: a, b, h => by
  have hx := h x (by simp)
  obtain ⟨h1, h2⟩ := takeW_append (a := a) (b := b) (fun y hy => h y (List.mem_cons_of_mem _ hy))
  rw [List.cons_append, List.takeWhile_cons, List.dropWhile_cons, if_pos hx, if_pos hx, h1, h2]; exact ⟨rfl, rfl⟩
theorem readFlds_lines : ∀ (st : List Fld), (∀ f ∈ st, FldOk f) → readFlds (linesS st) = st
 | [], _ => rfl
 | f :: st, h => by
  have e : linesS (f :: st) = linesF f ++ linesS st := by simp [linesS]
  have hf := h f (by simp)
  have hj := joinC_spl 10 f.2
  have hst := fun g hg => h g (List.mem_cons_of_mem f hg)
  rw [e]
  unfold linesF
  cases hs : spl 10 f.2 with
  | nil => exact absurd hs (spl_ne _ _)
  | cons p ps =>
   rw [hs] at hj
   obtain ⟨t1, t2⟩ := takeW_append (p := hbB) (a := ps.map fun q => (32 : UInt8) :: q) (b := linesS st) (fun x hx => by
    obtain ⟨q, _, rfl⟩ := List.mem_map.1 hx; simp [hbB])
   have h58 : (58 : UInt8) ∉ f.1 := nm_not hf (by decide)
   have hc := colonAt_at f.1 (headLine' p) h58
   have hd : List.drop (f.1.length + 1) (f.1 ++ 58 :: headLine' p) = headLine' p := by
    have : f.1 ++ 58 :: headLine' p = (f.1 ++ [58]) ++ headLine' p := by simp
    rw [this]; exact List.drop_left' (by simp)
   rw [List.cons_append, readFlds_cons, t1, t2, (linesS_head st hst).1, (linesS_head st hst).2, List.append_nil, readFlds_lines st hst]
   unfold readFld
   rw [hc, List.take_left' rfl, hd, trim_head, tail_cons, hj]
theorem linesS_ne (st : List Fld) (h : ∀ f ∈ st, FldOk f) : ∀ p ∈ linesS st, neB p = true := by
 intro p hp
 simp only [linesS, List.mem_flatMap] at hp
 obtain ⟨f, hf, hp⟩ := hp
 unfold linesF at hp
 cases hs : spl 10 f.2 with
 | nil => exact absurd hs (spl_ne _ _)
 | cons q ps =>
  rw [hs] at hp
  rcases List.mem_cons.1 hp with rfl | hp
  ·
   unfold neB; exact decide_eq_true (head_not (h f hf) _).2
  ·
   obtain ⟨x, _, rfl⟩ := List.mem_map.1 hp; simp [neB]
theorem linesS_some {st : List Fld} (hne : st ≠ []) (h : ∀ f ∈ st, FldOk f) : linesS st ≠ [] := by
 cases st with
 | nil => exact absurd rfl hne
 | cons f st =>
  have e : linesS (f :: st) = linesF f ++ linesS st := by simp [linesS]
  rw [e]
  have := (linesF_ne (h f (by simp))).1
  simp [this]
theorem readSs_lines : ∀ (l : List (List Fld)), (∀ st ∈ l, st ≠ [] ∧ ∀ f ∈ st, FldOk f) → readSs (linesSs l) = l
 | [], _ => rfl
 | [st], h => by
  obtain ⟨h1, h2⟩ := h st (by simp)
  rw [linesSs, readSs_last (linesS_some h1 h2) (List.all_eq_true.2 (linesS_ne st h2)), readFlds_lines st h2]
 | st :: st' :: l, h => by
  obtain ⟨h1, h2⟩ := h st (by simp)
  obtain ⟨t1, t2⟩ := takeW_append (p := neB) (a := linesS st) (b := [] :: linesSs (st' :: l)) (linesS_ne st h2)
  have hn : neB [] = false := by simp [neB]
  have ha : (linesS st ++ [] :: linesSs (st' :: l)).all neB = false := by rw [List.all_append, List.all_cons, hn]; simp
  rw [linesSs, readSs_cut ha, t1, t2, List.takeWhile_cons, List.dropWhile_cons, hn]
  simp only [Bool.false_eq_true, if_false, List.append_nil, List.drop_succ_cons, List.drop_zero]
  rw [readFlds_lines st h2, readSs_lines (st' :: l) (fun s hs => h s (List.mem_cons_of_mem _ hs))]
theorem lines_of_print {l : List (List Fld)} {s : Bs} (h : printE l = (s, 0)) : linesO s = some (linesSs l) := by
 obtain ⟨rfl, hok⟩ := print_ok h
 rw [printSs_lines]; exact lines_ended _ (linesSs_clean fun st hst => (hok st hst).2)
theorem parse_by_read (s : Bs) : parseS s = match linesO s with
  | none => none
  | some ls => if printE (readSs ls) = (s, 0) then some (readSs ls) else none := by
 cases hl : linesO s with
 | none => unfold parseS; rw [hl]
 | some ls =>
  simp only []
  by_cases h : printE (readSs ls) = (s, 0)
  ·
   rw [if_pos h]; exact print_parse h
  ·
   rw [if_neg h]
   cases hp : parseS s with
   | none => rfl
   | some l =>
    exfalso
    have hpr := parse_print hp
    have hok := (print_ok hpr).2
    have h1 := lines_of_print hpr
    rw [hl] at h1
    cases h1
    rw [readSs_lines l hok] at h
    exact h hpr
end
section
open Go.RowKit
theorem upper_any (c : UInt8) (w : World) : Calls Tryz.prog 159 #[.int .u8 c.toNat] w fun e w' => e = .returned (.bool (upB c)) ∧ w = w' := by
 have hc := c.toNat_lt
 obtain ⟨B, HB⟩ : ∃ B, Hid (upB c = B) := ⟨_, rfl⟩
 rw [HB.out]
 unfold upB at HB
 generalize c.toNat = n at *
 by_cases h1 : 65 ≤ n
 ·
  go_enter Tryz.func159, Tryz.ntmps159
  go_wp2
  go_ret
  exact ⟨retb (by rw [← HB.out, Bool.eq_iff_iff]; simp only [Bool.and_eq_true, decide_eq_true_eq]; omega), rfl⟩
 ·
  go_enter Tryz.func159, Tryz.ntmps159
  go_wp2
  go_ret
  exact ⟨retb (by rw [← HB.out, decide_eq_false h1]; rfl), rfl⟩
def ldB (c : UInt8) : Bool := decide (97 ≤ c.toNat) && decide (c.toNat ≤ 122) || decide (48 ≤ c.toNat) && decide (c.toNat ≤ 57)
theorem nmB_is (c : UInt8) : nmB c = (upB c || ldB c || decide (c.toNat = 45)) := by
 unfold nmB ltB dgB upB ldB
 rw [Bool.eq_iff_iff]
 simp only [Bool.or_eq_true, Bool.and_eq_true, decide_eq_true_eq]
 omega
theorem lowdig_any (c : UInt8) (w : World) : Calls Tryz.prog 160 #[.int .u8 c.toNat] w fun e w' => e = .returned (.bool (ldB c)) ∧ w = w' := by
 have hc := c.toNat_lt
 obtain ⟨B, HB⟩ : ∃ B, Hid (ldB c = B) := ⟨_, rfl⟩
 rw [HB.out]
 unfold ldB at HB
 generalize c.toNat = n at *
 by_cases h1 : 97 ≤ n
 ·
  by_cases h2 : n ≤ 122
  ·
   go_enter Tryz.func160, Tryz.ntmps160
   go_wp2
   go_ret
   exact ⟨retb (by rw [← HB.out, Bool.eq_iff_iff]; simp only [Bool.or_eq_true, Bool.and_eq_true, decide_eq_true_eq, true_iff]; omega), rfl⟩
  ·
   go_enter Tryz.func160, Tryz.ntmps160
   go_wp2
   go_ret
   exact ⟨retb (by rw [← HB.out, Bool.eq_iff_iff]; simp only [Bool.or_eq_true, Bool.and_eq_true, decide_eq_true_eq]; omega), rfl⟩
 ·
  by_cases h3 : 48 ≤ n
  ·
   go_enter Tryz.func160, Tryz.ntmps160
   go_wp2
   go_ret
   exact ⟨retb (by rw [← HB.out, Bool.eq_iff_iff]; simp only [Bool.or_eq_true, Bool.and_eq_true, decide_eq_true_eq]; omega), rfl⟩
  ·
   go_enter Tryz.func160, Tryz.ntmps160
   go_wp2
   go_ret
   exact ⟨retb (by rw [← HB.out, Bool.eq_iff_iff]; simp only [Bool.or_eq_true, Bool.and_eq_true, decide_eq_true_eq, Bool.false_eq_true, false_iff]; omega), rfl⟩
def snameB (n : Bs) : Bool := decide (1 ≤ n.length) && decide (n.length ≤ 60) && headUp n && n.all nmB
theorem cons_at {s : ByteArray} (h : 0 < s.size) : s.data.toList = s[0] :: s.data.toList.drop 1 := by
 have := dropC s 0 h
 rwa [List.drop_zero] at this
theorem rightName_any (s : ByteArray) (hs : s.size ≤ 100000) (w : World) : Calls Tryz.prog 130 #[.string s] w fun e w' => e = .returned (.bool (snameB s.data.toList)) ∧ w = w' := by
 have UA := fun c w => upper_any c w
 have LA := fun c w => lowdig_any c w
 obtain ⟨R, HR⟩ : ∃ R, Hid (snameB s.data.toList = R) := ⟨_, rfl⟩
 rw [HR.out]
 have hl := sizeOf s
 have HI : Hid (snameB s.data.toList = (decide (1 ≤ s.size) && decide (s.size ≤ 60) && headUp s.data.toList && s.data.toList.all nmB)) := Lib.hid (by unfold snameB; rw [← hl])
 clear hl
 by_cases h1 : s.size < 1
 ·
  have HF : Hid (false = R) := Lib.hid (by rw [← HR.out, HI.out, decide_eq_false (by omega)]; rfl)
  clear HI HR UA LA
  go_enter Tryz.func130, Tryz.ntmps130
  go_wp2
  go_ret
  exact ⟨retb HF.out, rfl⟩
 ·
  by_cases h2 : 60 < s.size
  ·
   have HF : Hid (false = R) := Lib.hid (by rw [← HR.out, HI.out, decide_eq_false (p := s.size ≤ 60) (by omega)]; simp)
   clear HI HR UA LA
   go_enter Tryz.func130, Tryz.ntmps130
   go_wp2
   go_ret
   exact ⟨retb HF.out, rfl⟩
  ·
   have h0 : 0 < s.size := by omega
   have hc := s[0].toNat_lt
   have U0 := UA s[0]
   have hh : headUp s.data.toList = upB s[0] := by rw [cons_at h0]; rfl
   have HI2 : Hid (R = (upB s[0] && s.data.toList.all nmB)) := Lib.hid (by rw [← HR.out, HI.out, decide_eq_true (by omega), decide_eq_true (by omega), hh]; rfl)
   clear HI HR hh
   cases hu : upB s[0]
   ·
    have HF : Hid (false = R) := Lib.hid (by rw [HI2.out, hu]; rfl)
    rw [hu] at U0
    clear hu HI2 UA LA
    go_enter Tryz.func130, Tryz.ntmps130
    go_wp2_with (go_at_call 159; refine (U0 _).mono ?_; rintro e w1 ⟨rfl, rfl⟩)
    go_ret
    exact ⟨retb HF.out, rfl⟩
   ·
    have HI3 : Hid (R = s.data.toList.all nmB) := Lib.hid (by rw [HI2.out, hu]; rfl)
    rw [hu] at U0
    clear hu HI2
    go_enter Tryz.func130, Tryz.ntmps130
    go_wp2_with (go_at_call 159; refine (U0 _).mono ?_; rintro e w1 ⟨rfl, rfl⟩)
    clear U0
    go_loop [20] (fun i => ∃ k : Nat, k ≤ s.size ∧ i = .int .i64 k ∧ Hid ((s.data.toList.take k).all nmB = true)) (fun i => s.size - (intOf i).toNat)
    case atStart => exact ⟨0, by omega, rfl, Lib.hid (by simp)⟩
    case round =>
     obtain ⟨k, hk, rfl, H⟩ := hrel
     by_cases hlt : k < s.size
     ·
      have hck := s[k].toNat_lt
      have U := UA s[k]
      have L := LA s[k]
      have hN : nmB s[k] = true → Hid ((s.data.toList.take (k + 1)).all nmB = true) := fun g => Lib.hid (allNx hlt H.out g)
      have hS : nmB s[k] = false → Hid (false = R) := fun g => Lib.hid (by rw [HI3.out]; exact (allSt hlt g).symm)
      rw [nmB_is] at hN hS
      clear UA LA
      cases hu : upB s[k]
      ·
       rw [hu] at U hN hS
       cases hd : ldB s[k]
       ·
        rw [hd] at L hN hS
        by_cases he : s[k].toNat = 45
        ·
         have HN := hN (by simp [he])
         have e1 : ((s[k].toNat : Int) != 45) = false := by rw [he]; rfl
         clear hN hS hu hd he
         go_wp2_with (first | (go_at_call 159; refine (U _).mono ?_; rintro e w1 ⟨rfl, rfl⟩) | (go_at_call 160; refine (L _).mono ?_; rintro e w1 ⟨rfl, rfl⟩))
         go_round
         case rel => exact ⟨k + 1, by omega, by go_num, HN⟩
         case measure => simp [intOf]; omega
        ·
         have HS := hS (by simp [he])
         have e1 : ((s[k].toNat : Int) != 45) = true := by rw [bne_iff_ne]; omega
         clear hN hS hu hd he
         go_wp2_with (first | (go_at_call 159; refine (U _).mono ?_; rintro e w1 ⟨rfl, rfl⟩) | (go_at_call 160; refine (L _).mono ?_; rintro e w1 ⟨rfl, rfl⟩))
         go_ret
         exact ⟨retb HS.out, rfl⟩
       ·
        rw [hd] at L hN hS
        have HN := hN (by simp)
        clear hN hS hu hd
        go_wp2_with (first | (go_at_call 159; refine (U _).mono ?_; rintro e w1 ⟨rfl, rfl⟩) | (go_at_call 160; refine (L _).mono ?_; rintro e w1 ⟨rfl, rfl⟩))
        go_round
        case rel => exact ⟨k + 1, by omega, by go_num, HN⟩
        case measure => simp [intOf]; omega
      ·
       rw [hu] at U hN hS
       have HN := hN (by simp)
       clear hN hS hu L
       go_wp2_with (first | (go_at_call 159; refine (U _).mono ?_; rintro e w1 ⟨rfl, rfl⟩))
       go_round
       case rel => exact ⟨k + 1, by omega, by go_num, HN⟩
       case measure => simp [intOf]; omega
     ·
      obtain rfl : k = s.size := by omega
      have HT : Hid (true = R) := Lib.hid (by rw [HI3.out]; exact (allDn H.out).symm)
      clear hlt UA LA
      go_wp2
      go_ret
      exact ⟨retb HT.out, rfl⟩
def prB (c : UInt8) : Bool := decide (32 ≤ c.toNat) && decide (c.toNat ≤ 126)
theorem sprintable_any (s : ByteArray) (hs : s.size ≤ 100000) (w : World) : Calls Tryz.prog 161 #[.string s] w fun e w' => e = .returned (.bool (s.data.toList.all prB)) ∧ w = w' := by
 obtain ⟨R, HR⟩ : ∃ R, Hid (s.data.toList.all prB = R) := ⟨_, rfl⟩
 rw [HR.out]
 go_enter Tryz.func161, Tryz.ntmps161
 go_wp2
 go_loop [6] (fun i => ∃ k : Nat, k ≤ s.size ∧ i = .int .i64 k ∧ Hid ((s.data.toList.take k).all prB = true)) (fun i => s.size - (intOf i).toNat)
 case atStart => exact ⟨0, by omega, rfl, Lib.hid (by simp)⟩
 case round =>
  obtain ⟨k, hk, rfl, H⟩ := hrel
  by_cases hlt : k < s.size
  ·
   have hck := s[k].toNat_lt
   by_cases h1 : s[k].toNat < 32
   ·
    have HS : Hid (false = R) := Lib.hid (by rw [← HR.out]; exact (allSt hlt (by unfold prB; rw [decide_eq_false (by omega)]; rfl)).symm)
    go_wp2
    go_ret
    exact ⟨retb HS.out, rfl⟩
   ·
    by_cases h2 : 126 < s[k].toNat
    ·
     have HS : Hid (false = R) := Lib.hid (by rw [← HR.out]; exact (allSt hlt (by unfold prB; rw [decide_eq_false (p := s[k].toNat ≤ 126) (by omega)]; simp)).symm)
     go_wp2
     go_ret
     exact ⟨retb HS.out, rfl⟩
    ·
     have HN : Hid ((s.data.toList.take (k + 1)).all prB = true) := Lib.hid (allNx hlt H.out (by unfold prB; rw [decide_eq_true (by omega), decide_eq_true (by omega)]; rfl))
     go_wp2
     go_round
     case rel => exact ⟨k + 1, by omega, by go_num, HN⟩
     case measure => simp [intOf]; omega
  ·
   obtain rfl : k = s.size := by omega
   have HT : Hid (true = R) := Lib.hid (by rw [← HR.out]; exact (allDn H.out).symm)
   clear hlt
   go_wp2
   go_ret
   exact ⟨retb HT.out, rfl⟩
theorem lowC_nat (c : UInt8) : ((lowC c).toNat : Int) = if upB c = true then (c.toNat : Int) + 32 else c.toNat := by
 unfold lowC upB
 by_cases h : 65 ≤ c.toNat ∧ c.toNat ≤ 90
 ·
  rw [decide_eq_true h.1, decide_eq_true h.2]
  simp only [Bool.and_self, if_true]
  rw [UInt8.toNat_add]
  show (((c.toNat + 32) % 256 : Nat) : Int) = _
  omega
 ·
  have : (decide (65 ≤ c.toNat) && decide (c.toNat ≤ 90)) = false := by
   rw [Bool.eq_false_iff]; simp only [ne_eq, Bool.and_eq_true, decide_eq_true_eq]; exact h
  rw [this]; simp
theorem small_any (c : UInt8) (w : World) : Calls Tryz.prog 148 #[.int .u8 c.toNat] w fun e w' => e = .returned (.int .u8 (lowC c).toNat) ∧ w = w' := by
 have U := fun w => upper_any c w
 have hc := c.toNat_lt
 rw [lowC_nat]
 cases hu : upB c
 ·
  rw [hu] at U
  rw [if_neg (by simp)]
  clear hu
  go_enter Tryz.func148, Tryz.ntmps148
  go_wp2_with (go_at_call 159; refine (U _).mono ?_; rintro e w1 ⟨rfl, rfl⟩)
  go_ret
  exact ⟨rfl, rfl⟩
 ·
  rw [hu] at U
  rw [if_pos rfl]
  have hb : 65 ≤ c.toNat ∧ c.toNat ≤ 90 := by simpa [upB] using hu
  obtain ⟨hb1, hb2⟩ := hb
  clear hu
  generalize c.toNat = n at *
  go_enter Tryz.func148, Tryz.ntmps148
  go_wp2_with (go_at_call 159; refine (U _).mono ?_; rintro e w1 ⟨rfl, rfl⟩)
  go_ret
  exact ⟨reti (by omega), rfl⟩
theorem lower_len (s : Bs) : (lower s).length = s.length := by simp [lower]
theorem drewEx {w wr : World} (h : ∃ q, wr = w.drewN q) (n : Nat) : ∃ q, wr.drewN n = w.drewN q := by
 obtain ⟨q, rfl⟩ := h
 exact ⟨q + n, by rw [World.drewN_drewN]⟩
def sameB (a b : Bs) : Bool := decide (lower a = lower b)
theorem sameName_any (a b : ByteArray) (ha : a.size ≤ 100000) (hb : b.size ≤ 100000) (w : World) : Calls Tryz.prog 116 #[.string a, .string b] w fun e w' => e = .returned (.bool (sameB a.data.toList b.data.toList)) ∧ ∃ q, w' = w.drewN q := by
 obtain ⟨R, HR⟩ : ∃ R, Hid (sameB a.data.toList b.data.toList = R) := ⟨_, rfl⟩
 rw [HR.out]
 have SA : ∀ (c : UInt8) w, Calls Tryz.prog 148 #[.int .u8 c.toNat] w fun e w' => e = .returned (.int .u8 (lowC c).toNat) ∧ w' = w := fun c w => (small_any c w).mono fun _ _ h => ⟨h.1, h.2.symm⟩
 have la := sizeOf a
 have lb := sizeOf b
 by_cases h : a.size = b.size
 ·
  have HL := Lib.hid (And.intro la lb)
  clear la lb
  have h' : ((a.size : Int) != (b.size : Int)) = false := by rw [h]; simp
  have HE := Lib.hid h
  have hle : a.size ≤ b.size := by omega
  clear h
  go_enter Tryz.func116, Tryz.ntmps116
  go_wp2
  go_loopw [13] (fun i wr => ∃ k : Nat, k ≤ a.size ∧ i = .int .i64 k ∧ Hid ((lower a.data.toList).take k = (lower b.data.toList).take k) ∧ Hid (∃ q, wr = w.drewN q)) (fun i _ => a.size - (intOf i).toNat)
  case atStart => exact ⟨0, by omega, rfl, Lib.hid (by simp), Lib.hid ⟨0, rfl⟩⟩
  case round =>
   obtain ⟨k, hk, rfl, H, HQ⟩ := hrel
   by_cases hlt : k < a.size
   ·
    have hltb : k < b.size := by omega
    have h1 := a[k].toNat_lt
    have h2 := b[k].toNat_lt
    have h3 := (lowC a[k]).toNat_lt
    have h4 := (lowC b[k]).toNat_lt
    have ga : (lower a.data.toList)[k]? = some (lowC a[k]) := by
     unfold lower; rw [List.getElem?_map, List.getElem?_eq_getElem (by rw [← sizeOf]; exact hlt)]; rfl
    have gb : (lower b.data.toList)[k]? = some (lowC b[k]) := by
     unfold lower; rw [List.getElem?_map, List.getElem?_eq_getElem (by rw [← sizeOf]; exact hltb)]; rfl
    by_cases he : lowC a[k] = lowC b[k]
    ·
     have HN : Hid ((lower a.data.toList).take (k + 1) = (lower b.data.toList).take (k + 1)) := Lib.hid (by rw [List.take_add_one, List.take_add_one, ga, gb, he, H.out])
     have e1 : (((lowC a[k]).toNat : Int) != ((lowC b[k]).toNat : Int)) = false := by rw [he]; simp
     clear ga gb he
     go_wp2
     go_quiet ((go_at_call 148; exact Calls.quiet_of_same (SA _ _)))
     go_wp2
     go_roundw
     case rel => exact ⟨k + 1, by omega, by go_num, HN, Lib.hid (drewEx HQ.out _)⟩
     case measure => simp [intOf]; omega
    ·
     have HS : Hid (false = R) := Lib.hid (by
      rw [← HR.out]; unfold sameB
      refine (decide_eq_false fun g => he ?_).symm
      rw [g, gb] at ga
      exact (Option.some.inj ga).symm)
     have e1 : (((lowC a[k]).toNat : Int) != ((lowC b[k]).toNat : Int)) = true := by
      rw [bne_iff_ne]; intro g; exact he (UInt8.toNat_inj.1 (by omega))
     clear ga gb he
     go_wp2
     go_quiet ((go_at_call 148; exact Calls.quiet_of_same (SA _ _)))
     go_wp2
     go_ret
     exact ⟨retb HS.out, drewEx HQ.out _⟩
   ·
    obtain rfl : k = a.size := by omega
    have HT : Hid (true = R) := Lib.hid (by
     rw [← HR.out]; unfold sameB
     have := H.out
     rw [List.take_of_length_le (by rw [lower_len, ← HL.out.1]; omega), List.take_of_length_le (by rw [lower_len, ← HL.out.2]; have := HE.out; omega)] at this
     exact (decide_eq_true this).symm)
    clear hlt SA
    go_wp2
    go_ret
    exact ⟨retb HT.out, HQ.out⟩
 ·
  have HF : Hid (false = R) := Lib.hid (by
   rw [← HR.out]; unfold sameB
   exact (decide_eq_false fun g => h (by rw [la, lb, ← lower_len, g, lower_len])).symm)
  have h' : ((a.size : Int) != (b.size : Int)) = true := by rw [bne_iff_ne]; omega
  clear h SA la lb
  go_enter Tryz.func116, Tryz.ntmps116
  go_wp2
  go_ret
  exact ⟨retb HF.out, 0, rfl⟩
end
end Go.Proofs.YtkbkaeefdhkgdaaGreatDoor
