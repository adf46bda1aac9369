/-
  Stanzas as the program reads them: groups of lines, the fields of a group; what is printed is read as it was; nothing of the program. The reference's Lines and Words, and (of layer 2) Same: what each returns; nothing old turns. Digit, Letter, the first place of a byte: what version's texts have of them already (a seat that holds both version and stanza). The reference's Field: what it returns; nothing old turns. The program's upper, lowerOrDigit, rightName, printable, small, sameName: what each returns; the world stays as it was.
-/
import Derived.Test.YtbeoklihpkfofaaGreatDoorSSplit
import Derived.Test.YtbeoklihpkfofaaGreatDoorVRefB
namespace Go.Proofs.YtbeoklihpkfofaaGreatDoor
open Go.Lib
def trim1 (s : Bs) : Bs := if s.head? = some 32 then s.tail else s
def hbB (q : Bs) : Bool := decide (q.head? = some 32)
def neB (q : Bs) : Bool := decide (q ≠ [])
/-- The field of its first line and of further ones. -/
def readFld (p : Bs) (more : List Bs) : Fld := (p.take (colonAt p), joinC 10 (trim1 (p.drop (colonAt p + 1)) :: more.map List.tail))
def readFldsN : Nat → List Bs → List Fld
  | _, [] => []
  | 0, _ :: _ => []
  | n + 1, p :: ps => readFld p (ps.takeWhile hbB) :: readFldsN n (ps.dropWhile hbB)
def readFlds (ls : List Bs) : List Fld := readFldsN ls.length ls
theorem dropW_le {α : Type} (p : α → Bool) (l : List α) : (l.dropWhile p).length ≤ l.length := (List.dropWhile_sublist _).length_le
theorem readFldsN_any : ∀ (n m : Nat) (ls : List Bs), ls.length ≤ n → ls.length ≤ m → readFldsN n ls = readFldsN m ls
  | n, m, [], _, _ => by cases n <;> cases m <;> rfl
  | 0, _, _ :: _, h, _ => by simp at h
  | _, 0, _ :: _, _, h => by simp at h
  | n + 1, m + 1, p :: ps, h1, h2 => by
    have := dropW_le hbB ps
    simp only [List.length_cons] at h1 h2
    rw [readFldsN, readFldsN, readFldsN_any n m _ (by omega) (by omega)]
theorem readFlds_nil : readFlds [] = [] := rfl
theorem readFlds_cons (p : Bs) (ps : List Bs) : readFlds (p :: ps) = readFld p (ps.takeWhile hbB) :: readFlds (ps.dropWhile hbB) := by
  have := dropW_le hbB ps
  unfold readFlds
  rw [List.length_cons, readFldsN, readFldsN_any _ (ps.dropWhile hbB).length _ (by omega) (Nat.le_refl _)]
def readSsN : Nat → List Bs → List (List Fld)
  | _, [] => []
  | 0, _ :: _ => []
  | n + 1, p :: ps => if (p :: ps).all neB = true then [readFlds (p :: ps)] else readFlds ((p :: ps).takeWhile neB) :: readSsN n (((p :: ps).dropWhile neB).drop 1)
def readSs (ls : List Bs) : List (List Fld) := readSsN ls.length ls
theorem dropN_lt (ls : List Bs) (h : ls ≠ []) : ((ls.dropWhile neB).drop 1).length < ls.length := by
  have := dropW_le neB ls
  have h0 := List.length_pos_iff.2 h
  rw [List.length_drop]; omega
theorem readSsN_any : ∀ (n m : Nat) (ls : List Bs), ls.length ≤ n → ls.length ≤ m → readSsN n ls = readSsN m ls
  | n, m, [], _, _ => by cases n <;> cases m <;> rfl
  | 0, _, _ :: _, h, _ => by simp at h
  | _, 0, _ :: _, _, h => by simp at h
  | n + 1, m + 1, p :: ps, h1, h2 => by
    have := dropN_lt (p :: ps) (by simp)
    rw [readSsN, readSsN, readSsN_any n m _ (by simp only [List.length_cons] at *; omega) (by simp only [List.length_cons] at *; omega)]
theorem readSs_nil : readSs [] = [] := rfl
theorem readSs_last {ls : List Bs} (h : ls ≠ []) (ha : ls.all neB = true) : readSs ls = [readFlds ls] := by
  cases ls with
  | nil => exact absurd rfl h
  | cons p ps => unfold readSs; rw [List.length_cons, readSsN, if_pos ha]
theorem readSs_cut {ls : List Bs} (ha : ls.all neB = false) : readSs ls = readFlds (ls.takeWhile neB) :: readSs ((ls.dropWhile neB).drop 1) := by
  cases ls with
  | nil => cases ha
  | cons p ps =>
    have := dropN_lt (p :: ps) (by simp)
    unfold readSs
    rw [List.length_cons, readSsN, if_neg (by rw [ha]; simp), readSsN_any _ (((p :: ps).dropWhile neB).drop 1).length _ (by simp only [List.length_cons] at *; omega) (Nat.le_refl _)]
-- What is printed is read as it was
theorem trim_head (p : Bs) : trim1 (headLine' p) = p := by
  unfold trim1 headLine'
  by_cases h : p = []
  · subst h; simp
  · rw [if_pos h]; simp
theorem tail_cons (ps : List Bs) : (ps.map fun q => (32 : UInt8) :: q).map List.tail = ps := by
  rw [List.map_map]; simp [Function.comp_def]
theorem linesS_head (st : List Fld) (h : ∀ f ∈ st, FldOk f) : (linesS st).takeWhile hbB = [] ∧ (linesS st).dropWhile hbB = linesS st := by
  cases st with
  | nil => exact ⟨rfl, rfl⟩
  | cons f st =>
    have e : linesS (f :: st) = linesF f ++ linesS st := by simp [linesS]
    have hf := h f (by simp)
    rw [e]
    unfold linesF
    cases hs : spl 10 f.2 with
    | nil => exact absurd hs (spl_ne _ _)
    | cons p ps =>
      have hh : hbB (f.1 ++ 58 :: headLine' p) = false := by unfold hbB; exact decide_eq_false (head_not hf _).1
      rw [List.cons_append, List.takeWhile_cons, List.dropWhile_cons, hh]; exact ⟨rfl, rfl⟩
theorem takeW_append {p : Bs → Bool} : ∀ {a b : List Bs}, (∀ x ∈ a, p x = true) → (a ++ b).takeWhile p = a ++ b.takeWhile p ∧ (a ++ b).dropWhile p = b.dropWhile p
  | [], b, _ => ⟨rfl, rfl⟩
  | x :: a, b, h => by
    have hx := h x (by simp)
    obtain ⟨h1, h2⟩ := takeW_append (a := a) (b := b) (fun y hy => h y (List.mem_cons_of_mem _ hy))
    rw [List.cons_append, List.takeWhile_cons, List.dropWhile_cons, if_pos hx, if_pos hx, h1, h2]; exact ⟨rfl, rfl⟩
theorem readFlds_lines : ∀ (st : List Fld), (∀ f ∈ st, FldOk f) → readFlds (linesS st) = st
  | [], _ => rfl
  | f :: st, h => by
    have e : linesS (f :: st) = linesF f ++ linesS st := by simp [linesS]
    have hf := h f (by simp)
    have hj := joinC_spl 10 f.2
    have hst := fun g hg => h g (List.mem_cons_of_mem f hg)
    rw [e]
    unfold linesF
    cases hs : spl 10 f.2 with
    | nil => exact absurd hs (spl_ne _ _)
    | cons p ps =>
      rw [hs] at hj
      obtain ⟨t1, t2⟩ := takeW_append (p := hbB) (a := ps.map fun q => (32 : UInt8) :: q) (b := linesS st) (fun x hx => by
        obtain ⟨q, _, rfl⟩ := List.mem_map.1 hx; simp [hbB])
      have h58 : (58 : UInt8) ∉ f.1 := nm_not hf (by decide)
      have hc := colonAt_at f.1 (headLine' p) h58
      have hd : List.drop (f.1.length + 1) (f.1 ++ 58 :: headLine' p) = headLine' p := by
        have : f.1 ++ 58 :: headLine' p = (f.1 ++ [58]) ++ headLine' p := by simp
        rw [this]; exact List.drop_left' (by simp)
      rw [List.cons_append, readFlds_cons, t1, t2, (linesS_head st hst).1, (linesS_head st hst).2, List.append_nil, readFlds_lines st hst]
      unfold readFld
      rw [hc, List.take_left' rfl, hd, trim_head, tail_cons, hj]
theorem linesS_ne (st : List Fld) (h : ∀ f ∈ st, FldOk f) : ∀ p ∈ linesS st, neB p = true := by
  intro p hp
  simp only [linesS, List.mem_flatMap] at hp
  obtain ⟨f, hf, hp⟩ := hp
  unfold linesF at hp
  cases hs : spl 10 f.2 with
  | nil => exact absurd hs (spl_ne _ _)
  | cons q ps =>
    rw [hs] at hp
    rcases List.mem_cons.1 hp with rfl | hp
    · unfold neB; exact decide_eq_true (head_not (h f hf) _).2
    · obtain ⟨x, _, rfl⟩ := List.mem_map.1 hp; simp [neB]
theorem linesS_some {st : List Fld} (hne : st ≠ []) (h : ∀ f ∈ st, FldOk f) : linesS st ≠ [] := by
  cases st with
  | nil => exact absurd rfl hne
  | cons f st =>
    have e : linesS (f :: st) = linesF f ++ linesS st := by simp [linesS]
    rw [e]
    have := (linesF_ne (h f (by simp))).1
    simp [this]
theorem readSs_lines : ∀ (l : List (List Fld)), (∀ st ∈ l, st ≠ [] ∧ ∀ f ∈ st, FldOk f) → readSs (linesSs l) = l
  | [], _ => rfl
  | [st], h => by
    obtain ⟨h1, h2⟩ := h st (by simp)
    rw [linesSs, readSs_last (linesS_some h1 h2) (List.all_eq_true.2 (linesS_ne st h2)), readFlds_lines st h2]
  | st :: st' :: l, h => by
    obtain ⟨h1, h2⟩ := h st (by simp)
    obtain ⟨t1, t2⟩ := takeW_append (p := neB) (a := linesS st) (b := [] :: linesSs (st' :: l)) (linesS_ne st h2)
    have hn : neB [] = false := by simp [neB]
    have ha : (linesS st ++ [] :: linesSs (st' :: l)).all neB = false := by rw [List.all_append, List.all_cons, hn]; simp
    rw [linesSs, readSs_cut ha, t1, t2, List.takeWhile_cons, List.dropWhile_cons, hn]
    simp only [Bool.false_eq_true, if_false, List.append_nil, List.drop_succ_cons, List.drop_zero]
    rw [readFlds_lines st h2, readSs_lines (st' :: l) (fun s hs => h s (List.mem_cons_of_mem _ hs))]
theorem lines_of_print {l : List (List Fld)} {s : Bs} (h : printE l = (s, 0)) : linesO s = some (linesSs l) := by
  obtain ⟨rfl, hok⟩ := print_ok h
  rw [printSs_lines]; exact lines_ended _ (linesSs_clean fun st hst => (hok st hst).2)
/-- WHAT THE PROGRAM'S PARSE COMES TO: what it reads is what was printed, or nothing is. -/
theorem parse_by_read (s : Bs) : parseS s = match linesO s with
    | none => none
    | some ls => if printE (readSs ls) = (s, 0) then some (readSs ls) else none := by
  cases hl : linesO s with
  | none => unfold parseS; rw [hl]
  | some ls =>
    simp only []
    by_cases h : printE (readSs ls) = (s, 0)
    · rw [if_pos h]; exact print_parse h
    · rw [if_neg h]
      cases hp : parseS s with
      | none => rfl
      | some l =>
        exfalso
        have hpr := parse_print hp
        have hok := (print_ok hpr).2
        have h1 := lines_of_print hpr
        rw [hl] at h1
        cases h1
        rw [readSs_lines l hok] at h
        exact h hpr
end Go.Proofs.YtbeoklihpkfofaaGreatDoor
namespace Go.Proofs.YtbeoklihpkfofaaGreatDoor
open Go.RowKit
theorem HoldT.cut {w : World} {a : Option Addr} {c n : Nat} {ls : List Bs} (h : HoldT w (.slice a n c) ls) (k : Nat) (hk : k ≤ n) : HoldT w (.slice a k c) (ls.take k) := by
  obtain ⟨a', c', b, o, e, hc, ha, hcell⟩ := h
  simp only [Value.slice.injEq] at e
  obtain ⟨rfl, rfl, rfl⟩ := e
  have hl : (ls.take k).length = k := by rw [List.length_take]; omega
  refine ⟨a, c, b, o, by rw [hl], by omega, fun h0 => ha (by omega), fun j l hj => ?_⟩
  rw [List.getElem?_take] at hj
  split at hj
  · exact hcell j l hj
  · cases hj
theorem getLastAt {ls : List Bs} {n : Nat} (h : ls.length = n + 1) : ls.getLast? = some (ls[n]'(by omega)) := by
  have e : ls.length - 1 = n := by omega
  rw [List.getLast?_eq_getElem?, e]
  exact List.getElem?_eq_getElem _
def LinesPost (s : Bs) (w : World) (e : Ending) (w' : World) : Prop := ∃ v, e = .returned (.tuple #[v, .bool (decide ((spl 10 s).getLast? = some []))]) ∧ HoldT w' v (spl 10 s).dropLast ∧ Below w.heap.size w w'
set_option maxRecDepth 100000 in
set_option maxHeartbeats 4000000 in
theorem lines_ref (s : ByteArray) (hs : s.size ≤ 100000) (w : World) : Calls Tryz.prog 112 #[.string s] w (LinesPost s.data.toList w) := by
  have C := fun w => split_ref6 s hs 10 w
  have hne := spl_ne 10 s.data.toList
  have hln := spl_len 10 s.data.toList
  rw [← sizeOf] at hln
  have HP : Hid (∀ e w' v x, (spl 10 s.data.toList).getLast? = some x → e = .returned (.tuple #[v, .bool (decide (x = []))]) → HoldT w' v (spl 10 s.data.toList).dropLast → Below w.heap.size w w' → LinesPost s.data.toList w e w') := Lib.hid (fun e w' v x hx he h1 h2 => ⟨v, by rw [hx, he]; simp, h1, h2⟩)
  generalize spl 10 s.data.toList = ls at *
  obtain ⟨n, hn⟩ : ∃ n, ls.length = n + 1 := ⟨ls.length - 1, by have := List.length_pos_iff.2 hne; omega⟩
  have hnb : n ≤ 100000 := by omega
  clear hne
  go_enter Tryz.func112, Tryz.ntmps112
  go_wp2_with (first | (go_at_call 68; refine (C _).mono ?_; rintro e w1 ⟨v1, rfl, ho, hb⟩; obtain ⟨a, c, b, o, rfl, hc, ha, hcell⟩ := ho.holds; have HB1 := Lib.hid hb; have HH := Lib.hid ho.holds; clear ho hb; refine Hid.out ?_))
  refine Lib.hid ?_
  obtain ⟨rfl, hbw⟩ := ha (by omega)
  rw [hn] at hc HH
  have hcx := hcell n _ (List.getElem?_eq_getElem (by omega))
  have HX : Hid (ls.getLast? = some ls[n]) := Lib.hid (getLastAt hn)
  have HC : Hid (HoldT w1 (.slice (some ⟨b, o, none⟩) n c) ls.dropLast) := Lib.hid (by rw [List.dropLast_eq_take, hn]; exact HH.out.cut n (by omega))
  obtain ⟨x, hx⟩ : ∃ x : ByteArray, x.data.toList = ls[n] := ⟨⟨(ls[n]).toArray⟩, by simp⟩
  rw [← strOf hx] at hcx
  rw [← hx] at HX
  have he := emptyT x
  have HS := Lib.hid (sizeOf x)
  clear hcell ha HH hx C hn
  by_cases h0 : x.size = 0
  · rw [decide_eq_true h0] at he
    go_wp2
    go_quiet (fail)
    go_wp2
    go_ret2
    exact HP.out _ _ (.slice (some ⟨b, o, none⟩) n c) _ HX.out (by rw [decide_eq_true (List.eq_nil_of_length_eq_zero (by rw [← HS.out]; exact h0))]; rfl) (HC.out.on (belowQ (Below.refl _ _) _)) (belowQ HB1.out _)
  · rw [decide_eq_false h0] at he
    go_wp2
    go_quiet (fail)
    go_wp2
    go_ret2
    exact HP.out _ _ (.slice (some ⟨b, o, none⟩) n c) _ HX.out (by rw [decide_eq_false (fun e => h0 (by rw [HS.out, e]; rfl))]; rfl) (HC.out.on (belowQ (Below.refl _ _) _)) (belowQ HB1.out _)
end Go.Proofs.YtbeoklihpkfofaaGreatDoor

namespace Go.Proofs.YtbeoklihpkfofaaGreatDoor
open Go.RowKit
def lineAt (k : Nat) (p : Bs) : Bool := !(decide (k = 0) && decide (p.head? = some 32)) && endB p && !(decide (0 < k) && decide (p = []))
theorem linesB_at : ∀ (ls : List Bs), ls ≠ [] → (linesB ls = true ↔ ∀ (j : Nat) (h : j < ls.length), lineAt j ls[j] = true)
  | [], h => absurd rfl h
  | p :: ps, _ => by
    simp only [linesB, Bool.and_eq_true, Bool.not_eq_true', decide_eq_false_iff_not, List.all_eq_true, decide_eq_true_eq]
    constructor
    · rintro ⟨⟨h1, h2⟩, h3⟩ j hj
      cases j with
      | zero => simp [lineAt, h1, h2]
      | succ j =>
        have hj' : j < ps.length := by simpa using hj
        have := h3 ps[j] (List.getElem_mem hj')
        simp [lineAt, this.1]
        exact this.2
    · intro h
      have h0 := h 0 (by simp)
      simp [lineAt] at h0
      refine ⟨⟨h0.1, h0.2⟩, fun q hq => ?_⟩
      obtain ⟨j, hj, rfl⟩ := List.mem_iff_getElem.1 hq
      have := h (j + 1) (by simp; omega)
      simp [lineAt] at this
      exact ⟨this.1, this.2⟩
theorem linesB_no {ls : List Bs} (hne : ls ≠ []) {j : Nat} (h : j < ls.length) (g : lineAt j ls[j] = false) : linesB ls = false := by
  cases e : linesB ls
  · rfl
  · have := (linesB_at ls hne).1 e j h
    rw [g] at this; cases this
theorem lastB (x : ByteArray) (h2 : x.size - 1 < x.size) : x.data.toList.getLast? = some x[x.size - 1] := by
  have e := sizeOf x
  rw [List.getLast?_eq_getElem?, ← e, List.getElem?_eq_getElem (by rw [← e]; omega)]
  rfl
theorem headB0 (x : ByteArray) (h : 0 < x.size) : x.data.toList.head? = some x[0] := by
  have := dropC x 0 h
  rw [List.drop_zero] at this
  rw [this]; rfl
theorem field_is (n t : Bs) : fieldB (n, t) = (decide (1 ≤ n.length) && decide (n.length ≤ 60) && decide (t.length ≤ 65536) && headUp n && n.all nmB && t.all txB && linesB (spl 10 t)) := rfl
theorem not32 {x : UInt8} (h : ¬ x = 32) : ((x.toNat : Int) == 32) = false := by rw [beq_eq_false_iff_ne]; intro g; exact h (UInt8.toNat_inj.1 (by show x.toNat = 32; omega))
theorem yes32 {x : UInt8} (h : x = 32) : ((x.toNat : Int) == 32) = true := by rw [h]; rfl
set_option maxRecDepth 100000 in
set_option maxHeartbeats 16000000 in
theorem field_ref (n t : ByteArray) (hn : n.size ≤ 100000) (ht : t.size ≤ 100000) (w : World) :
    Calls Tryz.prog 102 #[.string n, .string t] w fun e w' => e = .returned (.bool (fieldB (n.data.toList, t.data.toList))) ∧ Below w.heap.size w w' := by
  obtain ⟨R, HR⟩ : ∃ R, Hid (fieldB (n.data.toList, t.data.toList) = R) := ⟨_, rfl⟩
  rw [HR.out]
  have HF := Lib.hid (field_is n.data.toList t.data.toList)
  have hln := sizeOf n
  have hlt := sizeOf t
  have bad : ∀ b : Bool, (b = false → (decide (1 ≤ n.data.toList.length) && decide (n.data.toList.length ≤ 60) && decide (t.data.toList.length ≤ 65536) && headUp n.data.toList && n.data.toList.all nmB && t.data.toList.all txB && linesB (spl 10 t.data.toList)) = false) → b = false → Hid (false = R) := fun b h hb => Lib.hid (by rw [← HR.out, HF.out, h hb])
  have B1 := Lib.hid (bad (decide (1 ≤ n.data.toList.length)) (fun h => by rw [h]; simp only [Bool.false_and]))
  have B2 := Lib.hid (bad (decide (n.data.toList.length ≤ 60)) (fun h => by rw [h]; simp only [Bool.false_and, Bool.and_false]))
  have B3 := Lib.hid (bad (decide (t.data.toList.length ≤ 65536)) (fun h => by rw [h]; simp only [Bool.false_and, Bool.and_false]))
  have B4 := Lib.hid (bad (headUp n.data.toList) (fun h => by rw [h]; simp only [Bool.false_and, Bool.and_false]))
  have B5 := Lib.hid (bad (n.data.toList.all nmB) (fun h => by rw [h]; simp only [Bool.false_and, Bool.and_false]))
  have B6 := Lib.hid (bad (t.data.toList.all txB) (fun h => by rw [h]; simp only [Bool.false_and, Bool.and_false]))
  have B7 := Lib.hid (bad (linesB (spl 10 t.data.toList)) (fun h => by rw [h]; simp only [Bool.and_false]))
  clear bad
  by_cases h1 : n.size < 1
  · have G := B1.out (decide_eq_false (by omega))
    clear HF B1 B2 B3 B4 B5 B6 B7 HR hln hlt
    go_enter Tryz.func102, Tryz.ntmps102
    go_wp2
    go_ret
    exact ⟨retb G.out, Below.refl _ _⟩
  by_cases h2 : 60 < n.size
  · have G := B2.out (decide_eq_false (by omega))
    clear HF B1 B2 B3 B4 B5 B6 B7 HR hln hlt
    go_enter Tryz.func102, Tryz.ntmps102
    go_wp2
    go_ret
    exact ⟨retb G.out, Below.refl _ _⟩
  by_cases h3 : 65536 < t.size
  · have G := B3.out (decide_eq_false (by omega))
    clear HF B1 B2 B3 B4 B5 B6 B7 HR hln hlt
    go_enter Tryz.func102, Tryz.ntmps102
    go_wp2
    go_ret
    exact ⟨retb G.out, Below.refl _ _⟩
  have hn0 : 0 < n.size := by omega
  have hhd : headUp n.data.toList = upB (n[0]'hn0) := by
    have := dropC n 0 hn0
    rw [List.drop_zero] at this
    rw [this]; rfl
  have hx := (n[0]'hn0).toNat_lt
  by_cases h4 : (n[0]'hn0).toNat < 65
  · have G := B4.out (by rw [hhd]; unfold upB; rw [decide_eq_false (by omega)]; rfl)
    clear HF B1 B2 B3 B4 B5 B6 B7 HR hln hlt hhd
    go_enter Tryz.func102, Tryz.ntmps102
    go_wp2
    go_ret
    exact ⟨retb G.out, Below.refl _ _⟩
  by_cases h5 : 90 < (n[0]'hn0).toNat
  · have G := B4.out (by rw [hhd]; unfold upB; rw [decide_eq_false (p := (n[0]'hn0).toNat ≤ 90) (by omega)]; simp)
    clear HF B1 B2 B3 B4 B5 B6 B7 HR hln hlt hhd
    go_enter Tryz.func102, Tryz.ntmps102
    go_wp2
    go_ret
    exact ⟨retb G.out, Below.refl _ _⟩
  have HG : Hid (n.data.toList.all nmB = true → t.data.toList.all txB = true → linesB (spl 10 t.data.toList) = true → true = R) := Lib.hid (fun g1 g2 g3 => by
    rw [← HR.out, HF.out, g1, g2, g3, hhd]
    have : upB (n[0]'hn0) = true := by unfold upB; rw [decide_eq_true (by omega), decide_eq_true (by omega)]; rfl
    rw [this, decide_eq_true (by omega), decide_eq_true (by omega), decide_eq_true (by omega)]; rfl)
  have C1 := fun c w => letter_ref c w
  have C2 := fun c w => digit_ref c w
  have C3 := fun w => split_ref6 t (by omega) 10 w
  clear HF B1 B2 B3 B4 HR hln hlt hhd
  go_enter Tryz.func102, Tryz.ntmps102
  go_wp2
  go_loop [5] (fun i => ∃ k : Nat, k ≤ n.size ∧ i = .int .i64 k ∧ Hid ((n.data.toList.take k).all nmB = true)) (fun i => n.size - (intOf i).toNat)
  case atStart => exact ⟨0, by omega, rfl, Lib.hid (by simp)⟩
  case round =>
    obtain ⟨k, hk, rfl, H⟩ := hrel
    by_cases hlt : k < n.size
    · have D1 := C1 n[k]
      have D2 := C2 n[k]
      have hxk := n[k].toNat_lt
      cases hd1 : ltB n[k]
      · cases hd2 : dgB n[k]
        · by_cases he : n[k].toNat = 45
          · have HN : Hid ((n.data.toList.take (k + 1)).all nmB = true) := Lib.hid (allNx hlt H.out (by unfold nmB; rw [decide_eq_true he]; simp))
            have e1 : ((n[k].toNat : Int) != 45) = false := by rw [he]; rfl
            rw [hd1] at D1
            rw [hd2] at D2
            clear hd1 hd2 he C3 HG B5 B6 B7 C1 C2
            go_wp2_with (first | (go_at_call 139; refine (D1 _).mono ?_; rintro e w1 ⟨rfl, rfl⟩) | (go_at_call 85; refine (D2 _).mono ?_; rintro e w1 ⟨rfl, rfl⟩))
            go_round
            case rel => exact ⟨k + 1, by omega, by go_num, HN⟩
            case measure => simp [intOf]; omega
          · have G := B5.out (allSt hlt (by unfold nmB; rw [hd1, hd2, decide_eq_false he]; rfl))
            have e1 : ((n[k].toNat : Int) != 45) = true := by rw [bne_iff_ne]; omega
            rw [hd1] at D1
            rw [hd2] at D2
            clear hd1 hd2 he C3 HG B5 B6 B7 C1 C2
            go_wp2_with (first | (go_at_call 139; refine (D1 _).mono ?_; rintro e w1 ⟨rfl, rfl⟩) | (go_at_call 85; refine (D2 _).mono ?_; rintro e w1 ⟨rfl, rfl⟩))
            go_ret
            exact ⟨retb G.out, Below.refl _ _⟩
        · have HN : Hid ((n.data.toList.take (k + 1)).all nmB = true) := Lib.hid (allNx hlt H.out (by unfold nmB; rw [hd2]; simp))
          rw [hd1] at D1
          rw [hd2] at D2
          clear hd1 hd2 C3 HG B5 B6 B7 C1 C2
          go_wp2_with (first | (go_at_call 139; refine (D1 _).mono ?_; rintro e w1 ⟨rfl, rfl⟩) | (go_at_call 85; refine (D2 _).mono ?_; rintro e w1 ⟨rfl, rfl⟩))
          go_round
          case rel => exact ⟨k + 1, by omega, by go_num, HN⟩
          case measure => simp [intOf]; omega
      · have HN : Hid ((n.data.toList.take (k + 1)).all nmB = true) := Lib.hid (allNx hlt H.out (by unfold nmB; rw [hd1]; simp))
        rw [hd1] at D1
        clear hd1 D2 C3 HG B5 B6 B7 C1 C2
        go_wp2_with (first | (go_at_call 139; refine (D1 _).mono ?_; rintro e w1 ⟨rfl, rfl⟩))
        go_round
        case rel => exact ⟨k + 1, by omega, by go_num, HN⟩
        case measure => simp [intOf]; omega
    · obtain rfl : k = n.size := by omega
      have HA := Lib.hid (allDn H.out)
      clear hlt C1 C2 H B5
      go_wp2
      go_loop [6] (fun i => ∃ k : Nat, k ≤ t.size ∧ i = .int .i64 k ∧ Hid ((t.data.toList.take k).all txB = true)) (fun i => t.size - (intOf i).toNat)
      case atStart => exact ⟨0, by omega, rfl, Lib.hid (by simp)⟩
      case round =>
        obtain ⟨k, hk, rfl, H⟩ := hrel
        by_cases hlt : k < t.size
        · have hxk := t[k].toNat_lt
          by_cases he : t[k].toNat = 10
          · have HN : Hid ((t.data.toList.take (k + 1)).all txB = true) := Lib.hid (allNx hlt H.out (by unfold txB; rw [decide_eq_true he]; rfl))
            have e1 : ((t[k].toNat : Int) != 10) = false := by rw [he]; rfl
            clear he C3 HG B6 B7
            go_wp2
            go_round
            case rel => exact ⟨k + 1, by omega, by go_num, HN⟩
            case measure => simp [intOf]; omega
          · have e1 : ((t[k].toNat : Int) != 10) = true := by rw [bne_iff_ne]; omega
            by_cases h32 : t[k].toNat < 32
            · have G := B6.out (allSt hlt (by unfold txB; rw [decide_eq_false he, decide_eq_false (p := 32 ≤ t[k].toNat) (by omega)]; rfl))
              clear he C3 HG B6 B7
              go_wp2
              go_ret
              exact ⟨retb G.out, Below.refl _ _⟩
            · by_cases h126 : 126 < t[k].toNat
              · have G := B6.out (allSt hlt (by unfold txB; rw [decide_eq_false he, decide_eq_false (p := t[k].toNat ≤ 126) (by omega)]; simp))
                clear he C3 HG B6 B7
                go_wp2
                go_ret
                exact ⟨retb G.out, Below.refl _ _⟩
              · have HN : Hid ((t.data.toList.take (k + 1)).all txB = true) := Lib.hid (allNx hlt H.out (by unfold txB; rw [decide_eq_true (p := 32 ≤ t[k].toNat) (by omega), decide_eq_true (p := t[k].toNat ≤ 126) (by omega)]; simp))
                clear he C3 HG B6 B7
                go_wp2
                go_round
                case rel => exact ⟨k + 1, by omega, by go_num, HN⟩
                case measure => simp [intOf]; omega
        · obtain rfl : k = t.size := by omega
          have HT := Lib.hid (HG.out HA.out (allDn H.out))
          clear hlt H HG HA B6
          have hne := spl_ne 10 t.data.toList
          have hlen := spl_len 10 t.data.toList
          rw [← sizeOf] at hlen
          have hsz : ∀ (x : ByteArray), x.data.toList ∈ spl 10 t.data.toList → x.size ≤ 100000 := fun x hx => by have := spl_piece 10 _ _ hx; rw [← sizeOf, ← sizeOf] at this; omega
          have HSZ := Lib.hid hsz
          have HNE := Lib.hid hne
          clear hsz hne
          generalize spl 10 t.data.toList = ls at *
          go_wp2_with (first | (go_at_call 68; refine (C3 _).mono ?_; rintro e w1 ⟨v1, rfl, ho, hb⟩; obtain ⟨a, c, b, o, rfl, hc, ha, hcell⟩ := ho.holds; have HB1 := Lib.hid hb; have HL := Lib.hid hcell; clear ho hb hcell C3; refine Hid.out ?_))
          refine Lib.hid ?_
          generalize hN : ls.length = m at *
          go_wp2
          go_loop [8] (fun i => ∃ k : Nat, k ≤ m ∧ i = .int .i64 k ∧ Hid (∀ (j : Nat) (h : j < ls.length), j < k → lineAt j ls[j] = true)) (fun i => m - (intOf i).toNat)
          case atStart => exact ⟨0, by omega, rfl, Lib.hid (fun j h g => by omega)⟩
          case round =>
            obtain ⟨k, hk, rfl, H⟩ := hrel
            by_cases hlt : k < m
            · obtain ⟨rfl, hbw⟩ := ha (by omega)
              obtain ⟨x, hx, hcx⟩ : ∃ x : ByteArray, x.data.toList = ls[k] ∧ w1.cell? ⟨b, o + k, none⟩ = some (.string x) := ⟨⟨(ls[k]).toArray⟩, by simp, HL.out k _ (List.getElem?_eq_getElem (by omega))⟩
              have hxs : x.size ≤ 100000 := HSZ.out x (by rw [hx]; exact List.getElem_mem _)
              have hxe := sizeOf x
              have good : lineAt k ls[k] = true → Hid (∀ (j : Nat) (h : j < ls.length), j < k + 1 → lineAt j ls[j] = true) := fun g => Lib.hid (fun j h hj => by
                by_cases e : j = k
                · subst e; exact g
                · exact H.out j h (by omega))
              have bad : lineAt k ls[k] = false → Hid (false = R) := fun g => B7.out (linesB_no HNE.out (by omega) g)
              rw [← hx] at good bad
              clear hx H
              by_cases h0 : x.size = 0
              · have hnil : x.data.toList = [] := List.eq_nil_of_length_eq_zero (by rw [← hxe]; exact h0)
                rw [hnil] at good bad
                have e3 : ((x.size : Int) == 0) = true := by simp [h0]
                by_cases hk0 : k = 0
                · subst hk0
                  simp only [Nat.add_zero] at hcx
                  have HN := good (by decide)
                  clear good bad hnil hxe
                  go_wp2
                  go_round
                  case rel => exact ⟨1, by omega, rfl, HN⟩
                  case measure => simp [intOf]; omega
                · have G := bad (by unfold lineAt; simp; exact fun _ => by omega)
                  have e4 : ((k : Int) == 0) = false := by rw [beq_eq_false_iff_ne]; omega
                  have e5 : 0 < k := by omega
                  clear good bad hnil hxe
                  go_wp2
                  go_ret
                  exact ⟨retb G.out, HB1.out⟩
              · have e0 : 0 < x.size := by omega
                have e1 : x.size - 1 < x.size := by omega
                have hl := lastB x e1
                have hh := headB0 x e0
                have hnn : x.data.toList ≠ [] := fun e => h0 (by rw [hxe, e]; rfl)
                have e3 : ((x.size : Int) == 0) = false := by rw [beq_eq_false_iff_ne]; omega
                have hb0 := (x[0]'e0).toNat_lt
                have hb1 := (x[x.size - 1]'e1).toNat_lt
                by_cases hk0 : k = 0
                · subst hk0
                  simp only [Nat.add_zero] at hcx
                  by_cases g0 : (x[0]'e0) = 32
                  · have G := bad (by unfold lineAt; rw [hh, g0]; simp)
                    have e6 := yes32 g0
                    clear good bad hl hh hnn hxe g0
                    go_wp2
                    go_ret
                    exact ⟨retb G.out, HB1.out⟩
                  · have e6 := not32 g0
                    by_cases g1 : (x[x.size - 1]'e1) = 32
                    · have G := bad (by unfold lineAt endB; rw [hl, g1]; simp)
                      have e7 := yes32 g1
                      clear good bad hl hh hnn hxe g0 g1
                      go_wp2
                      go_ret
                      exact ⟨retb G.out, HB1.out⟩
                    · have HN := good (by unfold lineAt endB; rw [hl, hh]; simp [g0, g1])
                      have e7 := not32 g1
                      clear good bad hl hh hnn hxe g0 g1
                      go_wp2
                      go_round
                      case rel => exact ⟨1, by omega, rfl, HN⟩
                      case measure => simp [intOf]; omega
                · have e4 : ((k : Int) == 0) = false := by rw [beq_eq_false_iff_ne]; omega
                  have e5 : 0 < k := by omega
                  by_cases g1 : (x[x.size - 1]'e1) = 32
                  · have G := bad (by unfold lineAt endB; rw [hl, g1]; simp)
                    have e7 := yes32 g1
                    clear good bad hl hh hnn hxe g1
                    go_wp2
                    go_ret
                    exact ⟨retb G.out, HB1.out⟩
                  · have HN := good (by unfold lineAt endB; rw [hl]; simp [g1, hk0, hnn])
                    have e7 := not32 g1
                    clear good bad hl hh hnn hxe g1
                    go_wp2
                    go_round
                    case rel => exact ⟨k + 1, by omega, by go_num, HN⟩
                    case measure => simp [intOf]; omega
            · obtain rfl : k = m := by omega
              have HR' : Hid (true = R) := Lib.hid (HT.out ((linesB_at ls HNE.out).2 (fun j h => H.out j h (by omega))))
              clear hlt
              go_wp2
              go_ret
              exact ⟨retb HR'.out, HB1.out⟩
end Go.Proofs.YtbeoklihpkfofaaGreatDoor
namespace Go.Proofs.YtbeoklihpkfofaaGreatDoor
open Go.RowKit
theorem upper_any (c : UInt8) (w : World) : Calls Tryz.prog 202 #[.int .u8 c.toNat] w fun e w' => e = .returned (.bool (upB c)) ∧ w = w' := by
  have hc := c.toNat_lt
  obtain ⟨B, HB⟩ : ∃ B, Hid (upB c = B) := ⟨_, rfl⟩
  rw [HB.out]
  unfold upB at HB
  generalize c.toNat = n at *
  by_cases h1 : 65 ≤ n
  · go_enter Tryz.func202, Tryz.ntmps202
    go_wp2
    go_ret
    exact ⟨retb (by rw [← HB.out, Bool.eq_iff_iff]; simp only [Bool.and_eq_true, decide_eq_true_eq]; omega), rfl⟩
  · go_enter Tryz.func202, Tryz.ntmps202
    go_wp2
    go_ret
    exact ⟨retb (by rw [← HB.out, decide_eq_false h1]; rfl), rfl⟩
def ldB (c : UInt8) : Bool := decide (97 ≤ c.toNat) && decide (c.toNat ≤ 122) || decide (48 ≤ c.toNat) && decide (c.toNat ≤ 57)
theorem nmB_is (c : UInt8) : nmB c = (upB c || ldB c || decide (c.toNat = 45)) := by
  unfold nmB ltB dgB upB ldB
  rw [Bool.eq_iff_iff]
  simp only [Bool.or_eq_true, Bool.and_eq_true, decide_eq_true_eq]
  omega
theorem lowdig_any (c : UInt8) (w : World) : Calls Tryz.prog 203 #[.int .u8 c.toNat] w fun e w' => e = .returned (.bool (ldB c)) ∧ w = w' := by
  have hc := c.toNat_lt
  obtain ⟨B, HB⟩ : ∃ B, Hid (ldB c = B) := ⟨_, rfl⟩
  rw [HB.out]
  unfold ldB at HB
  generalize c.toNat = n at *
  by_cases h1 : 97 ≤ n
  · by_cases h2 : n ≤ 122
    · go_enter Tryz.func203, Tryz.ntmps203
      go_wp2
      go_ret
      exact ⟨retb (by rw [← HB.out, Bool.eq_iff_iff]; simp only [Bool.or_eq_true, Bool.and_eq_true, decide_eq_true_eq, true_iff]; omega), rfl⟩
    · go_enter Tryz.func203, Tryz.ntmps203
      go_wp2
      go_ret
      exact ⟨retb (by rw [← HB.out, Bool.eq_iff_iff]; simp only [Bool.or_eq_true, Bool.and_eq_true, decide_eq_true_eq]; omega), rfl⟩
  · by_cases h3 : 48 ≤ n
    · go_enter Tryz.func203, Tryz.ntmps203
      go_wp2
      go_ret
      exact ⟨retb (by rw [← HB.out, Bool.eq_iff_iff]; simp only [Bool.or_eq_true, Bool.and_eq_true, decide_eq_true_eq]; omega), rfl⟩
    · go_enter Tryz.func203, Tryz.ntmps203
      go_wp2
      go_ret
      exact ⟨retb (by rw [← HB.out, Bool.eq_iff_iff]; simp only [Bool.or_eq_true, Bool.and_eq_true, decide_eq_true_eq, Bool.false_eq_true, false_iff]; omega), rfl⟩
def snameB (n : Bs) : Bool := decide (1 ≤ n.length) && decide (n.length ≤ 60) && headUp n && n.all nmB
theorem cons_at {s : ByteArray} (h : 0 < s.size) : s.data.toList = s[0] :: s.data.toList.drop 1 := by
  have := dropC s 0 h
  rwa [List.drop_zero] at this
set_option maxHeartbeats 2000000 in
theorem rightName_any (s : ByteArray) (hs : s.size ≤ 100000) (w : World) : Calls Tryz.prog 179 #[.string s] w fun e w' => e = .returned (.bool (snameB s.data.toList)) ∧ w = w' := by
  have UA := fun c w => upper_any c w
  have LA := fun c w => lowdig_any c w
  obtain ⟨R, HR⟩ : ∃ R, Hid (snameB s.data.toList = R) := ⟨_, rfl⟩
  rw [HR.out]
  have hl := sizeOf s
  have HI : Hid (snameB s.data.toList = (decide (1 ≤ s.size) && decide (s.size ≤ 60) && headUp s.data.toList && s.data.toList.all nmB)) := Lib.hid (by unfold snameB; rw [← hl])
  clear hl
  by_cases h1 : s.size < 1
  · have HF : Hid (false = R) := Lib.hid (by rw [← HR.out, HI.out, decide_eq_false (by omega)]; rfl)
    clear HI HR UA LA
    go_enter Tryz.func179, Tryz.ntmps179
    go_wp2
    go_ret
    exact ⟨retb HF.out, rfl⟩
  · by_cases h2 : 60 < s.size
    · have HF : Hid (false = R) := Lib.hid (by rw [← HR.out, HI.out, decide_eq_false (p := s.size ≤ 60) (by omega)]; simp)
      clear HI HR UA LA
      go_enter Tryz.func179, Tryz.ntmps179
      go_wp2
      go_ret
      exact ⟨retb HF.out, rfl⟩
    · have h0 : 0 < s.size := by omega
      have hc := s[0].toNat_lt
      have U0 := UA s[0]
      have hh : headUp s.data.toList = upB s[0] := by rw [cons_at h0]; rfl
      have HI2 : Hid (R = (upB s[0] && s.data.toList.all nmB)) := Lib.hid (by rw [← HR.out, HI.out, decide_eq_true (by omega), decide_eq_true (by omega), hh]; rfl)
      clear HI HR hh
      cases hu : upB s[0]
      · have HF : Hid (false = R) := Lib.hid (by rw [HI2.out, hu]; rfl)
        rw [hu] at U0
        clear hu HI2 UA LA
        go_enter Tryz.func179, Tryz.ntmps179
        go_wp2_with (go_at_call 202; refine (U0 _).mono ?_; rintro e w1 ⟨rfl, rfl⟩)
        go_ret
        exact ⟨retb HF.out, rfl⟩
      · have HI3 : Hid (R = s.data.toList.all nmB) := Lib.hid (by rw [HI2.out, hu]; rfl)
        rw [hu] at U0
        clear hu HI2
        go_enter Tryz.func179, Tryz.ntmps179
        go_wp2_with (go_at_call 202; refine (U0 _).mono ?_; rintro e w1 ⟨rfl, rfl⟩)
        clear U0
        go_loop [20] (fun i => ∃ k : Nat, k ≤ s.size ∧ i = .int .i64 k ∧ Hid ((s.data.toList.take k).all nmB = true)) (fun i => s.size - (intOf i).toNat)
        case atStart => exact ⟨0, by omega, rfl, Lib.hid (by simp)⟩
        case round =>
          obtain ⟨k, hk, rfl, H⟩ := hrel
          by_cases hlt : k < s.size
          · have hck := s[k].toNat_lt
            have U := UA s[k]
            have L := LA s[k]
            have hN : nmB s[k] = true → Hid ((s.data.toList.take (k + 1)).all nmB = true) := fun g => Lib.hid (allNx hlt H.out g)
            have hS : nmB s[k] = false → Hid (false = R) := fun g => Lib.hid (by rw [HI3.out]; exact (allSt hlt g).symm)
            rw [nmB_is] at hN hS
            clear UA LA
            cases hu : upB s[k]
            · rw [hu] at U hN hS
              cases hd : ldB s[k]
              · rw [hd] at L hN hS
                by_cases he : s[k].toNat = 45
                · have HN := hN (by simp [he])
                  have e1 : ((s[k].toNat : Int) != 45) = false := by rw [he]; rfl
                  clear hN hS hu hd he
                  go_wp2_with (first | (go_at_call 202; refine (U _).mono ?_; rintro e w1 ⟨rfl, rfl⟩) | (go_at_call 203; refine (L _).mono ?_; rintro e w1 ⟨rfl, rfl⟩))
                  go_round
                  case rel => exact ⟨k + 1, by omega, by go_num, HN⟩
                  case measure => simp [intOf]; omega
                · have HS := hS (by simp [he])
                  have e1 : ((s[k].toNat : Int) != 45) = true := by rw [bne_iff_ne]; omega
                  clear hN hS hu hd he
                  go_wp2_with (first | (go_at_call 202; refine (U _).mono ?_; rintro e w1 ⟨rfl, rfl⟩) | (go_at_call 203; refine (L _).mono ?_; rintro e w1 ⟨rfl, rfl⟩))
                  go_ret
                  exact ⟨retb HS.out, rfl⟩
              · rw [hd] at L hN hS
                have HN := hN (by simp)
                clear hN hS hu hd
                go_wp2_with (first | (go_at_call 202; refine (U _).mono ?_; rintro e w1 ⟨rfl, rfl⟩) | (go_at_call 203; refine (L _).mono ?_; rintro e w1 ⟨rfl, rfl⟩))
                go_round
                case rel => exact ⟨k + 1, by omega, by go_num, HN⟩
                case measure => simp [intOf]; omega
            · rw [hu] at U hN hS
              have HN := hN (by simp)
              clear hN hS hu L
              go_wp2_with (first | (go_at_call 202; refine (U _).mono ?_; rintro e w1 ⟨rfl, rfl⟩))
              go_round
              case rel => exact ⟨k + 1, by omega, by go_num, HN⟩
              case measure => simp [intOf]; omega
          · obtain rfl : k = s.size := by omega
            have HT : Hid (true = R) := Lib.hid (by rw [HI3.out]; exact (allDn H.out).symm)
            clear hlt UA LA
            go_wp2
            go_ret
            exact ⟨retb HT.out, rfl⟩
def prB (c : UInt8) : Bool := decide (32 ≤ c.toNat) && decide (c.toNat ≤ 126)
theorem sprintable_any (s : ByteArray) (hs : s.size ≤ 100000) (w : World) : Calls Tryz.prog 204 #[.string s] w fun e w' => e = .returned (.bool (s.data.toList.all prB)) ∧ w = w' := by
  obtain ⟨R, HR⟩ : ∃ R, Hid (s.data.toList.all prB = R) := ⟨_, rfl⟩
  rw [HR.out]
  go_enter Tryz.func204, Tryz.ntmps204
  go_wp2
  go_loop [6] (fun i => ∃ k : Nat, k ≤ s.size ∧ i = .int .i64 k ∧ Hid ((s.data.toList.take k).all prB = true)) (fun i => s.size - (intOf i).toNat)
  case atStart => exact ⟨0, by omega, rfl, Lib.hid (by simp)⟩
  case round =>
    obtain ⟨k, hk, rfl, H⟩ := hrel
    by_cases hlt : k < s.size
    · have hck := s[k].toNat_lt
      by_cases h1 : s[k].toNat < 32
      · have HS : Hid (false = R) := Lib.hid (by rw [← HR.out]; exact (allSt hlt (by unfold prB; rw [decide_eq_false (by omega)]; rfl)).symm)
        go_wp2
        go_ret
        exact ⟨retb HS.out, rfl⟩
      · by_cases h2 : 126 < s[k].toNat
        · have HS : Hid (false = R) := Lib.hid (by rw [← HR.out]; exact (allSt hlt (by unfold prB; rw [decide_eq_false (p := s[k].toNat ≤ 126) (by omega)]; simp)).symm)
          go_wp2
          go_ret
          exact ⟨retb HS.out, rfl⟩
        · have HN : Hid ((s.data.toList.take (k + 1)).all prB = true) := Lib.hid (allNx hlt H.out (by unfold prB; rw [decide_eq_true (by omega), decide_eq_true (by omega)]; rfl))
          go_wp2
          go_round
          case rel => exact ⟨k + 1, by omega, by go_num, HN⟩
          case measure => simp [intOf]; omega
    · obtain rfl : k = s.size := by omega
      have HT : Hid (true = R) := Lib.hid (by rw [← HR.out]; exact (allDn H.out).symm)
      clear hlt
      go_wp2
      go_ret
      exact ⟨retb HT.out, rfl⟩
theorem lowC_nat (c : UInt8) : ((lowC c).toNat : Int) = if upB c = true then (c.toNat : Int) + 32 else c.toNat := by
  unfold lowC upB
  by_cases h : 65 ≤ c.toNat ∧ c.toNat ≤ 90
  · rw [decide_eq_true h.1, decide_eq_true h.2]
    simp only [Bool.and_self, if_true]
    rw [UInt8.toNat_add]
    show (((c.toNat + 32) % 256 : Nat) : Int) = _
    omega
  · have : (decide (65 ≤ c.toNat) && decide (c.toNat ≤ 90)) = false := by
      rw [Bool.eq_false_iff]; simp only [ne_eq, Bool.and_eq_true, decide_eq_true_eq]; exact h
    rw [this]; simp
theorem small_any (c : UInt8) (w : World) : Calls Tryz.prog 185 #[.int .u8 c.toNat] w fun e w' => e = .returned (.int .u8 (lowC c).toNat) ∧ w = w' := by
  have U := fun w => upper_any c w
  have hc := c.toNat_lt
  rw [lowC_nat]
  cases hu : upB c
  · rw [hu] at U
    rw [if_neg (by simp)]
    clear hu
    go_enter Tryz.func185, Tryz.ntmps185
    go_wp2_with (go_at_call 202; refine (U _).mono ?_; rintro e w1 ⟨rfl, rfl⟩)
    go_ret
    exact ⟨rfl, rfl⟩
  · rw [hu] at U
    rw [if_pos rfl]
    have hb : 65 ≤ c.toNat ∧ c.toNat ≤ 90 := by simpa [upB] using hu
    obtain ⟨hb1, hb2⟩ := hb
    clear hu
    generalize c.toNat = n at *
    go_enter Tryz.func185, Tryz.ntmps185
    go_wp2_with (go_at_call 202; refine (U _).mono ?_; rintro e w1 ⟨rfl, rfl⟩)
    go_ret
    exact ⟨reti (by omega), rfl⟩
theorem lower_len (s : Bs) : (lower s).length = s.length := by simp [lower]
theorem lower_take {a b : Bs} {k : Nat} : lower (a.take k) = lower (b.take k) ↔ (lower a).take k = (lower b).take k := by simp [lower, List.map_take]
theorem drewEx {w wr : World} (h : ∃ q, wr = w.drewN q) (n : Nat) : ∃ q, wr.drewN n = w.drewN q := by
  obtain ⟨q, rfl⟩ := h
  exact ⟨q + n, by rw [World.drewN_drewN]⟩
def sameB (a b : Bs) : Bool := decide (lower a = lower b)
set_option maxHeartbeats 1000000 in
theorem sameName_any (a b : ByteArray) (ha : a.size ≤ 100000) (hb : b.size ≤ 100000) (w : World) : Calls Tryz.prog 152 #[.string a, .string b] w fun e w' => e = .returned (.bool (sameB a.data.toList b.data.toList)) ∧ ∃ q, w' = w.drewN q := by
  obtain ⟨R, HR⟩ : ∃ R, Hid (sameB a.data.toList b.data.toList = R) := ⟨_, rfl⟩
  rw [HR.out]
  have SA : ∀ (c : UInt8) w, Calls Tryz.prog 185 #[.int .u8 c.toNat] w fun e w' => e = .returned (.int .u8 (lowC c).toNat) ∧ w' = w := fun c w => (small_any c w).mono fun _ _ h => ⟨h.1, h.2.symm⟩
  have la := sizeOf a
  have lb := sizeOf b
  by_cases h : a.size = b.size
  · have HL := Lib.hid (And.intro la lb)
    clear la lb
    have h' : ((a.size : Int) != (b.size : Int)) = false := by rw [h]; simp
    have HE := Lib.hid h
    have hle : a.size ≤ b.size := by omega
    clear h
    go_enter Tryz.func152, Tryz.ntmps152
    go_wp2
    go_loopw [13] (fun i wr => ∃ k : Nat, k ≤ a.size ∧ i = .int .i64 k ∧ Hid ((lower a.data.toList).take k = (lower b.data.toList).take k) ∧ Hid (∃ q, wr = w.drewN q)) (fun i _ => a.size - (intOf i).toNat)
    case atStart => exact ⟨0, by omega, rfl, Lib.hid (by simp), Lib.hid ⟨0, rfl⟩⟩
    case round =>
      obtain ⟨k, hk, rfl, H, HQ⟩ := hrel
      by_cases hlt : k < a.size
      · have hltb : k < b.size := by omega
        have h1 := a[k].toNat_lt
        have h2 := b[k].toNat_lt
        have h3 := (lowC a[k]).toNat_lt
        have h4 := (lowC b[k]).toNat_lt
        have ga : (lower a.data.toList)[k]? = some (lowC a[k]) := by
          unfold lower; rw [List.getElem?_map, List.getElem?_eq_getElem (by rw [← sizeOf]; exact hlt)]; rfl
        have gb : (lower b.data.toList)[k]? = some (lowC b[k]) := by
          unfold lower; rw [List.getElem?_map, List.getElem?_eq_getElem (by rw [← sizeOf]; exact hltb)]; rfl
        by_cases he : lowC a[k] = lowC b[k]
        · have HN : Hid ((lower a.data.toList).take (k + 1) = (lower b.data.toList).take (k + 1)) := Lib.hid (by rw [List.take_add_one, List.take_add_one, ga, gb, he, H.out])
          have e1 : (((lowC a[k]).toNat : Int) != ((lowC b[k]).toNat : Int)) = false := by rw [he]; simp
          clear ga gb he
          go_wp2
          go_quiet ((go_at_call 185; exact Calls.quiet_of_same (SA _ _)))
          go_wp2
          go_roundw
          case rel => exact ⟨k + 1, by omega, by go_num, HN, Lib.hid (drewEx HQ.out _)⟩
          case measure => simp [intOf]; omega
        · have HS : Hid (false = R) := Lib.hid (by
            rw [← HR.out]; unfold sameB
            refine (decide_eq_false fun g => he ?_).symm
            rw [g, gb] at ga
            exact (Option.some.inj ga).symm)
          have e1 : (((lowC a[k]).toNat : Int) != ((lowC b[k]).toNat : Int)) = true := by
            rw [bne_iff_ne]; intro g; exact he (UInt8.toNat_inj.1 (by omega))
          clear ga gb he
          go_wp2
          go_quiet ((go_at_call 185; exact Calls.quiet_of_same (SA _ _)))
          go_wp2
          go_ret
          exact ⟨retb HS.out, drewEx HQ.out _⟩
      · obtain rfl : k = a.size := by omega
        have HT : Hid (true = R) := Lib.hid (by
          rw [← HR.out]; unfold sameB
          have := H.out
          rw [List.take_of_length_le (by rw [lower_len, ← HL.out.1]; omega), List.take_of_length_le (by rw [lower_len, ← HL.out.2]; have := HE.out; omega)] at this
          exact (decide_eq_true this).symm)
        clear hlt SA
        go_wp2
        go_ret
        exact ⟨retb HT.out, HQ.out⟩
  · have HF : Hid (false = R) := Lib.hid (by
      rw [← HR.out]; unfold sameB
      exact (decide_eq_false fun g => h (by rw [la, lb, ← lower_len, g, lower_len])).symm)
    have h' : ((a.size : Int) != (b.size : Int)) = true := by rw [bne_iff_ne]; omega
    clear h SA la lb
    go_enter Tryz.func152, Tryz.ntmps152
    go_wp2
    go_ret
    exact ⟨retb HF.out, 0, rfl⟩
end Go.Proofs.YtbeoklihpkfofaaGreatDoor
