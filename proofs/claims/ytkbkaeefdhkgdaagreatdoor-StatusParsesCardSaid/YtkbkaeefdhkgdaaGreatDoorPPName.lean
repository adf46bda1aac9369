import Derived.Test.YtkbkaeefdhkgdaaGreatDoorPShelf
import Derived.Test.YtkbkaeefdhkgdaaGreatDoorPAtB
import Derived.Lib.OwnBridge
set_option maxRecDepth 100000
set_option maxHeartbeats 32000000
namespace Go.Proofs.YtkbkaeefdhkgdaaGreatDoor
section
open Go.RowKit Go.Sort
theorem str_of {x : ByteArray} {l : Bs} (h : x.data.toList = l) : x = ⟨l.toArray⟩ := by subst h; simp
theorem ret_bool {a b : Bool} (h : a = b) : Ending.returned (.bool a) = Ending.returned (.bool b) := congrArg (fun b => Ending.returned (.bool b)) h
theorem ne_empty (x : ByteArray) : (!x.toList.isEmpty) = decide (x.data.toList ≠ []) := by rw [ByteArray.toList_eq]; cases x.data.toList <;> simp
theorem ne_text (x : ByteArray) (l : Bs) : (!x.toList == l) = decide (x.data.toList ≠ l) := by
 rw [ByteArray.toList_eq]; by_cases h : x.data.toList = l <;> simp [h]
theorem nonempty_any (x : ByteArray) (w : World) : Calls Tryz.prog 207 #[.string x] w fun e w' => e = .returned (.bool (decide (x.data.toList ≠ []))) ∧ w = w' := by
 go_enter Tryz.func207, Tryz.ntmps207
 go_wp2
 go_ret
 exact ⟨ret_bool (ne_empty x), rfl⟩
theorem nodot_any (x : ByteArray) (w : World) : Calls Tryz.prog 206 #[.string x] w fun e w' => e = .returned (.bool (decide (x.data.toList ≠ [46]))) ∧ w = w' := by
 go_enter Tryz.func206, Tryz.ntmps206
 go_wp2
 go_ret
 exact ⟨ret_bool (ne_text x _), rfl⟩
theorem is47 {x : UInt8} (h : x = 47) : (x.toNat : Int) = 47 := by rw [h]; rfl
theorem not47 {x : UInt8} (h : ¬ x = 47) : ¬ (x.toNat : Int) = 47 := fun e => h (UInt8.toNat_inj.1 (by show x.toNat = 47; omega))
end
section
open Go.RowKit Go.Sort
def alB (c : UInt8) : Bool := decide (97 ≤ c.toNat) && decide (c.toNat ≤ 122) || decide (48 ≤ c.toNat) && decide (c.toNat ≤ 57)
def markB (c : UInt8) : Bool := c == 43 || c == 45 || c == 46
def inB (c : UInt8) : Bool := alB c || markB c
def headB : Bs → Bool
 | [] => false
 | c :: _ => alB c
def nameB (l : Bs) : Bool := decide (1 ≤ l.length) && decide (l.length ≤ 60) && headB l && l.all inB
theorem take_snoc (s : ByteArray) (k : Nat) (h : k < s.size) : s.data.toList.take (k + 1) = s.data.toList.take k ++ [s[k]] := by
 have hl : k < s.data.toList.length := by rw [← Lib.size_eq]; exact h
 rw [List.take_add_one, List.getElem?_eq_getElem hl]
 simp; rfl
theorem all_false {l : Bs} {f : UInt8 → Bool} (k : Nat) (x : UInt8) (h : x ∈ l.take k) (hf : f x = false) : l.all f = false := by
 rw [List.all_eq_false]
 exact ⟨x, List.mem_of_mem_take h, by simp [hf]⟩
theorem all_next {s : ByteArray} {f : UInt8 → Bool} {k : Nat} (h : k < s.size) (ha : (s.data.toList.take k).all f = true) (hf : f s[k] = true) : (s.data.toList.take (k + 1)).all f = true := by
 rw [take_snoc s k h, List.all_append, ha]; simp [hf]
theorem all_stop {s : ByteArray} {f : UInt8 → Bool} {k : Nat} (h : k < s.size) (hf : f s[k] = false) : s.data.toList.all f = false :=
 all_false (k + 1) s[k] (by rw [take_snoc s k h]; simp) hf
theorem all_done {s : ByteArray} {f : UInt8 → Bool} (ha : (s.data.toList.take s.size).all f = true) : s.data.toList.all f = true := by
 rwa [List.take_of_length_le (by rw [← Lib.size_eq]; exact Nat.le_refl _)] at ha
theorem alnum_any (c : UInt8) (w : World) : Calls Tryz.prog 99 #[.int .u8 c.toNat] w fun e w' => e = .returned (.bool (alB c)) ∧ w = w' := by
 have hc := c.toNat_lt
 obtain ⟨B, HB⟩ : ∃ B, Hid (alB c = B) := ⟨_, rfl⟩
 rw [HB.out]
 unfold alB at HB
 generalize c.toNat = n at *
 by_cases h1 : 97 ≤ n
 ·
  by_cases h2 : n ≤ 122
  ·
   go_enter Tryz.func99, Tryz.ntmps99
   go_wp2
   go_ret
   exact ⟨ret_bool (by rw [← HB.out, Bool.eq_iff_iff]; simp only [Bool.or_eq_true, Bool.and_eq_true, decide_eq_true_eq, true_iff]; omega), rfl⟩
  ·
   go_enter Tryz.func99, Tryz.ntmps99
   go_wp2
   go_ret
   exact ⟨ret_bool (by rw [← HB.out, Bool.eq_iff_iff]; simp only [Bool.or_eq_true, Bool.and_eq_true, decide_eq_true_eq]; omega), rfl⟩
 ·
  by_cases h3 : 48 ≤ n
  ·
   go_enter Tryz.func99, Tryz.ntmps99
   go_wp2
   go_ret
   exact ⟨ret_bool (by rw [← HB.out, Bool.eq_iff_iff]; simp only [Bool.or_eq_true, Bool.and_eq_true, decide_eq_true_eq]; omega), rfl⟩
  ·
   go_enter Tryz.func99, Tryz.ntmps99
   go_wp2
   go_ret
   exact ⟨ret_bool (by rw [← HB.out, Bool.eq_iff_iff]; simp only [Bool.or_eq_true, Bool.and_eq_true, decide_eq_true_eq, Bool.false_eq_true, false_iff]; omega), rfl⟩
theorem printable_any (s : ByteArray) (hs : s.size ≤ 4000) (w : World) : Calls Tryz.prog 188 #[.string s] w fun e w' => e = .returned (.bool (s.data.toList.all okb)) ∧ w = w' := by
 obtain ⟨B, HB⟩ : ∃ B, Hid (s.data.toList.all okb = B) := ⟨_, rfl⟩
 rw [HB.out]
 go_enter Tryz.func188, Tryz.ntmps188
 go_wp2
 go_loop [6] (fun i => ∃ k : Nat, k ≤ s.size ∧ i = .int .i64 k ∧ Hid ((s.data.toList.take k).all okb = true)) (fun i => s.size - (intOf i).toNat)
 case atStart => exact ⟨0, by omega, rfl, Lib.hid (by simp)⟩
 case round =>
  obtain ⟨k, hk, rfl, H⟩ := hrel
  by_cases hlt : k < s.size
  ·
   have hc := s[k].toNat_lt
   by_cases h1 : s[k].toNat < 33
   ·
    have HR : Hid (false = B) := Lib.hid (by rw [← HB.out, all_stop hlt (by unfold okb; rw [decide_eq_false (by omega)]; rfl)])
    go_wp2
    go_ret
    exact ⟨ret_bool HR.out, rfl⟩
   ·
    by_cases h2 : 126 < s[k].toNat
    ·
     have HR : Hid (false = B) := Lib.hid (by rw [← HB.out, all_stop hlt (by unfold okb; rw [decide_eq_false (p := s[k].toNat ≤ 126) (by omega)]; simp)])
     go_wp2
     go_ret
     exact ⟨ret_bool HR.out, rfl⟩
    ·
     have HN : Hid ((s.data.toList.take (k + 1)).all okb = true) := Lib.hid (all_next hlt H.out (by unfold okb; rw [decide_eq_true (by omega), decide_eq_true (by omega)]; rfl))
     go_wp2
     go_round
     case rel => exact ⟨k + 1, by omega, by go_num, HN⟩
     case measure => simp [intOf]; omega
  ·
   obtain rfl : k = s.size := by omega
   have HR : Hid (true = B) := Lib.hid (by rw [← HB.out]; exact (all_done H.out).symm)
   clear hlt
   go_wp2
   go_ret
   exact ⟨ret_bool HR.out, rfl⟩
theorem mark_idx (c : UInt8) : Lib.indexByte (ByteArray.mk #[43, 45, 46]).data.toList (c.toNat : Int).toNat.toUInt8 < 0 ↔ markB c = false := by
 have e : (c.toNat : Int).toNat.toUInt8 = c := by simp
 rw [e]
 unfold markB
 simp only [Lib.indexByte]
 by_cases h1 : c = 43
 ·
  subst h1; decide
 ·
  by_cases h2 : c = 45
  ·
   subst h2; decide
  ·
   by_cases h3 : c = 46
   ·
    subst h3; decide
   ·
    have a1 : ((43 : UInt8) == c) = false := by simp; exact fun h => h1 h.symm
    have a2 : ((45 : UInt8) == c) = false := by simp; exact fun h => h2 h.symm
    have a3 : ((46 : UInt8) == c) = false := by simp; exact fun h => h3 h.symm
    simp [a1, a2, a3, h1, h2, h3]
theorem nat_of_u8 {a b : UInt8} : a = b ↔ a.toNat = b.toNat := UInt8.toNat_inj.symm
theorem name_any (s : ByteArray) (hs : s.size ≤ 4000) (w : World) : Calls Tryz.prog 52 #[.string s] w fun e w' => e = .returned (.bool (nameB s.data.toList)) ∧ w = w' := by
 obtain ⟨B, HB⟩ : ∃ B, Hid (nameB s.data.toList = B) := ⟨_, rfl⟩
 rw [HB.out]
 have hl := Lib.size_eq s
 by_cases h0 : 1 ≤ s.size ∧ s.size ≤ 60
 ·
  obtain ⟨h1, h60⟩ := h0
  have hhd : headB s.data.toList = alB s[0] := by
   have : s.data.toList = s[0] :: s.data.toList.drop 1 := by
    have := List.drop_eq_getElem_cons (l := s.data.toList) (i := 0) (by omega)
    rw [List.drop_zero] at this
    exact this
   rw [this]; rfl
  have HE : Hid ((alB s[0] && s.data.toList.all inB) = B) := Lib.hid (by rw [← HB.out, nameB, decide_eq_true (by omega), decide_eq_true (by omega), hhd]; rfl)
  clear hl hhd
  have C1 := fun c w => alnum_any c w
  cases ha : alB s[0]
  ·
   have HR : Hid (false = B) := Lib.hid (by rw [← HE.out, ha]; rfl)
   have C0 := C1 s[0]
   rw [ha] at C0
   clear ha HE HB C1
   have hc := s[0].toNat_lt
   go_enter Tryz.func52, Tryz.ntmps52
   go_wp2_with (go_at_call 99; refine (C0 _).mono ?_; rintro e w1 ⟨rfl, rfl⟩)
   go_ret
   exact ⟨ret_bool HR.out, rfl⟩
  ·
   have HF : Hid (s.data.toList.all inB = B) := Lib.hid (by rw [← HE.out, ha, Bool.true_and])
   have C0 := C1 s[0]
   rw [ha] at C0
   clear ha HE HB
   have hc := s[0].toNat_lt
   go_enter Tryz.func52, Tryz.ntmps52
   go_wp2_with (go_at_call 99; refine (C0 _).mono ?_; rintro e w1 ⟨rfl, rfl⟩)
   clear C0 hc
   go_loop [20] (fun i => ∃ k : Nat, k ≤ s.size ∧ i = .int .i64 k ∧ Hid ((s.data.toList.take k).all inB = true)) (fun i => s.size - (intOf i).toNat)
   case atStart => exact ⟨0, by omega, rfl, Lib.hid (by simp)⟩
   case round =>
    obtain ⟨k, hk, rfl, H⟩ := hrel
    by_cases hlt : k < s.size
    ·
     have hc := s[k].toNat_lt
     have CK := C1 s[k]
     cases hal : alB s[k]
     ·
      rw [hal] at CK
      have C3 := fun w => Tryz.strings_IndexByte ⟨#[43, 45, 46]⟩ (s[k].toNat : Int) w
      have hge := Lib.indexByte_ge (ByteArray.mk #[43, 45, 46]).data.toList (s[k].toNat : Int).toNat.toUInt8
      have hix := mark_idx s[k]
      generalize Lib.indexByte (ByteArray.mk #[43, 45, 46]).data.toList (s[k].toNat : Int).toNat.toUInt8 = ix at C3 hge hix
      cases hm : markB s[k]
      ·
       have hneg : ix < 0 := hix.2 hm
       have HR : Hid (false = B) := Lib.hid (by rw [← HF.out, all_stop hlt (by unfold inB; rw [hal, hm]; rfl)])
       clear hal hm hix C1
       go_wp2_with (first | (go_at_call 99; refine (CK _).mono ?_; rintro e w1 ⟨rfl, rfl⟩) | (go_at_call 100; refine (C3 _).mono ?_; rintro e w1 ⟨rfl, rfl⟩))
       go_ret
       exact ⟨ret_bool HR.out, rfl⟩
      ·
       have hneg : ¬ ix < 0 := fun h => by rw [hix.1 h] at hm; cases hm
       have HN : Hid ((s.data.toList.take (k + 1)).all inB = true) := Lib.hid (all_next hlt H.out (by unfold inB; rw [hal, hm]; rfl))
       clear hal hm hix C1
       go_wp2_with (first | (go_at_call 99; refine (CK _).mono ?_; rintro e w1 ⟨rfl, rfl⟩) | (go_at_call 100; refine (C3 _).mono ?_; rintro e w1 ⟨rfl, rfl⟩))
       go_round
       case rel => exact ⟨k + 1, by omega, by go_num, HN⟩
       case measure => simp [intOf]; omega
     ·
      rw [hal] at CK
      have HN : Hid ((s.data.toList.take (k + 1)).all inB = true) := Lib.hid (all_next hlt H.out (by unfold inB; rw [hal]; rfl))
      clear hal C1
      go_wp2_with (go_at_call 99; refine (CK _).mono ?_; rintro e w1 ⟨rfl, rfl⟩)
      go_round
      case rel => exact ⟨k + 1, by omega, by go_num, HN⟩
      case measure => simp [intOf]; omega
    ·
     obtain rfl : k = s.size := by omega
     have HR : Hid (true = B) := Lib.hid (by rw [← HF.out]; exact (all_done H.out).symm)
     clear hlt C1
     go_wp2
     go_ret
     exact ⟨ret_bool HR.out, rfl⟩
 ·
  have HR : Hid (false = B) := Lib.hid (by
   rw [← HB.out, nameB]
   by_cases h : 1 ≤ s.data.toList.length
   ·
    rw [decide_eq_false (p := s.data.toList.length ≤ 60) (by omega)]; simp
   ·
    rw [decide_eq_false h]; rfl)
  have h0' : s.size < 1 ∨ (1 ≤ s.size ∧ 60 < s.size) := by omega
  clear h0 HB hl
  rcases h0' with h0 | ⟨h0, h60⟩
  ·
   go_enter Tryz.func52, Tryz.ntmps52
   go_wp2
   go_ret
   exact ⟨ret_bool HR.out, rfl⟩
  ·
   go_enter Tryz.func52, Tryz.ntmps52
   go_wp2
   go_ret
   exact ⟨ret_bool HR.out, rfl⟩
end
section
open Go.RowKit Go.Sort
theorem infoS : (Tryz.prog.info? 9).map (fun i => (i.zero, i.size, i.bytes)) = some (some (.string ⟨#[]⟩), 1, 16) := by kernel_rfl
def Holds' (w : World) (v : Value) (ls : List Bs) : Prop :=
 ∃ (a : Option Addr) (c b o : Nat), v = .slice a ls.length c ∧ ls.length ≤ c ∧ (0 < ls.length → a = some ⟨b, o, none⟩ ∧ b < w.heap.size) ∧ ∀ (j : Nat) l, ls[j]? = some l → w.cell? ⟨b, o + j, none⟩ = some (.string ⟨l.toArray⟩)
theorem Holds'.on {w w' : World} {v : Value} {ls : List Bs} (h : Holds' w v ls) (hb : Below w.heap.size w w') : Holds' w' v ls := by
 obtain ⟨a, c, b, o, rfl, hc, ha, hcell⟩ := h
 refine ⟨a, c, b, o, rfl, hc, fun h0 => ⟨(ha h0).1, Nat.lt_of_lt_of_le (ha h0).2 hb.size⟩, fun j l hj => ?_⟩
 have h0 : 0 < ls.length := by
  have := (List.getElem?_eq_some_iff.1 hj).1; omega
 rw [hb.cell (ha h0).2]
 exact hcell j l hj
abbrev strs (ls : List Bs) : List Value := ls.map fun l => Value.string ⟨l.toArray⟩
def OwnS (w : World) (base : Nat) (v : Value) (ls : List Bs) : Prop := w.ownsRow base 9 1 v ls.length (strs ls)
theorem OwnS.nil (w : World) (base : Nat) : OwnS w base (.slice none 0 0) [] := World.ownsRow_nil _ _ _ _
theorem OwnS.holds {w : World} {base : Nat} {v : Value} {ls : List Bs} (h : OwnS w base v ls) : Holds' w v ls := by
 rcases h.2 with ⟨rfl, h0⟩ | ⟨g, cap, cur, rfl, hb, hg, hn, hm, hs, ht⟩
 ·
  have : ls = [] := List.eq_nil_of_length_eq_zero h0
  subst this
  exact ⟨none, 0, 0, 0, rfl, Nat.le_refl _, fun h => absurd h (by simp), fun j l hj => by simp at hj⟩
 ·
  refine ⟨some ⟨g, 0, none⟩, cap, g, 0, rfl, hn, fun _ => ⟨rfl, (Array.getElem?_eq_some_iff.1 hg).1⟩, fun j l hj => ?_⟩
  have hj' := (List.getElem?_eq_some_iff.1 hj).1
  have e1 : (cur.toList.take (ls.length * 1))[j]? = (strs ls)[j]? := by rw [ht]
  rw [List.getElem?_take, if_pos (by omega), Array.getElem?_toList, List.getElem?_map, hj] at e1
  rw [Nat.zero_add, cell_of_row w g j cur 9 (0, 0) hg, e1]
  rfl
theorem OwnS.mono {w : World} {base base' : Nat} {v : Value} {ls : List Bs} (h : OwnS w base v ls) (hb : base' ≤ base) : OwnS w base' v ls := by
 refine ⟨h.1, ?_⟩
 rcases h.2 with hn | ⟨g, cap, cur, hv, hb', rest⟩
 ·
  exact .inl hn
 ·
  exact .inr ⟨g, cap, cur, hv, by omega, rest⟩
theorem OwnS.cut {w : World} {base : Nat} {a : Option Addr} {c n : Nat} {ls : List Bs} (h : OwnS w base (.slice a n c) ls) (hl : 0 < ls.length) : OwnS w base (.slice a (n - 1) c) ls.dropLast := by
 rcases h.2 with ⟨_, h0⟩ | ⟨g, cap, cur, hv, hb, hg, hn, hm, hs, ht⟩
 ·
  omega
 ·
  simp only [Value.slice.injEq] at hv
  obtain ⟨rfl, rfl, rfl⟩ := hv
  refine ⟨by simp [strs], .inr ⟨g, c, cur, by rw [List.length_dropLast], hb, hg, by rw [List.length_dropLast]; omega, hm, hs, ?_⟩⟩
  rw [List.length_dropLast]
  have : cur.toList.take ((ls.length - 1) * 1) = (cur.toList.take (ls.length * 1)).take (ls.length - 1) := by rw [List.take_take]; congr 1; omega
  rw [this, ht, strs, strs, List.dropLast_eq_take, List.map_take]
theorem OwnS.made (w : World) (xs : List ByteArray) (hn : xs.length ≤ maxLen) : OwnS (w.alloc (.cells (xs.map Value.string).toArray 9)) w.heap.size (.slice (some ⟨w.heap.size, 0, none⟩) xs.length xs.length) (xs.map (·.data.toList)) := by
 refine ⟨by simp [strs], .inr ⟨w.heap.size, xs.length, (xs.map Value.string).toArray, by simp, Nat.le_refl _, heap_alloc_new w _, by simp, hn, by simp, ?_⟩⟩
 rw [List.length_map, Nat.mul_one, List.take_of_length_le (by simp)]
 simp [strs]
theorem OwnS.app {w' : World} {base : Nat} {v' : Value} {ls : List Bs} {x : ByteArray} {l : Bs} (hx : x.data.toList = l) (h : w'.ownsRow base 9 1 v' (ls.length + 1) (strs ls ++ [.string x])) : OwnS w' base v' (ls ++ [l]) := by
 have e : strs (ls ++ [l]) = strs ls ++ [.string x] := by simp [strs, str_of hx]
 unfold OwnS
 rw [e, List.length_append]
 exact h
theorem below_grown {B : Nat} {w0 w w' : World} {o : Obj} {base : Nat} {v : Value} {ls : List Bs} (h : Below B w0 w) (hown : OwnS w base v ls) (hg : (w.alloc o).grownBy w' v.ownBlock) (hB : B ≤ base) (hBw : B ≤ w.heap.size) : Below B w0 w' :=
 (h.alloc hBw o).grown hg (by simp; omega) (fun k hk => by have := (hown.lt k hk).1; omega)
end
section
open Go.RowKit Go.Sort
theorem take_filter (ls : List Bs) (p : Bs → Bool) (k : Nat) (h : k < ls.length) : (ls.take (k + 1)).filter p = (ls.take k).filter p ++ (if p ls[k] then [ls[k]] else []) := by
 rw [List.take_add_one, List.getElem?_eq_getElem h, List.filter_append]
 congr 1
 by_cases hp : p ls[k] <;> simp [hp]
theorem filter_len (ls : List Bs) (p : Bs → Bool) (k : Nat) : ((ls.take k).filter p).length ≤ k := Nat.le_trans (List.length_filter_le _ _) (List.length_take_le _ _)
theorem sel_empty (v : Value) (ls : List Bs) (hn : ls.length ≤ 5000) (w : World) (h : Holds' w v ls) :
  Calls Tryz.prog 205 #[v, .func (.func 207) #[] #[]] w fun e w' => ∃ v', e = .returned v' ∧ OwnS w' w.heap.size v' (ls.filter (fun l => decide (l ≠ []))) ∧ Below w.heap.size w w' := by
 obtain ⟨i0, hi, hz0, hz1, hz2⟩ := info_parts infoS
 obtain ⟨a, c, b, o, rfl, hc, ha, hcell⟩ := h
 generalize hN : ls.length = n at *
 generalize hP : (fun l : Bs => decide (l ≠ [])) = P at *
 have C := fun x w => nonempty_any x w
 go_enter Tryz.func205, Tryz.ntmps205
 go_wp2
 go_loopw [5, 10] (fun u i wr => ∃ k : Nat, k ≤ n ∧ i = .int .i64 k ∧ OwnS wr w.heap.size u ((ls.take k).filter P) ∧ Below w.heap.size w wr) (fun _ i _ => n - (intOf i).toNat)
 case atStart => exact ⟨0, Nat.zero_le _, rfl, by simpa using OwnS.nil _ _, Below.refl _ _⟩
 case round =>
  obtain ⟨k, hk, rfl, hown, hnx⟩ := hrel
  by_cases hlt : k < n
  ·
   obtain ⟨rfl, hbw⟩ := ha (by omega)
   obtain ⟨x, hx, hcx⟩ : ∃ x : ByteArray, x.data.toList = ls[k] ∧ wr.cell? ⟨b, o + k, none⟩ = some (.string x) := ⟨⟨(ls[k]).toArray⟩, by simp, (hnx.cell (p := ⟨b, o + k, none⟩) hbw).trans (hcell k _ (List.getElem?_eq_getElem (by omega)))⟩
   have hlen := filter_len ls P k
   have hnxt := take_filter ls P k (by omega)
   have hpk : P ls[k] = decide (x.data.toList ≠ []) := by rw [← hP, hx]
   have HS := Lib.hid (And.intro hnxt (And.intro hpk hx))
   have HO := Lib.hid hown
   have HX := Lib.hid hnx
   have hsz := hnx.size
   have Cx := C x
   clear hnxt hpk hx hown hnx hcell ha C
   by_cases hp : x.data.toList ≠ []
   ·
    simp only [decide_eq_true hp] at Cx
    have e := HS.out.1
    rw [HS.out.2.1, decide_eq_true hp, if_pos rfl] at e
    have HE := Lib.hid e
    clear e hp
    go_wp2_with (first
     | (go_at_call 207; refine (Cx _).mono ?_; rintro e w1 ⟨rfl, rfl⟩)
     | (at_builtin; refine wpList_append_own _ rfl _ _ 40 rfl w.heap.size 9 i0 (.string ⟨#[]⟩) 1 16 Tryz.underlying40 hi hz0 hz1 hz2 rfl (by decide) _ _ _ rfl (World.ownsRow.alloc HO.out _) ⟨wr.heap.size, 0, none⟩ 1 1 [.string x] rfl rfl ?c1 ?c2 ?c3 ?c4 ?c5 ?_))
    case c1 =>
     intro j u hj
     match j, hj with
     | 0, hj => simp at hj; subst hj; simp [Addr.add]
    case c2 => intro u hu; simp at hu; subst hu; rfl
    case c3 => unfold maxLen; omega
    case c4 => omega
    case c5 => simp; omega
    ·
     intro v' w1 hown' hgrow _
     have HO' : Hid (OwnS w1 w.heap.size v' ((ls.take (k + 1)).filter P)) := Lib.hid (by rw [HE.out]; exact OwnS.app HS.out.2.2 hown')
     have HB' : Hid (Below w.heap.size w w1) := Lib.hid (below_grown HX.out HO.out hgrow (Nat.le_refl _) hsz)
     clear hown' hgrow
     go_wp2
     go_roundw
     case rel => exact ⟨k + 1, by omega, by go_num, HO'.out, HB'.out⟩
     case measure => simp [intOf]; omega
   ·
    simp only [decide_eq_false hp] at Cx
    have e := HS.out.1
    rw [HS.out.2.1, decide_eq_false hp, if_neg (by simp), List.append_nil] at e
    have HE := Lib.hid e
    clear e hp
    go_wp2_with (go_at_call 207; refine (Cx _).mono ?_; rintro e w1 ⟨rfl, rfl⟩)
    go_roundw
    case rel => exact ⟨k + 1, by omega, by go_num, by rw [HE.out]; exact HO.out, HX.out⟩
    case measure => simp [intOf]; omega
  ·
   obtain rfl : k = n := by omega
   rw [List.take_of_length_le (by omega)] at hown
   have HO := Lib.hid hown
   have HX := Lib.hid hnx
   clear hown hnx hlt ha hcell C
   go_wp2
   go_ret
   exact ⟨_, rfl, HO.out, HX.out⟩
theorem sel_dot (v : Value) (ls : List Bs) (hn : ls.length ≤ 5000) (w : World) (h : Holds' w v ls) :
  Calls Tryz.prog 205 #[v, .func (.func 206) #[] #[]] w fun e w' => ∃ v', e = .returned v' ∧ OwnS w' w.heap.size v' (ls.filter (fun l => decide (l ≠ [46]))) ∧ Below w.heap.size w w' := by
 obtain ⟨i0, hi, hz0, hz1, hz2⟩ := info_parts infoS
 obtain ⟨a, c, b, o, rfl, hc, ha, hcell⟩ := h
 generalize hN : ls.length = n at *
 generalize hP : (fun l : Bs => decide (l ≠ [46])) = P at *
 have C := fun x w => nodot_any x w
 go_enter Tryz.func205, Tryz.ntmps205
 go_wp2
 go_loopw [5, 10] (fun u i wr => ∃ k : Nat, k ≤ n ∧ i = .int .i64 k ∧ OwnS wr w.heap.size u ((ls.take k).filter P) ∧ Below w.heap.size w wr) (fun _ i _ => n - (intOf i).toNat)
 case atStart => exact ⟨0, Nat.zero_le _, rfl, by simpa using OwnS.nil _ _, Below.refl _ _⟩
 case round =>
  obtain ⟨k, hk, rfl, hown, hnx⟩ := hrel
  by_cases hlt : k < n
  ·
   obtain ⟨rfl, hbw⟩ := ha (by omega)
   obtain ⟨x, hx, hcx⟩ : ∃ x : ByteArray, x.data.toList = ls[k] ∧ wr.cell? ⟨b, o + k, none⟩ = some (.string x) := ⟨⟨(ls[k]).toArray⟩, by simp, (hnx.cell (p := ⟨b, o + k, none⟩) hbw).trans (hcell k _ (List.getElem?_eq_getElem (by omega)))⟩
   have hlen := filter_len ls P k
   have hnxt := take_filter ls P k (by omega)
   have hpk : P ls[k] = decide (x.data.toList ≠ [46]) := by rw [← hP, hx]
   have HS := Lib.hid (And.intro hnxt (And.intro hpk hx))
   have HO := Lib.hid hown
   have HX := Lib.hid hnx
   have hsz := hnx.size
   have Cx := C x
   clear hnxt hpk hx hown hnx hcell ha C
   by_cases hp : x.data.toList ≠ [46]
   ·
    simp only [decide_eq_true hp] at Cx
    have e := HS.out.1
    rw [HS.out.2.1, decide_eq_true hp, if_pos rfl] at e
    have HE := Lib.hid e
    clear e hp
    go_wp2_with (first
     | (go_at_call 206; refine (Cx _).mono ?_; rintro e w1 ⟨rfl, rfl⟩)
     | (at_builtin; refine wpList_append_own _ rfl _ _ 40 rfl w.heap.size 9 i0 (.string ⟨#[]⟩) 1 16 Tryz.underlying40 hi hz0 hz1 hz2 rfl (by decide) _ _ _ rfl (World.ownsRow.alloc HO.out _) ⟨wr.heap.size, 0, none⟩ 1 1 [.string x] rfl rfl ?c1 ?c2 ?c3 ?c4 ?c5 ?_))
    case c1 =>
     intro j u hj
     match j, hj with
     | 0, hj => simp at hj; subst hj; simp [Addr.add]
    case c2 => intro u hu; simp at hu; subst hu; rfl
    case c3 => unfold maxLen; omega
    case c4 => omega
    case c5 => simp; omega
    ·
     intro v' w1 hown' hgrow _
     have HO' : Hid (OwnS w1 w.heap.size v' ((ls.take (k + 1)).filter P)) := Lib.hid (by rw [HE.out]; exact OwnS.app HS.out.2.2 hown')
     have HB' : Hid (Below w.heap.size w w1) := Lib.hid (below_grown HX.out HO.out hgrow (Nat.le_refl _) hsz)
     clear hown' hgrow
     go_wp2
     go_roundw
     case rel => exact ⟨k + 1, by omega, by go_num, HO'.out, HB'.out⟩
     case measure => simp [intOf]; omega
   ·
    simp only [decide_eq_false hp] at Cx
    have e := HS.out.1
    rw [HS.out.2.1, decide_eq_false hp, if_neg (by simp), List.append_nil] at e
    have HE := Lib.hid e
    clear e hp
    go_wp2_with (go_at_call 206; refine (Cx _).mono ?_; rintro e w1 ⟨rfl, rfl⟩)
    go_roundw
    case rel => exact ⟨k + 1, by omega, by go_num, by rw [HE.out]; exact HO.out, HX.out⟩
    case measure => simp [intOf]; omega
  ·
   obtain rfl : k = n := by omega
   rw [List.take_of_length_le (by omega)] at hown
   have HO := Lib.hid hown
   have HX := Lib.hid hnx
   clear hown hnx hlt ha hcell C
   go_wp2
   go_ret
   exact ⟨_, rfl, HO.out, HX.out⟩
end
end Go.Proofs.YtkbkaeefdhkgdaaGreatDoor
