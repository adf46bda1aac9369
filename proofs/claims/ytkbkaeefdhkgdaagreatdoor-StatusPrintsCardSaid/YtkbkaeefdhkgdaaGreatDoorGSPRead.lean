import Derived.Test.YtkbkaeefdhkgdaaGreatDoorGSOwn
import Derived.Test.YtkbkaeefdhkgdaaGreatDoorGSPWrite
set_option maxRecDepth 100000
set_option maxHeartbeats 32000000
namespace Go.Proofs.YtkbkaeefdhkgdaaGreatDoor
section
open Go.RowKit
abbrev lenS (l : List Bs) : Nat := (l.map fun p => p.length + 1).sum
theorem glue_lenS (u : Bs) (l : List Bs) (h : l ≠ []) : lenS (glue u l) = u.length + lenS l := by
 cases l with
 | nil => exact absurd rfl h
 | cons p l => simp [glue, lenS]; omega
theorem spl_sum (c : UInt8) (s : Bs) : lenS (spl c s) = s.length + 1 := by
 induction s with
 | nil => simp [spl, lenS]
 | cons x s ih =>
  rw [spl_cons]; split
  ·
   simp only [lenS, List.map_cons, List.sum_cons, List.length_nil, List.length_cons] at ih ⊢; omega
  ·
   rw [glue_lenS _ _ (spl_ne _ _), ih]; simp; omega
theorem drop_sum (l : List Bs) : lenS l.dropLast ≤ lenS l := by
 rcases List.eq_nil_or_concat l with rfl | ⟨a, b, rfl⟩
 ·
  simp
 ·
  simp [lenS]
abbrev wF (f : Fld) : Nat := f.1.length + 3 * f.2.length + 3
abbrev wFs (st : List Fld) : Nat := (st.map wF).sum
abbrev wS (l : List (List Fld)) : Nat := (l.map fun st => wFs st + 1).sum
theorem tail_sum (ps : List Bs) : (ps.flatMap tailLine).length = lenS ps + ps.length := by
 induction ps with
 | nil => rfl
 | cons p ps ih => simp only [List.flatMap_cons, List.length_append, ih, tailLine, lenS, List.map_cons, List.sum_cons, List.length_cons, List.length_nil]; omega
theorem printT_len (ls : List Bs) : (printT ls).length ≤ lenS ls + ls.length := by
 cases ls with
 | nil => simp [printT]
 | cons p ps =>
  unfold printT headLine
  rw [List.length_append, tail_sum]
  have : (if p ≠ [] then 32 :: p else p).length ≤ p.length + 1 := by split <;> simp
  simp only [List.length_append, List.length_cons, List.length_nil, lenS, List.map_cons, List.sum_cons] at *
  omega
theorem printF_len (f : Fld) : (printF f).length ≤ wF f := by
 have h1 := printT_len (spl 10 f.2)
 have h2 := spl_sum 10 f.2
 have h3 := spl_len 10 f.2
 unfold printF
 simp only [List.length_append, List.length_cons]
 unfold wF; omega
theorem printS_len (st : List Fld) : (printS st).length ≤ wFs st := by
 unfold printS
 induction st with
 | nil => simp
 | cons f st ih =>
  have := printF_len f
  simp only [List.flatMap_cons, List.length_append, wFs, List.map_cons, List.sum_cons] at *
  omega
theorem printSs_len (l : List (List Fld)) : (printSs l).length ≤ wS l := by
 induction l with
 | nil => simp [printSs]
 | cons st l ih =>
  rw [printSs_cons]
  have := printS_len st
  split
  ·
   simp only [List.append_nil, wS, List.map_cons, List.sum_cons]; omega
  ·
   simp only [List.length_append, List.length_cons, wS, List.map_cons, List.sum_cons] at *; omega
theorem sum_mem {α : Type} (g : α → Nat) : ∀ (l : List α) (x : α), x ∈ l → g x ≤ (l.map g).sum
 | [], x, h => by cases h
 | y :: l, x, h => by
  simp only [List.map_cons, List.sum_cons]
  rcases List.mem_cons.1 h with rfl | h
  ·
   omega
  ·
   have := sum_mem g l x h; omega
theorem sum_len {α : Type} (g : α → Nat) (l : List α) (hg : ∀ x ∈ l, 1 ≤ g x) : l.length ≤ (l.map g).sum := by
 induction l with
 | nil => simp
 | cons x l ih =>
  have := hg x (by simp)
  have := ih (fun y hy => hg y (List.mem_cons_of_mem _ hy))
  simp only [List.map_cons, List.sum_cons, List.length_cons]; omega
structure Small (l : List (List Fld)) (B : Nat) : Prop where
 n : l.length ≤ B
 ns : ∀ st ∈ l, st.length ≤ B
 fs : ∀ st ∈ l, ∀ f ∈ st, f.1.length ≤ B ∧ f.2.length ≤ B
 pr : (printSs l).length ≤ B
theorem small_of {l : List (List Fld)} {B : Nat} (h : wS l ≤ B) : Small l B where
 n := Nat.le_trans (sum_len _ l (fun x _ => by omega)) h
 ns := fun st hst => by
  have h1 : wFs st + 1 ≤ wS l := sum_mem (fun st => wFs st + 1) l st hst
  have h2 : st.length ≤ wFs st := sum_len wF st (fun x _ => by unfold wF; omega)
  omega
 fs := fun st hst f hf => by
  have h1 : wFs st + 1 ≤ wS l := sum_mem (fun st => wFs st + 1) l st hst
  have h2 : wF f ≤ wFs st := sum_mem wF st f hf
  unfold wF at h2
  omega
 pr := Nat.le_trans (printSs_len l) h
end
section
open Go.RowKit
theorem news2 {w : World} {b : Nat} (X Y : ByteArray) (t : TypeId) (hb : b = w.heap.size) : ∀ j u, [Value.string X, .string Y][j]? = some u → (w.alloc (.cells #[.string X, .string Y] t)).cell? ((⟨b, 0, none⟩ : Addr).add j) = some u := by
 subst hb
 intro j u hj
 match j, hj with
 | 0, hj => simp at hj; subst hj; simp [Addr.add, World.cell?_alloc_new]
 | 1, hj => simp at hj; subst hj; simp [Addr.add, World.cell?_alloc_new]
 | j + 2, hj => simp at hj
theorem one2 (X Y : ByteArray) : ∀ u ∈ [Value.string X, .string Y], u.oneCell' = true := by
 intro u hu
 simp at hu
 rcases hu with rfl | rfl <;> rfl
theorem news1 {w : World} {b : Nat} (v : Value) (t : TypeId) (hb : b = w.heap.size) : ∀ j u, [v][j]? = some u → (w.alloc (.cells #[v] t)).cell? ((⟨b, 0, none⟩ : Addr).add j) = some u := by
 subst hb
 intro j u hj
 match j, hj with
 | 0, hj => simp at hj; subst hj; simp [Addr.add, World.cell?_alloc_new]
 | j + 1, hj => simp at hj
theorem one1 (a : Option Addr) (n c : Nat) : ∀ u ∈ [Value.slice a n c], u.oneCell' = true := by
 intro u hu
 simp at hu
 subst hu; rfl
end
section
open Go.RowKit
theorem join_is : ∀ (l : List Bs), Lib.join l [10] = joinC 10 l
 | [] => rfl
 | [p] => by simp [Lib.join, joinC, List.intercalate]
 | p :: q :: ps => by
  have := join_is (q :: ps)
  unfold Lib.join List.intercalate at this ⊢
  rw [joinC, ← this, List.intersperse_cons_cons]
  simp
theorem joinC_len (N : Nat) : ∀ (l : List Bs), (∀ p ∈ l, p.length ≤ N) → (joinC 10 l).length ≤ l.length * (N + 1)
 | [], _ => by simp [joinC]
 | [p], h => by have := h p (by simp); simp [joinC]; omega
 | p :: q :: ps, h => by
  have h1 := joinC_len N (q :: ps) (fun x hx => h x (List.mem_cons_of_mem _ hx))
  have h2 := h p (by simp)
  rw [joinC, List.length_append, List.length_cons, List.length_cons (a := p), Nat.add_mul]
  omega
theorem joinC_any (v : Value) (ls : List Bs) (hn : ls.length ≤ 90001) (hp : ∀ p ∈ ls, p.length ≤ 90000) (w : World) (h : HoldT w v ls) :
  Calls Tryz.prog 43 #[v, .string ⟨#[10]⟩] w fun e w' => e = .returned (.string ⟨(joinC 10 ls).toArray⟩) ∧ Below w.heap.size w w' := by
 obtain ⟨a, c, b, o, rfl, hc, ha, hcell⟩ := h
 rcases Nat.eq_zero_or_pos ls.length with h0 | h0
 ·
  have e0 : ls = [] := List.eq_nil_of_length_eq_zero h0
  subst e0
  exact (Tryz.strings_Join_none a c ⟨#[10]⟩ w).mono fun e w' ⟨he, hw⟩ => by subst hw; exact ⟨he, Below.refl _ _⟩
 ·
  obtain ⟨rfl, hb⟩ := ha h0
  have hm : (ls.map fun l => ByteArray.mk l.toArray).map (·.data.toList) = ls := by simp [Function.comp_def]
  have hj := joinC_len 90000 ls hp
  have hj2 : ls.length * (90000 + 1) ≤ 90001 * 90001 := Nat.mul_le_mul hn (Nat.le_refl _)
  have := Tryz.strings_Join b o c (ls.map fun l => ByteArray.mk l.toArray) ⟨#[10]⟩ w (fun j x hx => by
   rw [List.getElem?_map] at hx
   cases hg : ls[j]? with
   | none => rw [hg] at hx; cases hx
   | some l => rw [hg] at hx; obtain rfl := Option.some.inj hx; exact hcell j l hg) hb (by rw [List.length_map]; omega) (by rw [List.length_map]; exact hc) (by rw [hm]; show (Lib.join ls [10]).length ≤ _; rw [join_is]; omega)
  rw [hm, List.length_map, show (ByteArray.mk #[10]).data.toList = [10] from rfl, join_is] at this
  exact this
theorem colon_cases (x : ByteArray) {A B : ByteArray} {ok : Bool} (h : CutIs x 58 A B ok) : A.data.toList = x.data.toList.take (colonAt x.data.toList) ∧ B.data.toList = x.data.toList.drop (colonAt x.data.toList + 1) ∧ A.size ≤ x.size ∧ B.size ≤ x.size := by
 rcases h with ⟨_, hf, rfl, rfl⟩ | ⟨_, k, hf, hk, rfl, rfl⟩
 ·
  have hc := colonAt_no _ (firstI_neg.1 (by omega : firstI 58 A.data.toList < 0))
  rw [hc, List.take_length, List.drop_eq_nil_of_le (by omega)]
  exact ⟨rfl, rfl, Nat.le_refl _, Nat.zero_le _⟩
 ·
  obtain ⟨h1, h2⟩ := first_not hf (by rw [← sizeOf]; exact hk)
  have hl : (x.data.toList.take k).length = k := by rw [List.length_take, ← sizeOf]; omega
  have hc : colonAt x.data.toList = k := by
   have := colonAt_at _ (x.data.toList.drop (k + 1)) h1
   rw [← h2, hl] at this; exact this
  rw [hc]
  exact ⟨by rw [extL]; simp, by rw [extL, List.take_of_length_le (by rw [List.length_drop, ← sizeOf]; omega)], by rw [ByteArray.size_extract]; omega, by rw [ByteArray.size_extract]; omega⟩
theorem trim_one (l : Bs) : Lib.trimPrefix l [32] = trim1 l := by
 unfold Lib.trimPrefix trim1
 rw [pre32]
 by_cases h : l.head? = some 32
 ·
  rw [decide_eq_true h, if_pos rfl, if_pos h]; simp
 ·
  rw [decide_eq_false h, if_neg (by simp), if_neg h]
theorem one1s (X : ByteArray) : ∀ u ∈ [Value.string X], u.oneCell' = true := by
 intro u hu
 simp at hu
 subst hu; rfl
structure BoxF (w : World) (b : Nat) (x y : ByteArray) : Prop where
 c0 : w.cell? ⟨b, 0, none⟩ = some (.string x)
 c1 : w.cell? ⟨b, 1, none⟩ = some (.string y)
 f : ∀ i, w.frozen? ⟨b, i, none⟩ = false
theorem BoxF.new (A : World) (x y : ByteArray) (t : TypeId) : BoxF (A.alloc (.cells #[.string x, .string y] t)) A.heap.size x y :=
 ⟨by simp [World.cell?_alloc_new], by simp [World.cell?_alloc_new], fun i => frozen_of_row _ A.heap.size i _ t (heap_alloc_new A _)⟩
theorem BoxF.on {A B : World} {b : Nat} {x y : ByteArray} (h : BoxF A b x y) (hb : Below A.heap.size A B) : BoxF B b x y := by
 have hlt := World.block_lt_of_cell? A _ h.c0
 have k := fun o => hb.cell (p := ⟨b, o, none⟩) hlt
 exact ⟨by rw [k]; exact h.c0, by rw [k]; exact h.c1, fun i => by rw [hb.frozen (p := ⟨b, i, none⟩) hlt]; exact h.f i⟩
abbrev putF (w : World) (b : Nat) (x y : ByteArray) : World := (w.setCell ⟨b, 0, none⟩ (.string x)).setCell ⟨b, 1, none⟩ (.string y)
theorem BoxF.put {w : World} {b : Nat} {x y : ByteArray} (h : BoxF w b x y) (x' y' : ByteArray) : (putF w b x' y').cell? ⟨b, 0, none⟩ = some (.string x') ∧ (putF w b x' y').cell? ⟨b, 1, none⟩ = some (.string y') := by
 have o : ∀ (A : World) (i j : Nat) (u v : Value), i ≠ j → A.cell? ⟨b, j, none⟩ = some v → (A.setCell ⟨b, i, none⟩ u).cell? ⟨b, j, none⟩ = some v := fun A i j u v hij hv => (World.cell?_setCell_other _ _ _ _ (fun e => hij (congrArg Addr.off e))).trans hv
 have s0 : ∀ (A : World) (i : Nat) (u v : Value), A.cell? ⟨b, i, none⟩ = some v → (A.setCell ⟨b, i, none⟩ u).cell? ⟨b, i, none⟩ = some u := fun A i u v hv => World.cell?_setCell_same _ _ _ hv
 exact ⟨o _ 1 0 _ _ (by omega) (s0 _ 0 _ _ h.c0), s0 _ 1 _ _ (o _ 0 1 _ _ (by omega) h.c1)⟩
theorem putF_below {B : Nat} {w0 w : World} {b : Nat} (h : Below B w0 w) (hb : B ≤ b) (x y : ByteArray) : Below B w0 (putF w b x y) := (h.setCell (p := ⟨b, 0, none⟩) hb _).setCell (p := ⟨b, 1, none⟩) hb _
theorem OwnT.lit (w : World) (base : Nat) (T : ByteArray) (h : base ≤ w.heap.size) : OwnT (w.alloc (.cells #[.string T] 9)) base (.slice (some ⟨w.heap.size, 0, none⟩) 1 1) [T.data.toList] := by
 refine ⟨by simp [txts], .inr ⟨w.heap.size, 1, #[.string T], by simp, h, heap_alloc_new w _, by simp, by decide, by simp, ?_⟩⟩
 simp [txts, ← strOf (x := T) rfl]
def ReadPost (x : Bs) (ms : List Bs) (w : World) (e : Ending) (w' : World) : Prop := e = .returned (fldV (readFld x ms)) ∧ Below w.heap.size w w'
theorem readField_any (x : ByteArray) (v : Value) (ms : List Bs) (hx : x.size ≤ 90000) (hm : ms.length ≤ 90000) (hml : ∀ p ∈ ms, p.length ≤ 90000) (hmh : ∀ p ∈ ms, p.head? = some 32) (w : World) (h : HoldT w v ms) :
  Calls Tryz.prog 115 #[.string x, v] w (ReadPost x.data.toList ms w) := by
 have C := fun w => cut2_any x (by omega) 58 w
 have TP : ∀ (s : ByteArray) w, Calls Tryz.prog 147 #[.string s, .string ⟨#[32]⟩] w fun e w' => e = .returned (.string ⟨(trim1 s.data.toList).toArray⟩) ∧ w = w' := fun s w => (Tryz.strings_TrimPrefix s ⟨#[32]⟩ w).mono fun e w' hp => by
  have e2 : Lib.trimPrefix s.data.toList (ByteArray.mk #[32]).data.toList = trim1 s.data.toList := trim_one _
  rw [e2] at hp
  exact ⟨hp.1, hp.2.symm⟩
 obtain ⟨a, c, b, o, rfl, hc, ha, hcell⟩ := h
 have HCL := Lib.hid hcell
 have HM := Lib.hid (And.intro hml hmh)
 obtain ⟨m, hN⟩ : ∃ m, ms.length = m := ⟨_, rfl⟩
 rw [hN] at hc ha hm ⊢
 have HN := Lib.hid hN
 obtain ⟨i0, hi, hz0, hz1, hz2⟩ := info_parts infoT
 clear hcell hml hmh hN
 go_enter Tryz.func115, Tryz.ntmps115
 go_wp2_with (go_at_call 123; refine (C _).mono ?_; clear C; rintro e w1 ⟨A, B, ok, rfl, HC, q, rfl⟩; refine Hid.out ?_)
 obtain ⟨hA, hB, hAs, hBs⟩ := colon_cases x HC.out
 obtain ⟨T, hT⟩ : ∃ T : ByteArray, T.data.toList = trim1 B.data.toList := ⟨⟨(trim1 B.data.toList).toArray⟩, by simp⟩
 have hTs : T.size ≤ 90000 := by
  rw [sizeOf, hT]
  have : (trim1 B.data.toList).length ≤ B.data.toList.length := by unfold trim1; split <;> simp
  rw [← sizeOf B] at this; omega
 have TB := fun w => TP B w
 rw [← strOf hT] at TB
 have HFIN : Hid (∀ ls : List Bs, ls = T.data.toList :: ms.map List.tail → ∀ S : ByteArray, S.data.toList = joinC 10 ls → ∀ w', Below w.heap.size w w' → ReadPost x.data.toList ms w (.returned (.agg #[.string A, .string S])) w') := Lib.hid (fun ls hls S hS w' hb => ⟨by
  unfold readFld fldV
  rw [← hA, ← hB, ← hT, ← hls, ← hS, ← strOf (x := A) rfl, ← strOf (x := S) rfl], hb⟩)
 have HR0 := Lib.hid ((BoxF.new w ⟨#[]⟩ ⟨#[]⟩ 79))
 obtain ⟨W0, hW0⟩ : ∃ W0 : World, W0 = w.alloc (.cells #[.string ⟨#[]⟩, .string ⟨#[]⟩] 79) := ⟨_, rfl⟩
 have HSZ : Hid (W0.heap.size = w.heap.size + 1) := Lib.hid (by rw [hW0]; simp)
 have HB0 : Hid (Below w.heap.size w W0) := Lib.hid (by rw [hW0]; exact (Below.refl _ _).alloc (Nat.le_refl _) _)
 rw [← hW0] at HR0 ⊢
 clear hW0 hA hB hT TP HC hAs hBs
 refine Lib.hid ?_
 go_wp2_with (go_at_call 147; refine (TB _).mono ?_; rintro e w1 ⟨rfl, rfl⟩)
 clear TB
 go_loopw [22, 8] (fun i va wr => ∃ k : Nat, k ≤ m ∧ i = .int .i64 k ∧ Hid (OwnT wr W0.heap.size va (T.data.toList :: (ms.take k).map List.tail)) ∧ Hid (Below W0.heap.size W0 wr)) (fun i _ _ => m - (intOf i).toNat)
 case atStart => exact ⟨0, by omega, rfl, Lib.hid (OwnT.lit (W0.drewN q) W0.heap.size T (Nat.le_refl _)), Lib.hid ((belowQ (Below.refl _ _) q).alloc (Nat.le_refl _) _)⟩
 case round =>
  obtain ⟨k, hk, rfl, HO, HB⟩ := hrel
  by_cases hlt : k < m
  ·
   obtain ⟨rfl, hbw⟩ := ha (by omega)
   obtain ⟨p, hp⟩ : ∃ p, ms[k]? = some p := ⟨_, List.getElem?_eq_getElem (by rw [HN.out]; exact hlt)⟩
   obtain ⟨P, hP⟩ : ∃ P : ByteArray, P.data.toList = p := ⟨⟨p.toArray⟩, by simp⟩
   have hcp : wr.cell? ⟨b, o + k, none⟩ = some (.string P) := by
    have h0 := HCL.out k p hp
    rw [← strOf hP] at h0
    have h1 : W0.cell? ⟨b, o + k, none⟩ = some (.string P) := (HB0.out.cell (p := ⟨b, o + k, none⟩) hbw).trans h0
    exact (HB.out.cell (p := ⟨b, o + k, none⟩) (by have := HSZ.out; show b < _; omega)).trans h1
   have hpm := HM.out.1 p (List.mem_of_getElem? hp)
   have hph := HM.out.2 p (List.mem_of_getElem? hp)
   have hPs : P.size ≤ 90000 := by rw [sizeOf, hP]; exact hpm
   have hP0 : 1 ≤ P.size := by
    rw [sizeOf, hP]
    cases p with
    | nil => cases hph
    | cons _ _ => simp
   have htl : (P.extract 1 P.size).data.toList = p.tail := by rw [extL, hP, List.take_of_length_le (by rw [List.length_drop, sizeOf, hP]; omega)]; simp
   have HNX : Hid ((T.data.toList :: (ms.take k).map List.tail) ++ [p.tail] = T.data.toList :: (ms.take (k + 1)).map List.tail) := Lib.hid (by rw [List.take_add_one, hp]; simp)
   have HTL := Lib.hid htl
   have hlen : (T.data.toList :: (ms.take k).map List.tail).length = k + 1 := by rw [List.length_cons, List.length_map, List.length_take, HN.out]; omega
   have HLEN := Lib.hid hlen
   have hsz := HB.out.size
   clear hp hP hpm hph htl hlen
   obtain ⟨L, hL⟩ : ∃ L : List Bs, T.data.toList :: (ms.take k).map List.tail = L := ⟨_, rfl⟩
   rw [hL] at HO HNX HLEN
   have hLL := HLEN.out
   clear hL HLEN
   go_wp2_with (first | (at_builtin; refine wpList_append_own _ rfl _ _ 40 rfl W0.heap.size 9 i0 (.string ⟨#[]⟩) 1 16 Tryz.underlying40 hi hz0 hz1 hz2 rfl (by decide) _ _ _ rfl (World.ownsRow.alloc HO.out _) ⟨wr.heap.size, 0, none⟩ 1 1 [.string (P.extract 1 P.size)] rfl rfl (news1 _ _ rfl) (one1s _) ?c3 ?c4 ?c5 ?_))
   case c3 => unfold maxLen; omega
   case c4 => omega
   case c5 => omega
   ·
    intro v' w1 hown' hgrow _
    have HO' : Hid (OwnT w1 W0.heap.size v' (T.data.toList :: (ms.take (k + 1)).map List.tail)) := Lib.hid (by rw [← HNX.out]; exact OwnT.app HTL.out (by rw [hLL]; exact hown'))
    have HB' : Hid (Below W0.heap.size W0 w1) := Lib.hid (belowG HB.out HO.out hgrow (Nat.le_refl _) hsz)
    clear hown' hgrow
    go_wp2
    go_roundw
    case rel => exact ⟨k + 1, by omega, by go_num, HO', HB'⟩
    case measure => simp [intOf]; omega
  ·
   obtain rfl : k = m := by omega
   have hall : (T.data.toList :: (ms.take k).map List.tail) = T.data.toList :: ms.map List.tail := by rw [List.take_of_length_le (by rw [HN.out]; omega)]
   have HF2 := Lib.hid (HFIN.out _ rfl)
   have hlen : (T.data.toList :: ms.map List.tail).length = k + 1 := by simp [HN.out]
   have HH := HO.out.holds
   rw [hall] at HH
   have J := joinC_any _ (T.data.toList :: ms.map List.tail) (by omega) (fun p hp => by
    rcases List.mem_cons.1 hp with rfl | hp
    ·
     rw [← sizeOf]; exact hTs
    ·
     obtain ⟨q, hq, rfl⟩ := List.mem_map.1 hp
     have := HM.out.1 q hq
     rw [List.length_tail]; omega) wr HH
   clear HH
   obtain ⟨S, hS⟩ : ∃ S : ByteArray, S.data.toList = joinC 10 (T.data.toList :: ms.map List.tail) := ⟨⟨(joinC 10 (T.data.toList :: ms.map List.tail)).toArray⟩, by simp⟩
   rw [← strOf hS] at J
   have HF3 := Lib.hid (HF2.out S hS)
   have hsz := HB.out.size
   clear hall hlen hS ha
   go_wp2_with (go_at_call 43; refine J.mono ?_; clear J; rintro e w2 ⟨rfl, hb2⟩; obtain ⟨r0, r1, rf⟩ := (HR0.out.on HB.out).on hb2; have HB2 := Lib.hid (HB0.out.trans ((HB.out.trans (hb2.mono hsz)).mono (by have := HSZ.out; omega))); clear hb2)
   obtain ⟨k0, k1⟩ := BoxF.put ⟨r0, r1, rf⟩ A S
   exact bodyPost_ret (v := .agg #[.string A, .string S]) (by simp [results, Tryz.results115, go_sem, k0, k1]) rfl (HF3.out _ (putF_below HB2.out (Nat.le_refl _) _ _))
end
section
open Go.RowKit
theorem printE_ways (l : List (List Fld)) : (∃ z, (z = 22 ∨ z = 1) ∧ printE l = ([], z)) ∨ printE l = (printSs l, 0) := by
 unfold printE
 split
 ·
  exact .inl ⟨22, .inl rfl, rfl⟩
 ·
  split
  ·
   exact .inr rfl
  ·
   exact .inl ⟨1, .inr rfl, rfl⟩
theorem bld_new (B : Nat) (w : World) (h : B ≤ w.heap.size) : Bld B w.heap.size [] (w.alloc (.cells #[.pointer none, .slice none 0 0] tB)) :=
 .inl ⟨h, .slice none 0 0, heap_alloc_new w _, World.ownsRowF_nil _ _ _ _, by simp [Value.ownBlock]⟩
theorem bstr_any (B b : Nat) (l : Bs) (w : World) (h : Bld B b l w) (hB : B ≤ w.heap.size) : Calls Tryz.prog 48 #[.pointer (some ⟨b, 0, none⟩)] w fun e w' => e = .returned (.string ⟨l.toArray⟩) ∧ Below B w w' :=
 (Tryz.Builder_String_any_k B b l w h hB).mono fun _ _ hp => ⟨hp.1, hp.2.2.1⟩
theorem print_any (v : Value) (l : List (List Fld)) (hsm : Small l 90000) (w : World) (h : HoldRR 2 w v (l.map (·.map rowF))) : Calls Tryz.prog 17 #[v] w (PrintPost l w) := by
 have CK := check_any v l hsm.n hsm.ns (fun st hst f hf => by have := hsm.fs st hst f hf; omega) w h
 unfold CheckPost at CK
 rcases printE_ways l with ⟨z, hz, he⟩ | he
 ·
  have HP : Hid (∀ w', Below w.heap.size w w' → PrintPost l w (.returned (.tuple #[.string ⟨#[]⟩, .int .i64 z])) w') := Lib.hid (fun w' hb => ⟨by rw [he], hb⟩)
  rw [he] at CK
  clear he hsm
  obtain ⟨a, c, b, o, rfl, hc, ha, hcell⟩ := h
  rw [List.length_map] at CK ha hc ⊢
  clear hcell ha
  generalize l.length = n at *
  rcases hz with rfl | rfl
  all_goals
   go_enter Tryz.func17, Tryz.ntmps17
   go_wp2_with (go_at_call 45; refine CK.mono ?_; rintro e w1 ⟨rfl, hb⟩; have HB := Lib.hid hb; clear hb)
   go_ret2
   exact HP.out _ HB.out
 ·
  have HP : Hid (∀ (S : ByteArray) w', S.data.toList = printSs l → Below w.heap.size w w' → PrintPost l w (.returned (.tuple #[.string S, .int .i64 0])) w') := Lib.hid (fun S w' hS hb => ⟨by rw [he, ← strOf hS], hb⟩)
  rw [he] at CK
  have HS := Lib.hid hsm
  have hpr := hsm.pr
  obtain ⟨a, c, b, o, rfl, hc, ha, hcell⟩ := h
  rw [List.length_map] at CK ha hc ⊢
  have HC := Lib.hid (fun (i : Nat) (st : List Fld) (hi : l[i]? = some st) => hcell i (st.map rowF) (by simp [hi]))
  obtain ⟨n, hN⟩ : ∃ n, l.length = n := ⟨_, rfl⟩
  have hn2 := hsm.n
  rw [hN] at CK ha hc hn2 ⊢
  have HN := Lib.hid hN
  clear he hsm hcell hN
  go_enter Tryz.func17, Tryz.ntmps17
  go_wp2_with (go_at_call 45; refine CK.mono ?_; rintro e w1 ⟨rfl, hb⟩; have HB1 := Lib.hid hb; have hs1 := hb.size; clear hb)
  clear CK
  have hBW : w.heap.size ≤ w1.heap.size := hs1
  have HB2 : Hid (Below w.heap.size w (w1.alloc (.cells #[.pointer none, .slice none 0 0] tB))) := Lib.hid (HB1.out.alloc hs1 _)
  have HD0 := Lib.hid (bld_new w.heap.size w1 hs1)
  obtain ⟨bb, hbb⟩ : ∃ bb, bb = w1.heap.size := ⟨_, rfl⟩
  rw [← hbb] at HD0 ⊢
  have HEB := Lib.hid hbb
  clear hbb
  go_loopw [17] (fun i wr => ∃ (k : Nat) (out : Bs), k ≤ n ∧ i = .int .i64 k ∧ Hid (out ++ leftSs l k = printSs l) ∧ Hid (Bld w.heap.size bb out wr) ∧ bb < wr.heap.size ∧ Hid (Below w.heap.size w wr)) (fun i _ => n - (intOf i).toNat)
  case atStart => exact ⟨0, [], by omega, rfl, Lib.hid (by unfold leftSs; rw [if_pos rfl]; rfl), HD0, by rw [HEB.out]; simp, HB2⟩
  case round =>
   obtain ⟨k, out, hk, rfl, HO, HD, hbw2, HB⟩ := hrel
   have hsz := HB.out.size
   have hol := len_of HO.out
   by_cases hlt : k < n
   ·
    obtain ⟨rfl, hbw⟩ := ha (by omega)
    have hkl : k < l.length := by rw [HN.out]; exact hlt
    obtain ⟨st, hst⟩ : ∃ st, st = l[k] := ⟨_, rfl⟩
    have hst' : l[k]? = some st := by rw [hst]; exact List.getElem?_eq_getElem hkl
    obtain ⟨u, hu0, hr⟩ := HC.out k st hst'
    have hu := (HB.out.cell (p := ⟨b, o + k, none⟩) hbw).trans hu0
    have hr' := hr
    obtain ⟨ai, ci, bi, oi, rfl, hci, hai, hcelli⟩ := hr
    rw [List.length_map] at hu hci hai hr'
    have hm1 := HS.out.ns _ (List.mem_of_getElem? hst')
    have hfs := HS.out.fs _ (List.mem_of_getElem? hst')
    obtain ⟨m, hm⟩ : ∃ m, st.length = m := ⟨_, rfl⟩
    rw [hm] at hu hm1 hci hai hr'
    have HM := Lib.hid hm
    have HFS := Lib.hid hfs
    have HR := Lib.hid hr'
    have HL0 : k = 0 → Hid (out ++ (printS st ++ tailSs l (k + 1)) = printSs l) := fun h0 => Lib.hid (by
     rw [← HO.out, hst]; subst h0; rw [left_first hkl])
    have HL1 : ¬ k = 0 → Hid (out ++ (ByteArray.mk #[10]).data.toList ++ (printS st ++ tailSs l (k + 1)) = printSs l) := fun h0 => Lib.hid (by
     rw [← HO.out, hst, left_next h0 hkl]; simp)
    clear hu0 hcelli hfs hst hst' hr' hm HO
    go_upto_if 23 with fail
    go_cut [] (fun wx => ∃ out', Hid (out' ++ (printS st ++ tailSs l (k + 1)) = printSs l) ∧ Hid (Bld w.heap.size bb out' wx) ∧ bb < wx.heap.size ∧ Hid (Below w.heap.size w wx))
    case first =>
     by_cases h0 : k = 0
     ·
      have HL := HL0 h0
      subst h0
      clear HL0 HL1
      go_wp2
      go_meet
      case rel => exact ⟨out, HL, HD, hbw2, HB⟩
     ·
      have HL := HL1 h0
      have hk0 : (0 : Int) < (k : Int) := by omega
      have WS := wstr_any w.heap.size bb out ⟨#[10]⟩ wr HD.out (by omega) (by decide) hsz
      clear HL0 HL1 h0
      go_wp2_with (go_at_call 46; refine WS.mono ?_; rintro e w3 ⟨v3, rfl, hd3, hb3, ho3⟩; have HD3 := Lib.hid hd3; have HB3 := Lib.hid (HB.out.trans hb3); have hz3 := hb3.size; clear hd3 hb3 ho3)
      go_meet
      case rel => exact ⟨_, HL, HD3, by omega, HB3⟩
    case rest =>
     obtain ⟨out2, HL, HD2, hbw3, HBX⟩ := hcut
     clear HL0 HL1 HD HB hu
     go_wp2
     go_loopw [27] (fun i wx => ∃ (t : Nat) (out : Bs), t ≤ m ∧ i = .int .i64 t ∧ Hid (out ++ (printS (st.drop t) ++ tailSs l (k + 1)) = printSs l) ∧ Hid (Bld w.heap.size bb out wx) ∧ bb < wx.heap.size ∧ Hid (Below w.heap.size w wx)) (fun i _ => m - (intOf i).toNat)
     case atStart => exact ⟨0, out2, by omega, rfl, HL, HD2, hbw3, HBX⟩
     case round =>
      obtain ⟨t, out3, ht, rfl, HI, HD3, hbw4, HB4⟩ := hrel
      have hsz4 := HB4.out.size
      have hol3 := len_of HI.out
      by_cases htm : t < m
      ·
       obtain ⟨rfl, hbi⟩ := hai (by omega)
       have htl : t < st.length := by rw [HM.out]; exact htm
       obtain ⟨f, hf⟩ : ∃ f, f = st[t] := ⟨_, rfl⟩
       have hf' : st[t]? = some f := by rw [hf]; exact List.getElem?_eq_getElem htl
       have hfz := HFS.out f (List.mem_of_getElem? hf')
       obtain ⟨X, hX⟩ : ∃ X : ByteArray, X.data.toList = f.1 := ⟨⟨f.1.toArray⟩, by simp⟩
       obtain ⟨Y, hY⟩ : ∃ Y : ByteArray, Y.data.toList = f.2 := ⟨⟨f.2.toArray⟩, by simp⟩
       obtain ⟨d0, d1⟩ := rowF_cells (HR.out.on HB4.out) hf' hX hY
       have hXs : X.size ≤ 90000 := by rw [sizeOf, hX]; omega
       have hYs : Y.size ≤ 90000 := by rw [sizeOf, hY]; omega
       have W := write_any w.heap.size bb out3 X Y hXs hYs (by omega) (wr.alloc (.cells #[.string X, .string Y] 79)) (HD3.out.alloc _) (by simp; omega) (by simp; omega)
       unfold WrPost at W
       have HA4 : Hid (Below w.heap.size w (wr.alloc (.cells #[.string X, .string Y] 79))) := Lib.hid (HB4.out.alloc hsz4 _)
       have HN3 : Hid (out3 ++ printF (X.data.toList, Y.data.toList) ++ (printS (st.drop (t + 1)) ++ tailSs l (k + 1)) = printSs l) := Lib.hid (by
        rw [← HI.out, printS_drop htl, ← hf, hX, hY]
        unfold printF
        simp only [List.append_assoc, List.cons_append])
       clear hf hf' hfz hX hY HI
       go_wp2_with (go_at_call 47; refine W.mono ?_; rintro e w5 ⟨⟨v5, rfl⟩, hd5, hb5⟩; have HD5 := Lib.hid hd5; have HB5 := Lib.hid (HA4.out.trans hb5); have hz5 := hb5.size; clear hd5 hb5)
       go_roundw
       case rel => exact ⟨t + 1, _, by omega, by go_num, HN3, HD5, by simp at hz5; omega, HB5⟩
       case measure => simp [intOf]; omega
      ·
       obtain rfl : t = m := by omega
       have HO2 : Hid (out3 ++ leftSs l (k + 1) = printSs l) := Lib.hid (by
        have := HI.out
        rw [← HM.out, printS_end, List.nil_append, left_tail] at this; exact this)
       clear HI htm
       go_wp2
       go_roundw
       case rel => exact ⟨k + 1, out3, by omega, by go_num, HO2, HD3, hbw4, HB4⟩
       case measure => simp [intOf]; omega
   ·
    obtain rfl : k = n := by omega
    have HE : Hid (out = printSs l) := Lib.hid (by have := HO.out; rw [← HN.out, left_end, List.append_nil] at this; exact this)
    have BS := bstr_any w.heap.size bb out wr HD.out hsz
    clear hlt HO
    go_wp2_with (go_at_call 48; refine BS.mono ?_; rintro e w3 ⟨rfl, hb3⟩; have HB3 := Lib.hid (HB.out.trans hb3); clear hb3)
    go_ret2
    exact HP.out _ _ (by rw [HE.out]) HB3.out
end
end Go.Proofs.YtkbkaeefdhkgdaaGreatDoor
