import Derived.Test.YtkbkaeefdhkgdaaGreatDoorGSWords
import Derived.Test.YtkbkaeefdhkgdaaGreatDoorGVParse
set_option maxRecDepth 100000
set_option maxHeartbeats 32000000
namespace Go.Proofs.YtkbkaeefdhkgdaaGreatDoor
section
open Go.RowKit
abbrev Rl := Bs × Bs × Bs
def opB (o : Bs) : Bool := decide (o = [60, 60]) || decide (o = [60, 61]) || decide (o = [61]) || decide (o = [62, 61]) || decide (o = [62, 62])
def rightR (x : Rl) : Bool := nameB x.1 && if x.2.1 = [] then decide (x.2.2 = []) else opB x.2.1 && decide ((parseE x.2.2).2 = 0)
def textR (x : Rl) : Bs := if x.2.1 = [] then x.1 else x.1 ++ 32 :: 40 :: (x.2.1 ++ 32 :: (x.2.2 ++ [41]))
def readL : List Bs → Rl
 | [n, o, v] => if o ≠ [] ∧ v ≠ [] then (n, o.tail, v.dropLast) else (n, [], [])
 | n :: _ => (n, [], [])
 | [] => ([], [], [])
def readR (s : Bs) : Rl := readL (spl 32 s)
theorem readL_three {ls : List Bs} {n o v : Bs} (h3 : ls.length = 3) (h0 : ls[0]? = some n) (h1 : ls[1]? = some o) (h2 : ls[2]? = some v) : readL ls = if o ≠ [] ∧ v ≠ [] then (n, o.tail, v.dropLast) else (n, [], []) := by
 match ls, h3 with
 | [a, b, c], _ =>
  simp at h0 h1 h2
  subst h0 h1 h2
  rfl
def parseR (s : Bs) : Option Rl := if rightR (readR s) = true ∧ textR (readR s) = s then some (readR s) else none
theorem name_32 {n : Bs} (h : nameB n = true) : (32 : UInt8) ∉ n := fun hm => by
 unfold nameB at h
 simp only [Bool.and_eq_true, List.all_eq_true] at h
 have := h.2 _ hm
 revert this; decide
theorem name_ne {n : Bs} (h : nameB n = true) : n ≠ [] := fun e => by subst e; revert h; decide
theorem op_32 {o : Bs} (h : opB o = true) : (32 : UInt8) ∉ o := by
 unfold opB at h
 simp only [Bool.or_eq_true, decide_eq_true_eq] at h
 rcases h with (((h | h) | h) | h) | h <;> subst h <;> decide
theorem only_32 {m s : Bs} (hm : (32 : UInt8) ∉ m) (h : onlyB m s = true) : (32 : UInt8) ∉ s := fun hs => by
 unfold onlyB at h
 rw [List.all_eq_true] at h
 have := h _ hs
 have e : dgB (32 : UInt8) = false := by decide
 have e2 : ltB (32 : UInt8) = false := by decide
 rw [e, e2] at this
 simp at this
 exact hm this
theorem takeWhile_stop {α : Type} (p : α → Bool) : ∀ (l : List α) (h : (l.takeWhile p).length < l.length), p (l[(l.takeWhile p).length]'h) = false
 | [], h => by simp at h
 | x :: l, h => by
  by_cases hx : p x = true
  ·
   have e : (x :: l).takeWhile p = x :: l.takeWhile p := List.takeWhile_cons_of_pos hx
   have h' : (l.takeWhile p).length < l.length := by rw [e] at h; simpa using h
   have := takeWhile_stop p l h'
   simp only [e, List.length_cons, List.getElem_cons_succ]
   exact this
  ·
   have e : (x :: l).takeWhile p = [] := List.takeWhile_cons_of_neg hx
   simp only [e, List.length_nil, List.getElem_cons_zero]
   simpa using hx
theorem cutHy_mem (s : Bs) (c : UInt8) (hc : c ≠ 45) (h : c ∈ s) : c ∈ (cutHy s).1 ∨ c ∈ (cutHy s).2 := by
 unfold cutHy
 by_cases h0 : hyAt s = 0
 ·
  rw [if_pos h0]; exact .inl h
 ·
  rw [if_neg h0]
  simp only []
  have hle : hyAt s ≤ s.length := by unfold hyAt; omega
  have e : s = s.take (hyAt s - 1) ++ s.drop (hyAt s - 1) := (List.take_append_drop _ _).symm
  rw [e] at h
  rcases List.mem_append.1 h with h | h
  ·
   exact .inl h
  ·
   have hd : s.drop (hyAt s - 1) = s[hyAt s - 1]'(by omega) :: s.drop (hyAt s) := by
    have := List.drop_eq_getElem_cons (l := s) (i := hyAt s - 1) (by omega)
    rw [this, show hyAt s - 1 + 1 = hyAt s by omega]
   rw [hd] at h
   rcases List.mem_cons.1 h with h | h
   ·
    have h45 : s[hyAt s - 1]'(by omega) = 45 := by
     have hr : (s.reverse.takeWhile fun c => decide (c ≠ 45)).length = s.length - hyAt s := by
      have := takeWhile_le (fun x : UInt8 => decide (x ≠ 45)) s.reverse
      rw [List.length_reverse] at this
      unfold hyAt at h0 ⊢; omega
     have hlt : (s.reverse.takeWhile fun c => decide (c ≠ 45)).length < s.reverse.length := by rw [hr, List.length_reverse]; omega
     have hstop := takeWhile_stop (fun c : UInt8 => decide (c ≠ 45)) s.reverse hlt
     simp only [decide_eq_false_iff_not, ne_eq, Decidable.not_not] at hstop
     rw [List.getElem_reverse] at hstop
     have hi : s.length - 1 - (s.reverse.takeWhile fun c => decide (c ≠ 45)).length = hyAt s - 1 := by rw [hr]; omega
     simp only [hi] at hstop
     exact hstop
    exact absurd (h.trans h45) hc
   ·
    exact .inr h
theorem rest_32 {e : Int} {m s : Bs} {v : Ver} (hm : (32 : UInt8) ∉ m) (h : restV e m s = some v) : (32 : UInt8) ∉ s := fun hs => by
 unfold restV at h
 split at h
 ·
  rename_i g
  rcases cutHy_mem s 32 (by decide) hs with h1 | h1
  ·
   exact only_32 hm g.2.1 h1
  ·
   exact only_32 (by decide) g.2.2.2 h1
 ·
  cases h
theorem ver_32 {v : Bs} (h : (parseE v).2 = 0) : (32 : UInt8) ∉ v := fun hs => by
 unfold parseE at h
 split at h
 ·
  simp at h
 ·
  split at h
  ·
   rename_i x hx
   unfold verOf at hx
   split at hx
   ·
    rename_i hc
    split at hx
    ·
     rename_i g
     have e : v = v.take (colonAt v) ++ v.drop (colonAt v) := (List.take_append_drop _ _).symm
     have hd := List.drop_eq_getElem_cons (l := v) (i := colonAt v) hc
     have hst := takeWhile_stop (fun c : UInt8 => decide (c ≠ 58)) v hc
     simp only [decide_eq_false_iff_not, ne_eq, Decidable.not_not] at hst
     have h58 : v[colonAt v] = 58 := hst
     rw [h58] at hd
     rw [hd] at e
     rw [e] at hs
     rcases List.mem_append.1 hs with h1 | h1
     ·
      have := List.all_eq_true.1 g.2.2 _ h1
      revert this; decide
     ·
      rcases List.mem_cons.1 h1 with h1 | h1
      ·
       revert h1; decide
      ·
       exact rest_32 (by decide) hx h1
    ·
     cases hx
   ·
    exact rest_32 (by decide) hx hs
  ·
   simp at h
theorem read_text {x : Rl} (h : rightR x = true) : readR (textR x) = x := by
 obtain ⟨n, o, v⟩ := x
 unfold rightR at h
 simp only [Bool.and_eq_true] at h
 obtain ⟨h1, h2⟩ := h
 unfold readR textR
 simp only []
 by_cases ho : o = []
 ·
  subst ho
  rw [if_pos rfl] at h2 ⊢
  have hv : v = [] := by simpa using h2
  subst hv
  rw [spl_no 32 n (name_32 h1)]
  rfl
 ·
  rw [if_neg ho] at h2 ⊢
  simp only [Bool.and_eq_true, decide_eq_true_eq] at h2
  have e1 : (32 : UInt8) ∉ (40 :: o : Bs) := by
   have := op_32 h2.1
   simp only [List.mem_cons, not_or]; exact ⟨by decide, this⟩
  have e2 : (32 : UInt8) ∉ v ++ [41] := by
   have := ver_32 h2.2
   simp only [List.mem_append, List.mem_singleton, not_or]; exact ⟨this, by decide⟩
  have e3 : n ++ 32 :: 40 :: (o ++ 32 :: (v ++ [41])) = n ++ 32 :: ((40 :: o) ++ 32 :: (v ++ [41])) := by simp
  rw [e3, spl_at 32 n _ (name_32 h1), spl_at 32 (40 :: o) _ e1, spl_no 32 _ e2, readL_three (n := n) (o := 40 :: o) (v := v ++ [41]) rfl rfl rfl rfl]
  simp
theorem parse_textR {x : Rl} (h : rightR x = true) : parseR (textR x) = some x := by
 unfold parseR
 rw [read_text h, if_pos ⟨h, rfl⟩]
theorem text_parseR {s : Bs} {x : Rl} (h : parseR s = some x) : textR x = s ∧ rightR x = true := by
 unfold parseR at h
 split at h
 ·
  rename_i g
  cases h
  exact ⟨g.2, g.1⟩
 ·
  cases h
end
section
open Go.RowKit
theorem text_ref7 (n o v : ByteArray) (hn : n.size ≤ 100000) (ho : o.size ≤ 100000) (hv : v.size ≤ 100000) (w : World) :
  Calls Tryz.prog 38 #[.agg #[.string n, .string o, .string v]] w fun e w' => e = .returned (.string ⟨(textR (n.data.toList, o.data.toList, v.data.toList)).toArray⟩) ∧ Below w.heap.size w w' := by
 obtain ⟨T, hT⟩ : ∃ T : ByteArray, T = ⟨(textR (n.data.toList, o.data.toList, v.data.toList)).toArray⟩ := ⟨_, rfl⟩
 rw [← hT]
 have h1s : ∀ x, (ByteArray.mk #[x]).size = 1 := fun _ => rfl
 have h2s : ∀ x y, (ByteArray.mk #[x, y]).size = 2 := fun _ _ => rfl
 have hez := emptyT o
 by_cases h0 : o.size = 0
 ·
  rw [decide_eq_true h0] at hez
  have HT : Hid (T = n) := Lib.hid (by
   rw [hT]; unfold textR
   rw [if_pos (List.eq_nil_of_length_eq_zero (by rw [← sizeOf]; exact h0))])
  clear hT h0
  go_enter Tryz.func38, Tryz.ntmps38
  go_wp2
  go_ret
  exact ⟨by rw [HT.out]; rfl, (Below.refl _ _).alloc (Nat.le_refl _) _⟩
 ·
  rw [decide_eq_false h0] at hez
  have HT : Hid (T = ((((n ++ ⟨#[32, 40]⟩) ++ o) ++ ⟨#[32]⟩) ++ v) ++ ⟨#[41]⟩) := Lib.hid (by
   rw [hT]; unfold textR
   rw [if_neg (fun e => h0 (by rw [sizeOf, show o.data.toList = [] from e]; rfl))]
   refine (strOf ?_).symm
   simp only [ByteArray.data_append, Array.toList_append]
   simp)
  clear hT h0
  go_enter Tryz.func38, Tryz.ntmps38
  go_wp2
  go_ret
  exact ⟨by rw [HT.out]; rfl, (Below.refl _ _).alloc (Nat.le_refl _) _⟩
end
section
open Go.RowKit
theorem box3 {A B : World} {b : Nat} {x y z : ByteArray} (h : A.cell? ⟨b, 0, none⟩ = some (.string x) ∧ A.cell? ⟨b, 1, none⟩ = some (.string y) ∧ A.cell? ⟨b, 2, none⟩ = some (.string z)) (hb : Below A.heap.size A B) : B.cell? ⟨b, 0, none⟩ = some (.string x) ∧ B.cell? ⟨b, 1, none⟩ = some (.string y) ∧ B.cell? ⟨b, 2, none⟩ = some (.string z) := by
 have hlt := World.block_lt_of_cell? A _ h.1
 have k := fun o => hb.cell (p := ⟨b, o, none⟩) hlt
 exact ⟨by rw [k]; exact h.1, by rw [k]; exact h.2.1, by rw [k]; exact h.2.2⟩
theorem box3New (A : World) (x y z : ByteArray) (t : TypeId) : (A.alloc (.cells #[.string x, .string y, .string z] t)).cell? ⟨A.heap.size, 0, none⟩ = some (.string x) ∧ (A.alloc (.cells #[.string x, .string y, .string z] t)).cell? ⟨A.heap.size, 1, none⟩ = some (.string y) ∧ (A.alloc (.cells #[.string x, .string y, .string z] t)).cell? ⟨A.heap.size, 2, none⟩ = some (.string z) := by
 simp [World.cell?_alloc_new]
inductive RightTo (x : Rl) : Bool → Prop
 | name (h : nameB x.1 = false) : RightTo x false
 | bare (h : nameB x.1 = true) (h2 : x.2.1 = []) : RightTo x (decide (x.2.2 = []))
 | op (h : nameB x.1 = true) (h2 : x.2.1 ≠ []) : RightTo x (opB x.2.1 && decide ((parseE x.2.2).2 = 0))
theorem right_to (x : Rl) : RightTo x (rightR x) := by
 unfold rightR
 cases h : nameB x.1
 ·
  exact .name h
 ·
  by_cases h2 : x.2.1 = []
  ·
   rw [if_pos h2]; exact .bare h h2
  ·
   rw [if_neg h2]; exact .op h h2
end
section
open Go.RowKit
abbrev bsT (l : Bs) : ByteArray := ⟨l.toArray⟩
abbrev cellsQ (x : Rl) : Rw := [.string (bsT x.1), .string (bsT x.2.1), .string (bsT x.2.2)]
abbrev aggQ (x : Rl) : Value := .agg #[.string (bsT x.1), .string (bsT x.2.1), .string (bsT x.2.2)]
abbrev HoldQ (w : World) (v : Value) (l : List (Rl)) : Prop := HoldV 3 w v (l.map cellsQ)
theorem HoldQ.parts {w : World} {v : Value} {l : List (Rl)} (h : HoldQ w v l) : ∃ (a : Option Addr) (c b o : Nat), v = .slice a l.length c ∧ l.length ≤ c ∧ (0 < l.length → a = some ⟨b, o, none⟩ ∧ b < w.heap.size) ∧
  ∀ (j : Nat) x, l[j]? = some x → w.cell? ⟨b, o + j * 3, none⟩ = some (.string (bsT x.1)) ∧ w.cell? ⟨b, o + j * 3 + 1, none⟩ = some (.string (bsT x.2.1)) ∧ w.cell? ⟨b, o + j * 3 + 2, none⟩ = some (.string (bsT x.2.2)) := by
 obtain ⟨a, c, b, o, e, hc, ha, hcell⟩ := h
 rw [List.length_map] at e hc ha
 refine ⟨a, c, b, o, e, hc, ha, fun j x hx => ?_⟩
 have := hcell j (cellsQ x) (by rw [List.getElem?_map, hx]; rfl)
 exact ⟨this 0 _ (by omega) rfl, this 1 _ (by omega) rfl, this 2 _ (by omega) rfl⟩
abbrev OwnQ (w : World) (base : Nat) (v : Value) (l : List (Rl)) : Prop := OwnV 46 3 w base v (l.map cellsQ)
theorem cellsQ_len (l : List (Rl)) : ∀ r ∈ l.map cellsQ, r.length = 3 := fun r hr => by obtain ⟨x, _, rfl⟩ := List.mem_map.1 hr; rfl
theorem OwnQ.app {w' : World} {base : Nat} {v' : Value} {l : List (Rl)} {x : Rl} {c0 : ByteArray} {c1 : ByteArray} {c2 : ByteArray} (h0 : c0.data.toList = x.1) (h1 : c1.data.toList = x.2.1) (h2 : c2.data.toList = x.2.2) (h : w'.ownsRow base 46 3 v' (l.length + 1) ((l.map cellsQ).flatten ++ [.string c0, .string c1, .string c2])) : OwnQ w' base v' (l ++ [x]) := by
 have := OwnV.app (T := 46) (k := 3) (rows := l.map cellsQ) (r := cellsQ x) (cellsQ_len l) rfl (by rw [List.length_map]; rw [strOf h0, strOf h1, strOf h2] at h; exact h)
 unfold OwnQ; rw [List.map_append]; exact this
theorem infoQ : (Tryz.prog.info? 46).map (fun i => (i.zero, i.size, i.bytes)) = some (some (.agg #[.string ⟨#[]⟩, .string ⟨#[]⟩, .string ⟨#[]⟩]), 3, 48) := by kernel_rfl
def PredQ (l : List Rl) (g : Nat) (lb : Array Value) (p : Rl → Bool) (w : World) : Prop :=
 ∀ W x, x ∈ l → Below w.heap.size w W → Calls Tryz.prog g (#[aggQ x] ++ lb) W fun e w' => e = .returned (.bool (p x)) ∧ Below W.heap.size W w'
def idxQ (l : List (Rl)) (p : Rl → Bool) : Int := match l.findIdx? p with
 | some k => (k : Int)
 | none => -1
theorem idxQ_hit {l : List (Rl)} {p : Rl → Bool} {k : Nat} {x : Rl} (hx : l[k]? = some x) (hp : p x = true) (hb : ∀ (j : Nat) y, j < k → l[j]? = some y → p y = false) : l.findIdx? p = some k := by
 rw [List.findIdx?_eq_some_iff_getElem]
 obtain ⟨hk, e⟩ := List.getElem?_eq_some_iff.1 hx
 exact ⟨hk, by rw [e]; exact hp, fun j hj => by rw [hb j _ hj (List.getElem?_eq_getElem (by omega))]; simp⟩
theorem idxQ_miss {l : List (Rl)} {p : Rl → Bool} (hb : ∀ (j : Nat) y, l[j]? = some y → p y = false) : l.findIdx? p = none := by
 rw [List.findIdx?_eq_none_iff]
 intro y hy
 obtain ⟨j, hj⟩ := List.mem_iff_getElem?.1 hy
 exact hb j y hj
theorem idxQ_any (g : Nat) (lb : Array Value) (eg : ∀ args w, (callFunc g args).run Tryz.prog w = .ok (.enter g args) w) (p : Rl → Bool) (v : Value) (l : List (Rl)) (hl : l.length ≤ 90000) (w : World) (h : HoldQ w v l) (hp : PredQ l g lb p w) :
  Calls Tryz.prog 155 #[v, .func (.func g) #[] lb] w fun e w' => e = .returned (.int .i64 (idxQ l p)) ∧ Below w.heap.size w w' := by
 obtain ⟨a, c, b, o, rfl, hc, ha, hcell⟩ := h.parts
 have HC := Lib.hid hcell
 obtain ⟨Z, HZ⟩ : ∃ Z, Hid (idxQ l p = Z) := ⟨_, rfl⟩
 rw [HZ.out]
 have HP := Lib.hid hp
 obtain ⟨n, hN⟩ : ∃ n, l.length = n := ⟨_, rfl⟩
 rw [hN] at hc ha hl ⊢
 have HN := Lib.hid hN
 clear hcell hp hN h
 go_enter Tryz.func155, Tryz.ntmps155
 go_wp2
 go_loopw [8] (fun i wr => ∃ k : Nat, k ≤ n ∧ i = .int .i64 k ∧ Hid (∀ (j : Nat) y, j < k → l[j]? = some y → p y = false) ∧ Hid (Below w.heap.size w wr)) (fun i _ => n - (intOf i).toNat)
 case atStart => exact ⟨0, by omega, rfl, Lib.hid (fun j y hj => by omega), Lib.hid (Below.refl _ _)⟩
 case round =>
  obtain ⟨k, hk, rfl, H, HB⟩ := hrel
  by_cases hlt : k < n
  ·
   obtain ⟨rfl, hbw⟩ := ha (by omega)
   obtain ⟨⟨a0, a1, a2⟩, hx⟩ : ∃ x, l[k]? = some x := ⟨_, List.getElem?_eq_getElem (by rw [HN.out]; exact hlt)⟩
   obtain ⟨c0, c1, c2⟩ := HC.out k (a0, a1, a2) hx
   dsimp only at c0 c1 c2
   rw [← HB.out.cell (p := ⟨b, o + k * 3, none⟩) hbw] at c0
   rw [← HB.out.cell (p := ⟨b, o + k * 3 + 1, none⟩) hbw] at c1
   rw [← HB.out.cell (p := ⟨b, o + k * 3 + 2, none⟩) hbw] at c2
   have hcall := HP.out wr (a0, a1, a2) (List.mem_of_getElem? hx) HB.out
   unfold aggQ at hcall
   dsimp only at hcall
   have HX := Lib.hid hx
   clear hx
   cases hq : p (a0, a1, a2)
   ·
    rw [hq] at hcall
    have HK : Hid (∀ (j : Nat) y, j < k + 1 → l[j]? = some y → p y = false) := Lib.hid (fun j y hj hy => by
     by_cases e : j = k
     ·
      subst e
      rw [HX.out] at hy; cases hy
      exact hq
     ·
      exact H.out j y (by omega) hy)
    clear hq H
    generalize bsT a0 = X0 at *
    generalize bsT a1 = X1 at *
    generalize bsT a2 = X2 at *
    go_wp2_with (go_at_fn g; refine hcall.mono ?_; rintro e w1 ⟨rfl, hb1⟩; have HB1 := Lib.hid (HB.out.trans (hb1.mono HB.out.size)); clear hb1)
    go_roundw
    case rel => exact ⟨k + 1, by omega, by go_num, HK, HB1⟩
    case measure => simp [intOf]; omega
   ·
    rw [hq] at hcall
    have HF : Hid ((k : Int) = Z) := Lib.hid (by rw [← HZ.out, idxQ, idxQ_hit HX.out hq H.out])
    clear hq H
    generalize bsT a0 = X0 at *
    generalize bsT a1 = X1 at *
    generalize bsT a2 = X2 at *
    go_wp2_with (go_at_fn g; refine hcall.mono ?_; rintro e w1 ⟨rfl, hb1⟩; have HB1 := Lib.hid (HB.out.trans (hb1.mono HB.out.size)); clear hb1)
    go_ret
    exact ⟨reti HF.out, HB1.out⟩
  ·
   obtain rfl : k = n := by omega
   have HF : Hid ((-1 : Int) = Z) := Lib.hid (by rw [← HZ.out, idxQ, idxQ_miss (fun j y hy => H.out j y (by have := (List.getElem?_eq_some_iff.1 hy).1; rw [HN.out] at this; exact this) hy)])
   clear hlt H
   go_wp2
   go_ret
   exact ⟨reti HF.out, HB.out⟩
theorem idxQ_neg {l : List Rl} {p : Rl → Bool} : (0 ≤ idxQ l p) = (l.any p = true) := by
 unfold idxQ
 cases h : l.findIdx? p with
 | none =>
  rw [List.findIdx?_eq_none_iff] at h
  have : l.any p = false := by rw [List.any_eq_false]; intro x hx; rw [h x hx]; simp
  rw [this]; simp
 | some k =>
  obtain ⟨hk, hp, _⟩ := List.findIdx?_eq_some_iff_getElem.1 h
  have : l.any p = true := List.any_eq_true.2 ⟨_, List.getElem_mem hk, hp⟩
  rw [this]; simp
theorem contQ_any (g : Nat) (lb : Array Value) (eg : ∀ args w, (callFunc g args).run Tryz.prog w = .ok (.enter g args) w) (p : Rl → Bool) (v : Value) (l : List Rl) (hl : l.length ≤ 90000) (w : World) (h : HoldQ w v l) (hp : PredQ l g lb p w) :
  Calls Tryz.prog 125 #[v, .func (.func g) #[] lb] w fun e w' => e = .returned (.bool (l.any p)) ∧ Below w.heap.size w w' := by
 have C := idxQ_any g lb eg p v l hl w h hp
 obtain ⟨a, c, b, o, rfl, -⟩ := h.parts
 have HN := Lib.hid (idxQ_neg (l := l) (p := p))
 generalize idxQ l p = z at *
 generalize hq : l.any p = q at *
 have hz : decide (0 ≤ z) = q := by
  have := HN.out
  cases q
  ·
   rw [decide_eq_false_iff_not, this]; simp
  ·
   rw [decide_eq_true_iff, this]
 generalize l.length = n at *
 clear hp h hl hq
 cases q
 all_goals
  go_enter Tryz.func125, Tryz.ntmps125
  go_wp2_with (go_at_call 155; (with_reducible refine C.mono ?_); rintro e w1 ⟨rfl, hb⟩; have HB := Lib.hid hb; clear hb)
  go_ret
  exact ⟨rfl, HB.out⟩
end
section
open Go.RowKit
def relV (x : Rl) : Value := .agg #[.string ⟨x.1.toArray⟩, .string ⟨x.2.1.toArray⟩, .string ⟨x.2.2.toArray⟩]
structure BoxQ (w : World) (b : Nat) (x y z : ByteArray) : Prop where
 c0 : w.cell? ⟨b, 0, none⟩ = some (.string x)
 c1 : w.cell? ⟨b, 1, none⟩ = some (.string y)
 c2 : w.cell? ⟨b, 2, none⟩ = some (.string z)
 f : ∀ i, w.frozen? ⟨b, i, none⟩ = false
theorem BoxQ.new (A : World) (x y z : ByteArray) (t : TypeId) : BoxQ (A.alloc (.cells #[.string x, .string y, .string z] t)) A.heap.size x y z :=
 ⟨(box3New A x y z t).1, (box3New A x y z t).2.1, (box3New A x y z t).2.2, fun i => frozen_of_row _ A.heap.size i _ t (heap_alloc_new A _)⟩
theorem BoxQ.on {A B : World} {b : Nat} {x y z : ByteArray} (h : BoxQ A b x y z) (hb : Below A.heap.size A B) : BoxQ B b x y z := by
 have hlt := World.block_lt_of_cell? A _ h.c0
 have k := fun o => hb.cell (p := ⟨b, o, none⟩) hlt
 exact ⟨by rw [k]; exact h.c0, by rw [k]; exact h.c1, by rw [k]; exact h.c2, fun i => by rw [hb.frozen (p := ⟨b, i, none⟩) hlt]; exact h.f i⟩
abbrev putQ3 (w : World) (b : Nat) (x y z : ByteArray) : World := ((w.setCell ⟨b, 0, none⟩ (.string x)).setCell ⟨b, 1, none⟩ (.string y)).setCell ⟨b, 2, none⟩ (.string z)
theorem BoxQ.put {w : World} {b : Nat} {x y z : ByteArray} (h : BoxQ w b x y z) (x' y' z' : ByteArray) : (putQ3 w b x' y' z').cell? ⟨b, 0, none⟩ = some (.string x') ∧ (putQ3 w b x' y' z').cell? ⟨b, 1, none⟩ = some (.string y') ∧ (putQ3 w b x' y' z').cell? ⟨b, 2, none⟩ = some (.string z') := by
 have o : ∀ (A : World) (i j : Nat) (u v : Value), i ≠ j → A.cell? ⟨b, j, none⟩ = some v → (A.setCell ⟨b, i, none⟩ u).cell? ⟨b, j, none⟩ = some v := fun A i j u v hij hv => (World.cell?_setCell_other _ _ _ _ (fun e => hij (congrArg Addr.off e))).trans hv
 have s0 : ∀ (A : World) (i : Nat) (u v : Value), A.cell? ⟨b, i, none⟩ = some v → (A.setCell ⟨b, i, none⟩ u).cell? ⟨b, i, none⟩ = some u := fun A i u v hv => World.cell?_setCell_same _ _ _ hv
 exact ⟨o _ 2 0 _ _ (by omega) (o _ 1 0 _ _ (by omega) (s0 _ 0 _ _ h.c0)), o _ 2 1 _ _ (by omega) (s0 _ 1 _ _ (o _ 0 1 _ _ (by omega) h.c1)), s0 _ 2 _ _ (o _ 1 2 _ _ (by omega) (o _ 0 2 _ _ (by omega) h.c2))⟩
theorem putQ3_below {B : Nat} {w0 w : World} {b : Nat} (h : Below B w0 w) (hb : B ≤ b) (x y z : ByteArray) : Below B w0 (putQ3 w b x y z) := ((h.setCell (p := ⟨b, 0, none⟩) hb _).setCell (p := ⟨b, 1, none⟩) hb _).setCell (p := ⟨b, 2, none⟩) hb _
end
end Go.Proofs.YtkbkaeefdhkgdaaGreatDoor
