import Derived.Test.YtkbkaeefdhkgdaaGreatDoorPSPrint
set_option maxRecDepth 100000
set_option maxHeartbeats 32000000
namespace Go.Proofs.YtkbkaeefdhkgdaaGreatDoor
section
open Go.RowKit
def fldV (f : Fld) : Value := .agg #[.string ⟨f.1.toArray⟩, .string ⟨f.2.toArray⟩]
def headV : Option Fld → Value
 | some f => .tuple #[fldV f, .bool true]
 | none => .tuple #[fldV ([], []), .bool false]
theorem headF_no {s : ByteArray} (h : ∀ (j : Nat) (hj : j < s.size), ¬ s[j] = 58) : headF s.data.toList = none := by
 have h58 : (58 : UInt8) ∉ s.data.toList := fun hm => by
  obtain ⟨j, hj, e⟩ := List.mem_iff_getElem.1 hm
  exact h j (by rw [sizeOf]; exact hj) e
 unfold headF
 rw [colonAt_no _ h58, if_neg (by omega)]
theorem headF_at {s : ByteArray} {k : Nat} (hk : k < s.size) (h : ∀ (j : Nat) (hj : j < s.size), j < k → ¬ s[j] = 58) (e : s[k] = 58) : headF s.data.toList = some (s.data.toList.take k, if (s.data.toList.drop (k + 1)).head? = some 32 then (s.data.toList.drop (k + 1)).tail else s.data.toList.drop (k + 1)) := by
 have h58 : (58 : UInt8) ∉ s.data.toList.take k := fun hm => by
  obtain ⟨j, hj, e⟩ := List.mem_iff_getElem.1 hm
  rw [List.length_take] at hj
  have hs := sizeOf s
  rw [List.getElem_take] at e
  exact h j (by omega) (by omega) e
 have hd : s.data.toList = s.data.toList.take k ++ 58 :: s.data.toList.drop (k + 1) := by
  have h1 := dropC s k hk
  rw [e] at h1
  rw [← h1, List.take_append_drop]
 have hl : (s.data.toList.take k).length = k := by rw [List.length_take]; have := sizeOf s; omega
 have hc : colonAt s.data.toList = k := by
  have h1 := colonAt_at _ (s.data.toList.drop (k + 1)) h58
  rw [← hd, hl] at h1
  exact h1
 unfold headF
 rw [hc, if_pos (by rw [← sizeOf]; exact hk)]
theorem sext_end (s : ByteArray) (k : Nat) : (s.extract k s.size).data.toList = s.data.toList.drop k := by
 rw [extL, List.take_of_length_le (by rw [List.length_drop, ← sizeOf]; omega)]
def HeadPost (s : Bs) (w : World) (e : Ending) (w' : World) : Prop := e = .returned (headV (headF s)) ∧ Below w.heap.size w w'
theorem head_ref (s : ByteArray) (hs : s.size ≤ 100000) (w : World) : Calls Tryz.prog 78 #[.string s] w (HeadPost s.data.toList w) := by
 have HN : Hid ((∀ (j : Nat) (hj : j < s.size), ¬ s[j] = 58) → ∀ e w', e = .returned (.tuple #[.agg #[.string ⟨#[]⟩, .string ⟨#[]⟩], .bool false]) → Below w.heap.size w w' → HeadPost s.data.toList w e w') := Lib.hid (fun g e w' h1 h2 => ⟨by rw [headF_no g]; exact h1, h2⟩)
 have HA : Hid (∀ (k : Nat) (hk : k < s.size), (∀ (j : Nat) (hj : j < s.size), j < k → ¬ s[j] = 58) → s[k] = 58 → ∀ (x y : ByteArray), x.data.toList = s.data.toList.take k → y.data.toList = (if (s.data.toList.drop (k + 1)).head? = some 32 then (s.data.toList.drop (k + 1)).tail else s.data.toList.drop (k + 1)) → ∀ e w', e = .returned (.tuple #[.agg #[.string x, .string y], .bool true]) → Below w.heap.size w w' → HeadPost s.data.toList w e w') := Lib.hid (fun k hk g g2 x y hx hy e w' h1 h2 => ⟨by rw [headF_at hk g g2, ← hx, ← hy]; exact h1, h2⟩)
 go_enter Tryz.func78, Tryz.ntmps78
 go_wp2
 go_loop [4] (fun i => ∃ k : Nat, k ≤ s.size ∧ i = .int .i64 k ∧ Hid (∀ (j : Nat) (hj : j < s.size), j < k → ¬ s[j] = 58)) (fun i => s.size - (intOf i).toNat)
 case atStart => exact ⟨0, by omega, rfl, Lib.hid (fun j hj g => by omega)⟩
 case round =>
  obtain ⟨k, hk, rfl, H⟩ := hrel
  by_cases hlt : k < s.size
  ·
   have hx := s[k].toNat_lt
   by_cases he : s[k] = 58
   ·
    have h1 : ((s[k].toNat : Int) == 58) = true := by rw [he]; rfl
    have G := Lib.hid (HA.out k hlt H.out he (s.extract 0 k) )
    have hxk : (s.extract 0 k).data.toList = s.data.toList.take k := by rw [extL]; simp
    obtain ⟨T, hT⟩ : ∃ T : ByteArray, s.extract (k + 1) s.size = T := ⟨_, rfl⟩
    have hTl : T.data.toList = s.data.toList.drop (k + 1) := by rw [← hT, sext_end]
    have hTs : T.size ≤ 100000 := by rw [← hT, ByteArray.size_extract]; omega
    clear HA HN H he
    by_cases h0 : 0 < T.size
    ·
     have hd0 := dropC T 0 h0
     rw [List.drop_zero, hTl] at hd0
     have hy := T[0].toNat_lt
     by_cases h32 : T[0] = 32
     ·
      have h2 : ((T[0].toNat : Int) == 32) = true := by rw [h32]; rfl
      have GG : Hid (∀ e w', e = .returned (.tuple #[.agg #[.string (s.extract 0 k), .string (T.extract 1 T.size)], .bool true]) → Below w.heap.size w w' → HeadPost s.data.toList w e w') := Lib.hid (G.out _ hxk (by
       rw [hd0, h32, List.head?_cons, if_pos rfl, sext_end, hTl, hd0]; rfl))
      clear G hxk hTl hd0 h32
      go_wp2
      exact bodyPost_ret (v := .tuple #[.agg #[.string (s.extract 0 k), .string (T.extract 1 T.size)], .bool true]) (by simp [results, Tryz.results78, go_sem]) rfl (GG.out _ _ rfl ((Below.refl _ _).alloc (Nat.le_refl _) _))
     ·
      have h2 : ((T[0].toNat : Int) == 32) = false := by
       rw [beq_eq_false_iff_ne]; intro g; exact h32 (UInt8.toNat_inj.1 (by show T[0].toNat = 32; omega))
      have GG : Hid (∀ e w', e = .returned (.tuple #[.agg #[.string (s.extract 0 k), .string T], .bool true]) → Below w.heap.size w w' → HeadPost s.data.toList w e w') := Lib.hid (G.out _ hxk (by
       rw [hTl, hd0, List.head?_cons, if_neg (by simpa using h32)]))
      clear G hxk hTl hd0 h32
      go_wp2
      exact bodyPost_ret (v := .tuple #[.agg #[.string (s.extract 0 k), .string T], .bool true]) (by simp [results, Tryz.results78, go_sem]) rfl (GG.out _ _ rfl ((Below.refl _ _).alloc (Nat.le_refl _) _))
    ·
     have hT0 : T.data.toList = [] := List.eq_nil_of_length_eq_zero (by rw [← sizeOf]; omega)
     have GG : Hid (∀ e w', e = .returned (.tuple #[.agg #[.string (s.extract 0 k), .string T], .bool true]) → Below w.heap.size w w' → HeadPost s.data.toList w e w') := Lib.hid (G.out _ hxk (by
      rw [← hTl, hT0, List.head?_nil, if_neg (by simp)]))
     clear G hxk hTl hT0
     go_wp2
     exact bodyPost_ret (v := .tuple #[.agg #[.string (s.extract 0 k), .string T], .bool true]) (by simp [results, Tryz.results78, go_sem]) rfl (GG.out _ _ rfl ((Below.refl _ _).alloc (Nat.le_refl _) _))
   ·
    have h1 : ((s[k].toNat : Int) == 58) = false := by
     rw [beq_eq_false_iff_ne]; intro g; exact he (UInt8.toNat_inj.1 (by show s[k].toNat = 58; omega))
    have HK : Hid (∀ (j : Nat) (hj : j < s.size), j < k + 1 → ¬ s[j] = 58) := Lib.hid (fun j hj g => by
     by_cases e : j = k
     ·
      subst e; exact he
     ·
      exact H.out j hj (by omega))
    clear he H HA HN
    go_wp2
    go_round
    case rel => exact ⟨k + 1, by omega, by go_num, HK⟩
    case measure => simp [intOf]; omega
  ·
   obtain rfl : k = s.size := by omega
   have GG := Lib.hid (HN.out (fun j hj => H.out j hj hj))
   clear hlt HA HN H
   go_wp2
   exact bodyPost_ret (v := .tuple #[.agg #[.string ⟨#[]⟩, .string ⟨#[]⟩], .bool false]) (by simp [results, Tryz.results78, go_sem]) rfl (GG.out _ _ rfl ((Below.refl _ _).alloc (Nat.le_refl _) _))
end
section
open Go.RowKit
end
section
open Go.RowKit
theorem infoF : (Tryz.prog.info? 79).map (fun i => (i.zero, i.size, i.bytes)) = some (some (.agg #[.string ⟨#[]⟩, .string ⟨#[]⟩]), 2, 32) := by kernel_rfl
theorem infoSF : (Tryz.prog.info? 51).map (fun i => (i.zero, i.size, i.bytes)) = some (some (.slice none 0 0), 1, 24) := by kernel_rfl
abbrev fcells (st : List Fld) : List Value := st.flatMap fun f => [.string ⟨f.1.toArray⟩, .string ⟨f.2.toArray⟩]
theorem fcells_at : ∀ (st : List Fld) (t : Nat) (f : Fld), st[t]? = some f → (fcells st)[t * 2]? = some (.string ⟨f.1.toArray⟩) ∧ (fcells st)[t * 2 + 1]? = some (.string ⟨f.2.toArray⟩)
 | [], t, f, h => by simp at h
 | g :: st, 0, f, h => by simp at h; subst h; simp [fcells]
 | g :: st, t + 1, f, h => by
  have := fcells_at st t f (by simpa using h)
  have e : (t + 1) * 2 = t * 2 + 1 + 1 := by omega
  have e2 : (t + 1) * 2 + 1 = t * 2 + 1 + 1 + 1 := by omega
  simp only [fcells, List.flatMap_cons, List.cons_append, List.nil_append]
  rw [e2, e, List.getElem?_cons_succ, List.getElem?_cons_succ, List.getElem?_cons_succ, List.getElem?_cons_succ]
  exact this
theorem fcells_set : ∀ (st : List Fld) (f : Fld) (y : Bs), (fcells (st ++ [f])).set (st.length * 2 + 1) (.string ⟨y.toArray⟩) = fcells (st ++ [(f.1, y)])
 | [], f, y => by simp [fcells]
 | g :: st, f, y => by
  have := fcells_set st f y
  have e : (g :: st).length * 2 + 1 = (st.length * 2 + 1) + 1 + 1 := by simp; omega
  rw [e]
  simp only [fcells, List.cons_append, List.flatMap_cons, List.nil_append, List.set_cons_succ] at this ⊢
  rw [this]
def OwnF (w : World) (base : Nat) (v : Value) (st : List Fld) : Prop := w.ownsRow base 79 2 v st.length (fcells st)
theorem OwnF.nil (w : World) (base : Nat) : OwnF w base (.slice none 0 0) [] := World.ownsRow_nil _ _ _ _
theorem OwnF.holds {w : World} {base : Nat} {v : Value} {st : List Fld} (h : OwnF w base v st) : HoldR 2 w v (st.map rowF) := by
 rcases h.2 with ⟨rfl, h0⟩ | ⟨g, cap, cur, rfl, hb, hg, hn, hm, hs, ht⟩
 ·
  have : st = [] := List.eq_nil_of_length_eq_zero h0
  subst this
  exact ⟨none, 0, 0, 0, rfl, Nat.le_refl _, fun h => absurd h (by simp), fun j l hj => by simp at hj⟩
 ·
  refine ⟨some ⟨g, 0, none⟩, cap, g, 0, by rw [List.length_map], by rw [List.length_map]; exact hn, fun _ => ⟨rfl, (Array.getElem?_eq_some_iff.1 hg).1⟩, fun j r hj i x hi hx => ?_⟩
  rw [List.getElem?_map] at hj
  cases hf : st[j]? with
  | none => rw [hf] at hj; cases hj
  | some f =>
   rw [hf] at hj
   simp only [Option.map_some, Option.some.injEq] at hj
   subst hj
   have hj' := (List.getElem?_eq_some_iff.1 hf).1
   obtain ⟨e0, e1⟩ := fcells_at st j f hf
   have hc : ∀ q, q < st.length * 2 → w.cell? ⟨g, q, none⟩ = (fcells st)[q]? := fun q hq => by
    rw [cellRow w g q cur 79 (0, 0) hg, ← ht, List.getElem?_take, if_pos hq, Array.getElem?_toList]
   match i, hi with
   | 0, _ =>
    simp [rowF] at hx; subst hx
    rw [show 0 + j * 2 + 0 = j * 2 by omega, hc _ (by omega), e0]
   | 1, _ =>
    simp [rowF] at hx; subst hx
    rw [show 0 + j * 2 + 1 = j * 2 + 1 by omega, hc _ (by omega), e1]
theorem OwnF.app {w' : World} {base : Nat} {v' : Value} {st : List Fld} {f : Fld} {x y : ByteArray} (hx : x.data.toList = f.1) (hy : y.data.toList = f.2) (h : w'.ownsRow base 79 2 v' (st.length + 1) (fcells st ++ [.string x, .string y])) : OwnF w' base v' (st ++ [f]) := by
 have e : fcells (st ++ [f]) = fcells st ++ [.string x, .string y] := by simp [fcells, strOf hx, strOf hy]
 unfold OwnF
 rw [e, List.length_append]
 exact h
theorem OwnF.mono {w : World} {base base' : Nat} {v : Value} {st : List Fld} (h : OwnF w base v st) (hb : base' ≤ base) : OwnF w base' v st := by
 refine ⟨h.1, ?_⟩
 rcases h.2 with hn | ⟨g, cap, cur, hv, hb', rest⟩
 ·
  exact .inl hn
 ·
  exact .inr ⟨g, cap, cur, hv, by omega, rest⟩
theorem skinds_apart {w : World} {b1 b2 s1 s2 n1 n2 : Nat} {v1 v2 : Value} {x1 x2 : List Value} {e1 e2 : TypeId} (h1 : w.ownsRow b1 e1 s1 v1 n1 x1) (h2 : w.ownsRow b2 e2 s2 v2 n2 x2) (he : e1 ≠ e2) : v1.ownBlock = none ∨ v1.ownBlock ≠ v2.ownBlock := by
 rcases h1.2 with ⟨rfl, _⟩ | ⟨g, cap, cur, rfl, hb, hg, _⟩
 ·
  exact .inl rfl
 ·
  refine .inr fun e => ?_
  rcases h2.2 with ⟨rfl, _⟩ | ⟨g', cap', cur', rfl, hb', hg', _⟩
  ·
   simp [Value.ownBlock] at e
  ·
   simp only [Value.ownBlock, Option.some.injEq] at e
   subst e
   rw [hg] at hg'
   simp only [Option.some.injEq, Obj.cells.injEq] at hg'
   exact he hg'.2.1
def Built (w : World) (base B : Nat) (vo va : Value) (out : List (List Fld)) (at' : List Fld) : Prop :=
 ∃ us : List Value, w.ownsRow base 51 1 vo out.length us ∧ OwnF w B va at' ∧ base ≤ B ∧ B ≤ w.heap.size ∧
  ∀ (j : Nat) u st, us[j]? = some u → out[j]? = some st → OwnF w base u st ∧ ∀ g, u.ownBlock = some g → g < B
theorem Built.start (w : World) (base : Nat) (h : base ≤ w.heap.size) : Built w base base (.slice none 0 0) (.slice none 0 0) [] [] :=
 ⟨[], World.ownsRow_nil _ _ _ _, OwnF.nil _ _, Nat.le_refl _, h, fun j u st hj _ => by simp at hj⟩
theorem Built.kept {w w' : World} {base B : Nat} {vo va : Value} {out : List (List Fld)} {at' : List Fld} (h : Built w base B vo va out at') (hg : w.grownBy w' none) : Built w' base B vo va out at' := by
 obtain ⟨us, h1, h2, h3, h4, h5⟩ := h
 have nn : ∀ o : Option Nat, o = none ∨ o ≠ none := fun o => by cases o <;> simp
 exact ⟨us, h1.kept hg (nn _), World.ownsRow.kept h2 hg (nn _), h3, Nat.le_trans h4 hg.size, fun j u st hj hs => ⟨World.ownsRow.kept (h5 j u st hj hs).1 hg (nn _), (h5 j u st hj hs).2⟩⟩
theorem grown_below {w w' : World} (h : Below w.heap.size w w') : w.grownBy w' none := ⟨h.os, h.tape, h.output, h.size, fun k hk _ => h.block k hk⟩
theorem Built.on {w w' : World} {base B : Nat} {vo va : Value} {out : List (List Fld)} {at' : List Fld} (h : Built w base B vo va out at') (hb : Below w.heap.size w w') : Built w' base B vo va out at' := h.kept (grown_below hb)
theorem Built.rows {w : World} {base B : Nat} {vo va : Value} {out : List (List Fld)} {at' : List Fld} (h : Built w base B vo va out at') : HoldRR 2 w vo (out.map (·.map rowF)) := by
 obtain ⟨us, h1, h2, h3, h4, h5⟩ := h
 have hl := h1.1
 rcases h1.2 with ⟨rfl, h0⟩ | ⟨g, cap, cur, rfl, hb, hg, hn, hm, hs, ht⟩
 ·
  have : out = [] := List.eq_nil_of_length_eq_zero h0
  subst this
  exact ⟨none, 0, 0, 0, rfl, Nat.le_refl _, fun h => absurd h (by simp), fun j l hj => by simp at hj⟩
 ·
  refine ⟨some ⟨g, 0, none⟩, cap, g, 0, by rw [List.length_map], by rw [List.length_map]; exact hn, fun _ => ⟨rfl, (Array.getElem?_eq_some_iff.1 hg).1⟩, fun j rs hj => ?_⟩
  rw [List.getElem?_map] at hj
  cases hf : out[j]? with
  | none => rw [hf] at hj; cases hj
  | some st =>
   rw [hf] at hj
   simp only [Option.map_some, Option.some.injEq] at hj
   subst hj
   have hj' := (List.getElem?_eq_some_iff.1 hf).1
   obtain ⟨u, hu⟩ : ∃ u, us[j]? = some u := ⟨_, List.getElem?_eq_getElem (by omega)⟩
   refine ⟨u, ?_, (h5 j u st hu hf).1.holds⟩
   rw [Nat.zero_add, cellRow w g j cur 51 (0, 0) hg, ← hu, ← ht, List.getElem?_take, if_pos (by omega), Array.getElem?_toList]
theorem Built.cut {w w1 : World} {o : Obj} {base B : Nat} {vo vo' va : Value} {out : List (List Fld)} {at' : List Fld} {us : List Value} (h1 : w.ownsRow base 51 1 vo out.length us) (h2 : OwnF w B va at') (h3 : base ≤ B)
  (h5 : ∀ (j : Nat) u st, us[j]? = some u → out[j]? = some st → OwnF w base u st ∧ ∀ g, u.ownBlock = some g → g < B)
  (hown : w1.ownsRow base 51 1 vo' (out.length + 1) (us ++ [va])) (hg : (w.alloc o).grownBy w1 vo.ownBlock) (hb : base ≤ w1.heap.size) : Built w1 base w1.heap.size vo' (.slice none 0 0) (out ++ [at']) [] := by
 have hl := h1.1
 have hk : ∀ {B' : Nat} {u : Value} {st : List Fld}, OwnF w B' u st → OwnF w1 B' u st := fun hu => World.ownsRow.kept (World.ownsRow.alloc hu o) hg (skinds_apart hu h1 (by decide))
 refine ⟨us ++ [va], by rw [List.length_append]; exact hown, OwnF.nil _ _, hb, Nat.le_refl _, fun j u st hj hs => ?_⟩
 by_cases hjl : j < out.length
 ·
  rw [List.getElem?_append_left (by omega)] at hj
  rw [List.getElem?_append_left hjl] at hs
  have hu := hk (h5 j u st hj hs).1
  exact ⟨hu, fun g hg' => (World.ownsRow.lt hu g hg').2⟩
 ·
  rw [List.getElem?_append_right (by omega)] at hj
  rw [List.getElem?_append_right (by omega)] at hs
  have e : j - out.length = 0 := by
   have := (List.getElem?_eq_some_iff.1 hs).1; simp at this; omega
  rw [e] at hs
  rw [show j - us.length = 0 by omega] at hj
  simp at hj hs
  subst hj hs
  have hu := hk h2
  exact ⟨hu.mono h3, fun g hg' => (World.ownsRow.lt hu g hg').2⟩
theorem Built.add {w w1 : World} {o : Obj} {base B : Nat} {vo va va' : Value} {out : List (List Fld)} {at' : List Fld} {us : List Value} {f : Fld} (h1 : w.ownsRow base 51 1 vo out.length us) (h2 : OwnF w B va at') (h3 : base ≤ B) (h4 : B ≤ w.heap.size)
  (h5 : ∀ (j : Nat) u st, us[j]? = some u → out[j]? = some st → OwnF w base u st ∧ ∀ g, u.ownBlock = some g → g < B)
  {x y : ByteArray} (hx : x.data.toList = f.1) (hy : y.data.toList = f.2) (hown : w1.ownsRow B 79 2 va' (at'.length + 1) (fcells at' ++ [.string x, .string y])) (hg : (w.alloc o).grownBy w1 va.ownBlock) : Built w1 base B vo va' out (at' ++ [f]) := by
 have hsz := hg.size
 simp only [World.size_alloc] at hsz
 refine ⟨us, World.ownsRow.kept (World.ownsRow.alloc h1 o) hg (skinds_apart h1 h2 (by decide)), OwnF.app hx hy hown, h3, by omega, fun j u st hj hs => ?_⟩
 obtain ⟨a1, a2⟩ := h5 j u st hj hs
 refine ⟨World.ownsRow.kept (World.ownsRow.alloc a1 o) hg ?_, a2⟩
 cases e : u.ownBlock with
 | none => exact .inl rfl
 | some g =>
  refine .inr fun e2 => ?_
  have := (World.ownsRow.lt h2 g e2.symm).1
  have := a2 g e
  omega
theorem Built.set {w : World} {base B g c : Nat} {vo : Value} {out : List (List Fld)} {st : List Fld} {f : Fld} (h : Built w base B vo (.slice (some ⟨g, 0, none⟩) (st.length + 1) c) out (st ++ [f])) {x : ByteArray} {y : Bs} (hx : x.data.toList = y) :
  Built (w.setCell ⟨g, st.length * 2 + 1, none⟩ (.string x)) base B vo (.slice (some ⟨g, 0, none⟩) (st.length + 1) c) out (st ++ [(f.1, y)]) ∧ B ≤ g := by
 obtain ⟨us, h1, h2, h3, h4, h5⟩ := h
 have h2' : w.ownsRow B 79 2 (.slice (some ⟨g, 0, none⟩) (st.length + 1) c) (st.length + 1) (fcells (st ++ [f])) := by
  unfold OwnF at h2; rw [List.length_append] at h2; exact h2
 obtain ⟨k1, hg⟩ := h2'.stored (st.length * 2 + 1) (.string x)
 rw [strOf hx, fcells_set, ← strOf hx] at k1
 have hlt := World.ownsRow.lt h2 g rfl
 refine ⟨⟨us, h1.kept hg (skinds_apart h1 h2 (by decide)), by unfold OwnF; rw [List.length_append]; exact k1, h3, by have := hg.size; omega, fun j u s hj hs => ?_⟩, hlt.1⟩
 obtain ⟨a1, a2⟩ := h5 j u s hj hs
 refine ⟨World.ownsRow.kept a1 hg ?_, a2⟩
 cases e : u.ownBlock with
 | none => exact .inl rfl
 | some k =>
  refine .inr fun e2 => ?_
  simp only [Option.some.injEq] at e2
  have := a2 k e
  omega
theorem OwnF.shape {w : World} {base : Nat} {v : Value} {st : List Fld} (h : OwnF w base v st) : ∃ (a : Option Addr) (c : Nat), v = .slice a st.length c ∧ (0 < st.length → ∃ g, a = some ⟨g, 0, none⟩) := by
 rcases h.2 with ⟨rfl, h0⟩ | ⟨g, cap, cur, rfl, _⟩
 ·
  exact ⟨none, 0, by rw [h0], fun h => by omega⟩
 ·
  exact ⟨some ⟨g, 0, none⟩, cap, rfl, fun _ => ⟨g, rfl⟩⟩
theorem OwnF.last {w : World} {base g c n : Nat} {st : List Fld} {f : Fld} (h : OwnF w base (.slice (some ⟨g, 0, none⟩) n c) (st ++ [f])) {y : ByteArray} (hy : y.data.toList = f.2) : w.cell? ⟨g, st.length * 2 + 1, none⟩ = some (.string y) ∧ w.frozen? ⟨g, st.length * 2 + 1, none⟩ = false := by
 have hn : n = st.length + 1 := by
  obtain ⟨a, c', e, _⟩ := h.shape
  simp only [Value.slice.injEq] at e
  rw [e.2.1, List.length_append]; rfl
 subst hn
 have h2 : w.ownsRow base 79 2 (.slice (some ⟨g, 0, none⟩) (st.length + 1) c) (st.length + 1) (fcells (st ++ [f])) := by
  unfold OwnF at h; rw [List.length_append] at h; exact h
 refine ⟨?_, h2.frozenAt _⟩
 rw [h2.cellAt _ (by omega), (fcells_at (st ++ [f]) st.length f (by simp)).2, strOf hy]
theorem below_row {B0 : Nat} {w0 w w1 : World} {o : Obj} {base e sz n : Nat} {v : Value} {xs : List Value} (h : Below B0 w0 w) (hr : w.ownsRow base e sz v n xs) (hg : (w.alloc o).grownBy w1 v.ownBlock) (hB : B0 ≤ base) (hbw : B0 ≤ w.heap.size) : Below B0 w0 w1 :=
 (h.alloc hbw o).grown hg (by simp; omega) (fun k hk => by have := (hr.lt k hk).1; omega)
end
end Go.Proofs.YtkbkaeefdhkgdaaGreatDoor
