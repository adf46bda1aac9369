/-
  Sets of texts as maps; nothing of the program but its type of texts.
-/
import Derived.Test.YtpkdnohaefkfgaaGreatDoorGQLacks
import Derived.Test.YtpkdnohaefkfgaaGreatDoorGURightA
import Derived.Maps.OwnSet
import Derived.Maps.Own
namespace Go.Proofs.YtpkdnohaefkfgaaGreatDoor
open Go.RowKit
set_option maxHeartbeats 8000000 in
theorem lacks1_any (x : Rl) (hx : Small1 x) (v : Value) (t : List Rl) (hl : t.length ≤ 90000) (hs : SmallQ t) (g : Nat) (w : World) (h : HoldQ w v t) (hL : LaidV w) (h0 : w.cell? ⟨g, 0, none⟩ = some v) : Calls Tryz.prog 51 #[aggQ x, .pointer (some ⟨g, 0, none⟩)] w fun e w' => e = .returned (.bool (metB x t)) ∧ Below w.heap.size w w' := by
  have B0 := (Below.refl w.heap.size w).alloc (Nat.le_refl _) (.cells #[.string (bsT x.1), .string (bsT x.2.1), .string (bsT x.2.2)] 41)
  have M := met_any x hx v t hl hs _ (HoldV.on h B0) (hL.on B0)
  have k0 := (B0.cell (p := ⟨g, 0, none⟩) (World.block_lt_of_cell? w _ h0)).trans h0
  obtain ⟨a, c, b, o, rfl, -⟩ := h.parts
  have HB0 := Lib.hid B0
  obtain ⟨p, q, z⟩ := x
  unfold aggQ at M ⊢
  dsimp only at M HB0 k0 ⊢
  generalize metB (p, q, z) t = r at *
  generalize t.length = n at *
  generalize bsT p = P at *
  generalize bsT q = Q at *
  generalize bsT z = Z at *
  clear B0 h hL hs hl hx h0
  go_enter Tryz.func51, Tryz.ntmps51
  go_wp2_with (go_at_call 52; (with_reducible refine M.mono ?_); rintro e w1 ⟨rfl, hb⟩; have HB := Lib.hid (HB0.out.trans (hb.mono HB0.out.size)); clear hb)
  go_ret
  exact ⟨rfl, HB.out⟩
theorem infoIn : (Tryz.prog.info? 3).map (fun i => (i.zero, i.size, i.bytes)) = some (some (.int .i64 0), 1, 8) := by kernel_rfl
/-- The places below k of groups of which nothing is there. -/
def lackL (t : List Rl) : Nat → List (List Rl) → List Nat
  | _, [] => []
  | k, g :: l => if g.any (fun x => metB x t) then lackL t (k + 1) l else k :: lackL t (k + 1) l
abbrev OwnI (w : World) (B : Nat) (v : Value) (l : List Nat) : Prop := OwnV 3 1 w B v (l.map fun (k : Nat) => [Value.int .i64 (k : Int)])
theorem lackL_len (t : List Rl) : ∀ (l : List (List Rl)) (k : Nat), (lackL t k l).length ≤ l.length
  | [], k => by simp [lackL]
  | g :: l, k => by
    have := lackL_len t l (k + 1)
    rw [lackL]
    split <;> simp <;> omega
set_option maxRecDepth 100000 in
set_option maxHeartbeats 16000000 in
theorem lacks_any (v u : Value) (l : List Gv) (hl : l.length ≤ 500) (hs : SmallG l) (t : List Rl) (ht : t.length ≤ 90000) (hst : SmallQ t) (w : World) (h : HoldGs w v l) (h2 : HoldQ w u t) (hL : LaidV w) :
    Calls Tryz.prog 31 #[v, u] w fun e w' => ∃ r, e = .returned r ∧ OwnI w' w.heap.size r (lackL t 0 (fsts l)) ∧ Below w.heap.size w w' := by
  have EN : ∀ args w, (callFunc 51 args).run Tryz.prog w = .ok (.enter 51 args) w := enters_of Tryz.func51 (by kernel_rfl) rfl
  obtain ⟨i0, hi, hz0, hz1, hz2'⟩ := info_parts infoIn
  have B0 := (Below.refl w.heap.size w).alloc (Nat.le_refl _) (.cells #[u] 27)
  have z0 := boxV1 w u 27
  have hsz0 : w.heap.size < (w.alloc (.cells #[u] 27)).heap.size := by rw [World.size_alloc]; omega
  have CF : Hid (∀ (x : Gv), x ∈ l → ∀ W, Below (w.alloc (.cells #[u] 27)).heap.size (w.alloc (.cells #[u] 27)) W → Calls Tryz.prog 50 #[x.2, .func (.func 51) #[] #[.pointer (some ⟨w.heap.size, 0, none⟩)]] W fun e w' => e = .returned (.bool (x.1.any fun y => metB y t)) ∧ Below W.heap.size W w') := Lib.hid (fun x hx W hW =>
    contQ_any 51 #[.pointer (some ⟨w.heap.size, 0, none⟩)] EN (fun y => metB y t) x.2 x.1 (by have := (hs x hx).2; omega) W (HoldV.on (HoldV.on (h.2 x hx) B0) hW) (fun W' y hy hb => by
      have hbW := hW.trans (hb.mono hW.size)
      have := lacks1_any y ((hs x hx).1 y hy) u t ht hst w.heap.size W' (HoldV.on (HoldV.on h2 B0) hbW) ((hL.on B0).on hbW) ((hbW.cell (p := ⟨w.heap.size, 0, none⟩) hsz0).trans z0)
      simpa using this))
  have HG := Lib.hid (h.on B0)
  obtain ⟨a, c, b, o, rfl, hc, ha, hcell⟩ := (h.on B0).parts
  obtain ⟨ua, uc, -, -, rfl, -⟩ := h2.parts
  have HC := Lib.hid hcell
  have HB0 := Lib.hid B0
  obtain ⟨n, hN⟩ : ∃ n, l.length = n := ⟨_, rfl⟩
  rw [hN] at hc ha hl ⊢
  have HN := Lib.hid hN
  generalize t.length = tn at *
  have hfl : (fsts l).length = n := by rw [List.length_map]; exact hN
  have HFL := Lib.hid hfl
  have hlk := lackL_len t (fsts l) 0
  have hlk2 : (lackL t 0 (fsts l)).length ≤ 500 := by omega
  have HLK := Lib.hid hlk2
  clear hcell hN h h2 hs hst hL B0 z0 hsz0 EN hfl hlk hlk2
  go_enter Tryz.func31, Tryz.ntmps31
  go_wp2
  obtain ⟨w0, hw0⟩ : ∃ w0, w.alloc (.cells #[.slice ua tn uc] 27) = w0 := ⟨_, rfl⟩
  rw [hw0] at HG HC HB0 CF ha ⊢
  clear hw0
  have hsz0 := HB0.out.size
  go_loopw [5, 10] (fun u i wr => ∃ (k : Nat) (xs : List Nat), k ≤ n ∧ i = .int .i64 k ∧ Hid (xs ++ lackL t k ((fsts l).drop k) = lackL t 0 (fsts l)) ∧ xs.length ≤ k ∧ Hid (OwnI wr w0.heap.size u xs) ∧ Hid (Below w0.heap.size w0 wr)) (fun _ i _ => n - (intOf i).toNat)
  case atStart => exact ⟨0, [], by omega, rfl, Lib.hid rfl, by simp, Lib.hid (OwnV.nil _ _ _ _), Lib.hid (Below.refl _ _)⟩
  case round =>
    obtain ⟨k, xs, hk, rfl, HX, hxk, HO, HB⟩ := hrel
    have hsz := HB.out.size
    by_cases hlt : k < n
    · obtain ⟨rfl, hbw⟩ := ha (by omega)
      obtain ⟨⟨g0, sv⟩, hx⟩ : ∃ x, l[k]? = some x := ⟨_, List.getElem?_eq_getElem (by rw [HN.out]; exact hlt)⟩
      have c0 := HC.out k _ hx
      dsimp only at c0
      rw [← HB.out.cell (p := ⟨b, o + k, none⟩) hbw] at c0
      have C := CF.out _ (List.mem_of_getElem? hx) wr HB.out
      dsimp only at C
      obtain ⟨sa, sc, -, -, hsv, -⟩ := (HG.out.2 _ (List.mem_of_getElem? hx)).parts
      dsimp only at hsv
      subst hsv
      have hfx : (fsts l)[k]? = some g0 := by rw [List.getElem?_map, hx]; rfl
      have hdr := drop_atQ hfx
      obtain ⟨r, hr⟩ : ∃ r, (g0.any fun y => metB y t) = r := ⟨_, rfl⟩
      rw [hr] at C
      generalize g0.length = gn at *
      cases r
      · have HX2 : Hid ((xs ++ [k]) ++ lackL t (k + 1) ((fsts l).drop (k + 1)) = lackL t 0 (fsts l)) := Lib.hid (by
          rw [← HX.out, hdr, lackL, hr]; simp)
        clear hx hfx hdr hr HX
        go_wp2_with (first
          | (go_at_call 50; (with_reducible refine C.mono ?_); rintro e w2 ⟨rfl, hb⟩; have HB2 := Lib.hid (HB.out.trans (hb.mono hsz)); have HO2 := Lib.hid (OwnV.on HO.out hb); have hz2 := HB2.out.size; clear hb C HO)
          | (at_builtin; refine wpList_append_own _ rfl _ _ 38 rfl w0.heap.size 3 i0 _ 1 8 Tryz.underlying38 hi hz0 hz1 hz2' rfl (by decide) _ _ _ rfl (World.ownsRow.alloc HO2.out.2 _) ⟨w2.heap.size, 0, none⟩ 1 1 [.int .i64 k] rfl rfl ?c1 ?c2 ?c3 ?c4 ?c5 ?_))
        case c1 =>
          intro j u hj
          match j, hj with
          | 0, hj => simp at hj; subst hj; simp [Addr.add]
        case c2 => intro u hu; simp at hu; subst hu; rfl
        case c3 => rw [List.length_map]; unfold maxLen; omega
        case c4 => rw [List.length_map]; omega
        case c5 => simp; omega
        intro v' w3 hown' hgrow _
        have HO3 : Hid (OwnI w3 w0.heap.size v' (xs ++ [k])) := Lib.hid (by
          unfold OwnI
          rw [List.map_append]
          exact OwnV.app HO2.out.1 rfl (by simpa using hown'))
        have HB3 : Hid (Below w0.heap.size w0 w3) := Lib.hid (OwnV.below HB2.out HO2.out hgrow (Nat.le_refl _) hz2)
        clear hown' hgrow
        go_wp2
        go_roundw
        case rel => exact ⟨k + 1, _, by omega, by go_num, HX2, by rw [List.length_append]; show xs.length + 1 ≤ _; omega, HO3, HB3⟩
        case measure => simp [intOf]; omega
      · have HX2 : Hid (xs ++ lackL t (k + 1) ((fsts l).drop (k + 1)) = lackL t 0 (fsts l)) := Lib.hid (by
          rw [← HX.out, hdr, lackL, hr]; simp)
        clear hx hfx hdr hr HX
        go_wp2_with (go_at_call 50; (with_reducible refine C.mono ?_); rintro e w2 ⟨rfl, hb⟩; have HB2 := Lib.hid (HB.out.trans (hb.mono hsz)); have HO2 := Lib.hid (OwnV.on HO.out hb); clear hb C HO)
        go_roundw
        case rel => exact ⟨k + 1, _, by omega, by go_num, HX2, by omega, HO2, HB2⟩
        case measure => simp [intOf]; omega
    · obtain rfl : k = n := by omega
      have HE : Hid (xs = lackL t 0 (fsts l)) := Lib.hid (by rw [← HX.out, List.drop_of_length_le (by rw [HFL.out]; omega), lackL, List.append_nil])
      clear hlt HX
      go_wp2
      go_ret
      exact ⟨_, rfl, by rw [← HE.out]; exact OwnV.mono HO.out hsz0, HB0.out.trans (HB.out.mono hsz0)⟩
end Go.Proofs.YtpkdnohaefkfgaaGreatDoor
namespace Go.Proofs.YtpkdnohaefkfgaaGreatDoor
open Go.RowKit Go.Shelf
def openZ (z : Int) : Bool := decide (z = 3) || decide (z = 4)
def isThere (z : Int) : Bool := decide (z = 7) || decide (z = 6)
abbrev relU (x : Uv) : Rl := (x.nm, [], x.vr)
def thereU (l : List Uv) : List Rl := (l.filter fun x => isThere x.st).map relU
def lackN (t : List Rl) (x : Uv) : Nat := (lackL t 0 (fsts x.dp)).length
def enoughB (t : List Rl) (x : Uv) : Bool := lackN t x == 0
def mayB (s : List Bs) (t : List Rl) (x : Uv) : Bool := !decide (x.nm ∈ s) && openZ x.st && enoughB t x
/-- The next one. -/
def nextU (l : List Uv) (s : List Bs) (t : List Rl) : Option Uv := l.find? (mayB s t)
abbrev nmsU (xs : List Uv) : List Bs := xs.map (·.nm)
abbrev behindU (l xs : List Uv) : List Rl := thereU l ++ xs.map relU
/-- What is planned so far. -/
def PlanTo (l xs : List Uv) : Prop := ∀ (i : Nat) x, xs[i]? = some x → nextU l (nmsU (xs.take i)) (behindU l (xs.take i)) = some x
structure PlanOf (l xs : List Uv) : Prop where
  plan : PlanTo l xs
  done : nextU l (nmsU xs) (behindU l xs) = none
theorem PlanTo.nil (l : List Uv) : PlanTo l [] := fun i x h => by simp at h
theorem PlanTo.snoc {l xs : List Uv} {x : Uv} (h : PlanTo l xs) (hm : nextU l (nmsU xs) (behindU l xs) = some x) : PlanTo l (xs ++ [x]) := fun i y hy => by
  by_cases hi : i < xs.length
  · rw [List.getElem?_append_left hi] at hy
    rw [List.take_append_of_le_length (by omega)]
    exact h i y hy
  · have hlen : i = xs.length := by
      have := (List.getElem?_eq_some_iff.1 hy).1
      simp at this; omega
    subst hlen
    rw [List.getElem?_append_right (Nat.le_refl _)] at hy
    simp at hy; subst hy
    rw [List.take_left' rfl]
    exact hm
theorem next_some {l : List Uv} {s : List Bs} {t : List Rl} {x : Uv} (h : nextU l s t = some x) : x ∈ l ∧ mayB s t x = true := ⟨List.mem_of_find?_eq_some h, List.find?_some h⟩
theorem next_none {l : List Uv} {s : List Bs} {t : List Rl} (h : nextU l s t = none) : ∀ x ∈ l, mayB s t x = false := fun x hx => by
  have := List.find?_eq_none.1 h x hx
  simpa using this
theorem next_at {l : List Uv} {s : List Bs} {t : List Rl} {k : Nat} {x : Uv} (hk : l[k]? = some x) (hx : mayB s t x = true) (hb : ∀ (j : Nat) y, j < k → l[j]? = some y → mayB s t y = false) : nextU l s t = some x := by
  unfold nextU
  rw [List.find?_eq_some_iff_getElem]
  obtain ⟨h1, h2⟩ := List.getElem?_eq_some_iff.1 hk
  exact ⟨hx, k, h1, h2, fun j hj => by rw [hb j _ hj (List.getElem?_eq_getElem (by omega))]; rfl⟩
theorem next_no {l : List Uv} {s : List Bs} {t : List Rl} (h : ∀ x ∈ l, mayB s t x = false) : nextU l s t = none := by
  unfold nextU
  rw [List.find?_eq_none]
  intro x hx; rw [h x hx]; simp
theorem mayB_parts {s : List Bs} {t : List Rl} {x : Uv} (h : mayB s t x = true) : x.nm ∉ s ∧ openZ x.st = true ∧ enoughB t x = true := by
  unfold mayB at h
  simp only [Bool.and_eq_true, Bool.not_eq_true', decide_eq_false_iff_not] at h
  exact ⟨h.1.1, h.1.2, h.2⟩
theorem nd_len : ∀ (a b : List Bs), a.Nodup → (∀ x ∈ a, x ∈ b) → a.length ≤ b.length
  | [], b, _, _ => Nat.zero_le _
  | x :: a, b, hn, hs => by
    have hx := hs x (by simp)
    have h1 := List.nodup_cons.1 hn
    have ih := nd_len a (b.erase x) h1.2 (fun y hy => (List.mem_erase_of_ne (fun e => h1.1 (by rw [← e]; exact hy))).2 (hs y (List.mem_cons_of_mem _ hy)))
    have h2 := List.length_erase_of_mem hx
    have h3 := List.length_pos_of_mem hx
    simp only [List.length_cons]
    omega
theorem PlanTo.nodup {l xs : List Uv} (h : PlanTo l xs) : (nmsU xs).Nodup := by
  rw [List.nodup_iff_pairwise_ne, List.pairwise_iff_getElem]
  intro i j hi hj hij e
  simp only [List.length_map] at hi hj
  have := (mayB_parts (next_some (h j _ (List.getElem?_eq_getElem hj))).2).1
  refine this ?_
  simp only [List.getElem_map] at e
  rw [← e]
  refine List.mem_map_of_mem ?_
  rw [List.mem_take_iff_getElem]
  exact ⟨i, by omega, rfl⟩
theorem PlanTo.len {l xs : List Uv} (h : PlanTo l xs) : xs.length ≤ l.length := by
  have := nd_len (nmsU xs) (nmsU l) h.nodup (fun n hn => by
    obtain ⟨x, hx, rfl⟩ := List.mem_map.1 hn
    obtain ⟨i, hi, rfl⟩ := List.mem_iff_getElem.1 hx
    exact List.mem_map_of_mem (next_some (h i _ (List.getElem?_eq_getElem hi))).1)
  simpa using this
/-- Who can't be configured. -/
def stuckU (l : List Uv) (s : List Bs) : List Uv := l.filter fun x => !decide (x.nm ∈ s) && openZ x.st
theorem split_len {α : Type} (p q : α → Bool) : ∀ l : List α, (l.filter p).length = (l.filter fun x => q x && p x).length + (l.filter fun x => !q x && p x).length
  | [] => rfl
  | x :: l => by
    have ih := split_len p q l
    simp only [List.filter_cons]
    cases hp : p x <;> cases hq : q x <;> simp <;> omega
theorem plan_count {l xs : List Uv} (hd : (nmsU l).Nodup) (h : PlanTo l xs) : xs.length + (stuckU l (nmsU xs)).length = (l.filter fun x => openZ x.st).length := by
  have h1 := split_len (fun x : Uv => openZ x.st) (fun x => decide (x.nm ∈ nmsU xs)) l
  have h2 : (l.filter fun x => decide (x.nm ∈ nmsU xs) && openZ x.st).length = xs.length := by
    refine Nat.le_antisymm ?_ ?_
    · have := nd_len (nmsU (l.filter fun x => decide (x.nm ∈ nmsU xs) && openZ x.st)) (nmsU xs) (hd.sublist (List.Sublist.map _ List.filter_sublist)) (fun n hn => by
        obtain ⟨x, hx, rfl⟩ := List.mem_map.1 hn
        have := (List.mem_filter.1 hx).2
        simp only [Bool.and_eq_true, decide_eq_true_eq] at this
        exact this.1)
      simpa using this
    · have := nd_len (nmsU xs) (nmsU (l.filter fun x => decide (x.nm ∈ nmsU xs) && openZ x.st)) h.nodup (fun n hn => by
        obtain ⟨x, hx, rfl⟩ := List.mem_map.1 hn
        obtain ⟨i, hi, rfl⟩ := List.mem_iff_getElem.1 hx
        have hp := next_some (h i _ (List.getElem?_eq_getElem hi))
        refine List.mem_map_of_mem (List.mem_filter.2 ⟨hp.1, ?_⟩)
        simp only [Bool.and_eq_true, decide_eq_true_eq]
        exact ⟨List.mem_map_of_mem hx, (mayB_parts hp.2).2.1⟩)
      simpa using this
  unfold stuckU
  omega
theorem stuck_lacks {l xs : List Uv} (h : PlanOf l xs) {x : Uv} (hx : x ∈ stuckU l (nmsU xs)) : x ∈ l ∧ enoughB (behindU l xs) x = false := by
  obtain ⟨h1, h2⟩ := List.mem_filter.1 hx
  refine ⟨h1, ?_⟩
  have := next_none h.done x h1
  unfold mayB at this
  rw [h2, Bool.true_and] at this
  exact this
/-- There is one plan. -/
theorem plan_uniq {l xs ys : List Uv} (h : PlanOf l xs) (k : PlanOf l ys) : xs = ys := by
  have ht : ∀ i, xs.take i = ys.take i := fun i => by
    induction i with
    | zero => simp
    | succ i ih =>
      rw [List.take_add_one, List.take_add_one, ih]
      congr 2
      cases hx : xs[i]? with
      | none =>
        cases hy : ys[i]? with
        | none => rfl
        | some y =>
          exfalso
          have h1 := k.plan i y hy
          have h2 : xs.take i = xs := List.take_of_length_le (List.getElem?_eq_none_iff.1 hx)
          rw [← ih, h2, h.done] at h1
          cases h1
      | some x =>
        cases hy : ys[i]? with
        | none =>
          exfalso
          have h1 := h.plan i x hx
          have h2 : ys.take i = ys := List.take_of_length_le (List.getElem?_eq_none_iff.1 hy)
          rw [ih, h2, k.done] at h1
          cases h1
        | some y =>
          have h1 := h.plan i x hx
          have h2 := k.plan i y hy
          rw [ih, h2] at h1
          exact h1.symm
  have h1 := ht (xs.length + ys.length)
  rwa [List.take_of_length_le (by omega), List.take_of_length_le (by omega)] at h1
end Go.Proofs.YtpkdnohaefkfgaaGreatDoor
namespace Go.Proofs.YtpkdnohaefkfgaaGreatDoor
open Go.RowKit Go.WideMaps Go.Maps
theorem lawS : Keyed Tryz.prog 9 := string_keyed Tryz.underlying9
set_option maxRecDepth 100000 in
theorem key_s (s : ByteArray) (h : s.size ≤ maxLen) : keyOf Tryz.prog 9 (.string s) = some (.string s.data.toList) := by
  unfold keyOf
  rw [Tryz.underlying9]
  simp [mapKey, Tryz.underlying9, h]
noncomputable def setS (l : List Bs) : DataW Unit := setOf (.agg []) (l.map Lit.string)
theorem setS_snoc (l : List Bs) (x : Bs) : setS (l ++ [x]) = (setS l).put (.string x) (.agg []) := by unfold setS; rw [List.map_append]; exact setOf_snoc _ _ _
theorem key_lit {x : Bs} (h : x.length ≤ maxLen) : WideAt.IsKeyLit (.string x) := by
  have := lawS.key (key_s ⟨x.toArray⟩ (by rw [sizeOf, bytesOf]; exact h))
  rw [bytesOf] at this
  exact this
theorem setS_has (l : List Bs) (hl : ∀ y ∈ l, y.length ≤ maxLen) {x : Bs} : Maps.has (setS l) (.string x) = decide (x ∈ l) := by
  unfold setS
  rw [has_setOf _ _ _ (fun k hk => by obtain ⟨y, hy, rfl⟩ := List.mem_map.1 hk; exact key_lit (hl y hy)), List.any_map, Bool.eq_iff_iff, List.any_eq_true, decide_eq_true_eq]
  constructor
  · rintro ⟨y, hy, h⟩
    by_cases e : y = x
    · rw [← e]; exact hy
    · have hne : Lit.string y ≠ Lit.string x := fun g => e (by cases g; rfl)
      simp only [Function.comp] at h
      rw [sameKey_ne hne] at h; cases h
  · intro h
    exact ⟨x, h, WideAt.sameKey_self (key_lit (hl x h))⟩
set_option maxRecDepth 100000 in
theorem zeroU (w : World) : (zeroValue 53).run Tryz.prog w = .ok (.agg #[]) w := by kernel_rfl
end Go.Proofs.YtpkdnohaefkfgaaGreatDoor
