import Derived.Test.YtkbkaeefdhkgdaaGreatDoorPQRefPA
import Derived.Test.YtkbkaeefdhkgdaaGreatDoorPUFit
import Derived.Test.YtkbkaeefdhkgdaaGreatDoorPURefP
set_option maxRecDepth 100000
set_option maxHeartbeats 32000000
namespace Go.Proofs.YtkbkaeefdhkgdaaGreatDoor
section
open Go.RowKit
theorem paPost_any {s : Bs} {w w' : World} {e : Ending} (h : PostPA (parseA s) w e w') : ∃ a n c L b, e = .returned (.tuple #[.slice a n c, .bool b]) ∧ L.length = n ∧ n ≤ 64 ∧ (∀ x ∈ L, x.1.length ≤ 64) ∧ OwnGs w' w.heap.size (.slice a n c) L ∧ parseA s = (if b then some (fsts L) else none) ∧ (b = false → L = []) ∧ Below w.heap.size w w' := by
 unfold PostPA at h
 cases hp : parseA s with
 | none =>
  rw [hp] at h
  obtain ⟨rfl, hb⟩ := h
  exact ⟨none, 0, 0, [], false, rfl, rfl, by omega, (fun x hx => (by cases hx)), OwnGs.nil _ _, rfl, fun _ => rfl, hb⟩
 | some l =>
  rw [hp] at h
  obtain ⟨⟨v, L, he, hf, ho⟩, hb⟩ := h
  obtain ⟨a, c, hv⟩ := OwnV.form ho.1
  rw [List.length_map] at hv
  subst hv
  obtain ⟨-, hr⟩ := textA_inv hp
  rw [← hf] at hr
  have h1 := hr.1
  rw [List.length_map] at h1
  exact ⟨a, _, c, L, true, he, rfl, h1, fun x hx => (hr.2 x.1 (List.mem_map_of_mem hx)).2.1, ho, by rw [hf]; rfl, fun e => (by cases e), hb⟩
def PostPL (o : Option (List Rl)) (w : World) (e : Ending) (w' : World) : Prop := (∃ v, e = .returned (.tuple #[v, .bool o.isSome]) ∧ OwnQ w' w.heap.size v (o.getD [])) ∧ Below w.heap.size w w'
theorem pl_yes {s : Bs} {L : List Gv} {b : Bool} (hp : parseA s = (if b then some (fsts L) else none)) (hb : b = false → L = []) (h1 : ∀ x ∈ L, x.1.length = 1) : (parseQ s).isSome = b ∧ (parseQ s).getD [] = (fsts L).flatten := by
 rw [parseQ_eq, hp]
 cases b with
 | false => rw [hb rfl]; exact ⟨rfl, rfl⟩
 | true =>
  have : oneG (fsts L) = some (fsts L).flatten := by
   unfold oneG
   rw [if_pos]
   rw [List.all_eq_true]
   intro g hg
   obtain ⟨x, hx, rfl⟩ := List.mem_map.1 hg
   rw [h1 x hx]; rfl
  rw [if_pos rfl]
  show (oneG (fsts L)).isSome = true ∧ (oneG (fsts L)).getD [] = _
  rw [this]; exact ⟨rfl, rfl⟩
theorem pl_no {s : Bs} {L : List Gv} {b : Bool} (hp : parseA s = (if b then some (fsts L) else none)) (hb : b = false → L = []) {x : Gv} (hx : x ∈ L) (h1 : x.1.length ≠ 1) : parseQ s = none := by
 rw [parseQ_eq, hp]
 cases b with
 | false => rfl
 | true =>
  rw [if_pos rfl]
  show oneG (fsts L) = none
  unfold oneG
  rw [if_neg]
  intro e
  have := List.all_eq_true.1 e x.1 (List.mem_map_of_mem hx)
  simp at this
  exact h1 this
theorem flat_snoc {L : List Gv} {k : Nat} {g : List Rl} {sv : Value} {x : Rl} (h : L[k]? = some (g, sv)) (hg : g = [x]) : (fsts (L.take (k + 1))).flatten = (fsts (L.take k)).flatten ++ [x] := by
 rw [take_snocQ h]; subst hg; simp [fsts]
theorem parseList_ref (s : ByteArray) (hs : s.size ≤ 3000) (w : World) : Calls Tryz.prog 34 #[.string s] w (PostPL (parseQ s.data.toList) w) := by
 obtain ⟨i0, hi, hz0, hz1, hz2'⟩ := info_parts infoQ
 have C := (parseAll_ref s hs w).mono (fun e w' h => paPost_any h)
 go_enter Tryz.func34, Tryz.ntmps34
 go_wp2_with (go_at_call 33; (with_reducible refine C.mono ?_); rintro e w1 ⟨a0, n, c, L, bo, rfl, hn, hn64, hg64, ho, hpa, hbo, hb⟩; have HN := Lib.hid hn; have HG64 := Lib.hid hg64; have HO := Lib.hid ho; have HPA := Lib.hid hpa; have HBO := Lib.hid hbo; have HB1 := Lib.hid hb; clear hn hg64 ho hpa hbo hb C)
 have hsz1 := HB1.out.size
 obtain ⟨a, c', b, o, e, hc, ha, hcell⟩ := HO.out.holds.parts
 rw [HN.out] at e hc ha
 simp only [Value.slice.injEq] at e
 obtain ⟨rfl, -, rfl⟩ := e
 have HC := Lib.hid hcell
 have HIN := Lib.hid HO.out.holds.2
 have HYES : Hid ((∀ x ∈ L, x.1.length = 1) → ∀ v w', OwnQ w' w.heap.size v (fsts L).flatten → Below w.heap.size w w' → PostPL (parseQ s.data.toList) w (.returned (.tuple #[v, .bool bo])) w') := Lib.hid (fun h v w' h1 h2 => by
  obtain ⟨e1, e2⟩ := pl_yes HPA.out HBO.out h
  exact ⟨⟨v, by rw [e1], by rw [e2]; exact h1⟩, h2⟩)
 have HNO : Hid (∀ x ∈ L, x.1.length ≠ 1 → ∀ w', Below w.heap.size w w' → PostPL (parseQ s.data.toList) w (.returned (.tuple #[.slice none 0 0, .bool false])) w') := Lib.hid (fun x hx h w' h2 => by
  rw [pl_no HPA.out HBO.out hx h]
  exact ⟨⟨_, rfl, OwnV.nil _ _ _ _⟩, h2⟩)
 clear hcell HPA HBO
 go_loopw [4, 7] (fun u i wr => ∃ (k : Nat) (ys : List Rl), k ≤ n ∧ i = .int .i64 k ∧ Hid (∀ (j : Nat) y, j < k → L[j]? = some y → y.1.length = 1) ∧ Hid (ys = (fsts (L.take k)).flatten) ∧ Hid (ys.length = k) ∧ Hid (OwnQ wr w1.heap.size u ys) ∧ Hid (Below w1.heap.size w1 wr)) (fun _ i _ => n - (intOf i).toNat)
 case atStart => exact ⟨0, [], by omega, rfl, Lib.hid (fun j y hj => by omega), Lib.hid rfl, Lib.hid rfl, Lib.hid (OwnV.nil _ _ _ _), Lib.hid (Below.refl _ _)⟩
 case round =>
  obtain ⟨k, ys, hk, rfl, H, HYS, HFL, HOU, HBX⟩ := hrel
  obtain ⟨wo, rfl⟩ : ∃ wo : World, wo = wr := ⟨_, rfl⟩
  have HB := Lib.hid (HB1.out.trans (HBX.out.mono hsz1))
  have hsz := HB.out.size
  have hszx := HBX.out.size
  by_cases hlt : k < n
  ·
   obtain ⟨rfl, hbw⟩ := ha (by omega)
   obtain ⟨⟨g0, sv⟩, hx⟩ : ∃ x, L[k]? = some x := ⟨_, List.getElem?_eq_getElem (by rw [HN.out]; exact hlt)⟩
   have hmx := List.mem_of_getElem? hx
   have hgx := HIN.out _ hmx
   have hsm := HG64.out _ hmx
   have c0 := HC.out k _ hx
   dsimp only at c0 hgx hsm
   rw [← HBX.out.cell (p := ⟨b, o + k, none⟩) hbw] at c0
   obtain ⟨sa, sc, sb, so, hsv, hsc, hsa, hscell⟩ := hgx.parts
   subst hsv
   by_cases h1 : g0.length = 1
   ·
    obtain ⟨⟨p, q, z⟩, hg0⟩ : ∃ x, g0 = [x] := List.length_eq_one_iff.1 h1
    obtain ⟨rfl, hsb⟩ := hsa (by omega)
    have d := hscell 0 (p, q, z) (by rw [hg0]; rfl)
    dsimp only at d
    rw [Nat.zero_mul, Nat.add_zero] at d
    obtain ⟨d0, d1, d2⟩ := d
    rw [← HBX.out.cell (p := ⟨sb, so, none⟩) hsb] at d0
    rw [← HBX.out.cell (p := ⟨sb, so + 1, none⟩) hsb] at d1
    rw [← HBX.out.cell (p := ⟨sb, so + 2, none⟩) hsb] at d2
    have HF2 : Hid (ys ++ [(p, q, z)] = (fsts (L.take (k + 1))).flatten) := Lib.hid (by rw [flat_snoc hx hg0, HYS.out])
    have HX : Hid (∀ (j : Nat) y, j < k + 1 → L[j]? = some y → y.1.length = 1) := Lib.hid (fun j y hj hy => by
     by_cases e : j = k
     ·
      subst e
      rw [hx] at hy; cases hy
      exact h1
     ·
      exact H.out j y (by omega) hy)
    have HXX : Hid ((bsT p).data.toList = p ∧ (bsT q).data.toList = q ∧ (bsT z).data.toList = z) := Lib.hid ⟨by simp, by simp, by simp⟩
    rw [h1] at c0
    generalize bsT p = P at *
    generalize bsT q = Q at *
    generalize bsT z = Z at *
    clear hx hmx hgx hsm hsc hsa hscell h1 hg0 H HYES HNO
    go_wp2_with (first | (at_builtin; refine wpList_append_own _ rfl _ _ 39 rfl w1.heap.size 46 i0 _ 3 48 Tryz.underlying39 hi hz0 hz1 hz2' rfl (by decide) _ _ _ rfl (World.ownsRow.alloc HOU.out.2 _) ⟨wo.heap.size, 0, none⟩ 1 1 [.string P, .string Q, .string Z] rfl rfl ?c1 ?c2 ?c3 ?c4 ?c5 ?_))
    case c2 => exact ⟨rfl, rfl, rfl⟩
    case c3 => rw [HFL.out]; unfold maxLen; omega
    case c4 => rw [HFL.out]; omega
    case c5 => omega
    intro v' w7 hown' hgrow _
    have HO7 : Hid (OwnQ w7 w1.heap.size v' (ys ++ [(p, q, z)])) := Lib.hid (OwnQ.app (x := (p, q, z)) HXX.out.1 HXX.out.2.1 HXX.out.2.2 (by simpa using hown'))
    have HB7 : Hid (Below w1.heap.size w1 w7) := Lib.hid (OwnV.below HBX.out HOU.out hgrow (Nat.le_refl _) HBX.out.size)
    have HL7 : Hid ((ys ++ [(p, q, z)]).length = k + 1) := Lib.hid (by rw [List.length_append, HFL.out]; rfl)
    clear hown' hgrow
    go_wp2
    go_roundw
    case rel => exact ⟨k + 1, _, by omega, by go_num, HX, HF2, HL7, HO7, HB7⟩
    case measure => simp [intOf]; omega
   ·
    have G := Lib.hid (HNO.out _ hmx h1)
    generalize g0.length = gn at *
    clear hx hmx hgx hsa hscell H HYES HNO HOU
    go_wp2
    go_ret2
    exact G.out _ HB.out
  ·
   obtain rfl : k = n := by omega
   have G := Lib.hid (HYES.out (fun x hx => by
    obtain ⟨j, hj⟩ := List.mem_iff_getElem?.1 hx
    exact H.out j x (by have := (List.getElem?_eq_some_iff.1 hj).1; rw [HN.out] at this; exact this) hj))
   have HFE : Hid (L.take k = L) := Lib.hid (List.take_of_length_le (by rw [HN.out]; omega))
   clear hlt H HYES HNO
   go_wp2
   go_ret2
   exact G.out _ _ (OwnV.mono (by have := HOU.out; rw [HYS.out, HFE.out] at this; exact this) hsz1) HB.out
end
section
open Go.RowKit
theorem text_ref8 (v : Value) (f : List Fld) (hn : f.length ≤ 20000) (hs : ∀ x ∈ f, x.1.length ≤ 100000) (n : ByteArray) (hns : n.size ≤ 100000) (w : World) (h : HoldR 2 w v (f.map rowF)) : Calls Tryz.prog 31 #[v, .string n] w fun e w' => e = .returned (.string ⟨(fT f n.data.toList).toArray⟩) ∧ w' = w := by
 have C := get_ref v f hn hs n hns w h
 unfold GetPost at C
 rw [show (getF f n.data.toList).1 = fT f n.data.toList from rfl] at C
 obtain ⟨a, c, b, o, e, _⟩ := h
 subst e
 generalize (getF f n.data.toList).2 = q at *
 generalize (f.map rowF).length = m at *
 generalize fT f n.data.toList = T at *
 go_enter Tryz.func31, Tryz.ntmps31
 go_wp2_with (go_at_call 50; (with_reducible refine C.mono ?_); rintro e w1 ⟨rfl, hw⟩; subst hw)
 go_ret
 exact ⟨rfl, rfl⟩
theorem words_refO (s : ByteArray) (hs : s.size ≤ 100000) (w : World) :
  Calls Tryz.prog 35 #[.string s] w fun e w' => ∃ v, e = .returned v ∧ OwnT w' w.heap.size v (wordsL s.data.toList) ∧ Below w.heap.size w w' := by
 obtain ⟨i0, hi, hz0, hz1, hz2⟩ := info_parts infoT
 have C := fun w => split_ref6 s hs 32 w
 have hln := spl_len 32 s.data.toList
 rw [← sizeOf] at hln
 unfold wordsL
 generalize spl 32 s.data.toList = ls at *
 generalize hP : (fun x : Bs => decide (x ≠ [])) = P at *
 go_enter Tryz.func35, Tryz.ntmps35
 go_wp2_with (first | (go_at_call 36; refine (C _).mono ?_; rintro e w1 ⟨v1, rfl, ho, hb⟩; obtain ⟨a, c, b, o, rfl, hc, ha, hcell⟩ := ho.holds; have HB1 := Lib.hid hb; clear ho hb; refine Hid.out ?_))
 refine Lib.hid ?_
 have hsz1 := HB1.out.size
 have HL := Lib.hid hcell
 generalize hN : ls.length = n at *
 clear hcell C
 go_wp2
 go_loopw [3, 5] (fun u i wr => ∃ k : Nat, k ≤ n ∧ i = .int .i64 k ∧ Hid (OwnT wr w1.heap.size u ((ls.take k).filter P)) ∧ Hid (Below w1.heap.size w1 wr)) (fun _ i _ => n - (intOf i).toNat)
 case atStart => exact ⟨0, by omega, rfl, Lib.hid (by simpa using OwnT.nil _ _), Lib.hid (Below.refl _ _)⟩
 case round =>
  obtain ⟨k, hk, rfl, HO, HB⟩ := hrel
  have hsz := HB.out.size
  by_cases hlt : k < n
  ·
   obtain ⟨rfl, hbw⟩ := ha (by omega)
   obtain ⟨x, hx, hcx⟩ : ∃ x : ByteArray, x.data.toList = ls[k] ∧ wr.cell? ⟨b, o + k, none⟩ = some (.string x) := ⟨⟨(ls[k]).toArray⟩, by simp, (HB.out.cell (p := ⟨b, o + k, none⟩) hbw).trans (HL.out k _ (List.getElem?_eq_getElem (by omega)))⟩
   have hlen : ((ls.take k).filter P).length ≤ k := Nat.le_trans (List.length_filter_le _ _) (List.length_take_le _ _)
   have hnx : (ls.take (k + 1)).filter P = (ls.take k).filter P ++ (if P ls[k] = true then [ls[k]] else []) := by
    rw [List.take_add_one, List.getElem?_eq_getElem (by omega), List.filter_append]
    congr 1
    by_cases hp : P ls[k] = true <;> simp [hp]
   have he := emptyT x
   have hsx := sizeOf x
   by_cases h0 : x.size = 0
   ·
    rw [decide_eq_true h0] at he
    have hpk : P ls[k] = false := by rw [← hP, ← hx]; simp [List.eq_nil_of_length_eq_zero (hsx.symm.trans h0)]
    rw [hpk, if_neg (by simp), List.append_nil] at hnx
    have HO' : Hid (OwnT wr w1.heap.size _ ((ls.take (k + 1)).filter P)) := Lib.hid (by rw [hnx]; exact HO.out)
    clear hnx hpk hx hsx h0
    go_wp2
    go_roundw
    case rel => exact ⟨k + 1, by omega, by go_num, HO', HB⟩
    case measure => simp [intOf]; omega
   ·
    rw [decide_eq_false h0] at he
    have hpk : P ls[k] = true := by
     rw [← hP, ← hx]
     simp only [ne_eq, decide_eq_true_eq]
     intro g; rw [g] at hsx; exact h0 hsx
    rw [hpk, if_pos rfl, ← hx] at hnx
    have HE := Lib.hid hnx
    clear hnx hpk hx hsx h0
    go_wp2_with (first | (at_builtin; refine wpList_append_own _ rfl _ _ 40 rfl w1.heap.size 9 i0 (.string ⟨#[]⟩) 1 16 Tryz.underlying40 hi hz0 hz1 hz2 rfl (by decide) _ _ _ rfl (World.ownsRow.alloc HO.out _) ⟨wr.heap.size, 0, none⟩ 1 1 [.string x] rfl rfl ?c1 ?c2 ?c3 ?c4 ?c5 ?_))
    case c2 => rfl
    case c3 => unfold maxLen; omega
    case c4 => omega
    case c5 => omega
    ·
     intro v' w2 hown' hgrow _
     have HO' : Hid (OwnT w2 w1.heap.size v' ((ls.take (k + 1)).filter P)) := Lib.hid (by rw [HE.out]; exact OwnT.app rfl hown')
     have HB' : Hid (Below w1.heap.size w1 w2) := Lib.hid (belowG HB.out HO.out hgrow (Nat.le_refl _) hsz)
     clear hown' hgrow
     go_wp2
     go_roundw
     case rel => exact ⟨k + 1, by omega, by go_num, HO', HB'⟩
     case measure => simp [intOf]; omega
  ·
   obtain rfl : k = n := by omega
   have HF : Hid (OwnT wr w.heap.size _ (ls.filter P)) := Lib.hid (by have := HO.out; rw [List.take_of_length_le (by omega)] at this; exact this.mono hsz1)
   clear hlt ha
   go_wp2
   go_ret
   exact ⟨_, rfl, HF.out, HB1.out.trans (HB.out.mono hsz1)⟩
end
section
open Go.RowKit Go.Shelf
theorem OwnRec.setU {w w' : World} {B b : Nat} {x : Uv} (h : OwnRec w B x) (hg : w.grownBy w' (some b)) (hb : b < B) : OwnRec w' B x :=
 ⟨OwnGs.setU h.dp hg hb, OwnV.setU h.cn hg hb, OwnT.setU h.rp hg hb, OwnV.setU h.cf hg hb, OwnT.setU h.pd hg hb, OwnT.setU h.aw hg hb⟩
structure PS (wr W : World) (x : Uv) : Prop where
 hx : W.heap[wr.heap.size]? = some (.cells (cellsU x).toArray 43 (0, 0))
 b : Below wr.heap.size wr W
 o : OwnRec W (wr.heap.size + 1) x
theorem PS.lt {wr W : World} {x : Uv} (h : PS wr W x) : wr.heap.size < W.heap.size := lt_heapU h.hx
theorem PS.on {wr W W' : World} {x : Uv} (h : PS wr W x) (hb : Below W.heap.size W W') : PS wr W' x :=
 ⟨(hb.block _ h.lt).trans h.hx, h.b.trans (hb.mono h.b.size), h.o.on hb⟩
theorem PS.new (wr : World) (nm vr : Bs) (st : Int) : PS wr (wr.alloc (.cells #[.string ⟨nm.toArray⟩, .string ⟨vr.toArray⟩, .int .i64 st, .slice none 0 0, .slice none 0 0, .slice none 0 0, .slice none 0 0, .slice none 0 0, .slice none 0 0] 43)) ⟨nm, vr, st, [], [], [], [], [], [], .slice none 0 0, .slice none 0 0, .slice none 0 0, .slice none 0 0, .slice none 0 0, .slice none 0 0⟩ :=
 ⟨heap_alloc_new wr _, (Below.refl _ _).alloc (Nat.le_refl _) _, ⟨OwnGs.nil _ _, OwnV.nil _ _ _ _, OwnT.nil _ _, OwnV.nil _ _ _ _, OwnT.nil _ _, OwnT.nil _ _⟩⟩
theorem PS.s3 {wr W : World} {nm vr : Bs} {st : Int} {dp : List Gv} {cn : List Rl} {rp pd aw : List Bs} {cf : List (Bs × Bs)} {v3 v4 v5 v6 v7 v8 : Value} (h : PS wr W ⟨nm, vr, st, dp, cn, rp, cf, pd, aw, v3, v4, v5, v6, v7, v8⟩) {D : List Gv} {v : Value} (ho : OwnGs W (wr.heap.size + 1) v D) : PS wr (W.setCell ⟨wr.heap.size, 3, none⟩ v) ⟨nm, vr, st, D, cn, rp, cf, pd, aw, v, v4, v5, v6, v7, v8⟩ := by
 have hg := grownSetU W ⟨wr.heap.size, 3, none⟩ v
 have o := h.o.setU hg (Nat.lt_succ_self _)
 exact ⟨heap_setU v h.hx, h.b.setCell (p := ⟨wr.heap.size, 3, none⟩) (Nat.le_refl _) v, ⟨OwnGs.setU ho hg (Nat.lt_succ_self _), o.cn, o.rp, o.cf, o.pd, o.aw⟩⟩
theorem PS.s4 {wr W : World} {nm vr : Bs} {st : Int} {dp : List Gv} {cn : List Rl} {rp pd aw : List Bs} {cf : List (Bs × Bs)} {v3 v4 v5 v6 v7 v8 : Value} (h : PS wr W ⟨nm, vr, st, dp, cn, rp, cf, pd, aw, v3, v4, v5, v6, v7, v8⟩) {C : List Rl} {v : Value} (ho : OwnQ W (wr.heap.size + 1) v C) : PS wr (W.setCell ⟨wr.heap.size, 4, none⟩ v) ⟨nm, vr, st, dp, C, rp, cf, pd, aw, v3, v, v5, v6, v7, v8⟩ := by
 have hg := grownSetU W ⟨wr.heap.size, 4, none⟩ v
 have o := h.o.setU hg (Nat.lt_succ_self _)
 exact ⟨heap_setU v h.hx, h.b.setCell (p := ⟨wr.heap.size, 4, none⟩) (Nat.le_refl _) v, ⟨o.dp, OwnV.setU ho hg (Nat.lt_succ_self _), o.rp, o.cf, o.pd, o.aw⟩⟩
theorem PS.s5 {wr W : World} {nm vr : Bs} {st : Int} {dp : List Gv} {cn : List Rl} {rp pd aw : List Bs} {cf : List (Bs × Bs)} {v3 v4 v5 v6 v7 v8 : Value} (h : PS wr W ⟨nm, vr, st, dp, cn, rp, cf, pd, aw, v3, v4, v5, v6, v7, v8⟩) {C : List Bs} {v : Value} (ho : OwnT W (wr.heap.size + 1) v C) : PS wr (W.setCell ⟨wr.heap.size, 5, none⟩ v) ⟨nm, vr, st, dp, cn, C, cf, pd, aw, v3, v4, v, v6, v7, v8⟩ := by
 have hg := grownSetU W ⟨wr.heap.size, 5, none⟩ v
 have o := h.o.setU hg (Nat.lt_succ_self _)
 exact ⟨heap_setU v h.hx, h.b.setCell (p := ⟨wr.heap.size, 5, none⟩) (Nat.le_refl _) v, ⟨o.dp, o.cn, OwnT.setU ho hg (Nat.lt_succ_self _), o.cf, o.pd, o.aw⟩⟩
theorem PS.s7 {wr W : World} {nm vr : Bs} {st : Int} {dp : List Gv} {cn : List Rl} {rp pd aw : List Bs} {cf : List (Bs × Bs)} {v3 v4 v5 v6 v7 v8 : Value} (h : PS wr W ⟨nm, vr, st, dp, cn, rp, cf, pd, aw, v3, v4, v5, v6, v7, v8⟩) {C : List Bs} {v : Value} (ho : OwnT W (wr.heap.size + 1) v C) : PS wr (W.setCell ⟨wr.heap.size, 7, none⟩ v) ⟨nm, vr, st, dp, cn, rp, cf, C, aw, v3, v4, v5, v6, v, v8⟩ := by
 have hg := grownSetU W ⟨wr.heap.size, 7, none⟩ v
 have o := h.o.setU hg (Nat.lt_succ_self _)
 exact ⟨heap_setU v h.hx, h.b.setCell (p := ⟨wr.heap.size, 7, none⟩) (Nat.le_refl _) v, ⟨o.dp, o.cn, o.rp, o.cf, OwnT.setU ho hg (Nat.lt_succ_self _), o.aw⟩⟩
theorem PS.s8 {wr W : World} {nm vr : Bs} {st : Int} {dp : List Gv} {cn : List Rl} {rp pd aw : List Bs} {cf : List (Bs × Bs)} {v3 v4 v5 v6 v7 v8 : Value} (h : PS wr W ⟨nm, vr, st, dp, cn, rp, cf, pd, aw, v3, v4, v5, v6, v7, v8⟩) {C : List Bs} {v : Value} (ho : OwnT W (wr.heap.size + 1) v C) : PS wr (W.setCell ⟨wr.heap.size, 8, none⟩ v) ⟨nm, vr, st, dp, cn, rp, cf, pd, C, v3, v4, v5, v6, v7, v⟩ := by
 have hg := grownSetU W ⟨wr.heap.size, 8, none⟩ v
 have o := h.o.setU hg (Nat.lt_succ_self _)
 exact ⟨heap_setU v h.hx, h.b.setCell (p := ⟨wr.heap.size, 8, none⟩) (Nat.le_refl _) v, ⟨o.dp, o.cn, o.rp, o.cf, o.pd, OwnT.setU ho hg (Nat.lt_succ_self _)⟩⟩
theorem PS.app {wr W w7 : World} {ob : Obj} {nm vr : Bs} {st : Int} {dp : List Gv} {cn : List Rl} {rp pd aw : List Bs} {CF : List (Bs × Bs)} {v3 v4 v5 v6 v7 v8 v' : Value} {c : Bs × Bs} (h : PS wr W ⟨nm, vr, st, dp, cn, rp, CF, pd, aw, v3, v4, v5, v6, v7, v8⟩) (hown : w7.ownsRow (wr.heap.size + 1) 48 2 v' ((CF.map cellsW2).length + 1) ((CF.map cellsW2).flatten ++ cellsW2 c)) (hg : (W.alloc ob).grownBy w7 v6.ownBlock) : PS wr (w7.setCell ⟨wr.heap.size, 6, none⟩ v') ⟨nm, vr, st, dp, cn, rp, CF ++ [c], pd, aw, v3, v4, v5, v', v7, v8⟩ := by
 have hlt := h.lt
 have hcf := h.o.cf
 have hx7 := (hg.block wr.heap.size (by simp; omega) (fun e => by have := (World.ownsRow.lt hcf.2 _ e.symm).1; omega)).trans ((((Below.refl W.heap.size W).alloc (Nat.le_refl _) ob).block _ hlt).trans h.hx)
 have hb7 : Below wr.heap.size wr w7 := (h.b.alloc h.b.size ob).grown hg (by simp; omega) (fun j hj => by have := (World.ownsRow.lt hcf.2 j hj).1; omega)
 have hgs := grownSetU w7 ⟨wr.heap.size, 6, none⟩ v'
 have hl := Nat.lt_succ_self wr.heap.size
 refine ⟨heap_setU v' hx7, hb7.setCell (p := ⟨wr.heap.size, 6, none⟩) (Nat.le_refl _) v', ⟨?_, ?_, ?_, ?_, ?_, ?_⟩⟩
 ·
  exact OwnGs.setU ⟨⟨h.o.dp.1.1, World.ownsRow.kept (World.ownsRow.alloc h.o.dp.1.2 ob) hg (kinds_apart h.o.dp.1.2 hcf.2 (by decide))⟩, fun y hy => ⟨(h.o.dp.2 y hy).1, World.ownsRow.kept (World.ownsRow.alloc (h.o.dp.2 y hy).2 ob) hg (kinds_apart (h.o.dp.2 y hy).2 hcf.2 (by decide))⟩⟩ hgs hl
 ·
  exact OwnV.setU ⟨h.o.cn.1, World.ownsRow.kept (World.ownsRow.alloc h.o.cn.2 ob) hg (kinds_apart h.o.cn.2 hcf.2 (by decide))⟩ hgs hl
 ·
  exact OwnT.setU (World.ownsRow.kept (World.ownsRow.alloc h.o.rp ob) hg (kinds_apart h.o.rp hcf.2 (by decide))) hgs hl
 ·
  refine OwnV.setU (b := wr.heap.size) ?_ hgs hl
  have := OwnV.app hcf.1 rfl hown
  rw [show (CF ++ [c]).map cellsW2 = CF.map cellsW2 ++ [cellsW2 c] by rw [List.map_append]; rfl]
  exact this
 ·
  exact OwnT.setU (World.ownsRow.kept (World.ownsRow.alloc h.o.pd ob) hg (kinds_apart h.o.pd hcf.2 (by decide))) hgs hl
 ·
  exact OwnT.setU (World.ownsRow.kept (World.ownsRow.alloc h.o.aw ob) hg (kinds_apart h.o.aw hcf.2 (by decide))) hgs hl
theorem PS.keepT {wr W w7 : World} {ob : Obj} {x : Uv} {v v' : Value} {l : List Bs} (h : PS wr W x) (hl : OwnT W (wr.heap.size + 1) v l) (hg : (W.alloc ob).grownBy w7 x.fv.ownBlock) : OwnT (w7.setCell ⟨wr.heap.size, 6, none⟩ v') (wr.heap.size + 1) v l :=
 OwnT.setU (World.ownsRow.kept (World.ownsRow.alloc hl ob) hg (kinds_apart hl h.o.cf.2 (by decide))) (grownSetU w7 ⟨wr.heap.size, 6, none⟩ v') (Nat.lt_succ_self _)
theorem PS.at7 {wr W w7 : World} {ob : Obj} {x : Uv} (h : PS wr W x) (hg : (W.alloc ob).grownBy w7 x.fv.ownBlock) : w7.heap[wr.heap.size]? = some (.cells (cellsU x).toArray 43 (0, 0)) := by
 have hlt := h.lt
 exact (hg.block wr.heap.size (by simp; omega) (fun e => by have := (World.ownsRow.lt h.o.cf.2 _ e.symm).1; omega)).trans ((((Below.refl W.heap.size W).alloc (Nat.le_refl _) ob).block _ hlt).trans h.hx)
theorem PS.cell {wr W : World} {x : Uv} (h : PS wr W x) : (W.cell? ⟨wr.heap.size, 0, none⟩ = some (.string ⟨x.nm.toArray⟩) ∧ W.cell? ⟨wr.heap.size, 1, none⟩ = some (.string ⟨x.vr.toArray⟩) ∧ W.cell? ⟨wr.heap.size, 2, none⟩ = some (.int .i64 x.st) ∧ W.cell? ⟨wr.heap.size, 3, none⟩ = some x.dv ∧ W.cell? ⟨wr.heap.size, 4, none⟩ = some x.cv ∧ W.cell? ⟨wr.heap.size, 5, none⟩ = some x.rv ∧ W.cell? ⟨wr.heap.size, 6, none⟩ = some x.fv ∧ W.cell? ⟨wr.heap.size, 7, none⟩ = some x.pv ∧ W.cell? ⟨wr.heap.size, 8, none⟩ = some x.av) :=
 ⟨cell_heap (i := 0) h.hx rfl, cell_heap (i := 1) h.hx rfl, cell_heap (i := 2) h.hx rfl, cell_heap (i := 3) h.hx rfl, cell_heap (i := 4) h.hx rfl, cell_heap (i := 5) h.hx rfl, cell_heap (i := 6) h.hx rfl, cell_heap (i := 7) h.hx rfl, cell_heap (i := 8) h.hx rfl⟩
end
end Go.Proofs.YtkbkaeefdhkgdaaGreatDoor
