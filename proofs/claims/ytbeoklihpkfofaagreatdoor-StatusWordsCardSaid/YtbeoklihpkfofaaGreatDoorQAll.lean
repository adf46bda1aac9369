/-
  Lists of relations as texts: joined, groupText; what each returns; nothing old turns. groupText, allRight, full, List of relations: what each returns; nothing old turns. Condition: LaidV. All of groups of relations: what it returns; nothing old turns. Condition: LaidV.
-/
import Derived.Test.YtbeoklihpkfofaaGreatDoorQPRight
import Derived.Test.YtbeoklihpkfofaaGreatDoorUHold
import Derived.Test.YtbeoklihpkfofaaGreatDoorQGroup2
import Derived.Test.YtbeoklihpkfofaaGreatDoorShelf
namespace Go.Proofs.YtbeoklihpkfofaaGreatDoor
open Go.RowKit
theorem joinM_len (sep : Bs) (N : Nat) : ∀ (l : List Bs), (∀ p ∈ l, p.length ≤ N) → (Lib.join l sep).length ≤ l.length * (N + sep.length)
  | [], _ => by simp [Lib.join, List.intercalate]
  | [p], h => by have := h p (by simp); rw [Lib.join_one]; simp; omega
  | p :: q :: ps, h => by
    have h1 := joinM_len sep N (q :: ps) (fun x hx => h x (List.mem_cons_of_mem _ hx))
    have h2 := h p (by simp)
    rw [join_two, List.length_append, List.length_append, List.length_cons (a := p), Nat.add_mul]
    omega
theorem joinM_any (sep : ByteArray) (hsep : sep.size ≤ 10) (v : Value) (ls : List Bs) (hl : ls.length ≤ 90000) (hs : ∀ p ∈ ls, p.length ≤ 10000000) (w : World) (h : HoldT w v ls) :
    Calls Tryz.prog 95 #[v, .string sep] w fun e w' => e = .returned (.string (bsT (Lib.join ls sep.data.toList))) ∧ Below w.heap.size w w' := by
  obtain ⟨a, c, b, o, rfl, hc, ha, hcell⟩ := h
  by_cases h0 : ls = []
  · subst h0
    exact (Tryz.strings_Join_none a c sep w).mono (fun _ _ hp => ⟨hp.1, by rw [hp.2]; exact Below.refl _ _⟩)
  have h1 : 0 < ls.length := List.length_pos_iff.2 h0
  obtain ⟨rfl, hb⟩ := ha h1
  have hm : (ls.map fun l => ByteArray.mk l.toArray).map (fun x => x.data.toList) = ls := by
    rw [List.map_map]; conv => rhs; rw [← List.map_id ls]
    exact List.map_congr_left (fun l _ => by simp)
  have hj := joinM_len sep.data.toList 10000000 ls hs
  rw [← sizeOf] at hj
  have hjj : ls.length * (10000000 + sep.size) ≤ 90000 * 10000010 := Nat.mul_le_mul hl (by omega)
  have := Tryz.strings_Join b o c (ls.map fun l => ByteArray.mk l.toArray) sep w (fun j x hx => by
    rw [List.getElem?_map] at hx
    cases hg : ls[j]? with
    | none => rw [hg] at hx; cases hx
    | some l => rw [hg] at hx; obtain rfl := Option.some.inj hx; exact hcell j l hg) hb (by rw [List.length_map]; omega) (by rw [List.length_map]; exact hc) (by rw [hm]; omega)
  rw [hm, List.length_map] at this
  exact this
theorem map_snocQ {α β : Type} (f : α → β) {l : List α} {k : Nat} {x : α} (h : l[k]? = some x) : (l.take (k + 1)).map f = (l.take k).map f ++ [f x] := by
  rw [List.take_add_one, h, List.map_append]; rfl
theorem below_app {B : Nat} {w0 w w' : World} {o : Obj} {base : Nat} {v : Value} {ls : List Bs} (h : Below B w0 w) (hown : OwnT w base v ls) (hg : (w.alloc o).grownBy w' v.ownBlock) (hB : B ≤ base) (hBw : B ≤ w.heap.size) : Below B w0 w' := belowG h hown hg hB hBw
/-- Small: each part of at most 4000 bytes. -/
def SmallQ (l : List Rl) : Prop := ∀ x ∈ l, x.1.length ≤ 4000 ∧ x.2.1.length ≤ 4000 ∧ x.2.2.length ≤ 4000
theorem textR_len {x : Rl} (h : x.1.length ≤ 4000 ∧ x.2.1.length ≤ 4000 ∧ x.2.2.length ≤ 4000) : (textR x).length ≤ 12004 := by
  unfold textR
  split
  · omega
  · simp; omega
theorem textG_len {g : List Rl} (h : SmallQ g) (hl : g.length ≤ 500) : (textG g).length ≤ 7000000 := by
  have := joinM_len sepG 12004 (g.map textR) (fun p hp => by obtain ⟨x, hx, rfl⟩ := List.mem_map.1 hp; exact textR_len (h x hx))
  rw [List.length_map] at this
  have h2 : g.length * (12004 + sepG.length) ≤ 500 * 12007 := Nat.mul_le_mul_right _ hl
  unfold textG; omega
set_option maxRecDepth 100000 in
set_option maxHeartbeats 8000000 in
theorem joinedR_any (sep : ByteArray) (hsep : sep.size ≤ 10) (v : Value) (l : List Rl) (hl : l.length ≤ 90000) (hs : SmallQ l) (w : World) (h : HoldQ w v l) :
    Calls Tryz.prog 134 #[v, .string sep, .func (.func 135) #[] #[]] w fun e w' => e = .returned (.string (bsT (Lib.join (l.map textR) sep.data.toList))) ∧ Below w.heap.size w w' := by
  obtain ⟨a, c, b, o, rfl, hc, ha, hcell⟩ := h.parts
  obtain ⟨i0, hi, hz0, hz1, hz2'⟩ := info_parts infoT
  have HC := Lib.hid hcell
  have HS := Lib.hid hs
  have HSEP := Lib.hid hsep
  have EN : ∀ args w, (callFunc 135 args).run Tryz.prog w = .ok (.enter 135 args) w := enters_of Tryz.func135 (by kernel_rfl) rfl
  obtain ⟨R, hR⟩ : ∃ R, bsT (Lib.join (l.map textR) sep.data.toList) = R := ⟨_, rfl⟩
  rw [hR]
  have HR := Lib.hid hR
  obtain ⟨n, hN⟩ : ∃ n, l.length = n := ⟨_, rfl⟩
  rw [hN] at hc ha hl ⊢
  have HN := Lib.hid hN
  clear hcell hN h hs hsep hR
  go_enter Tryz.func134, Tryz.ntmps134
  go_wp2
  go_loopw [7, 12] (fun u i wr => ∃ k : Nat, k ≤ n ∧ i = .int .i64 k ∧ Hid (OwnT wr w.heap.size u ((l.take k).map textR)) ∧ Hid (Below w.heap.size w wr)) (fun _ i _ => n - (intOf i).toNat)
  case atStart => exact ⟨0, by omega, rfl, Lib.hid (OwnT.nil _ _), Lib.hid (Below.refl _ _)⟩
  case round =>
    obtain ⟨k, hk, rfl, HO, HB⟩ := hrel
    have hsz := HB.out.size
    by_cases hlt : k < n
    · obtain ⟨rfl, hbw⟩ := ha (by omega)
      obtain ⟨⟨p, q, z⟩, hx⟩ : ∃ x, l[k]? = some x := ⟨_, List.getElem?_eq_getElem (by rw [HN.out]; exact hlt)⟩
      obtain ⟨c0, c1, c2⟩ := HC.out k _ hx
      have hsm := HS.out _ (List.mem_of_getElem? hx)
      dsimp only at c0 c1 c2 hsm
      rw [← HB.out.cell (p := ⟨b, o + k * 3, none⟩) hbw] at c0
      rw [← HB.out.cell (p := ⟨b, o + k * 3 + 1, none⟩) hbw] at c1
      rw [← HB.out.cell (p := ⟨b, o + k * 3 + 2, none⟩) hbw] at c2
      have TX := fun W => textR_any (bsT p) (bsT q) (bsT z) (by rw [sizeOf, bytesOf]; omega) (by rw [sizeOf, bytesOf]; omega) (by rw [sizeOf, bytesOf]; omega) W
      rw [bytesOf, bytesOf, bytesOf] at TX
      have HSN := Lib.hid (map_snocQ textR hx)
      obtain ⟨T, hT⟩ : ∃ T : ByteArray, (⟨(textR (p, q, z)).toArray⟩ : ByteArray) = T := ⟨_, rfl⟩
      have HT : Hid (T.data.toList = textR (p, q, z)) := Lib.hid (by rw [← hT])
      rw [hT] at TX
      have hlen : ((l.take k).map textR).length = k := by rw [List.length_map, List.length_take, HN.out]; omega
      obtain ⟨L, hL⟩ : ∃ L, (l.take k).map textR = L := ⟨_, rfl⟩
      rw [hL] at HO hlen HSN
      have HLEN := Lib.hid hlen
      generalize bsT p = P at *
      generalize bsT q = Q at *
      generalize bsT z = Z at *
      have B0 := (Below.refl wr.heap.size wr).alloc (Nat.le_refl _) (.cells #[.string P, .string Q, .string Z] 57)
      have HB0 := Lib.hid (HB.out.trans (B0.mono hsz))
      have HO0 : Hid (OwnT (wr.alloc (.cells #[.string P, .string Q, .string Z] 57)) w.heap.size u7 L) := Lib.hid (World.ownsRow.alloc HO.out _)
      clear hx hT hlen hsm B0 HO HB hL
      go_wp2_with (first
        | (go_at_fn 135; (with_reducible refine (TX _).mono ?_); rintro e w2 ⟨rfl, hb⟩; have HB2 := Lib.hid (HB0.out.trans (hb.mono HB0.out.size)); have HO2 : Hid (OwnT w2 w.heap.size u7 L) := Lib.hid (World.ownsRow.kept HO0.out (grownV hb) (by cases u7.ownBlock <;> simp)); have hz2 := HB2.out.size; clear hb TX)
        | (at_builtin; refine wpList_append_own _ rfl _ _ 29 rfl w.heap.size 9 i0 _ 1 16 Tryz.underlying29 hi hz0 hz1 hz2' rfl (by decide) _ _ _ rfl (World.ownsRow.alloc HO2.out _) ⟨w2.heap.size, 0, none⟩ 1 1 [.string T] rfl rfl (by intro j u hj; match j, hj with | 0, hj => simp at hj; subst hj; simp [Addr.add]) (by intro u hu; simp at hu; subst hu; rfl) (by rw [HLEN.out]; unfold maxLen; omega) (by rw [HLEN.out]; omega) (by simp; omega) ?_))
      intro v' w3 hown' hgrow _
      have HO3 : Hid (OwnT w3 w.heap.size v' ((l.take (k + 1)).map textR)) := Lib.hid (by rw [HSN.out]; exact OwnT.app HT.out hown')
      have HB3 : Hid (Below w.heap.size w w3) := Lib.hid (belowG HB2.out HO2.out hgrow (Nat.le_refl _) hz2)
      clear hown' hgrow
      go_wp2
      go_roundw
      case rel => exact ⟨k + 1, by omega, by go_num, HO3, HB3⟩
      case measure => simp [intOf]; omega
    · obtain rfl : k = n := by omega
      have HE : Hid ((l.take k).map textR = l.map textR) := Lib.hid (by rw [List.take_of_length_le (by rw [HN.out]; omega)])
      have JN := joinM_any sep HSEP.out _ _ (by rw [List.length_map, List.length_take]; omega) (fun p hp => by
        obtain ⟨x, hx, rfl⟩ := List.mem_map.1 hp
        have := textR_len (HS.out x (List.mem_of_mem_take hx)); omega) wr HO.out.holds
      rw [HE.out, HR.out] at JN
      clear hlt
      go_wp2_with (go_at_call 95; (with_reducible refine JN.mono ?_); rintro e w2 ⟨rfl, hb⟩; have HB2 := Lib.hid (HB.out.trans (hb.mono hsz)); clear hb)
      go_ret
      exact ⟨rfl, HB2.out⟩
end Go.Proofs.YtbeoklihpkfofaaGreatDoor
namespace Go.Proofs.YtbeoklihpkfofaaGreatDoor
open Go.RowKit
set_option maxHeartbeats 4000000 in
theorem groupText_any (v : Value) (g : List Rl) (hl : g.length ≤ 90000) (hs : SmallQ g) (w : World) (h : HoldQ w v g) : Calls Tryz.prog 133 #[v] w fun e w' => e = .returned (.string (bsT (textG g))) ∧ Below w.heap.size w w' := by
  have J := joinedR_any ⟨#[32, 124, 32]⟩ (by decide) v g hl hs w h
  obtain ⟨R, hR⟩ : ∃ R, bsT (Lib.join (g.map textR) (ByteArray.mk #[32, 124, 32]).data.toList) = R := ⟨_, rfl⟩
  have HR : Hid (R = bsT (textG g)) := Lib.hid hR.symm
  rw [hR] at J
  obtain ⟨a, c, b, o, rfl, -⟩ := h.parts
  generalize g.length = n at *
  clear hR h hs hl
  go_enter Tryz.func133, Tryz.ntmps133
  go_wp2_with (go_at_call 134; (with_reducible refine J.mono ?_); rintro e w1 ⟨rfl, hb⟩; have HB := Lib.hid hb; clear hb)
  go_ret
  exact ⟨by rw [HR.out]; rfl, HB.out⟩
set_option maxHeartbeats 4000000 in
theorem allRight1_any (x : Rl) (h1 : x.1.length ≤ 4000 ∧ x.2.1.length ≤ 4000 ∧ x.2.2.length ≤ 4000) (w : World) (hL : LaidV w) : Calls Tryz.prog 172 #[aggQ x] w fun e w' => e = .returned (.bool (!rightR x)) ∧ Below w.heap.size w w' := by
  have R := fun W h => rightR_any (bsT x.1) (bsT x.2.1) (bsT x.2.2) (by rw [sizeOf, bytesOf]; omega) (by rw [sizeOf, bytesOf]; omega) W h
  rw [bytesOf, bytesOf, bytesOf] at R
  obtain ⟨p, q, z⟩ := x
  dsimp only at R ⊢
  unfold aggQ
  dsimp only
  generalize rightR (p, q, z) = r at *
  have HBA : Hid (∀ o, Below w.heap.size w (w.alloc o)) := Lib.hid (fun o => (Below.refl _ _).alloc (Nat.le_refl _) o)
  have HLA := Lib.hid (fun o => hL.on (HBA.out o))
  generalize bsT p = P at *
  generalize bsT q = Q at *
  generalize bsT z = Z at *
  clear hL h1
  go_enter Tryz.func172, Tryz.ntmps172
  go_wp2_with (go_at_call 173; (with_reducible refine (R _ (HLA.out _)).mono ?_); rintro e w1 ⟨rfl, hb⟩; have HB := Lib.hid ((HBA.out _).trans (hb.mono (HBA.out _).size)); clear hb)
  go_ret
  exact ⟨rfl, HB.out⟩
set_option maxHeartbeats 4000000 in
theorem allRight_any (v : Value) (l : List Rl) (hl : l.length ≤ 90000) (hs : SmallQ l) (w : World) (h : HoldQ w v l) (hL : LaidV w) : Calls Tryz.prog 131 #[v] w fun e w' => e = .returned (.bool (l.all rightR)) ∧ Below w.heap.size w w' := by
  have EN : ∀ args w, (callFunc 172 args).run Tryz.prog w = .ok (.enter 172 args) w := enters_of Tryz.func172 (by kernel_rfl) rfl
  have C := contQ_any 172 #[] EN (fun x => !rightR x) v l hl w h (fun W x hx hb => by
    have := allRight1_any x (hs x hx) W (hL.on hb)
    simpa using this)
  have HA : Hid (l.all rightR = !(l.any fun x => !rightR x)) := Lib.hid (by rw [List.not_any_eq_all_not]; simp)
  rw [HA.out]
  obtain ⟨a, c, b, o, rfl, -⟩ := h.parts
  generalize (l.any fun x => !rightR x) = r at *
  generalize l.length = n at *
  clear EN h hs hL hl
  go_enter Tryz.func131, Tryz.ntmps131
  go_wp2_with (go_at_call 171; (with_reducible refine C.mono ?_); rintro e w1 ⟨rfl, hb⟩; have HB := Lib.hid hb; clear hb)
  go_ret
  exact ⟨rfl, HB.out⟩
set_option maxHeartbeats 4000000 in
theorem fullQ_any (a : Option Addr) (n c : Nat) (hn : n ≤ 90000) (w : World) : Calls Tryz.prog 130 #[.slice a n c] w fun e w' => e = .returned (.bool (decide (64 < n))) ∧ Below w.heap.size w w' := by
  have e : decide (64 < n) = decide (64 < (n : Int)) := by congr 1; apply propext; omega
  rw [e]
  go_enter Tryz.func130, Tryz.ntmps130
  go_wp2
  go_ret
  exact ⟨rfl, Below.refl _ _⟩
def listE (l : List Rl) : Bs × Int := if 64 < l.length then ([], 22) else if l.all rightR = true then (textQ l, 0) else ([], 1)
def TwoP (x : Bs × Int) (w : World) (e : Ending) (w' : World) : Prop := e = .returned (.tuple #[.string (bsT x.1), .int .i64 x.2]) ∧ Below w.heap.size w w'
set_option maxHeartbeats 8000000 in
theorem listQ_any (v : Value) (l : List Rl) (hl : l.length ≤ 90000) (hs : SmallQ l) (w : World) (h : HoldQ w v l) (hL : LaidV w) : Calls Tryz.prog 77 #[v] w (TwoP (listE l) w) := by
  have AR := fun W hb => allRight_any v l hl hs W (HoldV.on h hb) (hL.on hb)
  have JN := fun W hb => joinedR_any ⟨#[44, 32]⟩ (by decide) v l hl hs W (HoldV.on h hb)
  obtain ⟨a, c, b, o, rfl, -⟩ := h.parts
  have FU := fun W => fullQ_any a l.length c hl W
  by_cases h64 : 64 < l.length
  · rw [decide_eq_true h64] at FU
    have HP : Hid (∀ w', Below w.heap.size w w' → TwoP (listE l) w (.returned (.tuple #[.string ⟨#[]⟩, .int .i64 22])) w') := Lib.hid (fun w' hb => ⟨by unfold listE; rw [if_pos h64], hb⟩)
    generalize l.length = n at *
    clear h h64 AR JN hs hL hl
    go_enter Tryz.func77, Tryz.ntmps77
    go_wp2_with (go_at_call 130; (with_reducible refine (FU _).mono ?_); rintro e w1 ⟨rfl, hb⟩; have HB := Lib.hid hb; clear hb)
    go_ret2
    exact HP.out _ HB.out
  rw [decide_eq_false h64] at FU
  cases hr : l.all rightR
  · rw [hr] at AR
    have HP : Hid (∀ w', Below w.heap.size w w' → TwoP (listE l) w (.returned (.tuple #[.string ⟨#[]⟩, .int .i64 1])) w') := Lib.hid (fun w' hb => ⟨by unfold listE; rw [if_neg h64, hr]; rfl, hb⟩)
    generalize l.length = n at *
    clear h h64 JN hs hL hl hr
    go_enter Tryz.func77, Tryz.ntmps77
    go_wp2_with (first
      | (go_at_call 130; (with_reducible refine (FU _).mono ?_); rintro e w1 ⟨rfl, hb⟩; have HB := Lib.hid hb; clear hb)
      | (go_at_call 131; (with_reducible refine (AR _ HB.out).mono ?_); rintro e w2 ⟨rfl, hb⟩; have HB2 := Lib.hid (HB.out.trans (hb.mono HB.out.size)); clear hb))
    go_ret2
    exact HP.out _ HB2.out
  · rw [hr] at AR
    obtain ⟨R, hR⟩ : ∃ R, bsT (Lib.join (l.map textR) (ByteArray.mk #[44, 32]).data.toList) = R := ⟨_, rfl⟩
    rw [hR] at JN
    have HP : Hid (∀ w', Below w.heap.size w w' → TwoP (listE l) w (.returned (.tuple #[.string R, .int .i64 0])) w') := Lib.hid (fun w' hb => ⟨by unfold listE; rw [if_neg h64, hr, if_pos rfl, ← hR]; rfl, hb⟩)
    generalize l.length = n at *
    clear h h64 hs hL hl hr hR
    go_enter Tryz.func77, Tryz.ntmps77
    go_wp2_with (first
      | (go_at_call 130; (with_reducible refine (FU _).mono ?_); rintro e w1 ⟨rfl, hb⟩; have HB := Lib.hid hb; clear hb)
      | (go_at_call 131; (with_reducible refine (AR _ HB.out).mono ?_); rintro e w2 ⟨rfl, hb⟩; have HB2 := Lib.hid (HB.out.trans (hb.mono HB.out.size)); clear hb)
      | (go_at_call 134; (with_reducible refine (JN _ HB2.out).mono ?_); rintro e w3 ⟨rfl, hb⟩; have HB3 := Lib.hid (HB2.out.trans (hb.mono HB2.out.size)); clear hb))
    go_ret2
    exact HP.out _ HB3.out
end Go.Proofs.YtbeoklihpkfofaaGreatDoor
namespace Go.Proofs.YtbeoklihpkfofaaGreatDoor
open Go.RowKit
def SmallG (l : List Gv) : Prop := ∀ x ∈ l, SmallQ x.1 ∧ x.1.length ≤ 500
def gtx (x : Gv) : Bs := textG x.1
set_option maxRecDepth 100000 in
set_option maxHeartbeats 8000000 in
theorem joinedG_any (sep : ByteArray) (hsep : sep.size ≤ 10) (v : Value) (l : List Gv) (hl : l.length ≤ 90000) (hs : SmallG l) (w : World) (h : HoldGs w v l) :
    Calls Tryz.prog 132 #[v, .string sep, .func (.func 133) #[] #[]] w fun e w' => e = .returned (.string (bsT (Lib.join (l.map gtx) sep.data.toList))) ∧ Below w.heap.size w w' := by
  obtain ⟨a, c, b, o, rfl, hc, ha, hcell⟩ := h.parts
  obtain ⟨i0, hi, hz0, hz1, hz2'⟩ := info_parts infoT
  have HC := Lib.hid hcell
  have HG := Lib.hid h
  have HS := Lib.hid hs
  have HSEP := Lib.hid hsep
  have EN : ∀ args w, (callFunc 133 args).run Tryz.prog w = .ok (.enter 133 args) w := enters_of Tryz.func133 (by kernel_rfl) rfl
  obtain ⟨R, hR⟩ : ∃ R, bsT (Lib.join (l.map gtx) sep.data.toList) = R := ⟨_, rfl⟩
  rw [hR]
  have HR := Lib.hid hR
  obtain ⟨n, hN⟩ : ∃ n, l.length = n := ⟨_, rfl⟩
  rw [hN] at hc ha hl ⊢
  have HN := Lib.hid hN
  clear hcell hN h hs hsep hR
  go_enter Tryz.func132, Tryz.ntmps132
  go_wp2
  go_loopw [7, 12] (fun u i wr => ∃ k : Nat, k ≤ n ∧ i = .int .i64 k ∧ Hid (OwnT wr w.heap.size u ((l.take k).map gtx)) ∧ Hid (Below w.heap.size w wr)) (fun _ i _ => n - (intOf i).toNat)
  case atStart => exact ⟨0, by omega, rfl, Lib.hid (OwnT.nil _ _), Lib.hid (Below.refl _ _)⟩
  case round =>
    obtain ⟨k, hk, rfl, HO, HB⟩ := hrel
    have hsz := HB.out.size
    by_cases hlt : k < n
    · obtain ⟨rfl, hbw⟩ := ha (by omega)
      obtain ⟨⟨g0, sv⟩, hx⟩ : ∃ x, l[k]? = some x := ⟨_, List.getElem?_eq_getElem (by rw [HN.out]; exact hlt)⟩
      have hgx := HG.out.2 _ (List.mem_of_getElem? hx)
      have hsm := HS.out _ (List.mem_of_getElem? hx)
      have c0 := HC.out k _ hx
      dsimp only at c0 hsm hgx
      rw [← HB.out.cell (p := ⟨b, o + k, none⟩) hbw] at c0
      have TX := fun W (hW : Below wr.heap.size wr W) => groupText_any sv g0 (by omega) hsm.1 W (HoldV.on (HoldV.on hgx HB.out) hW)
      obtain ⟨sa, sc, -, -, hsv, -⟩ := hgx.parts
      subst hsv
      clear hgx
      have HSN := Lib.hid (map_snocQ gtx hx)
      obtain ⟨T, hT⟩ : ∃ T : ByteArray, bsT (textG g0) = T := ⟨_, rfl⟩
      have HT : Hid (T.data.toList = textG g0) := Lib.hid (by rw [← hT])
      rw [hT] at TX
      have hlen : ((l.take k).map gtx).length = k := by rw [List.length_map, List.length_take, HN.out]; omega
      obtain ⟨L, hL⟩ : ∃ L, (l.take k).map gtx = L := ⟨_, rfl⟩
      rw [hL] at HO hlen HSN
      have HLEN := Lib.hid hlen
      generalize g0.length = gn at *
      clear hx hT hlen hsm hL
      go_wp2_with (first
        | (go_at_fn 133; (with_reducible refine (TX _ (Below.refl _ _)).mono ?_); rintro e w2 ⟨rfl, hb⟩; have HB2 := Lib.hid (HB.out.trans (hb.mono hsz)); have HO2 : Hid (OwnT w2 w.heap.size u7 L) := Lib.hid (World.ownsRow.kept HO.out (grownV hb) (by cases u7.ownBlock <;> simp)); have hz2 := HB2.out.size; clear hb TX)
        | (at_builtin; refine wpList_append_own _ rfl _ _ 29 rfl w.heap.size 9 i0 _ 1 16 Tryz.underlying29 hi hz0 hz1 hz2' rfl (by decide) _ _ _ rfl (World.ownsRow.alloc HO2.out _) ⟨w2.heap.size, 0, none⟩ 1 1 [.string T] rfl rfl (by intro j u hj; match j, hj with | 0, hj => simp at hj; subst hj; simp [Addr.add]) (by intro u hu; simp at hu; subst hu; rfl) (by rw [HLEN.out]; unfold maxLen; omega) (by rw [HLEN.out]; omega) (by simp; omega) ?_))
      intro v' w3 hown' hgrow _
      have HO3 : Hid (OwnT w3 w.heap.size v' ((l.take (k + 1)).map gtx)) := Lib.hid (by rw [HSN.out]; exact OwnT.app HT.out hown')
      have HB3 : Hid (Below w.heap.size w w3) := Lib.hid (belowG HB2.out HO2.out hgrow (Nat.le_refl _) hz2)
      clear hown' hgrow
      go_wp2
      go_roundw
      case rel => exact ⟨k + 1, by omega, by go_num, HO3, HB3⟩
      case measure => simp [intOf]; omega
    · obtain rfl : k = n := by omega
      have HE : Hid ((l.take k).map gtx = l.map gtx) := Lib.hid (by rw [List.take_of_length_le (by rw [HN.out]; omega)])
      have JN := joinM_any sep HSEP.out _ _ (by rw [List.length_map, List.length_take]; omega) (fun p hp => by
        obtain ⟨x, hx, rfl⟩ := List.mem_map.1 hp
        have hh := HS.out x (List.mem_of_mem_take hx); have := textG_len hh.1 hh.2; unfold gtx; omega) wr HO.out.holds
      rw [HE.out, HR.out] at JN
      clear hlt
      go_wp2_with (go_at_call 95; (with_reducible refine JN.mono ?_); rintro e w2 ⟨rfl, hb⟩; have HB2 := Lib.hid (HB.out.trans (hb.mono hsz)); clear hb)
      go_ret
      exact ⟨rfl, HB2.out⟩
set_option maxHeartbeats 4000000 in
theorem fullG_any (a : Option Addr) (n c : Nat) (hn : n ≤ 90000) (w : World) : Calls Tryz.prog 128 #[.slice a n c] w fun e w' => e = .returned (.bool (decide (64 < n))) ∧ Below w.heap.size w w' := by
  have e : decide (64 < n) = decide (64 < (n : Int)) := by congr 1; apply propext; omega
  rw [e]
  go_enter Tryz.func128, Tryz.ntmps128
  go_wp2
  go_ret
  exact ⟨rfl, Below.refl _ _⟩
def longG (x : List Rl) : Bool := decide (64 < x.length)
def badG (x : List Rl) : Bool := decide (x.length = 0) || !x.all rightR
def allE (l : List (List Rl)) : Bs × Int := if decide (64 < l.length) || l.any longG then ([], 22) else if l.any badG then ([], 1) else (textA l, 0)
abbrev fsts (l : List Gv) : List (List Rl) := l.map (·.1)
theorem bad_hit {l : List Gv} {k : Nat} {x : Gv} (h : l[k]? = some x) (hb : badG x.1 = true) : (fsts l).any badG = true := List.any_eq_true.2 ⟨x.1, List.mem_map_of_mem (List.mem_of_getElem? h), hb⟩
theorem bad_miss {l : List Gv} (h : ∀ (j : Nat) y, l[j]? = some y → badG y.1 = false) : (fsts l).any badG = false := by
  rw [List.any_eq_false]
  intro g hg
  obtain ⟨x, hx, rfl⟩ := List.mem_map.1 hg
  obtain ⟨j, hj⟩ := List.mem_iff_getElem?.1 hx
  rw [h j x hj]; simp
set_option maxRecDepth 100000 in
set_option maxHeartbeats 16000000 in
theorem all_any (v : Value) (l : List Gv) (hl : l.length ≤ 500) (hs : SmallG l) (w : World) (h : HoldGs w v l) (hL : LaidV w) : Calls Tryz.prog 76 #[v] w (TwoP (allE (fsts l)) w) := by
  have EN : ∀ args w, (callFunc 130 args).run Tryz.prog w = .ok (.enter 130 args) w := enters_of Tryz.func130 (by kernel_rfl) rfl
  have CF := fun W hb => contG_any 130 #[] EN (fun x => longG x.1) v l (by omega) W (h.on hb) (fun W' x hx _ => by
    obtain ⟨a, c, -, -, e, -⟩ := (h.2 x hx).parts
    have hh := hs x hx
    rw [e]
    have := fullQ_any a x.1.length c (by omega) W'
    simpa [longG] using this)
  have HA : Hid (l.any (fun x => longG x.1) = (fsts l).any longG) := Lib.hid (by rw [List.any_map]; rfl)
  rw [HA.out] at CF
  have JN := fun W hb => joinedG_any ⟨#[44, 32]⟩ (by decide) v l (by omega) hs W (h.on hb)
  obtain ⟨a, c, b, o, rfl, hc, ha, hcell⟩ := h.parts
  have FU := fun W => fullG_any a l.length c (by omega) W
  obtain ⟨R, hR⟩ : ∃ R, bsT (Lib.join (l.map gtx) (ByteArray.mk #[44, 32]).data.toList) = R := ⟨_, rfl⟩
  rw [hR] at JN
  have HRA : Hid (R = bsT (textA (fsts l))) := Lib.hid (by rw [← hR]; unfold textA; rw [List.map_map]; rfl)
  have hfl : (fsts l).length = l.length := List.length_map ..
  have HE : Hid (allE (fsts l) = if decide (64 < l.length) || (fsts l).any longG then ([], 22) else if (fsts l).any badG then ([], 1) else (textA (fsts l), 0)) := Lib.hid (by unfold allE; rw [hfl])
  have HC := Lib.hid hcell
  have HG := Lib.hid h
  have HS := Lib.hid hs
  have HL := Lib.hid hL
  obtain ⟨n, hN⟩ : ∃ n, l.length = n := ⟨_, rfl⟩
  rw [hN] at hc ha hl FU HE CF JN ⊢
  have HN := Lib.hid hN
  clear hcell hN h hs hL hR hfl EN
  obtain ⟨f1, hf1⟩ : ∃ f1, decide (64 < n) = f1 := ⟨_, rfl⟩
  obtain ⟨f2, hf2⟩ : ∃ f2, (fsts l).any longG = f2 := ⟨_, rfl⟩
  rw [hf1] at FU HE
  rw [hf2] at CF HE
  clear hf1 hf2
  by_cases hf : f1 = true
  · subst hf
    have HP : Hid (∀ w', Below w.heap.size w w' → TwoP (allE (fsts l)) w (.returned (.tuple #[.string ⟨#[]⟩, .int .i64 22])) w') := Lib.hid (fun w' hb => ⟨by rw [HE.out, if_pos (by simp)], hb⟩)
    clear HE CF JN
    go_enter Tryz.func76, Tryz.ntmps76
    go_wp2_with (go_at_call 128; (with_reducible refine (FU _).mono ?_); rintro e w1 ⟨rfl, hb⟩; have HB := Lib.hid hb; clear hb)
    go_ret2
    exact HP.out _ HB.out
  obtain rfl : f1 = false := by cases f1 <;> simp_all
  clear hf
  cases f2
  case true =>
    have HP : Hid (∀ w', Below w.heap.size w w' → TwoP (allE (fsts l)) w (.returned (.tuple #[.string ⟨#[]⟩, .int .i64 22])) w') := Lib.hid (fun w' hb => ⟨by rw [HE.out, if_pos (by simp)], hb⟩)
    clear HE JN
    go_enter Tryz.func76, Tryz.ntmps76
    go_wp2_with (first
      | (go_at_call 128; (with_reducible refine (FU _).mono ?_); rintro e w1 ⟨rfl, hb⟩; have HB := Lib.hid hb; clear hb)
      | (go_at_call 129; (with_reducible refine (CF _ HB.out).mono ?_); rintro e w2 ⟨rfl, hb⟩; have HB2 := Lib.hid (HB.out.trans (hb.mono HB.out.size)); clear hb))
    go_ret2
    exact HP.out _ HB2.out
  case false =>
    have H1 : Hid ((fsts l).any badG = true → ∀ w', Below w.heap.size w w' → TwoP (allE (fsts l)) w (.returned (.tuple #[.string ⟨#[]⟩, .int .i64 1])) w') := Lib.hid (fun hq w' hb => ⟨by rw [HE.out, if_neg (by simp), if_pos hq], hb⟩)
    have H0 : Hid ((fsts l).any badG = false → ∀ w', Below w.heap.size w w' → TwoP (allE (fsts l)) w (.returned (.tuple #[.string R, .int .i64 0])) w') := Lib.hid (fun hq w' hb => ⟨by rw [HE.out, if_neg (by simp), if_neg (by rw [hq]; simp), HRA.out], hb⟩)
    clear HE HRA
    go_enter Tryz.func76, Tryz.ntmps76
    go_wp2_with (first
      | (go_at_call 128; (with_reducible refine (FU _).mono ?_); rintro e w1 ⟨rfl, hb⟩; have HB := Lib.hid hb; clear hb)
      | (go_at_call 129; (with_reducible refine (CF _ HB.out).mono ?_); rintro e w2 ⟨rfl, hb⟩; have HB2 := Lib.hid (HB.out.trans (hb.mono HB.out.size)); clear hb))
    clear CF FU
    go_loopw [14] (fun i wr => ∃ k : Nat, k ≤ n ∧ i = .int .i64 k ∧ Hid (∀ (j : Nat) y, j < k → l[j]? = some y → badG y.1 = false) ∧ Hid (Below w.heap.size w wr)) (fun i _ => n - (intOf i).toNat)
    case atStart => exact ⟨0, by omega, rfl, Lib.hid (fun j y hj => by omega), HB2⟩
    case round =>
      obtain ⟨k, hk, rfl, H, HB3⟩ := hrel
      have hsz := HB3.out.size
      by_cases hlt : k < n
      · obtain ⟨rfl, hbw⟩ := ha (by omega)
        obtain ⟨⟨g0, sv⟩, hx⟩ : ∃ x, l[k]? = some x := ⟨_, List.getElem?_eq_getElem (by rw [HN.out]; exact hlt)⟩
        have hgx := HG.out.2 _ (List.mem_of_getElem? hx)
        have hsm := HS.out _ (List.mem_of_getElem? hx)
        have c0 := HC.out k _ hx
        dsimp only at c0 hsm hgx
        rw [← HB3.out.cell (p := ⟨b, o + k, none⟩) hbw] at c0
        have AR := allRight_any sv g0 (by omega) hsm.1 wr (HoldV.on hgx HB3.out) (HL.out.on HB3.out)
        obtain ⟨sa, sc, -, -, hsv, -⟩ := hgx.parts
        subst hsv
        have HX := Lib.hid hx
        have HNX : Hid (badG g0 = false → ∀ (j : Nat) y, j < k + 1 → l[j]? = some y → badG y.1 = false) := Lib.hid (fun hq j y hj hy => by
          by_cases e : j = k
          · subst e
            rw [HX.out] at hy; cases hy
            exact hq
          · exact H.out j y (by omega) hy)
        have HBD : Hid (badG g0 = true → ∀ w', Below w.heap.size w w' → TwoP (allE (fsts l)) w (.returned (.tuple #[.string ⟨#[]⟩, .int .i64 1])) w') := Lib.hid (fun hq => H1.out (bad_hit HX.out hq))
        clear hx hgx H
        by_cases h0 : g0.length = 0
        · have G := Lib.hid (HBD.out (by unfold badG; rw [decide_eq_true h0]; rfl))
          have e1 : ((g0.length : Int) == 0) = true := by rw [h0]; rfl
          clear AR HNX HBD
          generalize g0.length = gn at *
          clear h0
          go_wp2
          go_ret2
          exact G.out _ HB3.out
        · have e1 : ((g0.length : Int) == 0) = false := by rw [beq_eq_false_iff_ne]; omega
          have hbg : badG g0 = !g0.all rightR := by unfold badG; rw [decide_eq_false h0, Bool.false_or]
          cases hr : g0.all rightR
          · rw [hr] at AR hbg
            have G := Lib.hid (HBD.out hbg)
            clear HNX HBD hbg hr
            generalize g0.length = gn at *
            clear h0
            go_wp2_with (go_at_call 131; (with_reducible refine AR.mono ?_); rintro e w4 ⟨rfl, hb⟩; have HB4 := Lib.hid (HB3.out.trans (hb.mono hsz)); clear hb AR)
            go_ret2
            exact G.out _ HB4.out
          · rw [hr] at AR hbg
            have G := Lib.hid (HNX.out hbg)
            clear HNX HBD hbg hr
            generalize g0.length = gn at *
            clear h0
            go_wp2_with (go_at_call 131; (with_reducible refine AR.mono ?_); rintro e w4 ⟨rfl, hb⟩; have HB4 := Lib.hid (HB3.out.trans (hb.mono hsz)); clear hb AR)
            go_roundw
            case rel => exact ⟨k + 1, by omega, by go_num, G, HB4⟩
            case measure => simp [intOf]; omega
      · obtain rfl : k = n := by omega
        have G := Lib.hid (H0.out (bad_miss (fun j y hy => H.out j y (by have := (List.getElem?_eq_some_iff.1 hy).1; rw [HN.out] at this; exact this) hy)))
        clear hlt H H0 H1
        go_wp2_with (go_at_call 132; (with_reducible refine (JN _ HB3.out).mono ?_); rintro e w4 ⟨rfl, hb⟩; have HB4 := Lib.hid (HB3.out.trans (hb.mono hsz)); clear hb)
        go_ret2
        exact G.out _ HB4.out
end Go.Proofs.YtbeoklihpkfofaaGreatDoor
