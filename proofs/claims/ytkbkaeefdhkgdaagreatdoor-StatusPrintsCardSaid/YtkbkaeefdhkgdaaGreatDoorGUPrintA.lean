import Derived.Test.YtkbkaeefdhkgdaaGreatDoorGUConfsA
set_option maxRecDepth 100000
set_option maxHeartbeats 32000000
namespace Go.Proofs.YtkbkaeefdhkgdaaGreatDoor
section
open Go.RowKit
theorem checkU_any (v : Value) (l : List Uv) (hl : l.length ≤ 90000) (hs : ∀ x ∈ l, SmallU x) (w : World) (h : HoldU w v l) (hL : LaidU w) (hE : LaidE w) : Calls Tryz.prog 9 #[v] w fun e w' => e = .returned (.int .i64 (kchkK rightU (fun x => x.nm) l)) ∧ Below w.heap.size w w' := by
 have C := kcheckU_any 25 #[] (enters_of Tryz.func25 (by kernel_rfl) rfl) rightU v l hl w h (fun x hx W hW => rightU_any x (hs x hx) W ((h.2 x hx).on hW) (hL.on hW) (hE.on hW))
 unfold keyFU at C
 obtain ⟨a, c, b, o, rfl, -⟩ := h.parts
 generalize kchkK rightU (fun x => x.nm) l = Z at *
 clear h hL hE hs
 go_enter Tryz.func9, Tryz.ntmps9
 go_wp2_with (go_at_call 23; (with_reducible refine C.mono ?_); rintro e w1 ⟨rfl, hb⟩; have HB := Lib.hid hb; clear hb)
 go_ret
 exact ⟨rfl, HB.out⟩
end
section
open Go.RowKit Go.Shelf
abbrev Fv := List Fld × Value
def OwnFs (w : World) (B : Nat) (v : Value) (L : List Fv) : Prop := OwnV 51 1 w B v (L.map fun x => [x.2]) ∧ ∀ x ∈ L, OwnF w B x.2 x.1
theorem OwnFs.nil (w : World) (B : Nat) : OwnFs w B (.slice none 0 0) [] := ⟨OwnV.nil _ _ _ _, fun x hx => by simp at hx⟩
theorem OwnFs.on {w w' : World} {B : Nat} {v : Value} {L : List Fv} (h : OwnFs w B v L) (hb : Below w.heap.size w w') : OwnFs w' B v L := ⟨OwnV.on h.1 hb, fun x hx => OwnF.onU (h.2 x hx) hb⟩
theorem OwnFs.app {w w' : World} {o : Obj} {B : Nat} {v v' sv : Value} {L : List Fv} {x : List Fld} (h : OwnFs w B v L) (hx : OwnF w B sv x) (hown : w'.ownsRow B 51 1 v' (L.length + 1) ((L.map fun x => [x.2]).flatten ++ [sv])) (hg : (w.alloc o).grownBy w' v.ownBlock) : OwnFs w' B v' (L ++ [(x, sv)]) := by
 have key : ∀ (s : Value) (y : List Fld), OwnF w B s y → OwnF w' B s y := fun s y hy => World.ownsRow.kept (World.ownsRow.alloc hy o) hg (skinds_apart hy h.1.2 (by decide))
 refine ⟨?_, fun y hy => ?_⟩
 ·
  rw [List.map_append]
  exact OwnV.app h.1.1 rfl (by rw [List.length_map]; exact hown)
 ·
  rcases List.mem_append.1 hy with e | e
  ·
   exact key _ _ (h.2 y e)
  ·
   rw [List.mem_singleton.1 e]; exact key _ _ hx
theorem OwnFs.holds {w : World} {B : Nat} {v : Value} {L : List Fv} (h : OwnFs w B v L) : HoldRR 2 w v (L.map fun x => x.1.map rowF) := by
 obtain ⟨a, c, b, o, e, hc, ha, hcell⟩ := OwnV.holds h.1
 rw [List.length_map] at e hc ha
 refine ⟨a, c, b, o, by rw [List.length_map]; exact e, by rw [List.length_map]; exact hc, by rw [List.length_map]; exact ha, fun j rs hj => ?_⟩
 rw [List.getElem?_map] at hj
 obtain ⟨x, hx, rfl⟩ := Option.map_eq_some_iff.1 hj
 refine ⟨x.2, ?_, (h.2 x (List.mem_of_getElem? hx)).holds⟩
 have := hcell j [x.2] (by rw [List.getElem?_map, hx]; rfl) 0 _ (by omega) rfl
 simpa using this
def fieldsU (x : Uv) : List Fld := fieldsL x.nm x.vr x.st (allE (fsts x.dp)).1 (listE x.cn).1 x.rp x.cf x.pd x.aw
noncomputable def printUE (l : List Uv) : Bs × Int := if kchkK rightU (fun x => x.nm) l = 0 then (if (printE (l.map fieldsU)).2 = 0 then ((printE (l.map fieldsU)).1, 0) else ([], 1)) else ([], kchkK rightU (fun x => x.nm) l)
theorem fieldsU_any (x : Uv) (hx : SmallU x) (w : World) (h : InU w x) (hL : LaidU w) : Calls Tryz.prog 16 #[agZU x] w fun e w' => ∃ v, e = .returned v ∧ OwnF w' w.heap.size v (fieldsU x) ∧ Below w.heap.size w w' := by
 obtain ⟨nm, vr, z, dp, cn, rp, cf, pd, aw, dv, cv, rv, fv, pv, av⟩ := x
 have hh := h
 obtain ⟨h3, h4, h5, h6, h7, h8⟩ := hh
 dsimp only at h3 h4 h5 h6 h7 h8
 obtain ⟨a3, m3, -, -, rfl, -⟩ := h3.parts
 obtain ⟨a4, m4, -, -, rfl, -⟩ := HoldQ.parts h4
 obtain ⟨a5, m5, -, -, rfl, -⟩ := h5
 obtain ⟨a6, m6, -, -, rfl, -⟩ := HoldW2.parts h6
 obtain ⟨a7, m7, -, -, rfl, -⟩ := h7
 obtain ⟨a8, m8, -, -, rfl, -⟩ := h8
 exact fieldsAll_any (bsT nm) (bsT vr) z a3 a4 a5 a6 a7 a8 dp.length cn.length rp.length cf.length pd.length aw.length m3 m4 m5 m6 m7 m8 dp cn rp cf pd aw hx w h hL
theorem printU_any (v : Value) (l : List Uv) (hl : l.length ≤ 90000) (hs : ∀ x ∈ l, SmallU x) (hsm : kchkK rightU (fun x => x.nm) l = 0 → Small (l.map fieldsU) 90000) (w : World) (h : HoldU w v l) (hL : LaidU w) (hE : LaidE w) :
  Calls Tryz.prog 7 #[v] w fun e w' => e = .returned (.tuple #[.string (bsT (printUE l).1), .int .i64 (printUE l).2]) ∧ Below w.heap.size w w' := by
 have CK := checkU_any v l hl hs w h hL hE
 have FL := fun x (hx : x ∈ l) W (hb : Below w.heap.size w W) => fieldsU_any x (hs x hx) W ((h.2 x hx).on hb) (hL.on hb)
 by_cases hz : kchkK rightU (fun x => x.nm) l = 0
 case neg =>
  have HP : Hid (printUE l = ([], kchkK rightU (fun x => x.nm) l)) := Lib.hid (by unfold printUE; rw [if_neg hz])
  rw [HP.out]
  generalize kchkK rightU (fun x => x.nm) l = z at *
  have hz1 : (z != 0) = true := by rw [bne_iff_ne]; exact hz
  obtain ⟨a, c, b, o, rfl, -⟩ := h.parts
  clear hz HP FL hs hsm hL hE h
  go_enter Tryz.func7, Tryz.ntmps7
  go_wp2_with (go_at_call 9; (with_reducible refine CK.mono ?_); rintro e w1 ⟨rfl, hb⟩; have HB1 := Lib.hid hb; clear hb)
  go_ret2
  exact ⟨rfl, HB1.out⟩
 rw [hz] at CK
 have PR := fun u W (hh : HoldRR 2 W u ((l.map fieldsU).map (·.map rowF))) => print_any u (l.map fieldsU) (hsm hz) W hh
 unfold PrintPost at PR
 have HPE : Hid (printUE l = (if (printE (l.map fieldsU)).2 = 0 then ((printE (l.map fieldsU)).1, 0) else ([], 1))) := Lib.hid (by unfold printUE; rw [if_pos hz])
 rw [HPE.out]
 generalize (printE (l.map fieldsU)).2 = pz at *
 obtain ⟨PT, hPT⟩ : ∃ q, bsT (printE (l.map fieldsU)).1 = q := ⟨_, rfl⟩
 have HPT := Lib.hid hPT
 have HRES : Hid (∀ w', Below w.heap.size w w' → (pz = 0 → Ending.returned (.tuple #[.string PT, .int .i64 0]) = Ending.returned (.tuple #[.string (bsT (if pz = 0 then ((printE (l.map fieldsU)).1, (0 : Int)) else ([], 1)).1), .int .i64 (if pz = 0 then ((printE (l.map fieldsU)).1, (0 : Int)) else ([], 1)).2])) ∧ (pz ≠ 0 → Ending.returned (.tuple #[.string ⟨#[]⟩, .int .i64 1]) = Ending.returned (.tuple #[.string (bsT (if pz = 0 then ((printE (l.map fieldsU)).1, (0 : Int)) else ([], 1)).1), .int .i64 (if pz = 0 then ((printE (l.map fieldsU)).1, (0 : Int)) else ([], 1)).2]))) := Lib.hid (fun w' _ => ⟨fun g => by rw [if_pos g, ← HPT.out], fun g => by rw [if_neg g]⟩)
 obtain ⟨RE, hRE⟩ : ∃ q, Ending.returned (.tuple #[.string (bsT (if pz = 0 then ((printE (l.map fieldsU)).1, (0 : Int)) else ([], 1)).1), .int .i64 (if pz = 0 then ((printE (l.map fieldsU)).1, (0 : Int)) else ([], 1)).2]) = q := ⟨_, rfl⟩
 rw [hRE] at HRES ⊢
 simp only [hPT] at PR
 have HIN := Lib.hid h.2
 obtain ⟨a, c, b, o, rfl, hc, ha, hcell⟩ := h.parts
 obtain ⟨i0, hi, hz0, hz1, hz2'⟩ := info_parts infoSF
 have HC := Lib.hid hcell
 have HFL := Lib.hid FL
 obtain ⟨n, hN⟩ : ∃ n, l.length = n := ⟨_, rfl⟩
 rw [hN] at CK hc ha hl ⊢
 have HN := Lib.hid hN
 clear hcell hN h hs hsm hL hE hz HPE HPT hPT hRE FL
 go_enter Tryz.func7, Tryz.ntmps7
 go_wp2_with (go_at_call 9; (with_reducible refine CK.mono ?_); rintro e w1 ⟨rfl, hb⟩; have HB1 := Lib.hid hb; clear hb)
 clear CK
 go_loopw [5, 17] (fun u i wr => ∃ (k : Nat) (L : List Fv), k ≤ n ∧ i = .int .i64 k ∧ L.length = k ∧ Hid (L.map (·.1) = (l.take k).map fieldsU) ∧ Hid (OwnFs wr w.heap.size u L) ∧ Hid (Below w.heap.size w wr)) (fun _ i _ => n - (intOf i).toNat)
 case atStart => exact ⟨0, [], by omega, rfl, rfl, Lib.hid rfl, Lib.hid (OwnFs.nil _ _), HB1⟩
 case round =>
  obtain ⟨k, L, hk, rfl, hLk, HF, HO, HB⟩ := hrel
  have hsz := HB.out.size
  by_cases hlt : k < n
  ·
   obtain ⟨rfl, hbw⟩ := ha (by omega)
   obtain ⟨x, hx⟩ : ∃ x, l[k]? = some x := ⟨_, List.getElem?_eq_getElem (by rw [HN.out]; exact hlt)⟩
   have hm := List.mem_of_getElem? hx
   obtain ⟨x0, x1, x2, x3, x4, x5, x6, x7, x8⟩ := HC.out k _ hx
   rw [← HB.out.cell (p := ⟨b, o + k * 9, none⟩) hbw] at x0
   rw [← HB.out.cell (p := ⟨b, o + k * 9 + 1, none⟩) hbw] at x1
   rw [← HB.out.cell (p := ⟨b, o + k * 9 + 2, none⟩) hbw] at x2
   rw [← HB.out.cell (p := ⟨b, o + k * 9 + 3, none⟩) hbw] at x3
   rw [← HB.out.cell (p := ⟨b, o + k * 9 + 4, none⟩) hbw] at x4
   rw [← HB.out.cell (p := ⟨b, o + k * 9 + 5, none⟩) hbw] at x5
   rw [← HB.out.cell (p := ⟨b, o + k * 9 + 6, none⟩) hbw] at x6
   rw [← HB.out.cell (p := ⟨b, o + k * 9 + 7, none⟩) hbw] at x7
   rw [← HB.out.cell (p := ⟨b, o + k * 9 + 8, none⟩) hbw] at x8
   have B2 := HB.out.alloc hsz (.cells #[.string (⟨x.nm.toArray⟩ : ByteArray), .string (⟨x.vr.toArray⟩ : ByteArray), .int .i64 x.st, x.dv, x.cv, x.rv, x.fv, x.pv, x.av] 43)
   have FX := HFL.out x hm _ B2
   obtain ⟨a3, n3, m3, q3⟩ := formU3 (HIN.out x hm)
   obtain ⟨a4, n4, m4, q4⟩ := formU4 (HIN.out x hm)
   obtain ⟨a5, n5, m5, q5⟩ := formU5 (HIN.out x hm)
   obtain ⟨a6, n6, m6, q6⟩ := formU6 (HIN.out x hm)
   obtain ⟨a7, n7, m7, q7⟩ := formU7 (HIN.out x hm)
   obtain ⟨a8, n8, m8, q8⟩ := formU8 (HIN.out x hm)
   have HF2 : Hid (∀ sv : Value, (L ++ [(fieldsU x, sv)]).map (·.1) = (l.take (k + 1)).map fieldsU) := Lib.hid (fun sv => by
    rw [List.take_add_one, hx, List.map_append, List.map_append, HF.out]; rfl)
   unfold agZU at FX
   simp only [q3, q4, q5, q6, q7, q8] at FX x3 x4 x5 x6 x7 x8 B2
   generalize (⟨x.nm.toArray⟩ : ByteArray) = X0 at *
   generalize (⟨x.vr.toArray⟩ : ByteArray) = X1 at *
   generalize x.st = st at *
   have HB2 := Lib.hid B2
   have b2 := (Below.refl wr.heap.size wr).alloc (Nat.le_refl _) (.cells #[.string X0, .string X1, .int .i64 st, .slice a3 n3 m3, .slice a4 n4 m4, .slice a5 n5 m5, .slice a6 n6 m6, .slice a7 n7 m7, .slice a8 n8 m8] 43)
   have HO2 := Lib.hid (HO.out.on b2)
   obtain ⟨y0, y1, y2, y3, y4, y5, y6, y7, y8⟩ := boxV9 wr (.string X0) (.string X1) (.int .i64 st) (.slice a3 n3 m3) (.slice a4 n4 m4) (.slice a5 n5 m5) (.slice a6 n6 m6) (.slice a7 n7 m7) (.slice a8 n8 m8) 43
   clear hx hm q3 q4 q5 q6 q7 q8 B2 b2 HF HO
   go_wp2_with (first
    | (go_at_call 16; (with_reducible refine FX.mono ?_); rintro e w3 ⟨v3, rfl, ho, hb⟩; have hfm := ho.shape; have HO3 := Lib.hid (OwnF.mono ho HB2.out.size); have HB3 := Lib.hid (HB2.out.trans (hb.mono HB2.out.size)); have HOS := Lib.hid (HO2.out.on hb); clear ho hb; obtain ⟨fa, fc, hfv, -⟩ := hfm; subst hfv)
    | (at_builtin; refine wpList_append_own _ rfl _ _ 50 rfl w.heap.size 51 i0 (.slice none 0 0) 1 24 Tryz.underlying50 hi hz0 hz1 hz2' rfl (by decide) _ _ _ rfl (World.ownsRow.alloc HOS.out.1.2 _) ⟨w3.heap.size, 0, none⟩ 1 1 [.slice fa _ fc] rfl rfl (news1 _ _ rfl) (one1 _ _ _) ?c3 ?c4 ?c5 ?_))
   case c3 => unfold maxLen; simp; omega
   case c4 => simp; omega
   case c5 => have := HB3.out.size; simp; omega
   intro v' w4 hown' hgrow _
   have HO4 : Hid (OwnFs w4 w.heap.size v' (L ++ [(fieldsU x, .slice fa (fieldsU x).length fc)])) := Lib.hid (OwnFs.app HOS.out HO3.out (by rw [hLk]; simpa using hown') hgrow)
   have HB4 : Hid (Below w.heap.size w w4) := Lib.hid (OwnV.below HB3.out HOS.out.1 hgrow (Nat.le_refl _) HB3.out.size)
   have HF3 := Lib.hid (HF2.out (.slice fa (fieldsU x).length fc))
   have HL3 : Hid ((L ++ [(fieldsU x, Value.slice fa (fieldsU x).length fc)]).length = k + 1) := Lib.hid (by rw [List.length_append, hLk]; rfl)
   clear hown' hgrow
   go_wp2
   go_roundw
   case rel => exact ⟨k + 1, _, by omega, by go_num, HL3.out, HF3, HO4, HB4⟩
   case measure => simp [intOf]; omega
  ·
   obtain rfl : k = n := by omega
   have hfe : HoldRR 2 wr u5 ((l.map fieldsU).map (·.map rowF)) := by
    have := HO.out.holds
    rw [show (L.map fun x => x.1.map rowF) = (L.map (·.1)).map (·.map rowF) by rw [List.map_map]; rfl, HF.out, List.take_of_length_le (by rw [HN.out]; omega)] at this
    exact this
   have PP := PR _ wr hfe
   obtain ⟨ua, uc, -, -, hu, -⟩ := HO.out.holds
   rw [List.length_map, hLk] at hu
   subst hu
   clear hlt hfe PR HF HO
   by_cases hp : pz = 0
   ·
    have G := Lib.hid ((HRES.out w (Below.refl _ _)).1 hp)
    subst hp
    clear HRES
    go_wp2_with (go_at_call 17; (with_reducible refine PP.mono ?_); rintro e w5 ⟨rfl, hb⟩; have HB5 := Lib.hid (HB.out.trans (hb.mono HB.out.size)); clear hb)
    go_ret2
    exact ⟨G.out, HB5.out⟩
   ·
    have G := Lib.hid ((HRES.out w (Below.refl _ _)).2 hp)
    have hp1 : (pz != 0) = true := by rw [bne_iff_ne]; exact hp
    clear HRES hp
    go_wp2_with (go_at_call 17; (with_reducible refine PP.mono ?_); rintro e w5 ⟨rfl, hb⟩; have HB5 := Lib.hid (HB.out.trans (hb.mono HB.out.size)); clear hb)
    go_ret2
    exact ⟨G.out, HB5.out⟩
end
end Go.Proofs.YtkbkaeefdhkgdaaGreatDoor
