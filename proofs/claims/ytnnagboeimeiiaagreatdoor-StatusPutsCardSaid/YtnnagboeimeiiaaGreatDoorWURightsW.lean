import Derived.Test.YtnnagboeimeiiaaGreatDoorWURefR
import Derived.Test.YtnnagboeimeiiaaGreatDoorWUFew
import Derived.Test.YtnnagboeimeiiaaGreatDoorWUParse1
namespace Go.Proofs.YtnnagboeimeiiaaGreatDoor
open Go.RowKit
theorem holdU_one (W : World) (x : Uv) (h : InU W x) : HoldU (W.alloc (.cells #[.string (⟨x.nm.toArray⟩ : ByteArray), .string (⟨x.vr.toArray⟩ : ByteArray), .int .i64 x.st, x.dv, x.cv, x.rv, x.fv, x.pv, x.av] 43)) (.slice (some ⟨W.heap.size, 0, none⟩) 1 1) [x] := by
 obtain ⟨x0, x1, x2, x3, x4, x5, x6, x7, x8⟩ := boxV9 W (.string (⟨x.nm.toArray⟩ : ByteArray)) (.string (⟨x.vr.toArray⟩ : ByteArray)) (.int .i64 x.st) x.dv x.cv x.rv x.fv x.pv x.av 43
 refine ⟨⟨some ⟨W.heap.size, 0, none⟩, 1, W.heap.size, 0, rfl, Nat.le_refl _, fun _ => ⟨rfl, by simp⟩, fun j r hj i y hi hy => ?_⟩, fun y hy => ?_⟩
 · match j, hj with
   | 0, hj =>
     simp at hj; subst hj
     match i, hi, hy with
     | 0, _, hy => cases hy; exact x0
     | 1, _, hy => cases hy; exact x1
     | 2, _, hy => cases hy; exact x2
     | 3, _, hy => cases hy; exact x3
     | 4, _, hy => cases hy; exact x4
     | 5, _, hy => cases hy; exact x5
     | 6, _, hy => cases hy; exact x6
     | 7, _, hy => cases hy; exact x7
     | 8, _, hy => cases hy; exact x8
   | j + 1, hj => simp at hj
 · simp at hy; subst hy
   exact h.on ((Below.refl _ _).alloc (Nat.le_refl _) _)
def setOf' (x : Uv) : Int := if 0 < x.aw.length then 5 else if 0 < x.pd.length then 6 else 7
theorem settledU_any (x : Uv) (w : World) (h : InU w x) : Calls Tryz.prog 18 #[agZU x] w fun e w' => e = .returned (.int .i64 (setOf' x)) ∧ Below w.heap.size w w' := by
 obtain ⟨nm, vr, z, dp, cn, rp, cf, pd, aw, dv, cv, rv, fv, pv, av⟩ := x
 obtain ⟨h3, h4, h5, h6, h7, h8⟩ := h
 dsimp only at h3 h4 h5 h6 h7 h8
 obtain ⟨a3, m3, -, -, rfl, -⟩ := h3.parts
 obtain ⟨a4, m4, -, -, rfl, -⟩ := HoldQ.parts h4
 obtain ⟨a5, m5, -, -, rfl, -⟩ := h5
 obtain ⟨a6, m6, -, -, rfl, -⟩ := HoldW2.parts h6
 obtain ⟨a7, m7, -, -, rfl, -⟩ := h7
 obtain ⟨a8, m8, -, -, rfl, -⟩ := h8
 exact settled_any (bsT nm) (bsT vr) z a3 a4 a5 a6 a7 a8 dp.length cn.length rp.length cf.length pd.length aw.length m3 m4 m5 m6 m7 m8 w
theorem settledU_ref (x : Uv) (w : World) (h : InU w x) : Calls Tryz.prog 19 #[agZU x] w fun e w' => e = .returned (.int .i64 (setOf' x)) ∧ Below w.heap.size w w' := by
 obtain ⟨nm, vr, z, dp, cn, rp, cf, pd, aw, dv, cv, rv, fv, pv, av⟩ := x
 obtain ⟨h3, h4, h5, h6, h7, h8⟩ := h
 dsimp only at h3 h4 h5 h6 h7 h8
 obtain ⟨a3, m3, -, -, rfl, -⟩ := h3.parts
 obtain ⟨a4, m4, -, -, rfl, -⟩ := HoldQ.parts h4
 obtain ⟨a5, m5, -, -, rfl, -⟩ := h5
 obtain ⟨a6, m6, -, -, rfl, -⟩ := HoldW2.parts h6
 obtain ⟨a7, m7, -, -, rfl, -⟩ := h7
 obtain ⟨a8, m8, -, -, rfl, -⟩ := h8
 exact settled_ref8 (bsT nm) (bsT vr) z a3 a4 a5 a6 a7 a8 dp.length cn.length rp.length cf.length pd.length aw.length m3 m4 m5 m6 m7 m8 w
namespace URightsW
set_option maxRecDepth 100000 in
set_option maxHeartbeats 16000000 in
theorem walk (x : Uv) (hx : FitU x) (w : World) (hL : LaidU w) (hE : LaidE w) (hi : InU w x) :
   Calls Tryz.prog 5 #[agZU x] w fun e w' => e = .returned (.bool true) ∧ Below w.heap.size w w' := by
 have B1 := (Below.refl w.heap.size w).alloc (Nat.le_refl _) (.cells #[.string (⟨x.nm.toArray⟩ : ByteArray), .string (⟨x.vr.toArray⟩ : ByteArray), .int .i64 x.st, x.dv, x.cv, x.rv, x.fv, x.pv, x.av] 43)
 have FX := fun W (hb : Below w.heap.size w W) => fewU_any (.slice (some ⟨W.heap.size, 0, none⟩) 1 1) [x] (by simp [maxLen]) (fun y hy => by simp at hy; subst hy; exact hx) _ (holdU_one W x (hi.on hb))
 have AW := fun W (hb : Below w.heap.size w W) => awake8 W (hL.on hb)
 have R1 := fun (g : FewR x) W (hb : Below w.heap.size w W) => rightU_any x (g.small hx) W (hi.on hb) (hL.on hb) (hE.on hb)
 have R2 := fun (g : FewR x) W (hb : Below w.heap.size w W) => rightU_ref x (g.small hx) W (hi.on hb)
 have S1 := fun W (hb : Below w.heap.size w W) => settledU_any x W (hi.on hb)
 have S2 := fun W (hb : Below w.heap.size w W) => settledU_ref x W (hi.on hb)
 have HG2 : Hid (FewU [x] → FewR x) := Lib.hid (fun g => g.2 x (by simp))
 obtain ⟨a3, n3, m3, q3⟩ := formU3 hi
 obtain ⟨a4, n4, m4, q4⟩ := formU4 hi
 obtain ⟨a5, n5, m5, q5⟩ := formU5 hi
 obtain ⟨a6, n6, m6, q6⟩ := formU6 hi
 obtain ⟨a7, n7, m7, q7⟩ := formU7 hi
 obtain ⟨a8, n8, m8, q8⟩ := formU8 hi
 unfold FewUP at FX
 unfold agU at R1
 unfold agZU at R2 S1 S2 ⊢
 simp only [q3, q4, q5, q6, q7, q8] at FX R1 R2 S1 S2 B1 ⊢
 generalize (⟨x.nm.toArray⟩ : ByteArray) = X0 at *
 generalize (⟨x.vr.toArray⟩ : ByteArray) = X1 at *
 generalize x.st = st at *
 generalize rightU x = q at *
 generalize setOf' x = zs at *
 have e0 : (q == q) = true := by simp
 have e1 : (zs == zs) = true := by simp
 obtain ⟨x0, x1, x2, x3, x4, x5, x6, x7, x8⟩ := boxV9 w (.string X0) (.string X1) (.int .i64 st) (.slice a3 n3 m3) (.slice a4 n4 m4) (.slice a5 n5 m5) (.slice a6 n6 m6) (.slice a7 n7 m7) (.slice a8 n8 m8) 43
 have l0 := World.block_lt_of_cell? _ _ x0
 have HBX : Hid (∀ W, Below (w.alloc (.cells #[.string X0, .string X1, .int .i64 st, .slice a3 n3 m3, .slice a4 n4 m4, .slice a5 n5 m5, .slice a6 n6 m6, .slice a7 n7 m7, .slice a8 n8 m8] 43)).heap.size (w.alloc (.cells #[.string X0, .string X1, .int .i64 st, .slice a3 n3 m3, .slice a4 n4 m4, .slice a5 n5 m5, .slice a6 n6 m6, .slice a7 n7 m7, .slice a8 n8 m8] 43)) W → W.cell? ⟨w.heap.size, 0, none⟩ = some (.string X0) ∧ W.cell? ⟨w.heap.size, 1, none⟩ = some (.string X1) ∧ W.cell? ⟨w.heap.size, 2, none⟩ = some (.int .i64 st) ∧ W.cell? ⟨w.heap.size, 3, none⟩ = some (.slice a3 n3 m3) ∧ W.cell? ⟨w.heap.size, 4, none⟩ = some (.slice a4 n4 m4) ∧ W.cell? ⟨w.heap.size, 5, none⟩ = some (.slice a5 n5 m5) ∧ W.cell? ⟨w.heap.size, 6, none⟩ = some (.slice a6 n6 m6) ∧ W.cell? ⟨w.heap.size, 7, none⟩ = some (.slice a7 n7 m7) ∧ W.cell? ⟨w.heap.size, 8, none⟩ = some (.slice a8 n8 m8)) := Lib.hid (fun W hW => by
   have p := fun i => hW.cell (p := ⟨w.heap.size, i, none⟩) l0
   exact ⟨(p 0).trans x0, (p 1).trans x1, (p 2).trans x2, (p 3).trans x3, (p 4).trans x4, (p 5).trans x5, (p 6).trans x6, (p 7).trans x7, (p 8).trans x8⟩)
 have HB1 := Lib.hid B1
 have HS1 : Hid (Below (w.alloc (.cells #[.string X0, .string X1, .int .i64 st, .slice a3 n3 m3, .slice a4 n4 m4, .slice a5 n5 m5, .slice a6 n6 m6, .slice a7 n7 m7, .slice a8 n8 m8] 43)).heap.size (w.alloc (.cells #[.string X0, .string X1, .int .i64 st, .slice a3 n3 m3, .slice a4 n4 m4, .slice a5 n5 m5, .slice a6 n6 m6, .slice a7 n7 m7, .slice a8 n8 m8] 43)) ((w.alloc (.cells #[.string X0, .string X1, .int .i64 st, .slice a3 n3 m3, .slice a4 n4 m4, .slice a5 n5 m5, .slice a6 n6 m6, .slice a7 n7 m7, .slice a8 n8 m8] 43)).alloc (.cells #[.string X0, .string X1, .int .i64 st, .slice a3 n3 m3, .slice a4 n4 m4, .slice a5 n5 m5, .slice a6 n6 m6, .slice a7 n7 m7, .slice a8 n8 m8] 43))) := Lib.hid ((Below.refl _ _).alloc (Nat.le_refl _) _)
 have FX := FX _ B1
 simp only [World.size_alloc] at FX
 clear B1 hL hE hi hx q3 q4 q5 q6 q7 q8 l0
 go_enter Tryz.func5, Tryz.ntmps5
 go_wp2_with (go_at_call 7; (with_reducible refine FX.mono ?_); rintro e w2 ⟨fb, rfl, hfb, hb⟩; have HF2 := Lib.hid hfb; have HZ2 := Lib.hid (HS1.out.trans (hb.mono (by simp))); clear hb hfb; refine Hid.out ?_)
 refine Lib.hid ?_
 have HB2 := Lib.hid (HB1.out.trans (HZ2.out.mono HB1.out.size))
 have hsz2 := HB2.out.size
 clear FX x0 x1 x2 x3 x4 x5 x6 x7 x8
 obtain ⟨x0, x1, x2, x3, x4, x5, x6, x7, x8⟩ := HBX.out _ HZ2.out
 clear HBX HS1 HB1
 cases fb
 · clear HZ2
   go_wp2_with (go_at_call 8; (with_reducible refine (AW _ HB2.out).mono ?_); rintro e w4 ⟨rfl, hb⟩; have HB4 := Lib.hid (HB2.out.trans (hb.mono HB2.out.size)); clear hb)
   go_ret
   exact ⟨rfl, HB4.out⟩
 have R1 := R1 (HG2.out (HF2.out rfl))
 have R2 := R2 (HG2.out (HF2.out rfl))
 have hs := And.intro x0 (And.intro x1 (And.intro x2 (And.intro x3 (And.intro x4 (And.intro x5 (And.intro x6 (And.intro x7 (And.intro x8 (Below.refl w2.heap.size w2)))))))))
 clear HF2 HG2 HZ2 x0 x1 x2 x3 x4 x5 x6 x7 x8
 go_wp2
 have KQ := Lib.hid (atK w2 [(⟨w.heap.size, 0, none⟩, .string X0), (⟨w.heap.size, 1, none⟩, .string X1), (⟨w.heap.size, 2, none⟩, .int .i64 st), (⟨w.heap.size, 3, none⟩, .slice a3 n3 m3), (⟨w.heap.size, 4, none⟩, .slice a4 n4 m4), (⟨w.heap.size, 5, none⟩, .slice a5 n5 m5), (⟨w.heap.size, 6, none⟩, .slice a6 n6 m6), (⟨w.heap.size, 7, none⟩, .slice a7 n7 m7), (⟨w.heap.size, 8, none⟩, .slice a8 n8 m8)])
 have BE := fun (V : World) (h : V.cell? ⟨w.heap.size, 0, none⟩ = some (.string X0) ∧ V.cell? ⟨w.heap.size, 1, none⟩ = some (.string X1) ∧ V.cell? ⟨w.heap.size, 2, none⟩ = some (.int .i64 st) ∧ V.cell? ⟨w.heap.size, 3, none⟩ = some (.slice a3 n3 m3) ∧ V.cell? ⟨w.heap.size, 4, none⟩ = some (.slice a4 n4 m4) ∧ V.cell? ⟨w.heap.size, 5, none⟩ = some (.slice a5 n5 m5) ∧ V.cell? ⟨w.heap.size, 6, none⟩ = some (.slice a6 n6 m6) ∧ V.cell? ⟨w.heap.size, 7, none⟩ = some (.slice a7 n7 m7) ∧ V.cell? ⟨w.heap.size, 8, none⟩ = some (.slice a8 n8 m8) ∧ Below w2.heap.size w2 V) => AtF.be (w := w2) (l := [(⟨w.heap.size, 0, none⟩, .string X0), (⟨w.heap.size, 1, none⟩, .string X1), (⟨w.heap.size, 2, none⟩, .int .i64 st), (⟨w.heap.size, 3, none⟩, .slice a3 n3 m3), (⟨w.heap.size, 4, none⟩, .slice a4 n4 m4), (⟨w.heap.size, 5, none⟩, .slice a5 n5 m5), (⟨w.heap.size, 6, none⟩, .slice a6 n6 m6), (⟨w.heap.size, 7, none⟩, .slice a7 n7 m7), (⟨w.heap.size, 8, none⟩, .slice a8 n8 m8)]) h
 refine wp_region_held_drew (S := (fun V => V.cell? ⟨w.heap.size, 0, none⟩ = some (.string X0) ∧ V.cell? ⟨w.heap.size, 1, none⟩ = some (.string X1) ∧ V.cell? ⟨w.heap.size, 2, none⟩ = some (.int .i64 st) ∧ V.cell? ⟨w.heap.size, 3, none⟩ = some (.slice a3 n3 m3) ∧ V.cell? ⟨w.heap.size, 4, none⟩ = some (.slice a4 n4 m4) ∧ V.cell? ⟨w.heap.size, 5, none⟩ = some (.slice a5 n5 m5) ∧ V.cell? ⟨w.heap.size, 6, none⟩ = some (.slice a6 n6 m6) ∧ V.cell? ⟨w.heap.size, 7, none⟩ = some (.slice a7 n7 m7) ∧ V.cell? ⟨w.heap.size, 8, none⟩ = some (.slice a8 n8 m8) ∧ Below w2.heap.size w2 V)) (by kernel_rfl) ?_ (fun hHeld => ?_)
 · (try dsimp only); (first | assumption | exact hs | exact KQ.out.dr _ hs | exact KQ.out.dr _ (by assumption) | exact KQ.out.on _ _ (by assumption) (by assumption) | exact KQ.out.al _ _ (by assumption) | exact KQ.out.ald _ _ (by assumption) | exact KQ.out.al _ _ hs | exact KQ.out.ald _ _ hs)
 refine heldY 0 8 ?_ _ rfl rfl (by kernel_rfl) (by kernel_rfl) (by kernel_rfl) (fun _ _ _ h => h) rfl (by assumption) ?_ ?_
 rotate_left
 · (intro w hSw; (try dsimp only at hSw); go_simp; (try with_reducible rfl))
 try simp only [List.setIfInBounds_toArray, List.set_cons_zero, List.set_cons_succ]
 refine heldY 2 10 ?_ _ rfl rfl (by kernel_rfl) (by kernel_rfl) (by kernel_rfl) (fun _ _ _ h => h) rfl (by assumption) ?_ ?_
 rotate_left
 · (intro w hSw; (try dsimp only at hSw); go_simp; (try with_reducible rfl))
 try simp only [List.setIfInBounds_toArray, List.set_cons_zero, List.set_cons_succ]
 refine wpAnyH_ready (rs := [1]) (by kernel_rfl) (by simp) ?_
 refine AllReadyH.cons rfl (fun K hK => ?_) AllReadyH.nil
 go_simp
 (first | (go_at_call 16; (with_reducible refine (R1 _ (HB2.out.trans ((BE _ (by assumption)).mono hsz2))).mono ?_); rintro e w3 ⟨rfl, hb⟩) | (go_at_call 17; (with_reducible refine (R2 _ (HB2.out.trans ((BE _ (by assumption)).mono hsz2))).mono ?_); rintro e w3 ⟨rfl, hb⟩) | (go_at_call 18; (with_reducible refine (S1 _ (HB2.out.trans ((BE _ (by assumption)).mono hsz2))).mono ?_); rintro e w3 ⟨rfl, hb⟩) | (go_at_call 19; (with_reducible refine (S2 _ (HB2.out.trans ((BE _ (by assumption)).mono hsz2))).mono ?_); rintro e w3 ⟨rfl, hb⟩) | (go_at_call 8; (with_reducible refine (AW _ (HB2.out.trans ((BE _ (by assumption)).mono hsz2))).mono ?_); rintro e w3 ⟨rfl, hb⟩))
 refine hK.out _ _ ?_ (fun hHeld => ?_)
 · (try dsimp only); (first | assumption | exact hs | exact KQ.out.dr _ hs | exact KQ.out.dr _ (by assumption) | exact KQ.out.on _ _ (by assumption) (by assumption) | exact KQ.out.al _ _ (by assumption) | exact KQ.out.ald _ _ (by assumption) | exact KQ.out.al _ _ hs | exact KQ.out.ald _ _ hs)
 clear hK K
 try simp only [Act.put, List.setIfInBounds_toArray, List.set_cons_zero, List.set_cons_succ]
 refine wpAnyH_ready (rs := [3]) (by kernel_rfl) (by simp) ?_
 refine AllReadyH.cons rfl (fun K hK => ?_) AllReadyH.nil
 go_simp
 (first | (go_at_call 16; (with_reducible refine (R1 _ (HB2.out.trans ((BE _ (by assumption)).mono hsz2))).mono ?_); rintro e w3 ⟨rfl, hb⟩) | (go_at_call 17; (with_reducible refine (R2 _ (HB2.out.trans ((BE _ (by assumption)).mono hsz2))).mono ?_); rintro e w3 ⟨rfl, hb⟩) | (go_at_call 18; (with_reducible refine (S1 _ (HB2.out.trans ((BE _ (by assumption)).mono hsz2))).mono ?_); rintro e w3 ⟨rfl, hb⟩) | (go_at_call 19; (with_reducible refine (S2 _ (HB2.out.trans ((BE _ (by assumption)).mono hsz2))).mono ?_); rintro e w3 ⟨rfl, hb⟩) | (go_at_call 8; (with_reducible refine (AW _ (HB2.out.trans ((BE _ (by assumption)).mono hsz2))).mono ?_); rintro e w3 ⟨rfl, hb⟩))
 refine hK.out _ _ ?_ (fun hHeld => ?_)
 · (try dsimp only); (first | assumption | exact hs | exact KQ.out.dr _ hs | exact KQ.out.dr _ (by assumption) | exact KQ.out.on _ _ (by assumption) (by assumption) | exact KQ.out.al _ _ (by assumption) | exact KQ.out.ald _ _ (by assumption) | exact KQ.out.al _ _ hs | exact KQ.out.ald _ _ hs)
 clear hK K
 try simp only [Act.put, List.setIfInBounds_toArray, List.set_cons_zero, List.set_cons_succ]
 refine heldY 4 12 ?_ _ rfl rfl (by kernel_rfl) (by kernel_rfl) (by kernel_rfl) (fun _ _ _ h => h) rfl (by assumption) ?_ ?_
 rotate_left
 · (intro w hSw; (try dsimp only at hSw); go_simp; (try with_reducible rfl))
 try simp only [List.setIfInBounds_toArray, List.set_cons_zero, List.set_cons_succ]
 refine heldY 5 13 ?_ _ rfl rfl (by kernel_rfl) (by kernel_rfl) (by kernel_rfl) (fun _ _ _ h => h) rfl (by assumption) ?_ ?_
 rotate_left
 · (intro w hSw; (try dsimp only at hSw); go_simp; (try with_reducible rfl))
 try simp only [List.setIfInBounds_toArray, List.set_cons_zero, List.set_cons_succ]
 refine heldY 6 14 ?_ _ rfl rfl (by kernel_rfl) (by kernel_rfl) (by kernel_rfl) (fun _ _ _ h => h) rfl (by assumption) ?_ ?_
 rotate_left
 · (intro w hSw; (try dsimp only at hSw); go_simp; (try with_reducible rfl))
 try simp only [List.setIfInBounds_toArray, List.set_cons_zero, List.set_cons_succ]
 refine heldY 8 16 ?_ _ rfl rfl (by kernel_rfl) (by kernel_rfl) (by kernel_rfl) (fun _ _ _ h => h) rfl (by assumption) ?_ ?_
 rotate_left
 · (intro w hSw; (try dsimp only at hSw); go_simp; (try with_reducible rfl))
 try simp only [List.setIfInBounds_toArray, List.set_cons_zero, List.set_cons_succ]
 refine wpAnyH_ready (rs := [7]) (by kernel_rfl) (by simp) ?_
 refine AllReadyH.cons rfl (fun K hK => ?_) AllReadyH.nil
 go_simp
 (first | (go_at_call 16; (with_reducible refine (R1 _ (HB2.out.trans ((BE _ (by assumption)).mono hsz2))).mono ?_); rintro e w3 ⟨rfl, hb⟩) | (go_at_call 17; (with_reducible refine (R2 _ (HB2.out.trans ((BE _ (by assumption)).mono hsz2))).mono ?_); rintro e w3 ⟨rfl, hb⟩) | (go_at_call 18; (with_reducible refine (S1 _ (HB2.out.trans ((BE _ (by assumption)).mono hsz2))).mono ?_); rintro e w3 ⟨rfl, hb⟩) | (go_at_call 19; (with_reducible refine (S2 _ (HB2.out.trans ((BE _ (by assumption)).mono hsz2))).mono ?_); rintro e w3 ⟨rfl, hb⟩) | (go_at_call 8; (with_reducible refine (AW _ (HB2.out.trans ((BE _ (by assumption)).mono hsz2))).mono ?_); rintro e w3 ⟨rfl, hb⟩))
 refine hK.out _ _ ?_ (fun hHeld => ?_)
 · (try dsimp only); (first | assumption | exact hs | exact KQ.out.dr _ hs | exact KQ.out.dr _ (by assumption) | exact KQ.out.on _ _ (by assumption) (by assumption) | exact KQ.out.al _ _ (by assumption) | exact KQ.out.ald _ _ (by assumption) | exact KQ.out.al _ _ hs | exact KQ.out.ald _ _ hs)
 clear hK K
 try simp only [Act.put, List.setIfInBounds_toArray, List.set_cons_zero, List.set_cons_succ]
 refine wpAnyH_ready (rs := [9]) (by kernel_rfl) (by simp) ?_
 refine AllReadyH.cons rfl (fun K hK => ?_) AllReadyH.nil
 go_simp
 (first | (go_at_call 16; (with_reducible refine (R1 _ (HB2.out.trans ((BE _ (by assumption)).mono hsz2))).mono ?_); rintro e w3 ⟨rfl, hb⟩) | (go_at_call 17; (with_reducible refine (R2 _ (HB2.out.trans ((BE _ (by assumption)).mono hsz2))).mono ?_); rintro e w3 ⟨rfl, hb⟩) | (go_at_call 18; (with_reducible refine (S1 _ (HB2.out.trans ((BE _ (by assumption)).mono hsz2))).mono ?_); rintro e w3 ⟨rfl, hb⟩) | (go_at_call 19; (with_reducible refine (S2 _ (HB2.out.trans ((BE _ (by assumption)).mono hsz2))).mono ?_); rintro e w3 ⟨rfl, hb⟩) | (go_at_call 8; (with_reducible refine (AW _ (HB2.out.trans ((BE _ (by assumption)).mono hsz2))).mono ?_); rintro e w3 ⟨rfl, hb⟩))
 refine hK.out _ _ ?_ (fun hHeld => ?_)
 · (try dsimp only); (first | assumption | exact hs | exact KQ.out.dr _ hs | exact KQ.out.dr _ (by assumption) | exact KQ.out.on _ _ (by assumption) (by assumption) | exact KQ.out.al _ _ (by assumption) | exact KQ.out.ald _ _ (by assumption) | exact KQ.out.al _ _ hs | exact KQ.out.ald _ _ hs)
 clear hK K
 try simp only [Act.put, List.setIfInBounds_toArray, List.set_cons_zero, List.set_cons_succ]
 refine heldY 10 18 ?_ _ rfl rfl (by kernel_rfl) (by kernel_rfl) (by kernel_rfl) (fun _ _ _ h => h) rfl (by assumption) ?_ ?_
 rotate_left
 · (intro w hSw; (try dsimp only at hSw); go_simp; (try with_reducible rfl))
 try simp only [List.setIfInBounds_toArray, List.set_cons_zero, List.set_cons_succ]
 refine heldY 11 19 ?_ _ rfl rfl (by kernel_rfl) (by kernel_rfl) (by kernel_rfl) (fun _ _ _ h => h) rfl (by assumption) ?_ ?_
 rotate_left
 · (intro w hSw; (try dsimp only at hSw); go_simp; (try with_reducible rfl))
 try simp only [List.setIfInBounds_toArray, List.set_cons_zero, List.set_cons_succ]
 refine heldY 12 20 ?_ _ rfl rfl (by kernel_rfl) (by kernel_rfl) (by kernel_rfl) (fun _ _ _ h => h) rfl (by assumption) ?_ ?_
 rotate_left
 · (intro w hSw; (try dsimp only at hSw); go_simp; (try with_reducible rfl))
 try simp only [List.setIfInBounds_toArray, List.set_cons_zero, List.set_cons_succ]
 refine wpAnyH_ready (rs := [13]) (by kernel_rfl) (by simp) ?_
 refine AllReadyH.cons rfl (fun K hK => ?_) AllReadyH.nil
 go_simp
 (first | (go_at_call 16; (with_reducible refine (R1 _ (HB2.out.trans ((BE _ (by assumption)).mono hsz2))).mono ?_); rintro e w3 ⟨rfl, hb⟩) | (go_at_call 17; (with_reducible refine (R2 _ (HB2.out.trans ((BE _ (by assumption)).mono hsz2))).mono ?_); rintro e w3 ⟨rfl, hb⟩) | (go_at_call 18; (with_reducible refine (S1 _ (HB2.out.trans ((BE _ (by assumption)).mono hsz2))).mono ?_); rintro e w3 ⟨rfl, hb⟩) | (go_at_call 19; (with_reducible refine (S2 _ (HB2.out.trans ((BE _ (by assumption)).mono hsz2))).mono ?_); rintro e w3 ⟨rfl, hb⟩) | (go_at_call 8; (with_reducible refine (AW _ (HB2.out.trans ((BE _ (by assumption)).mono hsz2))).mono ?_); rintro e w3 ⟨rfl, hb⟩))
 refine hK.out _ _ ?_ (fun hHeld => ?_)
 · (try dsimp only); (first | assumption | exact hs | exact KQ.out.dr _ hs | exact KQ.out.dr _ (by assumption) | exact KQ.out.on _ _ (by assumption) (by assumption) | exact KQ.out.al _ _ (by assumption) | exact KQ.out.ald _ _ (by assumption) | exact KQ.out.al _ _ hs | exact KQ.out.ald _ _ hs)
 clear hK K
 try simp only [Act.put, List.setIfInBounds_toArray, List.set_cons_zero, List.set_cons_succ]
 refine heldY 14 22 ?_ _ rfl rfl (by kernel_rfl) (by kernel_rfl) (by kernel_rfl) (fun _ _ _ h => h) rfl (by assumption) ?_ ?_
 rotate_left
 · (intro w hSw; (try dsimp only at hSw); go_simp; (try with_reducible rfl))
 try simp only [List.setIfInBounds_toArray, List.set_cons_zero, List.set_cons_succ]
 refine heldY 15 2 ?_ _ rfl rfl (by kernel_rfl) (by kernel_rfl) (by kernel_rfl) (fun _ _ _ h => h) rfl (by assumption) ?_ ?_
 rotate_left
 · (intro w hSw; (try dsimp only at hSw); go_simp; (try with_reducible rfl))
 try simp only [List.setIfInBounds_toArray, List.set_cons_zero, List.set_cons_succ]
 refine wpAnyH_done (by kernel_rfl) ?_ _
 have HW3 := Lib.hid (HB2.out.trans ((BE _ hHeld).mono hsz2))
 clear hHeld
 go_wp2
 go_ret
 exact ⟨rfl, HW3.out⟩
end URightsW
end Go.Proofs.YtnnagboeimeiiaaGreatDoor
