import Derived.Test.YtnnagboeimeiiaaGreatDoorWURight3
import Derived.Test.YtnnagboeimeiiaaGreatDoorWUKeyT
import Derived.Test.YtnnagboeimeiiaaGreatDoorWUKeyF
import Derived.Test.YtnnagboeimeiiaaGreatDoorWParseDigits
import Derived.Test.YtnnagboeimeiiaaGreatDoorWSWords
import Derived.Deep.QuietTactic
import Derived.BigQuiet
import Derived.IntWalk
namespace Go.Proofs.YtnnagboeimeiiaaGreatDoor
open Go.RowKit Go.Shelf
def confB (x : Bs × Bs) : Bool := right x.1 && (numOf 16 16 x.2).isSome
set_option maxRecDepth 100000 in
set_option maxHeartbeats 8000000 in
theorem rightConf_any (X0 X1 : ByteArray) (h0 : X0.size ≤ 4000) (h1 : X1.size ≤ 4000) (w : World) (hP : LaidP w) (hE : LaidE w) : Calls Tryz.prog 99 #[.agg #[.string X0, .string X1]] w fun e w' => e = .returned (.bool (confB (X0.data.toList, X1.data.toList))) ∧ Below w.heap.size w w' := by
 obtain ⟨x0, x1⟩ := boxV2U w (.string X0) (.string X1) 55
 have B0 := Lib.hid ((Below.refl w.heap.size w).alloc (Nat.le_refl _) (.cells #[.string X0, .string X1] 55))
 have hlt : w.heap.size < (w.alloc (.cells #[.string X0, .string X1] 55)).heap.size := by simp
 have HE := hE.on B0.out
 have HP := Lib.hid (hP.on B0.out)
 have C1 : ∃ n z : Int, (z == 0) = (numOf 16 16 X1.data.toList).isSome ∧ Calls Tryz.prog 148 #[.string X1] (w.alloc (.cells #[.string X0, .string X1] 55)) fun e w' => e = .returned (.tuple #[.int .u64 n, .int .i64 z]) ∧ Below (w.alloc (.cells #[.string X0, .string X1] 55)).heap.size (w.alloc (.cells #[.string X0, .string X1] 55)) w' := by
   have H := parseHex_any X1 h1 _ HE
   cases hn : numOf 16 16 X1.data.toList with
   | none => exact ⟨0, 2, rfl, H.mono fun e w' he => by unfold PdPost at he; rw [hn] at he; exact he⟩
   | some n => exact ⟨n, 0, rfl, H.mono fun e w' he => by unfold PdPost at he; rw [hn] at he; exact he⟩
 obtain ⟨n, z, hz, C1⟩ := C1
 have C2 := fun W (hb : Below (w.alloc (.cells #[.string X0, .string X1] 55)).heap.size (w.alloc (.cells #[.string X0, .string X1] 55)) W) => right_any X0 h0 W (HP.out.on hb)
 unfold confB
 dsimp only
 rw [← hz]
 clear hz hP hE HE
 generalize right X0.data.toList = q at *
 generalize hy : (z == 0) = y
 cases q <;> cases y
 all_goals
   go_enter Tryz.func99, Tryz.ntmps99
   go_wp2_with (first
     | (go_at_call 148; (with_reducible refine C1.mono ?_); rintro e w1 ⟨rfl, hb⟩; have HB1 := Lib.hid hb; have y0 := (HB1.out.cell (p := ⟨w.heap.size, 0, none⟩) hlt).trans x0; clear hb)
     | (go_at_call 149; (with_reducible refine (C2 _ HB1.out).mono ?_); rintro e w2 ⟨rfl, hb⟩; have HB2 := Lib.hid (HB1.out.trans (hb.mono HB1.out.size)); clear hb))
   go_ret
   exact ⟨rfl, B0.out.trans (HB2.out.mono B0.out.size)⟩
noncomputable def rlB (rp : List Bs) (cf : List (Bs × Bs)) (pd aw : List Bs) : Bool := (decide (rp.length ≤ 64) && rp.all nameB) && (kchkK confB (fun x => x.1) cf == 0) && (kchkK trigB (fun x => x) pd == 0) && (kchkK nameB (fun x => x) aw == 0)
theorem predF {cf : List (Bs × Bs)} {w : World} (hs : ∀ x ∈ cf, x.1.length ≤ 4000 ∧ x.2.length ≤ 4000) (hP : LaidP w) (hE : LaidE w) : PredKF 99 #[] cf confB w := fun x hx W hW => by
 obtain ⟨h0, h1⟩ := hs x hx
 have := rightConf_any (bsT x.1) (bsT x.2) (by rw [sizeOf, bytesOf]; exact h0) (by rw [sizeOf, bytesOf]; exact h1) W (hP.on hW) (hE.on hW)
 rw [bytesOf, bytesOf] at this
 exact this
theorem predT {l : List Bs} {w : World} (hs : ∀ x ∈ l, x.length ≤ 4000) (hP : LaidP w) : PredKT 102 #[] l trigB w := fun x hx W hW => by
 have := trig_any (bsT x) (by rw [sizeOf, bytesOf]; exact hs x hx) W (hP.on hW)
 rw [bytesOf] at this
 exact this
theorem predN {l : List Bs} {w : World} (hs : ∀ x ∈ l, x.length ≤ 4000) : PredKT 46 #[] l nameB w := fun x hx W hW => by
 have := name_any (bsT x) (by rw [sizeOf, bytesOf]; exact hs x hx) W
 rw [bytesOf] at this
 exact this.mono fun e w' h => ⟨h.1, by rw [h.2]; exact Below.refl _ _⟩
set_option maxRecDepth 100000 in
set_option maxHeartbeats 8000000 in
theorem rightListsU_any (X0 X1 : ByteArray) (z : Int) (a3 a4 a5 a6 a7 a8 : Option Addr) (n3 n4 n5 n6 n7 n8 m3 m4 m5 m6 m7 m8 : Nat) (rp : List Bs) (cf : List (Bs × Bs)) (pd aw : List Bs) (hl5 : rp.length ≤ 90000) (hs5 : ∀ x ∈ rp, x.length ≤ maxLen) (hl6 : cf.length ≤ 90000) (hs6 : ∀ x ∈ cf, x.1.length ≤ 4000 ∧ x.2.length ≤ 4000) (hl7 : pd.length ≤ 90000) (hs7 : ∀ x ∈ pd, x.length ≤ 4000) (hl8 : aw.length ≤ 90000) (hs8 : ∀ x ∈ aw, x.length ≤ 4000) (w : World) (h5 : HoldT w (.slice a5 n5 m5) rp) (h6 : HoldW2 w (.slice a6 n6 m6) cf) (h7 : HoldT w (.slice a7 n7 m7) pd) (h8 : HoldT w (.slice a8 n8 m8) aw) (hP : LaidP w) (hE : LaidE w) : Calls Tryz.prog 50 #[.agg #[.string X0, .string X1, .int .i64 z, .slice a3 n3 m3, .slice a4 n4 m4, .slice a5 n5 m5, .slice a6 n6 m6, .slice a7 n7 m7, .slice a8 n8 m8]] w fun e w' => e = .returned (.bool (rlB rp cf pd aw)) ∧ Below w.heap.size w w' := by
 obtain ⟨x0, x1, x2, x3, x4, x5, x6, x7, x8⟩ := boxV9 w (.string X0) (.string X1) (.int .i64 z) (.slice a3 n3 m3) (.slice a4 n4 m4) (.slice a5 n5 m5) (.slice a6 n6 m6) (.slice a7 n7 m7) (.slice a8 n8 m8) 43
 have B0 := Lib.hid ((Below.refl w.heap.size w).alloc (Nat.le_refl _) (.cells #[.string X0, .string X1, .int .i64 z, .slice a3 n3 m3, .slice a4 n4 m4, .slice a5 n5 m5, .slice a6 n6 m6, .slice a7 n7 m7, .slice a8 n8 m8] 43))
 have hlt : w.heap.size < (w.alloc (.cells #[.string X0, .string X1, .int .i64 z, .slice a3 n3 m3, .slice a4 n4 m4, .slice a5 n5 m5, .slice a6 n6 m6, .slice a7 n7 m7, .slice a8 n8 m8] 43)).heap.size := by simp
 have HB0 := Lib.hid (Below.refl (w.alloc (.cells #[.string X0, .string X1, .int .i64 z, .slice a3 n3 m3, .slice a4 n4 m4, .slice a5 n5 m5, .slice a6 n6 m6, .slice a7 n7 m7, .slice a8 n8 m8] 43)).heap.size (w.alloc (.cells #[.string X0, .string X1, .int .i64 z, .slice a3 n3 m3, .slice a4 n4 m4, .slice a5 n5 m5, .slice a6 n6 m6, .slice a7 n7 m7, .slice a8 n8 m8] 43)))
 have C1 := fun W (hb : Below (w.alloc (.cells #[.string X0, .string X1, .int .i64 z, .slice a3 n3 m3, .slice a4 n4 m4, .slice a5 n5 m5, .slice a6 n6 m6, .slice a7 n7 m7, .slice a8 n8 m8] 43)).heap.size (w.alloc (.cells #[.string X0, .string X1, .int .i64 z, .slice a3 n3 m3, .slice a4 n4 m4, .slice a5 n5 m5, .slice a6 n6 m6, .slice a7 n7 m7, .slice a8 n8 m8] 43)) W) => rightRepU_any (.slice a5 n5 m5) rp hl5 hs5 W ((h5.on B0.out).on hb)
 have C2 := fun W (hb : Below (w.alloc (.cells #[.string X0, .string X1, .int .i64 z, .slice a3 n3 m3, .slice a4 n4 m4, .slice a5 n5 m5, .slice a6 n6 m6, .slice a7 n7 m7, .slice a8 n8 m8] 43)).heap.size (w.alloc (.cells #[.string X0, .string X1, .int .i64 z, .slice a3 n3 m3, .slice a4 n4 m4, .slice a5 n5 m5, .slice a6 n6 m6, .slice a7 n7 m7, .slice a8 n8 m8] 43)) W) => kcheckF_any 99 #[] (enters_of Tryz.func99 (by kernel_rfl) rfl) confB (.slice a6 n6 m6) cf hl6 W (HoldV.on (HoldV.on h6 B0.out) hb) (predF hs6 ((hP.on B0.out).on hb) ((hE.on B0.out).on hb))
 have C3 := fun W (hb : Below (w.alloc (.cells #[.string X0, .string X1, .int .i64 z, .slice a3 n3 m3, .slice a4 n4 m4, .slice a5 n5 m5, .slice a6 n6 m6, .slice a7 n7 m7, .slice a8 n8 m8] 43)).heap.size (w.alloc (.cells #[.string X0, .string X1, .int .i64 z, .slice a3 n3 m3, .slice a4 n4 m4, .slice a5 n5 m5, .slice a6 n6 m6, .slice a7 n7 m7, .slice a8 n8 m8] 43)) W) => kcheckT_any 102 #[] (enters_of Tryz.func102 (by kernel_rfl) rfl) trigB (.slice a7 n7 m7) pd hl7 W ((h7.on B0.out).on hb) (predT hs7 ((hP.on B0.out).on hb))
 have C4 := fun W (hb : Below (w.alloc (.cells #[.string X0, .string X1, .int .i64 z, .slice a3 n3 m3, .slice a4 n4 m4, .slice a5 n5 m5, .slice a6 n6 m6, .slice a7 n7 m7, .slice a8 n8 m8] 43)).heap.size (w.alloc (.cells #[.string X0, .string X1, .int .i64 z, .slice a3 n3 m3, .slice a4 n4 m4, .slice a5 n5 m5, .slice a6 n6 m6, .slice a7 n7 m7, .slice a8 n8 m8] 43)) W) => kcheckT_any 46 #[] (enters_of Tryz.func46 (by kernel_rfl) rfl) nameB (.slice a8 n8 m8) aw hl8 W ((h8.on B0.out).on hb) (predN hs8)
 unfold keyFF at C2
 unfold keyFT at C3 C4
 unfold rlB
 generalize (decide (rp.length ≤ 64) && rp.all nameB) = q1 at *
 generalize kchkK confB (fun x => x.1) cf = z2 at *
 generalize kchkK trigB (fun x => x) pd = z3 at *
 generalize kchkK nameB (fun x => x) aw = z4 at *
 clear hl5 hs5 hl6 hs6 hl7 hs7 hl8 hs8 h5 h6 h7 h8 hP hE
 generalize hq2 : (z2 == 0) = q2
 generalize hq3 : (z3 == 0) = q3
 generalize hq4 : (z4 == 0) = q4
 cases q1
 · go_enter Tryz.func50, Tryz.ntmps50
   go_wp2_with (first
     | (go_at_call 96; (with_reducible refine (C1 _ HB0.out).mono ?_); rintro e w1 ⟨rfl, hb⟩; have HB1 := Lib.hid (HB0.out.trans (hb.mono HB0.out.size)); have y1_6 := (HB1.out.cell (p := ⟨w.heap.size, 6, none⟩) hlt).trans x6; clear hb))
   go_ret
   exact ⟨rfl, B0.out.trans (HB1.out.mono B0.out.size)⟩
 cases q2
 · go_enter Tryz.func50, Tryz.ntmps50
   go_wp2_with (first
     | (go_at_call 97; (with_reducible refine (C2 _ HB1.out).mono ?_); rintro e w2 ⟨rfl, hb⟩; have HB2 := Lib.hid (HB1.out.trans (hb.mono HB1.out.size)); have y2_7 := (HB2.out.cell (p := ⟨w.heap.size, 7, none⟩) hlt).trans x7; clear hb)
     | (go_at_call 96; (with_reducible refine (C1 _ HB0.out).mono ?_); rintro e w1 ⟨rfl, hb⟩; have HB1 := Lib.hid (HB0.out.trans (hb.mono HB0.out.size)); have y1_6 := (HB1.out.cell (p := ⟨w.heap.size, 6, none⟩) hlt).trans x6; clear hb))
   go_ret
   exact ⟨rfl, B0.out.trans (HB2.out.mono B0.out.size)⟩
 cases q3
 · go_enter Tryz.func50, Tryz.ntmps50
   go_wp2_with (first
     | (go_at_call 100; (with_reducible refine (C3 _ HB2.out).mono ?_); rintro e w3 ⟨rfl, hb⟩; have HB3 := Lib.hid (HB2.out.trans (hb.mono HB2.out.size)); have y3_8 := (HB3.out.cell (p := ⟨w.heap.size, 8, none⟩) hlt).trans x8; clear hb)
     | (go_at_call 97; (with_reducible refine (C2 _ HB1.out).mono ?_); rintro e w2 ⟨rfl, hb⟩; have HB2 := Lib.hid (HB1.out.trans (hb.mono HB1.out.size)); have y2_7 := (HB2.out.cell (p := ⟨w.heap.size, 7, none⟩) hlt).trans x7; clear hb)
     | (go_at_call 96; (with_reducible refine (C1 _ HB0.out).mono ?_); rintro e w1 ⟨rfl, hb⟩; have HB1 := Lib.hid (HB0.out.trans (hb.mono HB0.out.size)); have y1_6 := (HB1.out.cell (p := ⟨w.heap.size, 6, none⟩) hlt).trans x6; clear hb))
   go_ret
   exact ⟨rfl, B0.out.trans (HB3.out.mono B0.out.size)⟩
 cases q4
 · go_enter Tryz.func50, Tryz.ntmps50
   go_wp2_with (first
     | (go_at_call 100; (with_reducible refine (C4 _ HB3.out).mono ?_); rintro e w4 ⟨rfl, hb⟩; have HB4 := Lib.hid (HB3.out.trans (hb.mono HB3.out.size)); clear hb)
     | (go_at_call 100; (with_reducible refine (C3 _ HB2.out).mono ?_); rintro e w3 ⟨rfl, hb⟩; have HB3 := Lib.hid (HB2.out.trans (hb.mono HB2.out.size)); have y3_8 := (HB3.out.cell (p := ⟨w.heap.size, 8, none⟩) hlt).trans x8; clear hb)
     | (go_at_call 97; (with_reducible refine (C2 _ HB1.out).mono ?_); rintro e w2 ⟨rfl, hb⟩; have HB2 := Lib.hid (HB1.out.trans (hb.mono HB1.out.size)); have y2_7 := (HB2.out.cell (p := ⟨w.heap.size, 7, none⟩) hlt).trans x7; clear hb)
     | (go_at_call 96; (with_reducible refine (C1 _ HB0.out).mono ?_); rintro e w1 ⟨rfl, hb⟩; have HB1 := Lib.hid (HB0.out.trans (hb.mono HB0.out.size)); have y1_6 := (HB1.out.cell (p := ⟨w.heap.size, 6, none⟩) hlt).trans x6; clear hb))
   go_ret
   exact ⟨rfl, B0.out.trans (HB4.out.mono B0.out.size)⟩
 go_enter Tryz.func50, Tryz.ntmps50
 go_wp2_with (first
   | (go_at_call 100; (with_reducible refine (C4 _ HB3.out).mono ?_); rintro e w4 ⟨rfl, hb⟩; have HB4 := Lib.hid (HB3.out.trans (hb.mono HB3.out.size)); clear hb)
   | (go_at_call 100; (with_reducible refine (C3 _ HB2.out).mono ?_); rintro e w3 ⟨rfl, hb⟩; have HB3 := Lib.hid (HB2.out.trans (hb.mono HB2.out.size)); have y3_8 := (HB3.out.cell (p := ⟨w.heap.size, 8, none⟩) hlt).trans x8; clear hb)
   | (go_at_call 97; (with_reducible refine (C2 _ HB1.out).mono ?_); rintro e w2 ⟨rfl, hb⟩; have HB2 := Lib.hid (HB1.out.trans (hb.mono HB1.out.size)); have y2_7 := (HB2.out.cell (p := ⟨w.heap.size, 7, none⟩) hlt).trans x7; clear hb)
   | (go_at_call 96; (with_reducible refine (C1 _ HB0.out).mono ?_); rintro e w1 ⟨rfl, hb⟩; have HB1 := Lib.hid (HB0.out.trans (hb.mono HB0.out.size)); have y1_6 := (HB1.out.cell (p := ⟨w.heap.size, 6, none⟩) hlt).trans x6; clear hb))
 go_ret
 exact ⟨rfl, B0.out.trans (HB4.out.mono B0.out.size)⟩
structure SmallU (x : Uv) : Prop where
 nm : x.nm.length ≤ 4000
 vr : x.vr.length ≤ 4000
 dn : x.dp.length ≤ 70
 dp : BigG x.dp
 cl : x.cn.length ≤ 70
 cq : BigQ x.cn
 rl : x.rp.length ≤ 70
 rp : ∀ s ∈ x.rp, s.length ≤ 4000
 fl : x.cf.length ≤ 70
 cf : ∀ c ∈ x.cf, c.1.length ≤ 4000 ∧ c.2.length ≤ 4000
 pl : x.pd.length ≤ 70
 pd : ∀ s ∈ x.pd, s.length ≤ 4000
 al : x.aw.length ≤ 70
 aw : ∀ s ∈ x.aw, s.length ≤ 4000
noncomputable def rightU (x : Uv) : Bool := nameB x.nm && decide ((parseE x.vr).2 = 0) && stateOkU x.st x.pd.length x.aw.length && (decide ((allE (fsts x.dp)).2 = 0) && decide ((listE x.cn).2 = 0)) && rlB x.rp x.cf x.pd x.aw
abbrev agU (x : Uv) : Value := .agg #[.string ((⟨x.nm.toArray⟩ : ByteArray)), .string ((⟨x.vr.toArray⟩ : ByteArray)), .int .i64 x.st, x.dv, x.cv, x.rv, x.fv, x.pv, x.av]
theorem le_maxLen {n : Nat} (h : n ≤ 4000) : n ≤ maxLen := Nat.le_trans h (by unfold maxLen; decide)
set_option maxRecDepth 100000 in
set_option maxHeartbeats 8000000 in
theorem rightAll_any (X0 X1 : ByteArray) (z : Int) (a3 a4 a5 a6 a7 a8 : Option Addr) (n3 n4 n5 n6 n7 n8 m3 m4 m5 m6 m7 m8 : Nat) (dp : List Gv) (cn : List Rl) (rp : List Bs) (cf : List (Bs × Bs)) (pd aw : List Bs) (hx : SmallU ⟨X0.data.toList, X1.data.toList, z, dp, cn, rp, cf, pd, aw, .slice a3 n3 m3, .slice a4 n4 m4, .slice a5 n5 m5, .slice a6 n6 m6, .slice a7 n7 m7, .slice a8 n8 m8⟩) (e7 : n7 = pd.length) (e8 : n8 = aw.length) (w : World) (h : InU w ⟨X0.data.toList, X1.data.toList, z, dp, cn, rp, cf, pd, aw, .slice a3 n3 m3, .slice a4 n4 m4, .slice a5 n5 m5, .slice a6 n6 m6, .slice a7 n7 m7, .slice a8 n8 m8⟩) (hL : LaidU w) (hE : LaidE w) : Calls Tryz.prog 16 #[.agg #[.string X0, .string X1, .int .i64 z, .slice a3 n3 m3, .slice a4 n4 m4, .slice a5 n5 m5, .slice a6 n6 m6, .slice a7 n7 m7, .slice a8 n8 m8]] w fun e w' => e = .returned (.bool (nameB X0.data.toList && decide ((parseE X1.data.toList).2 = 0) && stateOkU z n7 n8 && (decide ((allE (fsts dp)).2 = 0) && decide ((listE cn).2 = 0)) && rlB rp cf pd aw)) ∧ Below w.heap.size w w' := by
 obtain ⟨h3, h4, h5, h6, h7, h8⟩ := h
 obtain ⟨k1, k2, k3, k4, k5, k6, k7, k8, k9, k10, k11, k12, k13, k14⟩ := hx
 dsimp only at h3 h4 h5 h6 h7 h8 k1 k2 k3 k4 k5 k6 k7 k8 k9 k10 k11 k12 k13 k14
 have s0 : X0.size ≤ 4000 := by rw [sizeOf]; exact k1
 have s1 : X1.size ≤ 4000 := by rw [sizeOf]; exact k2
 obtain ⟨x0, x1, x2, x3, x4, x5, x6, x7, x8⟩ := boxV9 w (.string X0) (.string X1) (.int .i64 z) (.slice a3 n3 m3) (.slice a4 n4 m4) (.slice a5 n5 m5) (.slice a6 n6 m6) (.slice a7 n7 m7) (.slice a8 n8 m8) 43
 have B0 := Lib.hid ((Below.refl w.heap.size w).alloc (Nat.le_refl _) (.cells #[.string X0, .string X1, .int .i64 z, .slice a3 n3 m3, .slice a4 n4 m4, .slice a5 n5 m5, .slice a6 n6 m6, .slice a7 n7 m7, .slice a8 n8 m8] 43))
 have hlt : w.heap.size < (w.alloc (.cells #[.string X0, .string X1, .int .i64 z, .slice a3 n3 m3, .slice a4 n4 m4, .slice a5 n5 m5, .slice a6 n6 m6, .slice a7 n7 m7, .slice a8 n8 m8] 43)).heap.size := by simp
 have HB0 := Lib.hid (Below.refl (w.alloc (.cells #[.string X0, .string X1, .int .i64 z, .slice a3 n3 m3, .slice a4 n4 m4, .slice a5 n5 m5, .slice a6 n6 m6, .slice a7 n7 m7, .slice a8 n8 m8] 43)).heap.size (w.alloc (.cells #[.string X0, .string X1, .int .i64 z, .slice a3 n3 m3, .slice a4 n4 m4, .slice a5 n5 m5, .slice a6 n6 m6, .slice a7 n7 m7, .slice a8 n8 m8] 43)))
 have C0 : ∀ W, Calls Tryz.prog 46 #[.string X0] W fun e w' => e = .returned (.bool (nameB X0.data.toList)) ∧ Below W.heap.size W w' := fun W => (name_any X0 s0 W).mono fun e w' h => ⟨h.1, by rw [h.2]; exact Below.refl _ _⟩
 have C1 := fun W (hb : Below (w.alloc (.cells #[.string X0, .string X1, .int .i64 z, .slice a3 n3 m3, .slice a4 n4 m4, .slice a5 n5 m5, .slice a6 n6 m6, .slice a7 n7 m7, .slice a8 n8 m8] 43)).heap.size (w.alloc (.cells #[.string X0, .string X1, .int .i64 z, .slice a3 n3 m3, .slice a4 n4 m4, .slice a5 n5 m5, .slice a6 n6 m6, .slice a7 n7 m7, .slice a8 n8 m8] 43)) W) => rightVerU_any X1 (le_maxLen s1) W ((hL.on B0.out).on hb).q.v
 have C2 := fun W (hb : Below (w.alloc (.cells #[.string X0, .string X1, .int .i64 z, .slice a3 n3 m3, .slice a4 n4 m4, .slice a5 n5 m5, .slice a6 n6 m6, .slice a7 n7 m7, .slice a8 n8 m8] 43)).heap.size (w.alloc (.cells #[.string X0, .string X1, .int .i64 z, .slice a3 n3 m3, .slice a4 n4 m4, .slice a5 n5 m5, .slice a6 n6 m6, .slice a7 n7 m7, .slice a8 n8 m8] 43)) W) => rightStateU_any X0 X1 z a3 a4 a5 a6 a7 a8 n3 n4 n5 n6 n7 n8 m3 m4 m5 m6 m7 m8 W ((hL.on B0.out).on hb)
 have C3 := fun W (hb : Below (w.alloc (.cells #[.string X0, .string X1, .int .i64 z, .slice a3 n3 m3, .slice a4 n4 m4, .slice a5 n5 m5, .slice a6 n6 m6, .slice a7 n7 m7, .slice a8 n8 m8] 43)).heap.size (w.alloc (.cells #[.string X0, .string X1, .int .i64 z, .slice a3 n3 m3, .slice a4 n4 m4, .slice a5 n5 m5, .slice a6 n6 m6, .slice a7 n7 m7, .slice a8 n8 m8] 43)) W) => rightRelsU_any X0 X1 z a3 a4 a5 a6 a7 a8 n3 n4 n5 n6 n7 n8 m3 m4 m5 m6 m7 m8 dp cn (by omega) k4 (by omega) k6 W ((HoldGs.on h3 B0.out).on hb) (HoldV.on (HoldV.on h4 B0.out) hb) ((hL.on B0.out).on hb)
 have C4 := fun W (hb : Below (w.alloc (.cells #[.string X0, .string X1, .int .i64 z, .slice a3 n3 m3, .slice a4 n4 m4, .slice a5 n5 m5, .slice a6 n6 m6, .slice a7 n7 m7, .slice a8 n8 m8] 43)).heap.size (w.alloc (.cells #[.string X0, .string X1, .int .i64 z, .slice a3 n3 m3, .slice a4 n4 m4, .slice a5 n5 m5, .slice a6 n6 m6, .slice a7 n7 m7, .slice a8 n8 m8] 43)) W) => rightListsU_any X0 X1 z a3 a4 a5 a6 a7 a8 n3 n4 n5 n6 n7 n8 m3 m4 m5 m6 m7 m8 rp cf pd aw (by omega) (fun x hx => le_maxLen (k8 x hx)) (by omega) k10 (by omega) k12 (by omega) k14 W ((h5.on B0.out).on hb) (HoldV.on (HoldV.on h6 B0.out) hb) ((h7.on B0.out).on hb) ((h8.on B0.out).on hb) ((hL.on B0.out).on hb).p ((hE.on B0.out).on hb)
 generalize nameB X0.data.toList = q1 at *
 generalize decide ((parseE X1.data.toList).2 = 0) = q2 at *
 generalize stateOkU z n7 n8 = q3 at *
 generalize (decide ((allE (fsts dp)).2 = 0) && decide ((listE cn).2 = 0)) = q4 at *
 generalize rlB rp cf pd aw = q5 at *
 clear h3 h4 h5 h6 h7 h8 k1 k2 k3 k4 k5 k6 k7 k8 k9 k10 k11 k12 k13 k14 e7 e8 hL hE s0 s1
 cases q1
 · go_enter Tryz.func16, Tryz.ntmps16
   go_wp2_with (first
     | (go_at_call 46; (with_reducible refine (C0 _).mono ?_); rintro e w1 ⟨rfl, hb⟩; have HB1 := Lib.hid (HB0.out.trans (hb.mono HB0.out.size)); have y1_1 := (HB1.out.cell (p := ⟨w.heap.size, 1, none⟩) hlt).trans x1; clear hb))
   go_ret
   exact ⟨rfl, B0.out.trans (HB1.out.mono B0.out.size)⟩
 cases q2
 · go_enter Tryz.func16, Tryz.ntmps16
   go_wp2_with (first
     | (go_at_call 47; (with_reducible refine (C1 _ HB1.out).mono ?_); rintro e w2 ⟨rfl, hb⟩; have HB2 := Lib.hid (HB1.out.trans (hb.mono HB1.out.size)); have y2_0 := (HB2.out.cell (p := ⟨w.heap.size, 0, none⟩) hlt).trans x0; have y2_1 := (HB2.out.cell (p := ⟨w.heap.size, 1, none⟩) hlt).trans x1; have y2_2 := (HB2.out.cell (p := ⟨w.heap.size, 2, none⟩) hlt).trans x2; have y2_3 := (HB2.out.cell (p := ⟨w.heap.size, 3, none⟩) hlt).trans x3; have y2_4 := (HB2.out.cell (p := ⟨w.heap.size, 4, none⟩) hlt).trans x4; have y2_5 := (HB2.out.cell (p := ⟨w.heap.size, 5, none⟩) hlt).trans x5; have y2_6 := (HB2.out.cell (p := ⟨w.heap.size, 6, none⟩) hlt).trans x6; have y2_7 := (HB2.out.cell (p := ⟨w.heap.size, 7, none⟩) hlt).trans x7; have y2_8 := (HB2.out.cell (p := ⟨w.heap.size, 8, none⟩) hlt).trans x8; clear hb)
     | (go_at_call 46; (with_reducible refine (C0 _).mono ?_); rintro e w1 ⟨rfl, hb⟩; have HB1 := Lib.hid (HB0.out.trans (hb.mono HB0.out.size)); have y1_1 := (HB1.out.cell (p := ⟨w.heap.size, 1, none⟩) hlt).trans x1; clear hb))
   go_ret
   exact ⟨rfl, B0.out.trans (HB2.out.mono B0.out.size)⟩
 cases q3
 · go_enter Tryz.func16, Tryz.ntmps16
   go_wp2_with (first
     | (go_at_call 48; (with_reducible refine (C2 _ HB2.out).mono ?_); rintro e w3 ⟨rfl, hb⟩; have HB3 := Lib.hid (HB2.out.trans (hb.mono HB2.out.size)); have y3_0 := (HB3.out.cell (p := ⟨w.heap.size, 0, none⟩) hlt).trans x0; have y3_1 := (HB3.out.cell (p := ⟨w.heap.size, 1, none⟩) hlt).trans x1; have y3_2 := (HB3.out.cell (p := ⟨w.heap.size, 2, none⟩) hlt).trans x2; have y3_3 := (HB3.out.cell (p := ⟨w.heap.size, 3, none⟩) hlt).trans x3; have y3_4 := (HB3.out.cell (p := ⟨w.heap.size, 4, none⟩) hlt).trans x4; have y3_5 := (HB3.out.cell (p := ⟨w.heap.size, 5, none⟩) hlt).trans x5; have y3_6 := (HB3.out.cell (p := ⟨w.heap.size, 6, none⟩) hlt).trans x6; have y3_7 := (HB3.out.cell (p := ⟨w.heap.size, 7, none⟩) hlt).trans x7; have y3_8 := (HB3.out.cell (p := ⟨w.heap.size, 8, none⟩) hlt).trans x8; clear hb)
     | (go_at_call 47; (with_reducible refine (C1 _ HB1.out).mono ?_); rintro e w2 ⟨rfl, hb⟩; have HB2 := Lib.hid (HB1.out.trans (hb.mono HB1.out.size)); have y2_0 := (HB2.out.cell (p := ⟨w.heap.size, 0, none⟩) hlt).trans x0; have y2_1 := (HB2.out.cell (p := ⟨w.heap.size, 1, none⟩) hlt).trans x1; have y2_2 := (HB2.out.cell (p := ⟨w.heap.size, 2, none⟩) hlt).trans x2; have y2_3 := (HB2.out.cell (p := ⟨w.heap.size, 3, none⟩) hlt).trans x3; have y2_4 := (HB2.out.cell (p := ⟨w.heap.size, 4, none⟩) hlt).trans x4; have y2_5 := (HB2.out.cell (p := ⟨w.heap.size, 5, none⟩) hlt).trans x5; have y2_6 := (HB2.out.cell (p := ⟨w.heap.size, 6, none⟩) hlt).trans x6; have y2_7 := (HB2.out.cell (p := ⟨w.heap.size, 7, none⟩) hlt).trans x7; have y2_8 := (HB2.out.cell (p := ⟨w.heap.size, 8, none⟩) hlt).trans x8; clear hb)
     | (go_at_call 46; (with_reducible refine (C0 _).mono ?_); rintro e w1 ⟨rfl, hb⟩; have HB1 := Lib.hid (HB0.out.trans (hb.mono HB0.out.size)); have y1_1 := (HB1.out.cell (p := ⟨w.heap.size, 1, none⟩) hlt).trans x1; clear hb))
   go_ret
   exact ⟨rfl, B0.out.trans (HB3.out.mono B0.out.size)⟩
 cases q4
 · go_enter Tryz.func16, Tryz.ntmps16
   go_wp2_with (first
     | (go_at_call 49; (with_reducible refine (C3 _ HB3.out).mono ?_); rintro e w4 ⟨rfl, hb⟩; have HB4 := Lib.hid (HB3.out.trans (hb.mono HB3.out.size)); have y4_0 := (HB4.out.cell (p := ⟨w.heap.size, 0, none⟩) hlt).trans x0; have y4_1 := (HB4.out.cell (p := ⟨w.heap.size, 1, none⟩) hlt).trans x1; have y4_2 := (HB4.out.cell (p := ⟨w.heap.size, 2, none⟩) hlt).trans x2; have y4_3 := (HB4.out.cell (p := ⟨w.heap.size, 3, none⟩) hlt).trans x3; have y4_4 := (HB4.out.cell (p := ⟨w.heap.size, 4, none⟩) hlt).trans x4; have y4_5 := (HB4.out.cell (p := ⟨w.heap.size, 5, none⟩) hlt).trans x5; have y4_6 := (HB4.out.cell (p := ⟨w.heap.size, 6, none⟩) hlt).trans x6; have y4_7 := (HB4.out.cell (p := ⟨w.heap.size, 7, none⟩) hlt).trans x7; have y4_8 := (HB4.out.cell (p := ⟨w.heap.size, 8, none⟩) hlt).trans x8; clear hb)
     | (go_at_call 48; (with_reducible refine (C2 _ HB2.out).mono ?_); rintro e w3 ⟨rfl, hb⟩; have HB3 := Lib.hid (HB2.out.trans (hb.mono HB2.out.size)); have y3_0 := (HB3.out.cell (p := ⟨w.heap.size, 0, none⟩) hlt).trans x0; have y3_1 := (HB3.out.cell (p := ⟨w.heap.size, 1, none⟩) hlt).trans x1; have y3_2 := (HB3.out.cell (p := ⟨w.heap.size, 2, none⟩) hlt).trans x2; have y3_3 := (HB3.out.cell (p := ⟨w.heap.size, 3, none⟩) hlt).trans x3; have y3_4 := (HB3.out.cell (p := ⟨w.heap.size, 4, none⟩) hlt).trans x4; have y3_5 := (HB3.out.cell (p := ⟨w.heap.size, 5, none⟩) hlt).trans x5; have y3_6 := (HB3.out.cell (p := ⟨w.heap.size, 6, none⟩) hlt).trans x6; have y3_7 := (HB3.out.cell (p := ⟨w.heap.size, 7, none⟩) hlt).trans x7; have y3_8 := (HB3.out.cell (p := ⟨w.heap.size, 8, none⟩) hlt).trans x8; clear hb)
     | (go_at_call 47; (with_reducible refine (C1 _ HB1.out).mono ?_); rintro e w2 ⟨rfl, hb⟩; have HB2 := Lib.hid (HB1.out.trans (hb.mono HB1.out.size)); have y2_0 := (HB2.out.cell (p := ⟨w.heap.size, 0, none⟩) hlt).trans x0; have y2_1 := (HB2.out.cell (p := ⟨w.heap.size, 1, none⟩) hlt).trans x1; have y2_2 := (HB2.out.cell (p := ⟨w.heap.size, 2, none⟩) hlt).trans x2; have y2_3 := (HB2.out.cell (p := ⟨w.heap.size, 3, none⟩) hlt).trans x3; have y2_4 := (HB2.out.cell (p := ⟨w.heap.size, 4, none⟩) hlt).trans x4; have y2_5 := (HB2.out.cell (p := ⟨w.heap.size, 5, none⟩) hlt).trans x5; have y2_6 := (HB2.out.cell (p := ⟨w.heap.size, 6, none⟩) hlt).trans x6; have y2_7 := (HB2.out.cell (p := ⟨w.heap.size, 7, none⟩) hlt).trans x7; have y2_8 := (HB2.out.cell (p := ⟨w.heap.size, 8, none⟩) hlt).trans x8; clear hb)
     | (go_at_call 46; (with_reducible refine (C0 _).mono ?_); rintro e w1 ⟨rfl, hb⟩; have HB1 := Lib.hid (HB0.out.trans (hb.mono HB0.out.size)); have y1_1 := (HB1.out.cell (p := ⟨w.heap.size, 1, none⟩) hlt).trans x1; clear hb))
   go_ret
   exact ⟨rfl, B0.out.trans (HB4.out.mono B0.out.size)⟩
 cases q5
 · go_enter Tryz.func16, Tryz.ntmps16
   go_wp2_with (first
     | (go_at_call 50; (with_reducible refine (C4 _ HB4.out).mono ?_); rintro e w5 ⟨rfl, hb⟩; have HB5 := Lib.hid (HB4.out.trans (hb.mono HB4.out.size)); clear hb)
     | (go_at_call 49; (with_reducible refine (C3 _ HB3.out).mono ?_); rintro e w4 ⟨rfl, hb⟩; have HB4 := Lib.hid (HB3.out.trans (hb.mono HB3.out.size)); have y4_0 := (HB4.out.cell (p := ⟨w.heap.size, 0, none⟩) hlt).trans x0; have y4_1 := (HB4.out.cell (p := ⟨w.heap.size, 1, none⟩) hlt).trans x1; have y4_2 := (HB4.out.cell (p := ⟨w.heap.size, 2, none⟩) hlt).trans x2; have y4_3 := (HB4.out.cell (p := ⟨w.heap.size, 3, none⟩) hlt).trans x3; have y4_4 := (HB4.out.cell (p := ⟨w.heap.size, 4, none⟩) hlt).trans x4; have y4_5 := (HB4.out.cell (p := ⟨w.heap.size, 5, none⟩) hlt).trans x5; have y4_6 := (HB4.out.cell (p := ⟨w.heap.size, 6, none⟩) hlt).trans x6; have y4_7 := (HB4.out.cell (p := ⟨w.heap.size, 7, none⟩) hlt).trans x7; have y4_8 := (HB4.out.cell (p := ⟨w.heap.size, 8, none⟩) hlt).trans x8; clear hb)
     | (go_at_call 48; (with_reducible refine (C2 _ HB2.out).mono ?_); rintro e w3 ⟨rfl, hb⟩; have HB3 := Lib.hid (HB2.out.trans (hb.mono HB2.out.size)); have y3_0 := (HB3.out.cell (p := ⟨w.heap.size, 0, none⟩) hlt).trans x0; have y3_1 := (HB3.out.cell (p := ⟨w.heap.size, 1, none⟩) hlt).trans x1; have y3_2 := (HB3.out.cell (p := ⟨w.heap.size, 2, none⟩) hlt).trans x2; have y3_3 := (HB3.out.cell (p := ⟨w.heap.size, 3, none⟩) hlt).trans x3; have y3_4 := (HB3.out.cell (p := ⟨w.heap.size, 4, none⟩) hlt).trans x4; have y3_5 := (HB3.out.cell (p := ⟨w.heap.size, 5, none⟩) hlt).trans x5; have y3_6 := (HB3.out.cell (p := ⟨w.heap.size, 6, none⟩) hlt).trans x6; have y3_7 := (HB3.out.cell (p := ⟨w.heap.size, 7, none⟩) hlt).trans x7; have y3_8 := (HB3.out.cell (p := ⟨w.heap.size, 8, none⟩) hlt).trans x8; clear hb)
     | (go_at_call 47; (with_reducible refine (C1 _ HB1.out).mono ?_); rintro e w2 ⟨rfl, hb⟩; have HB2 := Lib.hid (HB1.out.trans (hb.mono HB1.out.size)); have y2_0 := (HB2.out.cell (p := ⟨w.heap.size, 0, none⟩) hlt).trans x0; have y2_1 := (HB2.out.cell (p := ⟨w.heap.size, 1, none⟩) hlt).trans x1; have y2_2 := (HB2.out.cell (p := ⟨w.heap.size, 2, none⟩) hlt).trans x2; have y2_3 := (HB2.out.cell (p := ⟨w.heap.size, 3, none⟩) hlt).trans x3; have y2_4 := (HB2.out.cell (p := ⟨w.heap.size, 4, none⟩) hlt).trans x4; have y2_5 := (HB2.out.cell (p := ⟨w.heap.size, 5, none⟩) hlt).trans x5; have y2_6 := (HB2.out.cell (p := ⟨w.heap.size, 6, none⟩) hlt).trans x6; have y2_7 := (HB2.out.cell (p := ⟨w.heap.size, 7, none⟩) hlt).trans x7; have y2_8 := (HB2.out.cell (p := ⟨w.heap.size, 8, none⟩) hlt).trans x8; clear hb)
     | (go_at_call 46; (with_reducible refine (C0 _).mono ?_); rintro e w1 ⟨rfl, hb⟩; have HB1 := Lib.hid (HB0.out.trans (hb.mono HB0.out.size)); have y1_1 := (HB1.out.cell (p := ⟨w.heap.size, 1, none⟩) hlt).trans x1; clear hb))
   go_ret
   exact ⟨rfl, B0.out.trans (HB5.out.mono B0.out.size)⟩
 go_enter Tryz.func16, Tryz.ntmps16
 go_wp2_with (first
   | (go_at_call 50; (with_reducible refine (C4 _ HB4.out).mono ?_); rintro e w5 ⟨rfl, hb⟩; have HB5 := Lib.hid (HB4.out.trans (hb.mono HB4.out.size)); clear hb)
   | (go_at_call 49; (with_reducible refine (C3 _ HB3.out).mono ?_); rintro e w4 ⟨rfl, hb⟩; have HB4 := Lib.hid (HB3.out.trans (hb.mono HB3.out.size)); have y4_0 := (HB4.out.cell (p := ⟨w.heap.size, 0, none⟩) hlt).trans x0; have y4_1 := (HB4.out.cell (p := ⟨w.heap.size, 1, none⟩) hlt).trans x1; have y4_2 := (HB4.out.cell (p := ⟨w.heap.size, 2, none⟩) hlt).trans x2; have y4_3 := (HB4.out.cell (p := ⟨w.heap.size, 3, none⟩) hlt).trans x3; have y4_4 := (HB4.out.cell (p := ⟨w.heap.size, 4, none⟩) hlt).trans x4; have y4_5 := (HB4.out.cell (p := ⟨w.heap.size, 5, none⟩) hlt).trans x5; have y4_6 := (HB4.out.cell (p := ⟨w.heap.size, 6, none⟩) hlt).trans x6; have y4_7 := (HB4.out.cell (p := ⟨w.heap.size, 7, none⟩) hlt).trans x7; have y4_8 := (HB4.out.cell (p := ⟨w.heap.size, 8, none⟩) hlt).trans x8; clear hb)
   | (go_at_call 48; (with_reducible refine (C2 _ HB2.out).mono ?_); rintro e w3 ⟨rfl, hb⟩; have HB3 := Lib.hid (HB2.out.trans (hb.mono HB2.out.size)); have y3_0 := (HB3.out.cell (p := ⟨w.heap.size, 0, none⟩) hlt).trans x0; have y3_1 := (HB3.out.cell (p := ⟨w.heap.size, 1, none⟩) hlt).trans x1; have y3_2 := (HB3.out.cell (p := ⟨w.heap.size, 2, none⟩) hlt).trans x2; have y3_3 := (HB3.out.cell (p := ⟨w.heap.size, 3, none⟩) hlt).trans x3; have y3_4 := (HB3.out.cell (p := ⟨w.heap.size, 4, none⟩) hlt).trans x4; have y3_5 := (HB3.out.cell (p := ⟨w.heap.size, 5, none⟩) hlt).trans x5; have y3_6 := (HB3.out.cell (p := ⟨w.heap.size, 6, none⟩) hlt).trans x6; have y3_7 := (HB3.out.cell (p := ⟨w.heap.size, 7, none⟩) hlt).trans x7; have y3_8 := (HB3.out.cell (p := ⟨w.heap.size, 8, none⟩) hlt).trans x8; clear hb)
   | (go_at_call 47; (with_reducible refine (C1 _ HB1.out).mono ?_); rintro e w2 ⟨rfl, hb⟩; have HB2 := Lib.hid (HB1.out.trans (hb.mono HB1.out.size)); have y2_0 := (HB2.out.cell (p := ⟨w.heap.size, 0, none⟩) hlt).trans x0; have y2_1 := (HB2.out.cell (p := ⟨w.heap.size, 1, none⟩) hlt).trans x1; have y2_2 := (HB2.out.cell (p := ⟨w.heap.size, 2, none⟩) hlt).trans x2; have y2_3 := (HB2.out.cell (p := ⟨w.heap.size, 3, none⟩) hlt).trans x3; have y2_4 := (HB2.out.cell (p := ⟨w.heap.size, 4, none⟩) hlt).trans x4; have y2_5 := (HB2.out.cell (p := ⟨w.heap.size, 5, none⟩) hlt).trans x5; have y2_6 := (HB2.out.cell (p := ⟨w.heap.size, 6, none⟩) hlt).trans x6; have y2_7 := (HB2.out.cell (p := ⟨w.heap.size, 7, none⟩) hlt).trans x7; have y2_8 := (HB2.out.cell (p := ⟨w.heap.size, 8, none⟩) hlt).trans x8; clear hb)
   | (go_at_call 46; (with_reducible refine (C0 _).mono ?_); rintro e w1 ⟨rfl, hb⟩; have HB1 := Lib.hid (HB0.out.trans (hb.mono HB0.out.size)); have y1_1 := (HB1.out.cell (p := ⟨w.heap.size, 1, none⟩) hlt).trans x1; clear hb))
 go_ret
 exact ⟨rfl, B0.out.trans (HB5.out.mono B0.out.size)⟩
set_option maxRecDepth 100000 in
set_option maxHeartbeats 8000000 in
theorem rightU_any (x : Uv) (hx : SmallU x) (w : World) (h : InU w x) (hL : LaidU w) (hE : LaidE w) : Calls Tryz.prog 16 #[agU x] w fun e w' => e = .returned (.bool (rightU x)) ∧ Below w.heap.size w w' := by
 obtain ⟨nm, vr, z, dp, cn, rp, cf, pd, aw, dv, cv, rv, fv, pv, av⟩ := x
 have hh := h
 obtain ⟨h3, h4, h5, h6, h7, h8⟩ := hh
 dsimp only at h3 h4 h5 h6 h7 h8
 obtain ⟨a3, m3, -, -, rfl, -⟩ := h3.parts
 obtain ⟨a4, m4, -, -, rfl, -⟩ := HoldQ.parts h4
 obtain ⟨a5, m5, -, -, rfl, -⟩ := h5
 obtain ⟨a6, m6, -, -, rfl, -⟩ := HoldW2.parts h6
 obtain ⟨a7, m7, -, -, rfl, -⟩ := h7
 obtain ⟨a8, m8, -, -, rfl, -⟩ := h8
 have := rightAll_any (bsT nm) (bsT vr) z a3 a4 a5 a6 a7 a8 dp.length cn.length rp.length cf.length pd.length aw.length m3 m4 m5 m6 m7 m8 dp cn rp cf pd aw hx rfl rfl w h hL hE
 exact this
end Go.Proofs.YtnnagboeimeiiaaGreatDoor
namespace Go.Proofs.YtnnagboeimeiiaaGreatDoor
open Go.RowKit
structure FitU (x : Uv) : Prop where
 nm : x.nm.length ≤ maxLen
 vr : x.vr.length ≤ maxLen
 dn : x.dp.length ≤ maxLen
 dp : ∀ g ∈ x.dp, BigQ g.1 ∧ g.1.length ≤ maxLen
 cl : x.cn.length ≤ maxLen
 cq : BigQ x.cn
 rl : x.rp.length ≤ maxLen
 rp : ∀ s ∈ x.rp, s.length ≤ maxLen
 fl : x.cf.length ≤ maxLen
 cf : ∀ c ∈ x.cf, c.1.length ≤ maxLen ∧ c.2.length ≤ maxLen
 pl : x.pd.length ≤ maxLen
 pd : ∀ s ∈ x.pd, s.length ≤ maxLen
 al : x.aw.length ≤ maxLen
 aw : ∀ s ∈ x.aw, s.length ≤ maxLen
structure FewR (x : Uv) : Prop where
 nm : x.nm.length ≤ 4000
 vr : x.vr.length ≤ 4000
 dn : x.dp.length ≤ 70
 dp : ∀ g ∈ x.dp, g.1.length ≤ 70
 dt : (allE (fsts x.dp)).1.length ≤ 4000
 cl : x.cn.length ≤ 70
 cq : ∀ r ∈ x.cn, r.1.length ≤ 4000 ∧ r.2.2.length ≤ 4000
 rl : x.rp.length ≤ 70
 rp : ∀ s ∈ x.rp, s.length ≤ 4000
 fl : x.cf.length ≤ 70
 cf : ∀ c ∈ x.cf, c.1.length ≤ 4000 ∧ c.2.length ≤ 4000
 pl : x.pd.length ≤ 70
 pd : ∀ s ∈ x.pd, s.length ≤ 4000
 al : x.aw.length ≤ 70
 aw : ∀ s ∈ x.aw, s.length ≤ 4000
def FewU (l : List Uv) : Prop := l.length ≤ 70 ∧ ∀ x ∈ l, FewR x
theorem FewR.small {x : Uv} (h : FewR x) (f : FitU x) : SmallU x :=
 ⟨h.nm, h.vr, h.dn, fun g hg => ⟨(f.dp g hg).1, Nat.le_trans (h.dp g hg) (by decide)⟩, h.cl, f.cq, h.rl, h.rp, h.fl, h.cf, h.pl, h.pd, h.al, h.aw⟩
structure UptoU (x : Uv) (k : Nat) : Prop where
 dp : ∀ (j : Nat) g, j < k → x.dp[j]? = some g → g.1.length ≤ 70
 cq : ∀ (j : Nat) r, j < k → x.cn[j]? = some r → r.1.length ≤ 4000 ∧ r.2.2.length ≤ 4000
 rp : ∀ (j : Nat) s, j < k → x.rp[j]? = some s → s.length ≤ 4000
 cf : ∀ (j : Nat) c, j < k → x.cf[j]? = some c → c.1.length ≤ 4000 ∧ c.2.length ≤ 4000
 pd : ∀ (j : Nat) s, j < k → x.pd[j]? = some s → s.length ≤ 4000
 aw : ∀ (j : Nat) s, j < k → x.aw[j]? = some s → s.length ≤ 4000
theorem UptoU.zero (x : Uv) : UptoU x 0 := ⟨fun j _ h => by omega, fun j _ h => by omega, fun j _ h => by omega, fun j _ h => by omega, fun j _ h => by omega, fun j _ h => by omega⟩
theorem upto_next {α : Type} {l : List α} {P : α → Prop} {k : Nat} (h : ∀ (j : Nat) a, j < k → l[j]? = some a → P a) (hk : ∀ a, l[k]? = some a → P a) : ∀ (j : Nat) a, j < k + 1 → l[j]? = some a → P a := fun j a hj ha => by
 by_cases e : j = k
 · subst e; exact hk a ha
 · exact h j a (by omega) ha
theorem UptoU.next {x : Uv} {k : Nat} (h : UptoU x k) (h1 : ∀ g, x.dp[k]? = some g → g.1.length ≤ 70) (h2 : ∀ r, x.cn[k]? = some r → r.1.length ≤ 4000 ∧ r.2.2.length ≤ 4000) (h3 : ∀ s, x.rp[k]? = some s → s.length ≤ 4000) (h4 : ∀ c, x.cf[k]? = some c → c.1.length ≤ 4000 ∧ c.2.length ≤ 4000) (h5 : ∀ s, x.pd[k]? = some s → s.length ≤ 4000) (h6 : ∀ s, x.aw[k]? = some s → s.length ≤ 4000) : UptoU x (k + 1) :=
 ⟨upto_next h.dp h1, upto_next h.cq h2, upto_next h.rp h3, upto_next h.cf h4, upto_next h.pd h5, upto_next h.aw h6⟩
theorem upto_all {α : Type} {l : List α} {P : α → Prop} {k : Nat} (h : ∀ (j : Nat) a, j < k → l[j]? = some a → P a) (hk : l.length ≤ k) : ∀ a ∈ l, P a := fun a ha => by
 obtain ⟨i, hi⟩ := List.mem_iff_getElem?.1 ha
 exact h i a (by have := (List.getElem?_eq_some_iff.1 hi).1; omega) hi
theorem UptoU.few {x : Uv} (h : UptoU x 70) (h0 : x.nm.length ≤ 4000) (h1 : x.vr.length ≤ 4000) (hd : (allE (fsts x.dp)).1.length ≤ 4000) (h3 : x.dp.length ≤ 70) (h4 : x.cn.length ≤ 70) (h5 : x.rp.length ≤ 70) (h6 : x.cf.length ≤ 70) (h7 : x.pd.length ≤ 70) (h8 : x.aw.length ≤ 70) : FewR x :=
 ⟨h0, h1, h3, upto_all h.dp h3, hd, h4, upto_all h.cq h4, h5, upto_all h.rp h5, h6, upto_all h.cf h6, h7, upto_all h.pd h7, h8, upto_all h.aw h8⟩
end Go.Proofs.YtnnagboeimeiiaaGreatDoor
namespace Go.Proofs.YtnnagboeimeiiaaGreatDoor
open Go.RowKit
def namesB (l : List Bs) : Bool := l.all nameB && decide (l.length ≤ 64)
theorem namesB_no {l : List Bs} {i : Nat} {x : Bs} (hx : l[i]? = some x) (h : nameB x = false) : namesB l = false := by
 unfold namesB
 rw [List.all_eq_false.2 ⟨x, List.mem_of_getElem? hx, by rw [h]; simp⟩]; rfl
theorem namesB_yes {l : List Bs} (h : ∀ (j : Nat) x, l[j]? = some x → nameB x = true) : namesB l = decide (l.length ≤ 64) := by
 unfold namesB
 rw [List.all_eq_true.2 (fun x hx => by obtain ⟨j, hj⟩ := List.mem_iff_getElem?.1 hx; exact h j x hj)]; rfl
def RiseU (l : List Bs) : Prop := ∀ (i : Nat) x y, l[i]? = some x → l[i + 1]? = some y → x < y
open Classical in
noncomputable def riseB (l : List Bs) : Bool := decide (l.length ≤ 64 ∧ RiseU l)
open Classical in
theorem riseB_no {l : List Bs} {i : Nat} {x y : Bs} (hx : l[i]? = some x) (hy : l[i + 1]? = some y) (h : ¬ x < y) : riseB l = false := by
 unfold riseB
 exact decide_eq_false (fun g => h (g.2 i x y hx hy))
open Classical in
theorem riseB_yes {l : List Bs} (h : RiseU l) : riseB l = decide (l.length ≤ 64) := by
 unfold riseB
 by_cases g : l.length ≤ 64
 · rw [decide_eq_true g]; exact decide_eq_true ⟨g, h⟩
 · rw [decide_eq_false g]; exact decide_eq_false (fun q => g q.1)
set_option maxRecDepth 100000 in
set_option maxHeartbeats 4000000 in
theorem names_ref8 (v : Value) (l : List Bs) (hl : l.length ≤ 90000) (hs : ∀ x ∈ l, x.length ≤ 4000) (w : World) (h : HoldT w v l) : Calls Tryz.prog 53 #[v] w fun e w' => e = .returned (.bool (namesB l)) ∧ w = w' := by
 obtain ⟨a, c, b, o, rfl, hc, ha, hcell⟩ := h
 have HC := Lib.hid hcell
 have HS := Lib.hid hs
 have HNO : Hid (∀ (i : Nat) x, l[i]? = some x → nameB x = false → false = namesB l) := Lib.hid (fun i x hx g => (namesB_no hx g).symm)
 have HYES : Hid ((∀ (j : Nat) x, l[j]? = some x → nameB x = true) → decide ((l.length : Int) ≤ 64) = namesB l) := Lib.hid (fun g => by rw [namesB_yes g]; congr 1; apply propext; omega)
 generalize namesB l = Z at *
 obtain ⟨n, hN⟩ : ∃ n, l.length = n := ⟨_, rfl⟩
 rw [hN] at hc ha hl HYES ⊢
 have HN := Lib.hid hN
 clear hcell hN hs
 go_enter Tryz.func53, Tryz.ntmps53
 go_wp2
 go_loop [3] (fun i => ∃ k : Nat, k ≤ n ∧ i = .int .i64 k ∧ Hid (∀ (j : Nat) x, j < k → l[j]? = some x → nameB x = true)) (fun i => n - (intOf i).toNat)
 case atStart => exact ⟨0, by omega, rfl, Lib.hid (fun j y hj => by omega)⟩
 case round =>
   obtain ⟨k, hk, rfl, H⟩ := hrel
   by_cases hlt : k < n
   · obtain ⟨rfl, hbw⟩ := ha (by omega)
     obtain ⟨x, hx⟩ : ∃ x, l[k]? = some x := ⟨_, List.getElem?_eq_getElem (by rw [HN.out]; exact hlt)⟩
     have c0 := HC.out k x hx
     have RA := fun W => name_ref (⟨x.toArray⟩ : ByteArray) (by rw [sizeOf, bytesOf]; exact HS.out x (List.mem_of_getElem? hx)) W
     rw [bytesOf] at RA
     have HX := Lib.hid hx
     clear hx
     cases hq : nameB x
     · have HF := Lib.hid (HNO.out k x HX.out hq)
       simp only [hq] at RA
       clear hq H HNO HYES HC HS HX
       generalize (⟨x.toArray⟩ : ByteArray) = X at *
       go_wp2_with (go_at_call 52; (with_reducible refine (RA _).mono ?_); rintro e w3 ⟨rfl, rfl⟩)
       go_ret
       exact ⟨retb HF.out, rfl⟩
     · have HK : Hid (∀ (j : Nat) u, j < k + 1 → l[j]? = some u → nameB u = true) := Lib.hid (fun j u hj hu => by
         by_cases e : j = k
         · subst e; rw [HX.out] at hu; cases hu; exact hq
         · exact H.out j u (by omega) hu)
       simp only [hq] at RA
       clear hq H HNO HC HS HX
       generalize (⟨x.toArray⟩ : ByteArray) = X at *
       go_wp2_with (go_at_call 52; (with_reducible refine (RA _).mono ?_); rintro e w3 ⟨rfl, rfl⟩)
       go_round
       case rel => exact ⟨k + 1, by omega, by go_num, HK⟩
       case measure => simp [intOf]; omega
   · obtain rfl : k = n := by omega
     have HF := Lib.hid (HYES.out (fun j x hx => H.out j x (by have := (List.getElem?_eq_some_iff.1 hx).1; rw [HN.out] at this; exact this) hx))
     clear hlt H HNO HYES HC HS
     go_wp2
     go_ret
     exact ⟨retb HF.out, rfl⟩
set_option maxRecDepth 100000 in
set_option maxHeartbeats 4000000 in
theorem rising_ref8 (v : Value) (l : List Bs) (hl : l.length ≤ 90000) (w : World) (h : HoldT w v l) : Calls Tryz.prog 57 #[v] w fun e w' => e = .returned (.bool (riseB l)) ∧ ∃ q, w' = w.drewN q := by
 obtain ⟨a, c, b, o, rfl, hc, ha, hcell⟩ := h
 have HC := Lib.hid hcell
 have HNO : Hid (∀ (i : Nat) x y, l[i]? = some x → l[i + 1]? = some y → ¬ x < y → false = riseB l) := Lib.hid (fun i x y hx hy g => (riseB_no hx hy g).symm)
 have HYES : Hid (RiseU l → decide ((l.length : Int) ≤ 64) = riseB l) := Lib.hid (fun g => by rw [riseB_yes g]; congr 1; apply propext; omega)
 generalize riseB l = Z at *
 obtain ⟨n, hN⟩ : ∃ n, l.length = n := ⟨_, rfl⟩
 rw [hN] at hc ha hl HYES ⊢
 have HN := Lib.hid hN
 clear hcell hN
 go_enter Tryz.func57, Tryz.ntmps57
 go_wp2
 go_loopw [3] (fun i wr => ∃ k : Nat, 1 ≤ k ∧ k ≤ n + 1 ∧ i = .int .i64 k ∧ Hid (∀ (j : Nat) x y, j + 1 < k → l[j]? = some x → l[j + 1]? = some y → x < y) ∧ Hid (∃ q, wr = w.drewN q)) (fun i _ => n + 1 - (intOf i).toNat)
 case atStart => exact ⟨1, by omega, by omega, rfl, Lib.hid (fun j x y hj => by omega), Lib.hid ⟨0, rfl⟩⟩
 case round =>
   obtain ⟨k, hk1, hk, rfl, H, HQ⟩ := hrel
   by_cases hlt : k < n
   · obtain ⟨rfl, hbw⟩ := ha (by omega)
     obtain ⟨x, hx⟩ : ∃ x, l[k - 1]? = some x := ⟨_, List.getElem?_eq_getElem (by rw [HN.out]; omega)⟩
     obtain ⟨y, hy⟩ : ∃ y, l[k]? = some y := ⟨_, List.getElem?_eq_getElem (by rw [HN.out]; omega)⟩
     obtain ⟨q, hw⟩ := HQ.out
     have c0 := HC.out (k - 1) x hx
     have c1 := HC.out k y hy
     rw [← World.cell?_drewN w q] at c0 c1
     rw [← hw] at c0 c1
     have HMM : Hid (∀ m', ∃ q, wr.drewN m' = w.drewN q) := Lib.hid (fun m' => ⟨q + m', by rw [hw, World.drewN_drewN]⟩)
     have hls := lessT (⟨x.toArray⟩ : ByteArray) (⟨y.toArray⟩ : ByteArray)
     rw [bytesOf, bytesOf] at hls
     have HX := Lib.hid (And.intro hx (show l[k - 1 + 1]? = some y by rw [show k - 1 + 1 = k by omega]; exact hy))
     clear hx hy hw HQ
     have i0 : (0 : Int) ≤ (k : Int) - 1 := by omega
     have i1 : (k : Int) - 1 < (n : Int) := by omega
     have i2 : ((k : Int) - 1).toNat = k - 1 := by omega
     have i3 : IntKind.i64.wrap ((k : Int) - 1) = (k : Int) - 1 := IntWalk.i64_in _ (by omega)
     have j0 : (0 : Int) ≤ (k : Int) := by omega
     have j1 : (k : Int) < (n : Int) := by omega
     by_cases hq : x < y
     · have HK : Hid (∀ (j : Nat) u v, j + 1 < k + 1 → l[j]? = some u → l[j + 1]? = some v → u < v) := Lib.hid (fun j u v hj hu hv => by
         by_cases e : j + 1 = k
         · obtain rfl : j = k - 1 := by omega
           rw [HX.out.1] at hu; rw [HX.out.2] at hv; cases hu; cases hv; exact hq
         · exact H.out j u v (by omega) hu hv)
       rw [decide_eq_true hq] at hls
       clear hq H HNO HC HX
       generalize (⟨x.toArray⟩ : ByteArray) = X at *
       generalize (⟨y.toArray⟩ : ByteArray) = Y at *
       go_wp2
       go_quiet (fail)
       go_wp2
       go_roundw
       case rel => exact ⟨k + 1, by omega, by omega, by go_num, HK, Lib.hid (HMM.out _)⟩
       case measure => simp [intOf]; omega
     · have HF := Lib.hid (HNO.out (k - 1) x y HX.out.1 HX.out.2 hq)
       rw [decide_eq_false hq] at hls
       clear hq H HNO HYES HC HX
       generalize (⟨x.toArray⟩ : ByteArray) = X at *
       generalize (⟨y.toArray⟩ : ByteArray) = Y at *
       go_wp2
       go_quiet (fail)
       go_wp2
       go_ret
       exact ⟨retb HF.out, HMM.out _⟩
   · have HF := Lib.hid (HYES.out (fun j x y hx hy => H.out j x y (by have := (List.getElem?_eq_some_iff.1 hy).1; rw [HN.out] at this; omega) hx hy))
     clear H HNO HYES HC
     go_wp2
     go_ret
     exact ⟨retb HF.out, HQ.out⟩
set_option maxRecDepth 100000 in
set_option maxHeartbeats 4000000 in
theorem settled_ref8 (X0 X1 : ByteArray) (z : Int) (a3 a4 a5 a6 a7 a8 : Option Addr) (n3 n4 n5 n6 n7 n8 m3 m4 m5 m6 m7 m8 : Nat) (w : World) : Calls Tryz.prog 19 #[.agg #[.string X0, .string X1, .int .i64 z, .slice a3 n3 m3, .slice a4 n4 m4, .slice a5 n5 m5, .slice a6 n6 m6, .slice a7 n7 m7, .slice a8 n8 m8]] w fun e w' => e = .returned (.int .i64 (if 0 < n8 then 5 else if 0 < n7 then 6 else 7)) ∧ Below w.heap.size w w' := by
 obtain ⟨x0, x1, x2, x3, x4, x5, x6, x7, x8⟩ := boxV9 w (.string X0) (.string X1) (.int .i64 z) (.slice a3 n3 m3) (.slice a4 n4 m4) (.slice a5 n5 m5) (.slice a6 n6 m6) (.slice a7 n7 m7) (.slice a8 n8 m8) 43
 have B0 := (Below.refl w.heap.size w).alloc (Nat.le_refl _) (.cells #[.string X0, .string X1, .int .i64 z, .slice a3 n3 m3, .slice a4 n4 m4, .slice a5 n5 m5, .slice a6 n6 m6, .slice a7 n7 m7, .slice a8 n8 m8] 43)
 by_cases h8 : 0 < n8
 · rw [if_pos h8]
   go_enter Tryz.func19, Tryz.ntmps19
   go_wp2
   go_ret
   exact ⟨rfl, B0⟩
 · rw [if_neg h8]
   by_cases h7 : 0 < n7
   · rw [if_pos h7]
     go_enter Tryz.func19, Tryz.ntmps19
     go_wp2
     go_ret
     exact ⟨rfl, B0⟩
   · rw [if_neg h7]
     go_enter Tryz.func19, Tryz.ntmps19
     go_wp2
     go_ret
     exact ⟨rfl, B0⟩
end Go.Proofs.YtnnagboeimeiiaaGreatDoor
