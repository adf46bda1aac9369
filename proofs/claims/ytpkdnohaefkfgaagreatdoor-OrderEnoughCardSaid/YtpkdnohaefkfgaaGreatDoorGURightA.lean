/-
  The program's Right of a record, at any record of some size: what it returns; nothing old turns. Conditions: LaidU and LaidE.
-/
import Derived.Test.YtpkdnohaefkfgaaGreatDoorGURight3
import Derived.Test.YtpkdnohaefkfgaaGreatDoorGUKeyT
import Derived.Test.YtpkdnohaefkfgaaGreatDoorGUKeyF
import Derived.Test.YtpkdnohaefkfgaaGreatDoorGParseDigits
namespace Go.Proofs.YtpkdnohaefkfgaaGreatDoor
open Go.RowKit Go.Shelf
/-- A conffile that may be. -/
def confB (x : Bs × Bs) : Bool := right x.1 && (numOf 16 16 x.2).isSome
set_option maxRecDepth 100000 in
set_option maxHeartbeats 8000000 in
theorem rightConf_any (X0 X1 : ByteArray) (h0 : X0.size ≤ 4000) (h1 : X1.size ≤ 4000) (w : World) (hP : LaidP w) (hE : LaidE w) : Calls Tryz.prog 46 #[.agg #[.string X0, .string X1]] w fun e w' => e = .returned (.bool (confB (X0.data.toList, X1.data.toList))) ∧ Below w.heap.size w w' := by
  obtain ⟨x0, x1⟩ := boxV2U w (.string X0) (.string X1) 45
  have B0 := Lib.hid ((Below.refl w.heap.size w).alloc (Nat.le_refl _) (.cells #[.string X0, .string X1] 45))
  have hlt : w.heap.size < (w.alloc (.cells #[.string X0, .string X1] 45)).heap.size := by simp
  have HE := hE.on B0.out
  have HP := Lib.hid (hP.on B0.out)
  have C1 : ∃ n z : Int, (z == 0) = (numOf 16 16 X1.data.toList).isSome ∧ Calls Tryz.prog 73 #[.string X1] (w.alloc (.cells #[.string X0, .string X1] 45)) fun e w' => e = .returned (.tuple #[.int .u64 n, .int .i64 z]) ∧ Below (w.alloc (.cells #[.string X0, .string X1] 45)).heap.size (w.alloc (.cells #[.string X0, .string X1] 45)) w' := by
    have H := parseHex_any X1 h1 _ HE
    cases hn : numOf 16 16 X1.data.toList with
    | none => exact ⟨0, 2, rfl, H.mono fun e w' he => by unfold PdPost at he; rw [hn] at he; exact he⟩
    | some n => exact ⟨n, 0, rfl, H.mono fun e w' he => by unfold PdPost at he; rw [hn] at he; exact he⟩
  obtain ⟨n, z, hz, C1⟩ := C1
  have C2 := fun W (hb : Below (w.alloc (.cells #[.string X0, .string X1] 45)).heap.size (w.alloc (.cells #[.string X0, .string X1] 45)) W) => right_any X0 h0 W (HP.out.on hb)
  unfold confB
  dsimp only
  rw [← hz]
  clear hz hP hE HE
  generalize right X0.data.toList = q at *
  generalize hy : (z == 0) = y
  cases q <;> cases y
  all_goals
    go_enter Tryz.func46, Tryz.ntmps46
    go_wp2_with (first
      | (go_at_call 73; (with_reducible refine C1.mono ?_); rintro e w1 ⟨rfl, hb⟩; have HB1 := Lib.hid hb; have y0 := (HB1.out.cell (p := ⟨w.heap.size, 0, none⟩) hlt).trans x0; clear hb)
      | (go_at_call 74; (with_reducible refine (C2 _ HB1.out).mono ?_); rintro e w2 ⟨rfl, hb⟩; have HB2 := Lib.hid (HB1.out.trans (hb.mono HB1.out.size)); clear hb))
    go_ret
    exact ⟨rfl, B0.out.trans (HB2.out.mono B0.out.size)⟩
/-- The lists of a record that may be. -/
noncomputable def rlB (rp : List Bs) (cf : List (Bs × Bs)) (pd aw : List Bs) : Bool := (decide (rp.length ≤ 64) && rp.all nameB) && (kchkK confB (fun x => x.1) cf == 0) && (kchkK trigB (fun x => x) pd == 0) && (kchkK nameB (fun x => x) aw == 0)
theorem predF {cf : List (Bs × Bs)} {w : World} (hs : ∀ x ∈ cf, x.1.length ≤ 4000 ∧ x.2.length ≤ 4000) (hP : LaidP w) (hE : LaidE w) : PredKF 46 #[] cf confB w := fun x hx W hW => by
  obtain ⟨h0, h1⟩ := hs x hx
  have := rightConf_any (bsT x.1) (bsT x.2) (by rw [sizeOf, bytesOf]; exact h0) (by rw [sizeOf, bytesOf]; exact h1) W (hP.on hW) (hE.on hW)
  rw [bytesOf, bytesOf] at this
  exact this
theorem predT {l : List Bs} {w : World} (hs : ∀ x ∈ l, x.length ≤ 4000) (hP : LaidP w) : PredKT 49 #[] l trigB w := fun x hx W hW => by
  have := trig_any (bsT x) (by rw [sizeOf, bytesOf]; exact hs x hx) W (hP.on hW)
  rw [bytesOf] at this
  exact this
theorem predN {l : List Bs} {w : World} (hs : ∀ x ∈ l, x.length ≤ 4000) : PredKT 24 #[] l nameB w := fun x hx W hW => by
  have := name_any (bsT x) (by rw [sizeOf, bytesOf]; exact hs x hx) W
  rw [bytesOf] at this
  exact this.mono fun e w' h => ⟨h.1, by rw [h.2]; exact Below.refl _ _⟩
set_option maxRecDepth 100000 in
set_option maxHeartbeats 8000000 in
theorem rightListsU_any (X0 X1 : ByteArray) (z : Int) (a3 a4 a5 a6 a7 a8 : Option Addr) (n3 n4 n5 n6 n7 n8 m3 m4 m5 m6 m7 m8 : Nat) (rp : List Bs) (cf : List (Bs × Bs)) (pd aw : List Bs) (hl5 : rp.length ≤ 90000) (hs5 : ∀ x ∈ rp, x.length ≤ maxLen) (hl6 : cf.length ≤ 90000) (hs6 : ∀ x ∈ cf, x.1.length ≤ 4000 ∧ x.2.length ≤ 4000) (hl7 : pd.length ≤ 90000) (hs7 : ∀ x ∈ pd, x.length ≤ 4000) (hl8 : aw.length ≤ 90000) (hs8 : ∀ x ∈ aw, x.length ≤ 4000) (w : World) (h5 : HoldT w (.slice a5 n5 m5) rp) (h6 : HoldW2 w (.slice a6 n6 m6) cf) (h7 : HoldT w (.slice a7 n7 m7) pd) (h8 : HoldT w (.slice a8 n8 m8) aw) (hP : LaidP w) (hE : LaidE w) : Calls Tryz.prog 28 #[.agg #[.string X0, .string X1, .int .i64 z, .slice a3 n3 m3, .slice a4 n4 m4, .slice a5 n5 m5, .slice a6 n6 m6, .slice a7 n7 m7, .slice a8 n8 m8]] w fun e w' => e = .returned (.bool (rlB rp cf pd aw)) ∧ Below w.heap.size w w' := by
  obtain ⟨x0, x1, x2, x3, x4, x5, x6, x7, x8⟩ := boxV9 w (.string X0) (.string X1) (.int .i64 z) (.slice a3 n3 m3) (.slice a4 n4 m4) (.slice a5 n5 m5) (.slice a6 n6 m6) (.slice a7 n7 m7) (.slice a8 n8 m8) 37
  have B0 := Lib.hid ((Below.refl w.heap.size w).alloc (Nat.le_refl _) (.cells #[.string X0, .string X1, .int .i64 z, .slice a3 n3 m3, .slice a4 n4 m4, .slice a5 n5 m5, .slice a6 n6 m6, .slice a7 n7 m7, .slice a8 n8 m8] 37))
  have hlt : w.heap.size < (w.alloc (.cells #[.string X0, .string X1, .int .i64 z, .slice a3 n3 m3, .slice a4 n4 m4, .slice a5 n5 m5, .slice a6 n6 m6, .slice a7 n7 m7, .slice a8 n8 m8] 37)).heap.size := by simp
  have HB0 := Lib.hid (Below.refl (w.alloc (.cells #[.string X0, .string X1, .int .i64 z, .slice a3 n3 m3, .slice a4 n4 m4, .slice a5 n5 m5, .slice a6 n6 m6, .slice a7 n7 m7, .slice a8 n8 m8] 37)).heap.size (w.alloc (.cells #[.string X0, .string X1, .int .i64 z, .slice a3 n3 m3, .slice a4 n4 m4, .slice a5 n5 m5, .slice a6 n6 m6, .slice a7 n7 m7, .slice a8 n8 m8] 37)))
  have C1 := fun W (hb : Below (w.alloc (.cells #[.string X0, .string X1, .int .i64 z, .slice a3 n3 m3, .slice a4 n4 m4, .slice a5 n5 m5, .slice a6 n6 m6, .slice a7 n7 m7, .slice a8 n8 m8] 37)).heap.size (w.alloc (.cells #[.string X0, .string X1, .int .i64 z, .slice a3 n3 m3, .slice a4 n4 m4, .slice a5 n5 m5, .slice a6 n6 m6, .slice a7 n7 m7, .slice a8 n8 m8] 37)) W) => rightRepU_any (.slice a5 n5 m5) rp hl5 hs5 W ((h5.on B0.out).on hb)
  have C2 := fun W (hb : Below (w.alloc (.cells #[.string X0, .string X1, .int .i64 z, .slice a3 n3 m3, .slice a4 n4 m4, .slice a5 n5 m5, .slice a6 n6 m6, .slice a7 n7 m7, .slice a8 n8 m8] 37)).heap.size (w.alloc (.cells #[.string X0, .string X1, .int .i64 z, .slice a3 n3 m3, .slice a4 n4 m4, .slice a5 n5 m5, .slice a6 n6 m6, .slice a7 n7 m7, .slice a8 n8 m8] 37)) W) => kcheckF_any 46 #[] (enters_of Tryz.func46 (by kernel_rfl) rfl) confB (.slice a6 n6 m6) cf hl6 W (HoldV.on (HoldV.on h6 B0.out) hb) (predF hs6 ((hP.on B0.out).on hb) ((hE.on B0.out).on hb))
  have C3 := fun W (hb : Below (w.alloc (.cells #[.string X0, .string X1, .int .i64 z, .slice a3 n3 m3, .slice a4 n4 m4, .slice a5 n5 m5, .slice a6 n6 m6, .slice a7 n7 m7, .slice a8 n8 m8] 37)).heap.size (w.alloc (.cells #[.string X0, .string X1, .int .i64 z, .slice a3 n3 m3, .slice a4 n4 m4, .slice a5 n5 m5, .slice a6 n6 m6, .slice a7 n7 m7, .slice a8 n8 m8] 37)) W) => kcheckT_any 49 #[] (enters_of Tryz.func49 (by kernel_rfl) rfl) trigB (.slice a7 n7 m7) pd hl7 W ((h7.on B0.out).on hb) (predT hs7 ((hP.on B0.out).on hb))
  have C4 := fun W (hb : Below (w.alloc (.cells #[.string X0, .string X1, .int .i64 z, .slice a3 n3 m3, .slice a4 n4 m4, .slice a5 n5 m5, .slice a6 n6 m6, .slice a7 n7 m7, .slice a8 n8 m8] 37)).heap.size (w.alloc (.cells #[.string X0, .string X1, .int .i64 z, .slice a3 n3 m3, .slice a4 n4 m4, .slice a5 n5 m5, .slice a6 n6 m6, .slice a7 n7 m7, .slice a8 n8 m8] 37)) W) => kcheckT_any 24 #[] (enters_of Tryz.func24 (by kernel_rfl) rfl) nameB (.slice a8 n8 m8) aw hl8 W ((h8.on B0.out).on hb) (predN hs8)
  unfold keyFF at C2
  unfold keyFT at C3 C4
  unfold rlB
  generalize (decide (rp.length ≤ 64) && rp.all nameB) = q1 at *
  generalize kchkK confB (fun x => x.1) cf = z2 at *
  generalize kchkK trigB (fun x => x) pd = z3 at *
  generalize kchkK nameB (fun x => x) aw = z4 at *
  clear hl5 hs5 hl6 hs6 hl7 hs7 hl8 hs8 h5 h6 h7 h8 hP hE
  generalize hq2 : (z2 == 0) = q2
  generalize hq3 : (z3 == 0) = q3
  generalize hq4 : (z4 == 0) = q4
  cases q1
  · go_enter Tryz.func28, Tryz.ntmps28
    go_wp2_with (first
      | (go_at_call 43; (with_reducible refine (C1 _ HB0.out).mono ?_); rintro e w1 ⟨rfl, hb⟩; have HB1 := Lib.hid (HB0.out.trans (hb.mono HB0.out.size)); have y1_6 := (HB1.out.cell (p := ⟨w.heap.size, 6, none⟩) hlt).trans x6; clear hb))
    go_ret
    exact ⟨rfl, B0.out.trans (HB1.out.mono B0.out.size)⟩
  cases q2
  · go_enter Tryz.func28, Tryz.ntmps28
    go_wp2_with (first
      | (go_at_call 44; (with_reducible refine (C2 _ HB1.out).mono ?_); rintro e w2 ⟨rfl, hb⟩; have HB2 := Lib.hid (HB1.out.trans (hb.mono HB1.out.size)); have y2_7 := (HB2.out.cell (p := ⟨w.heap.size, 7, none⟩) hlt).trans x7; clear hb)
      | (go_at_call 43; (with_reducible refine (C1 _ HB0.out).mono ?_); rintro e w1 ⟨rfl, hb⟩; have HB1 := Lib.hid (HB0.out.trans (hb.mono HB0.out.size)); have y1_6 := (HB1.out.cell (p := ⟨w.heap.size, 6, none⟩) hlt).trans x6; clear hb))
    go_ret
    exact ⟨rfl, B0.out.trans (HB2.out.mono B0.out.size)⟩
  cases q3
  · go_enter Tryz.func28, Tryz.ntmps28
    go_wp2_with (first
      | (go_at_call 47; (with_reducible refine (C3 _ HB2.out).mono ?_); rintro e w3 ⟨rfl, hb⟩; have HB3 := Lib.hid (HB2.out.trans (hb.mono HB2.out.size)); have y3_8 := (HB3.out.cell (p := ⟨w.heap.size, 8, none⟩) hlt).trans x8; clear hb)
      | (go_at_call 44; (with_reducible refine (C2 _ HB1.out).mono ?_); rintro e w2 ⟨rfl, hb⟩; have HB2 := Lib.hid (HB1.out.trans (hb.mono HB1.out.size)); have y2_7 := (HB2.out.cell (p := ⟨w.heap.size, 7, none⟩) hlt).trans x7; clear hb)
      | (go_at_call 43; (with_reducible refine (C1 _ HB0.out).mono ?_); rintro e w1 ⟨rfl, hb⟩; have HB1 := Lib.hid (HB0.out.trans (hb.mono HB0.out.size)); have y1_6 := (HB1.out.cell (p := ⟨w.heap.size, 6, none⟩) hlt).trans x6; clear hb))
    go_ret
    exact ⟨rfl, B0.out.trans (HB3.out.mono B0.out.size)⟩
  cases q4
  · go_enter Tryz.func28, Tryz.ntmps28
    go_wp2_with (first
      | (go_at_call 47; (with_reducible refine (C4 _ HB3.out).mono ?_); rintro e w4 ⟨rfl, hb⟩; have HB4 := Lib.hid (HB3.out.trans (hb.mono HB3.out.size)); clear hb)
      | (go_at_call 47; (with_reducible refine (C3 _ HB2.out).mono ?_); rintro e w3 ⟨rfl, hb⟩; have HB3 := Lib.hid (HB2.out.trans (hb.mono HB2.out.size)); have y3_8 := (HB3.out.cell (p := ⟨w.heap.size, 8, none⟩) hlt).trans x8; clear hb)
      | (go_at_call 44; (with_reducible refine (C2 _ HB1.out).mono ?_); rintro e w2 ⟨rfl, hb⟩; have HB2 := Lib.hid (HB1.out.trans (hb.mono HB1.out.size)); have y2_7 := (HB2.out.cell (p := ⟨w.heap.size, 7, none⟩) hlt).trans x7; clear hb)
      | (go_at_call 43; (with_reducible refine (C1 _ HB0.out).mono ?_); rintro e w1 ⟨rfl, hb⟩; have HB1 := Lib.hid (HB0.out.trans (hb.mono HB0.out.size)); have y1_6 := (HB1.out.cell (p := ⟨w.heap.size, 6, none⟩) hlt).trans x6; clear hb))
    go_ret
    exact ⟨rfl, B0.out.trans (HB4.out.mono B0.out.size)⟩
  go_enter Tryz.func28, Tryz.ntmps28
  go_wp2_with (first
    | (go_at_call 47; (with_reducible refine (C4 _ HB3.out).mono ?_); rintro e w4 ⟨rfl, hb⟩; have HB4 := Lib.hid (HB3.out.trans (hb.mono HB3.out.size)); clear hb)
    | (go_at_call 47; (with_reducible refine (C3 _ HB2.out).mono ?_); rintro e w3 ⟨rfl, hb⟩; have HB3 := Lib.hid (HB2.out.trans (hb.mono HB2.out.size)); have y3_8 := (HB3.out.cell (p := ⟨w.heap.size, 8, none⟩) hlt).trans x8; clear hb)
    | (go_at_call 44; (with_reducible refine (C2 _ HB1.out).mono ?_); rintro e w2 ⟨rfl, hb⟩; have HB2 := Lib.hid (HB1.out.trans (hb.mono HB1.out.size)); have y2_7 := (HB2.out.cell (p := ⟨w.heap.size, 7, none⟩) hlt).trans x7; clear hb)
    | (go_at_call 43; (with_reducible refine (C1 _ HB0.out).mono ?_); rintro e w1 ⟨rfl, hb⟩; have HB1 := Lib.hid (HB0.out.trans (hb.mono HB0.out.size)); have y1_6 := (HB1.out.cell (p := ⟨w.heap.size, 6, none⟩) hlt).trans x6; clear hb))
  go_ret
  exact ⟨rfl, B0.out.trans (HB4.out.mono B0.out.size)⟩
/-- A record of some size. -/
structure SmallU (x : Uv) : Prop where
  nm : x.nm.length ≤ 4000
  vr : x.vr.length ≤ 4000
  dn : x.dp.length ≤ 70
  dp : BigG x.dp
  cl : x.cn.length ≤ 70
  cq : BigQ x.cn
  rl : x.rp.length ≤ 4000
  rp : ∀ s ∈ x.rp, s.length ≤ 4000
  fl : x.cf.length ≤ 4000
  cf : ∀ c ∈ x.cf, c.1.length ≤ 4000 ∧ c.2.length ≤ 4000
  pl : x.pd.length ≤ 4000
  pd : ∀ s ∈ x.pd, s.length ≤ 4000
  al : x.aw.length ≤ 4000
  aw : ∀ s ∈ x.aw, s.length ≤ 4000
/-- A record that may be. -/
noncomputable def rightU (x : Uv) : Bool := nameB x.nm && decide ((parseE x.vr).2 = 0) && stateOkU x.st x.pd.length x.aw.length && (decide ((allE (fsts x.dp)).2 = 0) && decide ((listE x.cn).2 = 0)) && rlB x.rp x.cf x.pd x.aw
abbrev agU (x : Uv) : Value := .agg #[.string ((⟨x.nm.toArray⟩ : ByteArray)), .string ((⟨x.vr.toArray⟩ : ByteArray)), .int .i64 x.st, x.dv, x.cv, x.rv, x.fv, x.pv, x.av]
theorem le_maxLen {n : Nat} (h : n ≤ 4000) : n ≤ maxLen := Nat.le_trans h (by unfold maxLen; decide)
set_option maxRecDepth 100000 in
set_option maxHeartbeats 8000000 in
theorem rightAll_any (X0 X1 : ByteArray) (z : Int) (a3 a4 a5 a6 a7 a8 : Option Addr) (n3 n4 n5 n6 n7 n8 m3 m4 m5 m6 m7 m8 : Nat) (dp : List Gv) (cn : List Rl) (rp : List Bs) (cf : List (Bs × Bs)) (pd aw : List Bs) (hx : SmallU ⟨X0.data.toList, X1.data.toList, z, dp, cn, rp, cf, pd, aw, .slice a3 n3 m3, .slice a4 n4 m4, .slice a5 n5 m5, .slice a6 n6 m6, .slice a7 n7 m7, .slice a8 n8 m8⟩) (e7 : n7 = pd.length) (e8 : n8 = aw.length) (w : World) (h : InU w ⟨X0.data.toList, X1.data.toList, z, dp, cn, rp, cf, pd, aw, .slice a3 n3 m3, .slice a4 n4 m4, .slice a5 n5 m5, .slice a6 n6 m6, .slice a7 n7 m7, .slice a8 n8 m8⟩) (hL : LaidU w) (hE : LaidE w) : Calls Tryz.prog 17 #[.agg #[.string X0, .string X1, .int .i64 z, .slice a3 n3 m3, .slice a4 n4 m4, .slice a5 n5 m5, .slice a6 n6 m6, .slice a7 n7 m7, .slice a8 n8 m8]] w fun e w' => e = .returned (.bool (nameB X0.data.toList && decide ((parseE X1.data.toList).2 = 0) && stateOkU z n7 n8 && (decide ((allE (fsts dp)).2 = 0) && decide ((listE cn).2 = 0)) && rlB rp cf pd aw)) ∧ Below w.heap.size w w' := by
  obtain ⟨h3, h4, h5, h6, h7, h8⟩ := h
  obtain ⟨k1, k2, k3, k4, k5, k6, k7, k8, k9, k10, k11, k12, k13, k14⟩ := hx
  dsimp only at h3 h4 h5 h6 h7 h8 k1 k2 k3 k4 k5 k6 k7 k8 k9 k10 k11 k12 k13 k14
  have s0 : X0.size ≤ 4000 := by rw [sizeOf]; exact k1
  have s1 : X1.size ≤ 4000 := by rw [sizeOf]; exact k2
  obtain ⟨x0, x1, x2, x3, x4, x5, x6, x7, x8⟩ := boxV9 w (.string X0) (.string X1) (.int .i64 z) (.slice a3 n3 m3) (.slice a4 n4 m4) (.slice a5 n5 m5) (.slice a6 n6 m6) (.slice a7 n7 m7) (.slice a8 n8 m8) 37
  have B0 := Lib.hid ((Below.refl w.heap.size w).alloc (Nat.le_refl _) (.cells #[.string X0, .string X1, .int .i64 z, .slice a3 n3 m3, .slice a4 n4 m4, .slice a5 n5 m5, .slice a6 n6 m6, .slice a7 n7 m7, .slice a8 n8 m8] 37))
  have hlt : w.heap.size < (w.alloc (.cells #[.string X0, .string X1, .int .i64 z, .slice a3 n3 m3, .slice a4 n4 m4, .slice a5 n5 m5, .slice a6 n6 m6, .slice a7 n7 m7, .slice a8 n8 m8] 37)).heap.size := by simp
  have HB0 := Lib.hid (Below.refl (w.alloc (.cells #[.string X0, .string X1, .int .i64 z, .slice a3 n3 m3, .slice a4 n4 m4, .slice a5 n5 m5, .slice a6 n6 m6, .slice a7 n7 m7, .slice a8 n8 m8] 37)).heap.size (w.alloc (.cells #[.string X0, .string X1, .int .i64 z, .slice a3 n3 m3, .slice a4 n4 m4, .slice a5 n5 m5, .slice a6 n6 m6, .slice a7 n7 m7, .slice a8 n8 m8] 37)))
  have C0 : ∀ W, Calls Tryz.prog 24 #[.string X0] W fun e w' => e = .returned (.bool (nameB X0.data.toList)) ∧ Below W.heap.size W w' := fun W => (name_any X0 s0 W).mono fun e w' h => ⟨h.1, by rw [h.2]; exact Below.refl _ _⟩
  have C1 := fun W (hb : Below (w.alloc (.cells #[.string X0, .string X1, .int .i64 z, .slice a3 n3 m3, .slice a4 n4 m4, .slice a5 n5 m5, .slice a6 n6 m6, .slice a7 n7 m7, .slice a8 n8 m8] 37)).heap.size (w.alloc (.cells #[.string X0, .string X1, .int .i64 z, .slice a3 n3 m3, .slice a4 n4 m4, .slice a5 n5 m5, .slice a6 n6 m6, .slice a7 n7 m7, .slice a8 n8 m8] 37)) W) => rightVerU_any X1 (le_maxLen s1) W ((hL.on B0.out).on hb).q.v
  have C2 := fun W (hb : Below (w.alloc (.cells #[.string X0, .string X1, .int .i64 z, .slice a3 n3 m3, .slice a4 n4 m4, .slice a5 n5 m5, .slice a6 n6 m6, .slice a7 n7 m7, .slice a8 n8 m8] 37)).heap.size (w.alloc (.cells #[.string X0, .string X1, .int .i64 z, .slice a3 n3 m3, .slice a4 n4 m4, .slice a5 n5 m5, .slice a6 n6 m6, .slice a7 n7 m7, .slice a8 n8 m8] 37)) W) => rightStateU_any X0 X1 z a3 a4 a5 a6 a7 a8 n3 n4 n5 n6 n7 n8 m3 m4 m5 m6 m7 m8 W ((hL.on B0.out).on hb)
  have C3 := fun W (hb : Below (w.alloc (.cells #[.string X0, .string X1, .int .i64 z, .slice a3 n3 m3, .slice a4 n4 m4, .slice a5 n5 m5, .slice a6 n6 m6, .slice a7 n7 m7, .slice a8 n8 m8] 37)).heap.size (w.alloc (.cells #[.string X0, .string X1, .int .i64 z, .slice a3 n3 m3, .slice a4 n4 m4, .slice a5 n5 m5, .slice a6 n6 m6, .slice a7 n7 m7, .slice a8 n8 m8] 37)) W) => rightRelsU_any X0 X1 z a3 a4 a5 a6 a7 a8 n3 n4 n5 n6 n7 n8 m3 m4 m5 m6 m7 m8 dp cn (by omega) k4 (by omega) k6 W ((HoldGs.on h3 B0.out).on hb) (HoldV.on (HoldV.on h4 B0.out) hb) ((hL.on B0.out).on hb)
  have C4 := fun W (hb : Below (w.alloc (.cells #[.string X0, .string X1, .int .i64 z, .slice a3 n3 m3, .slice a4 n4 m4, .slice a5 n5 m5, .slice a6 n6 m6, .slice a7 n7 m7, .slice a8 n8 m8] 37)).heap.size (w.alloc (.cells #[.string X0, .string X1, .int .i64 z, .slice a3 n3 m3, .slice a4 n4 m4, .slice a5 n5 m5, .slice a6 n6 m6, .slice a7 n7 m7, .slice a8 n8 m8] 37)) W) => rightListsU_any X0 X1 z a3 a4 a5 a6 a7 a8 n3 n4 n5 n6 n7 n8 m3 m4 m5 m6 m7 m8 rp cf pd aw (by omega) (fun x hx => le_maxLen (k8 x hx)) (by omega) k10 (by omega) k12 (by omega) k14 W ((h5.on B0.out).on hb) (HoldV.on (HoldV.on h6 B0.out) hb) ((h7.on B0.out).on hb) ((h8.on B0.out).on hb) ((hL.on B0.out).on hb).p ((hE.on B0.out).on hb)
  generalize nameB X0.data.toList = q1 at *
  generalize decide ((parseE X1.data.toList).2 = 0) = q2 at *
  generalize stateOkU z n7 n8 = q3 at *
  generalize (decide ((allE (fsts dp)).2 = 0) && decide ((listE cn).2 = 0)) = q4 at *
  generalize rlB rp cf pd aw = q5 at *
  clear h3 h4 h5 h6 h7 h8 k1 k2 k3 k4 k5 k6 k7 k8 k9 k10 k11 k12 k13 k14 e7 e8 hL hE s0 s1
  cases q1
  · go_enter Tryz.func17, Tryz.ntmps17
    go_wp2_with (first
      | (go_at_call 24; (with_reducible refine (C0 _).mono ?_); rintro e w1 ⟨rfl, hb⟩; have HB1 := Lib.hid (HB0.out.trans (hb.mono HB0.out.size)); have y1_1 := (HB1.out.cell (p := ⟨w.heap.size, 1, none⟩) hlt).trans x1; clear hb))
    go_ret
    exact ⟨rfl, B0.out.trans (HB1.out.mono B0.out.size)⟩
  cases q2
  · go_enter Tryz.func17, Tryz.ntmps17
    go_wp2_with (first
      | (go_at_call 25; (with_reducible refine (C1 _ HB1.out).mono ?_); rintro e w2 ⟨rfl, hb⟩; have HB2 := Lib.hid (HB1.out.trans (hb.mono HB1.out.size)); have y2_0 := (HB2.out.cell (p := ⟨w.heap.size, 0, none⟩) hlt).trans x0; have y2_1 := (HB2.out.cell (p := ⟨w.heap.size, 1, none⟩) hlt).trans x1; have y2_2 := (HB2.out.cell (p := ⟨w.heap.size, 2, none⟩) hlt).trans x2; have y2_3 := (HB2.out.cell (p := ⟨w.heap.size, 3, none⟩) hlt).trans x3; have y2_4 := (HB2.out.cell (p := ⟨w.heap.size, 4, none⟩) hlt).trans x4; have y2_5 := (HB2.out.cell (p := ⟨w.heap.size, 5, none⟩) hlt).trans x5; have y2_6 := (HB2.out.cell (p := ⟨w.heap.size, 6, none⟩) hlt).trans x6; have y2_7 := (HB2.out.cell (p := ⟨w.heap.size, 7, none⟩) hlt).trans x7; have y2_8 := (HB2.out.cell (p := ⟨w.heap.size, 8, none⟩) hlt).trans x8; clear hb)
      | (go_at_call 24; (with_reducible refine (C0 _).mono ?_); rintro e w1 ⟨rfl, hb⟩; have HB1 := Lib.hid (HB0.out.trans (hb.mono HB0.out.size)); have y1_1 := (HB1.out.cell (p := ⟨w.heap.size, 1, none⟩) hlt).trans x1; clear hb))
    go_ret
    exact ⟨rfl, B0.out.trans (HB2.out.mono B0.out.size)⟩
  cases q3
  · go_enter Tryz.func17, Tryz.ntmps17
    go_wp2_with (first
      | (go_at_call 26; (with_reducible refine (C2 _ HB2.out).mono ?_); rintro e w3 ⟨rfl, hb⟩; have HB3 := Lib.hid (HB2.out.trans (hb.mono HB2.out.size)); have y3_0 := (HB3.out.cell (p := ⟨w.heap.size, 0, none⟩) hlt).trans x0; have y3_1 := (HB3.out.cell (p := ⟨w.heap.size, 1, none⟩) hlt).trans x1; have y3_2 := (HB3.out.cell (p := ⟨w.heap.size, 2, none⟩) hlt).trans x2; have y3_3 := (HB3.out.cell (p := ⟨w.heap.size, 3, none⟩) hlt).trans x3; have y3_4 := (HB3.out.cell (p := ⟨w.heap.size, 4, none⟩) hlt).trans x4; have y3_5 := (HB3.out.cell (p := ⟨w.heap.size, 5, none⟩) hlt).trans x5; have y3_6 := (HB3.out.cell (p := ⟨w.heap.size, 6, none⟩) hlt).trans x6; have y3_7 := (HB3.out.cell (p := ⟨w.heap.size, 7, none⟩) hlt).trans x7; have y3_8 := (HB3.out.cell (p := ⟨w.heap.size, 8, none⟩) hlt).trans x8; clear hb)
      | (go_at_call 25; (with_reducible refine (C1 _ HB1.out).mono ?_); rintro e w2 ⟨rfl, hb⟩; have HB2 := Lib.hid (HB1.out.trans (hb.mono HB1.out.size)); have y2_0 := (HB2.out.cell (p := ⟨w.heap.size, 0, none⟩) hlt).trans x0; have y2_1 := (HB2.out.cell (p := ⟨w.heap.size, 1, none⟩) hlt).trans x1; have y2_2 := (HB2.out.cell (p := ⟨w.heap.size, 2, none⟩) hlt).trans x2; have y2_3 := (HB2.out.cell (p := ⟨w.heap.size, 3, none⟩) hlt).trans x3; have y2_4 := (HB2.out.cell (p := ⟨w.heap.size, 4, none⟩) hlt).trans x4; have y2_5 := (HB2.out.cell (p := ⟨w.heap.size, 5, none⟩) hlt).trans x5; have y2_6 := (HB2.out.cell (p := ⟨w.heap.size, 6, none⟩) hlt).trans x6; have y2_7 := (HB2.out.cell (p := ⟨w.heap.size, 7, none⟩) hlt).trans x7; have y2_8 := (HB2.out.cell (p := ⟨w.heap.size, 8, none⟩) hlt).trans x8; clear hb)
      | (go_at_call 24; (with_reducible refine (C0 _).mono ?_); rintro e w1 ⟨rfl, hb⟩; have HB1 := Lib.hid (HB0.out.trans (hb.mono HB0.out.size)); have y1_1 := (HB1.out.cell (p := ⟨w.heap.size, 1, none⟩) hlt).trans x1; clear hb))
    go_ret
    exact ⟨rfl, B0.out.trans (HB3.out.mono B0.out.size)⟩
  cases q4
  · go_enter Tryz.func17, Tryz.ntmps17
    go_wp2_with (first
      | (go_at_call 27; (with_reducible refine (C3 _ HB3.out).mono ?_); rintro e w4 ⟨rfl, hb⟩; have HB4 := Lib.hid (HB3.out.trans (hb.mono HB3.out.size)); have y4_0 := (HB4.out.cell (p := ⟨w.heap.size, 0, none⟩) hlt).trans x0; have y4_1 := (HB4.out.cell (p := ⟨w.heap.size, 1, none⟩) hlt).trans x1; have y4_2 := (HB4.out.cell (p := ⟨w.heap.size, 2, none⟩) hlt).trans x2; have y4_3 := (HB4.out.cell (p := ⟨w.heap.size, 3, none⟩) hlt).trans x3; have y4_4 := (HB4.out.cell (p := ⟨w.heap.size, 4, none⟩) hlt).trans x4; have y4_5 := (HB4.out.cell (p := ⟨w.heap.size, 5, none⟩) hlt).trans x5; have y4_6 := (HB4.out.cell (p := ⟨w.heap.size, 6, none⟩) hlt).trans x6; have y4_7 := (HB4.out.cell (p := ⟨w.heap.size, 7, none⟩) hlt).trans x7; have y4_8 := (HB4.out.cell (p := ⟨w.heap.size, 8, none⟩) hlt).trans x8; clear hb)
      | (go_at_call 26; (with_reducible refine (C2 _ HB2.out).mono ?_); rintro e w3 ⟨rfl, hb⟩; have HB3 := Lib.hid (HB2.out.trans (hb.mono HB2.out.size)); have y3_0 := (HB3.out.cell (p := ⟨w.heap.size, 0, none⟩) hlt).trans x0; have y3_1 := (HB3.out.cell (p := ⟨w.heap.size, 1, none⟩) hlt).trans x1; have y3_2 := (HB3.out.cell (p := ⟨w.heap.size, 2, none⟩) hlt).trans x2; have y3_3 := (HB3.out.cell (p := ⟨w.heap.size, 3, none⟩) hlt).trans x3; have y3_4 := (HB3.out.cell (p := ⟨w.heap.size, 4, none⟩) hlt).trans x4; have y3_5 := (HB3.out.cell (p := ⟨w.heap.size, 5, none⟩) hlt).trans x5; have y3_6 := (HB3.out.cell (p := ⟨w.heap.size, 6, none⟩) hlt).trans x6; have y3_7 := (HB3.out.cell (p := ⟨w.heap.size, 7, none⟩) hlt).trans x7; have y3_8 := (HB3.out.cell (p := ⟨w.heap.size, 8, none⟩) hlt).trans x8; clear hb)
      | (go_at_call 25; (with_reducible refine (C1 _ HB1.out).mono ?_); rintro e w2 ⟨rfl, hb⟩; have HB2 := Lib.hid (HB1.out.trans (hb.mono HB1.out.size)); have y2_0 := (HB2.out.cell (p := ⟨w.heap.size, 0, none⟩) hlt).trans x0; have y2_1 := (HB2.out.cell (p := ⟨w.heap.size, 1, none⟩) hlt).trans x1; have y2_2 := (HB2.out.cell (p := ⟨w.heap.size, 2, none⟩) hlt).trans x2; have y2_3 := (HB2.out.cell (p := ⟨w.heap.size, 3, none⟩) hlt).trans x3; have y2_4 := (HB2.out.cell (p := ⟨w.heap.size, 4, none⟩) hlt).trans x4; have y2_5 := (HB2.out.cell (p := ⟨w.heap.size, 5, none⟩) hlt).trans x5; have y2_6 := (HB2.out.cell (p := ⟨w.heap.size, 6, none⟩) hlt).trans x6; have y2_7 := (HB2.out.cell (p := ⟨w.heap.size, 7, none⟩) hlt).trans x7; have y2_8 := (HB2.out.cell (p := ⟨w.heap.size, 8, none⟩) hlt).trans x8; clear hb)
      | (go_at_call 24; (with_reducible refine (C0 _).mono ?_); rintro e w1 ⟨rfl, hb⟩; have HB1 := Lib.hid (HB0.out.trans (hb.mono HB0.out.size)); have y1_1 := (HB1.out.cell (p := ⟨w.heap.size, 1, none⟩) hlt).trans x1; clear hb))
    go_ret
    exact ⟨rfl, B0.out.trans (HB4.out.mono B0.out.size)⟩
  cases q5
  · go_enter Tryz.func17, Tryz.ntmps17
    go_wp2_with (first
      | (go_at_call 28; (with_reducible refine (C4 _ HB4.out).mono ?_); rintro e w5 ⟨rfl, hb⟩; have HB5 := Lib.hid (HB4.out.trans (hb.mono HB4.out.size)); clear hb)
      | (go_at_call 27; (with_reducible refine (C3 _ HB3.out).mono ?_); rintro e w4 ⟨rfl, hb⟩; have HB4 := Lib.hid (HB3.out.trans (hb.mono HB3.out.size)); have y4_0 := (HB4.out.cell (p := ⟨w.heap.size, 0, none⟩) hlt).trans x0; have y4_1 := (HB4.out.cell (p := ⟨w.heap.size, 1, none⟩) hlt).trans x1; have y4_2 := (HB4.out.cell (p := ⟨w.heap.size, 2, none⟩) hlt).trans x2; have y4_3 := (HB4.out.cell (p := ⟨w.heap.size, 3, none⟩) hlt).trans x3; have y4_4 := (HB4.out.cell (p := ⟨w.heap.size, 4, none⟩) hlt).trans x4; have y4_5 := (HB4.out.cell (p := ⟨w.heap.size, 5, none⟩) hlt).trans x5; have y4_6 := (HB4.out.cell (p := ⟨w.heap.size, 6, none⟩) hlt).trans x6; have y4_7 := (HB4.out.cell (p := ⟨w.heap.size, 7, none⟩) hlt).trans x7; have y4_8 := (HB4.out.cell (p := ⟨w.heap.size, 8, none⟩) hlt).trans x8; clear hb)
      | (go_at_call 26; (with_reducible refine (C2 _ HB2.out).mono ?_); rintro e w3 ⟨rfl, hb⟩; have HB3 := Lib.hid (HB2.out.trans (hb.mono HB2.out.size)); have y3_0 := (HB3.out.cell (p := ⟨w.heap.size, 0, none⟩) hlt).trans x0; have y3_1 := (HB3.out.cell (p := ⟨w.heap.size, 1, none⟩) hlt).trans x1; have y3_2 := (HB3.out.cell (p := ⟨w.heap.size, 2, none⟩) hlt).trans x2; have y3_3 := (HB3.out.cell (p := ⟨w.heap.size, 3, none⟩) hlt).trans x3; have y3_4 := (HB3.out.cell (p := ⟨w.heap.size, 4, none⟩) hlt).trans x4; have y3_5 := (HB3.out.cell (p := ⟨w.heap.size, 5, none⟩) hlt).trans x5; have y3_6 := (HB3.out.cell (p := ⟨w.heap.size, 6, none⟩) hlt).trans x6; have y3_7 := (HB3.out.cell (p := ⟨w.heap.size, 7, none⟩) hlt).trans x7; have y3_8 := (HB3.out.cell (p := ⟨w.heap.size, 8, none⟩) hlt).trans x8; clear hb)
      | (go_at_call 25; (with_reducible refine (C1 _ HB1.out).mono ?_); rintro e w2 ⟨rfl, hb⟩; have HB2 := Lib.hid (HB1.out.trans (hb.mono HB1.out.size)); have y2_0 := (HB2.out.cell (p := ⟨w.heap.size, 0, none⟩) hlt).trans x0; have y2_1 := (HB2.out.cell (p := ⟨w.heap.size, 1, none⟩) hlt).trans x1; have y2_2 := (HB2.out.cell (p := ⟨w.heap.size, 2, none⟩) hlt).trans x2; have y2_3 := (HB2.out.cell (p := ⟨w.heap.size, 3, none⟩) hlt).trans x3; have y2_4 := (HB2.out.cell (p := ⟨w.heap.size, 4, none⟩) hlt).trans x4; have y2_5 := (HB2.out.cell (p := ⟨w.heap.size, 5, none⟩) hlt).trans x5; have y2_6 := (HB2.out.cell (p := ⟨w.heap.size, 6, none⟩) hlt).trans x6; have y2_7 := (HB2.out.cell (p := ⟨w.heap.size, 7, none⟩) hlt).trans x7; have y2_8 := (HB2.out.cell (p := ⟨w.heap.size, 8, none⟩) hlt).trans x8; clear hb)
      | (go_at_call 24; (with_reducible refine (C0 _).mono ?_); rintro e w1 ⟨rfl, hb⟩; have HB1 := Lib.hid (HB0.out.trans (hb.mono HB0.out.size)); have y1_1 := (HB1.out.cell (p := ⟨w.heap.size, 1, none⟩) hlt).trans x1; clear hb))
    go_ret
    exact ⟨rfl, B0.out.trans (HB5.out.mono B0.out.size)⟩
  go_enter Tryz.func17, Tryz.ntmps17
  go_wp2_with (first
    | (go_at_call 28; (with_reducible refine (C4 _ HB4.out).mono ?_); rintro e w5 ⟨rfl, hb⟩; have HB5 := Lib.hid (HB4.out.trans (hb.mono HB4.out.size)); clear hb)
    | (go_at_call 27; (with_reducible refine (C3 _ HB3.out).mono ?_); rintro e w4 ⟨rfl, hb⟩; have HB4 := Lib.hid (HB3.out.trans (hb.mono HB3.out.size)); have y4_0 := (HB4.out.cell (p := ⟨w.heap.size, 0, none⟩) hlt).trans x0; have y4_1 := (HB4.out.cell (p := ⟨w.heap.size, 1, none⟩) hlt).trans x1; have y4_2 := (HB4.out.cell (p := ⟨w.heap.size, 2, none⟩) hlt).trans x2; have y4_3 := (HB4.out.cell (p := ⟨w.heap.size, 3, none⟩) hlt).trans x3; have y4_4 := (HB4.out.cell (p := ⟨w.heap.size, 4, none⟩) hlt).trans x4; have y4_5 := (HB4.out.cell (p := ⟨w.heap.size, 5, none⟩) hlt).trans x5; have y4_6 := (HB4.out.cell (p := ⟨w.heap.size, 6, none⟩) hlt).trans x6; have y4_7 := (HB4.out.cell (p := ⟨w.heap.size, 7, none⟩) hlt).trans x7; have y4_8 := (HB4.out.cell (p := ⟨w.heap.size, 8, none⟩) hlt).trans x8; clear hb)
    | (go_at_call 26; (with_reducible refine (C2 _ HB2.out).mono ?_); rintro e w3 ⟨rfl, hb⟩; have HB3 := Lib.hid (HB2.out.trans (hb.mono HB2.out.size)); have y3_0 := (HB3.out.cell (p := ⟨w.heap.size, 0, none⟩) hlt).trans x0; have y3_1 := (HB3.out.cell (p := ⟨w.heap.size, 1, none⟩) hlt).trans x1; have y3_2 := (HB3.out.cell (p := ⟨w.heap.size, 2, none⟩) hlt).trans x2; have y3_3 := (HB3.out.cell (p := ⟨w.heap.size, 3, none⟩) hlt).trans x3; have y3_4 := (HB3.out.cell (p := ⟨w.heap.size, 4, none⟩) hlt).trans x4; have y3_5 := (HB3.out.cell (p := ⟨w.heap.size, 5, none⟩) hlt).trans x5; have y3_6 := (HB3.out.cell (p := ⟨w.heap.size, 6, none⟩) hlt).trans x6; have y3_7 := (HB3.out.cell (p := ⟨w.heap.size, 7, none⟩) hlt).trans x7; have y3_8 := (HB3.out.cell (p := ⟨w.heap.size, 8, none⟩) hlt).trans x8; clear hb)
    | (go_at_call 25; (with_reducible refine (C1 _ HB1.out).mono ?_); rintro e w2 ⟨rfl, hb⟩; have HB2 := Lib.hid (HB1.out.trans (hb.mono HB1.out.size)); have y2_0 := (HB2.out.cell (p := ⟨w.heap.size, 0, none⟩) hlt).trans x0; have y2_1 := (HB2.out.cell (p := ⟨w.heap.size, 1, none⟩) hlt).trans x1; have y2_2 := (HB2.out.cell (p := ⟨w.heap.size, 2, none⟩) hlt).trans x2; have y2_3 := (HB2.out.cell (p := ⟨w.heap.size, 3, none⟩) hlt).trans x3; have y2_4 := (HB2.out.cell (p := ⟨w.heap.size, 4, none⟩) hlt).trans x4; have y2_5 := (HB2.out.cell (p := ⟨w.heap.size, 5, none⟩) hlt).trans x5; have y2_6 := (HB2.out.cell (p := ⟨w.heap.size, 6, none⟩) hlt).trans x6; have y2_7 := (HB2.out.cell (p := ⟨w.heap.size, 7, none⟩) hlt).trans x7; have y2_8 := (HB2.out.cell (p := ⟨w.heap.size, 8, none⟩) hlt).trans x8; clear hb)
    | (go_at_call 24; (with_reducible refine (C0 _).mono ?_); rintro e w1 ⟨rfl, hb⟩; have HB1 := Lib.hid (HB0.out.trans (hb.mono HB0.out.size)); have y1_1 := (HB1.out.cell (p := ⟨w.heap.size, 1, none⟩) hlt).trans x1; clear hb))
  go_ret
  exact ⟨rfl, B0.out.trans (HB5.out.mono B0.out.size)⟩
set_option maxRecDepth 100000 in
set_option maxHeartbeats 8000000 in
theorem rightU_any (x : Uv) (hx : SmallU x) (w : World) (h : InU w x) (hL : LaidU w) (hE : LaidE w) : Calls Tryz.prog 17 #[agU x] w fun e w' => e = .returned (.bool (rightU x)) ∧ Below w.heap.size w w' := by
  obtain ⟨nm, vr, z, dp, cn, rp, cf, pd, aw, dv, cv, rv, fv, pv, av⟩ := x
  have hh := h
  obtain ⟨h3, h4, h5, h6, h7, h8⟩ := hh
  dsimp only at h3 h4 h5 h6 h7 h8
  obtain ⟨a3, m3, -, -, rfl, -⟩ := h3.parts
  obtain ⟨a4, m4, -, -, rfl, -⟩ := HoldQ.parts h4
  obtain ⟨a5, m5, -, -, rfl, -⟩ := h5
  obtain ⟨a6, m6, -, -, rfl, -⟩ := HoldW2.parts h6
  obtain ⟨a7, m7, -, -, rfl, -⟩ := h7
  obtain ⟨a8, m8, -, -, rfl, -⟩ := h8
  have := rightAll_any (bsT nm) (bsT vr) z a3 a4 a5 a6 a7 a8 dp.length cn.length rp.length cf.length pd.length aw.length m3 m4 m5 m6 m7 m8 dp cn rp cf pd aw hx rfl rfl w h hL hE
  exact this
end Go.Proofs.YtpkdnohaefkfgaaGreatDoor
