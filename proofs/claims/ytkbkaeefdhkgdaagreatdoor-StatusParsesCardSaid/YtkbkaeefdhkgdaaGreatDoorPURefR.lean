import Derived.Test.YtkbkaeefdhkgdaaGreatDoorPUOpenR
set_option maxRecDepth 100000
set_option maxHeartbeats 32000000
namespace Go.Proofs.YtkbkaeefdhkgdaaGreatDoor
open Go.RowKit Go.Shelf
open Classical in
theorem riseB_iff {l : List Bs} : riseB l = true ↔ l.length ≤ 64 ∧ RiseU l := by
 unfold riseB
 exact ⟨fun h => of_decide_eq_true h, fun h => decide_eq_true h⟩
theorem namesB_iff {l : List Bs} : namesB l = true ↔ (∀ x ∈ l, nameB x = true) ∧ l.length ≤ 64 := by
 unfold namesB
 rw [Bool.and_eq_true, List.all_eq_true, decide_eq_true_eq]
theorem kT_iff {rt : Bs → Bool} {l : List Bs} : kchkK rt (fun x => x) l = 0 ↔ l.length ≤ 64 ∧ (∀ x ∈ l, rt x = true) ∧ RiseU l := by
 rcases kchkK_ways rt (fun x => x) l with ⟨h, g1, g2⟩ | ⟨h, g⟩
 ·
  refine ⟨fun _ => ⟨g1, fun x hx => ?_, fun i x y hx hy => ?_⟩, fun _ => h⟩
  ·
   obtain ⟨i, hi⟩ := List.mem_iff_getElem?.1 hx
   exact (g2 i x hi).1
  ·
   exact (g2 (i + 1) y hy).2 x (by omega) hx
 ·
  refine ⟨(fun e => by rw [e] at h; rcases h with h | h <;> cases h), fun ⟨e1, e2, e3⟩ => absurd ⟨e1, fun i x hx => ⟨e2 x (List.mem_of_getElem? hx), fun y h0 hy => ?_⟩⟩ g⟩
  exact e3 (i - 1) y x hy (by rw [show i - 1 + 1 = i by omega]; exact hx)
theorem rlB_iff {rp : List Bs} {cf : List (Bs × Bs)} {pd aw : List Bs} : rlB rp cf pd aw = true ↔ namesB rp = true ∧ (cf.length ≤ 64 ∧ StepsK confB (fun x => x.1) cf) ∧ (∀ x ∈ pd, trigB x = true) ∧ namesB aw = true ∧ riseB aw = true ∧ riseB pd = true := by
 have hf : kchkK confB (fun x => x.1) cf = 0 ↔ cf.length ≤ 64 ∧ StepsK confB (fun x => x.1) cf := by
  rcases kchkK_ways confB (fun x => x.1) cf with ⟨h, g⟩ | ⟨h, g⟩
  ·
   exact ⟨fun _ => g, fun _ => h⟩
  ·
   exact ⟨(fun e => by rw [e] at h; rcases h with h | h <;> cases h), fun e => absurd e g⟩
 unfold rlB
 simp only [Bool.and_eq_true, beq_iff_eq, hf, kT_iff, riseB_iff, namesB_iff, List.all_eq_true, decide_eq_true_eq]
 constructor
 ·
  rintro ⟨⟨⟨⟨h1, h2⟩, h3⟩, h4, h5, h6⟩, h7, h8, h9⟩
  exact ⟨⟨h2, h1⟩, h3, h5, ⟨h8, h7⟩, ⟨h7, h9⟩, h4, h6⟩
 ·
  rintro ⟨⟨h2, h1⟩, h3, h5, ⟨h8, h7⟩, ⟨-, h9⟩, h4, h6⟩
  exact ⟨⟨⟨⟨h1, h2⟩, h3⟩, h4, h5, h6⟩, h7, h8, h9⟩
theorem state_wd {z : Int} (h : z < 1 ∨ 7 < z) (n7 n8 : Nat) : stateOkU z n7 n8 = false := by
 unfold stateOkU
 rw [if_neg (by omega)]
 have : wordU z = [] := by
  by_cases h0 : z = 0
  ·
   rw [h0]; rfl
  ·
   exact word_out (by omega)
 rw [this]; rfl
theorem word_in {z : Int} (h1 : 1 ≤ z) (h7 : z ≤ 7) : wordU z ≠ [] := by
 have h : z = 1 ∨ z = 2 ∨ z = 3 ∨ z = 4 ∨ z = 5 ∨ z = 6 ∨ z = 7 := by omega
 rcases h with rfl | rfl | rfl | rfl | rfl | rfl | rfl <;> decide
theorem state5 (n7 n8 : Nat) : stateOkU 5 n7 n8 = decide (0 < n8) := by
 unfold stateOkU setU
 rw [if_pos (by omega)]
 by_cases h : 0 < n8
 ·
  simp [h]
 ·
  rw [if_neg h]; by_cases g : 0 < n7 <;> simp [h, g]
theorem state6 (n7 n8 : Nat) : stateOkU 6 n7 n8 = (decide (n8 = 0) && decide (0 < n7)) := by
 unfold stateOkU setU
 rw [if_pos (by omega)]
 by_cases h : 0 < n8
 ·
  rw [if_pos h]; have : n8 ≠ 0 := by omega
  simp [this]
 ·
  rw [if_neg h]; have : n8 = 0 := by omega
  by_cases g : 0 < n7 <;> simp [this, g]
theorem state_else {z : Int} (h1 : 1 ≤ z) (h7 : z ≤ 7) (h5 : z ≠ 5) (h6 : z ≠ 6) (n7 n8 : Nat) : stateOkU z n7 n8 = (decide (n8 = 0) && decide (n7 = 0)) := by
 unfold stateOkU setU
 rw [if_neg (by omega), decide_eq_true (word_in h1 h7), Bool.true_and]
 by_cases h : 0 < n8
 ·
  rw [if_pos h]; have : n8 ≠ 0 := by omega
  simp [this]
 ·
  rw [if_neg h]; have : n8 = 0 := by omega
  by_cases g : 0 < n7
  ·
   rw [if_pos g]; have : n7 ≠ 0 := by omega
   simp [this]
  ·
   rw [if_neg g]; have : n7 = 0 := by omega
   simp [*]
theorem rightAll_ref (X0 X1 : ByteArray) (z : Int) (a3 a4 a5 a6 a7 a8 : Option Addr) (n3 n4 n5 n6 n7 n8 m3 m4 m5 m6 m7 m8 : Nat) (dp : List Gv) (cn : List Rl) (rp : List Bs) (cf : List (Bs × Bs)) (pd aw : List Bs) (hx : SmallU ⟨X0.data.toList, X1.data.toList, z, dp, cn, rp, cf, pd, aw, .slice a3 n3 m3, .slice a4 n4 m4, .slice a5 n5 m5, .slice a6 n6 m6, .slice a7 n7 m7, .slice a8 n8 m8⟩) (w : World) (h : InU w ⟨X0.data.toList, X1.data.toList, z, dp, cn, rp, cf, pd, aw, .slice a3 n3 m3, .slice a4 n4 m4, .slice a5 n5 m5, .slice a6 n6 m6, .slice a7 n7 m7, .slice a8 n8 m8⟩) (e3 : n3 = dp.length) (e4 : n4 = cn.length) (e5 : n5 = rp.length) (e6 : n6 = cf.length) (e7 : n7 = pd.length) (e8 : n8 = aw.length) : Calls Tryz.prog 26 #[.agg #[.string X0, .string X1, .int .i64 z, .slice a3 n3 m3, .slice a4 n4 m4, .slice a5 n5 m5, .slice a6 n6 m6, .slice a7 n7 m7, .slice a8 n8 m8]] w fun e w' => e = .returned (.bool (nameB X0.data.toList && decide ((parseE X1.data.toList).2 = 0) && stateOkU z n7 n8 && (decide ((allE (fsts dp)).2 = 0) && decide ((listE cn).2 = 0)) && rlB rp cf pd aw)) ∧ Below w.heap.size w w' := by
 have HI := Lib.hid h
 obtain ⟨k1, k2, k3, k4, k5, k6, k7, k8, k9, k10, k11, k12, k13, k14⟩ := hx
 dsimp only at k1 k2 k3 k4 k5 k6 k7 k8 k9 k10 k11 k12 k13 k14
 have s0 : X0.size ≤ 4000 := by rw [sizeOf]; exact k1
 have s1 : X1.size ≤ 4000 := by rw [sizeOf]; exact k2
 rw [← e3] at k3
 rw [← e4] at k5
 rw [← e5] at k7
 rw [← e6] at k9
 rw [← e7] at k11
 rw [← e8] at k13
 have E6 := Lib.hid e6
 have E7 := Lib.hid e7
 obtain ⟨Z, hZ⟩ : ∃ Z, (nameB X0.data.toList && decide ((parseE X1.data.toList).2 = 0) && stateOkU z n7 n8 && (decide ((allE (fsts dp)).2 = 0) && decide ((listE cn).2 = 0)) && rlB rp cf pd aw) = Z := ⟨_, rfl⟩
 rw [hZ]
 have HRL := Lib.hid (@rlB_iff rp cf pd aw)
 have HRF : Hid (¬ (rlB rp cf pd aw = true) → false = Z) := Lib.hid (fun g => by rw [← hZ, Bool.eq_false_iff.2 g, Bool.and_false])
 have HN0 : Hid (nameB X0.data.toList = false → false = Z) := Lib.hid (fun g => by rw [← hZ, g]; rfl)
 have HN1 : Hid (decide ((parseE X1.data.toList).2 = 0) = false → false = Z) := Lib.hid (fun g => by rw [← hZ, g]; simp)
 have HN2 : Hid (decide ((allE (fsts dp)).2 = 0) = false → false = Z) := Lib.hid (fun g => by rw [← hZ, g]; simp)
 have HN3 : Hid (decide ((listE cn).2 = 0) = false → false = Z) := Lib.hid (fun g => by rw [← hZ, g]; simp)
 have HN4 : Hid (z < 1 ∨ 7 < z → false = Z) := Lib.hid (fun g => by rw [← hZ, state_wd g]; simp)
 have HYES : Hid (nameB X0.data.toList = true → decide ((parseE X1.data.toList).2 = 0) = true → decide ((allE (fsts dp)).2 = 0) = true → decide ((listE cn).2 = 0) = true → rlB rp cf pd aw = true → stateOkU z n7 n8 = Z) := Lib.hid (fun g0 g1 g2 g3 g4 => by rw [← hZ, g0, g1, g2, g3, g4]; simp)
 clear hZ
 obtain ⟨x0, x1, x2, x3, x4, x5, x6, x7, x8⟩ := boxV9 w (.string X0) (.string X1) (.int .i64 z) (.slice a3 n3 m3) (.slice a4 n4 m4) (.slice a5 n5 m5) (.slice a6 n6 m6) (.slice a7 n7 m7) (.slice a8 n8 m8) 43
 have B0 := Lib.hid ((Below.refl w.heap.size w).alloc (Nat.le_refl _) (.cells #[.string X0, .string X1, .int .i64 z, .slice a3 n3 m3, .slice a4 n4 m4, .slice a5 n5 m5, .slice a6 n6 m6, .slice a7 n7 m7, .slice a8 n8 m8] 43))
 have hlt : w.heap.size < (w.alloc (.cells #[.string X0, .string X1, .int .i64 z, .slice a3 n3 m3, .slice a4 n4 m4, .slice a5 n5 m5, .slice a6 n6 m6, .slice a7 n7 m7, .slice a8 n8 m8] 43)).heap.size := by simp
 have HB0 := Lib.hid (Below.refl (w.alloc (.cells #[.string X0, .string X1, .int .i64 z, .slice a3 n3 m3, .slice a4 n4 m4, .slice a5 n5 m5, .slice a6 n6 m6, .slice a7 n7 m7, .slice a8 n8 m8] 43)).heap.size (w.alloc (.cells #[.string X0, .string X1, .int .i64 z, .slice a3 n3 m3, .slice a4 n4 m4, .slice a5 n5 m5, .slice a6 n6 m6, .slice a7 n7 m7, .slice a8 n8 m8] 43)))
 have C1 := fun W => parseBig_ref X1 (le_maxLen s1) W
 unfold ParsePost parseV verV at C1
 have C2 := fun W (hb : Below (w.alloc (.cells #[.string X0, .string X1, .int .i64 z, .slice a3 n3 m3, .slice a4 n4 m4, .slice a5 n5 m5, .slice a6 n6 m6, .slice a7 n7 m7, .slice a8 n8 m8] 43)).heap.size (w.alloc (.cells #[.string X0, .string X1, .int .i64 z, .slice a3 n3 m3, .slice a4 n4 m4, .slice a5 n5 m5, .slice a6 n6 m6, .slice a7 n7 m7, .slice a8 n8 m8] 43)) W) => allEBig_ref (.slice a3 n3 m3) dp (by rw [← e3]; omega) k4 W ((HoldGs.on h.dp B0.out).on hb)
 have C3 := fun W (hb : Below (w.alloc (.cells #[.string X0, .string X1, .int .i64 z, .slice a3 n3 m3, .slice a4 n4 m4, .slice a5 n5 m5, .slice a6 n6 m6, .slice a7 n7 m7, .slice a8 n8 m8] 43)).heap.size (w.alloc (.cells #[.string X0, .string X1, .int .i64 z, .slice a3 n3 m3, .slice a4 n4 m4, .slice a5 n5 m5, .slice a6 n6 m6, .slice a7 n7 m7, .slice a8 n8 m8] 43)) W) => listEBig_ref (.slice a4 n4 m4) cn (by rw [← e4]; omega) k6 W (HoldV.on (HoldV.on h.cn B0.out) hb)
 have C4 := fun W => name_ref X0 s0 W
 have C5 := fun W (hb : Below (w.alloc (.cells #[.string X0, .string X1, .int .i64 z, .slice a3 n3 m3, .slice a4 n4 m4, .slice a5 n5 m5, .slice a6 n6 m6, .slice a7 n7 m7, .slice a8 n8 m8] 43)).heap.size (w.alloc (.cells #[.string X0, .string X1, .int .i64 z, .slice a3 n3 m3, .slice a4 n4 m4, .slice a5 n5 m5, .slice a6 n6 m6, .slice a7 n7 m7, .slice a8 n8 m8] 43)) W) => names_ref8 (.slice a5 n5 m5) rp (by rw [← e5]; omega) k8 W ((h.rp.on B0.out).on hb)
 have C6 := fun W (hb : Below (w.alloc (.cells #[.string X0, .string X1, .int .i64 z, .slice a3 n3 m3, .slice a4 n4 m4, .slice a5 n5 m5, .slice a6 n6 m6, .slice a7 n7 m7, .slice a8 n8 m8] 43)).heap.size (w.alloc (.cells #[.string X0, .string X1, .int .i64 z, .slice a3 n3 m3, .slice a4 n4 m4, .slice a5 n5 m5, .slice a6 n6 m6, .slice a7 n7 m7, .slice a8 n8 m8] 43)) W) => names_ref8 (.slice a8 n8 m8) aw (by rw [← e8]; omega) k14 W ((h.aw.on B0.out).on hb)
 have C7 := fun W (hb : Below (w.alloc (.cells #[.string X0, .string X1, .int .i64 z, .slice a3 n3 m3, .slice a4 n4 m4, .slice a5 n5 m5, .slice a6 n6 m6, .slice a7 n7 m7, .slice a8 n8 m8] 43)).heap.size (w.alloc (.cells #[.string X0, .string X1, .int .i64 z, .slice a3 n3 m3, .slice a4 n4 m4, .slice a5 n5 m5, .slice a6 n6 m6, .slice a7 n7 m7, .slice a8 n8 m8] 43)) W) => rising_ref8 (.slice a8 n8 m8) aw (by rw [← e8]; omega) W ((h.aw.on B0.out).on hb)
 have C8 := fun W (hb : Below (w.alloc (.cells #[.string X0, .string X1, .int .i64 z, .slice a3 n3 m3, .slice a4 n4 m4, .slice a5 n5 m5, .slice a6 n6 m6, .slice a7 n7 m7, .slice a8 n8 m8] 43)).heap.size (w.alloc (.cells #[.string X0, .string X1, .int .i64 z, .slice a3 n3 m3, .slice a4 n4 m4, .slice a5 n5 m5, .slice a6 n6 m6, .slice a7 n7 m7, .slice a8 n8 m8] 43)) W) => rising_ref8 (.slice a7 n7 m7) pd (by rw [← e7]; omega) W ((h.pd.on B0.out).on hb)
 unfold TwoP at C2 C3
 have K10 := Lib.hid k10
 have K12 := Lib.hid k12
 have HF6 : Hid (∃ b o, (0 < n6 → a6 = some ⟨b, o, none⟩ ∧ b < (w.alloc (.cells #[.string X0, .string X1, .int .i64 z, .slice a3 n3 m3, .slice a4 n4 m4, .slice a5 n5 m5, .slice a6 n6 m6, .slice a7 n7 m7, .slice a8 n8 m8] 43)).heap.size) ∧ ∀ (j : Nat) x, cf[j]? = some x → (w.alloc (.cells #[.string X0, .string X1, .int .i64 z, .slice a3 n3 m3, .slice a4 n4 m4, .slice a5 n5 m5, .slice a6 n6 m6, .slice a7 n7 m7, .slice a8 n8 m8] 43)).cell? ⟨b, o + j * 2, none⟩ = some (.string ((⟨x.1.toArray⟩ : ByteArray))) ∧ (w.alloc (.cells #[.string X0, .string X1, .int .i64 z, .slice a3 n3 m3, .slice a4 n4 m4, .slice a5 n5 m5, .slice a6 n6 m6, .slice a7 n7 m7, .slice a8 n8 m8] 43)).cell? ⟨b, o + j * 2 + 1, none⟩ = some (.string ((⟨x.2.toArray⟩ : ByteArray)))) := Lib.hid (by
  obtain ⟨a, c, b, o, e, hc, ha, hcell⟩ := HoldW2.parts (HoldV.on h.cf B0.out)
  simp only [Value.slice.injEq] at e
  obtain ⟨rfl, e, -⟩ := e
  exact ⟨b, o, fun g => ha (by rw [← e]; exact g), hcell⟩)
 have HF7 : Hid (∃ b o, (0 < n7 → a7 = some ⟨b, o, none⟩ ∧ b < (w.alloc (.cells #[.string X0, .string X1, .int .i64 z, .slice a3 n3 m3, .slice a4 n4 m4, .slice a5 n5 m5, .slice a6 n6 m6, .slice a7 n7 m7, .slice a8 n8 m8] 43)).heap.size) ∧ ∀ (j : Nat) x, pd[j]? = some x → (w.alloc (.cells #[.string X0, .string X1, .int .i64 z, .slice a3 n3 m3, .slice a4 n4 m4, .slice a5 n5 m5, .slice a6 n6 m6, .slice a7 n7 m7, .slice a8 n8 m8] 43)).cell? ⟨b, o + j, none⟩ = some (.string ((⟨x.toArray⟩ : ByteArray)))) := Lib.hid (by
  obtain ⟨a, c, b, o, e, hc, ha, hcell⟩ := h.pd.on B0.out
  simp only [Value.slice.injEq] at e
  obtain ⟨rfl, e, -⟩ := e
  exact ⟨b, o, fun g => ha (by rw [← e]; exact g), hcell⟩)
 have HBOX : Hid (∀ W, Below (w.alloc (.cells #[.string X0, .string X1, .int .i64 z, .slice a3 n3 m3, .slice a4 n4 m4, .slice a5 n5 m5, .slice a6 n6 m6, .slice a7 n7 m7, .slice a8 n8 m8] 43)).heap.size (w.alloc (.cells #[.string X0, .string X1, .int .i64 z, .slice a3 n3 m3, .slice a4 n4 m4, .slice a5 n5 m5, .slice a6 n6 m6, .slice a7 n7 m7, .slice a8 n8 m8] 43)) W → W.cell? ⟨w.heap.size, 0, none⟩ = some (.string X0) ∧ W.cell? ⟨w.heap.size, 2, none⟩ = some (.int .i64 z) ∧ W.cell? ⟨w.heap.size, 3, none⟩ = some (.slice a3 n3 m3) ∧ W.cell? ⟨w.heap.size, 4, none⟩ = some (.slice a4 n4 m4) ∧ W.cell? ⟨w.heap.size, 5, none⟩ = some (.slice a5 n5 m5) ∧ W.cell? ⟨w.heap.size, 6, none⟩ = some (.slice a6 n6 m6) ∧ W.cell? ⟨w.heap.size, 7, none⟩ = some (.slice a7 n7 m7) ∧ W.cell? ⟨w.heap.size, 8, none⟩ = some (.slice a8 n8 m8)) := Lib.hid (fun W hW => by
  have q := fun i => hW.cell (p := ⟨w.heap.size, i, none⟩) hlt
  exact ⟨(q 0).trans x0, (q 2).trans x2, (q 3).trans x3, (q 4).trans x4, (q 5).trans x5, (q 6).trans x6, (q 7).trans x7, (q 8).trans x8⟩)
 obtain ⟨kv, hkv⟩ : ∃ k : Int, (parseE X1.data.toList).2 = k := ⟨_, rfl⟩
 obtain ⟨zv, hzv⟩ : ∃ k : Int, (parseE X1.data.toList).1.1 = k := ⟨_, rfl⟩
 obtain ⟨UU, hUU⟩ : ∃ U : ByteArray, (⟨((parseE X1.data.toList).1.2.1).toArray⟩ : ByteArray) = U := ⟨_, rfl⟩
 obtain ⟨VV, hVV⟩ : ∃ U : ByteArray, (⟨((parseE X1.data.toList).1.2.2).toArray⟩ : ByteArray) = U := ⟨_, rfl⟩
 simp only [hkv, hzv, hUU, hVV] at C1
 rw [hkv] at HN1 HYES
 obtain ⟨yd, hyd⟩ : ∃ k : Int, (allE (fsts dp)).2 = k := ⟨_, rfl⟩
 obtain ⟨yc, hyc⟩ : ∃ k : Int, (listE cn).2 = k := ⟨_, rfl⟩
 rw [hyd] at HN2 HYES
 rw [hyc] at HN3 HYES
 simp only [hyd] at C2
 simp only [hyc] at C3
 generalize bsT (allE (fsts dp)).1 = T1 at *
 generalize bsT (listE cn).1 = T2 at *
 clear hkv hzv hUU hVV hyd hyc h k1 k2 k4 k6 k8 k10 k12 k14 e3 e4 e5 e6 e7 e8 hlt
 go_enter Tryz.func26, Tryz.ntmps26
 go_upto_region 4 with (first
  | (go_at_call 57; (with_reducible refine (C1 _).mono ?_); rintro e w1 ⟨rfl, hb⟩; have HB1 := Lib.hid (hb.alloc hb.size (.cells #[.int .i64 zv, .string UU, .string VV] 100)); clear hb; obtain ⟨y0, y2, y3, y4, y5, y6, y7, y8⟩ := HBOX.out _ HB1.out)
  | (go_at_call 14; (with_reducible refine (C2 _ HB1.out).mono ?_); rintro e w2 ⟨rfl, hb⟩; have HB2 := Lib.hid (HB1.out.trans (hb.mono HB1.out.size)); clear hb; obtain ⟨y0, y2, y3, y4, y5, y6, y7, y8⟩ := HBOX.out _ HB2.out)
  | (go_at_call 20; (with_reducible refine (C3 _ HB2.out).mono ?_); rintro e w3 ⟨rfl, hb⟩; have HB3 := Lib.hid (HB2.out.trans (hb.mono HB2.out.size)); clear hb; obtain ⟨y0, y2, y3, y4, y5, y6, y7, y8⟩ := HBOX.out _ HB3.out))
 have HOUT : Hid (∀ W, Below (w.alloc (.cells #[.string X0, .string X1, .int .i64 z, .slice a3 n3 m3, .slice a4 n4 m4, .slice a5 n5 m5, .slice a6 n6 m6, .slice a7 n7 m7, .slice a8 n8 m8] 43)).heap.size (w.alloc (.cells #[.string X0, .string X1, .int .i64 z, .slice a3 n3 m3, .slice a4 n4 m4, .slice a5 n5 m5, .slice a6 n6 m6, .slice a7 n7 m7, .slice a8 n8 m8] 43)) W → Below w.heap.size w W) := Lib.hid (fun W hW => B0.out.trans (hW.mono B0.out.size))
 clear C1 C2 C3 x0 x1 x2 x3 x4 x5 x6 x7 x8
 generalize hq0 : nameB X0.data.toList = q0 at *
 generalize hq5 : namesB rp = q5 at *
 have d1 : decide (kv = 0) = (kv == 0) := rfl
 have d2 : decide (yd = 0) = (yd == 0) := rfl
 have d3 : decide (yc = 0) = (yc == 0) := rfl
 rw [d1] at HN1 HYES
 rw [d2] at HN2 HYES
 rw [d3] at HN3 HYES
 clear d1 d2 d3
 cases q0
 ·
  have HF := Lib.hid (HN0.out rfl)
  clear HRL HRF HN0 HN1 HN2 HN3 HN4 HYES HI HF6 HF7 hq0 hq5 K10 K12
  go_wp2_with (go_at_call 58; (with_reducible refine (C4 _).mono ?_); rintro e w4 ⟨rfl, rfl⟩)
  go_ret
  exact ⟨retb HF.out, HOUT.out _ HB3.out⟩
 by_cases hkv : kv = 0
 case neg =>
  have HF := Lib.hid (HN1.out (by rw [beq_eq_false_iff_ne]; exact hkv))
  have hk1 : (kv != 0) = true := by rw [bne_iff_ne]; exact hkv
  clear HRL HRF HN0 HN1 HN2 HN3 HN4 HYES HI HF6 HF7 hq0 hq5 hkv K10 K12
  go_wp2_with (go_at_call 58; (with_reducible refine (C4 _).mono ?_); rintro e w4 ⟨rfl, rfl⟩)
  go_ret
  exact ⟨retb HF.out, HOUT.out _ HB3.out⟩
 subst hkv
 by_cases hyd : yd = 0
 case neg =>
  have HF := Lib.hid (HN2.out (by rw [beq_eq_false_iff_ne]; exact hyd))
  have hk1 : (yd != 0) = true := by rw [bne_iff_ne]; exact hyd
  clear HRL HRF HN0 HN1 HN2 HN3 HN4 HYES HI HF6 HF7 hq0 hq5 hyd K10 K12
  go_wp2_with (go_at_call 58; (with_reducible refine (C4 _).mono ?_); rintro e w4 ⟨rfl, rfl⟩)
  go_ret
  exact ⟨retb HF.out, HOUT.out _ HB3.out⟩
 subst hyd
 by_cases hyc : yc = 0
 case neg =>
  have HF := Lib.hid (HN3.out (by rw [beq_eq_false_iff_ne]; exact hyc))
  have hk1 : (yc != 0) = true := by rw [bne_iff_ne]; exact hyc
  clear HRL HRF HN0 HN1 HN2 HN3 HN4 HYES HI HF6 HF7 hq0 hq5 hyc K10 K12
  go_wp2_with (go_at_call 58; (with_reducible refine (C4 _).mono ?_); rintro e w4 ⟨rfl, rfl⟩)
  go_ret
  exact ⟨retb HF.out, HOUT.out _ HB3.out⟩
 subst hyc
 by_cases hz1 : z < 1
 ·
  have HF := Lib.hid (HN4.out (.inl hz1))
  clear HRL HRF HN0 HN1 HN2 HN3 HN4 HYES HI HF6 HF7 hq0 hq5 K10 K12
  go_wp2_with (go_at_call 58; (with_reducible refine (C4 _).mono ?_); rintro e w4 ⟨rfl, rfl⟩)
  go_ret
  exact ⟨retb HF.out, HOUT.out _ HB3.out⟩
 by_cases hz7 : 7 < z
 ·
  have HF := Lib.hid (HN4.out (.inr hz7))
  clear HRL HRF HN0 HN1 HN2 HN3 HN4 HYES HI HF6 HF7 hq0 hq5 K10 K12
  go_wp2_with (go_at_call 58; (with_reducible refine (C4 _).mono ?_); rintro e w4 ⟨rfl, rfl⟩)
  go_ret
  exact ⟨retb HF.out, HOUT.out _ HB3.out⟩
 have HYa := Lib.hid (HYES.out rfl rfl rfl rfl)
 clear HN0 HN1 HN2 HN3 HN4 HYES
 cases q5
 ·
  have HF := Lib.hid (HRF.out (fun g => by have := (HRL.out.1 g).1; cases this))
  clear HRL HRF HYa HI HF6 HF7 hq0 hq5 K10 K12
  go_wp2_with (first | (go_at_call 58; (with_reducible refine (C4 _).mono ?_); rintro e w4 ⟨rfl, rfl⟩) | (go_at_call 59; (with_reducible refine (C5 _ HB3.out).mono ?_); rintro e w5 ⟨rfl, rfl⟩))
  go_ret
  exact ⟨retb HF.out, HOUT.out _ HB3.out⟩
 by_cases h64 : 64 < n6
 ·
  have HF := Lib.hid (HRF.out (fun g => by have := (HRL.out.1 g).2.1.1; have := E6.out; omega))
  clear HRL HRF HYa HI HF6 HF7 hq0 hq5 K10 K12
  go_wp2_with (first | (go_at_call 58; (with_reducible refine (C4 _).mono ?_); rintro e w4 ⟨rfl, rfl⟩) | (go_at_call 59; (with_reducible refine (C5 _ HB3.out).mono ?_); rintro e w5 ⟨rfl, rfl⟩))
  go_ret
  exact ⟨retb HF.out, HOUT.out _ HB3.out⟩
 obtain ⟨b6, o6, ha6, hc6⟩ := HF6.out
 obtain ⟨b7, o7, ha7, hc7⟩ := HF7.out
 have HC6 := Lib.hid hc6
 have HC7 := Lib.hid hc7
 have HBAD : Hid (∀ (i : Nat) y, cf[i]? = some y → ¬ stepK confB (fun x => x.1) cf i y → false = Z) := Lib.hid (fun i y hy g => HRF.out (fun q => g ((HRL.out.1 q).2.1.2 i y hy)))
 have HTR : Hid (∀ (i : Nat) y, pd[i]? = some y → trigB y = false → false = Z) := Lib.hid (fun i y hy g => HRF.out (fun q => by have := (HRL.out.1 q).2.2.1 y (List.mem_of_getElem? hy); rw [g] at this; cases this))
 have HAW : Hid (¬ (namesB aw = true ∧ riseB aw = true ∧ riseB pd = true) → false = Z) := Lib.hid (fun g => HRF.out (fun q => g (HRL.out.1 q).2.2.2))
 have HYb : Hid (StepsK confB (fun x => x.1) cf → (∀ x ∈ pd, trigB x = true) → namesB aw = true → riseB aw = true → riseB pd = true → stateOkU z n7 n8 = Z) := Lib.hid (fun g1 g2 g3 g4 g5 => HYa.out (HRL.out.2 ⟨rfl, ⟨by have := E6.out; omega, g1⟩, g2, g3, g4, g5⟩))
 clear HRL HRF HF6 HF7 hc6 hc7 hq0 hq5 HI HYa
 go_wp2_with (first | (go_at_call 58; (with_reducible refine (C4 _).mono ?_); rintro e w4 ⟨rfl, rfl⟩) | (go_at_call 59; (with_reducible refine (C5 _ HB3.out).mono ?_); rintro e w5 ⟨rfl, rfl⟩))
 clear C4 C5 y0 y2 y3 y4 y5 y6 y7 y8
 generalize (w.alloc (.cells #[.string X0, .string X1, .int .i64 z, .slice a3 n3 m3, .slice a4 n4 m4, .slice a5 n5 m5, .slice a6 n6 m6, .slice a7 n7 m7, .slice a8 n8 m8] 43)) = W0 at *
 clear B0 HB0 HB1 HB2
 go_loopw [9, 10, 11] (fun i u1 u2 wr => ∃ k : Nat, k ≤ n6 ∧ i = .int .i64 k ∧ Hid (∀ (j : Nat) y, j < k → cf[j]? = some y → stepK confB (fun x => x.1) cf j y) ∧ Hid (Below W0.heap.size W0 wr)) (fun i _ _ _ => n6 - (intOf i).toNat)
 case atStart => exact ⟨0, by omega, rfl, Lib.hid (fun j y hj => by omega), HB3⟩
 case round =>
  obtain ⟨k, hk, rfl, H, HB⟩ := hrel
  obtain ⟨y0, y2, y3, y4, y5, y6, y7, y8⟩ := HBOX.out _ HB.out
  by_cases hlt : k < n6
  ·
   obtain ⟨rfl, hbw⟩ := ha6 (by omega)
   obtain ⟨⟨s1, s2⟩, hx⟩ : ∃ x, cf[k]? = some x := ⟨_, List.getElem?_eq_getElem (by rw [← E6.out]; exact hlt)⟩
   obtain ⟨c0, c1⟩ := HC6.out k _ hx
   dsimp only at c0 c1
   rw [← HB.out.cell (p := ⟨b6, o6 + k * 2, none⟩) hbw] at c0
   rw [← HB.out.cell (p := ⟨b6, o6 + k * 2 + 1, none⟩) hbw] at c1
   have hz := K10.out _ (List.mem_of_getElem? hx)
   dsimp only at hz
   have PH : ∃ (n : Int) (b : Bool), b = (numOf 16 16 s2).isSome ∧ ∀ W, Calls Tryz.prog 60 #[.string (⟨s2.toArray⟩ : ByteArray)] W fun e w' => e = .returned (.tuple #[.int .u64 n, .bool b]) ∧ W = w' := by
    cases hn : numOf 16 16 s2 with
    | none => exact ⟨0, false, rfl, fun W => (parseHex_ref (⟨s2.toArray⟩ : ByteArray) (by rw [sizeOf, bytesOf]; exact hz.2) W).mono fun e w' he => by unfold HexRPost at he; rw [bytesOf, hn] at he; exact he⟩
    | some n => exact ⟨n, true, rfl, fun W => (parseHex_ref (⟨s2.toArray⟩ : ByteArray) (by rw [sizeOf, bytesOf]; exact hz.2) W).mono fun e w' he => by unfold HexRPost at he; rw [bytesOf, hn] at he; exact he⟩
   obtain ⟨hn, b1, hb1, PH⟩ := PH
   have RG := fun W => right_ref (⟨s1.toArray⟩ : ByteArray) (by rw [sizeOf, bytesOf]; exact hz.1) W
   rw [bytesOf] at RG
   have HX := Lib.hid hx
   have HCB : Hid (confB (s1, s2) = (right s1 && b1)) := Lib.hid (by unfold confB; rw [hb1])
   generalize right s1 = r1 at *
   have j0 : (0 : Int) ≤ (k : Int) := by omega
   have j1 : (k : Int) < (n6 : Int) := by omega
   clear hx hb1 hz y0 y2 y3 y4 y5 y7 y8
   cases b1
   ·
    have HF := Lib.hid (HBAD.out k _ HX.out (fun q => by have := q.1; rw [HCB.out, Bool.and_false] at this; cases this))
    have hs := And.intro y6 (And.intro c0 HB.out)
    clear H HBAD HTR HAW HYb HX HCB HC6 HC7 K10 K12 HBOX
    generalize (⟨s1.toArray⟩ : ByteArray) = S1 at *
    generalize (⟨s2.toArray⟩ : ByteArray) = S2 at *
    go_wp2_with (go_at_call 60; (with_reducible refine (PH _).mono ?_); rintro e w4 ⟨rfl, rfl⟩)
    have KQ := Lib.hid (atK W0 [(⟨w.heap.size, 6, none⟩, .slice (some ⟨b6, o6, none⟩) n6 m6), (⟨b6, o6 + k * 2, none⟩, .string S1)])
    have BE := fun (V : World) (h : V.cell? ⟨w.heap.size, 6, none⟩ = some (.slice (some ⟨b6, o6, none⟩) n6 m6) ∧ V.cell? ⟨b6, o6 + k * 2, none⟩ = some (.string S1) ∧ Below W0.heap.size W0 V) => AtF.be (w := W0) (l := [(⟨w.heap.size, 6, none⟩, .slice (some ⟨b6, o6, none⟩) n6 m6), (⟨b6, o6 + k * 2, none⟩, .string S1)]) h
    refine wp_region_held_drew (S := (fun V => V.cell? ⟨w.heap.size, 6, none⟩ = some (.slice (some ⟨b6, o6, none⟩) n6 m6) ∧ V.cell? ⟨b6, o6 + k * 2, none⟩ = some (.string S1) ∧ Below W0.heap.size W0 V)) (by kernel_rfl) ?_ (fun hHeld => ?_)
    ·
     (try dsimp only); (first | assumption | exact hs | exact KQ.out.dr _ hs | exact KQ.out.dr _ (by assumption) | exact KQ.out.on _ _ (by assumption) (by assumption) | exact KQ.out.al _ _ (by assumption) | exact KQ.out.ald _ _ (by assumption) | exact KQ.out.al _ _ hs | exact KQ.out.ald _ _ hs)
    refine heldY 0 86 ?_ _ rfl rfl (by kernel_rfl) (by kernel_rfl) (by kernel_rfl) (fun _ _ _ h => h) rfl (by assumption) ?_ ?_
    rotate_left
    ·
     (intro w hSw; (try dsimp only at hSw); go_simp; (try with_reducible rfl))
    try simp only [SL]
    refine heldY 1 87 ?_ _ rfl rfl (by kernel_rfl) (by kernel_rfl) (by kernel_rfl) (fun _ _ _ h => h) rfl (by assumption) ?_ ?_
    rotate_left
    ·
     (intro w hSw; (try dsimp only at hSw); go_simp; (try with_reducible rfl))
    try simp only [SL]
    refine heldY 2 88 ?_ _ rfl rfl (by kernel_rfl) (by kernel_rfl) (by kernel_rfl) (fun _ _ _ h => h) rfl (by assumption) ?_ ?_
    rotate_left
    ·
     (intro w hSw; (try dsimp only at hSw); go_simp; (try with_reducible rfl))
    try simp only [SL]
    refine heldNo 3 89 rfl (by kernel_rfl) (by kernel_rfl) (by kernel_rfl) (fun _ _ _ h => h) rfl (by assumption) ?_
    try simp only [SL]
    refine heldNo 4 90 rfl (by kernel_rfl) (by kernel_rfl) (by kernel_rfl) (fun _ _ _ h => h) rfl (by assumption) ?_
    try simp only [SL]
    refine heldNo 5 91 rfl (by kernel_rfl) (by kernel_rfl) (by kernel_rfl) (fun _ _ _ h => h) rfl (by assumption) ?_
    try simp only [SL]
    refine heldNo 6 92 rfl (by kernel_rfl) (by kernel_rfl) (by kernel_rfl) (fun _ _ _ h => h) rfl (by assumption) ?_
    try simp only [SL]
    refine heldNo 7 93 rfl (by kernel_rfl) (by kernel_rfl) (by kernel_rfl) (fun _ _ _ h => h) rfl (by assumption) ?_
    try simp only [SL]
    refine heldNo 8 94 rfl (by kernel_rfl) (by kernel_rfl) (by kernel_rfl) (fun _ _ _ h => h) rfl (by assumption) ?_
    try simp only [SL]
    refine heldNo 9 95 rfl (by kernel_rfl) (by kernel_rfl) (by kernel_rfl) (fun _ _ _ h => h) rfl (by assumption) ?_
    try simp only [SL]
    refine heldNo 10 96 rfl (by kernel_rfl) (by kernel_rfl) (by kernel_rfl) (fun _ _ _ h => h) rfl (by assumption) ?_
    try simp only [SL]
    refine heldY 11 97 ?_ _ rfl rfl (by kernel_rfl) (by kernel_rfl) (by kernel_rfl) (fun _ _ _ h => h) rfl (by assumption) ?_ ?_
    rotate_left
    ·
     (intro w hSw; (try dsimp only at hSw); go_simp; (try with_reducible rfl))
    try simp only [SL]
    refine heldY 12 98 ?_ _ rfl rfl (by kernel_rfl) (by kernel_rfl) (by kernel_rfl) (fun _ _ _ h => h) rfl (by assumption) ?_ ?_
    rotate_left
    ·
     (intro w hSw; (try dsimp only at hSw); go_simp; (try with_reducible rfl))
    try simp only [SL]
    refine heldNo 13 99 rfl (by kernel_rfl) (by kernel_rfl) (by kernel_rfl) (fun _ _ _ h => h) rfl (by assumption) ?_
    try simp only [SL]
    refine heldNo 14 100 rfl (by kernel_rfl) (by kernel_rfl) (by kernel_rfl) (fun _ _ _ h => h) rfl (by assumption) ?_
    try simp only [SL]
    refine heldNo 15 101 rfl (by kernel_rfl) (by kernel_rfl) (by kernel_rfl) (fun _ _ _ h => h) rfl (by assumption) ?_
    try simp only [SL]
    refine heldNo 16 102 rfl (by kernel_rfl) (by kernel_rfl) (by kernel_rfl) (fun _ _ _ h => h) rfl (by assumption) ?_
    try simp only [SL]
    refine heldNo 17 103 rfl (by kernel_rfl) (by kernel_rfl) (by kernel_rfl) (fun _ _ _ h => h) rfl (by assumption) ?_
    try simp only [SL]
    refine heldNo 18 104 rfl (by kernel_rfl) (by kernel_rfl) (by kernel_rfl) (fun _ _ _ h => h) rfl (by assumption) ?_
    try simp only [SL]
    refine heldNo 19 105 rfl (by kernel_rfl) (by kernel_rfl) (by kernel_rfl) (fun _ _ _ h => h) rfl (by assumption) ?_
    try simp only [SL]
    refine heldNo 20 106 rfl (by kernel_rfl) (by kernel_rfl) (by kernel_rfl) (fun _ _ _ h => h) rfl (by assumption) ?_
    try simp only [SL]
    refine heldNo 21 107 rfl (by kernel_rfl) (by kernel_rfl) (by kernel_rfl) (fun _ _ _ h => h) rfl (by assumption) ?_
    try simp only [SL]
    refine heldNo 22 108 rfl (by kernel_rfl) (by kernel_rfl) (by kernel_rfl) (fun _ _ _ h => h) rfl (by assumption) ?_
    try simp only [SL]
    refine heldNo 23 109 rfl (by kernel_rfl) (by kernel_rfl) (by kernel_rfl) (fun _ _ _ h => h) rfl (by assumption) ?_
    try simp only [SL]
    refine heldNo 24 110 rfl (by kernel_rfl) (by kernel_rfl) (by kernel_rfl) (fun _ _ _ h => h) rfl (by assumption) ?_
    try simp only [SL]
    refine heldNo 25 111 rfl (by kernel_rfl) (by kernel_rfl) (by kernel_rfl) (fun _ _ _ h => h) rfl (by assumption) ?_
    try simp only [SL]
    refine heldNo 26 112 rfl (by kernel_rfl) (by kernel_rfl) (by kernel_rfl) (fun _ _ _ h => h) rfl (by assumption) ?_
    try simp only [SL]
    refine heldNo 27 113 rfl (by kernel_rfl) (by kernel_rfl) (by kernel_rfl) (fun _ _ _ h => h) rfl (by assumption) ?_
    try simp only [SL]
    refine heldNo 28 114 rfl (by kernel_rfl) (by kernel_rfl) (by kernel_rfl) (fun _ _ _ h => h) rfl (by assumption) ?_
    try simp only [SL]
    refine heldNo 29 115 rfl (by kernel_rfl) (by kernel_rfl) (by kernel_rfl) (fun _ _ _ h => h) rfl (by assumption) ?_
    try simp only [SL]
    refine heldNo 30 116 rfl (by kernel_rfl) (by kernel_rfl) (by kernel_rfl) (fun _ _ _ h => h) rfl (by assumption) ?_
    try simp only [SL]
    refine heldY 31 117 ?_ _ rfl rfl (by kernel_rfl) (by kernel_rfl) (by kernel_rfl) (fun _ _ _ h => h) rfl (by assumption) ?_ ?_
    rotate_left
    ·
     (intro w hSw; (try dsimp only at hSw); go_simp; (try with_reducible rfl))
    try simp only [SL]
    refine wpAnyH_done (by kernel_rfl) ?_ _
    have HW3 := Lib.hid (BE _ hHeld)
    clear hHeld
    go_wp2
    go_ret
    exact ⟨retb HF.out, HOUT.out _ HW3.out⟩
   cases r1
   ·
    have HF := Lib.hid (HBAD.out k _ HX.out (fun q => by have := q.1; rw [HCB.out] at this; cases this))
    have hs := And.intro y6 (And.intro c0 HB.out)
    clear H HBAD HTR HAW HYb HX HCB HC6 HC7 K10 K12 HBOX
    generalize (⟨s1.toArray⟩ : ByteArray) = S1 at *
    generalize (⟨s2.toArray⟩ : ByteArray) = S2 at *
    go_wp2_with (go_at_call 60; (with_reducible refine (PH _).mono ?_); rintro e w4 ⟨rfl, rfl⟩)
    have KQ := Lib.hid (atK W0 [(⟨w.heap.size, 6, none⟩, .slice (some ⟨b6, o6, none⟩) n6 m6), (⟨b6, o6 + k * 2, none⟩, .string S1)])
    have BE := fun (V : World) (h : V.cell? ⟨w.heap.size, 6, none⟩ = some (.slice (some ⟨b6, o6, none⟩) n6 m6) ∧ V.cell? ⟨b6, o6 + k * 2, none⟩ = some (.string S1) ∧ Below W0.heap.size W0 V) => AtF.be (w := W0) (l := [(⟨w.heap.size, 6, none⟩, .slice (some ⟨b6, o6, none⟩) n6 m6), (⟨b6, o6 + k * 2, none⟩, .string S1)]) h
    refine wp_region_held_drew (S := (fun V => V.cell? ⟨w.heap.size, 6, none⟩ = some (.slice (some ⟨b6, o6, none⟩) n6 m6) ∧ V.cell? ⟨b6, o6 + k * 2, none⟩ = some (.string S1) ∧ Below W0.heap.size W0 V)) (by kernel_rfl) ?_ (fun hHeld => ?_)
    ·
     (try dsimp only); (first | assumption | exact hs | exact KQ.out.dr _ hs | exact KQ.out.dr _ (by assumption) | exact KQ.out.on _ _ (by assumption) (by assumption) | exact KQ.out.al _ _ (by assumption) | exact KQ.out.ald _ _ (by assumption) | exact KQ.out.al _ _ hs | exact KQ.out.ald _ _ hs)
    refine heldY 0 86 ?_ _ rfl rfl (by kernel_rfl) (by kernel_rfl) (by kernel_rfl) (fun _ _ _ h => h) rfl (by assumption) ?_ ?_
    rotate_left
    ·
     (intro w hSw; (try dsimp only at hSw); go_simp; (try with_reducible rfl))
    try simp only [SL]
    refine heldY 1 87 ?_ _ rfl rfl (by kernel_rfl) (by kernel_rfl) (by kernel_rfl) (fun _ _ _ h => h) rfl (by assumption) ?_ ?_
    rotate_left
    ·
     (intro w hSw; (try dsimp only at hSw); go_simp; (try with_reducible rfl))
    try simp only [SL]
    refine heldY 2 88 ?_ _ rfl rfl (by kernel_rfl) (by kernel_rfl) (by kernel_rfl) (fun _ _ _ h => h) rfl (by assumption) ?_ ?_
    rotate_left
    ·
     (intro w hSw; (try dsimp only at hSw); go_simp; (try with_reducible rfl))
    try simp only [SL]
    refine heldY 3 89 ?_ _ rfl rfl (by kernel_rfl) (by kernel_rfl) (by kernel_rfl) (fun _ _ _ h => h) rfl (by assumption) ?_ ?_
    rotate_left
    ·
     (intro w hSw; (try dsimp only at hSw); go_simp; (try with_reducible rfl))
    try simp only [SL]
    refine heldY 4 90 ?_ _ rfl rfl (by kernel_rfl) (by kernel_rfl) (by kernel_rfl) (fun _ _ _ h => h) rfl (by assumption) ?_ ?_
    rotate_left
    ·
     (intro w hSw; (try dsimp only at hSw); go_simp; (try with_reducible rfl))
    try simp only [SL]
    refine heldY 5 91 ?_ _ rfl rfl (by kernel_rfl) (by kernel_rfl) (by kernel_rfl) (fun _ _ _ h => h) rfl (by assumption) ?_ ?_
    rotate_left
    ·
     (intro w hSw; (try dsimp only at hSw); go_simp; (try with_reducible rfl))
    try simp only [SL]
    refine heldY 6 92 ?_ _ rfl rfl (by kernel_rfl) (by kernel_rfl) (by kernel_rfl) (fun _ _ _ h => h) rfl (by assumption) ?_ ?_
    rotate_left
    ·
     (intro w hSw; (try dsimp only at hSw); go_simp; (try with_reducible rfl))
    try simp only [SL]
    refine heldY 7 93 ?_ _ rfl rfl (by kernel_rfl) (by kernel_rfl) (by kernel_rfl) (fun _ _ _ h => h) rfl (by assumption) ?_ ?_
    rotate_left
    ·
     (intro w hSw; (try dsimp only at hSw); go_simp; (try with_reducible rfl))
    try simp only [SL]
    refine heldY 8 94 ?_ _ rfl rfl (by kernel_rfl) (by kernel_rfl) (by kernel_rfl) (fun _ _ _ h => h) rfl (by assumption) ?_ ?_
    rotate_left
    ·
     (intro w hSw; (try dsimp only at hSw); go_simp; (try with_reducible rfl))
    try simp only [SL]
    refine wpAnyH_ready (rs := [9]) (by kernel_rfl) (by simp) ?_
    refine AllReadyH.cons rfl (fun K hK => ?_) AllReadyH.nil
    go_simp
    (go_at_call 61; (with_reducible refine (RG _).mono ?_); rintro e w5 ⟨rfl, hb⟩)
    refine hK.out _ _ ?_ (fun hHeld => ?_)
    ·
     (try dsimp only); (first | assumption | exact hs | exact KQ.out.dr _ hs | exact KQ.out.dr _ (by assumption) | exact KQ.out.on _ _ (by assumption) (by assumption) | exact KQ.out.al _ _ (by assumption) | exact KQ.out.ald _ _ (by assumption) | exact KQ.out.al _ _ hs | exact KQ.out.ald _ _ hs)
    clear hK K
    try simp only [Act.put, List.setIfInBounds_toArray, List.set_cons_zero, List.set_cons_succ]
    refine heldY 10 96 ?_ _ rfl rfl (by kernel_rfl) (by kernel_rfl) (by kernel_rfl) (fun _ _ _ h => h) rfl (by assumption) ?_ ?_
    rotate_left
    ·
     (intro w hSw; (try dsimp only at hSw); go_simp; (try with_reducible rfl))
    try simp only [SL]
    refine heldY 11 97 ?_ _ rfl rfl (by kernel_rfl) (by kernel_rfl) (by kernel_rfl) (fun _ _ _ h => h) rfl (by assumption) ?_ ?_
    rotate_left
    ·
     (intro w hSw; (try dsimp only at hSw); go_simp; (try with_reducible rfl))
    try simp only [SL]
    refine heldY 12 98 ?_ _ rfl rfl (by kernel_rfl) (by kernel_rfl) (by kernel_rfl) (fun _ _ _ h => h) rfl (by assumption) ?_ ?_
    rotate_left
    ·
     (intro w hSw; (try dsimp only at hSw); go_simp; (try with_reducible rfl))
    try simp only [SL]
    refine heldNo 13 99 rfl (by kernel_rfl) (by kernel_rfl) (by kernel_rfl) (fun _ _ _ h => h) rfl (by assumption) ?_
    try simp only [SL]
    refine heldNo 14 100 rfl (by kernel_rfl) (by kernel_rfl) (by kernel_rfl) (fun _ _ _ h => h) rfl (by assumption) ?_
    try simp only [SL]
    refine heldNo 15 101 rfl (by kernel_rfl) (by kernel_rfl) (by kernel_rfl) (fun _ _ _ h => h) rfl (by assumption) ?_
    try simp only [SL]
    refine heldNo 16 102 rfl (by kernel_rfl) (by kernel_rfl) (by kernel_rfl) (fun _ _ _ h => h) rfl (by assumption) ?_
    try simp only [SL]
    refine heldNo 17 103 rfl (by kernel_rfl) (by kernel_rfl) (by kernel_rfl) (fun _ _ _ h => h) rfl (by assumption) ?_
    try simp only [SL]
    refine heldNo 18 104 rfl (by kernel_rfl) (by kernel_rfl) (by kernel_rfl) (fun _ _ _ h => h) rfl (by assumption) ?_
    try simp only [SL]
    refine heldNo 19 105 rfl (by kernel_rfl) (by kernel_rfl) (by kernel_rfl) (fun _ _ _ h => h) rfl (by assumption) ?_
    try simp only [SL]
    refine heldNo 20 106 rfl (by kernel_rfl) (by kernel_rfl) (by kernel_rfl) (fun _ _ _ h => h) rfl (by assumption) ?_
    try simp only [SL]
    refine heldNo 21 107 rfl (by kernel_rfl) (by kernel_rfl) (by kernel_rfl) (fun _ _ _ h => h) rfl (by assumption) ?_
    try simp only [SL]
    refine heldNo 22 108 rfl (by kernel_rfl) (by kernel_rfl) (by kernel_rfl) (fun _ _ _ h => h) rfl (by assumption) ?_
    try simp only [SL]
    refine heldNo 23 109 rfl (by kernel_rfl) (by kernel_rfl) (by kernel_rfl) (fun _ _ _ h => h) rfl (by assumption) ?_
    try simp only [SL]
    refine heldNo 24 110 rfl (by kernel_rfl) (by kernel_rfl) (by kernel_rfl) (fun _ _ _ h => h) rfl (by assumption) ?_
    try simp only [SL]
    refine heldNo 25 111 rfl (by kernel_rfl) (by kernel_rfl) (by kernel_rfl) (fun _ _ _ h => h) rfl (by assumption) ?_
    try simp only [SL]
    refine heldNo 26 112 rfl (by kernel_rfl) (by kernel_rfl) (by kernel_rfl) (fun _ _ _ h => h) rfl (by assumption) ?_
    try simp only [SL]
    refine heldNo 27 113 rfl (by kernel_rfl) (by kernel_rfl) (by kernel_rfl) (fun _ _ _ h => h) rfl (by assumption) ?_
    try simp only [SL]
    refine heldNo 28 114 rfl (by kernel_rfl) (by kernel_rfl) (by kernel_rfl) (fun _ _ _ h => h) rfl (by assumption) ?_
    try simp only [SL]
    refine heldNo 29 115 rfl (by kernel_rfl) (by kernel_rfl) (by kernel_rfl) (fun _ _ _ h => h) rfl (by assumption) ?_
    try simp only [SL]
    refine heldNo 30 116 rfl (by kernel_rfl) (by kernel_rfl) (by kernel_rfl) (fun _ _ _ h => h) rfl (by assumption) ?_
    try simp only [SL]
    refine heldY 31 117 ?_ _ rfl rfl (by kernel_rfl) (by kernel_rfl) (by kernel_rfl) (fun _ _ _ h => h) rfl (by assumption) ?_ ?_
    rotate_left
    ·
     (intro w hSw; (try dsimp only at hSw); go_simp; (try with_reducible rfl))
    try simp only [SL]
    refine wpAnyH_done (by kernel_rfl) ?_ _
    have HW3 := Lib.hid (BE _ hHeld)
    clear hHeld
    go_wp2
    go_ret
    exact ⟨retb HF.out, HOUT.out _ HW3.out⟩
   have HCB1 : Hid (confB (s1, s2) = true) := Lib.hid (by rw [HCB.out]; rfl)
   clear HCB
   by_cases hk0 : 0 < k
   ·
    obtain ⟨⟨t1, t2⟩, hy⟩ : ∃ y, cf[k - 1]? = some y := ⟨_, List.getElem?_eq_getElem (by rw [← E6.out]; omega)⟩
    obtain ⟨g0, -⟩ := HC6.out (k - 1) _ hy
    dsimp only at g0
    rw [← HB.out.cell (p := ⟨b6, o6 + (k - 1) * 2, none⟩) hbw] at g0
    have hls := lessT (⟨t1.toArray⟩ : ByteArray) (⟨s1.toArray⟩ : ByteArray)
    rw [bytesOf, bytesOf] at hls
    have HBADk : Hid (decide (t1 < s1) = false → false = Z) := Lib.hid (fun g => HBAD.out k _ HX.out (fun q => by have := q.2 _ hk0 hy; dsimp only at this; rw [decide_eq_true this] at g; cases g))
    have HNEXT : Hid (decide (t1 < s1) = true → ∀ (j : Nat) u, j < k + 1 → cf[j]? = some u → stepK confB (fun x => x.1) cf j u) := Lib.hid (fun g j u hj hu => by
     by_cases ej : j = k
     ·
      subst ej
      rw [HX.out] at hu; cases hu
      exact ⟨HCB1.out, fun u h1 h2 => by rw [hy] at h2; cases h2; exact of_decide_eq_true g⟩
     ·
      exact H.out j u (by omega) hu)
    generalize decide (t1 < s1) = q at *
    have hd : decide ((0 : Int) < (k : Int)) = true := decide_eq_true (by omega)
    have hk1 : (1 : Int) ≤ (k : Int) := by omega
    have i0 : (0 : Int) ≤ (k : Int) - 1 := by omega
    have i1 : (k : Int) - 1 < (n6 : Int) := by omega
    have i2 : ((k : Int) - 1).toNat = k - 1 := by omega
    have i3 : IntKind.i64.wrap ((k : Int) - 1) = (k : Int) - 1 := IntWalk.i64_in _ (by omega)
    have hs := And.intro y6 (And.intro c0 (And.intro g0 HB.out))
    clear H HBAD HX hy
    generalize (⟨s1.toArray⟩ : ByteArray) = S1 at *
    generalize (⟨s2.toArray⟩ : ByteArray) = S2 at *
    generalize (⟨t1.toArray⟩ : ByteArray) = S3 at *
    go_wp2_with (go_at_call 60; (with_reducible refine (PH _).mono ?_); rintro e w4 ⟨rfl, rfl⟩)
    have KQ := Lib.hid (atK W0 [(⟨w.heap.size, 6, none⟩, .slice (some ⟨b6, o6, none⟩) n6 m6), (⟨b6, o6 + k * 2, none⟩, .string S1), (⟨b6, o6 + (k - 1) * 2, none⟩, .string S3)])
    have BE := fun (V : World) (h : V.cell? ⟨w.heap.size, 6, none⟩ = some (.slice (some ⟨b6, o6, none⟩) n6 m6) ∧ V.cell? ⟨b6, o6 + k * 2, none⟩ = some (.string S1) ∧ V.cell? ⟨b6, o6 + (k - 1) * 2, none⟩ = some (.string S3) ∧ Below W0.heap.size W0 V) => AtF.be (w := W0) (l := [(⟨w.heap.size, 6, none⟩, .slice (some ⟨b6, o6, none⟩) n6 m6), (⟨b6, o6 + k * 2, none⟩, .string S1), (⟨b6, o6 + (k - 1) * 2, none⟩, .string S3)]) h
    refine wp_region_held_drew (S := (fun V => V.cell? ⟨w.heap.size, 6, none⟩ = some (.slice (some ⟨b6, o6, none⟩) n6 m6) ∧ V.cell? ⟨b6, o6 + k * 2, none⟩ = some (.string S1) ∧ V.cell? ⟨b6, o6 + (k - 1) * 2, none⟩ = some (.string S3) ∧ Below W0.heap.size W0 V)) (by kernel_rfl) ?_ (fun hHeld => ?_)
    ·
     (try dsimp only); (first | assumption | exact hs | exact KQ.out.dr _ hs | exact KQ.out.dr _ (by assumption) | exact KQ.out.on _ _ (by assumption) (by assumption) | exact KQ.out.al _ _ (by assumption) | exact KQ.out.ald _ _ (by assumption) | exact KQ.out.al _ _ hs | exact KQ.out.ald _ _ hs)
    refine heldY 0 86 ?_ _ rfl rfl (by kernel_rfl) (by kernel_rfl) (by kernel_rfl) (fun _ _ _ h => h) rfl (by assumption) ?_ ?_
    rotate_left
    ·
     (intro w hSw; (try dsimp only at hSw); go_simp; (try with_reducible rfl))
    try simp only [SL]
    refine heldY 1 87 ?_ _ rfl rfl (by kernel_rfl) (by kernel_rfl) (by kernel_rfl) (fun _ _ _ h => h) rfl (by assumption) ?_ ?_
    rotate_left
    ·
     (intro w hSw; (try dsimp only at hSw); go_simp; (try with_reducible rfl))
    try simp only [SL]
    refine heldY 2 88 ?_ _ rfl rfl (by kernel_rfl) (by kernel_rfl) (by kernel_rfl) (fun _ _ _ h => h) rfl (by assumption) ?_ ?_
    rotate_left
    ·
     (intro w hSw; (try dsimp only at hSw); go_simp; (try with_reducible rfl))
    try simp only [SL]
    refine heldY 3 89 ?_ _ rfl rfl (by kernel_rfl) (by kernel_rfl) (by kernel_rfl) (fun _ _ _ h => h) rfl (by assumption) ?_ ?_
    rotate_left
    ·
     (intro w hSw; (try dsimp only at hSw); go_simp; (try with_reducible rfl))
    try simp only [SL]
    refine heldY 4 90 ?_ _ rfl rfl (by kernel_rfl) (by kernel_rfl) (by kernel_rfl) (fun _ _ _ h => h) rfl (by assumption) ?_ ?_
    rotate_left
    ·
     (intro w hSw; (try dsimp only at hSw); go_simp; (try with_reducible rfl))
    try simp only [SL]
    refine heldY 5 91 ?_ _ rfl rfl (by kernel_rfl) (by kernel_rfl) (by kernel_rfl) (fun _ _ _ h => h) rfl (by assumption) ?_ ?_
    rotate_left
    ·
     (intro w hSw; (try dsimp only at hSw); go_simp; (try with_reducible rfl))
    try simp only [SL]
    refine heldY 6 92 ?_ _ rfl rfl (by kernel_rfl) (by kernel_rfl) (by kernel_rfl) (fun _ _ _ h => h) rfl (by assumption) ?_ ?_
    rotate_left
    ·
     (intro w hSw; (try dsimp only at hSw); go_simp; (try with_reducible rfl))
    try simp only [SL]
    refine heldY 7 93 ?_ _ rfl rfl (by kernel_rfl) (by kernel_rfl) (by kernel_rfl) (fun _ _ _ h => h) rfl (by assumption) ?_ ?_
    rotate_left
    ·
     (intro w hSw; (try dsimp only at hSw); go_simp; (try with_reducible rfl))
    try simp only [SL]
    refine heldY 8 94 ?_ _ rfl rfl (by kernel_rfl) (by kernel_rfl) (by kernel_rfl) (fun _ _ _ h => h) rfl (by assumption) ?_ ?_
    rotate_left
    ·
     (intro w hSw; (try dsimp only at hSw); go_simp; (try with_reducible rfl))
    try simp only [SL]
    refine wpAnyH_ready (rs := [9]) (by kernel_rfl) (by simp) ?_
    refine AllReadyH.cons rfl (fun K hK => ?_) AllReadyH.nil
    go_simp
    (go_at_call 61; (with_reducible refine (RG _).mono ?_); rintro e w5 ⟨rfl, hb⟩)
    refine hK.out _ _ ?_ (fun hHeld => ?_)
    ·
     (try dsimp only); (first | assumption | exact hs | exact KQ.out.dr _ hs | exact KQ.out.dr _ (by assumption) | exact KQ.out.on _ _ (by assumption) (by assumption) | exact KQ.out.al _ _ (by assumption) | exact KQ.out.ald _ _ (by assumption) | exact KQ.out.al _ _ hs | exact KQ.out.ald _ _ hs)
    clear hK K
    try simp only [Act.put, List.setIfInBounds_toArray, List.set_cons_zero, List.set_cons_succ]
    refine heldY 10 96 ?_ _ rfl rfl (by kernel_rfl) (by kernel_rfl) (by kernel_rfl) (fun _ _ _ h => h) rfl (by assumption) ?_ ?_
    rotate_left
    ·
     (intro w hSw; (try dsimp only at hSw); go_simp; (try with_reducible rfl))
    try simp only [SL]
    refine heldY 11 97 ?_ _ rfl rfl (by kernel_rfl) (by kernel_rfl) (by kernel_rfl) (fun _ _ _ h => h) rfl (by assumption) ?_ ?_
    rotate_left
    ·
     (intro w hSw; (try dsimp only at hSw); go_simp; (try with_reducible rfl))
    try simp only [SL]
    refine heldY 12 98 ?_ _ rfl rfl (by kernel_rfl) (by kernel_rfl) (by kernel_rfl) (fun _ _ _ h => h) rfl (by assumption) ?_ ?_
    rotate_left
    ·
     (intro w hSw; (try dsimp only at hSw); go_simp; (try with_reducible rfl))
    try simp only [SL]
    refine heldY 13 99 ?_ _ rfl rfl (by kernel_rfl) (by kernel_rfl) (by kernel_rfl) (fun _ _ _ h => h) rfl (by assumption) ?_ ?_
    rotate_left
    ·
     (intro w hSw; (try dsimp only at hSw); go_simp; (try with_reducible rfl))
    try simp only [SL]
    refine heldY 14 100 ?_ _ rfl rfl (by kernel_rfl) (by kernel_rfl) (by kernel_rfl) (fun _ _ _ h => h) rfl (by assumption) ?_ ?_
    rotate_left
    ·
     (intro w hSw; (try dsimp only at hSw); go_simp; (try with_reducible rfl))
    try simp only [SL]
    refine heldY 15 101 ?_ _ rfl rfl (by kernel_rfl) (by kernel_rfl) (by kernel_rfl) (fun _ _ _ h => h) rfl (by assumption) ?_ ?_
    rotate_left
    ·
     (intro w hSw; (try dsimp only at hSw); go_simp; (try with_reducible rfl))
    try simp only [SL]
    refine heldY 16 102 ?_ _ rfl rfl (by kernel_rfl) (by kernel_rfl) (by kernel_rfl) (fun _ _ _ h => h) rfl (by assumption) ?_ ?_
    rotate_left
    ·
     (intro w hSw; (try dsimp only at hSw); go_simp; (try with_reducible rfl))
    try simp only [SL]
    refine heldY 17 103 ?_ _ rfl rfl (by kernel_rfl) (by kernel_rfl) (by kernel_rfl) (fun _ _ _ h => h) rfl (by assumption) ?_ ?_
    rotate_left
    ·
     (intro w hSw; (try dsimp only at hSw); go_simp; (try with_reducible rfl))
    try simp only [SL]
    refine heldY 18 104 ?_ _ rfl rfl (by kernel_rfl) (by kernel_rfl) (by kernel_rfl) (fun _ _ _ h => h) rfl (by assumption) ?_ ?_
    rotate_left
    ·
     (intro w hSw; (try dsimp only at hSw); go_simp; (try with_reducible rfl))
    try simp only [SL]
    refine heldY 19 105 ?_ _ rfl rfl (by kernel_rfl) (by kernel_rfl) (by kernel_rfl) (fun _ _ _ h => h) rfl (by assumption) ?_ ?_
    rotate_left
    ·
     (intro w hSw; (try dsimp only at hSw); go_simp; (try with_reducible rfl))
    try simp only [SL]
    refine heldY 20 106 ?_ _ rfl rfl (by kernel_rfl) (by kernel_rfl) (by kernel_rfl) (fun _ _ _ h => h) rfl (by assumption) ?_ ?_
    rotate_left
    ·
     (intro w hSw; (try dsimp only at hSw); go_simp; (try with_reducible rfl))
    try simp only [SL]
    refine heldY 21 107 ?_ _ rfl rfl (by kernel_rfl) (by kernel_rfl) (by kernel_rfl) (fun _ _ _ h => h) rfl (by assumption) ?_ ?_
    rotate_left
    ·
     (intro w hSw; (try dsimp only at hSw); go_simp; (try with_reducible rfl))
    try simp only [SL]
    refine heldY 22 108 ?_ _ rfl rfl (by kernel_rfl) (by kernel_rfl) (by kernel_rfl) (fun _ _ _ h => h) rfl (by assumption) ?_ ?_
    rotate_left
    ·
     (intro w hSw; (try dsimp only at hSw); go_simp; (try with_reducible rfl))
    try simp only [SL]
    refine heldY 23 109 ?_ _ rfl rfl (by kernel_rfl) (by kernel_rfl) (by kernel_rfl) (fun _ _ _ h => h) rfl (by assumption) ?_ ?_
    rotate_left
    ·
     (intro w hSw; (try dsimp only at hSw); go_simp; (try with_reducible rfl))
    try simp only [SL]
    refine heldY 24 110 ?_ _ rfl rfl (by kernel_rfl) (by kernel_rfl) (by kernel_rfl) (fun _ _ _ h => h) rfl (by assumption) ?_ ?_
    rotate_left
    ·
     (intro w hSw; (try dsimp only at hSw); go_simp; (try with_reducible rfl))
    try simp only [SL]
    refine heldY 25 111 ?_ _ rfl rfl (by kernel_rfl) (by kernel_rfl) (by kernel_rfl) (fun _ _ _ h => h) rfl (by assumption) ?_ ?_
    rotate_left
    ·
     (intro w hSw; (try dsimp only at hSw); go_simp; (try with_reducible rfl))
    try simp only [SL]
    refine heldY 26 112 ?_ _ rfl rfl (by kernel_rfl) (by kernel_rfl) (by kernel_rfl) (fun _ _ _ h => h) rfl (by assumption) ?_ ?_
    rotate_left
    ·
     (intro w hSw; (try dsimp only at hSw); go_simp; (try with_reducible rfl))
    try simp only [SL]
    refine heldY 27 113 ?_ _ rfl rfl (by kernel_rfl) (by kernel_rfl) (by kernel_rfl) (fun _ _ _ h => h) rfl (by assumption) ?_ ?_
    rotate_left
    ·
     (intro w hSw; (try dsimp only at hSw); go_simp; (try with_reducible rfl))
    try simp only [SL]
    refine heldY 28 114 ?_ _ rfl rfl (by kernel_rfl) (by kernel_rfl) (by kernel_rfl) (fun _ _ _ h => h) rfl (by assumption) ?_ ?_
    rotate_left
    ·
     (intro w hSw; (try dsimp only at hSw); go_simp; (try with_reducible rfl))
    try simp only [SL]
    refine heldY 29 115 ?_ _ rfl rfl (by kernel_rfl) (by kernel_rfl) (by kernel_rfl) (fun _ _ _ h => h) rfl (by assumption) ?_ ?_
    rotate_left
    ·
     (intro w hSw; (try dsimp only at hSw); go_simp; (try with_reducible rfl))
    try simp only [SL]
    refine heldY 30 116 ?_ _ rfl rfl (by kernel_rfl) (by kernel_rfl) (by kernel_rfl) (fun _ _ _ h => h) rfl (by assumption) ?_ ?_
    rotate_left
    ·
     (intro w hSw; (try dsimp only at hSw); go_simp; (try with_reducible rfl))
    try simp only [SL]
    refine heldY 31 117 ?_ _ rfl rfl (by kernel_rfl) (by kernel_rfl) (by kernel_rfl) (fun _ _ _ h => h) rfl (by assumption) ?_ ?_
    rotate_left
    ·
     (intro w hSw; (try dsimp only at hSw); go_simp; (try with_reducible rfl))
    try simp only [SL]
    refine wpAnyH_done (by kernel_rfl) ?_ _
    have HW3 := Lib.hid (BE _ hHeld)
    clear hHeld i2 i3
    cases q
    ·
     have HF := Lib.hid (HBADk.out rfl)
     clear HBADk HNEXT
     go_wp2
     go_ret
     exact ⟨retb HF.out, HOUT.out _ HW3.out⟩
    ·
     have HK := Lib.hid (HNEXT.out rfl)
     clear HBADk HNEXT
     go_wp2
     go_roundw
     case rel => exact ⟨k + 1, by omega, by go_num, HK, HW3⟩
     case measure => simp [intOf]; omega
   ·
    have HK : Hid (∀ (j : Nat) u, j < k + 1 → cf[j]? = some u → stepK confB (fun x => x.1) cf j u) := Lib.hid (fun j u hj hu => by
     obtain rfl : j = k := by omega
     rw [HX.out] at hu; cases hu
     exact ⟨HCB1.out, fun _ h1 => absurd h1 hk0⟩)
    have hd : decide ((0 : Int) < (k : Int)) = false := decide_eq_false (by omega)
    have hs := And.intro y6 (And.intro c0 HB.out)
    clear H HBAD HX
    generalize (⟨s1.toArray⟩ : ByteArray) = S1 at *
    generalize (⟨s2.toArray⟩ : ByteArray) = S2 at *
    go_wp2_with (go_at_call 60; (with_reducible refine (PH _).mono ?_); rintro e w4 ⟨rfl, rfl⟩)
    have KQ := Lib.hid (atK W0 [(⟨w.heap.size, 6, none⟩, .slice (some ⟨b6, o6, none⟩) n6 m6), (⟨b6, o6 + k * 2, none⟩, .string S1)])
    have BE := fun (V : World) (h : V.cell? ⟨w.heap.size, 6, none⟩ = some (.slice (some ⟨b6, o6, none⟩) n6 m6) ∧ V.cell? ⟨b6, o6 + k * 2, none⟩ = some (.string S1) ∧ Below W0.heap.size W0 V) => AtF.be (w := W0) (l := [(⟨w.heap.size, 6, none⟩, .slice (some ⟨b6, o6, none⟩) n6 m6), (⟨b6, o6 + k * 2, none⟩, .string S1)]) h
    refine wp_region_held_drew (S := (fun V => V.cell? ⟨w.heap.size, 6, none⟩ = some (.slice (some ⟨b6, o6, none⟩) n6 m6) ∧ V.cell? ⟨b6, o6 + k * 2, none⟩ = some (.string S1) ∧ Below W0.heap.size W0 V)) (by kernel_rfl) ?_ (fun hHeld => ?_)
    ·
     (try dsimp only); (first | assumption | exact hs | exact KQ.out.dr _ hs | exact KQ.out.dr _ (by assumption) | exact KQ.out.on _ _ (by assumption) (by assumption) | exact KQ.out.al _ _ (by assumption) | exact KQ.out.ald _ _ (by assumption) | exact KQ.out.al _ _ hs | exact KQ.out.ald _ _ hs)
    refine heldY 0 86 ?_ _ rfl rfl (by kernel_rfl) (by kernel_rfl) (by kernel_rfl) (fun _ _ _ h => h) rfl (by assumption) ?_ ?_
    rotate_left
    ·
     (intro w hSw; (try dsimp only at hSw); go_simp; (try with_reducible rfl))
    try simp only [SL]
    refine heldY 1 87 ?_ _ rfl rfl (by kernel_rfl) (by kernel_rfl) (by kernel_rfl) (fun _ _ _ h => h) rfl (by assumption) ?_ ?_
    rotate_left
    ·
     (intro w hSw; (try dsimp only at hSw); go_simp; (try with_reducible rfl))
    try simp only [SL]
    refine heldY 2 88 ?_ _ rfl rfl (by kernel_rfl) (by kernel_rfl) (by kernel_rfl) (fun _ _ _ h => h) rfl (by assumption) ?_ ?_
    rotate_left
    ·
     (intro w hSw; (try dsimp only at hSw); go_simp; (try with_reducible rfl))
    try simp only [SL]
    refine heldY 3 89 ?_ _ rfl rfl (by kernel_rfl) (by kernel_rfl) (by kernel_rfl) (fun _ _ _ h => h) rfl (by assumption) ?_ ?_
    rotate_left
    ·
     (intro w hSw; (try dsimp only at hSw); go_simp; (try with_reducible rfl))
    try simp only [SL]
    refine heldY 4 90 ?_ _ rfl rfl (by kernel_rfl) (by kernel_rfl) (by kernel_rfl) (fun _ _ _ h => h) rfl (by assumption) ?_ ?_
    rotate_left
    ·
     (intro w hSw; (try dsimp only at hSw); go_simp; (try with_reducible rfl))
    try simp only [SL]
    refine heldY 5 91 ?_ _ rfl rfl (by kernel_rfl) (by kernel_rfl) (by kernel_rfl) (fun _ _ _ h => h) rfl (by assumption) ?_ ?_
    rotate_left
    ·
     (intro w hSw; (try dsimp only at hSw); go_simp; (try with_reducible rfl))
    try simp only [SL]
    refine heldY 6 92 ?_ _ rfl rfl (by kernel_rfl) (by kernel_rfl) (by kernel_rfl) (fun _ _ _ h => h) rfl (by assumption) ?_ ?_
    rotate_left
    ·
     (intro w hSw; (try dsimp only at hSw); go_simp; (try with_reducible rfl))
    try simp only [SL]
    refine heldY 7 93 ?_ _ rfl rfl (by kernel_rfl) (by kernel_rfl) (by kernel_rfl) (fun _ _ _ h => h) rfl (by assumption) ?_ ?_
    rotate_left
    ·
     (intro w hSw; (try dsimp only at hSw); go_simp; (try with_reducible rfl))
    try simp only [SL]
    refine heldY 8 94 ?_ _ rfl rfl (by kernel_rfl) (by kernel_rfl) (by kernel_rfl) (fun _ _ _ h => h) rfl (by assumption) ?_ ?_
    rotate_left
    ·
     (intro w hSw; (try dsimp only at hSw); go_simp; (try with_reducible rfl))
    try simp only [SL]
    refine wpAnyH_ready (rs := [9]) (by kernel_rfl) (by simp) ?_
    refine AllReadyH.cons rfl (fun K hK => ?_) AllReadyH.nil
    go_simp
    (go_at_call 61; (with_reducible refine (RG _).mono ?_); rintro e w5 ⟨rfl, hb⟩)
    refine hK.out _ _ ?_ (fun hHeld => ?_)
    ·
     (try dsimp only); (first | assumption | exact hs | exact KQ.out.dr _ hs | exact KQ.out.dr _ (by assumption) | exact KQ.out.on _ _ (by assumption) (by assumption) | exact KQ.out.al _ _ (by assumption) | exact KQ.out.ald _ _ (by assumption) | exact KQ.out.al _ _ hs | exact KQ.out.ald _ _ hs)
    clear hK K
    try simp only [Act.put, List.setIfInBounds_toArray, List.set_cons_zero, List.set_cons_succ]
    refine heldY 10 96 ?_ _ rfl rfl (by kernel_rfl) (by kernel_rfl) (by kernel_rfl) (fun _ _ _ h => h) rfl (by assumption) ?_ ?_
    rotate_left
    ·
     (intro w hSw; (try dsimp only at hSw); go_simp; (try with_reducible rfl))
    try simp only [SL]
    refine heldY 11 97 ?_ _ rfl rfl (by kernel_rfl) (by kernel_rfl) (by kernel_rfl) (fun _ _ _ h => h) rfl (by assumption) ?_ ?_
    rotate_left
    ·
     (intro w hSw; (try dsimp only at hSw); go_simp; (try with_reducible rfl))
    try simp only [SL]
    refine heldY 12 98 ?_ _ rfl rfl (by kernel_rfl) (by kernel_rfl) (by kernel_rfl) (fun _ _ _ h => h) rfl (by assumption) ?_ ?_
    rotate_left
    ·
     (intro w hSw; (try dsimp only at hSw); go_simp; (try with_reducible rfl))
    try simp only [SL]
    refine heldY 13 99 ?_ _ rfl rfl (by kernel_rfl) (by kernel_rfl) (by kernel_rfl) (fun _ _ _ h => h) rfl (by assumption) ?_ ?_
    rotate_left
    ·
     (intro w hSw; (try dsimp only at hSw); go_simp; (try with_reducible rfl))
    try simp only [SL]
    refine heldY 14 100 ?_ _ rfl rfl (by kernel_rfl) (by kernel_rfl) (by kernel_rfl) (fun _ _ _ h => h) rfl (by assumption) ?_ ?_
    rotate_left
    ·
     (intro w hSw; (try dsimp only at hSw); go_simp; (try with_reducible rfl))
    try simp only [SL]
    refine heldY 15 101 ?_ _ rfl rfl (by kernel_rfl) (by kernel_rfl) (by kernel_rfl) (fun _ _ _ h => h) rfl (by assumption) ?_ ?_
    rotate_left
    ·
     (intro w hSw; (try dsimp only at hSw); go_simp; (try with_reducible rfl))
    try simp only [SL]
    refine heldNo 16 102 rfl (by kernel_rfl) (by kernel_rfl) (by kernel_rfl) (fun _ _ _ h => h) rfl (by assumption) ?_
    try simp only [SL]
    refine heldNo 17 103 rfl (by kernel_rfl) (by kernel_rfl) (by kernel_rfl) (fun _ _ _ h => h) rfl (by assumption) ?_
    try simp only [SL]
    refine heldNo 18 104 rfl (by kernel_rfl) (by kernel_rfl) (by kernel_rfl) (fun _ _ _ h => h) rfl (by assumption) ?_
    try simp only [SL]
    refine heldNo 19 105 rfl (by kernel_rfl) (by kernel_rfl) (by kernel_rfl) (fun _ _ _ h => h) rfl (by assumption) ?_
    try simp only [SL]
    refine heldNo 20 106 rfl (by kernel_rfl) (by kernel_rfl) (by kernel_rfl) (fun _ _ _ h => h) rfl (by assumption) ?_
    try simp only [SL]
    refine heldNo 21 107 rfl (by kernel_rfl) (by kernel_rfl) (by kernel_rfl) (fun _ _ _ h => h) rfl (by assumption) ?_
    try simp only [SL]
    refine heldNo 22 108 rfl (by kernel_rfl) (by kernel_rfl) (by kernel_rfl) (fun _ _ _ h => h) rfl (by assumption) ?_
    try simp only [SL]
    refine heldNo 23 109 rfl (by kernel_rfl) (by kernel_rfl) (by kernel_rfl) (fun _ _ _ h => h) rfl (by assumption) ?_
    try simp only [SL]
    refine heldNo 24 110 rfl (by kernel_rfl) (by kernel_rfl) (by kernel_rfl) (fun _ _ _ h => h) rfl (by assumption) ?_
    try simp only [SL]
    refine heldNo 25 111 rfl (by kernel_rfl) (by kernel_rfl) (by kernel_rfl) (fun _ _ _ h => h) rfl (by assumption) ?_
    try simp only [SL]
    refine heldNo 26 112 rfl (by kernel_rfl) (by kernel_rfl) (by kernel_rfl) (fun _ _ _ h => h) rfl (by assumption) ?_
    try simp only [SL]
    refine heldNo 27 113 rfl (by kernel_rfl) (by kernel_rfl) (by kernel_rfl) (fun _ _ _ h => h) rfl (by assumption) ?_
    try simp only [SL]
    refine heldNo 28 114 rfl (by kernel_rfl) (by kernel_rfl) (by kernel_rfl) (fun _ _ _ h => h) rfl (by assumption) ?_
    try simp only [SL]
    refine heldNo 29 115 rfl (by kernel_rfl) (by kernel_rfl) (by kernel_rfl) (fun _ _ _ h => h) rfl (by assumption) ?_
    try simp only [SL]
    refine heldY 30 116 ?_ _ rfl rfl (by kernel_rfl) (by kernel_rfl) (by kernel_rfl) (fun _ _ _ h => h) rfl (by assumption) ?_ ?_
    rotate_left
    ·
     (intro w hSw; (try dsimp only at hSw); go_simp; (try with_reducible rfl))
    try simp only [SL]
    refine heldY 31 117 ?_ _ rfl rfl (by kernel_rfl) (by kernel_rfl) (by kernel_rfl) (fun _ _ _ h => h) rfl (by assumption) ?_ ?_
    rotate_left
    ·
     (intro w hSw; (try dsimp only at hSw); go_simp; (try with_reducible rfl))
    try simp only [SL]
    refine wpAnyH_done (by kernel_rfl) ?_ _
    have HW3 := Lib.hid (BE _ hHeld)
    clear hHeld
    go_wp2
    go_roundw
    case rel => exact ⟨k + 1, by omega, by go_num, HK, HW3⟩
    case measure => simp [intOf]; omega
  ·
   obtain rfl : k = n6 := by omega
   have HST : Hid (StepsK confB (fun x => x.1) cf) := Lib.hid (fun i x hx => H.out i x (by have := (List.getElem?_eq_some_iff.1 hx).1; rw [← E6.out] at this; exact this) hx)
   have HYc := Lib.hid (HYb.out HST.out)
   clear HST H HBAD HYb HC6 K10 hlt hk
   go_wp2
   clear y0 y2 y3 y4 y5 y6 y7 y8
   have HB4 := HB
   clear HB
   go_loopw [12] (fun i wr => ∃ k : Nat, k ≤ n7 ∧ i = .int .i64 k ∧ Hid (∀ (j : Nat) y, j < k → pd[j]? = some y → trigB y = true) ∧ Hid (Below W0.heap.size W0 wr)) (fun i _ => n7 - (intOf i).toNat)
   case atStart => exact ⟨0, by omega, rfl, Lib.hid (fun j y hj => by omega), HB4⟩
   case round =>
    obtain ⟨t, ht, rfl, H, HB⟩ := hrel
    obtain ⟨y0, y2, y3, y4, y5, y6, y7, y8⟩ := HBOX.out _ HB.out
    have hsz := HB.out.size
    by_cases hlt : t < n7
    ·
     obtain ⟨rfl, hbw⟩ := ha7 (by omega)
     obtain ⟨s, hx⟩ : ∃ x, pd[t]? = some x := ⟨_, List.getElem?_eq_getElem (by rw [← E7.out]; exact hlt)⟩
     have c0 := HC7.out t _ hx
     rw [← HB.out.cell (p := ⟨b7, o7 + t, none⟩) hbw] at c0
     have TG := fun W => trig_ref (⟨s.toArray⟩ : ByteArray) (by rw [sizeOf, bytesOf]; exact K12.out _ (List.mem_of_getElem? hx)) W
     rw [bytesOf] at TG
     have HX := Lib.hid hx
     obtain ⟨tb, htb⟩ : ∃ b, trigB s = b := ⟨_, rfl⟩
     rw [htb] at TG
     have HT := Lib.hid htb
     clear hx htb
     generalize (⟨s.toArray⟩ : ByteArray) = S1 at *
     cases tb
     ·
      have HF := Lib.hid (HTR.out t _ HX.out HT.out)
      clear H HTR HAW HYc HX HT HC7 K12 HBOX
      go_wp2_with (go_at_call 62; (with_reducible refine (TG _).mono ?_); rintro e w4 ⟨rfl, hb⟩; have HB5 := Lib.hid (HB.out.trans (hb.mono hsz)); clear hb)
      go_ret
      exact ⟨retb HF.out, HOUT.out _ HB5.out⟩
     ·
      have HK : Hid (∀ (j : Nat) u, j < t + 1 → pd[j]? = some u → trigB u = true) := Lib.hid (fun j u hj hu => by
       by_cases e : j = t
       ·
        subst e; rw [HX.out] at hu; cases hu; exact HT.out
       ·
        exact H.out j u (by omega) hu)
      clear H HTR HX HT
      go_wp2_with (go_at_call 62; (with_reducible refine (TG _).mono ?_); rintro e w4 ⟨rfl, hb⟩; have HB5 := Lib.hid (HB.out.trans (hb.mono hsz)); clear hb)
      go_roundw
      case rel => exact ⟨t + 1, by omega, by go_num, HK, HB5⟩
      case measure => simp [intOf]; omega
    ·
     obtain rfl : t = n7 := by omega
     have HYd := Lib.hid (HYc.out (fun x hx => by obtain ⟨j, hj⟩ := List.mem_iff_getElem?.1 hx; exact H.out j x (by have := (List.getElem?_eq_some_iff.1 hj).1; rw [← E7.out] at this; exact this) hj))
     have C6 := C6 _ HB.out
     have C7 := C7 _ HB.out
     clear H HTR HC7 K12 hlt ht HYc
     generalize namesB aw = g1 at *
     generalize riseB aw = g2 at *
     generalize riseB pd = g3 at *
     cases g1
     ·
      have HF := Lib.hid (HAW.out (fun q => by cases q.1))
      clear HAW HYd HBOX
      go_wp2_with (go_at_call 59; (with_reducible refine C6.mono ?_); rintro e w5 ⟨rfl, rfl⟩)
      go_ret
      exact ⟨retb HF.out, HOUT.out _ HB.out⟩
     cases g2
     ·
      have HF := Lib.hid (HAW.out (fun q => by cases q.2.1))
      clear HAW HYd HBOX
      go_wp2_with (first | (go_at_call 59; (with_reducible refine C6.mono ?_); rintro e w5 ⟨rfl, rfl⟩) | (go_at_call 63; (with_reducible refine C7.mono ?_); rintro e w6 ⟨rfl, q6, rfl⟩; have HB6 := Lib.hid (belowQ HB.out q6)))
      go_ret
      exact ⟨retb HF.out, HOUT.out _ HB6.out⟩
     cases g3
     ·
      have HF := Lib.hid (HAW.out (fun q => by cases q.2.2))
      clear HAW HYd
      go_wp2_with (first
       | (go_at_call 59; (with_reducible refine C6.mono ?_); rintro e w5 ⟨rfl, rfl⟩)
       | (go_at_call 63; (with_reducible refine (C8 _ HB6.out).mono ?_); rintro e w7 ⟨rfl, q7, h7⟩; have HB7 : Hid (Below W0.heap.size W0 w7) := Lib.hid (by rw [h7]; exact belowQ HB6.out q7); clear h7; obtain ⟨y0, y2, y3, y4, y5, y6, y7, y8⟩ := HBOX.out _ HB7.out)
       | (go_at_call 63; (with_reducible refine C7.mono ?_); rintro e w6 ⟨rfl, q6, h6⟩; have HB6 : Hid (Below W0.heap.size W0 w6) := Lib.hid (by rw [h6]; exact belowQ HB.out q6); clear h6; obtain ⟨y0, y2, y3, y4, y5, y6, y7, y8⟩ := HBOX.out _ HB6.out))
      go_ret
      exact ⟨retb HF.out, HOUT.out _ HB7.out⟩
     have HYe := Lib.hid (HYd.out rfl rfl rfl)
     clear HAW HYd
     have H5 : Hid (z = 5 → decide (0 < n8) = Z) := Lib.hid (fun g => by rw [← HYe.out, g, state5])
     have H6 : Hid (z = 6 → (decide (n8 = 0) && decide (0 < t)) = Z) := Lib.hid (fun g => by rw [← HYe.out, g, state6])
     have H7 : Hid (z ≠ 5 → z ≠ 6 → (decide (n8 = 0) && decide (t = 0)) = Z) := Lib.hid (fun g5 g6 => by rw [← HYe.out, state_else (by omega) (by omega) g5 g6])
     clear HYe
     go_upto_region 19 with (first
      | (go_at_call 59; (with_reducible refine C6.mono ?_); rintro e w5 ⟨rfl, rfl⟩)
      | (go_at_call 63; (with_reducible refine (C8 _ HB6.out).mono ?_); rintro e w7 ⟨rfl, q7, h7⟩; have HB7 : Hid (Below W0.heap.size W0 w7) := Lib.hid (by rw [h7]; exact belowQ HB6.out q7); clear h7; obtain ⟨y0, y2, y3, y4, y5, y6, y7, y8⟩ := HBOX.out _ HB7.out)
      | (go_at_call 63; (with_reducible refine C7.mono ?_); rintro e w6 ⟨rfl, q6, h6⟩; have HB6 : Hid (Below W0.heap.size W0 w6) := Lib.hid (by rw [h6]; exact belowQ HB.out q6); clear h6; obtain ⟨y0, y2, y3, y4, y5, y6, y7, y8⟩ := HBOX.out _ HB6.out))
     have HBF := Lib.hid (HOUT.out _ HB7.out)
     clear C6 C7 C8 HBOX HB HB3 HB4 HB6 HB7 HOUT
     by_cases h5 : z = 5
     ·
      have HF := Lib.hid (H5.out h5)
      have hz5 : (z == 5) = true := by rw [h5]; rfl
      clear H5 H6 H7 h5
      go_wp2
      go_ret
      exact ⟨retb HF.out, HBF.out⟩
     have hz5 : (z == 5) = false := by rw [beq_eq_false_iff_ne]; exact h5
     by_cases h6 : z = 6
     ·
      have H6 := Lib.hid (H6.out h6)
      have hz6 : (z == 6) = true := by rw [h6]; rfl
      clear H5 H7 h5 h6
      by_cases h8 : n8 = 0
      ·
       subst h8
       have HF : Hid (decide (0 < t) = Z) := Lib.hid (by rw [← H6.out, decide_eq_true rfl, Bool.true_and])
       clear H6
       go_wp2
       go_ret
       exact ⟨retb HF.out, HBF.out⟩
      ·
       have HF : Hid (false = Z) := Lib.hid (by rw [← H6.out, decide_eq_false h8]; rfl)
       have h8' : ((n8 : Int) == 0) = false := by rw [beq_eq_false_iff_ne]; omega
       clear H6 h8
       go_wp2
       go_ret
       exact ⟨retb HF.out, HBF.out⟩
     ·
      have H7 := Lib.hid (H7.out h5 h6)
      have hz6 : (z == 6) = false := by rw [beq_eq_false_iff_ne]; exact h6
      clear H5 H6 h5 h6
      by_cases h8 : n8 = 0
      ·
       subst h8
       have HF : Hid (((t : Int) == 0) = Z) := Lib.hid (by
        rw [← H7.out, decide_eq_true rfl, Bool.true_and]
        by_cases g : t = 0
        ·
         rw [g]; rfl
        ·
         rw [decide_eq_false g, beq_eq_false_iff_ne]; omega)
       clear H7
       go_wp2
       go_ret
       exact ⟨retb HF.out, HBF.out⟩
      ·
       have HF : Hid (false = Z) := Lib.hid (by rw [← H7.out, decide_eq_false h8]; rfl)
       have h8' : ((n8 : Int) == 0) = false := by rw [beq_eq_false_iff_ne]; omega
       clear H7 h8
       go_wp2
       go_ret
       exact ⟨retb HF.out, HBF.out⟩
theorem rightU_ref (x : Uv) (hx : SmallU x) (w : World) (h : InU w x) : Calls Tryz.prog 26 #[agZU x] w fun e w' => e = .returned (.bool (rightU x)) ∧ Below w.heap.size w w' := by
 obtain ⟨nm, vr, z, dp, cn, rp, cf, pd, aw, dv, cv, rv, fv, pv, av⟩ := x
 have hh := h
 obtain ⟨h3, h4, h5, h6, h7, h8⟩ := hh
 dsimp only at h3 h4 h5 h6 h7 h8
 obtain ⟨a3, m3, -, -, rfl, -⟩ := h3.parts
 obtain ⟨a4, m4, -, -, rfl, -⟩ := HoldQ.parts h4
 obtain ⟨a5, m5, -, -, rfl, -⟩ := h5
 obtain ⟨a6, m6, -, -, rfl, -⟩ := HoldW2.parts h6
 obtain ⟨a7, m7, -, -, rfl, -⟩ := h7
 obtain ⟨a8, m8, -, -, rfl, -⟩ := h8
 have := rightAll_ref (bsT nm) (bsT vr) z a3 a4 a5 a6 a7 a8 dp.length cn.length rp.length cf.length pd.length aw.length m3 m4 m5 m6 m7 m8 dp cn rp cf pd aw hx w h rfl rfl rfl rfl rfl rfl
 exact this
end Go.Proofs.YtkbkaeefdhkgdaaGreatDoor
