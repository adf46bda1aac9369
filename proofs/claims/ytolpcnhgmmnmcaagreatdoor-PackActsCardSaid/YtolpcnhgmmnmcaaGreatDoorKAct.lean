/-
  A command of a script, by the program: Act, and what it calls: what each returns; nothing old turns. Condition: LaidA.
-/
import Derived.Test.YtolpcnhgmmnmcaaGreatDoorKPlace
namespace Go.Proofs.YtolpcnhgmmnmcaaGreatDoor
open Go.RowKit Go.Shelf
def rightM (m u g : Int) : Bool := (decide (0 ≤ m) && decide (m ≤ 4095)) && (decide (0 ≤ u) && decide (u ≤ 67108863)) && (decide (0 ≤ g) && decide (g ≤ 67108863))
/-- A command, and the slice values of its slaves and paths. -/
structure Kv where
  kd : Int
  nm : Bs
  pt : Bs
  ds : Bs
  mm : Int
  uu : Int
  gg : Int
  pr : Int
  fl : Bool
  fo : Bool
  sl : List Sv
  ps : List Bs
  sv : Value
  pv : Value
abbrev cellsK (x : Kv) : Array Value := #[.int .i64 x.kd, .string (⟨x.nm.toArray⟩ : ByteArray), .string (⟨x.pt.toArray⟩ : ByteArray), .string (⟨x.ds.toArray⟩ : ByteArray), .int .i64 x.mm, .int .i64 x.uu, .int .i64 x.gg, .int .i64 x.pr, .bool x.fl, .bool x.fo, x.sv, x.pv]
abbrev aggK (x : Kv) : Value := .agg (cellsK x)
abbrev InK (w : World) (x : Kv) : Prop := HoldS w x.sv x.sl ∧ HoldT w x.pv x.ps
theorem InK.on {w w' : World} {x : Kv} (h : InK w x) (hb : Below w.heap.size w w') : InK w' x := ⟨HoldV.on h.1 hb, h.2.on hb⟩
structure SmK (x : Kv) : Prop where
  nm : x.nm.length ≤ 4000
  pt : x.pt.length ≤ 4000
  ds : x.ds.length ≤ 4000
  sl : x.sl.length ≤ 500
  ps : x.ps.length ≤ 500
  ss : ∀ s ∈ x.sl, s.1.length ≤ 4000 ∧ s.2.length ≤ 4000
  qs : ∀ q ∈ x.ps, q.length ≤ 4000
def slvK (sl : List Sv) (ps : List Bs) : Bool := (decide (sl.length ≤ 8) && decide (ps.length = sl.length)) && (sl.all slK && ps.all (orK plK))
def trgK (s : Bs) : Bool := nameB s || right s
def actB (x : Kv) : Bool :=
  if x.kd = 1 then (orK plK x.ds && orK nameB x.nm) && plK x.pt
  else if x.kd = 2 then orK nameB x.nm && plK x.pt
  else if x.kd = 3 then plK x.pt && rightM x.mm x.uu x.gg
  else if x.kd = 4 then plK x.pt
  else if x.kd = 5 then ((lkK x.ds && prK x.pr) && slvK x.sl x.ps) && (plK x.pt && nmK x.nm)
  else if x.kd = 6 ∨ x.kd = 8 then plK x.pt && nmK x.nm
  else if x.kd = 7 ∨ x.kd = 9 then nmK x.nm
  else if x.kd = 10 then trgK x.nm
  else false
theorem boxK (W : World) (cs : Array Value) (t : TypeId) (i : Nat) (v : Value) (h : cs[i]? = some v) : (W.alloc (.cells cs t)).cell? ⟨W.heap.size, i, none⟩ = some v := by
  rw [World.cell?_alloc_new]; exact h
def CelK (x : Kv) (b : Nat) (W : World) : Prop := W.cell? ⟨b, 0, none⟩ = some (.int .i64 x.kd) ∧ W.cell? ⟨b, 1, none⟩ = some (.string (⟨x.nm.toArray⟩ : ByteArray)) ∧ W.cell? ⟨b, 2, none⟩ = some (.string (⟨x.pt.toArray⟩ : ByteArray)) ∧ W.cell? ⟨b, 3, none⟩ = some (.string (⟨x.ds.toArray⟩ : ByteArray)) ∧ W.cell? ⟨b, 4, none⟩ = some (.int .i64 x.mm) ∧ W.cell? ⟨b, 5, none⟩ = some (.int .i64 x.uu) ∧ W.cell? ⟨b, 6, none⟩ = some (.int .i64 x.gg) ∧ W.cell? ⟨b, 7, none⟩ = some (.int .i64 x.pr) ∧ W.cell? ⟨b, 8, none⟩ = some (.bool x.fl) ∧ W.cell? ⟨b, 9, none⟩ = some (.bool x.fo) ∧ W.cell? ⟨b, 10, none⟩ = some x.sv ∧ W.cell? ⟨b, 11, none⟩ = some x.pv
theorem celK (x : Kv) (w W : World) (hW : Below (w.alloc (.cells (cellsK x) 27)).heap.size (w.alloc (.cells (cellsK x) 27)) W) : CelK x w.heap.size W := by
  have k := fun i v h => (hW.cell (World.block_lt_of_cell? _ _ (boxK w (cellsK x) 27 i v h))).trans (boxK w (cellsK x) 27 i v h)
  exact ⟨k 0 _ rfl, k 1 _ rfl, k 2 _ rfl, k 3 _ rfl, k 4 _ rfl, k 5 _ rfl, k 6 _ rfl, k 7 _ rfl, k 8 _ rfl, k 9 _ rfl, k 10 _ rfl, k 11 _ rfl⟩
set_option maxHeartbeats 400000 in
theorem inRangeO_any (n k : Int) (w : World) :
    Calls Tryz.prog 37 #[.int .i64 n, .int .i64 k] w fun e w' => e = .returned (.bool (decide (0 ≤ n) && decide (n ≤ k))) ∧ w = w' := by
  by_cases h0 : 0 ≤ n <;> by_cases h1 : n ≤ k
  all_goals
    go_enter Tryz.func37, Tryz.ntmps37
    go_wp2
    go_ret
    exact ⟨retb (by simp [*]), rfl⟩
set_option maxHeartbeats 1000000 in
theorem rightM_any (m u g : Int) (w : World) :
    Calls Tryz.prog 14 #[.agg #[.int .i64 m, .int .i64 u, .int .i64 g]] w fun e w' => e = .returned (.bool (rightM m u g)) ∧ Below w.heap.size w w' := by
  have R1 : ∀ w, Calls Tryz.prog 37 #[.int .i64 m, .int .i64 4095] w fun e w' => e = .returned (.bool (decide (0 ≤ m) && decide (m ≤ 4095))) ∧ w = w' := inRangeO_any m 4095
  have R2 : ∀ w, Calls Tryz.prog 37 #[.int .i64 u, .int .i64 67108863] w fun e w' => e = .returned (.bool (decide (0 ≤ u) && decide (u ≤ 67108863))) ∧ w = w' := inRangeO_any u 67108863
  have R3 : ∀ w, Calls Tryz.prog 37 #[.int .i64 g, .int .i64 67108863] w fun e w' => e = .returned (.bool (decide (0 ≤ g) && decide (g ≤ 67108863))) ∧ w = w' := inRangeO_any g 67108863
  unfold rightM
  generalize (decide (0 ≤ m) && decide (m ≤ 4095)) = b1 at *
  generalize (decide (0 ≤ u) && decide (u ≤ 67108863)) = b2 at *
  generalize (decide (0 ≤ g) && decide (g ≤ 67108863)) = b3 at *
  cases b1 <;> cases b2
  all_goals
    go_enter Tryz.func14, Tryz.ntmps14
    go_wp2_with (go_at_call 37; first | ((with_reducible refine (R1 _).mono ?_); rintro e w1 ⟨rfl, rfl⟩) | ((with_reducible refine (R2 _).mono ?_); rintro e w1 ⟨rfl, rfl⟩) | ((with_reducible refine (R3 _).mono ?_); rintro e w1 ⟨rfl, rfl⟩))
    go_ret
    exact ⟨by simp, (Below.refl _ _).alloc (Nat.le_refl _) _⟩
set_option maxRecDepth 100000 in
set_option maxHeartbeats 8000000 in
theorem slvK_any (x : Kv) (hs : SmK x) (w : World) (h : LaidA w) (hh : InK w x) : Calls Tryz.prog 17 #[aggK x] w fun e w' => e = .returned (.bool (slvK x.sl x.ps)) ∧ Below w.heap.size w w' := by
  have B0 := (Below.refl w.heap.size w).alloc (Nat.le_refl _) (.cells (cellsK x) 27)
  have ES := fun W (hb : Below (w.alloc (.cells (cellsK x) 27)).heap.size (w.alloc (.cells (cellsK x) 27)) W) => everyS_any x.sv x.sl (by have := hs.sl; omega) hs.ss W (h.on (B0.trans (hb.mono B0.size))) (HoldV.on hh.1 (B0.trans (hb.mono B0.size)))
  have ET := fun W (hb : Below (w.alloc (.cells (cellsK x) 27)).heap.size (w.alloc (.cells (cellsK x) 27)) W) => everyT_any x.pv x.ps (by have := hs.ps; omega) hs.qs W (h.on (B0.trans (hb.mono B0.size))) (hh.2.on (B0.trans (hb.mono B0.size)))
  have HX := Lib.hid (fun W hW => celK x w W hW)
  have HB0 := Lib.hid B0
  have HQ := Lib.hid (Below.refl (w.alloc (.cells (cellsK x) 27)).heap.size (w.alloc (.cells (cellsK x) 27)))
  obtain ⟨kd, nm, pt, ds, mm, uu, gg, pr, fl, fo, sl, ps, sv, pv⟩ := x
  obtain ⟨sa, sc, -, -, hsv, -⟩ := HoldS.parts hh.1
  obtain ⟨pa, pc, -, -, hpv, -⟩ := hh.2
  have b1 := hs.sl
  have b2 := hs.ps
  dsimp only at hsv hpv b1 b2
  subst hsv
  subst hpv
  unfold slvK aggK cellsK CelK at *
  dsimp only at *
  have q1 := HX.out _ (Below.refl _ _)
  obtain ⟨a0, a1, a2, a3, a4, a5, a6, a7, a8, a9, a10, a11⟩ := q1
  clear hs h hh B0
  generalize sl.all slK = c1 at *
  generalize ps.all (orK plK) = c2 at *
  generalize sl.length = n at *
  generalize ps.length = m at *
  generalize (⟨nm.toArray⟩ : ByteArray) = N at *
  generalize (⟨pt.toArray⟩ : ByteArray) = P at *
  generalize (⟨ds.toArray⟩ : ByteArray) = T at *
  by_cases h8 : n ≤ 8
  case neg =>
    go_enter Tryz.func17, Tryz.ntmps17
    go_wp2
    go_ret
    exact ⟨retb (by first | rfl | (rw [decide_eq_false h8]; rfl)), HB0.out⟩
  by_cases hmn : m = n
  case neg =>
    have e1 : ((m : Int) == (n : Int)) = false := by rw [beq_eq_false_iff_ne]; omega
    go_enter Tryz.func17, Tryz.ntmps17
    go_wp2
    go_ret
    exact ⟨retb (by first | rfl | (rw [decide_eq_false hmn]; simp) | simp [hmn]), HB0.out⟩
  have e1 : ((m : Int) == (n : Int)) = true := by rw [beq_iff_eq]; omega
  rw [decide_eq_true h8, decide_eq_true hmn]
  clear hmn
  cases c1
  all_goals
    go_enter Tryz.func17, Tryz.ntmps17
    go_wp2_with (first
      | (go_at_call 38; (with_reducible refine (ES _ HQ.out).mono ?_); rintro e w1 ⟨rfl, hb⟩; have HQ1 := Lib.hid (HQ.out.trans (hb.mono HQ.out.size)); obtain ⟨d0, d1, d2, d3, d4, d5, d6, d7, d8, d9, d10, d11⟩ := HX.out _ HQ1.out; clear hb)
      | (go_at_call 40; (with_reducible refine (ET _ HQ1.out).mono ?_); rintro e w2 ⟨rfl, hb⟩; have HQ2 := Lib.hid (HQ1.out.trans (hb.mono HQ1.out.size)); clear hb))
    go_ret
    first | exact ⟨by simp, HB0.out.trans (HQ2.out.mono HB0.out.size)⟩ | exact ⟨by simp, HB0.out.trans (HQ1.out.mono HB0.out.size)⟩
theorem trgK_any (s : ByteArray) (hs : s.size ≤ 4000) (w : World) (h : LaidA w) : Calls Tryz.prog 19 #[.string s] w fun e w' => e = .returned (.bool (trgK s.data.toList)) ∧ Below w.heap.size w w' := by
  have N := name_any s hs w
  have R := right_any s hs w h.p
  have HR := Lib.hid (Below.refl w.heap.size w)
  unfold trgK
  generalize nameB s.data.toList = a at *
  generalize right s.data.toList = b at *
  clear h
  cases a
  all_goals
    go_enter Tryz.func19, Tryz.ntmps19
    go_wp2_with (first
      | (go_at_call 13; (with_reducible refine N.mono ?_); rintro e w1 ⟨rfl, rfl⟩)
      | (go_at_call 34; (with_reducible refine R.mono ?_); rintro e w1 ⟨rfl, hb⟩; have HB := Lib.hid hb; clear hb))
    go_ret
    first | exact ⟨by simp, HB.out⟩ | exact ⟨by simp, HR.out⟩
set_option maxRecDepth 100000 in
set_option maxHeartbeats 16000000 in
theorem actK_any (x : Kv) (hs : SmK x) (w : World) (h : LaidA w) (hh : InK w x) : Calls Tryz.prog 6 #[aggK x] w fun e w' => e = .returned (.bool (actB x)) ∧ Below w.heap.size w w' := by
  have B0 := (Below.refl w.heap.size w).alloc (Nat.le_refl _) (.cells (cellsK x) 27)
  have hW : ∀ W, Below (w.alloc (.cells (cellsK x) 27)).heap.size (w.alloc (.cells (cellsK x) 27)) W → LaidA W := fun W hb => h.on (B0.trans (hb.mono B0.size))
  have OP : ∀ W, Below (w.alloc (.cells (cellsK x) 27)).heap.size (w.alloc (.cells (cellsK x) 27)) W → Calls Tryz.prog 11 #[.string (⟨x.ds.toArray⟩ : ByteArray), .func (.func 12) #[] #[]] W fun e w' => e = .returned (.bool (orK plK x.ds)) ∧ Below W.heap.size W w' := fun W hb => by
    have := orPlace_any ⟨x.ds.toArray⟩ (by rw [sizeOf, bytesOf]; exact hs.ds) W (hW W hb)
    rwa [bytesOf] at this
  have ON : ∀ W, Calls Tryz.prog 11 #[.string (⟨x.nm.toArray⟩ : ByteArray), .func (.func 13) #[] #[]] W fun e w' => e = .returned (.bool (orK nameB x.nm)) ∧ W = w' := fun W => by
    have := orName_any ⟨x.nm.toArray⟩ (by rw [sizeOf, bytesOf]; exact hs.nm) W
    rwa [bytesOf] at this
  have PL : ∀ W, Below (w.alloc (.cells (cellsK x) 27)).heap.size (w.alloc (.cells (cellsK x) 27)) W → Calls Tryz.prog 12 #[.string (⟨x.pt.toArray⟩ : ByteArray)] W fun e w' => e = .returned (.bool (plK x.pt)) ∧ Below W.heap.size W w' := fun W hb => by
    have := placeK_any ⟨x.pt.toArray⟩ (by rw [sizeOf, bytesOf]; exact hs.pt) W (hW W hb)
    rwa [bytesOf] at this
  have LK : ∀ W, Below (w.alloc (.cells (cellsK x) 27)).heap.size (w.alloc (.cells (cellsK x) 27)) W → Calls Tryz.prog 15 #[.string (⟨x.ds.toArray⟩ : ByteArray)] W fun e w' => e = .returned (.bool (lkK x.ds)) ∧ Below W.heap.size W w' := fun W hb => by
    have := linkK_any ⟨x.ds.toArray⟩ (by rw [sizeOf, bytesOf]; exact hs.ds) W (hW W hb)
    rwa [bytesOf] at this
  have NM : ∀ W, Below (w.alloc (.cells (cellsK x) 27)).heap.size (w.alloc (.cells (cellsK x) 27)) W → Calls Tryz.prog 18 #[.string (⟨x.nm.toArray⟩ : ByteArray)] W fun e w' => e = .returned (.bool (nmK x.nm)) ∧ W = w' := fun W hb => by
    have := nameK_any ⟨x.nm.toArray⟩ (by rw [sizeOf, bytesOf]; exact hs.nm) W (hW W hb)
    rwa [bytesOf] at this
  have TG : ∀ W, Below (w.alloc (.cells (cellsK x) 27)).heap.size (w.alloc (.cells (cellsK x) 27)) W → Calls Tryz.prog 19 #[.string (⟨x.nm.toArray⟩ : ByteArray)] W fun e w' => e = .returned (.bool (trgK x.nm)) ∧ Below W.heap.size W w' := fun W hb => by
    have := trgK_any ⟨x.nm.toArray⟩ (by rw [sizeOf, bytesOf]; exact hs.nm) W (hW W hb)
    rwa [bytesOf] at this
  have SL := fun W (hb : Below (w.alloc (.cells (cellsK x) 27)).heap.size (w.alloc (.cells (cellsK x) 27)) W) => slvK_any x hs W (hW W hb) (hh.on (B0.trans (hb.mono B0.size)))
  have PR := fun W => prioK_any x.pr W
  have RM := fun W => rightM_any x.mm x.uu x.gg W
  have HX := Lib.hid (fun W hW => celK x w W hW)
  have HB0 := Lib.hid B0
  have HQ := Lib.hid (Below.refl (w.alloc (.cells (cellsK x) 27)).heap.size (w.alloc (.cells (cellsK x) 27)))
  obtain ⟨kd, nm, pt, ds, mm, uu, gg, pr, fl, fo, sl, ps, sv, pv⟩ := x
  obtain ⟨sa, sc, -, -, hsv, -⟩ := HoldS.parts hh.1
  obtain ⟨pa, pc, -, -, hpv, -⟩ := hh.2
  dsimp only at hsv hpv
  subst hsv
  subst hpv
  obtain ⟨AB, hAB⟩ : ∃ AB, actB ⟨kd, nm, pt, ds, mm, uu, gg, pr, fl, fo, sl, ps, .slice sa sl.length sc, .slice pa ps.length pc⟩ = AB := ⟨_, rfl⟩
  rw [hAB]
  unfold actB at hAB
  have HAB := Lib.hid hAB
  clear hAB hs h hh B0 hW
  unfold aggK cellsK CelK at *
  dsimp only at *
  obtain ⟨a0, a1, a2, a3, a4, a5, a6, a7, a8, a9, a10, a11⟩ := HX.out _ (Below.refl _ _)
  generalize orK plK ds = oD at *
  generalize orK nameB nm = oN at *
  generalize plK pt = pP at *
  generalize lkK ds = lD at *
  generalize nmK nm = nN at *
  generalize trgK nm = tN at *
  generalize slvK sl ps = sS at *
  generalize prK pr = pR at *
  generalize rightM mm uu gg = rM at *
  generalize sl.length = n at *
  generalize ps.length = m at *
  generalize (⟨nm.toArray⟩ : ByteArray) = N at *
  generalize (⟨pt.toArray⟩ : ByteArray) = P at *
  generalize (⟨ds.toArray⟩ : ByteArray) = T at *
  by_cases h1 : kd = 1
  · subst h1
    cases oD <;> cases oN
    all_goals
      go_enter Tryz.func6, Tryz.ntmps6
      go_wp2_with (first
        | (go_at_call 11; first | ((with_reducible refine (OP _ HQ.out).mono ?_); rintro e w1 ⟨rfl, hb⟩; have HQ := Lib.hid (HQ.out.trans (hb.mono HQ.out.size)); obtain ⟨a0, a1, a2, a3, a4, a5, a6, a7, a8, a9, a10, a11⟩ := HX.out _ HQ.out; clear hb) | ((with_reducible refine (ON _).mono ?_); rintro e w1 ⟨rfl, rfl⟩))
        | (go_at_call 12; (with_reducible refine (PL _ HQ.out).mono ?_); rintro e w1 ⟨rfl, hb⟩; have HQ := Lib.hid (HQ.out.trans (hb.mono HQ.out.size)); obtain ⟨a0, a1, a2, a3, a4, a5, a6, a7, a8, a9, a10, a11⟩ := HX.out _ HQ.out; clear hb)
        | (go_at_call 14; (with_reducible refine (RM _).mono ?_); rintro e w1 ⟨rfl, hb⟩; have HQ := Lib.hid (HQ.out.trans (hb.mono HQ.out.size)); clear hb)
        | (go_at_call 15; (with_reducible refine (LK _ HQ.out).mono ?_); rintro e w1 ⟨rfl, hb⟩; have HQ := Lib.hid (HQ.out.trans (hb.mono HQ.out.size)); obtain ⟨a0, a1, a2, a3, a4, a5, a6, a7, a8, a9, a10, a11⟩ := HX.out _ HQ.out; clear hb)
        | (go_at_call 16; (with_reducible refine (PR _).mono ?_); rintro e w1 ⟨rfl, rfl⟩)
        | (go_at_call 17; (with_reducible refine (SL _ HQ.out).mono ?_); rintro e w1 ⟨rfl, hb⟩; have HQ := Lib.hid (HQ.out.trans (hb.mono HQ.out.size)); obtain ⟨a0, a1, a2, a3, a4, a5, a6, a7, a8, a9, a10, a11⟩ := HX.out _ HQ.out; clear hb)
        | (go_at_call 18; (with_reducible refine (NM _ HQ.out).mono ?_); rintro e w1 ⟨rfl, rfl⟩)
        | (go_at_call 19; (with_reducible refine (TG _ HQ.out).mono ?_); rintro e w1 ⟨rfl, hb⟩; have HQ := Lib.hid (HQ.out.trans (hb.mono HQ.out.size)); clear hb))
      go_ret
      exact ⟨retb (by rw [← HAB.out]; simp), HB0.out.trans (HQ.out.mono HB0.out.size)⟩
  by_cases h2 : kd = 2
  · subst h2
    cases oN
    all_goals
      go_enter Tryz.func6, Tryz.ntmps6
      go_wp2_with (first
        | (go_at_call 11; first | ((with_reducible refine (OP _ HQ.out).mono ?_); rintro e w1 ⟨rfl, hb⟩; have HQ := Lib.hid (HQ.out.trans (hb.mono HQ.out.size)); obtain ⟨a0, a1, a2, a3, a4, a5, a6, a7, a8, a9, a10, a11⟩ := HX.out _ HQ.out; clear hb) | ((with_reducible refine (ON _).mono ?_); rintro e w1 ⟨rfl, rfl⟩))
        | (go_at_call 12; (with_reducible refine (PL _ HQ.out).mono ?_); rintro e w1 ⟨rfl, hb⟩; have HQ := Lib.hid (HQ.out.trans (hb.mono HQ.out.size)); obtain ⟨a0, a1, a2, a3, a4, a5, a6, a7, a8, a9, a10, a11⟩ := HX.out _ HQ.out; clear hb)
        | (go_at_call 14; (with_reducible refine (RM _).mono ?_); rintro e w1 ⟨rfl, hb⟩; have HQ := Lib.hid (HQ.out.trans (hb.mono HQ.out.size)); clear hb)
        | (go_at_call 15; (with_reducible refine (LK _ HQ.out).mono ?_); rintro e w1 ⟨rfl, hb⟩; have HQ := Lib.hid (HQ.out.trans (hb.mono HQ.out.size)); obtain ⟨a0, a1, a2, a3, a4, a5, a6, a7, a8, a9, a10, a11⟩ := HX.out _ HQ.out; clear hb)
        | (go_at_call 16; (with_reducible refine (PR _).mono ?_); rintro e w1 ⟨rfl, rfl⟩)
        | (go_at_call 17; (with_reducible refine (SL _ HQ.out).mono ?_); rintro e w1 ⟨rfl, hb⟩; have HQ := Lib.hid (HQ.out.trans (hb.mono HQ.out.size)); obtain ⟨a0, a1, a2, a3, a4, a5, a6, a7, a8, a9, a10, a11⟩ := HX.out _ HQ.out; clear hb)
        | (go_at_call 18; (with_reducible refine (NM _ HQ.out).mono ?_); rintro e w1 ⟨rfl, rfl⟩)
        | (go_at_call 19; (with_reducible refine (TG _ HQ.out).mono ?_); rintro e w1 ⟨rfl, hb⟩; have HQ := Lib.hid (HQ.out.trans (hb.mono HQ.out.size)); clear hb))
      go_ret
      exact ⟨retb (by rw [← HAB.out]; simp), HB0.out.trans (HQ.out.mono HB0.out.size)⟩
  by_cases h3 : kd = 3
  · subst h3
    cases pP
    all_goals
      go_enter Tryz.func6, Tryz.ntmps6
      go_wp2_with (first
        | (go_at_call 11; first | ((with_reducible refine (OP _ HQ.out).mono ?_); rintro e w1 ⟨rfl, hb⟩; have HQ := Lib.hid (HQ.out.trans (hb.mono HQ.out.size)); obtain ⟨a0, a1, a2, a3, a4, a5, a6, a7, a8, a9, a10, a11⟩ := HX.out _ HQ.out; clear hb) | ((with_reducible refine (ON _).mono ?_); rintro e w1 ⟨rfl, rfl⟩))
        | (go_at_call 12; (with_reducible refine (PL _ HQ.out).mono ?_); rintro e w1 ⟨rfl, hb⟩; have HQ := Lib.hid (HQ.out.trans (hb.mono HQ.out.size)); obtain ⟨a0, a1, a2, a3, a4, a5, a6, a7, a8, a9, a10, a11⟩ := HX.out _ HQ.out; clear hb)
        | (go_at_call 14; (with_reducible refine (RM _).mono ?_); rintro e w1 ⟨rfl, hb⟩; have HQ := Lib.hid (HQ.out.trans (hb.mono HQ.out.size)); clear hb)
        | (go_at_call 15; (with_reducible refine (LK _ HQ.out).mono ?_); rintro e w1 ⟨rfl, hb⟩; have HQ := Lib.hid (HQ.out.trans (hb.mono HQ.out.size)); obtain ⟨a0, a1, a2, a3, a4, a5, a6, a7, a8, a9, a10, a11⟩ := HX.out _ HQ.out; clear hb)
        | (go_at_call 16; (with_reducible refine (PR _).mono ?_); rintro e w1 ⟨rfl, rfl⟩)
        | (go_at_call 17; (with_reducible refine (SL _ HQ.out).mono ?_); rintro e w1 ⟨rfl, hb⟩; have HQ := Lib.hid (HQ.out.trans (hb.mono HQ.out.size)); obtain ⟨a0, a1, a2, a3, a4, a5, a6, a7, a8, a9, a10, a11⟩ := HX.out _ HQ.out; clear hb)
        | (go_at_call 18; (with_reducible refine (NM _ HQ.out).mono ?_); rintro e w1 ⟨rfl, rfl⟩)
        | (go_at_call 19; (with_reducible refine (TG _ HQ.out).mono ?_); rintro e w1 ⟨rfl, hb⟩; have HQ := Lib.hid (HQ.out.trans (hb.mono HQ.out.size)); clear hb))
      go_ret
      exact ⟨retb (by rw [← HAB.out]; simp), HB0.out.trans (HQ.out.mono HB0.out.size)⟩
  by_cases h4 : kd = 4
  · subst h4
    all_goals
      go_enter Tryz.func6, Tryz.ntmps6
      go_wp2_with (first
        | (go_at_call 11; first | ((with_reducible refine (OP _ HQ.out).mono ?_); rintro e w1 ⟨rfl, hb⟩; have HQ := Lib.hid (HQ.out.trans (hb.mono HQ.out.size)); obtain ⟨a0, a1, a2, a3, a4, a5, a6, a7, a8, a9, a10, a11⟩ := HX.out _ HQ.out; clear hb) | ((with_reducible refine (ON _).mono ?_); rintro e w1 ⟨rfl, rfl⟩))
        | (go_at_call 12; (with_reducible refine (PL _ HQ.out).mono ?_); rintro e w1 ⟨rfl, hb⟩; have HQ := Lib.hid (HQ.out.trans (hb.mono HQ.out.size)); obtain ⟨a0, a1, a2, a3, a4, a5, a6, a7, a8, a9, a10, a11⟩ := HX.out _ HQ.out; clear hb)
        | (go_at_call 14; (with_reducible refine (RM _).mono ?_); rintro e w1 ⟨rfl, hb⟩; have HQ := Lib.hid (HQ.out.trans (hb.mono HQ.out.size)); clear hb)
        | (go_at_call 15; (with_reducible refine (LK _ HQ.out).mono ?_); rintro e w1 ⟨rfl, hb⟩; have HQ := Lib.hid (HQ.out.trans (hb.mono HQ.out.size)); obtain ⟨a0, a1, a2, a3, a4, a5, a6, a7, a8, a9, a10, a11⟩ := HX.out _ HQ.out; clear hb)
        | (go_at_call 16; (with_reducible refine (PR _).mono ?_); rintro e w1 ⟨rfl, rfl⟩)
        | (go_at_call 17; (with_reducible refine (SL _ HQ.out).mono ?_); rintro e w1 ⟨rfl, hb⟩; have HQ := Lib.hid (HQ.out.trans (hb.mono HQ.out.size)); obtain ⟨a0, a1, a2, a3, a4, a5, a6, a7, a8, a9, a10, a11⟩ := HX.out _ HQ.out; clear hb)
        | (go_at_call 18; (with_reducible refine (NM _ HQ.out).mono ?_); rintro e w1 ⟨rfl, rfl⟩)
        | (go_at_call 19; (with_reducible refine (TG _ HQ.out).mono ?_); rintro e w1 ⟨rfl, hb⟩; have HQ := Lib.hid (HQ.out.trans (hb.mono HQ.out.size)); clear hb))
      go_ret
      exact ⟨retb (by rw [← HAB.out]; simp), HB0.out.trans (HQ.out.mono HB0.out.size)⟩
  by_cases h5 : kd = 5
  · subst h5
    cases lD <;> cases pR <;> cases sS <;> cases pP
    all_goals
      go_enter Tryz.func6, Tryz.ntmps6
      go_wp2_with (first
        | (go_at_call 11; first | ((with_reducible refine (OP _ HQ.out).mono ?_); rintro e w1 ⟨rfl, hb⟩; have HQ := Lib.hid (HQ.out.trans (hb.mono HQ.out.size)); obtain ⟨a0, a1, a2, a3, a4, a5, a6, a7, a8, a9, a10, a11⟩ := HX.out _ HQ.out; clear hb) | ((with_reducible refine (ON _).mono ?_); rintro e w1 ⟨rfl, rfl⟩))
        | (go_at_call 12; (with_reducible refine (PL _ HQ.out).mono ?_); rintro e w1 ⟨rfl, hb⟩; have HQ := Lib.hid (HQ.out.trans (hb.mono HQ.out.size)); obtain ⟨a0, a1, a2, a3, a4, a5, a6, a7, a8, a9, a10, a11⟩ := HX.out _ HQ.out; clear hb)
        | (go_at_call 14; (with_reducible refine (RM _).mono ?_); rintro e w1 ⟨rfl, hb⟩; have HQ := Lib.hid (HQ.out.trans (hb.mono HQ.out.size)); clear hb)
        | (go_at_call 15; (with_reducible refine (LK _ HQ.out).mono ?_); rintro e w1 ⟨rfl, hb⟩; have HQ := Lib.hid (HQ.out.trans (hb.mono HQ.out.size)); obtain ⟨a0, a1, a2, a3, a4, a5, a6, a7, a8, a9, a10, a11⟩ := HX.out _ HQ.out; clear hb)
        | (go_at_call 16; (with_reducible refine (PR _).mono ?_); rintro e w1 ⟨rfl, rfl⟩)
        | (go_at_call 17; (with_reducible refine (SL _ HQ.out).mono ?_); rintro e w1 ⟨rfl, hb⟩; have HQ := Lib.hid (HQ.out.trans (hb.mono HQ.out.size)); obtain ⟨a0, a1, a2, a3, a4, a5, a6, a7, a8, a9, a10, a11⟩ := HX.out _ HQ.out; clear hb)
        | (go_at_call 18; (with_reducible refine (NM _ HQ.out).mono ?_); rintro e w1 ⟨rfl, rfl⟩)
        | (go_at_call 19; (with_reducible refine (TG _ HQ.out).mono ?_); rintro e w1 ⟨rfl, hb⟩; have HQ := Lib.hid (HQ.out.trans (hb.mono HQ.out.size)); clear hb))
      go_ret
      exact ⟨retb (by rw [← HAB.out]; simp), HB0.out.trans (HQ.out.mono HB0.out.size)⟩
  by_cases h6 : kd = 6
  · subst h6
    cases pP
    all_goals
      go_enter Tryz.func6, Tryz.ntmps6
      go_wp2_with (first
        | (go_at_call 11; first | ((with_reducible refine (OP _ HQ.out).mono ?_); rintro e w1 ⟨rfl, hb⟩; have HQ := Lib.hid (HQ.out.trans (hb.mono HQ.out.size)); obtain ⟨a0, a1, a2, a3, a4, a5, a6, a7, a8, a9, a10, a11⟩ := HX.out _ HQ.out; clear hb) | ((with_reducible refine (ON _).mono ?_); rintro e w1 ⟨rfl, rfl⟩))
        | (go_at_call 12; (with_reducible refine (PL _ HQ.out).mono ?_); rintro e w1 ⟨rfl, hb⟩; have HQ := Lib.hid (HQ.out.trans (hb.mono HQ.out.size)); obtain ⟨a0, a1, a2, a3, a4, a5, a6, a7, a8, a9, a10, a11⟩ := HX.out _ HQ.out; clear hb)
        | (go_at_call 14; (with_reducible refine (RM _).mono ?_); rintro e w1 ⟨rfl, hb⟩; have HQ := Lib.hid (HQ.out.trans (hb.mono HQ.out.size)); clear hb)
        | (go_at_call 15; (with_reducible refine (LK _ HQ.out).mono ?_); rintro e w1 ⟨rfl, hb⟩; have HQ := Lib.hid (HQ.out.trans (hb.mono HQ.out.size)); obtain ⟨a0, a1, a2, a3, a4, a5, a6, a7, a8, a9, a10, a11⟩ := HX.out _ HQ.out; clear hb)
        | (go_at_call 16; (with_reducible refine (PR _).mono ?_); rintro e w1 ⟨rfl, rfl⟩)
        | (go_at_call 17; (with_reducible refine (SL _ HQ.out).mono ?_); rintro e w1 ⟨rfl, hb⟩; have HQ := Lib.hid (HQ.out.trans (hb.mono HQ.out.size)); obtain ⟨a0, a1, a2, a3, a4, a5, a6, a7, a8, a9, a10, a11⟩ := HX.out _ HQ.out; clear hb)
        | (go_at_call 18; (with_reducible refine (NM _ HQ.out).mono ?_); rintro e w1 ⟨rfl, rfl⟩)
        | (go_at_call 19; (with_reducible refine (TG _ HQ.out).mono ?_); rintro e w1 ⟨rfl, hb⟩; have HQ := Lib.hid (HQ.out.trans (hb.mono HQ.out.size)); clear hb))
      go_ret
      exact ⟨retb (by rw [← HAB.out]; simp), HB0.out.trans (HQ.out.mono HB0.out.size)⟩
  by_cases h8 : kd = 8
  · subst h8
    cases pP
    all_goals
      go_enter Tryz.func6, Tryz.ntmps6
      go_wp2_with (first
        | (go_at_call 11; first | ((with_reducible refine (OP _ HQ.out).mono ?_); rintro e w1 ⟨rfl, hb⟩; have HQ := Lib.hid (HQ.out.trans (hb.mono HQ.out.size)); obtain ⟨a0, a1, a2, a3, a4, a5, a6, a7, a8, a9, a10, a11⟩ := HX.out _ HQ.out; clear hb) | ((with_reducible refine (ON _).mono ?_); rintro e w1 ⟨rfl, rfl⟩))
        | (go_at_call 12; (with_reducible refine (PL _ HQ.out).mono ?_); rintro e w1 ⟨rfl, hb⟩; have HQ := Lib.hid (HQ.out.trans (hb.mono HQ.out.size)); obtain ⟨a0, a1, a2, a3, a4, a5, a6, a7, a8, a9, a10, a11⟩ := HX.out _ HQ.out; clear hb)
        | (go_at_call 14; (with_reducible refine (RM _).mono ?_); rintro e w1 ⟨rfl, hb⟩; have HQ := Lib.hid (HQ.out.trans (hb.mono HQ.out.size)); clear hb)
        | (go_at_call 15; (with_reducible refine (LK _ HQ.out).mono ?_); rintro e w1 ⟨rfl, hb⟩; have HQ := Lib.hid (HQ.out.trans (hb.mono HQ.out.size)); obtain ⟨a0, a1, a2, a3, a4, a5, a6, a7, a8, a9, a10, a11⟩ := HX.out _ HQ.out; clear hb)
        | (go_at_call 16; (with_reducible refine (PR _).mono ?_); rintro e w1 ⟨rfl, rfl⟩)
        | (go_at_call 17; (with_reducible refine (SL _ HQ.out).mono ?_); rintro e w1 ⟨rfl, hb⟩; have HQ := Lib.hid (HQ.out.trans (hb.mono HQ.out.size)); obtain ⟨a0, a1, a2, a3, a4, a5, a6, a7, a8, a9, a10, a11⟩ := HX.out _ HQ.out; clear hb)
        | (go_at_call 18; (with_reducible refine (NM _ HQ.out).mono ?_); rintro e w1 ⟨rfl, rfl⟩)
        | (go_at_call 19; (with_reducible refine (TG _ HQ.out).mono ?_); rintro e w1 ⟨rfl, hb⟩; have HQ := Lib.hid (HQ.out.trans (hb.mono HQ.out.size)); clear hb))
      go_ret
      exact ⟨retb (by rw [← HAB.out]; simp), HB0.out.trans (HQ.out.mono HB0.out.size)⟩
  by_cases h7 : kd = 7
  · subst h7
    all_goals
      go_enter Tryz.func6, Tryz.ntmps6
      go_wp2_with (first
        | (go_at_call 11; first | ((with_reducible refine (OP _ HQ.out).mono ?_); rintro e w1 ⟨rfl, hb⟩; have HQ := Lib.hid (HQ.out.trans (hb.mono HQ.out.size)); obtain ⟨a0, a1, a2, a3, a4, a5, a6, a7, a8, a9, a10, a11⟩ := HX.out _ HQ.out; clear hb) | ((with_reducible refine (ON _).mono ?_); rintro e w1 ⟨rfl, rfl⟩))
        | (go_at_call 12; (with_reducible refine (PL _ HQ.out).mono ?_); rintro e w1 ⟨rfl, hb⟩; have HQ := Lib.hid (HQ.out.trans (hb.mono HQ.out.size)); obtain ⟨a0, a1, a2, a3, a4, a5, a6, a7, a8, a9, a10, a11⟩ := HX.out _ HQ.out; clear hb)
        | (go_at_call 14; (with_reducible refine (RM _).mono ?_); rintro e w1 ⟨rfl, hb⟩; have HQ := Lib.hid (HQ.out.trans (hb.mono HQ.out.size)); clear hb)
        | (go_at_call 15; (with_reducible refine (LK _ HQ.out).mono ?_); rintro e w1 ⟨rfl, hb⟩; have HQ := Lib.hid (HQ.out.trans (hb.mono HQ.out.size)); obtain ⟨a0, a1, a2, a3, a4, a5, a6, a7, a8, a9, a10, a11⟩ := HX.out _ HQ.out; clear hb)
        | (go_at_call 16; (with_reducible refine (PR _).mono ?_); rintro e w1 ⟨rfl, rfl⟩)
        | (go_at_call 17; (with_reducible refine (SL _ HQ.out).mono ?_); rintro e w1 ⟨rfl, hb⟩; have HQ := Lib.hid (HQ.out.trans (hb.mono HQ.out.size)); obtain ⟨a0, a1, a2, a3, a4, a5, a6, a7, a8, a9, a10, a11⟩ := HX.out _ HQ.out; clear hb)
        | (go_at_call 18; (with_reducible refine (NM _ HQ.out).mono ?_); rintro e w1 ⟨rfl, rfl⟩)
        | (go_at_call 19; (with_reducible refine (TG _ HQ.out).mono ?_); rintro e w1 ⟨rfl, hb⟩; have HQ := Lib.hid (HQ.out.trans (hb.mono HQ.out.size)); clear hb))
      go_ret
      exact ⟨retb (by rw [← HAB.out]; simp), HB0.out.trans (HQ.out.mono HB0.out.size)⟩
  by_cases h9 : kd = 9
  · subst h9
    all_goals
      go_enter Tryz.func6, Tryz.ntmps6
      go_wp2_with (first
        | (go_at_call 11; first | ((with_reducible refine (OP _ HQ.out).mono ?_); rintro e w1 ⟨rfl, hb⟩; have HQ := Lib.hid (HQ.out.trans (hb.mono HQ.out.size)); obtain ⟨a0, a1, a2, a3, a4, a5, a6, a7, a8, a9, a10, a11⟩ := HX.out _ HQ.out; clear hb) | ((with_reducible refine (ON _).mono ?_); rintro e w1 ⟨rfl, rfl⟩))
        | (go_at_call 12; (with_reducible refine (PL _ HQ.out).mono ?_); rintro e w1 ⟨rfl, hb⟩; have HQ := Lib.hid (HQ.out.trans (hb.mono HQ.out.size)); obtain ⟨a0, a1, a2, a3, a4, a5, a6, a7, a8, a9, a10, a11⟩ := HX.out _ HQ.out; clear hb)
        | (go_at_call 14; (with_reducible refine (RM _).mono ?_); rintro e w1 ⟨rfl, hb⟩; have HQ := Lib.hid (HQ.out.trans (hb.mono HQ.out.size)); clear hb)
        | (go_at_call 15; (with_reducible refine (LK _ HQ.out).mono ?_); rintro e w1 ⟨rfl, hb⟩; have HQ := Lib.hid (HQ.out.trans (hb.mono HQ.out.size)); obtain ⟨a0, a1, a2, a3, a4, a5, a6, a7, a8, a9, a10, a11⟩ := HX.out _ HQ.out; clear hb)
        | (go_at_call 16; (with_reducible refine (PR _).mono ?_); rintro e w1 ⟨rfl, rfl⟩)
        | (go_at_call 17; (with_reducible refine (SL _ HQ.out).mono ?_); rintro e w1 ⟨rfl, hb⟩; have HQ := Lib.hid (HQ.out.trans (hb.mono HQ.out.size)); obtain ⟨a0, a1, a2, a3, a4, a5, a6, a7, a8, a9, a10, a11⟩ := HX.out _ HQ.out; clear hb)
        | (go_at_call 18; (with_reducible refine (NM _ HQ.out).mono ?_); rintro e w1 ⟨rfl, rfl⟩)
        | (go_at_call 19; (with_reducible refine (TG _ HQ.out).mono ?_); rintro e w1 ⟨rfl, hb⟩; have HQ := Lib.hid (HQ.out.trans (hb.mono HQ.out.size)); clear hb))
      go_ret
      exact ⟨retb (by rw [← HAB.out]; simp), HB0.out.trans (HQ.out.mono HB0.out.size)⟩
  by_cases h10 : kd = 10
  · subst h10
    all_goals
      go_enter Tryz.func6, Tryz.ntmps6
      go_wp2_with (first
        | (go_at_call 11; first | ((with_reducible refine (OP _ HQ.out).mono ?_); rintro e w1 ⟨rfl, hb⟩; have HQ := Lib.hid (HQ.out.trans (hb.mono HQ.out.size)); obtain ⟨a0, a1, a2, a3, a4, a5, a6, a7, a8, a9, a10, a11⟩ := HX.out _ HQ.out; clear hb) | ((with_reducible refine (ON _).mono ?_); rintro e w1 ⟨rfl, rfl⟩))
        | (go_at_call 12; (with_reducible refine (PL _ HQ.out).mono ?_); rintro e w1 ⟨rfl, hb⟩; have HQ := Lib.hid (HQ.out.trans (hb.mono HQ.out.size)); obtain ⟨a0, a1, a2, a3, a4, a5, a6, a7, a8, a9, a10, a11⟩ := HX.out _ HQ.out; clear hb)
        | (go_at_call 14; (with_reducible refine (RM _).mono ?_); rintro e w1 ⟨rfl, hb⟩; have HQ := Lib.hid (HQ.out.trans (hb.mono HQ.out.size)); clear hb)
        | (go_at_call 15; (with_reducible refine (LK _ HQ.out).mono ?_); rintro e w1 ⟨rfl, hb⟩; have HQ := Lib.hid (HQ.out.trans (hb.mono HQ.out.size)); obtain ⟨a0, a1, a2, a3, a4, a5, a6, a7, a8, a9, a10, a11⟩ := HX.out _ HQ.out; clear hb)
        | (go_at_call 16; (with_reducible refine (PR _).mono ?_); rintro e w1 ⟨rfl, rfl⟩)
        | (go_at_call 17; (with_reducible refine (SL _ HQ.out).mono ?_); rintro e w1 ⟨rfl, hb⟩; have HQ := Lib.hid (HQ.out.trans (hb.mono HQ.out.size)); obtain ⟨a0, a1, a2, a3, a4, a5, a6, a7, a8, a9, a10, a11⟩ := HX.out _ HQ.out; clear hb)
        | (go_at_call 18; (with_reducible refine (NM _ HQ.out).mono ?_); rintro e w1 ⟨rfl, rfl⟩)
        | (go_at_call 19; (with_reducible refine (TG _ HQ.out).mono ?_); rintro e w1 ⟨rfl, hb⟩; have HQ := Lib.hid (HQ.out.trans (hb.mono HQ.out.size)); clear hb))
      go_ret
      exact ⟨retb (by rw [← HAB.out]; simp), HB0.out.trans (HQ.out.mono HB0.out.size)⟩
  have n1 : (kd == 1) = false := by rw [beq_eq_false_iff_ne]; exact h1
  have n2 : (kd == 2) = false := by rw [beq_eq_false_iff_ne]; exact h2
  have n3 : (kd == 3) = false := by rw [beq_eq_false_iff_ne]; exact h3
  have n4 : (kd == 4) = false := by rw [beq_eq_false_iff_ne]; exact h4
  have n5 : (kd == 5) = false := by rw [beq_eq_false_iff_ne]; exact h5
  have n6 : (kd == 6) = false := by rw [beq_eq_false_iff_ne]; exact h6
  have n7 : (kd == 7) = false := by rw [beq_eq_false_iff_ne]; exact h7
  have n8 : (kd == 8) = false := by rw [beq_eq_false_iff_ne]; exact h8
  have n9 : (kd == 9) = false := by rw [beq_eq_false_iff_ne]; exact h9
  have n10 : (kd == 10) = false := by rw [beq_eq_false_iff_ne]; exact h10
  have HF : Hid (false = AB) := Lib.hid (by rw [← HAB.out, if_neg h1, if_neg h2, if_neg h3, if_neg h4, if_neg h5, if_neg (fun g => g.elim h6 h8), if_neg (fun g => g.elim h7 h9), if_neg h10])
  clear h1 h2 h3 h4 h5 h6 h7 h8 h9 h10
  go_enter Tryz.func6, Tryz.ntmps6
  go_wp2
  go_ret
  exact ⟨retb HF.out, HB0.out⟩
end Go.Proofs.YtolpcnhgmmnmcaaGreatDoor
