/-
  Fired triggers that a call builds: their texts lie in rows of their own, apart by the element's type.
-/
import Derived.Test.YtkcamfcjkjiijaaGreatDoorGTMath
import Derived.Test.YtkcamfcjkjiijaaGreatDoorGVMath
import Derived.Test.YtkcamfcjkjiijaaGreatDoorGVPCompare
import Derived.Test.YtkcamfcjkjiijaaGreatDoorGLList
import Derived.Test.YtkcamfcjkjiijaaGreatDoorGTHold
import Derived.Test.YtkcamfcjkjiijaaGreatDoorGBoxV
namespace Go.Proofs.YtkcamfcjkjiijaaGreatDoor
open Go.RowKit
theorem kinds_apart {w : World} {b1 b2 s1 s2 n1 n2 : Nat} {v1 v2 : Value} {x1 x2 : List Value} {e1 e2 : TypeId} (h1 : w.ownsRow b1 e1 s1 v1 n1 x1) (h2 : w.ownsRow b2 e2 s2 v2 n2 x2) (he : e1 ≠ e2) : v1.ownBlock = none ∨ v1.ownBlock ≠ v2.ownBlock := by
  rcases h1.2 with ⟨rfl, _⟩ | ⟨g, cap, cur, rfl, hb, hg, _⟩
  · exact .inl rfl
  · refine .inr fun e => ?_
    rcases h2.2 with ⟨rfl, _⟩ | ⟨g', cap', cur', rfl, hb', hg', _⟩
    · simp [Value.ownBlock] at e
    · simp only [Value.ownBlock, Option.some.injEq] at e
      subst e
      rw [hg] at hg'
      simp only [Option.some.injEq, Obj.cells.injEq] at hg'
      exact he hg'.2.1
/-- Groups that a call owns: the outer row, and each group's. -/
def OwnGs (w : World) (B : Nat) (v : Value) (L : List Gv) : Prop := OwnV 32 1 w B v (L.map fun x => [x.2]) ∧ ∀ x ∈ L, OwnQ w B x.2 x.1
theorem OwnGs.nil (w : World) (B : Nat) : OwnGs w B (.slice none 0 0) [] := ⟨OwnV.nil _ _ _ _, fun x hx => by simp at hx⟩
theorem OwnGs.on {w w' : World} {B : Nat} {v : Value} {L : List Gv} (h : OwnGs w B v L) (hb : Below w.heap.size w w') : OwnGs w' B v L := ⟨OwnV.on h.1 hb, fun x hx => OwnV.on (h.2 x hx) hb⟩
theorem OwnGs.mono {w : World} {B B' : Nat} {v : Value} {L : List Gv} (h : OwnGs w B v L) (hb : B' ≤ B) : OwnGs w B' v L := ⟨OwnV.mono h.1 hb, fun x hx => OwnV.mono (h.2 x hx) hb⟩
theorem OwnGs.holds {w : World} {B : Nat} {v : Value} {L : List Gv} (h : OwnGs w B v L) : HoldGs w v L := ⟨OwnV.holds h.1, fun x hx => OwnV.holds (h.2 x hx)⟩
theorem OwnGs.app {w w' : World} {o : Obj} {B : Nat} {v v' sv : Value} {L : List Gv} {x : List Rl} (h : OwnGs w B v L) (hx : OwnQ w B sv x) (hown : w'.ownsRow B 32 1 v' (L.length + 1) ((L.map fun x => [x.2]).flatten ++ [sv])) (hg : (w.alloc o).grownBy w' v.ownBlock) : OwnGs w' B v' (L ++ [(x, sv)]) := by
  have key : ∀ (s : Value) (y : List Rl), OwnQ w B s y → OwnQ w' B s y := fun s y hy => ⟨hy.1, World.ownsRow.kept (World.ownsRow.alloc hy.2 o) hg (kinds_apart hy.2 h.1.2 (by decide))⟩
  refine ⟨?_, fun y hy => ?_⟩
  · rw [List.map_append]
    exact OwnV.app h.1.1 rfl (by rw [List.length_map]; exact hown)
  · rcases List.mem_append.1 hy with e | e
    · exact key _ _ (h.2 y e)
    · rw [List.mem_singleton.1 e]; exact key _ _ hx
end Go.Proofs.YtkcamfcjkjiijaaGreatDoor
namespace Go.Proofs.YtkcamfcjkjiijaaGreatDoor
open Go.RowKit
end Go.Proofs.YtkcamfcjkjiijaaGreatDoor
namespace Go.Proofs.YtkcamfcjkjiijaaGreatDoor
/-- The first place of one that none is above; -1: there is none. -/
def BestOk (ls : List Bs) (z : Int) : Prop := (ls = [] ∧ z = -1) ∨ ∃ k : Nat, z = k ∧ ∃ h : k < ls.length, ∀ i (hi : i < ls.length), compareV ls[i] ls[k] ≤ 0 ∧ (compareV ls[i] ls[k] = 0 → k ≤ i)
/-- .. of the first n. -/
def BestTo (ls : List Bs) (n : Nat) (z : Int) : Prop := (n = 0 ∧ z = -1) ∨ ∃ k : Nat, z = k ∧ k < n ∧ ∃ h : k < ls.length, ∀ i (hi : i < ls.length), i < n → compareV ls[i] ls[k] ≤ 0 ∧ (compareV ls[i] ls[k] = 0 → k ≤ i)
theorem BestTo.start (ls : List Bs) : BestTo ls 0 (-1) := .inl ⟨rfl, rfl⟩
theorem BestTo.first {ls : List Bs} (h : 0 < ls.length) : BestTo ls 1 ((0 : Nat) : Int) := .inr ⟨0, rfl, by omega, h, fun i hi hn => by
  obtain rfl : i = 0 := by omega
  rw [compareV_good.self]; exact ⟨Int.le_refl _, fun _ => Nat.le_refl _⟩⟩
theorem BestTo.done {ls : List Bs} {z : Int} (h : BestTo ls ls.length z) : BestOk ls z := by
  rcases h with ⟨h, rfl⟩ | ⟨k, e, hk, hl, hb⟩
  · exact .inl ⟨List.eq_nil_of_length_eq_zero h, rfl⟩
  · exact .inr ⟨k, e, hl, fun i hi => hb i hi hi⟩
end Go.Proofs.YtkcamfcjkjiijaaGreatDoor
namespace Go.Proofs.YtkcamfcjkjiijaaGreatDoor
open Go.RowKit
def holdsB (c : Int) (op : Bs) : Bool := decide (op = []) || decide (op = [60, 60]) && decide (c < 0) || decide (op = [60, 61]) && decide (c ≤ 0) || decide (op = [61]) && decide (c = 0) || decide (op = [62, 61]) && decide (0 ≤ c) || decide (op = [62, 62]) && decide (0 < c)
theorem holdsV_is (v op other : Bs) : holdsV v op other = holdsB (compareV v other) op := rfl
theorem emptyL (x : ByteArray) : x.toList.isEmpty = decide (x.data.toList = []) := by
  rw [ByteArray.toList_eq]; cases x.data.toList <;> simp
end Go.Proofs.YtkcamfcjkjiijaaGreatDoor
namespace Go.Proofs.YtkcamfcjkjiijaaGreatDoor
open Go.RowKit
set_option maxRecDepth 100000 in
set_option maxHeartbeats 8000000 in
theorem holds_any (a op b : ByteArray) (ha : a.size ≤ 4000) (hb : b.size ≤ 4000) (w : World) (h : LaidV w) :
    Calls Tryz.prog 96 #[.string a, .string op, .string b] w fun e w' => e = .returned (.bool (holdsV a.data.toList op.data.toList b.data.toList)) ∧ Below w.heap.size w w' := by
  have C := compare_any a b ha hb w h
  clear h
  rw [holdsV_is]
  have vc := compareV_good.vals a.data.toList b.data.toList
  generalize compareV a.data.toList b.data.toList = c at *
  obtain ⟨R, HR⟩ : ∃ R, Hid (holdsB c op.data.toList = R) := ⟨_, rfl⟩
  rw [HR.out]
  have s0 := emptyL op
  have s1 := eqTL op [60, 60]
  have s2 := eqTL op [60, 61]
  have s3 := eqTL op [61]
  have s4 := eqTL op [62, 61]
  have s5 := eqTL op [62, 62]
  have ways : op.data.toList = [] ∨ op.data.toList = [60, 60] ∨ op.data.toList = [60, 61] ∨ op.data.toList = [61] ∨ op.data.toList = [62, 61] ∨ op.data.toList = [62, 62] ∨ (op.data.toList ≠ [] ∧ op.data.toList ≠ [60, 60] ∧ op.data.toList ≠ [60, 61] ∧ op.data.toList ≠ [61] ∧ op.data.toList ≠ [62, 61] ∧ op.data.toList ≠ [62, 62]) := by
    by_cases h0 : op.data.toList = []
    · exact .inl h0
    · by_cases h1 : op.data.toList = [60, 60]
      · exact .inr (.inl h1)
      · by_cases h2 : op.data.toList = [60, 61]
        · exact .inr (.inr (.inl h2))
        · by_cases h3 : op.data.toList = [61]
          · exact .inr (.inr (.inr (.inl h3)))
          · by_cases h4 : op.data.toList = [62, 61]
            · exact .inr (.inr (.inr (.inr (.inl h4))))
            · by_cases h5 : op.data.toList = [62, 62]
              · exact .inr (.inr (.inr (.inr (.inr (.inl h5)))))
              · exact .inr (.inr (.inr (.inr (.inr (.inr ⟨h0, h1, h2, h3, h4, h5⟩)))))
  rcases ways with h | h | h | h | h | h | ⟨h, h1, h2, h3, h4, h5⟩
  case' inr.inr.inr.inr.inr.inr =>
    rw [decide_eq_false h] at s0
    rw [decide_eq_false h1] at s1
    rw [decide_eq_false h2] at s2
    rw [decide_eq_false h3] at s3
    rw [decide_eq_false h4] at s4
    rw [decide_eq_false h5] at s5
    have HF : Hid (false = R) := Lib.hid (by rw [← HR.out]; unfold holdsB; simp [h, h1, h2, h3, h4, h5])
    clear h h1 h2 h3 h4 h5 HR vc
    go_enter Tryz.func96, Tryz.ntmps96
    go_wp2_with (first | (go_at_call 109; refine C.mono ?_; rintro e w1 ⟨rfl, hb1⟩))
    go_ret
    first | exact ⟨retb HF.out, hb1⟩ | exact ⟨retb HF.out, Below.refl _ _⟩
  all_goals
    obtain rfl := strOf h
    clear h s0 s1 s2 s3 s4 s5
    rcases vc with vc | vc | vc
    all_goals
      subst vc
      go_enter Tryz.func96, Tryz.ntmps96
      go_wp2_with (first | (go_at_call 109; refine C.mono ?_; rintro e w1 ⟨rfl, hb1⟩))
      go_ret
      first | exact ⟨retb (by rw [← HR.out]; decide), hb1⟩ | exact ⟨retb (by rw [← HR.out]; decide), Below.refl _ _⟩
end Go.Proofs.YtkcamfcjkjiijaaGreatDoor
namespace Go.Proofs.YtkcamfcjkjiijaaGreatDoor
open Go.RowKit
def fitsB (x : Rl) (n v : Bs) : Bool := decide (x.1 = n) && holdsV v x.2.1 x.2.2
set_option maxHeartbeats 8000000 in
theorem fits_any (p q z n v : ByteArray) (hz : z.size ≤ 4000) (hv : v.size ≤ 4000) (w : World) (hL : LaidV w) : Calls Tryz.prog 76 #[.agg #[.string p, .string q, .string z], .string n, .string v] w fun e w' => e = .returned (.bool (fitsB (p.data.toList, q.data.toList, z.data.toList) n.data.toList v.data.toList)) ∧ Below w.heap.size w w' := by
  have HO := fun W h => holds_any v q z hv hz W h
  have hq := eqT p n
  have HBA : Hid (∀ o, Below w.heap.size w (w.alloc o)) := Lib.hid (fun o => (Below.refl _ _).alloc (Nat.le_refl _) o)
  have HLA := Lib.hid (fun o => hL.on (HBA.out o))
  by_cases he : p.data.toList = n.data.toList
  · have hf : fitsB (p.data.toList, q.data.toList, z.data.toList) n.data.toList v.data.toList = holdsV v.data.toList q.data.toList z.data.toList := by unfold fitsB; rw [decide_eq_true he, Bool.true_and]
    rw [hf]
    rw [decide_eq_true he] at hq
    generalize holdsV v.data.toList q.data.toList z.data.toList = r at *
    clear he hL hf
    go_enter Tryz.func76, Tryz.ntmps76
    go_wp2_with (go_at_call 96; (with_reducible refine (HO _ (HLA.out _)).mono ?_); rintro e w1 ⟨rfl, hb⟩; have HB := Lib.hid ((HBA.out _).trans (hb.mono (HBA.out _).size)); clear hb)
    go_ret
    exact ⟨rfl, HB.out⟩
  · have hf : fitsB (p.data.toList, q.data.toList, z.data.toList) n.data.toList v.data.toList = false := by unfold fitsB; rw [decide_eq_false he, Bool.false_and]
    rw [hf]
    rw [decide_eq_false he] at hq
    clear he hL hf HO
    go_enter Tryz.func76, Tryz.ntmps76
    go_wp2
    go_ret
    exact ⟨rfl, HBA.out _⟩
def Small1 (x : Rl) : Prop := x.1.length ≤ 4000 ∧ x.2.1.length ≤ 4000 ∧ x.2.2.length ≤ 4000
set_option maxHeartbeats 8000000 in
theorem met1_any (x y : Rl) (hx : Small1 x) (hy : Small1 y) (g : Nat) (w : World) (hL : LaidV w) (h0 : w.cell? ⟨g, 0, none⟩ = some (.string (bsT x.1))) (h1 : w.cell? ⟨g, 1, none⟩ = some (.string (bsT x.2.1))) (h2 : w.cell? ⟨g, 2, none⟩ = some (.string (bsT x.2.2))) :
    Calls Tryz.prog 94 #[aggQ y, .pointer (some ⟨g, 0, none⟩)] w fun e w' => e = .returned (.bool (fitsB x y.1 y.2.2)) ∧ Below w.heap.size w w' := by
  have F := fun W h => fits_any (bsT x.1) (bsT x.2.1) (bsT x.2.2) (bsT y.1) (bsT y.2.2) (by rw [sizeOf, bytesOf]; exact hx.2.2) (by rw [sizeOf, bytesOf]; exact hy.2.2) W h
  rw [bytesOf, bytesOf, bytesOf, bytesOf, bytesOf] at F
  obtain ⟨p, q, z⟩ := x
  obtain ⟨n, o, v⟩ := y
  dsimp only at F h0 h1 h2 ⊢
  unfold aggQ
  dsimp only
  generalize fitsB (p, q, z) n v = r at *
  have hg := World.block_lt_of_cell? w _ h0
  have HBA : Hid (∀ o, Below w.heap.size w (w.alloc o)) := Lib.hid (fun o => (Below.refl _ _).alloc (Nat.le_refl _) o)
  have HLA := Lib.hid (fun o => hL.on (HBA.out o))
  have k0 := fun o => (HBA.out o).cell (p := ⟨g, 0, none⟩) hg
  have k1 := fun o => (HBA.out o).cell (p := ⟨g, 1, none⟩) hg
  have k2 := fun o => (HBA.out o).cell (p := ⟨g, 2, none⟩) hg
  rw [h0] at k0
  rw [h1] at k1
  rw [h2] at k2
  generalize bsT p = P at *
  generalize bsT q = Q at *
  generalize bsT z = Z at *
  generalize bsT n = N at *
  generalize bsT o = O at *
  generalize bsT v = V at *
  clear hL h0 h1 h2 hx hy hg
  go_enter Tryz.func94, Tryz.ntmps94
  go_wp2_with (go_at_call 76; (with_reducible refine (F _ (HLA.out _)).mono ?_); rintro e w1 ⟨rfl, hb⟩; have HB := Lib.hid ((HBA.out _).trans (hb.mono (HBA.out _).size)); clear hb)
  go_ret
  exact ⟨rfl, HB.out⟩
def metB (x : Rl) (t : List Rl) : Bool := t.any fun y => fitsB x y.1 y.2.2
set_option maxHeartbeats 8000000 in
theorem met_any (x : Rl) (hx : Small1 x) (v : Value) (t : List Rl) (hl : t.length ≤ 90000) (hs : SmallQ t) (w : World) (h : HoldQ w v t) (hL : LaidV w) : Calls Tryz.prog 71 #[aggQ x, v] w fun e w' => e = .returned (.bool (metB x t)) ∧ Below w.heap.size w w' := by
  have EN : ∀ args w, (callFunc 94 args).run Tryz.prog w = .ok (.enter 94 args) w := enters_of Tryz.func94 (by kernel_rfl) rfl
  have B0 := (Below.refl w.heap.size w).alloc (Nat.le_refl _) (.cells #[.string (bsT x.1), .string (bsT x.2.1), .string (bsT x.2.2)] 75)
  obtain ⟨z0, z1, z2⟩ := boxV3 w (.string (bsT x.1)) (.string (bsT x.2.1)) (.string (bsT x.2.2)) 75
  have hsz : w.heap.size < (w.alloc (.cells #[.string (bsT x.1), .string (bsT x.2.1), .string (bsT x.2.2)] 75)).heap.size := by rw [World.size_alloc]; omega
  have C := contQ_any 94 #[.pointer (some ⟨w.heap.size, 0, none⟩)] EN (fun y => fitsB x y.1 y.2.2) v t hl (w.alloc (.cells #[.string (bsT x.1), .string (bsT x.2.1), .string (bsT x.2.2)] 75)) (HoldV.on h B0) (fun W y hy hb => by
    have := met1_any x y hx (hs y hy) w.heap.size W ((hL.on B0).on hb) ((hb.cell (p := ⟨w.heap.size, 0, none⟩) hsz).trans z0) ((hb.cell (p := ⟨w.heap.size, 1, none⟩) hsz).trans z1) ((hb.cell (p := ⟨w.heap.size, 2, none⟩) hsz).trans z2)
    simpa using this)
  obtain ⟨a, c, b, o, rfl, -⟩ := h.parts
  obtain ⟨r, hr⟩ : ∃ r, metB x t = r := ⟨_, rfl⟩
  have hr' : (t.any fun y => fitsB x y.1 y.2.2) = r := hr
  rw [hr'] at C
  rw [hr]
  have HB0 := Lib.hid B0
  obtain ⟨p, q, z⟩ := x
  unfold aggQ
  dsimp only at C HB0 ⊢
  generalize t.length = n at *
  clear hr hr' z0 z1 z2 hsz B0 h hL hs hl hx EN
  generalize bsT p = P at *
  generalize bsT q = Q at *
  generalize bsT z = Z at *
  go_enter Tryz.func71, Tryz.ntmps71
  go_wp2_with (go_at_call 69; (with_reducible refine C.mono ?_); rintro e w1 ⟨rfl, hb⟩; have HB := Lib.hid (HB0.out.trans (hb.mono HB0.out.size)); clear hb)
  go_ret
  exact ⟨rfl, HB.out⟩
end Go.Proofs.YtkcamfcjkjiijaaGreatDoor
namespace Go.Proofs.YtkcamfcjkjiijaaGreatDoor
open Go.RowKit
theorem OwnT.on {w w' : World} {base : Nat} {v : Value} {l : List Bs} (h : OwnT w base v l) (hb : Below w.heap.size w w') : OwnT w' base v l := World.ownsRow.kept h (grownV hb) (by cases v.ownBlock <;> simp)
/-- The slice value v owns the fired triggers M; who waits lies in rows of texts. -/
def OwnG (w : World) (base : Nat) (v : Value) (M : List Fr) : Prop := ∃ L : List Fp, L.map (·.1) = M ∧ (∀ p ∈ L, OwnT w 0 p.2 p.1.2) ∧ OwnF w base v L
theorem OwnG.nil (w : World) (base : Nat) : OwnG w base (.slice none 0 0) [] := ⟨[], rfl, fun p hp => by simp at hp, OwnV.nil _ _ _ _⟩
theorem OwnG.on {w w' : World} {base : Nat} {v : Value} {M : List Fr} (h : OwnG w base v M) (hb : Below w.heap.size w w') : OwnG w' base v M := by
  obtain ⟨L, h1, h2, h3⟩ := h
  exact ⟨L, h1, fun p hp => (h2 p hp).on hb, h3.on hb⟩
theorem OwnG.holds {w : World} {base : Nat} {v : Value} {M : List Fr} (h : OwnG w base v M) : ∃ L : List Fp, L.map (·.1) = M ∧ HoldF w v L := by
  obtain ⟨L, h1, h2, h3⟩ := h
  exact ⟨L, h1, fun p hp => (h2 p hp).holds, h3.holds⟩
theorem OwnG.app {w w' : World} {o : Obj} {base : Nat} {v v' : Value} {L : List Fp} {x : Fr} {u : Value} {a : ByteArray} (h2 : ∀ p ∈ L, OwnT w 0 p.2 p.1.2) (h3 : OwnF w base v L) (hu : OwnT w 0 u x.2) (ha : a.data.toList = x.1)
    (hown : w'.ownsRow base 267 2 v' (L.length + 1) ((L.map cellsF).flatten ++ [.string a, u])) (hg : (w.alloc o).grownBy w' v.ownBlock) : OwnG w' base v' (L.map (·.1) ++ [x]) := by
  have hk : ∀ {u : Value} {l : List Bs}, OwnT w 0 u l → OwnT w' 0 u l := fun hu => World.ownsRow.kept (World.ownsRow.alloc hu o) hg (kinds_apart hu h3.2 (by decide))
  refine ⟨L ++ [(x, u)], by rw [List.map_append]; rfl, fun p hp => ?_, OwnF.app (p := (x, u)) ha hown⟩
  rcases List.mem_append.1 hp with hp | hp
  · exact hk (h2 p hp)
  · simp at hp; subst hp; exact hk hu
end Go.Proofs.YtkcamfcjkjiijaaGreatDoor
