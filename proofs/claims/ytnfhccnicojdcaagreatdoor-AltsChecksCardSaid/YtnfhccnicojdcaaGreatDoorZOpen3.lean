/-
  The frame round each law's walk: a call that returns true and leaves all that was there as it was meets the law's specification (any number of parameters of any readable types); the witness's world; the card's small facts. The lift of a contract that may want the world's shape, for seats whose cards list package-level variables. The frame of the selections' cards: LaidP out of the world's shape. Alternatives, and lists of them, as arguments: opened. The frame of the alternatives' cards: what the row lists, laid; an argument that is an alternative, opened.
-/
import Derived.Test.YtnfhccnicojdcaaGreatDoorCards
import Derived.Test.YtnfhccnicojdcaaGreatDoorTie
import Derived.ProofKit
import Derived.OpenShut
import Derived.Lib.SmallJoins
import Derived.WalkKit
import Derived.Carry
import Derived.LaidMore
import Derived.SevenTiedAt
import Derived.Shelf.Vars
import Derived.Lay
import Derived.LaidOnce
import Derived.Test.YtnfhccnicojdcaaGreatDoorPResolved
import Derived.Test.YtnfhccnicojdcaaGreatDoorZHold
import Derived.Deep.Strs
import Derived.ChangeArms
import Derived.Deep.Slices
import Derived.Test.YtnfhccnicojdcaaGreatDoorZText
import Derived.FnData
import Derived.Lib.LaidTab
import Derived.MakeChecks
import Derived.Handed
import Derived.Stop.LaidErr
namespace Go.Proofs.YtnfhccnicojdcaaGreatDoor
open Go.ChangeShapes Go.WideShapes Go.ChangeAt Go.RowKit
theorem own : ownKnob Tryz.prog.godebug = none := by kernel_rfl
theorem outB : laidOutB Tryz.prog = true := by kernel_rfl
/-- ARGUMENTS READ AS THEY READ, in every world in which nothing old has turned. -/
theorem args_stay {H : Type} {enc : TypeId × Value → H} {P : Program} (hl : laidOutB P = true) {W W' : World} (hb : Below W.heap.size W W') :
    ∀ {ts : List TypeId} {vs : List Value} {ds : List (DataW H)} {ps : List MemPlace}, (ts.all fun t => P.readableRec t && decide (t < P.types.size)) = true → DataW.TrodAll enc P W 0 (fun _ => true) true ts vs ds ps → (∀ x ∈ ps, x.block < W.heap.size) →
      DataW.TrodAll enc P W' 0 (fun b => decide (b < W.heap.size)) true ts vs ds ps
  | [], vs, ds, ps, _, h, _ => by
    obtain ⟨rfl, rfl, rfl⟩ := trodAll_nil h
    exact rfl
  | t :: ts, vs, ds, ps, hts, h, hlt => by
    obtain ⟨v, vs', d, ds', p, q, rfl, rfl, rfl, h0, r0⟩ := trodAll_cons h
    simp only [List.all_cons, Bool.and_eq_true, decide_eq_true_eq] at hts
    exact ⟨p, q, Below.trod hl hts.1.1 hts.1.2 h0 hb (fun x hx => hlt x (List.mem_append_left _ hx)), args_stay hl hb hts.2 r0 (fun x hx => hlt x (List.mem_append_right _ hx)), rfl⟩
/-- THE LAW's POST: true, and all as it was. -/
theorem law_post {H : Type} {enc : TypeId × Value → H} {P : Program} {f : Func} {s : ChangeSpec} {W W' : World} {args : Array Value} {ds gs : List (DataW H)} {before : List MemPlace} {tb : TypeId} (hl : laidOutB P = true)
    (hts : (f.params.toList.all fun t => P.readableRec t && decide (t < P.types.size)) = true) (hr : f.resultTypes = #[tb]) (hu : P.underlying tb = some .bool) (hs : s.vars = [])
    (hW : DataW.Whole enc P f.params.toList s.vars false W args.toList ds gs before) (hspec : (s.fn H (ds ++ [])).results = [.lit (.bool true)] ∧ (s.fn H (ds ++ [])).args = ds ∧ (s.fn H (ds ++ [])).vars = []) (hb : Below W.heap.size W W') :
    s.post enc P f false true false false W args (.bool true) W' := by
  have hlt : ∀ x ∈ before, x.block < W.heap.size := fun x hx => hW.lt x hx
  have hW' := hW
  obtain ⟨p, q, hA, hV, rfl, hfz, hnd⟩ := hW
  rw [hs] at hV
  obtain ⟨rfl, rfl⟩ := trodVars_none hV
  refine ⟨ds, [], p ++ [], [], p, [], hW', ?_, ?_, ?_, hb.frame _, fun h => by cases h⟩
  · rw [hspec.1, hr]
    exact ⟨[], [], shut_bool hu true, rfl, rfl⟩
  · rw [hspec.2.1]
    exact args_stay hl hb hts hA (fun x hx => hlt x (List.mem_append_left _ hx))
  · rw [hspec.2.2, hs]
    rfl
-- The arguments, by their types.
set_option maxRecDepth 100000 in
theorem open_Kint {H : Type} {enc : TypeId × Value → H} {W : World} {b0 : Nat} {v : Value} {d : DataW H} {ps : List MemPlace} (hval : Value.okWide Tryz.prog W .any b0 3 v) (hd : DataW.Trod enc Tryz.prog W 0 (fun _ => true) true 3 v d ps) :
    ∃ x : Int, v = .int .i64 x ∧ (-9223372036854775808 ≤ x ∧ x ≤ 9223372036854775807) := by
  obtain ⟨x, rfl, _, _, wx⟩ := open_int Tryz.underlying3 hval hd
  exact ⟨x, rfl, bounds_i64 wx⟩
set_option maxRecDepth 100000 in
theorem open_Kuint64 {H : Type} {enc : TypeId × Value → H} {W : World} {b0 : Nat} {v : Value} {d : DataW H} {ps : List MemPlace} (hval : Value.okWide Tryz.prog W .any b0 176 v) (hd : DataW.Trod enc Tryz.prog W 0 (fun _ => true) true 176 v d ps) :
    ∃ x : Nat, v = .int .u64 x ∧ x < 18446744073709551616 := by
  obtain ⟨x, rfl, _, _, wx⟩ := open_int Tryz.underlying176 hval hd
  have := bounds_u64 wx
  exact ⟨x.toNat, by congr 1; omega, by omega⟩
set_option maxRecDepth 100000 in
theorem open_Kstring {H : Type} {enc : TypeId × Value → H} {W : World} {b0 : Nat} {v : Value} {d : DataW H} {ps : List MemPlace} (hval : Value.okWide Tryz.prog W .any b0 9 v) (hd : DataW.Trod enc Tryz.prog W 0 (fun _ => true) true 9 v d ps) :
    ∃ s : ByteArray, v = .string s ∧ s.size ≤ 9223372036854775807 := by
  obtain ⟨s, rfl, _, _, hs⟩ := Go.ChangeMaps.open_string Tryz.underlying9 hval hd
  exact ⟨s, rfl, hs⟩
end Go.Proofs.YtnfhccnicojdcaaGreatDoor
namespace Go.Proofs.YtnfhccnicojdcaaGreatDoor
open Go.ChangeShapes Go.WideShapes Go.ChangeAt Go.RowKit
section
variable {H : Type} {enc : TypeId × Value → H}
set_option maxRecDepth 100000 in
theorem lift_shaped {os : Os} {f : FuncId} {fn : Func} {s : ChangeSpec} {laid : List (String × DataW Unit)} (started : os.Started) (noInit : Tryz.checked.prog.inits.idxOf? f = none) (hfn : Tryz.checked.prog.funcs[f]? = some fn)
    (witness : ∃ (w : World) (tape : Tape) (i : Input), w.os = os ∧ (w.forCall tape i).Shaped Tryz.checked.prog ∧ i.vars = [] ∧ Input.okWide Tryz.checked.prog (w.forCall tape i) .any w.heap.size f i ∧
      ((s.pre enc Tryz.checked.prog fn [] false (w.forCall tape i).memory i.args ∧ laidMetH Tryz.checked.prog laid (w.forCall tape i).memory) ∧ sizedMet enc Tryz.checked.prog fn (OpenSpec.ofChange s) false (w.forCall tape i).memory i.args) ∧ ({} : Assume).holds Tryz.checked.prog (lone (Frame.enter Tryz.checked.prog f i.args .normal) [] (w.forCall tape i)))
    (contract : ∀ (W : World) (base : Nat) (args : Array Value) (ds gs : List (DataW H)) (before : List MemPlace),
      (∀ (j : Nat) t v, fn.params[j]? = some t → args[j]? = some v → Value.okWide Tryz.checked.prog W .any base t v) →
      DataW.Whole enc Tryz.checked.prog fn.params.toList s.vars false W args.toList ds gs before → W.ShapedOpen Tryz.checked.prog →
      Calls Tryz.checked.prog f args W fun e W' => ∃ v, e = .returned v ∧ s.post enc Tryz.checked.prog fn false true false false W args v W') :
    ReturnsInHanded {} Tryz.checked os f .any (fun w args => (s.pre enc Tryz.checked.prog fn [] false w args ∧ laidMetH Tryz.checked.prog laid w) ∧ sizedMet enc Tryz.checked.prog fn (OpenSpec.ofChange s) false w args) (s.post enc Tryz.checked.prog fn false true false false) := by
  refine returnsInHanded_of_calls own started noInit witness fun w tape i _ hsh _ hok hpre _ => ?_
  obtain ⟨_, _, _, g, hg, _, _, _, _, hval⟩ := hok
  obtain rfl : g = fn := Option.some.inj (hg.symm.trans hfn)
  obtain ⟨⟨⟨ds, gs, before, hw, _⟩, _⟩, _⟩ := hpre
  refine (contract (w.forCall tape i) w.heap.size i.args ds gs before hval (DataW.Whole.of_heap (w' := w.forCall tape i) (by rfl) hw) hsh).mono fun e W' ⟨v, he, hp⟩ => ?_
  subst he
  exact ChangeSpec.post_blind hp
end
end Go.Proofs.YtnfhccnicojdcaaGreatDoor
namespace Go.Proofs.YtnfhccnicojdcaaGreatDoor
open Go.ChangeShapes Go.WideShapes Go.ChangeAt Go.RowKit
theorem maxlen_zero : ((begin Tryz.prog (fun _ _ => 0) default).world.heap[0]?).bind Obj.row? = some (#[.int .i64 0], 3) := by kernel_rfl
theorem laidP_of {w : World} (h : w.ShapedOpen Tryz.prog) (hs : 0 < w.heap.size) : LaidP w :=
  ⟨cell_of_shapedOpen_int h (of_decide_eq_true (by kernel_rfl)) maxlen_zero rfl (by kernel_rfl) (by kernel_rfl) Tryz.underlying3, hs⟩
theorem laidP_shaped {w : World} (h : w.ShapedOpen Tryz.prog) : LaidP w := by
  refine laidP_of h ?_
  obtain ⟨cs, hc, _⟩ := h.1 0 _ _ (of_decide_eq_true (by kernel_rfl)) maxlen_zero
  exact (Array.getElem?_eq_some_iff.1 hc).1
end Go.Proofs.YtnfhccnicojdcaaGreatDoor
namespace Go.Proofs.YtnfhccnicojdcaaGreatDoor
open Go.ChangeShapes Go.WideShapes Go.ChangeAt Go.RowKit
theorem spotNone {w : World} {a : Addr} {v : Value} (h : w.cell? a = some v) : a.spot = none := by
  unfold World.cell? at h
  split at h
  · split at h
    · cases h
    · rename_i hs; simpa using hs
  · cases h
theorem litAddr {W : World} {a : Addr} {u : Value} (h : W.cell? (a.add 0) = some u) : ∃ b o, a = ⟨b, o, none⟩ ∧ b < W.heap.size := by
  have h2 : W.cell? a = some u := by simpa [Addr.add] using h
  have hs := spotNone h2
  refine ⟨a.block, a.off, by cases a; simp_all, ?_⟩
  unfold World.cell? at h2
  split at h2
  · rename_i hq; exact (Array.getElem?_eq_some_iff.1 hq).1
  · cases h2
set_option maxRecDepth 100000 in
theorem open_rows {H : Type} {enc : TypeId × Value → H} {P : Program} {W : World} {b0 : Nat} {v : Value} {d : DataW H} {ps : List MemPlace} {α : Type} [Inhabited α] {TS TE : TypeId} {k : Nat} (hS : P.underlying TS = some (.slice TE)) (hk : P.cellsOf TE = k) (h1 : 0 < k) (row : α → Rw) (fit : α → Prop) (hrow : ∀ y, (row y).length = k)
    (one : ∀ fuel cs x, DataW.trod enc P W 0 (fun _ => true) true fuel TE cs = some x → ∃ y : α, cs = row y ∧ fit y)
    (hval : Value.okWide P W .any b0 TS v) (hd : DataW.Trod enc P W 0 (fun _ => true) true TS v d ps) :
    ∃ l : List α, l.length ≤ maxLen ∧ (∀ x ∈ l, fit x) ∧ HoldV k W v (l.map row) := by
  obtain ⟨fuel, hf⟩ := hd
  obtain ⟨a0, n0, c0, rfl⟩ := okWide_slice hS hval
  rcases Deep.open_slice hS hf with ⟨hcs, _⟩ | ⟨a, len, cap, m, n, D, Pl, hcs, _, hl, hm, hmm, _, hx⟩
  · simp only [Value.cells, List.cons.injEq, and_true] at hcs
    rw [hcs]
    exact ⟨[], Nat.zero_le _, (fun x hx => by simp at hx), HoldV.nil k W⟩
  · simp only [Value.cells, List.cons.injEq, and_true] at hcs
    rw [hcs]
    simp only [if_true] at hmm
    subst hmm
    rw [hk] at hx
    have each : ∀ i, i < m → ∃ y : α, (∀ (j : Nat) u, (row y)[j]? = some u → W.cell? (a.add (i * k + j)) = some u) ∧ fit y := fun i hi => by
      obtain ⟨cs', g1, g2⟩ := hx i hi
      obtain ⟨_, _, hcell⟩ := World.cells?_some g1
      obtain ⟨y, rfl, hy⟩ := one _ _ _ g2
      refine ⟨y, fun j u hj => ?_, hy⟩
      have hjk : j < k := by have := (List.getElem?_eq_some_iff.1 hj).1; rw [hrow] at this; exact this
      have g0 := hcell j hjk
      rw [Deep.add_add] at g0
      rw [g0]; simpa using hj
    rcases Nat.eq_zero_or_pos len with h0 | h0
    · subst h0
      exact ⟨[], Nat.zero_le _, (fun x hx => by simp at hx), ⟨some a, m, 0, 0, rfl, Nat.zero_le _, (fun h => absurd h (by simp)), (fun j l hj => by simp at hj)⟩⟩
    · obtain ⟨y0, q0, _⟩ := each 0 (by omega)
      obtain ⟨u0, hu0⟩ : ∃ u, (row y0)[0]? = some u := ⟨_, List.getElem?_eq_getElem (by rw [hrow]; exact h1)⟩
      have q1 := q0 0 u0 hu0
      rw [Nat.zero_mul] at q1
      obtain ⟨b, o, rfl, hb⟩ := litAddr q1
      simp only [Addr.add_lit] at each
      obtain ⟨fx, hfx⟩ : ∃ fx : Nat → α, ∀ i, i < m → (∀ (j : Nat) u, (row (fx i))[j]? = some u → W.cell? ⟨b, o + (i * k + j), none⟩ = some u) ∧ fit (fx i) := by
        refine ⟨fun i => if hi : i < m then (each i hi).choose else default, fun i hi => ?_⟩
        simp only [dif_pos hi]
        exact (each i hi).choose_spec
      refine ⟨(List.range len).map fx, by simp; omega, fun x hx => ?_, some ⟨b, o, none⟩, m, b, o, by simp, by simpa using hl, fun _ => ⟨rfl, hb⟩, fun j r hj i y hi hy => ?_⟩
      · obtain ⟨i, hi, rfl⟩ := List.mem_map.1 hx
        exact (hfx i (by have := List.mem_range.1 hi; omega)).2
      · have hjl : j < len := by have := (List.getElem?_eq_some_iff.1 hj).1; simpa using this
        rw [List.getElem?_map, List.getElem?_map, List.getElem?_range hjl] at hj
        simp only [Option.map_some, Option.some.injEq] at hj
        subst hj
        rw [Nat.add_assoc]
        exact (hfx j (by omega)).1 i y hy
set_option maxRecDepth 100000 in
theorem open_rowsT {H : Type} {enc : TypeId × Value → H} {P : Program} {W : World} {fuel : Nat} {cs : List Value} {x : DataW H × List MemPlace} {α : Type} [Inhabited α] {TS TE : TypeId} {k : Nat} (hS : P.underlying TS = some (.slice TE)) (hk : P.cellsOf TE = k) (h1 : 0 < k) (row : α → Rw) (fit : α → Prop) (hrow : ∀ y, (row y).length = k)
    (one : ∀ fuel cs x, DataW.trod enc P W 0 (fun _ => true) true fuel TE cs = some x → ∃ y : α, cs = row y ∧ fit y)
    (h : DataW.trod enc P W 0 (fun _ => true) true fuel TS cs = some x) :
    ∃ (v : Value) (l : List α), cs = [v] ∧ l.length ≤ maxLen ∧ (∀ x ∈ l, fit x) ∧ HoldV k W v (l.map row) := by
  rcases Deep.open_slice hS h with ⟨hcs, _⟩ | ⟨a, len, cap, m, n, D, Pl, hcs, _, hl, hm, hmm, _, hx⟩
  · subst hcs
    exact ⟨_, [], rfl, Nat.zero_le _, (fun x hx => by simp at hx), HoldV.nil k W⟩
  · subst hcs
    simp only [if_true] at hmm
    subst hmm
    rw [hk] at hx
    have each : ∀ i, i < m → ∃ y : α, (∀ (j : Nat) u, (row y)[j]? = some u → W.cell? (a.add (i * k + j)) = some u) ∧ fit y := fun i hi => by
      obtain ⟨cs', g1, g2⟩ := hx i hi
      obtain ⟨_, _, hcell⟩ := World.cells?_some g1
      obtain ⟨y, rfl, hy⟩ := one _ _ _ g2
      refine ⟨y, fun j u hj => ?_, hy⟩
      have hjk : j < k := by have := (List.getElem?_eq_some_iff.1 hj).1; rw [hrow] at this; exact this
      have g0 := hcell j hjk
      rw [Deep.add_add] at g0
      rw [g0]; simpa using hj
    rcases Nat.eq_zero_or_pos len with h0 | h0
    · subst h0
      exact ⟨_, [], rfl, Nat.zero_le _, (fun x hx => by simp at hx), ⟨some a, m, 0, 0, rfl, Nat.zero_le _, (fun h => absurd h (by simp)), (fun j l hj => by simp at hj)⟩⟩
    · obtain ⟨y0, q0, _⟩ := each 0 (by omega)
      obtain ⟨u0, hu0⟩ : ∃ u, (row y0)[0]? = some u := ⟨_, List.getElem?_eq_getElem (by rw [hrow]; exact h1)⟩
      have q1 := q0 0 u0 hu0
      rw [Nat.zero_mul] at q1
      obtain ⟨b, o, rfl, hb⟩ := litAddr q1
      simp only [Addr.add_lit] at each
      obtain ⟨fx, hfx⟩ : ∃ fx : Nat → α, ∀ i, i < m → (∀ (j : Nat) u, (row (fx i))[j]? = some u → W.cell? ⟨b, o + (i * k + j), none⟩ = some u) ∧ fit (fx i) := by
        refine ⟨fun i => if hi : i < m then (each i hi).choose else default, fun i hi => ?_⟩
        simp only [dif_pos hi]
        exact (each i hi).choose_spec
      refine ⟨_, (List.range len).map fx, rfl, by simp; omega, fun x hx => ?_, some ⟨b, o, none⟩, m, b, o, by simp, by simpa using hl, fun _ => ⟨rfl, hb⟩, fun j r hj i y hi hy => ?_⟩
      · obtain ⟨i, hi, rfl⟩ := List.mem_map.1 hx
        exact (hfx i (by have := List.mem_range.1 hi; omega)).2
      · have hjl : j < len := by have := (List.getElem?_eq_some_iff.1 hj).1; simpa using this
        rw [List.getElem?_map, List.getElem?_map, List.getElem?_range hjl] at hj
        simp only [Option.map_some, Option.some.injEq] at hj
        subst hj
        rw [Nat.add_assoc]
        exact (hfx j (by omega)).1 i y hy
theorem cellsOfT : Tryz.prog.cellsOf 9 = 1 := by kernel_rfl
theorem cellsOfTs : Tryz.prog.cellsOf 30 = 1 := by kernel_rfl
set_option maxRecDepth 100000 in
theorem open_paths {H : Type} {enc : TypeId × Value → H} {W : World} {fuel : Nat} {V : Value} {x : DataW H × List MemPlace} (h : DataW.trod enc Tryz.prog W 0 (fun _ => true) true fuel 30 [V] = some x) : ∃ ls : List Bs, ls.length ≤ maxLen ∧ (∀ q ∈ ls, q.length ≤ maxLen) ∧ HoldT W V ls := by
  rcases Deep.open_strs Tryz.underlying30 Tryz.underlying9 cellsOfT h with ⟨hcs, _⟩ | ⟨a, n, c, m, Sx, hcs, _, hl, hm, hmm, _, hcell⟩
  · simp only [List.cons.injEq, and_true] at hcs
    subst hcs
    exact ⟨[], by simp, (fun x h => by cases h), ⟨none, 0, 0, 0, rfl, Nat.le_refl _, (fun h => absurd h (by simp)), (fun j l hj => by cases hj)⟩⟩
  · simp only [List.cons.injEq, and_true] at hcs
    subst hcs
    simp only [if_true] at hmm
    subst hmm
    rcases Nat.eq_zero_or_pos n with h0 | h0
    · subst h0
      exact ⟨[], by simp, (fun x h => by cases h), ⟨some a, m, 0, 0, rfl, Nat.zero_le _, (fun h => absurd h (by simp)), (fun j l hj => by cases hj)⟩⟩
    · have q0 := (hcell 0 (by omega)).1
      obtain ⟨b, o, rfl, hb⟩ := litAddr (by simpa [Addr.add] using q0)
      simp only [Addr.add_lit] at hcell
      have hlen : ((List.range n).map fun i => (Sx i).data.toList).length = n := by simp
      refine ⟨(List.range n).map fun i => (Sx i).data.toList, by rw [hlen]; omega, fun x hx => ?_, ⟨some ⟨b, o, none⟩, m, b, o, by rw [hlen], by rw [hlen]; exact hl, fun _ => ⟨rfl, hb⟩, fun j l hj => ?_⟩⟩
      · obtain ⟨i, hi, rfl⟩ := List.mem_map.1 hx
        have := (hcell i (by have := List.mem_range.1 hi; omega)).2
        rw [← Lib.size_eq]; exact this
      · have hjl := (List.getElem?_eq_some_iff.1 hj).1
        rw [hlen] at hjl
        rw [List.getElem?_map, List.getElem?_range hjl] at hj
        obtain rfl := Option.some.inj hj
        rw [(hcell j (by omega)).1]
theorem cellsOfS : Tryz.prog.cellsOf 54 = 2 := by kernel_rfl
theorem cellsOfC : Tryz.prog.cellsOf 32 = 3 ∧ Tryz.prog.cellsOf 3 = 1 := ⟨by kernel_rfl, by kernel_rfl⟩
theorem cellsOfA : Tryz.prog.cellsOf 26 = 6 ∧ Tryz.prog.cellsOf 4 = 1 ∧ Tryz.prog.cellsOf 24 = 1 ∧ Tryz.prog.cellsOf 22 = 1 := ⟨by kernel_rfl, by kernel_rfl, by kernel_rfl, by kernel_rfl⟩
theorem fieldsS : ∃ f0 f1 : Field, Tryz.prog.underlying 54 = some (.struct #[f0, f1]) ∧ f0.offset = 0 ∧ f1.offset = 1 ∧ f0.type = 9 ∧ f1.type = 9 := ⟨_, _, Tryz.underlying54, rfl, rfl, rfl, rfl⟩
theorem fieldsC : ∃ f0 f1 f2 : Field, Tryz.prog.underlying 32 = some (.struct #[f0, f1, f2]) ∧ f0.offset = 0 ∧ f1.offset = 1 ∧ f2.offset = 2 ∧ f0.type = 9 ∧ f1.type = 3 ∧ f2.type = 30 := ⟨_, _, _, Tryz.underlying32, rfl, rfl, rfl, rfl, rfl, rfl⟩
theorem fieldsA : ∃ f0 f1 f2 f3 f4 f5 : Field, Tryz.prog.underlying 26 = some (.struct #[f0, f1, f2, f3, f4, f5]) ∧ (f0.offset = 0 ∧ f1.offset = 1 ∧ f2.offset = 2 ∧ f3.offset = 3 ∧ f4.offset = 4 ∧ f5.offset = 5) ∧ f0.type = 9 ∧ f1.type = 9 ∧ f2.type = 4 ∧ f3.type = 9 ∧ f4.type = 24 ∧ f5.type = 22 := ⟨_, _, _, _, _, _, Tryz.underlying26, ⟨rfl, rfl, rfl, rfl, rfl, rfl⟩, rfl, rfl, rfl, rfl, rfl, rfl⟩
set_option maxRecDepth 100000 in
theorem one_slave {H : Type} {enc : TypeId × Value → H} {W : World} (fuel : Nat) (cs : List Value) (x : DataW H × List MemPlace) (h : DataW.trod enc Tryz.prog W 0 (fun _ => true) true fuel 54 cs = some x) :
    ∃ y : Sv, cs = cellsS y ∧ FitS y := by
  obtain ⟨f0, f1, hs, o0, o1, e0, e1⟩ := fieldsS
  obtain ⟨xs, n, _, _, hlen, hxl, hf⟩ := DataW.trod_struct hs h
  rw [cellsOfS] at hlen
  match xs, hxl, cs, hlen with
  | [y0, y1], _, [v0, v1], _ =>
    have g0 := hf 0 f0 rfl
    have g1 := hf 1 f1 rfl
    rw [e0, o0, cellsOfT] at g0
    rw [e1, o1, cellsOfT] at g1
    obtain ⟨X, hX, _, bX⟩ := DataW.trod_string Tryz.underlying9 g0
    obtain ⟨Y, hY, _, bY⟩ := DataW.trod_string Tryz.underlying9 g1
    simp at hX hY
    subst hX hY
    exact ⟨(X.data.toList, Y.data.toList), by simp [cellsS], ⟨by rw [← Lib.size_eq]; exact bX, by rw [← Lib.size_eq]; exact bY⟩⟩
set_option maxRecDepth 100000 in
theorem one_choice {H : Type} {enc : TypeId × Value → H} {W : World} (fuel : Nat) (cs : List Value) (x : DataW H × List MemPlace) (h : DataW.trod enc Tryz.prog W 0 (fun _ => true) true fuel 32 cs = some x) :
    ∃ y : Cv, cs = cellsC y ∧ FitC y ∧ HoldT W y.2 y.1.2.2 := by
  obtain ⟨f0, f1, f2, hs, o0, o1, o2, e0, e1, e2⟩ := fieldsC
  obtain ⟨xs, n, _, _, hlen, hxl, hf⟩ := DataW.trod_struct hs h
  rw [cellsOfC.1] at hlen
  match xs, hxl, cs, hlen with
  | [y0, y1, y2], _, [v0, v1, v2], _ =>
    have g0 := hf 0 f0 rfl
    have g1 := hf 1 f1 rfl
    have g2 := hf 2 f2 rfl
    rw [e0, o0, cellsOfT] at g0
    rw [e1, o1, cellsOfC.2] at g1
    rw [e2, o2, cellsOfTs] at g2
    obtain ⟨X, hX, _, bX⟩ := DataW.trod_string Tryz.underlying9 g0
    obtain ⟨m, hM, _, _⟩ := DataW.trod_int Tryz.underlying3 g1
    simp at hX hM
    subst hX hM
    obtain ⟨ls, h1, h2, h3⟩ := open_paths (V := v2) (by simpa using g2)
    exact ⟨((X.data.toList, m, ls), v2), by simp [cellsC], ⟨by rw [← Lib.size_eq]; exact bX, h1, h2⟩, h3⟩
instance : Inhabited Av := ⟨⟨[], [], false, [], [], [], .slice none 0 0, .slice none 0 0⟩⟩
set_option maxRecDepth 100000 in
theorem one_alt {H : Type} {enc : TypeId × Value → H} {W : World} (fuel : Nat) (cs : List Value) (x : DataW H × List MemPlace) (h : DataW.trod enc Tryz.prog W 0 (fun _ => true) true fuel 26 cs = some x) :
    ∃ y : Av, cs = cellsA y ∧ FitA y ∧ InA W y := by
  obtain ⟨f0, f1, f2, f3, f4, f5, hs, ⟨o0, o1, o2, o3, o4, o5⟩, e0, e1, e2, e3, e4, e5⟩ := fieldsA
  obtain ⟨xs, n, _, _, hlen, hxl, hf⟩ := DataW.trod_struct hs h
  rw [cellsOfA.1] at hlen
  match xs, hxl, cs, hlen with
  | [y0, y1, y2, y3, y4, y5], _, [v0, v1, v2, v3, v4, v5], _ =>
    have g0 := hf 0 f0 rfl
    have g1 := hf 1 f1 rfl
    have g2 := hf 2 f2 rfl
    have g3 := hf 3 f3 rfl
    have g4 := hf 4 f4 rfl
    have g5 := hf 5 f5 rfl
    rw [e0, o0, cellsOfT] at g0
    rw [e1, o1, cellsOfT] at g1
    rw [e2, o2, cellsOfA.2.1] at g2
    rw [e3, o3, cellsOfT] at g3
    rw [e4, o4, cellsOfA.2.2.1] at g4
    rw [e5, o5, cellsOfA.2.2.2] at g5
    obtain ⟨X, hX, _, bX⟩ := DataW.trod_string Tryz.underlying9 g0
    obtain ⟨Y, hY, _, bY⟩ := DataW.trod_string Tryz.underlying9 g1
    obtain ⟨m, hM, _⟩ := DataW.trod_bool Tryz.underlying4 g2
    obtain ⟨U, hU, _, bU⟩ := DataW.trod_string Tryz.underlying9 g3
    simp at hX hY hM hU
    subst hX hY hM hU
    obtain ⟨sv, sl, hs1, hs2, hs3, hs4⟩ := open_rowsT Tryz.underlying24 cellsOfS (by omega) cellsS FitS (fun _ => rfl) one_slave g4
    obtain ⟨cv, ch, hc1, hc2, hc3, hc4⟩ := open_rowsT (α := Cv) Tryz.underlying22 cellsOfC.1 (by omega) cellsC (fun y => FitC y ∧ HoldT W y.2 y.1.2.2) (fun _ => rfl) one_choice g5
    simp at hs1 hc1
    subst hs1 hc1
    exact ⟨⟨X.data.toList, Y.data.toList, m, U.data.toList, sl, ch, v4, v5⟩, by simp [cellsA], ⟨by rw [← Lib.size_eq]; exact bX, by rw [← Lib.size_eq]; exact bY, by rw [← Lib.size_eq]; exact bU, hs2, hc2, hs3, fun c hc => (hc3 c hc).1⟩, hs4, hc4, fun c hc => (hc3 c hc).2⟩
set_option maxRecDepth 100000 in
theorem open_Kalts {H : Type} {enc : TypeId × Value → H} {W : World} {b0 : Nat} {v : Value} {d : DataW H} {ps : List MemPlace} (hval : Value.okWide Tryz.prog W .any b0 27 v) (hd : DataW.Trod enc Tryz.prog W 0 (fun _ => true) true 27 v d ps) :
    ∃ l : List Av, l.length ≤ maxLen ∧ (∀ x ∈ l, FitA x) ∧ HoldA W v l := by
  obtain ⟨l, h1, h2, h3⟩ := open_rows (α := Av) Tryz.underlying27 cellsOfA.1 (by omega) cellsA (fun x => FitA x ∧ InA W x) (fun _ => rfl) one_alt hval hd
  exact ⟨l, h1, fun x hx => (h2 x hx).1, h3, fun x hx => (h2 x hx).2⟩
end Go.Proofs.YtnfhccnicojdcaaGreatDoor
namespace Go.Proofs.YtnfhccnicojdcaaGreatDoor
open Go.ChangeShapes Go.WideShapes Go.ChangeAt Go.RowKit
theorem vtPow : (Tryz.prog.globals[1]?).map (·.type) = some 206 := by kernel_rfl
theorem vc20 : Tryz.prog.cellsOf 206 = 20 := by kernel_rfl
theorem vcU64 : Tryz.prog.cellsOf 176 = 1 := by kernel_rfl
theorem block_of_var {P : Program} {w : World} {n : String} {g : Nat} {cs : Array Value} (hg : P.globalNamed n = some g) (h : w.var? P n = some cs) : ∃ t fr, w.heap[g]? = some (.cells cs t fr) := by
  unfold World.var? at h
  simp only [hg, Option.bind_some] at h
  split at h
  · rename_i c t fr hh
    cases h
    exact ⟨t, fr, hh⟩
  · cases h
theorem var_of_head {P : Program} {W : World} {n : String} {d : DataW Unit} {r : List (String × DataW Unit)} (h : laidMet P ((n, d) :: r) W) : ∃ cs, W.var? P n = some cs := by
  obtain ⟨ps, ⟨g', t', cs, fuel, p, q, hg', ht', hvar, hd, _, _⟩, _⟩ := h
  exact ⟨_, hvar⟩

abbrev zlaid : List (String × DataW Unit) := [("math/bits.deBruijn32tab", Rows.laid_math_bits_deBruijn32tab), ("math/bits.deBruijn64tab", Rows.laid_math_bits_deBruijn64tab), ("internal/strconv.uint64pow10", Lib.tabData .u64 Lib.pow10Tab), ("unicode/utf8.acceptRanges", Rows.laid_unicode_utf8_acceptRanges), ("strconv.ErrRange", Rows.laid_strconv_ErrRange), ("strconv.ErrSyntax", Rows.laid_strconv_ErrSyntax), ("unicode/utf8.first", Rows.laid_unicode_utf8_first)]
set_option maxRecDepth 100000 in
theorem laidZ_of {W : World} (hs : W.ShapedOpen Tryz.prog) (h : laidMetH Tryz.prog Rows.altsBestRow.laid W) : LaidZ W := by
  have h0 : laidMet Tryz.prog zlaid W := by
    have e : laidMetH Tryz.prog Rows.altsBestRow.laid W = laidMet Tryz.prog Rows.altsBestRow.laid W := MakeChecks.laidMetH_plain _ _ _ (by kernel_rfl)
    rw [e] at h
    exact h
  have h1 := laidMet.tail h0
  have h2 := laidMet.tail h1
  refine ⟨laidP_shaped hs, Lib.tabIs_of_head gPowZ vtPow Tryz.underlying206 Tryz.underlying176 vcU64 vc20 h2, ?_⟩
  obtain ⟨cs, hv⟩ := var_of_head h2
  obtain ⟨t, fr, hh⟩ := block_of_var gPowZ hv
  exact (Array.getElem?_eq_some_iff.1 hh).1
section
variable {H : Type} {enc : TypeId × Value → H}
set_option maxRecDepth 100000 in
theorem lift_both {os : Os} {f : FuncId} {fn : Func} {s : ChangeSpec} {laid : List (String × DataW Unit)} (started : os.Started) (noInit : Tryz.checked.prog.inits.idxOf? f = none) (hfn : Tryz.checked.prog.funcs[f]? = some fn)
    (hplain : (laid.all fun x => x.2.handleName?.isNone) = true)
    (witness : ∃ (w : World) (tape : Tape) (i : Input), w.os = os ∧ (w.forCall tape i).Shaped Tryz.checked.prog ∧ i.vars = [] ∧ Input.okWide Tryz.checked.prog (w.forCall tape i) .any w.heap.size f i ∧
      ((s.pre enc Tryz.checked.prog fn [] false (w.forCall tape i).memory i.args ∧ laidMetH Tryz.checked.prog laid (w.forCall tape i).memory) ∧ sizedMet enc Tryz.checked.prog fn (OpenSpec.ofChange s) false (w.forCall tape i).memory i.args) ∧ ({} : Assume).holds Tryz.checked.prog (lone (Frame.enter Tryz.checked.prog f i.args .normal) [] (w.forCall tape i)))
    (contract : ∀ (W : World) (base : Nat) (args : Array Value) (ds gs : List (DataW H)) (before : List MemPlace),
      (∀ (j : Nat) t v, fn.params[j]? = some t → args[j]? = some v → Value.okWide Tryz.checked.prog W .any base t v) →
      DataW.Whole enc Tryz.checked.prog fn.params.toList s.vars false W args.toList ds gs before → W.ShapedOpen Tryz.checked.prog → laidMetH Tryz.checked.prog laid W →
      Calls Tryz.checked.prog f args W fun e W' => ∃ v, e = .returned v ∧ s.post enc Tryz.checked.prog fn false true false false W args v W') :
    ReturnsInHanded {} Tryz.checked os f .any (fun w args => (s.pre enc Tryz.checked.prog fn [] false w args ∧ laidMetH Tryz.checked.prog laid w) ∧ sizedMet enc Tryz.checked.prog fn (OpenSpec.ofChange s) false w args) (s.post enc Tryz.checked.prog fn false true false false) := by
  refine returnsInHanded_of_calls own started noInit witness fun w tape i _ hsh _ hok hpre _ => ?_
  obtain ⟨_, _, _, g, hg, _, _, _, _, hval⟩ := hok
  obtain rfl : g = fn := Option.some.inj (hg.symm.trans hfn)
  obtain ⟨⟨⟨ds, gs, before, hw, _⟩, hl⟩, _⟩ := hpre
  have hl' : laidMetH Tryz.checked.prog laid (w.forCall tape i) := by
    rw [MakeChecks.laidMetH_plain _ _ _ hplain] at hl ⊢
    exact hl.of_heap (by rfl)
  refine (contract (w.forCall tape i) w.heap.size i.args ds gs before hval (DataW.Whole.of_heap (w' := w.forCall tape i) (by rfl) hw) hsh hl').mono fun e W' ⟨v, he, hp⟩ => ?_
  subst he
  exact ChangeSpec.post_blind hp
end

set_option maxRecDepth 100000 in
theorem open_Kalt {H : Type} {enc : TypeId × Value → H} {W : World} {b0 : Nat} {v : Value} {d : DataW H} {ps : List MemPlace} (hval : Value.okWide Tryz.prog W .any b0 26 v) (hd : DataW.Trod enc Tryz.prog W 0 (fun _ => true) true 26 v d ps) :
    ∃ x : Av, v = agZA x ∧ FitA x ∧ InA W x := by
  obtain ⟨f0, f1, f2, f3, f4, f5, hs, -⟩ := fieldsA
  obtain ⟨cs, rfl, hsz⟩ := okWide_struct hs hval
  obtain ⟨fuel, hf⟩ := hd
  obtain ⟨y, hy, hfit⟩ := one_alt fuel cs.toList _ hf
  exact ⟨y, by rw [agZA]; congr 1; apply Array.ext'; rw [hy], hfit⟩
instance : Inhabited Cv := ⟨(([], 0, []), .slice none 0 0)⟩
set_option maxRecDepth 100000 in
theorem open_Kchs {H : Type} {enc : TypeId × Value → H} {W : World} {b0 : Nat} {v : Value} {d : DataW H} {ps : List MemPlace} (hval : Value.okWide Tryz.prog W .any b0 22 v) (hd : DataW.Trod enc Tryz.prog W 0 (fun _ => true) true 22 v d ps) :
    ∃ l : List Cv, l.length ≤ maxLen ∧ (∀ x ∈ l, FitC x) ∧ HoldC W v l := by
  obtain ⟨l, h1, h2, h3⟩ := open_rows (α := Cv) Tryz.underlying22 cellsOfC.1 (by omega) cellsC (fun y => FitC y ∧ HoldT W y.2 y.1.2.2) (fun _ => rfl) one_choice hval hd
  exact ⟨l, h1, fun x hx => (h2 x hx).1, h3, fun x hx => (h2 x hx).2⟩
end Go.Proofs.YtnfhccnicojdcaaGreatDoor
