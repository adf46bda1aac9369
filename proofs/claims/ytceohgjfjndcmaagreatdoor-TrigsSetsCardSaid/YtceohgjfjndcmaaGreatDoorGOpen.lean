/-
  The lift of a contract that may want the world's shape, for seats whose cards list package-level variables. The frame of the triggers' cards: LaidP out of the world's shape; the arguments that are lists of interests, or of fired triggers, opened.
-/
import Derived.Test.YtceohgjfjndcmaaGreatDoorFrame
import Derived.Shelf.Vars
import Derived.Lay
import Derived.LaidOnce
import Derived.Test.YtceohgjfjndcmaaGreatDoorPResolved
import Derived.Test.YtceohgjfjndcmaaGreatDoorGHold
import Derived.Lib.SmallJoins
import Derived.Deep.Strs
import Derived.ChangeArms
import Derived.Deep.Slices
namespace Go.Proofs.YtceohgjfjndcmaaGreatDoor
open Go.ChangeShapes Go.WideShapes Go.ChangeAt Go.RowKit
section
variable {H : Type} {enc : TypeId × Value → H}
set_option maxRecDepth 100000 in
theorem lift_shaped {os : Os} {f : FuncId} {fn : Func} {s : ChangeSpec} {laid : List (String × DataW Unit)} (started : os.Started) (noInit : Tryz.checked.prog.inits.idxOf? f = none) (hfn : Tryz.checked.prog.funcs[f]? = some fn)
    (witness : ∃ (w : World) (tape : Tape) (i : Input), w.os = os ∧ (w.forCall tape i).Shaped Tryz.checked.prog ∧ i.vars = [] ∧ Input.okWide Tryz.checked.prog (w.forCall tape i) .any w.heap.size f i ∧
      ((s.pre enc Tryz.checked.prog fn [] false (w.forCall tape i).memory i.args ∧ laidMetH Tryz.checked.prog laid (w.forCall tape i).memory) ∧ sizedMet enc Tryz.checked.prog fn (OpenSpec.ofChange s) false (w.forCall tape i).memory i.args) ∧ ({} : Assume).holds Tryz.checked.prog (lone (Frame.enter Tryz.checked.prog f i.args .normal) [] (w.forCall tape i)))
    (contract : ∀ (W : World) (base : Nat) (args : Array Value) (ds gs : List (DataW H)) (before : List MemPlace),
      (∀ (j : Nat) t v, fn.params[j]? = some t → args[j]? = some v → Value.okWide Tryz.checked.prog W .any base t v) →
      DataW.Whole enc Tryz.checked.prog fn.params.toList s.vars false W args.toList ds gs before → W.ShapedOpen Tryz.checked.prog →
      Calls Tryz.checked.prog f args W fun e W' => ∃ v, e = .returned v ∧ s.post enc Tryz.checked.prog fn false true false false W args v W') :
    ReturnsInHanded {} Tryz.checked os f .any (fun w args => (s.pre enc Tryz.checked.prog fn [] false w args ∧ laidMetH Tryz.checked.prog laid w) ∧ sizedMet enc Tryz.checked.prog fn (OpenSpec.ofChange s) false w args) (s.post enc Tryz.checked.prog fn false true false false) := by
  refine returnsInHanded_of_calls own started noInit witness fun w tape i _ hsh _ hok hpre _ => ?_
  obtain ⟨_, _, _, g, hg, _, _, _, _, hval⟩ := hok
  obtain rfl : g = fn := Option.some.inj (hg.symm.trans hfn)
  obtain ⟨⟨⟨ds, gs, before, hw, _⟩, _⟩, _⟩ := hpre
  refine (contract (w.forCall tape i) w.heap.size i.args ds gs before hval (DataW.Whole.of_heap (w' := w.forCall tape i) (by rfl) hw) hsh).mono fun e W' ⟨v, he, hp⟩ => ?_
  subst he
  exact ChangeSpec.post_blind hp
end
end Go.Proofs.YtceohgjfjndcmaaGreatDoor
namespace Go.Proofs.YtceohgjfjndcmaaGreatDoor
open Go.ChangeShapes Go.WideShapes Go.ChangeAt Go.RowKit
theorem maxlen_zero : ((begin Tryz.prog (fun _ _ => 0) default).world.heap[0]?).bind Obj.row? = some (#[.int .i64 0], 3) := by kernel_rfl
theorem laidP_of {w : World} (h : w.ShapedOpen Tryz.prog) (hs : 0 < w.heap.size) : LaidP w :=
  ⟨cell_of_shapedOpen_int h (of_decide_eq_true (by kernel_rfl)) maxlen_zero rfl (by kernel_rfl) (by kernel_rfl) Tryz.underlying3, hs⟩
theorem laidP_shaped {w : World} (h : w.ShapedOpen Tryz.prog) : LaidP w := by
  refine laidP_of h ?_
  obtain ⟨cs, hc, _⟩ := h.1 0 _ _ (of_decide_eq_true (by kernel_rfl)) maxlen_zero
  exact (Array.getElem?_eq_some_iff.1 hc).1
theorem spotNone {w : World} {a : Addr} {v : Value} (h : w.cell? a = some v) : a.spot = none := by
  unfold World.cell? at h
  split at h
  · split at h
    · cases h
    · rename_i hs; simpa using hs
  · cases h
theorem litAddr {W : World} {a : Addr} {u : Value} (h : W.cell? (a.add 0) = some u) : ∃ b o, a = ⟨b, o, none⟩ ∧ b < W.heap.size := by
  have h2 : W.cell? a = some u := by simpa [Addr.add] using h
  have hs := spotNone h2
  refine ⟨a.block, a.off, by cases a; simp_all, ?_⟩
  unfold World.cell? at h2
  split at h2
  · rename_i hq; exact (Array.getElem?_eq_some_iff.1 hq).1
  · cases h2
-- A slice of structs of one-cell fields, row by row: any struct whose one value opens.
set_option maxRecDepth 100000 in
theorem open_rows {H : Type} {enc : TypeId × Value → H} {P : Program} {W : World} {b0 : Nat} {v : Value} {d : DataW H} {ps : List MemPlace} {α : Type} [Inhabited α] {TS TE : TypeId} {k : Nat} (hS : P.underlying TS = some (.slice TE)) (hk : P.cellsOf TE = k) (h1 : 0 < k) (row : α → Rw) (fit : α → Prop) (hrow : ∀ y, (row y).length = k)
    (one : ∀ fuel cs x, DataW.trod enc P W 0 (fun _ => true) true fuel TE cs = some x → ∃ y : α, cs = row y ∧ fit y)
    (hval : Value.okWide P W .any b0 TS v) (hd : DataW.Trod enc P W 0 (fun _ => true) true TS v d ps) :
    ∃ l : List α, l.length ≤ maxLen ∧ (∀ x ∈ l, fit x) ∧ HoldV k W v (l.map row) := by
  obtain ⟨fuel, hf⟩ := hd
  obtain ⟨a0, n0, c0, rfl⟩ := okWide_slice hS hval
  rcases Deep.open_slice hS hf with ⟨hcs, _⟩ | ⟨a, len, cap, m, n, D, Pl, hcs, _, hl, hm, hmm, _, hx⟩
  · simp only [Value.cells, List.cons.injEq, and_true] at hcs
    rw [hcs]
    exact ⟨[], Nat.zero_le _, (fun x hx => by simp at hx), HoldV.nil k W⟩
  · simp only [Value.cells, List.cons.injEq, and_true] at hcs
    rw [hcs]
    simp only [if_true] at hmm
    subst hmm
    rw [hk] at hx
    have each : ∀ i, i < m → ∃ y : α, (∀ (j : Nat) u, (row y)[j]? = some u → W.cell? (a.add (i * k + j)) = some u) ∧ fit y := fun i hi => by
      obtain ⟨cs', g1, g2⟩ := hx i hi
      obtain ⟨_, _, hcell⟩ := World.cells?_some g1
      obtain ⟨y, rfl, hy⟩ := one _ _ _ g2
      refine ⟨y, fun j u hj => ?_, hy⟩
      have hjk : j < k := by have := (List.getElem?_eq_some_iff.1 hj).1; rw [hrow] at this; exact this
      have g0 := hcell j hjk
      rw [Deep.add_add] at g0
      rw [g0]; simpa using hj
    rcases Nat.eq_zero_or_pos len with h0 | h0
    · subst h0
      exact ⟨[], Nat.zero_le _, (fun x hx => by simp at hx), ⟨some a, m, 0, 0, rfl, Nat.zero_le _, (fun h => absurd h (by simp)), (fun j l hj => by simp at hj)⟩⟩
    · obtain ⟨y0, q0, _⟩ := each 0 (by omega)
      obtain ⟨u0, hu0⟩ : ∃ u, (row y0)[0]? = some u := ⟨_, List.getElem?_eq_getElem (by rw [hrow]; exact h1)⟩
      have q1 := q0 0 u0 hu0
      rw [Nat.zero_mul] at q1
      obtain ⟨b, o, rfl, hb⟩ := litAddr q1
      simp only [Addr.add_lit] at each
      obtain ⟨fx, hfx⟩ : ∃ fx : Nat → α, ∀ i, i < m → (∀ (j : Nat) u, (row (fx i))[j]? = some u → W.cell? ⟨b, o + (i * k + j), none⟩ = some u) ∧ fit (fx i) := by
        refine ⟨fun i => if hi : i < m then (each i hi).choose else default, fun i hi => ?_⟩
        simp only [dif_pos hi]
        exact (each i hi).choose_spec
      refine ⟨(List.range len).map fx, by simp; omega, fun x hx => ?_, some ⟨b, o, none⟩, m, b, o, by simp, by simpa using hl, fun _ => ⟨rfl, hb⟩, fun j r hj i y hi hy => ?_⟩
      · obtain ⟨i, hi, rfl⟩ := List.mem_map.1 hx
        exact (hfx i (by have := List.mem_range.1 hi; omega)).2
      · have hjl : j < len := by have := (List.getElem?_eq_some_iff.1 hj).1; simpa using this
        rw [List.getElem?_map, List.getElem?_map, List.getElem?_range hjl] at hj
        simp only [Option.map_some, Option.some.injEq] at hj
        subst hj
        rw [Nat.add_assoc]
        exact (hfx j (by omega)).1 i y hy
abbrev FitI (x : It) : Prop := x.1.length ≤ maxLen ∧ x.2.1.length ≤ maxLen
abbrev FitF (p : Fp) : Prop := p.1.1.length ≤ maxLen ∧ p.1.2.length ≤ maxLen ∧ ∀ q ∈ p.1.2, q.length ≤ maxLen
theorem fieldsI : ∃ f0 f1 f2 : Field, Tryz.prog.underlying 53 = some (.struct #[f0, f1, f2]) ∧ f0.offset = 0 ∧ f1.offset = 1 ∧ f2.offset = 2 ∧ f0.type = 9 ∧ f1.type = 9 ∧ f2.type = 4 := ⟨_, _, _, Tryz.underlying53, rfl, rfl, rfl, rfl, rfl, rfl⟩
theorem fieldsF : ∃ f0 f1 : Field, Tryz.prog.underlying 74 = some (.struct #[f0, f1]) ∧ f0.offset = 0 ∧ f1.offset = 1 ∧ f0.type = 9 ∧ f1.type = 56 := ⟨_, _, Tryz.underlying74, rfl, rfl, rfl, rfl⟩
theorem cellsOfI : Tryz.prog.cellsOf 53 = 3 ∧ Tryz.prog.cellsOf 9 = 1 ∧ Tryz.prog.cellsOf 4 = 1 := ⟨by kernel_rfl, by kernel_rfl, by kernel_rfl⟩
theorem cellsOfF : Tryz.prog.cellsOf 74 = 2 ∧ Tryz.prog.cellsOf 9 = 1 ∧ Tryz.prog.cellsOf 56 = 1 := ⟨by kernel_rfl, by kernel_rfl, by kernel_rfl⟩
set_option maxRecDepth 100000 in
theorem open_paths {H : Type} {enc : TypeId × Value → H} {W : World} {fuel : Nat} {V : Value} {x : DataW H × List MemPlace} (h : DataW.trod enc Tryz.prog W 0 (fun _ => true) true fuel 56 [V] = some x) : ∃ ls : List Bs, ls.length ≤ maxLen ∧ (∀ q ∈ ls, q.length ≤ maxLen) ∧ HoldT W V ls := by
  rcases Deep.open_strs Tryz.underlying56 Tryz.underlying9 cellsOfF.2.1 h with ⟨hcs, _⟩ | ⟨a, n, c, m, Sx, hcs, _, hl, hm, hmm, _, hcell⟩
  · simp only [List.cons.injEq, and_true] at hcs
    subst hcs
    exact ⟨[], by simp, (fun x h => by cases h), ⟨none, 0, 0, 0, rfl, Nat.le_refl _, (fun h => absurd h (by simp)), (fun j l hj => by cases hj)⟩⟩
  · simp only [List.cons.injEq, and_true] at hcs
    subst hcs
    simp only [if_true] at hmm
    subst hmm
    rcases Nat.eq_zero_or_pos n with h0 | h0
    · subst h0
      exact ⟨[], by simp, (fun x h => by cases h), ⟨some a, m, 0, 0, rfl, Nat.zero_le _, (fun h => absurd h (by simp)), (fun j l hj => by cases hj)⟩⟩
    · have q0 := (hcell 0 (by omega)).1
      obtain ⟨b, o, rfl, hb⟩ := litAddr (by simpa [Addr.add] using q0)
      simp only [Addr.add_lit] at hcell
      have hlen : ((List.range n).map fun i => (Sx i).data.toList).length = n := by simp
      refine ⟨(List.range n).map fun i => (Sx i).data.toList, by rw [hlen]; omega, fun x hx => ?_, ⟨some ⟨b, o, none⟩, m, b, o, by rw [hlen], by rw [hlen]; exact hl, fun _ => ⟨rfl, hb⟩, fun j l hj => ?_⟩⟩
      · obtain ⟨i, hi, rfl⟩ := List.mem_map.1 hx
        have := (hcell i (by have := List.mem_range.1 hi; omega)).2
        rw [← Lib.size_eq]; exact this
      · have hjl := (List.getElem?_eq_some_iff.1 hj).1
        rw [hlen] at hjl
        rw [List.getElem?_map, List.getElem?_range hjl] at hj
        obtain rfl := Option.some.inj hj
        rw [(hcell j (by omega)).1]
set_option maxRecDepth 100000 in
theorem one_interest {H : Type} {enc : TypeId × Value → H} {W : World} (fuel : Nat) (cs : List Value) (x : DataW H × List MemPlace) (h : DataW.trod enc Tryz.prog W 0 (fun _ => true) true fuel 53 cs = some x) :
    ∃ y : It, cs = cellsI y ∧ FitI y := by
  obtain ⟨f0, f1, f2, hs, o0, o1, o2, e0, e1, e2⟩ := fieldsI
  obtain ⟨xs, n, _, _, hlen, hxl, hf⟩ := DataW.trod_struct hs h
  rw [cellsOfI.1] at hlen
  match xs, hxl, cs, hlen with
  | [y0, y1, y2], _, [v0, v1, v2], _ =>
    have g0 := hf 0 f0 rfl
    have g1 := hf 1 f1 rfl
    have g2 := hf 2 f2 rfl
    rw [e0, o0, cellsOfI.2.1] at g0
    rw [e1, o1, cellsOfI.2.1] at g1
    rw [e2, o2, cellsOfI.2.2] at g2
    obtain ⟨X, hX, _, bX⟩ := DataW.trod_string Tryz.underlying9 g0
    obtain ⟨Y, hY, _, bY⟩ := DataW.trod_string Tryz.underlying9 g1
    obtain ⟨z, hZ, _⟩ := DataW.trod_bool Tryz.underlying4 g2
    simp at hX hY hZ
    subst hX hY hZ
    exact ⟨(X.data.toList, Y.data.toList, z), by simp [cellsI, bsT], ⟨by rw [← Lib.size_eq]; exact bX, by rw [← Lib.size_eq]; exact bY⟩⟩
set_option maxRecDepth 100000 in
theorem one_fired {H : Type} {enc : TypeId × Value → H} {W : World} (fuel : Nat) (cs : List Value) (x : DataW H × List MemPlace) (h : DataW.trod enc Tryz.prog W 0 (fun _ => true) true fuel 74 cs = some x) :
    ∃ p : Fp, cs = cellsF p ∧ FitF p ∧ HoldT W p.2 p.1.2 := by
  obtain ⟨f0, f1, hs, o0, o1, e0, e1⟩ := fieldsF
  obtain ⟨xs, n, _, _, hlen, hxl, hf⟩ := DataW.trod_struct hs h
  rw [cellsOfF.1] at hlen
  match xs, hxl, cs, hlen with
  | [y0, y1], _, [v0, v1], _ =>
    have g0 := hf 0 f0 rfl
    have g1 := hf 1 f1 rfl
    rw [e0, o0, cellsOfF.2.1] at g0
    rw [e1, o1, cellsOfF.2.2] at g1
    obtain ⟨X, hX, _, bX⟩ := DataW.trod_string Tryz.underlying9 g0
    simp at hX
    subst hX
    obtain ⟨ls, h1, h2, h3⟩ := open_paths (V := v1) (by simpa using g1)
    exact ⟨((X.data.toList, ls), v1), by simp [cellsF, bsT], ⟨by rw [← Lib.size_eq]; exact bX, h1, h2⟩, h3⟩
set_option maxRecDepth 100000 in
theorem open_Kinterests {H : Type} {enc : TypeId × Value → H} {W : World} {b0 : Nat} {v : Value} {d : DataW H} {ps : List MemPlace} (hval : Value.okWide Tryz.prog W .any b0 22 v) (hd : DataW.Trod enc Tryz.prog W 0 (fun _ => true) true 22 v d ps) :
    ∃ l : List It, l.length ≤ maxLen ∧ (∀ x ∈ l, FitI x) ∧ HoldI W v l :=
  open_rows Tryz.underlying22 cellsOfI.1 (by omega) cellsI FitI (fun _ => rfl) one_interest hval hd
set_option maxRecDepth 100000 in
theorem open_Kfired {H : Type} {enc : TypeId × Value → H} {W : World} {b0 : Nat} {v : Value} {d : DataW H} {ps : List MemPlace} (hval : Value.okWide Tryz.prog W .any b0 35 v) (hd : DataW.Trod enc Tryz.prog W 0 (fun _ => true) true 35 v d ps) :
    ∃ L : List Fp, L.length ≤ maxLen ∧ (∀ p ∈ L, FitF p) ∧ HoldF W v L := by
  obtain ⟨l, h1, h2, h3⟩ := open_rows (α := Fp) Tryz.underlying35 cellsOfF.1 (by omega) cellsF (fun p => FitF p ∧ HoldT W p.2 p.1.2) (fun _ => rfl) one_fired hval hd
  exact ⟨l, h1, fun p hp => (h2 p hp).1, fun p hp => (h2 p hp).2, h3⟩
end Go.Proofs.YtceohgjfjndcmaaGreatDoor
