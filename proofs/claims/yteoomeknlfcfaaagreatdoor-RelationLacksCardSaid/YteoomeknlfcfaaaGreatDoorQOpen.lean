/-
  The frame of the relations' cards: what the rows list, laid; the lift; the arguments that are relations, opened.
-/
import Derived.Test.YteoomeknlfcfaaaGreatDoorShFrame
import Derived.Test.YteoomeknlfcfaaaGreatDoorQPParse
import Derived.Test.YteoomeknlfcfaaaGreatDoorQHold
import Derived.Lib.SmallJoins
import Derived.Lib.LaidTab
import Derived.Stop.LaidErr
import Derived.Deep.Strs
import Derived.Lay
import Derived.LaidOnce
import Derived.MakeChecks
import Derived.Handed
import Derived.ChangeArms
import Derived.Deep.Slices
namespace Go.Proofs.YteoomeknlfcfaaaGreatDoor
open Go.ChangeShapes Go.WideShapes Go.ChangeAt Go.RowKit
theorem vgTz : Tryz.prog.globalNamed "math/bits.deBruijn64tab" = some 7 := by kernel_rfl
theorem vtPow : (Tryz.prog.globals[5]?).map (·.type) = some 165 := by kernel_rfl
theorem vtSyn : (Tryz.prog.globals[1]?).map (·.type) = some 99 := by kernel_rfl
theorem vtRng : (Tryz.prog.globals[2]?).map (·.type) = some 99 := by kernel_rfl
theorem vc20 : Tryz.prog.cellsOf 165 = 20 := by kernel_rfl
theorem vcU64 : Tryz.prog.cellsOf 110 = 1 := by kernel_rfl
theorem vcStr : Tryz.prog.cellsOf 9 = 1 := by kernel_rfl
theorem vcES : Tryz.prog.cellsOf 152 = 1 := by kernel_rfl
theorem vstarE : "*" ++ "errors.errorString" = "*errors.errorString" := by decide
theorem vrowE (u : TypeId) (h : Tryz.prog.typeName? 3 u = some "*errors.errorString") : u = 150 :=
  typeName_ptr_named (nm := "errors.errorString") (by rw [vstarE]; kernel_rfl) (by kernel_rfl) (by decide) u (by rw [vstarE]; exact h)
theorem block_of_var {P : Program} {w : World} {n : String} {g : Nat} {cs : Array Value} (hg : P.globalNamed n = some g) (h : w.var? P n = some cs) : ∃ t fr, w.heap[g]? = some (.cells cs t fr) := by
  unfold World.var? at h
  simp only [hg, Option.bind_some] at h
  split at h
  · rename_i c t fr hh
    cases h
    exact ⟨t, fr, hh⟩
  · cases h
theorem var_of_head {P : Program} {W : World} {n : String} {d : DataW Unit} {r : List (String × DataW Unit)} (h : laidMet P ((n, d) :: r) W) : ∃ cs, W.var? P n = some cs := by
  obtain ⟨ps, ⟨g', t', cs, fuel, p, q, hg', ht', hvar, hd, _, _⟩, _⟩ := h
  exact ⟨_, hvar⟩
abbrev vlaid : List (String × DataW Unit) := [("math/bits.deBruijn32tab", Rows.laid_math_bits_deBruijn32tab), ("math/bits.deBruijn64tab", Rows.laid_math_bits_deBruijn64tab), ("internal/strconv.uint64pow10", Lib.tabData .u64 Lib.pow10Tab), ("unicode/utf8.acceptRanges", Rows.laid_unicode_utf8_acceptRanges), ("strconv.ErrRange", Rows.laid_strconv_ErrRange), ("strconv.ErrSyntax", Rows.laid_strconv_ErrSyntax), ("unicode/utf8.first", Rows.laid_unicode_utf8_first)]
set_option maxRecDepth 100000 in
theorem laidV_of {W : World} (h : laidMetH Tryz.prog Rows.relationTextsRow.laid W) : LaidV W := by
  have h0 : laidMet Tryz.prog vlaid W := by
    have e : laidMetH Tryz.prog Rows.relationTextsRow.laid W = laidMet Tryz.prog Rows.relationTextsRow.laid W := MakeChecks.laidMetH_plain _ _ _ (by kernel_rfl)
    rw [e] at h
    exact h
  have h1 := laidMet.tail h0
  have h2 := laidMet.tail h1
  have h3 := laidMet.tail h2
  have h4 := laidMet.tail h3
  have h5 := laidMet.tail h4
  refine ⟨Lib.tabIs_of_head gPow vtPow Tryz.underlying165 Tryz.underlying110 vcU64 vc20 h2, ?_, ?_, ?_⟩
  · obtain ⟨a0, s0, hv0, -, -, -⟩ := laid_sentinel h5 gSyn vtSyn Tryz.underlying99 vrowE Tryz.underlying150 Tryz.underlying152 rfl rfl Tryz.underlying9 vcES vcStr
    exact ⟨_, _, hv0⟩
  · obtain ⟨a0, s0, hv0, -, -, -⟩ := laid_sentinel h4 gRng vtRng Tryz.underlying99 vrowE Tryz.underlying150 Tryz.underlying152 rfl rfl Tryz.underlying9 vcES vcStr
    exact ⟨_, _, hv0⟩
  · obtain ⟨cs, hv⟩ := var_of_head h1
    obtain ⟨t, fr, hh⟩ := block_of_var vgTz hv
    have := (Array.getElem?_eq_some_iff.1 hh).1
    omega
theorem maxlen_zero : ((begin Tryz.prog (fun _ _ => 0) default).world.heap[0]?).bind Obj.row? = some (#[.int .i64 0], 3) := by kernel_rfl
theorem laidM_of {w : World} (h : w.ShapedOpen Tryz.prog) : ∃ m, w.cell? ⟨0, 0, none⟩ = some (.int .i64 m) :=
  cell_of_shapedOpen_int h (of_decide_eq_true (by kernel_rfl)) maxlen_zero rfl (by kernel_rfl) (by kernel_rfl) Tryz.underlying3
theorem spotNone {w : World} {a : Addr} {v : Value} (h : w.cell? a = some v) : a.spot = none := by
  unfold World.cell? at h
  split at h
  · split at h
    · cases h
    · rename_i hs; simpa using hs
  · cases h
theorem litAddr {W : World} {a : Addr} {u : Value} (h : W.cell? (a.add 0) = some u) : ∃ b o, a = ⟨b, o, none⟩ ∧ b < W.heap.size := by
  have h2 : W.cell? a = some u := by simpa [Addr.add] using h
  have hs := spotNone h2
  refine ⟨a.block, a.off, by cases a; simp_all, ?_⟩
  unfold World.cell? at h2
  split at h2
  · rename_i hq; exact (Array.getElem?_eq_some_iff.1 hq).1
  · cases h2
-- A slice of structs of one-cell fields, row by row: any struct whose one value opens.
set_option maxRecDepth 100000 in
theorem open_rows {H : Type} {enc : TypeId × Value → H} {P : Program} {W : World} {b0 : Nat} {v : Value} {d : DataW H} {ps : List MemPlace} {α : Type} [Inhabited α] {TS TE : TypeId} {k : Nat} (hS : P.underlying TS = some (.slice TE)) (hk : P.cellsOf TE = k) (h1 : 0 < k) (row : α → Rw) (fit : α → Prop) (hrow : ∀ y, (row y).length = k)
    (one : ∀ fuel cs x, DataW.trod enc P W 0 (fun _ => true) true fuel TE cs = some x → ∃ y : α, cs = row y ∧ fit y)
    (hval : Value.okWide P W .any b0 TS v) (hd : DataW.Trod enc P W 0 (fun _ => true) true TS v d ps) :
    ∃ l : List α, l.length ≤ maxLen ∧ (∀ x ∈ l, fit x) ∧ HoldV k W v (l.map row) := by
  obtain ⟨fuel, hf⟩ := hd
  obtain ⟨a0, n0, c0, rfl⟩ := okWide_slice hS hval
  rcases Deep.open_slice hS hf with ⟨hcs, _⟩ | ⟨a, len, cap, m, n, D, Pl, hcs, _, hl, hm, hmm, _, hx⟩
  · simp only [Value.cells, List.cons.injEq, and_true] at hcs
    rw [hcs]
    exact ⟨[], Nat.zero_le _, (fun x hx => by simp at hx), HoldV.nil k W⟩
  · simp only [Value.cells, List.cons.injEq, and_true] at hcs
    rw [hcs]
    simp only [if_true] at hmm
    subst hmm
    rw [hk] at hx
    have each : ∀ i, i < m → ∃ y : α, (∀ (j : Nat) u, (row y)[j]? = some u → W.cell? (a.add (i * k + j)) = some u) ∧ fit y := fun i hi => by
      obtain ⟨cs', g1, g2⟩ := hx i hi
      obtain ⟨_, _, hcell⟩ := World.cells?_some g1
      obtain ⟨y, rfl, hy⟩ := one _ _ _ g2
      refine ⟨y, fun j u hj => ?_, hy⟩
      have hjk : j < k := by have := (List.getElem?_eq_some_iff.1 hj).1; rw [hrow] at this; exact this
      have g0 := hcell j hjk
      rw [Deep.add_add] at g0
      rw [g0]; simpa using hj
    rcases Nat.eq_zero_or_pos len with h0 | h0
    · subst h0
      exact ⟨[], Nat.zero_le _, (fun x hx => by simp at hx), ⟨some a, m, 0, 0, rfl, Nat.zero_le _, (fun h => absurd h (by simp)), (fun j l hj => by simp at hj)⟩⟩
    · obtain ⟨y0, q0, _⟩ := each 0 (by omega)
      obtain ⟨u0, hu0⟩ : ∃ u, (row y0)[0]? = some u := ⟨_, List.getElem?_eq_getElem (by rw [hrow]; exact h1)⟩
      have q1 := q0 0 u0 hu0
      rw [Nat.zero_mul] at q1
      obtain ⟨b, o, rfl, hb⟩ := litAddr q1
      simp only [Addr.add_lit] at each
      obtain ⟨fx, hfx⟩ : ∃ fx : Nat → α, ∀ i, i < m → (∀ (j : Nat) u, (row (fx i))[j]? = some u → W.cell? ⟨b, o + (i * k + j), none⟩ = some u) ∧ fit (fx i) := by
        refine ⟨fun i => if hi : i < m then (each i hi).choose else default, fun i hi => ?_⟩
        simp only [dif_pos hi]
        exact (each i hi).choose_spec
      refine ⟨(List.range len).map fx, by simp; omega, fun x hx => ?_, some ⟨b, o, none⟩, m, b, o, by simp, by simpa using hl, fun _ => ⟨rfl, hb⟩, fun j r hj i y hi hy => ?_⟩
      · obtain ⟨i, hi, rfl⟩ := List.mem_map.1 hx
        exact (hfx i (by have := List.mem_range.1 hi; omega)).2
      · have hjl : j < len := by have := (List.getElem?_eq_some_iff.1 hj).1; simpa using this
        rw [List.getElem?_map, List.getElem?_map, List.getElem?_range hjl] at hj
        simp only [Option.map_some, Option.some.injEq] at hj
        subst hj
        rw [Nat.add_assoc]
        exact (hfx j (by omega)).1 i y hy
theorem laidQ_of {W : World} (h : W.ShapedOpen Tryz.prog) (hl : laidMetH Tryz.prog Rows.relationTextsRow.laid W) : LaidQ W := ⟨laidV_of hl, laidM_of h⟩
section
variable {H : Type} {enc : TypeId × Value → H}
set_option maxRecDepth 100000 in
theorem lift_both {os : Os} {f : FuncId} {fn : Func} {s : ChangeSpec} {laid : List (String × DataW Unit)} (started : os.Started) (noInit : Tryz.checked.prog.inits.idxOf? f = none) (hfn : Tryz.checked.prog.funcs[f]? = some fn)
    (hplain : (laid.all fun x => x.2.handleName?.isNone) = true)
    (witness : ∃ (w : World) (tape : Tape) (i : Input), w.os = os ∧ (w.forCall tape i).Shaped Tryz.checked.prog ∧ i.vars = [] ∧ Input.okWide Tryz.checked.prog (w.forCall tape i) .any w.heap.size f i ∧
      ((s.pre enc Tryz.checked.prog fn [] false (w.forCall tape i).memory i.args ∧ laidMetH Tryz.checked.prog laid (w.forCall tape i).memory) ∧ sizedMet enc Tryz.checked.prog fn (OpenSpec.ofChange s) false (w.forCall tape i).memory i.args) ∧ ({} : Assume).holds Tryz.checked.prog (lone (Frame.enter Tryz.checked.prog f i.args .normal) [] (w.forCall tape i)))
    (contract : ∀ (W : World) (base : Nat) (args : Array Value) (ds gs : List (DataW H)) (before : List MemPlace),
      (∀ (j : Nat) t v, fn.params[j]? = some t → args[j]? = some v → Value.okWide Tryz.checked.prog W .any base t v) →
      DataW.Whole enc Tryz.checked.prog fn.params.toList s.vars false W args.toList ds gs before → W.ShapedOpen Tryz.checked.prog → laidMetH Tryz.checked.prog laid W →
      Calls Tryz.checked.prog f args W fun e W' => ∃ v, e = .returned v ∧ s.post enc Tryz.checked.prog fn false true false false W args v W') :
    ReturnsInHanded {} Tryz.checked os f .any (fun w args => (s.pre enc Tryz.checked.prog fn [] false w args ∧ laidMetH Tryz.checked.prog laid w) ∧ sizedMet enc Tryz.checked.prog fn (OpenSpec.ofChange s) false w args) (s.post enc Tryz.checked.prog fn false true false false) := by
  refine returnsInHanded_of_calls own started noInit witness fun w tape i _ hsh _ hok hpre _ => ?_
  obtain ⟨_, _, _, g, hg, _, _, _, _, hval⟩ := hok
  obtain rfl : g = fn := Option.some.inj (hg.symm.trans hfn)
  obtain ⟨⟨⟨ds, gs, before, hw, _⟩, hl⟩, _⟩ := hpre
  have hl' : laidMetH Tryz.checked.prog laid (w.forCall tape i) := by
    rw [MakeChecks.laidMetH_plain _ _ _ hplain] at hl ⊢
    exact hl.of_heap (by rfl)
  refine (contract (w.forCall tape i) w.heap.size i.args ds gs before hval (DataW.Whole.of_heap (w' := w.forCall tape i) (by rfl) hw) hsh hl').mono fun e W' ⟨v, he, hp⟩ => ?_
  subst he
  exact ChangeSpec.post_blind hp
end
abbrev FitQ (x : Rl) : Prop := x.1.length ≤ maxLen ∧ x.2.1.length ≤ maxLen ∧ x.2.2.length ≤ maxLen
theorem fieldsQ : ∃ f0 f1 f2 : Field, Tryz.prog.underlying 23 = some (.struct #[f0, f1, f2]) ∧ f0.offset = 0 ∧ f1.offset = 1 ∧ f2.offset = 2 ∧ f0.type = 9 ∧ f1.type = 9 ∧ f2.type = 9 := ⟨_, _, _, Tryz.underlying23, rfl, rfl, rfl, rfl, rfl, rfl⟩
theorem cellsOfQ : Tryz.prog.cellsOf 23 = 3 ∧ Tryz.prog.cellsOf 9 = 1 := ⟨by kernel_rfl, by kernel_rfl⟩
set_option maxRecDepth 100000 in
theorem one_rel {H : Type} {enc : TypeId × Value → H} {W : World} (fuel : Nat) (cs : List Value) (x : DataW H × List MemPlace) (h : DataW.trod enc Tryz.prog W 0 (fun _ => true) true fuel 23 cs = some x) :
    ∃ y : Rl, cs = cellsQ y ∧ FitQ y := by
  obtain ⟨f0, f1, f2, hs, o0, o1, o2, e0, e1, e2⟩ := fieldsQ
  obtain ⟨xs, n, _, _, hlen, hxl, hf⟩ := DataW.trod_struct hs h
  rw [cellsOfQ.1] at hlen
  match xs, hxl, cs, hlen with
  | [y0, y1, y2], _, [v0, v1, v2], _ =>
    have g0 := hf 0 f0 rfl
    have g1 := hf 1 f1 rfl
    have g2 := hf 2 f2 rfl
    rw [e0, o0, cellsOfQ.2] at g0
    rw [e1, o1, cellsOfQ.2] at g1
    rw [e2, o2, cellsOfQ.2] at g2
    obtain ⟨X, hX, _, bX⟩ := DataW.trod_string Tryz.underlying9 g0
    obtain ⟨Y, hY, _, bY⟩ := DataW.trod_string Tryz.underlying9 g1
    obtain ⟨Z, hZ, _, bZ⟩ := DataW.trod_string Tryz.underlying9 g2
    simp at hX hY hZ
    subst hX hY hZ
    exact ⟨(X.data.toList, Y.data.toList, Z.data.toList), by simp [cellsQ, bsT], ⟨by rw [← Lib.size_eq]; exact bX, by rw [← Lib.size_eq]; exact bY, by rw [← Lib.size_eq]; exact bZ⟩⟩
set_option maxRecDepth 100000 in
theorem open_Krel {H : Type} {enc : TypeId × Value → H} {W : World} {b0 : Nat} {v : Value} {d : DataW H} {ps : List MemPlace} (hval : Value.okWide Tryz.prog W .any b0 23 v) (hd : DataW.Trod enc Tryz.prog W 0 (fun _ => true) true 23 v d ps) :
    ∃ P Q Z : ByteArray, v = .agg #[.string P, .string Q, .string Z] := by
  obtain ⟨f0, f1, f2, hs, -⟩ := fieldsQ
  obtain ⟨cs, rfl, hsz⟩ := okWide_struct hs hval
  obtain ⟨fuel, hf⟩ := hd
  obtain ⟨y, hy, hfit⟩ := one_rel fuel cs.toList _ hf
  exact ⟨bsT y.1, bsT y.2.1, bsT y.2.2, by congr 1; apply Array.ext'; rw [hy]⟩
end Go.Proofs.YteoomeknlfcfaaaGreatDoor
