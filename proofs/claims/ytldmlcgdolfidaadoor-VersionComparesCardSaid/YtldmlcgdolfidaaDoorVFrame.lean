/-
  The frame of the version seat's cards: what the rows list gives what the walks ask of the program's variables; the lift; the arguments: a version, a list of texts.
-/
import Derived.Test.YtldmlcgdolfidaaDoorFrame
import Derived.Test.YtldmlcgdolfidaaDoorVAwake
import Derived.Test.YtldmlcgdolfidaaDoorLList
import Derived.Lib.LaidTab
import Derived.Stop.LaidErr
import Derived.Deep.Strs
import Derived.Lay
import Derived.LaidOnce
import Derived.MakeChecks
import Derived.Handed
namespace Go.Proofs.YtldmlcgdolfidaaDoor
open Go.ChangeShapes Go.WideShapes Go.ChangeAt Go.RowKit
theorem vgTz : Tryd.prog.globalNamed "math/bits.deBruijn64tab" = some 7 := by kernel_rfl
theorem vtPow : (Tryd.prog.globals[5]?).map (·.type) = some 106 := by kernel_rfl
theorem vtSyn : (Tryd.prog.globals[1]?).map (·.type) = some 56 := by kernel_rfl
theorem vtRng : (Tryd.prog.globals[2]?).map (·.type) = some 56 := by kernel_rfl
theorem vc20 : Tryd.prog.cellsOf 106 = 20 := by kernel_rfl
theorem vcU64 : Tryd.prog.cellsOf 54 = 1 := by kernel_rfl
theorem vcStr : Tryd.prog.cellsOf 9 = 1 := by kernel_rfl
theorem vcES : Tryd.prog.cellsOf 104 = 1 := by kernel_rfl
theorem vstarE : "*" ++ "errors.errorString" = "*errors.errorString" := by decide
theorem vrowE (u : TypeId) (h : Tryd.prog.typeName? 3 u = some "*errors.errorString") : u = 102 :=
  typeName_ptr_named (nm := "errors.errorString") (by rw [vstarE]; kernel_rfl) (by kernel_rfl) (by decide) u (by rw [vstarE]; exact h)
theorem block_of_var {P : Program} {w : World} {n : String} {g : Nat} {cs : Array Value} (hg : P.globalNamed n = some g) (h : w.var? P n = some cs) : ∃ t fr, w.heap[g]? = some (.cells cs t fr) := by
  unfold World.var? at h
  simp only [hg, Option.bind_some] at h
  split at h
  · rename_i c t fr hh
    cases h
    exact ⟨t, fr, hh⟩
  · cases h
theorem var_of_head {P : Program} {W : World} {n : String} {d : DataW Unit} {r : List (String × DataW Unit)} (h : laidMet P ((n, d) :: r) W) : ∃ cs, W.var? P n = some cs := by
  obtain ⟨ps, ⟨g', t', cs, fuel, p, q, hg', ht', hvar, hd, _, _⟩, _⟩ := h
  exact ⟨_, hvar⟩
abbrev vlaid : List (String × DataW Unit) := [("math/bits.deBruijn32tab", Rows.laid_math_bits_deBruijn32tab), ("math/bits.deBruijn64tab", Rows.laid_math_bits_deBruijn64tab), ("internal/strconv.uint64pow10", Lib.tabData .u64 Lib.pow10Tab), ("unicode/utf8.acceptRanges", Rows.laid_unicode_utf8_acceptRanges), ("strconv.ErrRange", Rows.laid_strconv_ErrRange), ("strconv.ErrSyntax", Rows.laid_strconv_ErrSyntax), ("unicode/utf8.first", Rows.laid_unicode_utf8_first)]
set_option maxRecDepth 100000 in
theorem laidV_of {W : World} (h : laidMetH Tryd.prog Rows.versionParsesRow.laid W) : LaidV W := by
  have h0 : laidMet Tryd.prog vlaid W := by
    have e : laidMetH Tryd.prog Rows.versionParsesRow.laid W = laidMet Tryd.prog Rows.versionParsesRow.laid W := MakeChecks.laidMetH_plain _ _ _ (by kernel_rfl)
    rw [e] at h
    exact h
  have h1 := laidMet.tail h0
  have h2 := laidMet.tail h1
  have h3 := laidMet.tail h2
  have h4 := laidMet.tail h3
  have h5 := laidMet.tail h4
  refine ⟨Lib.tabIs_of_head gPow vtPow Tryd.underlying106 Tryd.underlying54 vcU64 vc20 h2, ?_, ?_, ?_⟩
  · obtain ⟨a0, s0, hv0, -, -, -⟩ := laid_sentinel h5 gSyn vtSyn Tryd.underlying56 vrowE Tryd.underlying102 Tryd.underlying104 rfl rfl Tryd.underlying9 vcES vcStr
    exact ⟨_, _, hv0⟩
  · obtain ⟨a0, s0, hv0, -, -, -⟩ := laid_sentinel h4 gRng vtRng Tryd.underlying56 vrowE Tryd.underlying102 Tryd.underlying104 rfl rfl Tryd.underlying9 vcES vcStr
    exact ⟨_, _, hv0⟩
  · obtain ⟨cs, hv⟩ := var_of_head h1
    obtain ⟨t, fr, hh⟩ := block_of_var vgTz hv
    have := (Array.getElem?_eq_some_iff.1 hh).1
    omega
section
variable {H : Type} {enc : TypeId × Value → H}
set_option maxRecDepth 100000 in
theorem lift_laid {os : Os} {f : FuncId} {fn : Func} {s : ChangeSpec} {laid : List (String × DataW Unit)} (started : os.Started) (noInit : Tryd.checked.prog.inits.idxOf? f = none) (hfn : Tryd.checked.prog.funcs[f]? = some fn)
    (hplain : (laid.all fun x => x.2.handleName?.isNone) = true)
    (witness : ∃ (w : World) (tape : Tape) (i : Input), w.os = os ∧ (w.forCall tape i).Shaped Tryd.checked.prog ∧ i.vars = [] ∧ Input.okWide Tryd.checked.prog (w.forCall tape i) .any w.heap.size f i ∧
      ((s.pre enc Tryd.checked.prog fn [] false (w.forCall tape i).memory i.args ∧ laidMetH Tryd.checked.prog laid (w.forCall tape i).memory) ∧ sizedMet enc Tryd.checked.prog fn (OpenSpec.ofChange s) false (w.forCall tape i).memory i.args) ∧ ({} : Assume).holds Tryd.checked.prog (lone (Frame.enter Tryd.checked.prog f i.args .normal) [] (w.forCall tape i)))
    (contract : ∀ (W : World) (base : Nat) (args : Array Value) (ds gs : List (DataW H)) (before : List MemPlace),
      (∀ (j : Nat) t v, fn.params[j]? = some t → args[j]? = some v → Value.okWide Tryd.checked.prog W .any base t v) →
      DataW.Whole enc Tryd.checked.prog fn.params.toList s.vars false W args.toList ds gs before → laidMetH Tryd.checked.prog laid W →
      Calls Tryd.checked.prog f args W fun e W' => ∃ v, e = .returned v ∧ s.post enc Tryd.checked.prog fn false true false false W args v W') :
    ReturnsInHanded {} Tryd.checked os f .any (fun w args => (s.pre enc Tryd.checked.prog fn [] false w args ∧ laidMetH Tryd.checked.prog laid w) ∧ sizedMet enc Tryd.checked.prog fn (OpenSpec.ofChange s) false w args) (s.post enc Tryd.checked.prog fn false true false false) := by
  refine returnsInHanded_of_calls own started noInit witness fun w tape i _ _ _ hok hpre _ => ?_
  obtain ⟨_, _, _, g, hg, _, _, _, _, hval⟩ := hok
  obtain rfl : g = fn := Option.some.inj (hg.symm.trans hfn)
  obtain ⟨⟨⟨ds, gs, before, hw, _⟩, hl⟩, _⟩ := hpre
  have hl' : laidMetH Tryd.checked.prog laid (w.forCall tape i) := by
    rw [MakeChecks.laidMetH_plain _ _ _ hplain] at hl ⊢
    exact hl.of_heap (by rfl)
  refine (contract (w.forCall tape i) w.heap.size i.args ds gs before hval (DataW.Whole.of_heap (w' := w.forCall tape i) (by rfl) hw) hl').mono fun e W' ⟨v, he, hp⟩ => ?_
  subst he
  exact ChangeSpec.post_blind hp
end
theorem verF : ∃ f0 f1 f2 : Field, Tryd.prog.underlying 24 = some (.struct #[f0, f1, f2]) ∧ Deep.oneCellFields Tryd.prog #[f0, f1, f2] = true ∧ f0.type = 3 ∧ f1.type = 9 ∧ f2.type = 9 := ⟨_, _, _, Tryd.underlying24, by kernel_rfl, rfl, rfl, rfl⟩
theorem verC : Tryd.prog.cellsOf 24 = 3 := by kernel_rfl
set_option maxRecDepth 100000 in
theorem open_Kver {H : Type} {enc : TypeId × Value → H} {W : World} {b0 : Nat} {v : Value} {d : DataW H} {ps : List MemPlace} (hval : Value.okWide Tryd.prog W .any b0 24 v) (hd : DataW.Trod enc Tryd.prog W 0 (fun _ => true) true 24 v d ps) :
    ∃ x : Int × ByteArray × ByteArray, v = .agg #[.int .i64 x.1, .string x.2.1, .string x.2.2] ∧ (-9223372036854775808 ≤ x.1 ∧ x.1 ≤ 9223372036854775807) ∧ x.2.1.size ≤ 9223372036854775807 ∧ x.2.2.size ≤ 9223372036854775807 := by
  obtain ⟨f0, f1, f2, hs, hone, e0, e1, e2⟩ := verF
  obtain ⟨c0, c1, c2, y0, y1, y2, n, rfl, _, _, h0, h1, h2⟩ := Joins.open_agg3 hs hone verC hval hd
  rw [e0] at h0
  rw [e1] at h1
  rw [e2] at h2
  obtain ⟨a, g0, _, w0⟩ := DataW.trod_int Tryd.underlying3 h0
  obtain ⟨b, g1, _, w1⟩ := DataW.trod_string Tryd.underlying9 h1
  obtain ⟨c, g2, _, w2⟩ := DataW.trod_string Tryd.underlying9 h2
  simp only [List.cons.injEq, and_true] at g0 g1 g2
  subst g0 g1 g2
  unfold maxLen at w1 w2
  exact ⟨(a, b, c), rfl, bounds_i64 w0, by show b.size ≤ _; omega, by show c.size ≤ _; omega⟩
theorem str_cells : Tryd.prog.cellsOf 9 = 1 := by kernel_rfl
theorem spot_none {w : World} {a : Addr} {v : Value} (h : w.cell? a = some v) : a.spot = none := by
  unfold World.cell? at h
  split at h
  · split at h
    · cases h
    · rename_i hs; simpa using hs
  · cases h
set_option maxRecDepth 100000 in
theorem open_Kstrs {H : Type} {enc : TypeId × Value → H} {W : World} {b0 : Nat} {v : Value} {d : DataW H} {ps : List MemPlace} (hval : Value.okWide Tryd.prog W .any b0 36 v) (hd : DataW.Trod enc Tryd.prog W 0 (fun _ => true) true 36 v d ps) :
    ∃ ls : List Bs, ls.length ≤ 9223372036854775807 ∧ (∀ x ∈ ls, x.length ≤ 9223372036854775807) ∧ HoldT W v ls := by
  obtain ⟨fuel, hf⟩ := hd
  obtain ⟨a0, n0, c0, rfl⟩ := okWide_slice Tryd.underlying36 hval
  rcases Deep.open_strs Tryd.underlying36 Tryd.underlying9 str_cells hf with ⟨hcs, _⟩ | ⟨a, n, c, m, Sx, hcs, _, hl, hm, hmm, _, hcell⟩
  · simp only [Value.cells, List.cons.injEq, and_true] at hcs
    rw [show (Value.slice a0 n0 c0) = .slice none 0 0 by simpa [Value.cells] using hcs]
    exact ⟨[], by simp, (fun x h => by cases h), ⟨none, 0, 0, 0, rfl, Nat.le_refl _, (fun h => absurd h (by simp)), (fun j l hj => by cases hj)⟩⟩
  · rw [show (Value.slice a0 n0 c0) = .slice (some a) n c by simpa [Value.cells] using hcs]
    simp only [if_true] at hmm
    subst hmm
    unfold maxLen at hm
    have hlen : ((List.range n).map fun i => (Sx i).data.toList).length = n := by simp
    refine ⟨(List.range n).map fun i => (Sx i).data.toList, by rw [hlen]; omega, fun x hx => ?_, ⟨some a, m, a.block, a.off, by rw [hlen], by rw [hlen]; exact hl, fun h0 => ?_, fun j l hj => ?_⟩⟩
    · obtain ⟨i, hi, rfl⟩ := List.mem_map.1 hx
      have := (hcell i (by have := List.mem_range.1 hi; omega)).2
      unfold maxLen at this
      rw [← Lib.size_eq]; omega
    · rw [hlen] at h0
      have h1 := (hcell 0 (by omega)).1
      simp only [Addr.add] at h1
      have hsp := spot_none (by simpa using h1)
      refine ⟨by cases a; simp_all, ?_⟩
      have h2 : W.cell? a = some (.string (Sx 0)) := by simpa using h1
      unfold World.cell? at h2
      split at h2
      · rename_i hq; exact (Array.getElem?_eq_some_iff.1 hq).1
      · cases h2
    · have hjl := (List.getElem?_eq_some_iff.1 hj).1
      rw [hlen] at hjl
      rw [List.getElem?_map, List.getElem?_range hjl] at hj
      obtain rfl := Option.some.inj hj
      have h1 := (hcell j (by omega)).1
      have h0 := (hcell 0 (by omega)).1
      have hsp : a.spot = none := spot_none (by simpa [Addr.add] using h0)
      have ea : a = ⟨a.block, a.off, none⟩ := by cases a; simp_all
      rw [ea] at h1
      by_cases hj0 : j = 0
      · subst hj0; simpa [Addr.add] using h1
      · simpa [Addr.add, hj0] using h1
end Go.Proofs.YtldmlcgdolfidaaDoor
