/-
  The frame of PackActs' card: what the row lists, laid.
-/
import Derived.Test.YtolpcnhgmmnmcaaGreatDoorShFrame
import Derived.Test.YtolpcnhgmmnmcaaGreatDoorKFew
import Derived.Test.YtolpcnhgmmnmcaaGreatDoorKAwake
import Derived.FnData
import Derived.Lib.SmallJoins
import Derived.Lib.LaidTab
import Derived.Stop.LaidErr
import Derived.Deep.Strs
import Derived.Lay
import Derived.LaidOnce
import Derived.MakeChecks
import Derived.Handed
import Derived.ChangeArms
import Derived.Deep.Slices
namespace Go.Proofs.YtolpcnhgmmnmcaaGreatDoor
open Go.ChangeShapes Go.WideShapes Go.ChangeAt Go.RowKit
theorem vgTz : Tryz.prog.globalNamed "math/bits.deBruijn64tab" = some 8 := by kernel_rfl
theorem vtPow : (Tryz.prog.globals[6]?).map (·.type) = some 193 := by kernel_rfl
theorem vtSyn : (Tryz.prog.globals[2]?).map (·.type) = some 115 := by kernel_rfl
theorem vtRng : (Tryz.prog.globals[3]?).map (·.type) = some 115 := by kernel_rfl
theorem veN : Tryz.prog.globalNamed "cellarer/pack.endings" = some 0 := by kernel_rfl
theorem veT : (Tryz.prog.globals[0]?).map (·.type) = some 86 := by kernel_rfl
theorem vc3 : Tryz.prog.cellsOf 86 = 3 := by kernel_rfl
theorem vc20 : Tryz.prog.cellsOf 193 = 20 := by kernel_rfl
theorem vcU64 : Tryz.prog.cellsOf 113 = 1 := by kernel_rfl
theorem vcStr : Tryz.prog.cellsOf 9 = 1 := by kernel_rfl
theorem vcES : Tryz.prog.cellsOf 182 = 1 := by kernel_rfl
theorem vstarE : "*" ++ "errors.errorString" = "*errors.errorString" := by decide
theorem vrowE (u : TypeId) (h : Tryz.prog.typeName? 3 u = some "*errors.errorString") : u = 180 :=
  typeName_ptr_named (nm := "errors.errorString") (by rw [vstarE]; kernel_rfl) (by kernel_rfl) (by decide) u (by rw [vstarE]; exact h)
theorem block_of_var {P : Program} {w : World} {n : String} {g : Nat} {cs : Array Value} (hg : P.globalNamed n = some g) (h : w.var? P n = some cs) : ∃ t fr, w.heap[g]? = some (.cells cs t fr) := by
  unfold World.var? at h
  simp only [hg, Option.bind_some] at h
  split at h
  · rename_i c t fr hh
    cases h
    exact ⟨t, fr, hh⟩
  · cases h
theorem var_of_head {P : Program} {W : World} {n : String} {d : DataW Unit} {r : List (String × DataW Unit)} (h : laidMet P ((n, d) :: r) W) : ∃ cs, W.var? P n = some cs := by
  obtain ⟨ps, ⟨g', t', cs, fuel, p, q, hg', ht', hvar, hd, _, _⟩, _⟩ := h
  exact ⟨_, hvar⟩
/-- AN ARRAY OF STRINGS THAT READS AS LISTED HOLDS THE STRINGS, CELL FOR CELL. -/
theorem cells_of_strs {H : Type} {enc : TypeId × Value → H} {P : Program} {w : World} {base : Nat} {sp : Nat → Bool} {held : Bool} {fuel : Nat} {t e : TypeId} {n : Nat} {cs : List Value} {zs : List (List UInt8)} {p : List MemPlace}
    (ht : P.underlying t = some (.array n e)) (he : P.underlying e = some .string) (hce : P.cellsOf e = 1) (hct : P.cellsOf t = n)
    (h : DataW.trod enc P w base sp held fuel t cs = some (.agg (zs.map fun z => .lit (.string z)), p)) : cs = zs.map fun z => Value.string ⟨z.toArray⟩ := by
  cases fuel with
  | zero => simp [DataW.trod] at h
  | succ fuel =>
    simp only [DataW.trod, ht, hce, hct, Nat.mul_one] at h
    split at h
    · rename_i hl
      obtain ⟨xs, hm, hx⟩ := Option.map_eq_some_iff.1 h
      have hxs : xs.map (·.1) = zs.map fun z => (DataW.lit (.string z) : DataW H) := by
        have := congrArg Prod.fst hx
        simpa using this
      have hxl : xs.length = n := by simpa using Lib.mapM_length hm
      have hzl : zs.length = n := by
        have := congrArg List.length hxs
        simp at this
        omega
      apply List.ext_getElem?
      intro i
      by_cases hi : i < n
      · obtain ⟨b, hb, hf⟩ := Lib.mapM_at hm i i (by simp [hi])
        obtain ⟨z, hc, rfl, _⟩ := DataW.trod_string he hf
        have h1 : cs[i]? = some (.string z) := by
          have := congrArg (·[0]?) hc
          simpa [List.getElem?_take, List.getElem?_drop] using this
        have h2 : (xs.map (·.1))[i]? = some (DataW.lit (.string z.data.toList) : DataW H) := by simp [hb]
        rw [hxs] at h2
        simp only [List.getElem?_map, Option.map_eq_some_iff, DataW.lit.injEq, Lit.string.injEq] at h2
        obtain ⟨z', hz', hz''⟩ := h2
        have e : (ByteArray.mk z'.toArray) = z := by
          apply ByteArray.ext
          simp [hz'']
        simp [h1, hz', e]
      · rw [List.getElem?_eq_none (by omega), List.getElem?_eq_none (by simp; omega)]
    · cases h
theorem strs_of_head {P : Program} {W : World} {name : String} {zs : List (List UInt8)} {rest : List (String × DataW Unit)} {g : Nat} {t e : TypeId} {n : Nat}
    (hg : P.globalNamed name = some g) (hty : (P.globals[g]?).map (·.type) = some t) (ht : P.underlying t = some (.array n e)) (he : P.underlying e = some .string) (hce : P.cellsOf e = 1) (hct : P.cellsOf t = n)
    (h : laidMet P ((name, .agg (zs.map fun z => .lit (.string z))) :: rest) W) : W.var? P name = some (zs.map fun z => Value.string ⟨z.toArray⟩).toArray := by
  obtain ⟨ps, ⟨g', t', cs, fuel, p, q, hg', ht', hvar, hd, _, _⟩, _⟩ := h
  obtain rfl := Option.some.inj (hg.symm.trans hg')
  obtain rfl := Option.some.inj (hty.symm.trans ht')
  rw [hvar, ← cells_of_strs ht he hce hct hd]

abbrev vlaid : List (String × DataW Unit) := [("math/bits.deBruijn32tab", Rows.laid_math_bits_deBruijn32tab), ("math/bits.deBruijn64tab", Rows.laid_math_bits_deBruijn64tab), ("internal/strconv.uint64pow10", Lib.tabData .u64 Lib.pow10Tab), ("unicode/utf8.acceptRanges", Rows.laid_unicode_utf8_acceptRanges), ("strconv.ErrRange", Rows.laid_strconv_ErrRange), ("strconv.ErrSyntax", Rows.laid_strconv_ErrSyntax), ("cellarer/pack.endings", .agg ([newK, tmpK, disK].map fun z => .lit (.string z))), ("unicode/utf8.first", Rows.laid_unicode_utf8_first)]
set_option maxRecDepth 100000 in
theorem laidR_of {W : World} (h : laidMetH Tryz.prog Rows.packActsRow.laid W) : LaidR W := by
  have h0 : laidMet Tryz.prog vlaid W := by
    have e : laidMetH Tryz.prog Rows.packActsRow.laid W = laidMet Tryz.prog Rows.packActsRow.laid W := MakeChecks.laidMetH_plain _ _ _ (by kernel_rfl)
    rw [e] at h
    exact h
  have h1 := laidMet.tail h0
  have h2 := laidMet.tail h1
  have h3 := laidMet.tail h2
  have h4 := laidMet.tail h3
  have h5 := laidMet.tail h4
  have h6 := laidMet.tail h5
  have he := strs_of_head veN veT Tryz.underlying86 Tryz.underlying9 vcStr vc3 h6
  refine ⟨⟨(World.var?_cell veN he 0).trans rfl, (World.var?_cell veN he 1).trans rfl, (World.var?_cell veN he 2).trans rfl⟩, ?_⟩
  refine ⟨Lib.tabIs_of_head gPow vtPow Tryz.underlying193 Tryz.underlying113 vcU64 vc20 h2, ?_, ?_, ?_⟩
  · obtain ⟨a0, s0, hv0, -, -, -⟩ := laid_sentinel h5 gSyn vtSyn Tryz.underlying115 vrowE Tryz.underlying180 Tryz.underlying182 rfl rfl Tryz.underlying9 vcES vcStr
    exact ⟨_, _, hv0⟩
  · obtain ⟨a0, s0, hv0, -, -, -⟩ := laid_sentinel h4 gRng vtRng Tryz.underlying115 vrowE Tryz.underlying180 Tryz.underlying182 rfl rfl Tryz.underlying9 vcES vcStr
    exact ⟨_, _, hv0⟩
  · obtain ⟨cs, hv⟩ := var_of_head h1
    obtain ⟨t, fr, hh⟩ := block_of_var vgTz hv
    have := (Array.getElem?_eq_some_iff.1 hh).1
    omega
section
variable {H : Type} {enc : TypeId × Value → H}
set_option maxRecDepth 100000 in
theorem lift_both {os : Os} {f : FuncId} {fn : Func} {s : ChangeSpec} {laid : List (String × DataW Unit)} (started : os.Started) (noInit : Tryz.checked.prog.inits.idxOf? f = none) (hfn : Tryz.checked.prog.funcs[f]? = some fn)
    (hplain : (laid.all fun x => x.2.handleName?.isNone) = true)
    (witness : ∃ (w : World) (tape : Tape) (i : Input), w.os = os ∧ (w.forCall tape i).Shaped Tryz.checked.prog ∧ i.vars = [] ∧ Input.okWide Tryz.checked.prog (w.forCall tape i) .any w.heap.size f i ∧
      ((s.pre enc Tryz.checked.prog fn [] false (w.forCall tape i).memory i.args ∧ laidMetH Tryz.checked.prog laid (w.forCall tape i).memory) ∧ sizedMet enc Tryz.checked.prog fn (OpenSpec.ofChange s) false (w.forCall tape i).memory i.args) ∧ ({} : Assume).holds Tryz.checked.prog (lone (Frame.enter Tryz.checked.prog f i.args .normal) [] (w.forCall tape i)))
    (contract : ∀ (W : World) (base : Nat) (args : Array Value) (ds gs : List (DataW H)) (before : List MemPlace),
      (∀ (j : Nat) t v, fn.params[j]? = some t → args[j]? = some v → Value.okWide Tryz.checked.prog W .any base t v) →
      DataW.Whole enc Tryz.checked.prog fn.params.toList s.vars false W args.toList ds gs before → W.ShapedOpen Tryz.checked.prog → laidMetH Tryz.checked.prog laid W →
      Calls Tryz.checked.prog f args W fun e W' => ∃ v, e = .returned v ∧ s.post enc Tryz.checked.prog fn false true false false W args v W') :
    ReturnsInHanded {} Tryz.checked os f .any (fun w args => (s.pre enc Tryz.checked.prog fn [] false w args ∧ laidMetH Tryz.checked.prog laid w) ∧ sizedMet enc Tryz.checked.prog fn (OpenSpec.ofChange s) false w args) (s.post enc Tryz.checked.prog fn false true false false) := by
  refine returnsInHanded_of_calls own started noInit witness fun w tape i _ hsh _ hok hpre _ => ?_
  obtain ⟨_, _, _, g, hg, _, _, _, _, hval⟩ := hok
  obtain rfl : g = fn := Option.some.inj (hg.symm.trans hfn)
  obtain ⟨⟨⟨ds, gs, before, hw, _⟩, hl⟩, _⟩ := hpre
  have hl' : laidMetH Tryz.checked.prog laid (w.forCall tape i) := by
    rw [MakeChecks.laidMetH_plain _ _ _ hplain] at hl ⊢
    exact hl.of_heap (by rfl)
  refine (contract (w.forCall tape i) w.heap.size i.args ds gs before hval (DataW.Whole.of_heap (w' := w.forCall tape i) (by rfl) hw) hsh hl').mono fun e W' ⟨v, he, hp⟩ => ?_
  subst he
  exact ChangeSpec.post_blind hp
end
theorem maxlen_zero : ((begin Tryz.prog (fun _ _ => 0) default).world.heap[1]?).bind Obj.row? = some (#[.int .i64 0], 3) := by kernel_rfl
theorem laidQ_of {w : World} (h : w.ShapedOpen Tryz.prog) (hl : laidMetH Tryz.prog Rows.packActsRow.laid w) : LaidQ w :=
  ⟨laidR_of hl, ⟨cell_of_shapedOpen_int h (of_decide_eq_true (by kernel_rfl)) maxlen_zero rfl (by kernel_rfl) (by kernel_rfl) Tryz.underlying3, Nat.lt_of_lt_of_le (by decide) (laidR_of hl).v.size⟩⟩
theorem spotNone {w : World} {a : Addr} {v : Value} (h : w.cell? a = some v) : a.spot = none := by
  unfold World.cell? at h
  split at h
  · split at h
    · cases h
    · rename_i hs; simpa using hs
  · cases h
theorem litAddr {W : World} {a : Addr} {u : Value} (h : W.cell? (a.add 0) = some u) : ∃ b o, a = ⟨b, o, none⟩ ∧ b < W.heap.size := by
  have h2 : W.cell? a = some u := by simpa [Addr.add] using h
  have hs := spotNone h2
  refine ⟨a.block, a.off, by cases a; simp_all, ?_⟩
  unfold World.cell? at h2
  split at h2
  · rename_i hq; exact (Array.getElem?_eq_some_iff.1 hq).1
  · cases h2
set_option maxRecDepth 100000 in
theorem open_rowsT {H : Type} {enc : TypeId × Value → H} {P : Program} {W : World} {fuel : Nat} {cs : List Value} {x : DataW H × List MemPlace} {α : Type} [Inhabited α] {TS TE : TypeId} {k : Nat} (hS : P.underlying TS = some (.slice TE)) (hk : P.cellsOf TE = k) (h1 : 0 < k) (row : α → Rw) (fit : α → Prop) (hrow : ∀ y, (row y).length = k)
    (one : ∀ fuel cs x, DataW.trod enc P W 0 (fun _ => true) true fuel TE cs = some x → ∃ y : α, cs = row y ∧ fit y)
    (h : DataW.trod enc P W 0 (fun _ => true) true fuel TS cs = some x) :
    ∃ (v : Value) (l : List α), cs = [v] ∧ l.length ≤ maxLen ∧ (∀ x ∈ l, fit x) ∧ HoldV k W v (l.map row) := by
  rcases Deep.open_slice hS h with ⟨hcs, _⟩ | ⟨a, len, cap, m, n, D, Pl, hcs, _, hl, hm, hmm, _, hx⟩
  · subst hcs
    exact ⟨_, [], rfl, Nat.zero_le _, (fun x hx => by simp at hx), HoldV.nil k W⟩
  · subst hcs
    simp only [if_true] at hmm
    subst hmm
    rw [hk] at hx
    have each : ∀ i, i < m → ∃ y : α, (∀ (j : Nat) u, (row y)[j]? = some u → W.cell? (a.add (i * k + j)) = some u) ∧ fit y := fun i hi => by
      obtain ⟨cs', g1, g2⟩ := hx i hi
      obtain ⟨_, _, hcell⟩ := World.cells?_some g1
      obtain ⟨y, rfl, hy⟩ := one _ _ _ g2
      refine ⟨y, fun j u hj => ?_, hy⟩
      have hjk : j < k := by have := (List.getElem?_eq_some_iff.1 hj).1; rw [hrow] at this; exact this
      have g0 := hcell j hjk
      rw [Deep.add_add] at g0
      rw [g0]; simpa using hj
    rcases Nat.eq_zero_or_pos len with h0 | h0
    · subst h0
      exact ⟨_, [], rfl, Nat.zero_le _, (fun x hx => by simp at hx), ⟨some a, m, 0, 0, rfl, Nat.zero_le _, (fun h => absurd h (by simp)), (fun j l hj => by simp at hj)⟩⟩
    · obtain ⟨y0, q0, _⟩ := each 0 (by omega)
      obtain ⟨u0, hu0⟩ : ∃ u, (row y0)[0]? = some u := ⟨_, List.getElem?_eq_getElem (by rw [hrow]; exact h1)⟩
      have q1 := q0 0 u0 hu0
      rw [Nat.zero_mul] at q1
      obtain ⟨b, o, rfl, hb⟩ := litAddr q1
      simp only [Addr.add_lit] at each
      obtain ⟨fx, hfx⟩ : ∃ fx : Nat → α, ∀ i, i < m → (∀ (j : Nat) u, (row (fx i))[j]? = some u → W.cell? ⟨b, o + (i * k + j), none⟩ = some u) ∧ fit (fx i) := by
        refine ⟨fun i => if hi : i < m then (each i hi).choose else default, fun i hi => ?_⟩
        simp only [dif_pos hi]
        exact (each i hi).choose_spec
      refine ⟨_, (List.range len).map fx, rfl, by simp; omega, fun x hx => ?_, some ⟨b, o, none⟩, m, b, o, by simp, by simpa using hl, fun _ => ⟨rfl, hb⟩, fun j r hj i y hi hy => ?_⟩
      · obtain ⟨i, hi, rfl⟩ := List.mem_map.1 hx
        exact (hfx i (by have := List.mem_range.1 hi; omega)).2
      · have hjl : j < len := by have := (List.getElem?_eq_some_iff.1 hj).1; simpa using this
        rw [List.getElem?_map, List.getElem?_map, List.getElem?_range hjl] at hj
        simp only [Option.map_some, Option.some.injEq] at hj
        subst hj
        rw [Nat.add_assoc]
        exact (hfx j (by omega)).1 i y hy
theorem cellsOfT : Tryz.prog.cellsOf 9 = 1 := by kernel_rfl
theorem cellsOfTs : Tryz.prog.cellsOf 25 = 1 := by kernel_rfl
set_option maxRecDepth 100000 in
theorem open_paths {H : Type} {enc : TypeId × Value → H} {W : World} {fuel : Nat} {V : Value} {x : DataW H × List MemPlace} (h : DataW.trod enc Tryz.prog W 0 (fun _ => true) true fuel 25 [V] = some x) : ∃ ls : List Bs, ls.length ≤ maxLen ∧ (∀ q ∈ ls, q.length ≤ maxLen) ∧ HoldT W V ls := by
  rcases Deep.open_strs Tryz.underlying25 Tryz.underlying9 cellsOfT h with ⟨hcs, _⟩ | ⟨a, n, c, m, Sx, hcs, _, hl, hm, hmm, _, hcell⟩
  · simp only [List.cons.injEq, and_true] at hcs
    subst hcs
    exact ⟨[], by simp, (fun x h => by cases h), ⟨none, 0, 0, 0, rfl, Nat.le_refl _, (fun h => absurd h (by simp)), (fun j l hj => by cases hj)⟩⟩
  · simp only [List.cons.injEq, and_true] at hcs
    subst hcs
    simp only [if_true] at hmm
    subst hmm
    rcases Nat.eq_zero_or_pos n with h0 | h0
    · subst h0
      exact ⟨[], by simp, (fun x h => by cases h), ⟨some a, m, 0, 0, rfl, Nat.zero_le _, (fun h => absurd h (by simp)), (fun j l hj => by cases hj)⟩⟩
    · have q0 := (hcell 0 (by omega)).1
      obtain ⟨b, o, rfl, hb⟩ := litAddr (by simpa [Addr.add] using q0)
      simp only [Addr.add_lit] at hcell
      have hlen : ((List.range n).map fun i => (Sx i).data.toList).length = n := by simp
      refine ⟨(List.range n).map fun i => (Sx i).data.toList, by rw [hlen]; omega, fun x hx => ?_, ⟨some ⟨b, o, none⟩, m, b, o, by rw [hlen], by rw [hlen]; exact hl, fun _ => ⟨rfl, hb⟩, fun j l hj => ?_⟩⟩
      · obtain ⟨i, hi, rfl⟩ := List.mem_map.1 hx
        have := (hcell i (by have := List.mem_range.1 hi; omega)).2
        rw [← Lib.size_eq]; exact this
      · have hjl := (List.getElem?_eq_some_iff.1 hj).1
        rw [hlen] at hjl
        rw [List.getElem?_map, List.getElem?_range hjl] at hj
        obtain rfl := Option.some.inj hj
        rw [(hcell j (by omega)).1]
theorem cellsOfS : Tryz.prog.cellsOf 52 = 2 := by kernel_rfl
theorem fieldsS : ∃ f0 f1 : Field, Tryz.prog.underlying 52 = some (.struct #[f0, f1]) ∧ f0.offset = 0 ∧ f1.offset = 1 ∧ f0.type = 9 ∧ f1.type = 9 := ⟨_, _, Tryz.underlying52, rfl, rfl, rfl, rfl⟩
set_option maxRecDepth 100000 in
theorem one_slave {H : Type} {enc : TypeId × Value → H} {W : World} (fuel : Nat) (cs : List Value) (x : DataW H × List MemPlace) (h : DataW.trod enc Tryz.prog W 0 (fun _ => true) true fuel 52 cs = some x) :
    ∃ y : Sv, cs = cellsS y ∧ FitS y := by
  obtain ⟨f0, f1, hs, o0, o1, e0, e1⟩ := fieldsS
  obtain ⟨xs, n, _, _, hlen, hxl, hf⟩ := DataW.trod_struct hs h
  rw [cellsOfS] at hlen
  match xs, hxl, cs, hlen with
  | [y0, y1], _, [v0, v1], _ =>
    have g0 := hf 0 f0 rfl
    have g1 := hf 1 f1 rfl
    rw [e0, o0, cellsOfT] at g0
    rw [e1, o1, cellsOfT] at g1
    obtain ⟨X, hX, _, bX⟩ := DataW.trod_string Tryz.underlying9 g0
    obtain ⟨Y, hY, _, bY⟩ := DataW.trod_string Tryz.underlying9 g1
    simp at hX hY
    subst hX hY
    exact ⟨(X.data.toList, Y.data.toList), by simp [cellsS], ⟨by rw [← Lib.size_eq]; exact bX, by rw [← Lib.size_eq]; exact bY⟩⟩
theorem fieldsMt : ∃ f0 f1 f2 : Field, Tryz.prog.underlying 23 = some (.struct #[f0, f1, f2]) ∧ f0.offset = 0 ∧ f1.offset = 1 ∧ f2.offset = 2 ∧ f0.type = 3 ∧ f1.type = 3 ∧ f2.type = 3 := ⟨_, _, _, Tryz.underlying23, rfl, rfl, rfl, rfl, rfl, rfl⟩
theorem cellsOfMt : Tryz.prog.cellsOf 23 = 3 ∧ Tryz.prog.cellsOf 3 = 1 ∧ Tryz.prog.cellsOf 4 = 1 := ⟨by kernel_rfl, by kernel_rfl, by kernel_rfl⟩
theorem cellsOfAct : Tryz.prog.cellsOf 27 = 12 ∧ Tryz.prog.cellsOf 24 = 1 := ⟨by kernel_rfl, by kernel_rfl⟩
theorem fieldsAct : ∃ f0 f1 f2 f3 f4 f5 f6 f7 f8 f9 : Field, Tryz.prog.underlying 27 = some (.struct #[f0, f1, f2, f3, f4, f5, f6, f7, f8, f9]) ∧ (f0.offset = 0 ∧ f1.offset = 1 ∧ f2.offset = 2 ∧ f3.offset = 3 ∧ f4.offset = 4 ∧ f5.offset = 7 ∧ f6.offset = 8 ∧ f7.offset = 9 ∧ f8.offset = 10 ∧ f9.offset = 11) ∧ f0.type = 3 ∧ f1.type = 9 ∧ f2.type = 9 ∧ f3.type = 9 ∧ f4.type = 23 ∧ f5.type = 3 ∧ f6.type = 4 ∧ f7.type = 4 ∧ f8.type = 24 ∧ f9.type = 25 := ⟨_, _, _, _, _, _, _, _, _, _, Tryz.underlying27, ⟨rfl, rfl, rfl, rfl, rfl, rfl, rfl, rfl, rfl, rfl⟩, rfl, rfl, rfl, rfl, rfl, rfl, rfl, rfl, rfl, rfl⟩
set_option maxRecDepth 100000 in
theorem one_meta {H : Type} {enc : TypeId × Value → H} {W : World} (fuel : Nat) (cs : List Value) (x : DataW H × List MemPlace) (h : DataW.trod enc Tryz.prog W 0 (fun _ => true) true fuel 23 cs = some x) :
    ∃ m u g : Int, cs = [.int .i64 m, .int .i64 u, .int .i64 g] := by
  obtain ⟨f0, f1, f2, hs, o0, o1, o2, e0, e1, e2⟩ := fieldsMt
  obtain ⟨xs, n, _, _, hlen, hxl, hf⟩ := DataW.trod_struct hs h
  rw [cellsOfMt.1] at hlen
  match xs, hxl, cs, hlen with
  | [y0, y1, y2], _, [v0, v1, v2], _ =>
    have g0 := hf 0 f0 rfl
    have g1 := hf 1 f1 rfl
    have g2 := hf 2 f2 rfl
    rw [e0, o0, cellsOfMt.2.1] at g0
    rw [e1, o1, cellsOfMt.2.1] at g1
    rw [e2, o2, cellsOfMt.2.1] at g2
    obtain ⟨m, hm, _, _⟩ := DataW.trod_int Tryz.underlying3 g0
    obtain ⟨u, hu, _, _⟩ := DataW.trod_int Tryz.underlying3 g1
    obtain ⟨g, hg, _, _⟩ := DataW.trod_int Tryz.underlying3 g2
    simp at hm hu hg
    subst hm hu hg
    exact ⟨m, u, g, rfl⟩
set_option maxRecDepth 100000 in
theorem one_act {H : Type} {enc : TypeId × Value → H} {W : World} (fuel : Nat) (cs : List Value) (x : DataW H × List MemPlace) (h : DataW.trod enc Tryz.prog W 0 (fun _ => true) true fuel 27 cs = some x) :
    ∃ y : Kv, cs = (cellsK y).toList ∧ FitK y ∧ InK W y := by
  obtain ⟨f0, f1, f2, f3, f4, f5, f6, f7, f8, f9, hs, ⟨o0, o1, o2, o3, o4, o5, o6, o7, o8, o9⟩, e0, e1, e2, e3, e4, e5, e6, e7, e8, e9⟩ := fieldsAct
  obtain ⟨xs, n, _, _, hlen, hxl, hf⟩ := DataW.trod_struct hs h
  rw [cellsOfAct.1] at hlen
  match xs, hxl, cs, hlen with
  | [y0, y1, y2, y3, y4, y5, y6, y7, y8, y9], _, [v0, v1, v2, v3, v4, v5, v6, v7, v8, v9, v10, v11], _ =>
    have g0 := hf 0 f0 rfl
    have g1 := hf 1 f1 rfl
    have g2 := hf 2 f2 rfl
    have g3 := hf 3 f3 rfl
    have g4 := hf 4 f4 rfl
    have g5 := hf 5 f5 rfl
    have g6 := hf 6 f6 rfl
    have g7 := hf 7 f7 rfl
    have g8 := hf 8 f8 rfl
    have g9 := hf 9 f9 rfl
    rw [e0, o0, cellsOfMt.2.1] at g0
    rw [e1, o1, cellsOfT] at g1
    rw [e2, o2, cellsOfT] at g2
    rw [e3, o3, cellsOfT] at g3
    rw [e4, o4, cellsOfMt.1] at g4
    rw [e5, o5, cellsOfMt.2.1] at g5
    rw [e6, o6, cellsOfMt.2.2] at g6
    rw [e7, o7, cellsOfMt.2.2] at g7
    rw [e8, o8, cellsOfAct.2] at g8
    rw [e9, o9, cellsOfTs] at g9
    obtain ⟨kd, hkd, _, _⟩ := DataW.trod_int Tryz.underlying3 g0
    obtain ⟨X, hX, _, bX⟩ := DataW.trod_string Tryz.underlying9 g1
    obtain ⟨Y, hY, _, bY⟩ := DataW.trod_string Tryz.underlying9 g2
    obtain ⟨U, hU, _, bU⟩ := DataW.trod_string Tryz.underlying9 g3
    obtain ⟨m, u, g, hM⟩ := one_meta _ _ _ g4
    obtain ⟨pr, hpr, _, _⟩ := DataW.trod_int Tryz.underlying3 g5
    obtain ⟨fl, hfl, _⟩ := DataW.trod_bool Tryz.underlying4 g6
    obtain ⟨fo, hfo, _⟩ := DataW.trod_bool Tryz.underlying4 g7
    obtain ⟨sv, sl, hs1, hs2, hs3, hs4⟩ := open_rowsT Tryz.underlying24 cellsOfS (by omega) cellsS FitS (fun _ => rfl) one_slave g8
    obtain ⟨ls, h1, h2, h3⟩ := open_paths (V := v11) (by simpa using g9)
    simp at hkd hX hY hU hM hpr hfl hfo hs1
    obtain ⟨rfl, rfl, rfl⟩ := hM
    subst hkd hX hY hU hpr hfl hfo hs1
    exact ⟨⟨kd, X.data.toList, Y.data.toList, U.data.toList, m, u, g, pr, fl, fo, sl, ls, v10, v11⟩, by simp, ⟨by rw [← Lib.size_eq]; exact bX, by rw [← Lib.size_eq]; exact bY, by rw [← Lib.size_eq]; exact bU, hs2, h1, hs3, h2⟩, hs4, h3⟩
set_option maxRecDepth 100000 in
theorem open_Kact {H : Type} {enc : TypeId × Value → H} {W : World} {b0 : Nat} {v : Value} {d : DataW H} {ps : List MemPlace} (hval : Value.okWide Tryz.prog W .any b0 27 v) (hd : DataW.Trod enc Tryz.prog W 0 (fun _ => true) true 27 v d ps) :
    ∃ x : Kv, v = aggK x ∧ FitK x ∧ InK W x := by
  obtain ⟨f0, f1, f2, f3, f4, f5, f6, f7, f8, f9, hs, -⟩ := fieldsAct
  obtain ⟨cs, rfl, hsz⟩ := okWide_struct hs hval
  obtain ⟨fuel, hf⟩ := hd
  obtain ⟨y, hy, hfit⟩ := one_act fuel cs.toList _ hf
  exact ⟨y, by rw [aggK]; congr 1; apply Array.ext'; rw [hy], hfit⟩
end Go.Proofs.YtolpcnhgmmnmcaaGreatDoor
