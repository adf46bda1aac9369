/-
  The frame of the records' cards: what the rows list, laid; the lift.
-/
import Derived.Test.YtpkdnohaefkfgaaGreatDoorGShFrame
import Derived.Test.YtpkdnohaefkfgaaGreatDoorGURight2
import Derived.Test.YtpkdnohaefkfgaaGreatDoorGUFewM
import Derived.Test.YtpkdnohaefkfgaaGreatDoorGUKey
import Derived.Test.YtpkdnohaefkfgaaGreatDoorGParseDigits
import Derived.FnData
import Derived.Lib.SmallJoins
import Derived.Lib.LaidTab
import Derived.Lay
import Derived.LaidOnce
import Derived.MakeChecks
import Derived.Handed
import Derived.Stop.LaidErr
import Derived.Deep.Strs
import Derived.ChangeArms
import Derived.Deep.Slices
namespace Go.Proofs.YtpkdnohaefkfgaaGreatDoor
open Go.ChangeShapes Go.WideShapes Go.ChangeAt Go.RowKit
theorem maxlen_zero : ((begin Tryz.prog (fun _ _ => 0) default).world.heap[1]?).bind Obj.row? = some (#[.int .i64 0], 3) := by kernel_rfl
theorem laidP_shaped {w : World} (h : w.ShapedOpen Tryz.prog) : LaidP w := by
  have hs : 1 < w.heap.size := by
    obtain ⟨cs, hc, _⟩ := h.1 1 _ _ (of_decide_eq_true (by kernel_rfl)) maxlen_zero
    exact (Array.getElem?_eq_some_iff.1 hc).1
  exact ⟨cell_of_shapedOpen_int h (of_decide_eq_true (by kernel_rfl)) maxlen_zero rfl (by kernel_rfl) (by kernel_rfl) Tryz.underlying3, hs⟩
theorem vtPow : (Tryz.prog.globals[4]?).map (·.type) = some 178 := by kernel_rfl
theorem vtSyn : (Tryz.prog.globals[2]?).map (·.type) = some 104 := by kernel_rfl
theorem vtRng : (Tryz.prog.globals[3]?).map (·.type) = some 104 := by kernel_rfl
theorem vtWords : (Tryz.prog.globals[0]?).map (·.type) = some 91 := by kernel_rfl
theorem gWords : Tryz.prog.globalNamed "cellarer/status.words" = some 0 := by kernel_rfl
theorem vgAc : Tryz.prog.globalNamed "unicode/utf8.acceptRanges" = some 8 := by kernel_rfl
theorem vc20 : Tryz.prog.cellsOf 178 = 20 := by kernel_rfl
theorem vcU64 : Tryz.prog.cellsOf 99 = 1 := by kernel_rfl
theorem vcStr : Tryz.prog.cellsOf 9 = 1 := by kernel_rfl
theorem vcES : Tryz.prog.cellsOf 159 = 1 := by kernel_rfl
theorem vstarE : "*" ++ "errors.errorString" = "*errors.errorString" := by decide
theorem vrowE (u : TypeId) (h : Tryz.prog.typeName? 3 u = some "*errors.errorString") : u = 157 :=
  typeName_ptr_named (nm := "errors.errorString") (by rw [vstarE]; kernel_rfl) (by kernel_rfl) (by decide) u (by rw [vstarE]; exact h)
theorem block_of_var {P : Program} {w : World} {n : String} {g : Nat} {cs : Array Value} (hg : P.globalNamed n = some g) (h : w.var? P n = some cs) : ∃ t fr, w.heap[g]? = some (.cells cs t fr) := by
  unfold World.var? at h
  simp only [hg, Option.bind_some] at h
  split at h
  · rename_i c t fr hh
    cases h
    exact ⟨t, fr, hh⟩
  · cases h
theorem var_of_head {P : Program} {W : World} {n : String} {d : DataW Unit} {r : List (String × DataW Unit)} (h : laidMet P ((n, d) :: r) W) : ∃ cs, W.var? P n = some cs := by
  obtain ⟨ps, ⟨g', t', cs, fuel, p, q, hg', ht', hvar, hd, _, _⟩, _⟩ := h
  exact ⟨_, hvar⟩

/-- An array of texts that reads as these holds these. -/
theorem cells_of_texts {H : Type} {enc : TypeId × Value → H} {P : Program} {w : World} {base : Nat} {sp : Nat → Bool} {held : Bool} {fuel : Nat} {t e : TypeId} {n : Nat} {cs : List Value} {bs : List Bs} {p : List MemPlace}
    (ht : P.underlying t = some (.array n e)) (he : P.underlying e = some .string) (hce : P.cellsOf e = 1)
    (h : DataW.trod enc P w base sp held fuel t cs = some (.agg (bs.map fun b => .lit (.string b)), p)) : ∀ (i : Nat) b, bs[i]? = some b → cs[i]? = some (.string ⟨b.toArray⟩) := by
  cases fuel with
  | zero => simp [DataW.trod] at h
  | succ fuel =>
    simp only [DataW.trod, ht, hce, Nat.mul_one] at h
    split at h
    · obtain ⟨xs, hm, hx⟩ := Option.map_eq_some_iff.1 h
      have hxs : xs.map (·.1) = bs.map fun b => (DataW.lit (.string b) : DataW H) := by
        have := congrArg Prod.fst hx
        simpa using this
      have hxl : xs.length = n := by simpa using Lib.mapM_length hm
      have hbl : bs.length = n := by
        have := congrArg List.length hxs
        simp at this
        omega
      intro i b hb
      have hi : i < n := by have := (List.getElem?_eq_some_iff.1 hb).1; omega
      obtain ⟨y, hy, hf⟩ := Lib.mapM_at hm i i (by simp [hi])
      obtain ⟨s, hc, rfl, -⟩ := DataW.trod_string he hf
      have h1 : cs[i]? = some (.string s) := by
        have := congrArg (·[0]?) hc
        simpa [List.getElem?_take, List.getElem?_drop] using this
      have h2 : (xs.map (·.1))[i]? = some (DataW.lit (.string s.data.toList) : DataW H) := by simp [hy]
      rw [hxs, List.getElem?_map, hb] at h2
      simp only [Option.map_some, Option.some.injEq, DataW.lit.injEq, Lit.string.injEq] at h2
      rw [h1, strOf h2.symm]
    · cases h
abbrev ulaid : List (String × DataW Unit) := [("math/bits.deBruijn32tab", Rows.laid_math_bits_deBruijn32tab), ("math/bits.deBruijn64tab", Lib.tabData .u8 tzTab), ("internal/strconv.uint64pow10", Lib.tabData .u64 Lib.pow10Tab), ("unicode/utf8.acceptRanges", Rows.laid_unicode_utf8_acceptRanges), ("strconv.ErrRange", Rows.laid_strconv_ErrRange), ("strconv.ErrSyntax", Rows.laid_strconv_ErrSyntax), ("cellarer/status.words", .agg (wordsU.map fun b => .lit (.string b))), ("unicode/utf8.first", Rows.laid_unicode_utf8_first)]
set_option maxRecDepth 100000 in
theorem laidU_of {W : World} (hs : W.ShapedOpen Tryz.prog) (h : laidMetH Tryz.prog Rows.orderEnoughRow.laid W) : LaidU W := by
  have h0 : laidMet Tryz.prog ulaid W := by
    have e : laidMetH Tryz.prog Rows.orderEnoughRow.laid W = laidMet Tryz.prog Rows.orderEnoughRow.laid W := MakeChecks.laidMetH_plain _ _ _ (by kernel_rfl)
    rw [e] at h
    exact h
  have h1 := laidMet.tail h0
  have h2 := laidMet.tail h1
  have h3 := laidMet.tail h2
  have h4 := laidMet.tail h3
  have h5 := laidMet.tail h4
  have h6 := laidMet.tail h5
  have hp := laidP_shaped hs
  refine ⟨⟨⟨Lib.tabIs_of_head gPow vtPow Tryz.underlying178 Tryz.underlying99 vcU64 vc20 h2, ?_, ?_, ?_⟩, hp.mx⟩, hp, ?_⟩
  · obtain ⟨a0, s0, hv0, -, -, -⟩ := laid_sentinel h5 gSyn vtSyn Tryz.underlying104 vrowE Tryz.underlying157 Tryz.underlying159 rfl rfl Tryz.underlying9 vcES vcStr
    exact ⟨_, _, hv0⟩
  · obtain ⟨a0, s0, hv0, -, -, -⟩ := laid_sentinel h4 gRng vtRng Tryz.underlying104 vrowE Tryz.underlying157 Tryz.underlying159 rfl rfl Tryz.underlying9 vcES vcStr
    exact ⟨_, _, hv0⟩
  · obtain ⟨cs, hv⟩ := var_of_head h3
    obtain ⟨t, fr, hh⟩ := block_of_var vgAc hv
    have := (Array.getElem?_eq_some_iff.1 hh).1
    omega
  · intro k x hx
    obtain ⟨ps, ⟨g', t', cs, fuel, p, q, hg', ht', hvar, hd, _, _⟩, _⟩ := h6
    obtain rfl := Option.some.inj (gWords.symm.trans hg')
    obtain rfl := Option.some.inj (vtWords.symm.trans ht')
    have hc := cells_of_texts Tryz.underlying91 Tryz.underlying9 vcStr hd k x hx
    have := World.var?_cell gWords hvar k
    rw [this]
    simpa using hc
set_option maxRecDepth 100000 in
theorem laidUE_of {W : World} (h : laidMetH Tryz.prog Rows.orderEnoughRow.laid W) : LaidE W := by
  have h0 : laidMet Tryz.prog ulaid W := by
    have e : laidMetH Tryz.prog Rows.orderEnoughRow.laid W = laidMet Tryz.prog Rows.orderEnoughRow.laid W := MakeChecks.laidMetH_plain _ _ _ (by kernel_rfl)
    rw [e] at h
    exact h
  have h1 := laidMet.tail h0
  have h2 := laidMet.tail h1
  have h3 := laidMet.tail h2
  have h4 := laidMet.tail h3
  have h5 := laidMet.tail h4
  have hsz : 9 ≤ W.heap.size := by
    obtain ⟨cs, hv⟩ := var_of_head h3
    obtain ⟨t, fr, hh⟩ := block_of_var vgAc hv
    have := (Array.getElem?_eq_some_iff.1 hh).1
    omega
  refine ⟨laid_of (Lib.tabIs_of_head gTz tTz Tryz.underlying187 Tryz.underlying5 cU8B c64B h1) (Lib.tabIs_of_head gPowB tPowB Tryz.underlying178 Tryz.underlying99 cU64B c20B h2) hsz, ?_, ?_⟩
  · obtain ⟨a0, s0, hv0, -, -, -⟩ := laid_sentinel h5 gSynB tSynB Tryz.underlying104 rowE Tryz.underlying157 Tryz.underlying159 rfl rfl Tryz.underlying9 cES cStrB
    exact ⟨_, _, hv0⟩
  · obtain ⟨a0, s0, hv0, -, -, -⟩ := laid_sentinel h4 gRngB tRngB Tryz.underlying104 rowE Tryz.underlying157 Tryz.underlying159 rfl rfl Tryz.underlying9 cES cStrB
    exact ⟨_, _, hv0⟩
theorem spotNone {w : World} {a : Addr} {v : Value} (h : w.cell? a = some v) : a.spot = none := by
  unfold World.cell? at h
  split at h
  · split at h
    · cases h
    · rename_i hs; simpa using hs
  · cases h
theorem litAddr {W : World} {a : Addr} {u : Value} (h : W.cell? (a.add 0) = some u) : ∃ b o, a = ⟨b, o, none⟩ ∧ b < W.heap.size := by
  have h2 : W.cell? a = some u := by simpa [Addr.add] using h
  have hs := spotNone h2
  refine ⟨a.block, a.off, by cases a; simp_all, ?_⟩
  unfold World.cell? at h2
  split at h2
  · rename_i hq; exact (Array.getElem?_eq_some_iff.1 hq).1
  · cases h2
set_option maxRecDepth 100000 in
theorem open_rows {H : Type} {enc : TypeId × Value → H} {P : Program} {W : World} {b0 : Nat} {v : Value} {d : DataW H} {ps : List MemPlace} {α : Type} [Inhabited α] {TS TE : TypeId} {k : Nat} (hS : P.underlying TS = some (.slice TE)) (hk : P.cellsOf TE = k) (h1 : 0 < k) (row : α → Rw) (fit : α → Prop) (hrow : ∀ y, (row y).length = k)
    (one : ∀ fuel cs x, DataW.trod enc P W 0 (fun _ => true) true fuel TE cs = some x → ∃ y : α, cs = row y ∧ fit y)
    (hval : Value.okWide P W .any b0 TS v) (hd : DataW.Trod enc P W 0 (fun _ => true) true TS v d ps) :
    ∃ l : List α, l.length ≤ maxLen ∧ (∀ x ∈ l, fit x) ∧ HoldV k W v (l.map row) := by
  obtain ⟨fuel, hf⟩ := hd
  obtain ⟨a0, n0, c0, rfl⟩ := okWide_slice hS hval
  rcases Deep.open_slice hS hf with ⟨hcs, _⟩ | ⟨a, len, cap, m, n, D, Pl, hcs, _, hl, hm, hmm, _, hx⟩
  · simp only [Value.cells, List.cons.injEq, and_true] at hcs
    rw [hcs]
    exact ⟨[], Nat.zero_le _, (fun x hx => by simp at hx), HoldV.nil k W⟩
  · simp only [Value.cells, List.cons.injEq, and_true] at hcs
    rw [hcs]
    simp only [if_true] at hmm
    subst hmm
    rw [hk] at hx
    have each : ∀ i, i < m → ∃ y : α, (∀ (j : Nat) u, (row y)[j]? = some u → W.cell? (a.add (i * k + j)) = some u) ∧ fit y := fun i hi => by
      obtain ⟨cs', g1, g2⟩ := hx i hi
      obtain ⟨_, _, hcell⟩ := World.cells?_some g1
      obtain ⟨y, rfl, hy⟩ := one _ _ _ g2
      refine ⟨y, fun j u hj => ?_, hy⟩
      have hjk : j < k := by have := (List.getElem?_eq_some_iff.1 hj).1; rw [hrow] at this; exact this
      have g0 := hcell j hjk
      rw [Deep.add_add] at g0
      rw [g0]; simpa using hj
    rcases Nat.eq_zero_or_pos len with h0 | h0
    · subst h0
      exact ⟨[], Nat.zero_le _, (fun x hx => by simp at hx), ⟨some a, m, 0, 0, rfl, Nat.zero_le _, (fun h => absurd h (by simp)), (fun j l hj => by simp at hj)⟩⟩
    · obtain ⟨y0, q0, _⟩ := each 0 (by omega)
      obtain ⟨u0, hu0⟩ : ∃ u, (row y0)[0]? = some u := ⟨_, List.getElem?_eq_getElem (by rw [hrow]; exact h1)⟩
      have q1 := q0 0 u0 hu0
      rw [Nat.zero_mul] at q1
      obtain ⟨b, o, rfl, hb⟩ := litAddr q1
      simp only [Addr.add_lit] at each
      obtain ⟨fx, hfx⟩ : ∃ fx : Nat → α, ∀ i, i < m → (∀ (j : Nat) u, (row (fx i))[j]? = some u → W.cell? ⟨b, o + (i * k + j), none⟩ = some u) ∧ fit (fx i) := by
        refine ⟨fun i => if hi : i < m then (each i hi).choose else default, fun i hi => ?_⟩
        simp only [dif_pos hi]
        exact (each i hi).choose_spec
      refine ⟨(List.range len).map fx, by simp; omega, fun x hx => ?_, some ⟨b, o, none⟩, m, b, o, by simp, by simpa using hl, fun _ => ⟨rfl, hb⟩, fun j r hj i y hi hy => ?_⟩
      · obtain ⟨i, hi, rfl⟩ := List.mem_map.1 hx
        exact (hfx i (by have := List.mem_range.1 hi; omega)).2
      · have hjl : j < len := by have := (List.getElem?_eq_some_iff.1 hj).1; simpa using this
        rw [List.getElem?_map, List.getElem?_map, List.getElem?_range hjl] at hj
        simp only [Option.map_some, Option.some.injEq] at hj
        subst hj
        rw [Nat.add_assoc]
        exact (hfx j (by omega)).1 i y hy
set_option maxRecDepth 100000 in
theorem open_rowsT {H : Type} {enc : TypeId × Value → H} {P : Program} {W : World} {fuel : Nat} {cs : List Value} {x : DataW H × List MemPlace} {α : Type} [Inhabited α] {TS TE : TypeId} {k : Nat} (hS : P.underlying TS = some (.slice TE)) (hk : P.cellsOf TE = k) (h1 : 0 < k) (row : α → Rw) (fit : α → Prop) (hrow : ∀ y, (row y).length = k)
    (one : ∀ fuel cs x, DataW.trod enc P W 0 (fun _ => true) true fuel TE cs = some x → ∃ y : α, cs = row y ∧ fit y)
    (h : DataW.trod enc P W 0 (fun _ => true) true fuel TS cs = some x) :
    ∃ (v : Value) (l : List α), cs = [v] ∧ l.length ≤ maxLen ∧ (∀ x ∈ l, fit x) ∧ HoldV k W v (l.map row) := by
  rcases Deep.open_slice hS h with ⟨hcs, _⟩ | ⟨a, len, cap, m, n, D, Pl, hcs, _, hl, hm, hmm, _, hx⟩
  · subst hcs
    exact ⟨_, [], rfl, Nat.zero_le _, (fun x hx => by simp at hx), HoldV.nil k W⟩
  · subst hcs
    simp only [if_true] at hmm
    subst hmm
    rw [hk] at hx
    have each : ∀ i, i < m → ∃ y : α, (∀ (j : Nat) u, (row y)[j]? = some u → W.cell? (a.add (i * k + j)) = some u) ∧ fit y := fun i hi => by
      obtain ⟨cs', g1, g2⟩ := hx i hi
      obtain ⟨_, _, hcell⟩ := World.cells?_some g1
      obtain ⟨y, rfl, hy⟩ := one _ _ _ g2
      refine ⟨y, fun j u hj => ?_, hy⟩
      have hjk : j < k := by have := (List.getElem?_eq_some_iff.1 hj).1; rw [hrow] at this; exact this
      have g0 := hcell j hjk
      rw [Deep.add_add] at g0
      rw [g0]; simpa using hj
    rcases Nat.eq_zero_or_pos len with h0 | h0
    · subst h0
      exact ⟨_, [], rfl, Nat.zero_le _, (fun x hx => by simp at hx), ⟨some a, m, 0, 0, rfl, Nat.zero_le _, (fun h => absurd h (by simp)), (fun j l hj => by simp at hj)⟩⟩
    · obtain ⟨y0, q0, _⟩ := each 0 (by omega)
      obtain ⟨u0, hu0⟩ : ∃ u, (row y0)[0]? = some u := ⟨_, List.getElem?_eq_getElem (by rw [hrow]; exact h1)⟩
      have q1 := q0 0 u0 hu0
      rw [Nat.zero_mul] at q1
      obtain ⟨b, o, rfl, hb⟩ := litAddr q1
      simp only [Addr.add_lit] at each
      obtain ⟨fx, hfx⟩ : ∃ fx : Nat → α, ∀ i, i < m → (∀ (j : Nat) u, (row (fx i))[j]? = some u → W.cell? ⟨b, o + (i * k + j), none⟩ = some u) ∧ fit (fx i) := by
        refine ⟨fun i => if hi : i < m then (each i hi).choose else default, fun i hi => ?_⟩
        simp only [dif_pos hi]
        exact (each i hi).choose_spec
      refine ⟨_, (List.range len).map fx, rfl, by simp; omega, fun x hx => ?_, some ⟨b, o, none⟩, m, b, o, by simp, by simpa using hl, fun _ => ⟨rfl, hb⟩, fun j r hj i y hi hy => ?_⟩
      · obtain ⟨i, hi, rfl⟩ := List.mem_map.1 hx
        exact (hfx i (by have := List.mem_range.1 hi; omega)).2
      · have hjl : j < len := by have := (List.getElem?_eq_some_iff.1 hj).1; simpa using this
        rw [List.getElem?_map, List.getElem?_map, List.getElem?_range hjl] at hj
        simp only [Option.map_some, Option.some.injEq] at hj
        subst hj
        rw [Nat.add_assoc]
        exact (hfx j (by omega)).1 i y hy
theorem cellsOfT : Tryz.prog.cellsOf 9 = 1 := by kernel_rfl
theorem cellsOfTs : Tryz.prog.cellsOf 29 = 1 := by kernel_rfl
set_option maxRecDepth 100000 in
theorem open_paths {H : Type} {enc : TypeId × Value → H} {W : World} {fuel : Nat} {V : Value} {x : DataW H × List MemPlace} (h : DataW.trod enc Tryz.prog W 0 (fun _ => true) true fuel 29 [V] = some x) : ∃ ls : List Bs, ls.length ≤ maxLen ∧ (∀ q ∈ ls, q.length ≤ maxLen) ∧ HoldT W V ls := by
  rcases Deep.open_strs Tryz.underlying29 Tryz.underlying9 cellsOfT h with ⟨hcs, _⟩ | ⟨a, n, c, m, Sx, hcs, _, hl, hm, hmm, _, hcell⟩
  · simp only [List.cons.injEq, and_true] at hcs
    subst hcs
    exact ⟨[], by simp, (fun x h => by cases h), ⟨none, 0, 0, 0, rfl, Nat.le_refl _, (fun h => absurd h (by simp)), (fun j l hj => by cases hj)⟩⟩
  · simp only [List.cons.injEq, and_true] at hcs
    subst hcs
    simp only [if_true] at hmm
    subst hmm
    rcases Nat.eq_zero_or_pos n with h0 | h0
    · subst h0
      exact ⟨[], by simp, (fun x h => by cases h), ⟨some a, m, 0, 0, rfl, Nat.zero_le _, (fun h => absurd h (by simp)), (fun j l hj => by cases hj)⟩⟩
    · have q0 := (hcell 0 (by omega)).1
      obtain ⟨b, o, rfl, hb⟩ := litAddr (by simpa [Addr.add] using q0)
      simp only [Addr.add_lit] at hcell
      have hlen : ((List.range n).map fun i => (Sx i).data.toList).length = n := by simp
      refine ⟨(List.range n).map fun i => (Sx i).data.toList, by rw [hlen]; omega, fun x hx => ?_, ⟨some ⟨b, o, none⟩, m, b, o, by rw [hlen], by rw [hlen]; exact hl, fun _ => ⟨rfl, hb⟩, fun j l hj => ?_⟩⟩
      · obtain ⟨i, hi, rfl⟩ := List.mem_map.1 hx
        have := (hcell i (by have := List.mem_range.1 hi; omega)).2
        rw [← Lib.size_eq]; exact this
      · have hjl := (List.getElem?_eq_some_iff.1 hj).1
        rw [hlen] at hjl
        rw [List.getElem?_map, List.getElem?_range hjl] at hj
        obtain rfl := Option.some.inj hj
        rw [(hcell j (by omega)).1]
theorem cellsOfU2 : Tryz.prog.cellsOf 45 = 2 ∧ Tryz.prog.cellsOf 41 = 3 ∧ Tryz.prog.cellsOf 27 = 1 ∧ Tryz.prog.cellsOf 34 = 1 ∧ Tryz.prog.cellsOf 35 = 1 ∧ Tryz.prog.cellsOf 3 = 1 ∧ Tryz.prog.cellsOf 37 = 9 := ⟨by kernel_rfl, by kernel_rfl, by kernel_rfl, by kernel_rfl, by kernel_rfl, by kernel_rfl, by kernel_rfl⟩
theorem fieldsCf : ∃ f0 f1 : Field, Tryz.prog.underlying 45 = some (.struct #[f0, f1]) ∧ f0.offset = 0 ∧ f1.offset = 1 ∧ f0.type = 9 ∧ f1.type = 9 := ⟨_, _, Tryz.underlying45, rfl, rfl, rfl, rfl⟩
theorem fieldsRl : ∃ f0 f1 f2 : Field, Tryz.prog.underlying 41 = some (.struct #[f0, f1, f2]) ∧ f0.offset = 0 ∧ f1.offset = 1 ∧ f2.offset = 2 ∧ f0.type = 9 ∧ f1.type = 9 ∧ f2.type = 9 := ⟨_, _, _, Tryz.underlying41, rfl, rfl, rfl, rfl, rfl, rfl⟩
theorem fieldsRc : ∃ f0 f1 f2 f3 f4 f5 f6 f7 f8 : Field, Tryz.prog.underlying 37 = some (.struct #[f0, f1, f2, f3, f4, f5, f6, f7, f8]) ∧ (f0.offset = 0 ∧ f1.offset = 1 ∧ f2.offset = 2 ∧ f3.offset = 3 ∧ f4.offset = 4 ∧ f5.offset = 5 ∧ f6.offset = 6 ∧ f7.offset = 7 ∧ f8.offset = 8) ∧ f0.type = 9 ∧ f1.type = 9 ∧ f2.type = 3 ∧ f3.type = 34 ∧ f4.type = 27 ∧ f5.type = 29 ∧ f6.type = 35 ∧ f7.type = 29 ∧ f8.type = 29 := ⟨_, _, _, _, _, _, _, _, _, Tryz.underlying37, ⟨rfl, rfl, rfl, rfl, rfl, rfl, rfl, rfl, rfl⟩, rfl, rfl, rfl, rfl, rfl, rfl, rfl, rfl, rfl⟩
set_option maxRecDepth 100000 in
theorem one_conf {H : Type} {enc : TypeId × Value → H} {W : World} (fuel : Nat) (cs : List Value) (x : DataW H × List MemPlace) (h : DataW.trod enc Tryz.prog W 0 (fun _ => true) true fuel 45 cs = some x) :
    ∃ y : Bs × Bs, cs = cellsW2 y ∧ (y.1.length ≤ maxLen ∧ y.2.length ≤ maxLen) := by
  obtain ⟨f0, f1, hs, o0, o1, e0, e1⟩ := fieldsCf
  obtain ⟨xs, n, _, _, hlen, hxl, hf⟩ := DataW.trod_struct hs h
  rw [cellsOfU2.1] at hlen
  match xs, hxl, cs, hlen with
  | [y0, y1], _, [v0, v1], _ =>
    have g0 := hf 0 f0 rfl
    have g1 := hf 1 f1 rfl
    rw [e0, o0, cellsOfT] at g0
    rw [e1, o1, cellsOfT] at g1
    obtain ⟨X, hX, _, bX⟩ := DataW.trod_string Tryz.underlying9 g0
    obtain ⟨Y, hY, _, bY⟩ := DataW.trod_string Tryz.underlying9 g1
    simp at hX hY
    subst hX hY
    exact ⟨(X.data.toList, Y.data.toList), by simp [cellsW2], ⟨by rw [← Lib.size_eq]; exact bX, by rw [← Lib.size_eq]; exact bY⟩⟩
set_option maxRecDepth 100000 in
theorem one_relU {H : Type} {enc : TypeId × Value → H} {W : World} (fuel : Nat) (cs : List Value) (x : DataW H × List MemPlace) (h : DataW.trod enc Tryz.prog W 0 (fun _ => true) true fuel 41 cs = some x) :
    ∃ y : Rl, cs = cellsQ y ∧ (y.1.length ≤ maxLen ∧ y.2.1.length ≤ maxLen ∧ y.2.2.length ≤ maxLen) := by
  obtain ⟨f0, f1, f2, hs, o0, o1, o2, e0, e1, e2⟩ := fieldsRl
  obtain ⟨xs, n, _, _, hlen, hxl, hf⟩ := DataW.trod_struct hs h
  rw [cellsOfU2.2.1] at hlen
  match xs, hxl, cs, hlen with
  | [y0, y1, y2], _, [v0, v1, v2], _ =>
    have g0 := hf 0 f0 rfl
    have g1 := hf 1 f1 rfl
    have g2 := hf 2 f2 rfl
    rw [e0, o0, cellsOfT] at g0
    rw [e1, o1, cellsOfT] at g1
    rw [e2, o2, cellsOfT] at g2
    obtain ⟨X, hX, _, bX⟩ := DataW.trod_string Tryz.underlying9 g0
    obtain ⟨Y, hY, _, bY⟩ := DataW.trod_string Tryz.underlying9 g1
    obtain ⟨Z, hZ, _, bZ⟩ := DataW.trod_string Tryz.underlying9 g2
    simp at hX hY hZ
    subst hX hY hZ
    exact ⟨(X.data.toList, Y.data.toList, Z.data.toList), by simp [cellsQ], ⟨by rw [← Lib.size_eq]; exact bX, by rw [← Lib.size_eq]; exact bY, by rw [← Lib.size_eq]; exact bZ⟩⟩
set_option maxRecDepth 100000 in
theorem one_relsU {H : Type} {enc : TypeId × Value → H} {W : World} (fuel : Nat) (cs : List Value) (x : DataW H × List MemPlace) (h : DataW.trod enc Tryz.prog W 0 (fun _ => true) true fuel 27 cs = some x) :
    ∃ y : Gv, cs = [y.2] ∧ (BigQ y.1 ∧ y.1.length ≤ maxLen) ∧ HoldQ W y.2 y.1 := by
  obtain ⟨v, l, h1, h2, h3, h4⟩ := open_rowsT (α := Rl) Tryz.underlying27 cellsOfU2.2.1 (by omega) cellsQ (fun y => y.1.length ≤ maxLen ∧ y.2.1.length ≤ maxLen ∧ y.2.2.length ≤ maxLen) (fun _ => rfl) one_relU h
  exact ⟨(l, v), h1, ⟨h3, h2⟩, h4⟩
instance : Inhabited Uv := ⟨⟨[], [], 0, [], [], [], [], [], [], .slice none 0 0, .slice none 0 0, .slice none 0 0, .slice none 0 0, .slice none 0 0, .slice none 0 0⟩⟩
instance : Inhabited Gv := ⟨([], .slice none 0 0)⟩
set_option maxRecDepth 100000 in
theorem one_rec {H : Type} {enc : TypeId × Value → H} {W : World} (fuel : Nat) (cs : List Value) (x : DataW H × List MemPlace) (h : DataW.trod enc Tryz.prog W 0 (fun _ => true) true fuel 37 cs = some x) :
    ∃ y : Uv, cs = cellsU y ∧ FitU y ∧ InU W y := by
  obtain ⟨f0, f1, f2, f3, f4, f5, f6, f7, f8, hs, ⟨o0, o1, o2, o3, o4, o5, o6, o7, o8⟩, e0, e1, e2, e3, e4, e5, e6, e7, e8⟩ := fieldsRc
  obtain ⟨xs, n, _, _, hlen, hxl, hf⟩ := DataW.trod_struct hs h
  rw [cellsOfU2.2.2.2.2.2.2] at hlen
  match xs, hxl, cs, hlen with
  | [y0, y1, y2, y3, y4, y5, y6, y7, y8], _, [v0, v1, v2, v3, v4, v5, v6, v7, v8], _ =>
    have g0 := hf 0 f0 rfl
    have g1 := hf 1 f1 rfl
    have g2 := hf 2 f2 rfl
    have g3 := hf 3 f3 rfl
    have g4 := hf 4 f4 rfl
    have g5 := hf 5 f5 rfl
    have g6 := hf 6 f6 rfl
    have g7 := hf 7 f7 rfl
    have g8 := hf 8 f8 rfl
    rw [e0, o0, cellsOfT] at g0
    rw [e1, o1, cellsOfT] at g1
    rw [e2, o2, cellsOfU2.2.2.2.2.2.1] at g2
    rw [e3, o3, cellsOfU2.2.2.2.1] at g3
    rw [e4, o4, cellsOfU2.2.2.1] at g4
    rw [e5, o5, cellsOfTs] at g5
    rw [e6, o6, cellsOfU2.2.2.2.2.1] at g6
    rw [e7, o7, cellsOfTs] at g7
    rw [e8, o8, cellsOfTs] at g8
    obtain ⟨X, hX, _, bX⟩ := DataW.trod_string Tryz.underlying9 g0
    obtain ⟨Y, hY, _, bY⟩ := DataW.trod_string Tryz.underlying9 g1
    obtain ⟨m, hM, _, _⟩ := DataW.trod_int Tryz.underlying3 g2
    obtain ⟨dv, dp, hd1, hd2, hd3, hd4⟩ := open_rowsT (α := Gv) Tryz.underlying34 cellsOfU2.2.2.1 (by omega) (fun y => [y.2]) (fun y => (BigQ y.1 ∧ y.1.length ≤ maxLen) ∧ HoldQ W y.2 y.1) (fun _ => rfl) one_relsU g3
    obtain ⟨cv, cn, hc1, hc2, hc3, hc4⟩ := open_rowsT (α := Rl) Tryz.underlying27 cellsOfU2.2.1 (by omega) cellsQ (fun y => y.1.length ≤ maxLen ∧ y.2.1.length ≤ maxLen ∧ y.2.2.length ≤ maxLen) (fun _ => rfl) one_relU g4
    obtain ⟨rp, hr2, hr3, hr4⟩ := open_paths (V := v5) (by simpa using g5)
    obtain ⟨fv, cf, hf1, hf2, hf3, hf4⟩ := open_rowsT (α := Bs × Bs) Tryz.underlying35 cellsOfU2.1 (by omega) cellsW2 (fun y => y.1.length ≤ maxLen ∧ y.2.length ≤ maxLen) (fun _ => rfl) one_conf g6
    obtain ⟨pd, hp2, hp3, hp4⟩ := open_paths (V := v7) (by simpa using g7)
    obtain ⟨aw, ha2, ha3, ha4⟩ := open_paths (V := v8) (by simpa using g8)
    simp at hX hY hM hd1 hc1 hf1
    subst hX hY hM hd1 hc1 hf1
    exact ⟨⟨X.data.toList, Y.data.toList, m, dp, cn, rp, cf, pd, aw, v3, v4, v5, v6, v7, v8⟩, by simp [cellsU], ⟨by rw [← Lib.size_eq]; exact bX, by rw [← Lib.size_eq]; exact bY, hd2, fun g hg => (hd3 g hg).1, hc2, hc3, hr2, hr3, hf2, hf3, hp2, hp3, ha2, ha3⟩, ⟨hd4, fun g hg => (hd3 g hg).2⟩, hc4, hr4, hf4, hp4, ha4⟩
set_option maxRecDepth 100000 in
theorem open_Krecs {H : Type} {enc : TypeId × Value → H} {W : World} {b0 : Nat} {v : Value} {d : DataW H} {ps : List MemPlace} (hval : Value.okWide Tryz.prog W .any b0 22 v) (hd : DataW.Trod enc Tryz.prog W 0 (fun _ => true) true 22 v d ps) :
    ∃ l : List Uv, l.length ≤ maxLen ∧ (∀ x ∈ l, FitU x) ∧ HoldU W v l := by
  obtain ⟨l, h1, h2, h3⟩ := open_rows (α := Uv) Tryz.underlying22 cellsOfU2.2.2.2.2.2.2 (by omega) cellsU (fun x => FitU x ∧ InU W x) (fun _ => rfl) one_rec hval hd
  exact ⟨l, h1, fun x hx => (h2 x hx).1, h3, fun x hx => (h2 x hx).2⟩
section
variable {H : Type} {enc : TypeId × Value → H}
set_option maxRecDepth 100000 in
theorem lift_both {os : Os} {f : FuncId} {fn : Func} {s : ChangeSpec} {laid : List (String × DataW Unit)} (started : os.Started) (noInit : Tryz.checked.prog.inits.idxOf? f = none) (hfn : Tryz.checked.prog.funcs[f]? = some fn)
    (hplain : (laid.all fun x => x.2.handleName?.isNone) = true)
    (witness : ∃ (w : World) (tape : Tape) (i : Input), w.os = os ∧ (w.forCall tape i).Shaped Tryz.checked.prog ∧ i.vars = [] ∧ Input.okWide Tryz.checked.prog (w.forCall tape i) .any w.heap.size f i ∧
      ((s.pre enc Tryz.checked.prog fn [] false (w.forCall tape i).memory i.args ∧ laidMetH Tryz.checked.prog laid (w.forCall tape i).memory) ∧ sizedMet enc Tryz.checked.prog fn (OpenSpec.ofChange s) false (w.forCall tape i).memory i.args) ∧ ({} : Assume).holds Tryz.checked.prog (lone (Frame.enter Tryz.checked.prog f i.args .normal) [] (w.forCall tape i)))
    (contract : ∀ (W : World) (base : Nat) (args : Array Value) (ds gs : List (DataW H)) (before : List MemPlace),
      (∀ (j : Nat) t v, fn.params[j]? = some t → args[j]? = some v → Value.okWide Tryz.checked.prog W .any base t v) →
      DataW.Whole enc Tryz.checked.prog fn.params.toList s.vars false W args.toList ds gs before → W.ShapedOpen Tryz.checked.prog → laidMetH Tryz.checked.prog laid W →
      Calls Tryz.checked.prog f args W fun e W' => ∃ v, e = .returned v ∧ s.post enc Tryz.checked.prog fn false true false false W args v W') :
    ReturnsInHanded {} Tryz.checked os f .any (fun w args => (s.pre enc Tryz.checked.prog fn [] false w args ∧ laidMetH Tryz.checked.prog laid w) ∧ sizedMet enc Tryz.checked.prog fn (OpenSpec.ofChange s) false w args) (s.post enc Tryz.checked.prog fn false true false false) := by
  refine returnsInHanded_of_calls own started noInit witness fun w tape i _ hsh _ hok hpre _ => ?_
  obtain ⟨_, _, _, g, hg, _, _, _, _, hval⟩ := hok
  obtain rfl : g = fn := Option.some.inj (hg.symm.trans hfn)
  obtain ⟨⟨⟨ds, gs, before, hw, _⟩, hl⟩, _⟩ := hpre
  have hl' : laidMetH Tryz.checked.prog laid (w.forCall tape i) := by
    rw [MakeChecks.laidMetH_plain _ _ _ hplain] at hl ⊢
    exact hl.of_heap (by rfl)
  refine (contract (w.forCall tape i) w.heap.size i.args ds gs before hval (DataW.Whole.of_heap (w' := w.forCall tape i) (by rfl) hw) hsh hl').mono fun e W' ⟨v, he, hp⟩ => ?_
  subst he
  exact ChangeSpec.post_blind hp
end

end Go.Proofs.YtpkdnohaefkfgaaGreatDoor
