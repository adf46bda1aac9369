/-
  The frame of the cards of check: what the rows list, laid; the lift.
-/
import Derived.Test.YtkcamfcjkjiijaaGreatDoorPEcFewS
import Derived.Test.YtkcamfcjkjiijaaGreatDoorPTFind
import Derived.Test.YtkcamfcjkjiijaaGreatDoorPShFrame
import Derived.Test.YtkcamfcjkjiijaaGreatDoorPEpOpen
import Derived.FnData
import Derived.Lib.SmallJoins
import Derived.Lib.LaidTab
import Derived.Lay
import Derived.LaidOnce
import Derived.MakeChecks
import Derived.Handed
import Derived.Stop.LaidErr
import Derived.Deep.Strs
import Derived.ChangeArms
namespace Go.Proofs.YtkcamfcjkjiijaaGreatDoor
open Go.RowKit Go.Shelf
theorem cell_heapC {W : World} {b i : Nat} {cs : Array Value} {t : TypeId} {u : Value} (h : W.heap[b]? = some (.cells cs t (0, 0))) (hi : cs[i]? = some u) : W.cell? ⟨b, i, none⟩ = some u := by
  rw [cellRow W b i cs t (0, 0) h]; exact hi
theorem row_belowC {w w' : World} (hb : Below w.heap.size w w') {b : Nat} {o : Obj} (h : w.heap[b]? = some o) : w'.heap[b]? = some o := (hb.block b (Array.getElem?_eq_some_iff.1 h).1).trans h
abbrev relC : Rl := ([97], [], [])
abbrev recC : Uv := ⟨[97], [49], 7, [], [], [], [], [], [], .slice none 0 0, .slice none 0 0, .slice none 0 0, .slice none 0 0, .slice none 0 0, .slice none 0 0⟩
abbrev recD (i o : Value) : Uv := ⟨[98], [49], 7, [([relC], i)], [], [], [], [], [], o, .slice none 0 0, .slice none 0 0, .slice none 0 0, .slice none 0 0, .slice none 0 0⟩
abbrev stC (i o v : Value) : Stv := ⟨[recC, recD i o], [], [], v, .slice none 0 0, .slice none 0 0, .slice none 0 0, .slice none 0 0, .slice none 0 0, .slice none 0 0⟩
theorem neededC (i o : Value) : neededU [recC, recD i o] [97] = [[98]] := by
  have hd : dropU [recC, recD i o] [97] = [recD i o] := rfl
  have hb : needB [recC, recD i o] [recD i o] (recD i o) = true := by
    have h1 : (lackL [([97], [], [49]), ([98], [], [49])] 0 [[relC]]).length = 0 := by decide +kernel
    have h2 : (lackL [([98], [], [49])] 0 [[relC]]).length = 1 := by decide +kernel
    show (cfS 7 && decide ((lackL [([97], [], [49]), ([98], [], [49])] 0 [[relC]]).length < (lackL [([98], [], [49])] 0 [[relC]]).length)) = true
    rw [h1, h2]; rfl
  unfold neededU
  rw [hd]
  unfold namesU
  rw [List.filter_cons_of_pos hb]; rfl
set_option maxRecDepth 100000 in
set_option maxHeartbeats 16000000 in
theorem awake20 (w : World) (hL : LaidV w) : Calls Tryz.prog 9 #[] w fun e w' => e = .returned (.bool true) ∧ Below w.heap.size w w' := by
  obtain ⟨c1, hc1⟩ : ∃ o : Obj, o = .cells #[.string ⟨#[97]⟩, .string ⟨#[]⟩, .string ⟨#[]⟩] 75 := ⟨_, rfl⟩
  obtain ⟨c2, hc2⟩ : ∃ o : Obj, o = .cells #[.slice (some ⟨w.heap.size, 0, none⟩) 1 1] 32 := ⟨_, rfl⟩
  obtain ⟨c3, hc3⟩ : ∃ o : Obj, o = .cells #[.string ⟨#[97]⟩, .string ⟨#[49]⟩, .int .i64 7, .slice none 0 0, .slice none 0 0, .slice none 0 0, .slice none 0 0, .slice none 0 0, .slice none 0 0, .string ⟨#[98]⟩, .string ⟨#[49]⟩, .int .i64 7, .slice (some ⟨w.heap.size + 1, 0, none⟩) 1 1, .slice none 0 0, .slice none 0 0, .slice none 0 0, .slice none 0 0, .slice none 0 0] 71 := ⟨_, rfl⟩
  have B3 := (((Below.refl w.heap.size w).alloc (Nat.le_refl _) c1).alloc (by simp) c2).alloc (by simp; omega) c3
  have r1 : (((w.alloc c1).alloc c2).alloc c3).heap[w.heap.size]? = some c1 := row_belowC (((Below.refl _ _).alloc (Nat.le_refl _) c2).alloc (by simp) c3) (w := w.alloc c1) Array.getElem?_push_size
  have r2 : (((w.alloc c1).alloc c2).alloc c3).heap[w.heap.size + 1]? = some c2 := row_belowC ((Below.refl _ _).alloc (Nat.le_refl _) c3) (w := (w.alloc c1).alloc c2) (by rw [← World.size_alloc w c1]; exact Array.getElem?_push_size)
  have r3 : (((w.alloc c1).alloc c2).alloc c3).heap[w.heap.size + 2]? = some c3 := by
    have := Array.getElem?_push_size (xs := ((w.alloc c1).alloc c2).heap) (x := c3)
    rw [World.size_alloc, World.size_alloc] at this
    exact this
  have hsz : (((w.alloc c1).alloc c2).alloc c3).heap.size = w.heap.size + 3 := by simp
  obtain ⟨W3, hW3⟩ : ∃ W3, ((w.alloc c1).alloc c2).alloc c3 = W3 := ⟨_, rfl⟩
  rw [hW3] at B3 r1 r2 r3 hsz
  subst hc1 hc2 hc3
  have HH : HoldU W3 (.slice (some ⟨w.heap.size + 2, 0, none⟩) 2 2) [recC, recD (.slice (some ⟨w.heap.size, 0, none⟩) 1 1) (.slice (some ⟨w.heap.size + 1, 0, none⟩) 1 1)] := by
    have nilH : ∀ k : Nat, HoldV k W3 (.slice none 0 0) [] := fun k => ⟨_, _, 0, 0, rfl, Nat.zero_le _, fun h => absurd h (by simp), fun j l hj => by simp at hj⟩
    have nilT : HoldT W3 (.slice none 0 0) [] := ⟨_, _, 0, 0, rfl, Nat.zero_le _, fun h => absurd h (by simp), fun j l hj => by simp at hj⟩
    have hq : HoldQ W3 (.slice (some ⟨w.heap.size, 0, none⟩) 1 1) [relC] := ⟨some ⟨w.heap.size, 0, none⟩, 1, w.heap.size, 0, rfl, Nat.le_refl _, fun _ => ⟨rfl, by omega⟩, fun j r hj i y hi hy => by
      match j, hj with
      | 0, hj =>
        cases hj
        rw [show 0 + 0 * 3 + i = i from by omega]
        refine cell_heapC r1 ?_
        match i, hi, hy with
        | 0, _, hy | 1, _, hy | 2, _, hy => cases hy; rfl
      | j + 1, hj => simp at hj⟩
    have hg : HoldGs W3 (.slice (some ⟨w.heap.size + 1, 0, none⟩) 1 1) [([relC], .slice (some ⟨w.heap.size, 0, none⟩) 1 1)] := ⟨⟨some ⟨w.heap.size + 1, 0, none⟩, 1, w.heap.size + 1, 0, rfl, Nat.le_refl _, fun _ => ⟨rfl, by omega⟩, fun j r hj i y hi hy => by
      match j, hj with
      | 0, hj =>
        cases hj
        rw [show 0 + 0 * 1 + i = i from by omega]
        refine cell_heapC r2 ?_
        match i, hi, hy with
        | 0, _, hy => cases hy; rfl
      | j + 1, hj => simp at hj⟩, fun x hx => by
        simp only [List.mem_cons, List.not_mem_nil, or_false] at hx
        subst hx
        exact hq⟩
    refine ⟨⟨some ⟨w.heap.size + 2, 0, none⟩, 2, w.heap.size + 2, 0, rfl, Nat.le_refl _, fun _ => ⟨rfl, by omega⟩, fun j r hj i y hi hy => ?_⟩, fun x hx => ?_⟩
    · match j, hj with
      | 0, hj =>
        cases hj
        rw [show 0 + 0 * 9 + i = i from by omega]
        refine cell_heapC r3 ?_
        match i, hi, hy with
        | 0, _, hy | 1, _, hy | 2, _, hy | 3, _, hy | 4, _, hy | 5, _, hy | 6, _, hy | 7, _, hy | 8, _, hy => cases hy; rfl
      | 1, hj =>
        cases hj
        rw [show 0 + 1 * 9 + i = 9 + i from by omega]
        refine cell_heapC r3 ?_
        match i, hi, hy with
        | 0, _, hy | 1, _, hy | 2, _, hy | 3, _, hy | 4, _, hy | 5, _, hy | 6, _, hy | 7, _, hy | 8, _, hy => cases hy; rfl
      | j + 2, hj => simp at hj
    · simp only [List.mem_cons, List.not_mem_nil, or_false] at hx
      rcases hx with rfl | rfl
      · exact ⟨⟨nilH 1, fun x hx => by simp at hx⟩, nilH 3, nilT, nilH 2, nilT, nilT⟩
      · exact ⟨hg, nilH 3, nilT, nilH 2, nilT, nilT⟩
  obtain ⟨I, hI⟩ : ∃ q, q = Value.slice (some ⟨w.heap.size, 0, none⟩) 1 1 := ⟨_, rfl⟩
  obtain ⟨O, hO⟩ : ∃ q, q = Value.slice (some ⟨w.heap.size + 1, 0, none⟩) 1 1 := ⟨_, rfl⟩
  rw [← hI, ← hO] at HH
  have HS : ∀ l, (∀ r ∈ l, r ∈ [recC, recD I O]) → SmallQ (thereU l) := fun l hl q hq => by
    obtain ⟨r, hr, rfl⟩ := List.mem_map.1 hq
    have := hl r (List.mem_filter.1 hr).1
    simp only [List.mem_cons, List.not_mem_nil, or_false] at this
    rcases this with rfl | rfl <;> exact ⟨by simp, by simp, by simp⟩
  have HGG : ∀ r ∈ [recC, recD I O], r.dp.length ≤ 500 ∧ SmallG r.dp := fun r hr => by
    simp only [List.mem_cons, List.not_mem_nil, or_false] at hr
    rcases hr with rfl | rfl
    · exact ⟨by decide, fun x hx => by simp at hx⟩
    · refine ⟨by simp, fun x hx => ?_⟩
      simp only [List.mem_cons, List.not_mem_nil, or_false] at hx
      subst hx
      exact ⟨fun y hy => by
        simp only [List.mem_cons, List.not_mem_nil, or_false] at hy
        subst hy
        exact ⟨by decide, by decide, by decide⟩, by simp⟩
  have ND := fun W (hb : Below W3.heap.size W3 W) => needed_any (stC I O (.slice (some ⟨w.heap.size + 2, 0, none⟩) 2 2)) (by simp) HS HGG ⟨#[97]⟩ W ⟨HH.on hb, ⟨_, _, _, rfl⟩, ⟨_, _, _, rfl⟩, ⟨_, _, _, rfl⟩, ⟨_, _, _, rfl⟩, ⟨_, _, _, rfl⟩, ⟨_, _, _, rfl⟩⟩ (hL.on (B3.trans (hb.mono B3.size)))
  have TH := fun W (hb : Below W3.heap.size W3 W) => there_any (.slice (some ⟨w.heap.size + 2, 0, none⟩) 2 2) [recC, recD I O] (by simp) W (HH.on hb)
  have ND2 : ∀ W, Below W3.heap.size W3 W → Calls Tryz.prog 17 #[.agg #[.slice (some ⟨w.heap.size + 2, 0, none⟩) 2 2, .slice none 0 0, .slice none 0 0, .slice none 0 0, .slice none 0 0, .slice none 0 0, .slice none 0 0], .string ⟨#[97]⟩] W fun e w' => (∃ a n c, e = .returned (.slice a n c) ∧ HoldT w' (.slice a n c) [[98]]) ∧ Below W.heap.size W w' := fun W hb => (ND W hb).mono fun e w' ⟨r, he, ho, hb⟩ => by
    rw [show neededU (stC I O (.slice (some ⟨w.heap.size + 2, 0, none⟩) 2 2)).rs (⟨#[97]⟩ : ByteArray).data.toList = [[98]] from neededC I O] at ho
    obtain ⟨a, n, c, rfl⟩ := ho.form
    exact ⟨⟨a, n, c, he, ho.holds⟩, hb⟩
  have TH2 : ∀ W, Below W3.heap.size W3 W → Calls Tryz.prog 11 #[.slice (some ⟨w.heap.size + 2, 0, none⟩) 2 2] W fun e w' => (∃ a c, e = .returned (.slice a 2 c)) ∧ Below W.heap.size W w' := fun W hb => (TH W hb).mono fun e w' ⟨r, he, ho, hb⟩ => by
    obtain ⟨a, c, e2⟩ := ho.form
    exact ⟨⟨a, c, by rw [he, e2]; rfl⟩, hb⟩
  have SA := fun (a : Option Addr) (n c : Nat) (W : World) (h1 : HoldT W (.slice a n c) [[98]]) => same2_below (.slice a n c) (.slice (some ⟨W.heap.size, 0, none⟩) 1 1) [[98]] (by simp) (W.alloc (.cells #[.string ⟨#[98]⟩] 9)) (h1.on ((Below.refl _ _).alloc (Nat.le_refl _) _)) ⟨some ⟨W.heap.size, 0, none⟩, 1, W.heap.size, 0, rfl, Nat.le_refl _, fun _ => ⟨rfl, by simp⟩, fun j l hj => by
    match j, hj with
    | 0, hj => cases hj; rw [show 0 + 0 = 0 from rfl, World.cell?_alloc_new]; rfl
    | j + 1, hj => simp at hj⟩
  have B4 := (Below.refl W3.heap.size W3).alloc (Nat.le_refl _) (.cells #[.slice (some ⟨w.heap.size + 2, 0, none⟩) 2 2, .slice none 0 0, .slice none 0 0, .slice none 0 0, .slice none 0 0, .slice none 0 0, .slice none 0 0] 30)
  have CX := boxV7 W3 (.slice (some ⟨w.heap.size + 2, 0, none⟩) 2 2) (.slice none 0 0) (.slice none 0 0) (.slice none 0 0) (.slice none 0 0) (.slice none 0 0) (.slice none 0 0) 30 0 _ rfl
  obtain ⟨W4, hW4⟩ : ∃ W4, W3.alloc (.cells #[.slice (some ⟨w.heap.size + 2, 0, none⟩) 2 2, .slice none 0 0, .slice none 0 0, .slice none 0 0, .slice none 0 0, .slice none 0 0, .slice none 0 0] 30) = W4 := ⟨_, rfl⟩
  have hz4 : W4.heap.size = w.heap.size + 4 := by rw [← hW4]; simp [hsz]
  rw [hW4, hsz] at CX
  rw [hW4] at B4
  have HCX : Hid (∀ W, Below W4.heap.size W4 W → W.cell? ⟨w.heap.size + 3, 0, none⟩ = some (.slice (some ⟨w.heap.size + 2, 0, none⟩) 2 2)) := Lib.hid (fun W hb => (hb.cell (p := ⟨w.heap.size + 3, 0, none⟩) (show w.heap.size + 3 < W4.heap.size by omega)).trans CX)
  have HB4 := Lib.hid B4
  have HW4 := Lib.hid hW4
  have HB3 := Lib.hid B3
  have HW3 := Lib.hid hW3
  clear ND TH HH r1 r2 r3 hL hW3 B3 HS HGG hI hO CX hz4 hW4 B4 hsz
  go_enter Tryz.func9, Tryz.ntmps9
  go_wp2_with (first
    | (go_at_call 17; rw [HW3.out, HW4.out]; (with_reducible refine (ND2 _ HB4.out).mono ?_); rintro e w5 ⟨⟨a5, n5, m5, rfl, ht⟩, hb⟩; have HB5 := Lib.hid hb; have S5 := Lib.hid (SA _ _ _ _ ht); clear ht hb)
    | (go_at_call 16; (with_reducible refine S5.out.mono ?_); rintro e w6 ⟨rfl, hb⟩; have HB6 := Lib.hid ((HB5.out.alloc HB5.out.size _).trans (hb.mono (HB5.out.alloc HB5.out.size _).size)); have cx := HCX.out _ HB6.out; clear hb)
    | (go_at_call 11; (with_reducible refine (TH2 _ (HB4.out.trans (HB6.out.mono HB4.out.size))).mono ?_); rintro e w7 ⟨⟨a7, m7, rfl⟩, hb⟩; have HB7 := Lib.hid (HB6.out.trans (hb.mono HB6.out.size)); clear hb))
  go_ret
  exact ⟨rfl, HB3.out.trans ((HB4.out.trans (HB7.out.mono HB4.out.size)).mono HB3.out.size)⟩
end Go.Proofs.YtkcamfcjkjiijaaGreatDoor
namespace Go.Proofs.YtkcamfcjkjiijaaGreatDoor
open Go.ChangeShapes Go.WideShapes Go.ChangeAt Go.RowKit
theorem vtPow : (Tryz.prog.globals[5]?).map (·.type) = some 247 := by kernel_rfl
theorem vtSyn : (Tryz.prog.globals[3]?).map (·.type) = some 181 := by kernel_rfl
theorem vtRng : (Tryz.prog.globals[4]?).map (·.type) = some 181 := by kernel_rfl
theorem vgTz : Tryz.prog.globalNamed "math/bits.deBruijn64tab" = some 7 := by kernel_rfl
theorem vc20 : Tryz.prog.cellsOf 247 = 20 := by kernel_rfl
theorem vcU64 : Tryz.prog.cellsOf 163 = 1 := by kernel_rfl
theorem vcStr : Tryz.prog.cellsOf 9 = 1 := by kernel_rfl
theorem vcES : Tryz.prog.cellsOf 240 = 1 := by kernel_rfl
theorem vstarE : "*" ++ "errors.errorString" = "*errors.errorString" := by decide
theorem vrowE (u : TypeId) (h : Tryz.prog.typeName? 3 u = some "*errors.errorString") : u = 238 :=
  typeName_ptr_named (nm := "errors.errorString") (by rw [vstarE]; kernel_rfl) (by kernel_rfl) (by decide) u (by rw [vstarE]; exact h)
theorem block_of_var {P : Program} {w : World} {n : String} {g : Nat} {cs : Array Value} (hg : P.globalNamed n = some g) (h : w.var? P n = some cs) : ∃ t fr, w.heap[g]? = some (.cells cs t fr) := by
  unfold World.var? at h
  simp only [hg, Option.bind_some] at h
  split at h
  · rename_i c t fr hh
    cases h
    exact ⟨t, fr, hh⟩
  · cases h
theorem var_of_head {P : Program} {W : World} {n : String} {d : DataW Unit} {r : List (String × DataW Unit)} (h : laidMet P ((n, d) :: r) W) : ∃ cs, W.var? P n = some cs := by
  obtain ⟨ps, ⟨g', t', cs, fuel, p, q, hg', ht', hvar, hd, _, _⟩, _⟩ := h
  exact ⟨_, hvar⟩

abbrev vlaid : List (String × DataW Unit) := [("math/bits.deBruijn32tab", Rows.laid_math_bits_deBruijn32tab), ("math/bits.deBruijn64tab", Rows.laid_math_bits_deBruijn64tab), ("internal/strconv.uint64pow10", Lib.tabData .u64 Lib.pow10Tab), ("unicode/utf8.acceptRanges", Rows.laid_unicode_utf8_acceptRanges), ("strconv.ErrRange", Rows.laid_strconv_ErrRange), ("strconv.ErrSyntax", Rows.laid_strconv_ErrSyntax), ("unicode/utf8.first", Rows.laid_unicode_utf8_first)]
set_option maxRecDepth 100000 in
theorem laidV_of {W : World} (h : laidMetH Tryz.prog Rows.checkLosesRow.laid W) : LaidV W := by
  have h0 : laidMet Tryz.prog vlaid W := by
    have e : laidMetH Tryz.prog Rows.checkLosesRow.laid W = laidMet Tryz.prog Rows.checkLosesRow.laid W := MakeChecks.laidMetH_plain _ _ _ (by kernel_rfl)
    rw [e] at h
    exact h
  have h1 := laidMet.tail h0
  have h2 := laidMet.tail h1
  have h3 := laidMet.tail h2
  have h4 := laidMet.tail h3
  have h5 := laidMet.tail h4
  refine ⟨Lib.tabIs_of_head gPow vtPow Tryz.underlying247 Tryz.underlying163 vcU64 vc20 h2, ?_, ?_, ?_⟩
  · obtain ⟨a0, s0, hv0, -, -, -⟩ := laid_sentinel h5 gSyn vtSyn Tryz.underlying181 vrowE Tryz.underlying238 Tryz.underlying240 rfl rfl Tryz.underlying9 vcES vcStr
    exact ⟨_, _, hv0⟩
  · obtain ⟨a0, s0, hv0, -, -, -⟩ := laid_sentinel h4 gRng vtRng Tryz.underlying181 vrowE Tryz.underlying238 Tryz.underlying240 rfl rfl Tryz.underlying9 vcES vcStr
    exact ⟨_, _, hv0⟩
  · obtain ⟨cs, hv⟩ := var_of_head h1
    obtain ⟨t, fr, hh⟩ := block_of_var vgTz hv
    have := (Array.getElem?_eq_some_iff.1 hh).1
    omega
section
variable {H : Type} {enc : TypeId × Value → H}
set_option maxRecDepth 100000 in
theorem lift_both {os : Os} {f : FuncId} {fn : Func} {s : ChangeSpec} {laid : List (String × DataW Unit)} (started : os.Started) (noInit : Tryz.checked.prog.inits.idxOf? f = none) (hfn : Tryz.checked.prog.funcs[f]? = some fn)
    (hplain : (laid.all fun x => x.2.handleName?.isNone) = true)
    (witness : ∃ (w : World) (tape : Tape) (i : Input), w.os = os ∧ (w.forCall tape i).Shaped Tryz.checked.prog ∧ i.vars = [] ∧ Input.okWide Tryz.checked.prog (w.forCall tape i) .any w.heap.size f i ∧
      ((s.pre enc Tryz.checked.prog fn [] false (w.forCall tape i).memory i.args ∧ laidMetH Tryz.checked.prog laid (w.forCall tape i).memory) ∧ sizedMet enc Tryz.checked.prog fn (OpenSpec.ofChange s) false (w.forCall tape i).memory i.args) ∧ ({} : Assume).holds Tryz.checked.prog (lone (Frame.enter Tryz.checked.prog f i.args .normal) [] (w.forCall tape i)))
    (contract : ∀ (W : World) (base : Nat) (args : Array Value) (ds gs : List (DataW H)) (before : List MemPlace),
      (∀ (j : Nat) t v, fn.params[j]? = some t → args[j]? = some v → Value.okWide Tryz.checked.prog W .any base t v) →
      DataW.Whole enc Tryz.checked.prog fn.params.toList s.vars false W args.toList ds gs before → W.ShapedOpen Tryz.checked.prog → laidMetH Tryz.checked.prog laid W →
      Calls Tryz.checked.prog f args W fun e W' => ∃ v, e = .returned v ∧ s.post enc Tryz.checked.prog fn false true false false W args v W') :
    ReturnsInHanded {} Tryz.checked os f .any (fun w args => (s.pre enc Tryz.checked.prog fn [] false w args ∧ laidMetH Tryz.checked.prog laid w) ∧ sizedMet enc Tryz.checked.prog fn (OpenSpec.ofChange s) false w args) (s.post enc Tryz.checked.prog fn false true false false) := by
  refine returnsInHanded_of_calls own started noInit witness fun w tape i _ hsh _ hok hpre _ => ?_
  obtain ⟨_, _, _, g, hg, _, _, _, _, hval⟩ := hok
  obtain rfl : g = fn := Option.some.inj (hg.symm.trans hfn)
  obtain ⟨⟨⟨ds, gs, before, hw, _⟩, hl⟩, _⟩ := hpre
  have hl' : laidMetH Tryz.checked.prog laid (w.forCall tape i) := by
    rw [MakeChecks.laidMetH_plain _ _ _ hplain] at hl ⊢
    exact hl.of_heap (by rfl)
  refine (contract (w.forCall tape i) w.heap.size i.args ds gs before hval (DataW.Whole.of_heap (w' := w.forCall tape i) (by rfl) hw) hsh hl').mono fun e W' ⟨v, he, hp⟩ => ?_
  subst he
  exact ChangeSpec.post_blind hp
end

end Go.Proofs.YtkcamfcjkjiijaaGreatDoor
