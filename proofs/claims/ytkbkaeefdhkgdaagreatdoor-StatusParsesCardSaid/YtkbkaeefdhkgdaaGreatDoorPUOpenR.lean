import Derived.LaidMore
import Derived.Lay
import Derived.Test.YtkbkaeefdhkgdaaGreatDoorPURightA
set_option maxRecDepth 100000
set_option maxHeartbeats 32000000
namespace Go.Proofs.YtkbkaeefdhkgdaaGreatDoor
section
open Go.ChangeShapes Go.WideShapes Go.ChangeAt Go.RowKit
theorem own : ownKnob Tryz.prog.godebug = none := by kernel_rfl
theorem outB : laidOutB Tryz.prog = true := by kernel_rfl
theorem args_stay {H : Type} {enc : TypeId × Value → H} {P : Program} (hl : laidOutB P = true) {W W' : World} (hb : Below W.heap.size W W') :
  ∀ {ts : List TypeId} {vs : List Value} {ds : List (DataW H)} {ps : List MemPlace}, (ts.all fun t => P.readableRec t && decide (t < P.types.size)) = true → DataW.TrodAll enc P W 0 (fun _ => true) true ts vs ds ps → (∀ x ∈ ps, x.block < W.heap.size) →
   DataW.TrodAll enc P W' 0 (fun b => decide (b < W.heap.size)) true ts vs ds ps
 | [], vs, ds, ps, _, h, _ => by
  obtain ⟨rfl, rfl, rfl⟩ := trodAll_nil h
  exact rfl
 | t :: ts, vs, ds, ps, hts, h, hlt => by
  obtain ⟨v, vs', d, ds', p, q, rfl, rfl, rfl, h0, r0⟩ := trodAll_cons h
  simp only [List.all_cons, Bool.and_eq_true, decide_eq_true_eq] at hts
  exact ⟨p, q, Below.trod hl hts.1.1 hts.1.2 h0 hb (fun x hx => hlt x (List.mem_append_left _ hx)), args_stay hl hb hts.2 r0 (fun x hx => hlt x (List.mem_append_right _ hx)), rfl⟩
theorem law_post {H : Type} {enc : TypeId × Value → H} {P : Program} {f : Func} {s : ChangeSpec} {W W' : World} {args : Array Value} {ds gs : List (DataW H)} {before : List MemPlace} {tb : TypeId} (hl : laidOutB P = true)
  (hts : (f.params.toList.all fun t => P.readableRec t && decide (t < P.types.size)) = true) (hr : f.resultTypes = #[tb]) (hu : P.underlying tb = some .bool) (hs : s.vars = [])
  (hW : DataW.Whole enc P f.params.toList s.vars false W args.toList ds gs before) (hspec : (s.fn H (ds ++ [])).results = [.lit (.bool true)] ∧ (s.fn H (ds ++ [])).args = ds ∧ (s.fn H (ds ++ [])).vars = []) (hb : Below W.heap.size W W') :
  s.post enc P f false true false false W args (.bool true) W' := by
 have hlt : ∀ x ∈ before, x.block < W.heap.size := fun x hx => hW.lt x hx
 have hW' := hW
 obtain ⟨p, q, hA, hV, rfl, hfz, hnd⟩ := hW
 rw [hs] at hV
 obtain ⟨rfl, rfl⟩ := trodVars_none hV
 refine ⟨ds, [], p ++ [], [], p, [], hW', ?_, ?_, ?_, hb.frame _, fun h => by cases h⟩
 ·
  rw [hspec.1, hr]
  exact ⟨[], [], shut_bool hu true, rfl, rfl⟩
 ·
  rw [hspec.2.1]
  exact args_stay hl hb hts hA (fun x hx => hlt x (List.mem_append_left _ hx))
 ·
  rw [hspec.2.2, hs]
  rfl
-- The arguments, by their types.
theorem open_Kstring {H : Type} {enc : TypeId × Value → H} {W : World} {b0 : Nat} {v : Value} {d : DataW H} {ps : List MemPlace} (hval : Value.okWide Tryz.prog W .any b0 9 v) (hd : DataW.Trod enc Tryz.prog W 0 (fun _ => true) true 9 v d ps) :
  ∃ s : ByteArray, v = .string s ∧ s.size ≤ 9223372036854775807 := by
 obtain ⟨s, rfl, _, _, hs⟩ := Go.ChangeMaps.open_string Tryz.underlying9 hval hd
 exact ⟨s, rfl, hs⟩
end
section
open Go.ChangeShapes Go.WideShapes Go.ChangeAt Go.RowKit
section
variable {H : Type} {enc : TypeId × Value → H}
end
end
section
open Go.RowKit
structure FitU (x : Uv) : Prop where
 nm : x.nm.length ≤ maxLen
 vr : x.vr.length ≤ maxLen
 dn : x.dp.length ≤ maxLen
 dp : ∀ g ∈ x.dp, BigQ g.1 ∧ g.1.length ≤ maxLen
 cl : x.cn.length ≤ maxLen
 cq : BigQ x.cn
 rl : x.rp.length ≤ maxLen
 rp : ∀ s ∈ x.rp, s.length ≤ maxLen
 fl : x.cf.length ≤ maxLen
 cf : ∀ c ∈ x.cf, c.1.length ≤ maxLen ∧ c.2.length ≤ maxLen
 pl : x.pd.length ≤ maxLen
 pd : ∀ s ∈ x.pd, s.length ≤ maxLen
 al : x.aw.length ≤ maxLen
 aw : ∀ s ∈ x.aw, s.length ≤ maxLen
structure FewR (x : Uv) : Prop where
 nm : x.nm.length ≤ 4000
 vr : x.vr.length ≤ 4000
 dn : x.dp.length ≤ 70
 dp : ∀ g ∈ x.dp, g.1.length ≤ 70
 dt : (allE (fsts x.dp)).1.length ≤ 4000
 cl : x.cn.length ≤ 70
 cq : ∀ r ∈ x.cn, r.1.length ≤ 4000 ∧ r.2.2.length ≤ 4000
 rl : x.rp.length ≤ 70
 rp : ∀ s ∈ x.rp, s.length ≤ 4000
 fl : x.cf.length ≤ 70
 cf : ∀ c ∈ x.cf, c.1.length ≤ 4000 ∧ c.2.length ≤ 4000
 pl : x.pd.length ≤ 70
 pd : ∀ s ∈ x.pd, s.length ≤ 4000
 al : x.aw.length ≤ 70
 aw : ∀ s ∈ x.aw, s.length ≤ 4000
theorem FewR.small {x : Uv} (h : FewR x) (f : FitU x) : SmallU x :=
 ⟨h.nm, h.vr, h.dn, fun g hg => ⟨(f.dp g hg).1, Nat.le_trans (h.dp g hg) (by decide)⟩, h.cl, f.cq, (Nat.le_trans h.rl (by decide)), h.rp, (Nat.le_trans h.fl (by decide)), h.cf, (Nat.le_trans h.pl (by decide)), h.pd, (Nat.le_trans h.al (by decide)), h.aw⟩
structure UptoU (x : Uv) (k : Nat) : Prop where
 dp : ∀ (j : Nat) g, j < k → x.dp[j]? = some g → g.1.length ≤ 70
 cq : ∀ (j : Nat) r, j < k → x.cn[j]? = some r → r.1.length ≤ 4000 ∧ r.2.2.length ≤ 4000
 rp : ∀ (j : Nat) s, j < k → x.rp[j]? = some s → s.length ≤ 4000
 cf : ∀ (j : Nat) c, j < k → x.cf[j]? = some c → c.1.length ≤ 4000 ∧ c.2.length ≤ 4000
 pd : ∀ (j : Nat) s, j < k → x.pd[j]? = some s → s.length ≤ 4000
 aw : ∀ (j : Nat) s, j < k → x.aw[j]? = some s → s.length ≤ 4000
theorem UptoU.zero (x : Uv) : UptoU x 0 := ⟨fun j _ h => by omega, fun j _ h => by omega, fun j _ h => by omega, fun j _ h => by omega, fun j _ h => by omega, fun j _ h => by omega⟩
theorem upto_next {α : Type} {l : List α} {P : α → Prop} {k : Nat} (h : ∀ (j : Nat) a, j < k → l[j]? = some a → P a) (hk : ∀ a, l[k]? = some a → P a) : ∀ (j : Nat) a, j < k + 1 → l[j]? = some a → P a := fun j a hj ha => by
 by_cases e : j = k
 ·
  subst e; exact hk a ha
 ·
  exact h j a (by omega) ha
theorem UptoU.next {x : Uv} {k : Nat} (h : UptoU x k) (h1 : ∀ g, x.dp[k]? = some g → g.1.length ≤ 70) (h2 : ∀ r, x.cn[k]? = some r → r.1.length ≤ 4000 ∧ r.2.2.length ≤ 4000) (h3 : ∀ s, x.rp[k]? = some s → s.length ≤ 4000) (h4 : ∀ c, x.cf[k]? = some c → c.1.length ≤ 4000 ∧ c.2.length ≤ 4000) (h5 : ∀ s, x.pd[k]? = some s → s.length ≤ 4000) (h6 : ∀ s, x.aw[k]? = some s → s.length ≤ 4000) : UptoU x (k + 1) :=
 ⟨upto_next h.dp h1, upto_next h.cq h2, upto_next h.rp h3, upto_next h.cf h4, upto_next h.pd h5, upto_next h.aw h6⟩
end
section
open Go.ChangeShapes Go.WideShapes Go.ChangeAt Go.RowKit
theorem maxlen_zero : ((begin Tryz.prog (fun _ _ => 0) default).world.heap[1]?).bind Obj.row? = some (#[.int .i64 0], 3) := by kernel_rfl
theorem laidP_shaped {w : World} (h : w.ShapedOpen Tryz.prog) : LaidP w := by
 have hs : 1 < w.heap.size := by
  obtain ⟨cs, hc, _⟩ := h.1 1 _ _ (of_decide_eq_true (by kernel_rfl)) maxlen_zero
  exact (Array.getElem?_eq_some_iff.1 hc).1
 exact ⟨cell_of_shapedOpen_int h (of_decide_eq_true (by kernel_rfl)) maxlen_zero rfl (by kernel_rfl) (by kernel_rfl) Tryz.underlying3, hs⟩
theorem vtPow : (Tryz.prog.globals[6]?).map (·.type) = some 233 := by kernel_rfl
theorem vtSyn : (Tryz.prog.globals[4]?).map (·.type) = some 90 := by kernel_rfl
theorem vtRng : (Tryz.prog.globals[5]?).map (·.type) = some 90 := by kernel_rfl
theorem vtWords : (Tryz.prog.globals[0]?).map (·.type) = some 133 := by kernel_rfl
theorem gWords : Tryz.prog.globalNamed "cellarer/status.words" = some 0 := by kernel_rfl
theorem vgTz : Tryz.prog.globalNamed "math/bits.deBruijn64tab" = some 8 := by kernel_rfl
theorem vc20 : Tryz.prog.cellsOf 233 = 20 := by kernel_rfl
theorem vcU64 : Tryz.prog.cellsOf 104 = 1 := by kernel_rfl
theorem vcStr : Tryz.prog.cellsOf 9 = 1 := by kernel_rfl
theorem vcES : Tryz.prog.cellsOf 222 = 1 := by kernel_rfl
theorem vstarE : "*" ++ "errors.errorString" = "*errors.errorString" := by decide
theorem vrowE (u : TypeId) (h : Tryz.prog.typeName? 3 u = some "*errors.errorString") : u = 220 :=
 typeName_ptr_named (nm := "errors.errorString") (by rw [vstarE]; kernel_rfl) (by kernel_rfl) (by decide) u (by rw [vstarE]; exact h)
theorem block_of_var {P : Program} {w : World} {n : String} {g : Nat} {cs : Array Value} (hg : P.globalNamed n = some g) (h : w.var? P n = some cs) : ∃ t fr, w.heap[g]? = some (.cells cs t fr) := by
 unfold World.var? at h
 simp only [hg, Option.bind_some] at h
 split at h
 ·
  rename_i c t fr hh
  cases h
  exact ⟨t, fr, hh⟩
 ·
  cases h
theorem var_of_head {P : Program} {W : World} {n : String} {d : DataW Unit} {r : List (String × DataW Unit)} (h : laidMet P ((n, d) :: r) W) : ∃ cs, W.var? P n = some cs := by
 obtain ⟨ps, ⟨g', t', cs, fuel, p, q, hg', ht', hvar, hd, _, _⟩, _⟩ := h
 exact ⟨_, hvar⟩
theorem cells_of_texts {H : Type} {enc : TypeId × Value → H} {P : Program} {w : World} {base : Nat} {sp : Nat → Bool} {held : Bool} {fuel : Nat} {t e : TypeId} {n : Nat} {cs : List Value} {bs : List Bs} {p : List MemPlace}
  (ht : P.underlying t = some (.array n e)) (he : P.underlying e = some .string) (hce : P.cellsOf e = 1)
  (h : DataW.trod enc P w base sp held fuel t cs = some (.agg (bs.map fun b => .lit (.string b)), p)) : ∀ (i : Nat) b, bs[i]? = some b → cs[i]? = some (.string ⟨b.toArray⟩) := by
 cases fuel with
 | zero => simp [DataW.trod] at h
 | succ fuel =>
  simp only [DataW.trod, ht, hce, Nat.mul_one] at h
  split at h
  ·
   obtain ⟨xs, hm, hx⟩ := Option.map_eq_some_iff.1 h
   have hxs : xs.map (·.1) = bs.map fun b => (DataW.lit (.string b) : DataW H) := by
    have := congrArg Prod.fst hx
    simpa using this
   have hxl : xs.length = n := by simpa using Lib.mapM_length hm
   have hbl : bs.length = n := by
    have := congrArg List.length hxs
    simp at this
    omega
   intro i b hb
   have hi : i < n := by have := (List.getElem?_eq_some_iff.1 hb).1; omega
   obtain ⟨y, hy, hf⟩ := Lib.mapM_at hm i i (by simp [hi])
   obtain ⟨s, hc, rfl, -⟩ := DataW.trod_string he hf
   have h1 : cs[i]? = some (.string s) := by
    have := congrArg (·[0]?) hc
    simpa [List.getElem?_take, List.getElem?_drop] using this
   have h2 : (xs.map (·.1))[i]? = some (DataW.lit (.string s.data.toList) : DataW H) := by simp [hy]
   rw [hxs, List.getElem?_map, hb] at h2
   simp only [Option.map_some, Option.some.injEq, DataW.lit.injEq, Lit.string.injEq] at h2
   rw [h1, strOf h2.symm]
  ·
   cases h
abbrev ulaid : List (String × DataW Unit) := [("math/bits.deBruijn32tab", Rows.laid_math_bits_deBruijn32tab), ("math/bits.deBruijn64tab", Lib.tabData .u8 tzTab), ("internal/strconv.uint64pow10", Lib.tabData .u64 Lib.pow10Tab), ("unicode/utf8.acceptRanges", Rows.laid_unicode_utf8_acceptRanges), ("strconv.ErrRange", Rows.laid_strconv_ErrRange), ("strconv.ErrSyntax", Rows.laid_strconv_ErrSyntax), ("cellarer/status.words", .agg (wordsU.map fun b => .lit (.string b))), ("unicode/utf8.first", Rows.laid_unicode_utf8_first)]
theorem laidU_of {W : World} (hs : W.ShapedOpen Tryz.prog) (h : laidMetH Tryz.prog Rows.statusParsesRow.laid W) : LaidU W := by
 have h0 : laidMet Tryz.prog ulaid W := by
  have e : laidMetH Tryz.prog Rows.statusParsesRow.laid W = laidMet Tryz.prog Rows.statusParsesRow.laid W := MakeChecks.laidMetH_plain _ _ _ (by kernel_rfl)
  rw [e] at h
  exact h
 have h1 := laidMet.tail h0
 have h2 := laidMet.tail h1
 have h3 := laidMet.tail h2
 have h4 := laidMet.tail h3
 have h5 := laidMet.tail h4
 have h6 := laidMet.tail h5
 have hp := laidP_shaped hs
 refine ⟨⟨⟨Lib.tabIs_of_head gPow vtPow Tryz.underlying233 Tryz.underlying104 vcU64 vc20 h2, ?_, ?_, ?_⟩, hp.mx⟩, hp, ?_⟩
 ·
  obtain ⟨a0, s0, hv0, -, -, -⟩ := laid_sentinel h5 gSyn vtSyn Tryz.underlying90 vrowE Tryz.underlying220 Tryz.underlying222 rfl rfl Tryz.underlying9 vcES vcStr
  exact ⟨_, _, hv0⟩
 ·
  obtain ⟨a0, s0, hv0, -, -, -⟩ := laid_sentinel h4 gRng vtRng Tryz.underlying90 vrowE Tryz.underlying220 Tryz.underlying222 rfl rfl Tryz.underlying9 vcES vcStr
  exact ⟨_, _, hv0⟩
 ·
  obtain ⟨cs, hv⟩ := var_of_head h1
  obtain ⟨t, fr, hh⟩ := block_of_var vgTz hv
  have := (Array.getElem?_eq_some_iff.1 hh).1
  omega
 ·
  intro k x hx
  obtain ⟨ps, ⟨g', t', cs, fuel, p, q, hg', ht', hvar, hd, _, _⟩, _⟩ := h6
  obtain rfl := Option.some.inj (gWords.symm.trans hg')
  obtain rfl := Option.some.inj (vtWords.symm.trans ht')
  have hc := cells_of_texts Tryz.underlying133 Tryz.underlying9 vcStr hd k x hx
  have := World.var?_cell gWords hvar k
  rw [this]
  simpa using hc
theorem laidUE_of {W : World} (h : laidMetH Tryz.prog Rows.statusParsesRow.laid W) : LaidE W := by
 have h0 : laidMet Tryz.prog ulaid W := by
  have e : laidMetH Tryz.prog Rows.statusParsesRow.laid W = laidMet Tryz.prog Rows.statusParsesRow.laid W := MakeChecks.laidMetH_plain _ _ _ (by kernel_rfl)
  rw [e] at h
  exact h
 have h1 := laidMet.tail h0
 have h2 := laidMet.tail h1
 have h3 := laidMet.tail h2
 have h4 := laidMet.tail h3
 have h5 := laidMet.tail h4
 have hsz : 9 ≤ W.heap.size := by
  obtain ⟨cs, hv⟩ := var_of_head h1
  obtain ⟨t, fr, hh⟩ := block_of_var vgTz hv
  have := (Array.getElem?_eq_some_iff.1 hh).1
  omega
 refine ⟨laid_of (Lib.tabIs_of_head gTz tTz Tryz.underlying239 Tryz.underlying5 cU8B c64B h1) (Lib.tabIs_of_head gPowB tPowB Tryz.underlying233 Tryz.underlying104 cU64B c20B h2) hsz, ?_, ?_⟩
 ·
  obtain ⟨a0, s0, hv0, -, -, -⟩ := laid_sentinel h5 gSynB tSynB Tryz.underlying90 rowE Tryz.underlying220 Tryz.underlying222 rfl rfl Tryz.underlying9 cES cStrB
  exact ⟨_, _, hv0⟩
 ·
  obtain ⟨a0, s0, hv0, -, -, -⟩ := laid_sentinel h4 gRngB tRngB Tryz.underlying90 rowE Tryz.underlying220 Tryz.underlying222 rfl rfl Tryz.underlying9 cES cStrB
  exact ⟨_, _, hv0⟩
instance : Inhabited Uv := ⟨⟨[], [], 0, [], [], [], [], [], [], .slice none 0 0, .slice none 0 0, .slice none 0 0, .slice none 0 0, .slice none 0 0, .slice none 0 0⟩⟩
instance : Inhabited Gv := ⟨([], .slice none 0 0)⟩
section
variable {H : Type} {enc : TypeId × Value → H}
theorem lift_both {os : Os} {f : FuncId} {fn : Func} {s : ChangeSpec} {laid : List (String × DataW Unit)} (started : os.Started) (noInit : Tryz.checked.prog.inits.idxOf? f = none) (hfn : Tryz.checked.prog.funcs[f]? = some fn)
  (hplain : (laid.all fun x => x.2.handleName?.isNone) = true)
  (witness : ∃ (w : World) (tape : Tape) (i : Input), w.os = os ∧ (w.forCall tape i).Shaped Tryz.checked.prog ∧ i.vars = [] ∧ Input.okWide Tryz.checked.prog (w.forCall tape i) .any w.heap.size f i ∧
   ((s.pre enc Tryz.checked.prog fn [] false (w.forCall tape i).memory i.args ∧ laidMetH Tryz.checked.prog laid (w.forCall tape i).memory) ∧ sizedMet enc Tryz.checked.prog fn (OpenSpec.ofChange s) false (w.forCall tape i).memory i.args) ∧ ({} : Assume).holds Tryz.checked.prog (lone (Frame.enter Tryz.checked.prog f i.args .normal) [] (w.forCall tape i)))
  (contract : ∀ (W : World) (base : Nat) (args : Array Value) (ds gs : List (DataW H)) (before : List MemPlace),
   (∀ (j : Nat) t v, fn.params[j]? = some t → args[j]? = some v → Value.okWide Tryz.checked.prog W .any base t v) →
   DataW.Whole enc Tryz.checked.prog fn.params.toList s.vars false W args.toList ds gs before → W.ShapedOpen Tryz.checked.prog → laidMetH Tryz.checked.prog laid W →
   Calls Tryz.checked.prog f args W fun e W' => ∃ v, e = .returned v ∧ s.post enc Tryz.checked.prog fn false true false false W args v W') :
  ReturnsInHanded {} Tryz.checked os f .any (fun w args => (s.pre enc Tryz.checked.prog fn [] false w args ∧ laidMetH Tryz.checked.prog laid w) ∧ sizedMet enc Tryz.checked.prog fn (OpenSpec.ofChange s) false w args) (s.post enc Tryz.checked.prog fn false true false false) := by
 refine returnsInHanded_of_calls own started noInit witness fun w tape i _ hsh _ hok hpre _ => ?_
 obtain ⟨_, _, _, g, hg, _, _, _, _, hval⟩ := hok
 obtain rfl : g = fn := Option.some.inj (hg.symm.trans hfn)
 obtain ⟨⟨⟨ds, gs, before, hw, _⟩, hl⟩, _⟩ := hpre
 have hl' : laidMetH Tryz.checked.prog laid (w.forCall tape i) := by
  rw [MakeChecks.laidMetH_plain _ _ _ hplain] at hl ⊢
  exact hl.of_heap (by rfl)
 refine (contract (w.forCall tape i) w.heap.size i.args ds gs before hval (DataW.Whole.of_heap (w' := w.forCall tape i) (by rfl) hw) hsh hl').mono fun e W' ⟨v, he, hp⟩ => ?_
 subst he
 exact ChangeSpec.post_blind hp
end
end
section
open Go.RowKit
def namesB (l : List Bs) : Bool := l.all nameB && decide (l.length ≤ 64)
theorem namesB_no {l : List Bs} {i : Nat} {x : Bs} (hx : l[i]? = some x) (h : nameB x = false) : namesB l = false := by
 unfold namesB
 rw [List.all_eq_false.2 ⟨x, List.mem_of_getElem? hx, by rw [h]; simp⟩]; rfl
theorem namesB_yes {l : List Bs} (h : ∀ (j : Nat) x, l[j]? = some x → nameB x = true) : namesB l = decide (l.length ≤ 64) := by
 unfold namesB
 rw [List.all_eq_true.2 (fun x hx => by obtain ⟨j, hj⟩ := List.mem_iff_getElem?.1 hx; exact h j x hj)]; rfl
def RiseU (l : List Bs) : Prop := ∀ (i : Nat) x y, l[i]? = some x → l[i + 1]? = some y → x < y
open Classical in
noncomputable def riseB (l : List Bs) : Bool := decide (l.length ≤ 64 ∧ RiseU l)
open Classical in
theorem riseB_no {l : List Bs} {i : Nat} {x y : Bs} (hx : l[i]? = some x) (hy : l[i + 1]? = some y) (h : ¬ x < y) : riseB l = false := by
 unfold riseB
 exact decide_eq_false (fun g => h (g.2 i x y hx hy))
open Classical in
theorem riseB_yes {l : List Bs} (h : RiseU l) : riseB l = decide (l.length ≤ 64) := by
 unfold riseB
 by_cases g : l.length ≤ 64
 ·
  rw [decide_eq_true g]; exact decide_eq_true ⟨g, h⟩
 ·
  rw [decide_eq_false g]; exact decide_eq_false (fun q => g q.1)
theorem names_ref8 (v : Value) (l : List Bs) (hl : l.length ≤ 90000) (hs : ∀ x ∈ l, x.length ≤ 4000) (w : World) (h : HoldT w v l) : Calls Tryz.prog 59 #[v] w fun e w' => e = .returned (.bool (namesB l)) ∧ w = w' := by
 obtain ⟨a, c, b, o, rfl, hc, ha, hcell⟩ := h
 have HC := Lib.hid hcell
 have HS := Lib.hid hs
 have HNO : Hid (∀ (i : Nat) x, l[i]? = some x → nameB x = false → false = namesB l) := Lib.hid (fun i x hx g => (namesB_no hx g).symm)
 have HYES : Hid ((∀ (j : Nat) x, l[j]? = some x → nameB x = true) → decide ((l.length : Int) ≤ 64) = namesB l) := Lib.hid (fun g => by rw [namesB_yes g]; congr 1; apply propext; omega)
 generalize namesB l = Z at *
 obtain ⟨n, hN⟩ : ∃ n, l.length = n := ⟨_, rfl⟩
 rw [hN] at hc ha hl HYES ⊢
 have HN := Lib.hid hN
 clear hcell hN hs
 go_enter Tryz.func59, Tryz.ntmps59
 go_wp2
 go_loop [3] (fun i => ∃ k : Nat, k ≤ n ∧ i = .int .i64 k ∧ Hid (∀ (j : Nat) x, j < k → l[j]? = some x → nameB x = true)) (fun i => n - (intOf i).toNat)
 case atStart => exact ⟨0, by omega, rfl, Lib.hid (fun j y hj => by omega)⟩
 case round =>
  obtain ⟨k, hk, rfl, H⟩ := hrel
  by_cases hlt : k < n
  ·
   obtain ⟨rfl, hbw⟩ := ha (by omega)
   obtain ⟨x, hx⟩ : ∃ x, l[k]? = some x := ⟨_, List.getElem?_eq_getElem (by rw [HN.out]; exact hlt)⟩
   have c0 := HC.out k x hx
   have RA := fun W => name_ref (⟨x.toArray⟩ : ByteArray) (by rw [sizeOf, bytesOf]; exact HS.out x (List.mem_of_getElem? hx)) W
   rw [bytesOf] at RA
   have HX := Lib.hid hx
   clear hx
   cases hq : nameB x
   ·
    have HF := Lib.hid (HNO.out k x HX.out hq)
    simp only [hq] at RA
    clear hq H HNO HYES HC HS HX
    generalize (⟨x.toArray⟩ : ByteArray) = X at *
    go_wp2_with (go_at_call 58; (with_reducible refine (RA _).mono ?_); rintro e w3 ⟨rfl, rfl⟩)
    go_ret
    exact ⟨retb HF.out, rfl⟩
   ·
    have HK : Hid (∀ (j : Nat) u, j < k + 1 → l[j]? = some u → nameB u = true) := Lib.hid (fun j u hj hu => by
     by_cases e : j = k
     ·
      subst e; rw [HX.out] at hu; cases hu; exact hq
     ·
      exact H.out j u (by omega) hu)
    simp only [hq] at RA
    clear hq H HNO HC HS HX
    generalize (⟨x.toArray⟩ : ByteArray) = X at *
    go_wp2_with (go_at_call 58; (with_reducible refine (RA _).mono ?_); rintro e w3 ⟨rfl, rfl⟩)
    go_round
    case rel => exact ⟨k + 1, by omega, by go_num, HK⟩
    case measure => simp [intOf]; omega
  ·
   obtain rfl : k = n := by omega
   have HF := Lib.hid (HYES.out (fun j x hx => H.out j x (by have := (List.getElem?_eq_some_iff.1 hx).1; rw [HN.out] at this; exact this) hx))
   clear hlt H HNO HYES HC HS
   go_wp2
   go_ret
   exact ⟨retb HF.out, rfl⟩
theorem rising_ref8 (v : Value) (l : List Bs) (hl : l.length ≤ 90000) (w : World) (h : HoldT w v l) : Calls Tryz.prog 63 #[v] w fun e w' => e = .returned (.bool (riseB l)) ∧ ∃ q, w' = w.drewN q := by
 obtain ⟨a, c, b, o, rfl, hc, ha, hcell⟩ := h
 have HC := Lib.hid hcell
 have HNO : Hid (∀ (i : Nat) x y, l[i]? = some x → l[i + 1]? = some y → ¬ x < y → false = riseB l) := Lib.hid (fun i x y hx hy g => (riseB_no hx hy g).symm)
 have HYES : Hid (RiseU l → decide ((l.length : Int) ≤ 64) = riseB l) := Lib.hid (fun g => by rw [riseB_yes g]; congr 1; apply propext; omega)
 generalize riseB l = Z at *
 obtain ⟨n, hN⟩ : ∃ n, l.length = n := ⟨_, rfl⟩
 rw [hN] at hc ha hl HYES ⊢
 have HN := Lib.hid hN
 clear hcell hN
 go_enter Tryz.func63, Tryz.ntmps63
 go_wp2
 go_loopw [3] (fun i wr => ∃ k : Nat, 1 ≤ k ∧ k ≤ n + 1 ∧ i = .int .i64 k ∧ Hid (∀ (j : Nat) x y, j + 1 < k → l[j]? = some x → l[j + 1]? = some y → x < y) ∧ Hid (∃ q, wr = w.drewN q)) (fun i _ => n + 1 - (intOf i).toNat)
 case atStart => exact ⟨1, by omega, by omega, rfl, Lib.hid (fun j x y hj => by omega), Lib.hid ⟨0, rfl⟩⟩
 case round =>
  obtain ⟨k, hk1, hk, rfl, H, HQ⟩ := hrel
  by_cases hlt : k < n
  ·
   obtain ⟨rfl, hbw⟩ := ha (by omega)
   obtain ⟨x, hx⟩ : ∃ x, l[k - 1]? = some x := ⟨_, List.getElem?_eq_getElem (by rw [HN.out]; omega)⟩
   obtain ⟨y, hy⟩ : ∃ y, l[k]? = some y := ⟨_, List.getElem?_eq_getElem (by rw [HN.out]; omega)⟩
   obtain ⟨q, hw⟩ := HQ.out
   have c0 := HC.out (k - 1) x hx
   have c1 := HC.out k y hy
   rw [← World.cell?_drewN w q] at c0 c1
   rw [← hw] at c0 c1
   have HMM : Hid (∀ m', ∃ q, wr.drewN m' = w.drewN q) := Lib.hid (fun m' => ⟨q + m', by rw [hw, World.drewN_drewN]⟩)
   have hls := lessT (⟨x.toArray⟩ : ByteArray) (⟨y.toArray⟩ : ByteArray)
   rw [bytesOf, bytesOf] at hls
   have HX := Lib.hid (And.intro hx (show l[k - 1 + 1]? = some y by rw [show k - 1 + 1 = k by omega]; exact hy))
   clear hx hy hw HQ
   have i0 : (0 : Int) ≤ (k : Int) - 1 := by omega
   have i1 : (k : Int) - 1 < (n : Int) := by omega
   have i2 : ((k : Int) - 1).toNat = k - 1 := by omega
   have i3 : IntKind.i64.wrap ((k : Int) - 1) = (k : Int) - 1 := IntWalk.i64_in _ (by omega)
   have j0 : (0 : Int) ≤ (k : Int) := by omega
   have j1 : (k : Int) < (n : Int) := by omega
   by_cases hq : x < y
   ·
    have HK : Hid (∀ (j : Nat) u v, j + 1 < k + 1 → l[j]? = some u → l[j + 1]? = some v → u < v) := Lib.hid (fun j u v hj hu hv => by
     by_cases e : j + 1 = k
     ·
      obtain rfl : j = k - 1 := by omega
      rw [HX.out.1] at hu; rw [HX.out.2] at hv; cases hu; cases hv; exact hq
     ·
      exact H.out j u v (by omega) hu hv)
    rw [decide_eq_true hq] at hls
    clear hq H HNO HC HX
    generalize (⟨x.toArray⟩ : ByteArray) = X at *
    generalize (⟨y.toArray⟩ : ByteArray) = Y at *
    go_wp2
    go_quiet (fail)
    go_wp2
    go_roundw
    case rel => exact ⟨k + 1, by omega, by omega, by go_num, HK, Lib.hid (HMM.out _)⟩
    case measure => simp [intOf]; omega
   ·
    have HF := Lib.hid (HNO.out (k - 1) x y HX.out.1 HX.out.2 hq)
    rw [decide_eq_false hq] at hls
    clear hq H HNO HYES HC HX
    generalize (⟨x.toArray⟩ : ByteArray) = X at *
    generalize (⟨y.toArray⟩ : ByteArray) = Y at *
    go_wp2
    go_quiet (fail)
    go_wp2
    go_ret
    exact ⟨retb HF.out, HMM.out _⟩
  ·
   have HF := Lib.hid (HYES.out (fun j x y hx hy => H.out j x y (by have := (List.getElem?_eq_some_iff.1 hy).1; rw [HN.out] at this; omega) hx hy))
   clear H HNO HYES HC
   go_wp2
   go_ret
   exact ⟨retb HF.out, HQ.out⟩
end
end Go.Proofs.YtkbkaeefdhkgdaaGreatDoor
