/-
  PathSorts: for every list of texts the law returns true and leaves its arguments as they were. Condition: the listed package-level variables start as the program's text lays them (the card ties them).
-/
import Derived.Test.YtgoekfonbpffdabDoorPFrame
import Derived.Test.YtgoekfonbpffdabDoorPSortsWalk
import Derived.Deep.Strs
namespace Go.Proofs.YtgoekfonbpffdabDoor.pathSorts
open Go.ChangeShapes Go.WideShapes Go.ChangeAt Go.RowKit
theorem str_cells : Tryd.prog.cellsOf 9 = 1 := by kernel_rfl
theorem spot_none {w : World} {a : Addr} {v : Value} (h : w.cell? a = some v) : a.spot = none := by
  unfold World.cell? at h
  split at h
  · split at h
    · cases h
    · rename_i hs; simpa using hs
  · cases h
theorem open_Kstrs {H : Type} {enc : TypeId × Value → H} {W : World} {b0 : Nat} {v : Value} {d : DataW H} {ps : List MemPlace} (hval : Value.okWide Tryd.prog W .any b0 33 v) (hd : DataW.Trod enc Tryd.prog W 0 (fun _ => true) true 33 v d ps) :
    ∃ ls : List Bs, Bare v ∧ ls.length ≤ 9223372036854775807 ∧ (∀ x ∈ ls, x.length ≤ 9223372036854775807) ∧ Holds' W v ls := by
  obtain ⟨fuel, hf⟩ := hd
  obtain ⟨a0, n0, c0, rfl⟩ := okWide_slice Tryd.underlying33 hval
  rcases Deep.open_strs Tryd.underlying33 Tryd.underlying9 str_cells hf with ⟨hcs, _⟩ | ⟨a, n, c, m, Sx, hcs, _, hl, hm, hmm, _, hcell⟩
  · simp only [Value.cells, List.cons.injEq, and_true] at hcs
    rw [show (Value.slice a0 n0 c0) = .slice none 0 0 by simpa [Value.cells] using hcs]
    exact ⟨[], (fun n c e => by cases e; exact ⟨rfl, rfl⟩), by simp, (fun x h => by cases h), ⟨none, 0, 0, 0, rfl, Nat.le_refl _, (fun h => absurd h (by simp)), (fun j l hj => by cases hj)⟩⟩
  · rw [show (Value.slice a0 n0 c0) = .slice (some a) n c by simpa [Value.cells] using hcs]
    simp only [if_true] at hmm
    subst hmm
    unfold maxLen at hm
    have hlen : ((List.range n).map fun i => (Sx i).data.toList).length = n := by simp
    refine ⟨(List.range n).map fun i => (Sx i).data.toList, (fun n c e => by cases e), by rw [hlen]; omega, fun x hx => ?_, ⟨some a, m, a.block, a.off, by rw [hlen], by rw [hlen]; exact hl, fun h0 => ?_, fun j l hj => ?_⟩⟩
    · obtain ⟨i, hi, rfl⟩ := List.mem_map.1 hx
      have := (hcell i (by have := List.mem_range.1 hi; omega)).2
      unfold maxLen at this
      rw [← Lib.size_eq]; omega
    · rw [hlen] at h0
      have h1 := (hcell 0 (by omega)).1
      simp only [Addr.add] at h1
      have hsp := spot_none (by simpa using h1)
      refine ⟨by cases a; simp_all, ?_⟩
      have h2 : W.cell? a = some (.string (Sx 0)) := by simpa using h1
      unfold World.cell? at h2
      split at h2
      · rename_i hq; exact (Array.getElem?_eq_some_iff.1 hq).1
      · cases h2
    · have hjl := (List.getElem?_eq_some_iff.1 hj).1
      rw [hlen] at hjl
      rw [List.getElem?_map, List.getElem?_range hjl] at hj
      obtain rfl := Option.some.inj hj
      have h1 := (hcell j (by omega)).1
      have h0 := (hcell 0 (by omega)).1
      have hsp : a.spot = none := spot_none (by simpa [Addr.add] using h0)
      have ea : a = ⟨a.block, a.off, none⟩ := by cases a; simp_all
      rw [ea] at h1
      by_cases hj0 : j = 0
      · subst hj0; simpa [Addr.add] using h1
      · simpa [Addr.add, hj0] using h1
set_option maxRecDepth 100000 in
theorem contract (H : Type) (enc : TypeId × Value → H) (W : World) (base : Nat) (args : Array Value) (ds gs : List (DataW H)) (before : List MemPlace)
    (hval : ∀ (j : Nat) t v, Tryd.f8.params[j]? = some t → args[j]? = some v → Value.okWide Tryd.prog W .any base t v)
    (hW : DataW.Whole enc Tryd.prog Tryd.f8.params.toList Rows.pathSortsSpec.vars false W args.toList ds gs before) (hL : W.ShapedOpen Tryd.prog) :
    Calls Tryd.prog 8 args W fun e W' => ∃ v, e = .returned v ∧ Rows.pathSortsSpec.post enc Tryd.prog Tryd.f8 false true false false W args v W' := by
  have hW' := hW
  obtain ⟨p, q, hA0, hV, rfl, hfz, hnd⟩ := hW
  have hA : DataW.TrodAll enc Tryd.prog W 0 (fun _ => true) true Tryd.f8.params.toList args.toList ds p := hA0
  rw [Tryd.params8] at hA hval
  obtain ⟨v0, vs0, d0, ds0, p0, q0, hargs, rfl, rfl, h0, r0⟩ := trodAll_cons hA
  obtain ⟨rfl, rfl, rfl⟩ := trodAll_nil r0
  obtain rfl : args = #[v0] := by cases args; simp_all
  obtain ⟨ls, hb, hl, hs, hh⟩ := open_Kstrs (hval 0 33 v0 rfl rfl) h0
  refine (pathSortsw.walk v0 ls hb hl hs W hh (laidP_shaped hL)).mono fun e W' ⟨he, hb⟩ => ?_
  subst he
  exact ⟨_, rfl, law_post outB (by kernel_rfl) (by kernel_rfl) Tryd.underlying4 rfl hW' ⟨rfl, rfl, rfl⟩ hb⟩
set_option maxRecDepth 100000 in
theorem lifted (os : Os) (started : os.Started) (H : Type) (enc : TypeId × Value → H) :
    ReturnsInHanded {} Tryd.checked os 8 .any (fun w args => (Rows.pathSortsSpec.pre enc Tryd.prog Tryd.f8 [] false w args ∧ laidMetH Tryd.prog Rows.pathSortsRow.laid w) ∧ sizedMet enc Tryd.prog Tryd.f8 (OpenSpec.ofChange Rows.pathSortsSpec) false w args)
      (Rows.pathSortsSpec.post enc Tryd.prog Tryd.f8 false true false false) := by
  refine lift_shaped (laid := Rows.pathSortsRow.laid) started (by kernel_rfl) Tryd.func8
    (ChangeSpec.witness_shaped (enc := enc) (C := Tryd.checked) (os := os) (X := fun w _ => laidMetH Tryd.prog Rows.pathSortsRow.laid w) false (World.laidAll Tryd.prog os Rows.pathSortsRow.laid) #[.slice none 0 0] 8 (World.laidAll_os _ _ _) (World.shaped_of_ZipB (by kernel_rfl) (by kernel_rfl)) (by kernel_rfl) (by kernel_rfl) (by kernel_rfl)
      (by rw [MakeChecks.laidMetH_plain _ _ _ (by kernel_rfl)]; exact laidMet_laidAll _ (by kernel_rfl) (by kernel_rfl))) ?_
  intro W base args ds gs before hval0 hW hL
  exact contract H enc W base args ds gs before hval0 hW hL
theorem said : Rows.PathSortsSaid :=
  OpenClaim.holds_of_wide 8 Tryd.f8 rfl rfl rfl rfl rfl rfl rfl ⟨rfl, rfl, rfl, rfl, rfl⟩ rfl rfl rfl rfl rfl (by kernel_rfl) Tryd.func8 (by kernel_rfl)
    (of_decide_eq_true (by kernel_rfl)) (by unfold Func.isWrapper; first | (rw [if_pos (by decide +kernel)]; kernel_rfl) | (rw [if_neg (by decide +kernel)]; exact ⟨rfl, rfl⟩))
    (fun os started H enc _ => lifted os started H enc)
theorem plain (f : FuncId) (fn : Func) (hf : Tryd.pinned.checked.prog.funcNamed "cellarer/cellarerlaw02.PathSorts" = some f) (hfn : Tryd.pinned.checked.prog.funcs[f]? = some fn) :
    false = Tryd.pinned.checked.prog.looks [] ∧ ∀ (j : Nat) t, fn.params[j]? = some t → Tryd.pinned.checked.prog.wantsStandIn t = false := by
  obtain rfl : f = 8 := Option.some.inj ((show Tryd.prog.funcNamed "cellarer/cellarerlaw02.PathSorts" = some 8 by kernel_rfl).symm.trans hf) |>.symm
  obtain rfl : fn = Tryd.f8 := (Option.some.inj (Tryd.func8.symm.trans hfn)).symm
  refine ⟨by kernel_rfl, fun j t ht => ?_⟩
  have hall : (Tryd.f8.params.toList.all fun u => !Tryd.prog.wantsStandIn u) = true := by kernel_rfl
  exact (show Tryd.prog.wantsStandIn t = false by simpa using List.all_eq_true.1 hall t (Array.mem_toList_iff.2 (Array.mem_of_getElem? ht)))
theorem card : Rows.PathSortsCardSaid :=
  Claim7.holds_tied_plain_at .later [] _ _ _ _ said (fun _ h => by cases h) (by kernel_rfl) (fun _ h => by cases h) pathSorts_row_tie rfl ⟨rfl, rfl⟩ (by kernel_rfl) rfl plain (by kernel_rfl)
#print axioms card
end Go.Proofs.YtgoekfonbpffdabDoor.pathSorts
