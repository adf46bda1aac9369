/-
  StanzaPrints: for every argument the law returns true and leaves its arguments as they were.
-/
import Derived.Test.YtiikdphilbibnaaBFrame
import Derived.Test.YtiikdphilbibnaaSPrintsWalk
import Derived.Deep.SlicePairs
namespace Go.Proofs.Ytiikdphilbibnaa.stanzaPrints
open Go.ChangeShapes Go.WideShapes Go.ChangeAt Go.RowKit
theorem spot_none {w : World} {a : Addr} {v : Value} (h : w.cell? a = some v) : a.spot = none := by
  unfold World.cell? at h
  split at h
  · split at h
    · cases h
    · rename_i hs; simpa using hs
  · cases h
theorem fieldF : ∃ f0 f1 : Field, Try.prog.underlying 39 = some (.struct #[f0, f1]) ∧ f0.offset = 0 ∧ f1.offset = 1 ∧ f0.type = 9 ∧ f1.type = 9 := ⟨_, _, Try.underlying39, rfl, rfl, rfl, rfl⟩
theorem cellsC : Try.prog.cellsOf 39 = 2 ∧ Try.prog.cellsOf 9 = 1 ∧ Try.prog.cellsOf 37 = 1 := ⟨by kernel_rfl, by kernel_rfl, by kernel_rfl⟩
theorem lit_addr {W : World} {a : Addr} {u : Value} (h : W.cell? (a.add 0) = some u) : ∃ b o, a = ⟨b, o, none⟩ ∧ b < W.heap.size := by
  have h2 : W.cell? a = some u := by simpa [Addr.add] using h
  have hs := spot_none h2
  refine ⟨a.block, a.off, by cases a; simp_all, ?_⟩
  unfold World.cell? at h2
  split at h2
  · rename_i hq; exact (Array.getElem?_eq_some_iff.1 hq).1
  · cases h2
theorem open_fields {H : Type} {enc : TypeId × Value → H} {W : World} {fuel : Nat} {V : Value} {x : DataW H × List MemPlace} (h : DataW.trod enc Try.prog W 0 (fun _ => true) true fuel 37 [V] = some x) : ∃ st : List Fld, HoldR 2 W V (st.map rowF) := by
  obtain ⟨f0, f1, hs, o0, o1, e0, e1⟩ := fieldF
  rcases Deep.open_slice_pairs Try.underlying37 hs cellsC.1 o0 o1 (by rw [e0]; exact cellsC.2.1) (by rw [e1]; exact cellsC.2.1) h with ⟨hcs, _⟩ | ⟨a, len, cap, m, n, V0, V1, D0, D1, P0, P1, hcs, _, hl, hm, hmm, _, hcell⟩
  · simp only [List.cons.injEq, and_true] at hcs
    subst hcs
    exact ⟨[], none, 0, 0, 0, rfl, Nat.le_refl _, (fun h => absurd h (by simp)), (fun j l hj => by simp at hj)⟩
  · simp only [List.cons.injEq, and_true] at hcs
    subst hcs
    simp only [if_true] at hmm
    subst hmm
    have each : ∀ i, i < m → ∃ X Y : ByteArray, W.cell? (a.add (i * 2)) = some (.string X) ∧ W.cell? (a.add (i * 2 + 1)) = some (.string Y) := fun i hi => by
      obtain ⟨c0, c1, t0, t1⟩ := hcell i hi
      rw [e0] at t0
      rw [e1] at t1
      obtain ⟨X, hX, _⟩ := DataW.trod_string Try.underlying9 t0
      obtain ⟨Y, hY, _⟩ := DataW.trod_string Try.underlying9 t1
      simp only [List.cons.injEq, and_true] at hX hY
      rw [hX] at c0
      rw [hY] at c1
      exact ⟨X, Y, c0, c1⟩
    rcases Nat.eq_zero_or_pos len with h0 | h0
    · subst h0
      exact ⟨[], some a, m, 0, 0, rfl, Nat.zero_le _, (fun h => absurd h (by simp)), (fun j l hj => by simp at hj)⟩
    · obtain ⟨X0, Y0, q0, _⟩ := each 0 (by omega)
      rw [Nat.zero_mul] at q0
      obtain ⟨b, o, rfl, hb⟩ := lit_addr q0
      simp only [Addr.add_lit] at each
      obtain ⟨fx, hfx⟩ : ∃ fx : Nat → Fld, ∀ i, i < m → W.cell? ⟨b, o + i * 2, none⟩ = some (.string ⟨(fx i).1.toArray⟩) ∧ W.cell? ⟨b, o + (i * 2 + 1), none⟩ = some (.string ⟨(fx i).2.toArray⟩) := by
        refine ⟨fun i => if hi : i < m then ((each i hi).choose.data.toList, (each i hi).choose_spec.choose.data.toList) else ([], []), fun i hi => ?_⟩
        have hs := (each i hi).choose_spec.choose_spec
        simp only [dif_pos hi]
        exact ⟨hs.1, hs.2⟩
      refine ⟨(List.range len).map fx, some ⟨b, o, none⟩, m, b, o, by simp, by simpa using hl, fun _ => ⟨rfl, hb⟩, fun j r hj i x hi hx => ?_⟩
      have hjl : j < len := by have := (List.getElem?_eq_some_iff.1 hj).1; simpa using this
      rw [List.getElem?_map, List.getElem?_map, List.getElem?_range hjl] at hj
      simp only [Option.map_some, Option.some.injEq] at hj
      subst hj
      obtain ⟨g0, g1⟩ := hfx j (by omega)
      match i, hi with
      | 0, _ => simp [rowF] at hx; subst hx; exact g0
      | 1, _ => simp [rowF] at hx; subst hx; exact g1
theorem open_Kstanzas {H : Type} {enc : TypeId × Value → H} {W : World} {b0 : Nat} {v : Value} {d : DataW H} {ps : List MemPlace} (hval : Value.okWide Try.prog W .any b0 24 v) (hd : DataW.Trod enc Try.prog W 0 (fun _ => true) true 24 v d ps) :
    ∃ l : List (List Fld), HoldRR 2 W v (l.map (·.map rowF)) := by
  obtain ⟨fuel, hf⟩ := hd
  obtain ⟨a0, n0, c0, rfl⟩ := okWide_slice Try.underlying24 hval
  rcases Deep.open_slice1 Try.underlying24 cellsC.2.2 hf with ⟨hcs, _⟩ | ⟨a, len, cap, m, n, V, D, Pl, hcs, _, hl, hm, hmm, _, hcell⟩
  · simp only [Value.cells, List.cons.injEq, and_true] at hcs
    rw [hcs]
    exact ⟨[], none, 0, 0, 0, rfl, Nat.le_refl _, (fun h => absurd h (by simp)), (fun j l hj => by simp at hj)⟩
  · simp only [Value.cells, List.cons.injEq, and_true] at hcs
    rw [hcs]
    simp only [if_true] at hmm
    subst hmm
    rcases Nat.eq_zero_or_pos len with h0 | h0
    · subst h0
      exact ⟨[], some a, m, 0, 0, rfl, Nat.zero_le _, (fun h => absurd h (by simp)), (fun j l hj => by simp at hj)⟩
    · have q0 := (hcell 0 (by omega)).1
      obtain ⟨b, o, rfl, hb⟩ := lit_addr q0
      obtain ⟨fx, hfx⟩ : ∃ fx : Nat → List Fld, ∀ i, i < m → HoldR 2 W (V i) ((fx i).map rowF) := by
        refine ⟨fun i => if hi : i < m then (open_fields (hcell i hi).2).choose else [], fun i hi => ?_⟩
        simp only [dif_pos hi]
        exact (open_fields (hcell i hi).2).choose_spec
      refine ⟨(List.range len).map fx, some ⟨b, o, none⟩, m, b, o, by simp, by simpa using hl, fun _ => ⟨rfl, hb⟩, fun j rs hj => ?_⟩
      have hjl : j < len := by have := (List.getElem?_eq_some_iff.1 hj).1; simpa using this
      rw [List.getElem?_map, List.getElem?_map, List.getElem?_range hjl] at hj
      simp only [Option.map_some, Option.some.injEq] at hj
      subst hj
      have hc := (hcell j (by omega)).1
      rw [Addr.add_lit] at hc
      exact ⟨V j, hc, hfx j (by omega)⟩
set_option maxRecDepth 100000 in
theorem contract (H : Type) (enc : TypeId × Value → H) (W : World) (base : Nat) (args : Array Value) (ds gs : List (DataW H)) (before : List MemPlace)
    (hval : ∀ (j : Nat) t v, Try.f4.params[j]? = some t → args[j]? = some v → Value.okWide Try.prog W .any base t v)
    (hW : DataW.Whole enc Try.prog Try.f4.params.toList Rows.stanzaPrintsSpec.vars false W args.toList ds gs before) :
    Calls Try.prog 4 args W fun e W' => ∃ v, e = .returned v ∧ Rows.stanzaPrintsSpec.post enc Try.prog Try.f4 false true false false W args v W' := by
  have hW' := hW
  obtain ⟨p, q, hA0, hV, rfl, hfz, hnd⟩ := hW
  have hA : DataW.TrodAll enc Try.prog W 0 (fun _ => true) true Try.f4.params.toList args.toList ds p := hA0
  rw [Try.params4] at hA hval
  obtain ⟨v0, vs0, d0, ds0, p0, q0, hargs, rfl, rfl, h0, r0⟩ := trodAll_cons hA
  obtain ⟨rfl, rfl, rfl⟩ := trodAll_nil r0
  obtain rfl : args = #[v0] := by cases args; simp_all
  obtain ⟨l, hh⟩ := open_Kstanzas (hval 0 24 v0 rfl rfl) h0
  refine (stanzaPrintsw.walk v0 l W hh).mono fun e W' ⟨he, hb⟩ => ?_
  subst he
  exact ⟨_, rfl, law_post outB (by kernel_rfl) (by kernel_rfl) Try.underlying4 rfl hW' ⟨rfl, rfl, rfl⟩ hb⟩
set_option maxRecDepth 100000 in
theorem lifted (os : Os) (started : os.Started) (H : Type) (enc : TypeId × Value → H) :
    ReturnsInHanded {} Try.checked os 4 .any (Rows.stanzaPrintsSpec.pre6 enc Try.prog Try.f4 [] false) (Rows.stanzaPrintsSpec.post enc Try.prog Try.f4 false true false false) := by
  refine returnsInHanded_of_change (C := Try.checked) own started (by kernel_rfl) Try.func4
    (ChangeSpec.witness6 (enc := enc) (C := Try.checked) (os := os) false ⟨#[], #[.slice none 0 0], []⟩ 8 (by kernel_rfl) (by kernel_rfl) (by kernel_rfl) (by kernel_rfl)) ?_
  intro W base args ds gs before hval0 hW _ _
  exact contract H enc W base args ds gs before hval0 hW
theorem said : Rows.StanzaPrintsSaid :=
  OpenClaim.holds_of_wide 4 Try.f4 rfl rfl rfl rfl rfl rfl rfl ⟨rfl, rfl, rfl, rfl, rfl⟩ rfl rfl rfl rfl rfl (by kernel_rfl) Try.func4 (by kernel_rfl)
    (of_decide_eq_true (by kernel_rfl)) (by unfold Func.isWrapper; first | (rw [if_pos (by decide +kernel)]; kernel_rfl) | (rw [if_neg (by decide +kernel)]; exact ⟨rfl, rfl⟩))
    (fun os started H enc _ => lifted os started H enc)
#print axioms said
end Go.Proofs.Ytiikdphilbibnaa.stanzaPrints
