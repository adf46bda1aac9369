/-
  slices.Clone of diversions: a list of its own; nothing old turns.
-/
import Derived.Test.YtogkickaebmeoaaDoorDPutRef
import Derived.Lib.SliceRun
namespace Go.Proofs.YtogkickaebmeoaaDoor
open Go.RowKit
theorem dcells_get : ∀ (l : List Dv) (j : Nat) (u : Value), (dcells l)[j]? = some u → ∃ t x, l[t]? = some x ∧ (j = t * 3 ∧ u = .string (bsA x.1) ∨ j = t * 3 + 1 ∧ u = .string (bsA x.2.1) ∨ j = t * 3 + 2 ∧ u = .string (bsA x.2.2))
  | [], j, u, h => by simp [dcells] at h
  | x :: l, j, u, h => by
    have e : dcells (x :: l) = [.string (bsA x.1), .string (bsA x.2.1), .string (bsA x.2.2)] ++ dcells l := by simp [dcells]
    rw [e] at h
    by_cases h3 : j < 3
    · rw [List.getElem?_append_left (by simpa using h3)] at h
      refine ⟨0, x, rfl, ?_⟩
      match j, h3 with
      | 0, _ => simp at h; exact .inl ⟨rfl, h.symm⟩
      | 1, _ => simp at h; exact .inr (.inl ⟨rfl, h.symm⟩)
      | 2, _ => simp at h; exact .inr (.inr ⟨rfl, h.symm⟩)
    · rw [List.getElem?_append_right (by simp; omega)] at h
      obtain ⟨t, y, hy, hh⟩ := dcells_get l _ u h
      refine ⟨t + 1, y, by simpa using hy, ?_⟩
      simp only [List.length_cons, List.length_nil] at hh
      rcases hh with ⟨h1, h2⟩ | ⟨h1, h2⟩ | ⟨h1, h2⟩
      · exact .inl ⟨by omega, h2⟩
      · exact .inr (.inl ⟨by omega, h2⟩)
      · exact .inr (.inr ⟨by omega, h2⟩)
theorem dcells_len (l : List Dv) : (dcells l).length = l.length * 3 := by
  induction l with
  | nil => rfl
  | cons x l ih =>
    have e : dcells (x :: l) = [.string (bsA x.1), .string (bsA x.2.1), .string (bsA x.2.2)] ++ dcells l := by simp [dcells]
    rw [e, List.length_append, ih]; simp; omega
theorem dcells_one (l : List Dv) : ∀ u ∈ dcells l, u.oneCell' = true := fun u hu => by
  obtain ⟨j, hj⟩ := List.mem_iff_getElem?.1 hu
  obtain ⟨t, x, -, h | h | h⟩ := dcells_get l j u hj <;> (rw [h.2]; rfl)
theorem own_empty (w : World) (base : Nat) (hb : base ≤ w.heap.size) : OwnD (w.alloc (.cells #[] 54)) base (.slice (some ⟨w.heap.size, 0, none⟩) 0 0) [] :=
  ⟨rfl, .inr ⟨w.heap.size, 0, #[], rfl, hb, World.alloc_heap_new w _, Nat.le_refl _, Nat.zero_le _, rfl, rfl⟩⟩
def ClonePost (l : List Dv) (w : World) (e : Ending) (w' : World) : Prop := ∃ v, e = .returned v ∧ OwnD w' w.heap.size v l ∧ Below w.heap.size w w'
set_option maxRecDepth 100000 in
set_option maxHeartbeats 4000000 in
theorem clone_any (v : Value) (l : List Dv) (hl : l.length ≤ 90000) (w : World) (h : HoldD w v l) : Calls Tryd.prog 91 #[v] w (ClonePost l w) := by
  obtain ⟨a, c, b, o, rfl, hc, ha, hcell⟩ := h.parts
  have HC := Lib.hid hcell
  obtain ⟨i0, hi, hz0, hz1, hz2'⟩ := info_parts infoD
  have HB1 := Lib.hid ((Below.refl w.heap.size w).alloc (Nat.le_refl _) (.cells #[] 54))
  have HE := Lib.hid (own_empty w w.heap.size (Nat.le_refl _))
  have HD := Lib.hid (And.intro (dcells_len l) (And.intro (dcells_one l) (dcells_get l)))
  obtain ⟨n, hN⟩ : ∃ n, l.length = n := ⟨_, rfl⟩
  rw [hN] at hc ha hl ⊢
  have HN := Lib.hid hN
  clear hcell hN h
  have hq : ∀ (w : World) (a : Option Addr) (n c n' c' : Nat), (binOp .eql 52 (.slice a n c) (.slice none n' c')).run Tryd.prog w = .ok (.bool a.isNone) w := fun w a n c n' c' => Lib.run_eql_slice_nil w _ _ a n c n' c' Tryd.underlying52
  cases a with
  | none =>
    have hn : n = 0 := by
      by_cases g : 0 < n
      · cases (ha g).1
      · omega
    have HL : Hid (l = []) := Lib.hid (List.eq_nil_of_length_eq_zero (by rw [HN.out, hn]))
    subst hn
    go_enter Tryd.func91, Tryd.ntmps91
    go_wp2
    go_ret
    exact ⟨_, rfl, by rw [HL.out]; exact OwnD.nil _ _, Below.refl _ _⟩
  | some A =>
    have HNW : Hid (∀ (j : Nat) u, (dcells l)[j]? = some u → (w.alloc (.cells #[] 54)).cell? (A.add j) = some u) := Lib.hid (fun j u hu => by
      obtain ⟨t, x, hx, hh⟩ := HD.out.2.2 j u hu
      have htn : t < n := by rw [← HN.out]; exact (List.getElem?_eq_some_iff.1 hx).1
      obtain ⟨e, hbw⟩ := ha (by omega)
      cases e
      obtain ⟨c0, c1, c2⟩ := HC.out t x hx
      rcases hh with ⟨rfl, rfl⟩ | ⟨rfl, rfl⟩ | ⟨rfl, rfl⟩ <;> rw [Addr.add_lit]
      · exact (HB1.out.cell (p := ⟨b, o + t * 3, none⟩) hbw).trans c0
      · exact (HB1.out.cell (p := ⟨b, o + (t * 3 + 1), none⟩) hbw).trans c1
      · exact (HB1.out.cell (p := ⟨b, o + (t * 3 + 2), none⟩) hbw).trans c2)
    clear ha
    go_enter Tryd.func91, Tryd.ntmps91
    go_wp2_with (at_builtin; refine wpList_append_own _ rfl _ _ 52 rfl w.heap.size 54 i0 _ 3 48 Tryd.underlying52 hi hz0 hz1 hz2' rfl (by decide) _ 0 [] rfl HE.out A n _ (dcells l) rfl (by rw [HD.out.1, HN.out]) HNW.out HD.out.2.1 (by unfold maxLen; omega) (by omega) (by simp) ?_)
    intro v' w3 hown' hgrow _
    have HO : Hid (OwnD w3 w.heap.size v' l) := Lib.hid (by unfold OwnD; rw [HN.out]; simpa using hown')
    have HB : Hid (Below w.heap.size w w3) := Lib.hid (HB1.out.grown hgrow (by simp) (fun k hk => by simp [Value.ownBlock] at hk; omega))
    clear hown' hgrow
    go_wp2
    go_ret
    exact ⟨_, rfl, HO.out, HB.out⟩
end Go.Proofs.YtogkickaebmeoaaDoor
