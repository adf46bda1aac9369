/-
  slices.Clone of lists: a slice of its own; nothing old turns.
-/
import Derived.Test.YtogkickaebmeoaaDoorTIns
import Derived.Lib.SliceRun
namespace Go.Proofs.YtogkickaebmeoaaDoor
open Go.RowKit
theorem own_emptyL (w : World) (base : Nat) (hb : base ≤ w.heap.size) : OwnC (w.alloc (.cells #[] 24)) base (.slice (some ⟨w.heap.size, 0, none⟩) 0 0) [] :=
  ⟨rfl, .inr ⟨w.heap.size, 0, #[], rfl, hb, World.alloc_heap_new w _, Nat.le_refl _, Nat.zero_le _, rfl, rfl⟩⟩
def ClonePostL (l : List Lp) (w : World) (e : Ending) (w' : World) : Prop := ∃ v, e = .returned v ∧ OwnC w' w.heap.size v l ∧ Below w.heap.size w w'
set_option maxRecDepth 100000 in
set_option maxHeartbeats 4000000 in
theorem cloneL_any (v : Value) (l : List Lp) (hl : l.length ≤ 90000) (w : World) (h : HoldL w v l) : Calls Tryd.prog 58 #[v] w (ClonePostL l w) := by
  obtain ⟨hin, a, c, b, o, rfl, hc, ha, hcell⟩ := h
  have HC := Lib.hid hcell
  obtain ⟨i0, hi, hz0, hz1, hz2'⟩ := info_parts infoL
  have HB1 := Lib.hid ((Below.refl w.heap.size w).alloc (Nat.le_refl _) (.cells #[] 24))
  have HE := Lib.hid (own_emptyL w w.heap.size (Nat.le_refl _))
  have HD := Lib.hid (And.intro (lcells_len l) (And.intro (lcells_one hin) (lcells_get l)))
  obtain ⟨n, hN⟩ : ∃ n, l.length = n := ⟨_, rfl⟩
  rw [hN] at hc ha hl ⊢
  have HN := Lib.hid hN
  clear hcell hN hin
  have hq : ∀ (w : World) (a : Option Addr) (n c n' c' : Nat), (binOp .eql 25 (.slice a n c) (.slice none n' c')).run Tryd.prog w = .ok (.bool a.isNone) w := fun w a n c n' c' => Lib.run_eql_slice_nil w _ _ a n c n' c' Tryd.underlying25
  cases a with
  | none =>
    have hn : n = 0 := by
      by_cases g : 0 < n
      · cases (ha g).1
      · omega
    have HL : Hid (l = []) := Lib.hid (List.eq_nil_of_length_eq_zero (by rw [HN.out, hn]))
    subst hn
    go_enter Tryd.func58, Tryd.ntmps58
    go_wp2
    go_ret
    exact ⟨_, rfl, by rw [HL.out]; exact OwnC.nil _ _, Below.refl _ _⟩
  | some A =>
    have HNW : Hid (∀ (j : Nat) u, (lcells l)[j]? = some u → (w.alloc (.cells #[] 24)).cell? (A.add j) = some u) := Lib.hid (fun j u hu => by
      obtain ⟨t, x, hx, hh⟩ := HD.out.2.2 j u hu
      have htn : t < n := by rw [← HN.out]; exact (List.getElem?_eq_some_iff.1 hx).1
      obtain ⟨e, hbw⟩ := ha (by omega)
      cases e
      obtain ⟨c0, c1⟩ := HC.out t x hx
      rcases hh with ⟨rfl, rfl⟩ | ⟨rfl, rfl⟩ <;> rw [Addr.add_lit]
      · exact (HB1.out.cell (p := ⟨b, o + t * 2, none⟩) hbw).trans c0
      · exact (HB1.out.cell (p := ⟨b, o + (t * 2 + 1), none⟩) hbw).trans c1)
    clear ha
    go_enter Tryd.func58, Tryd.ntmps58
    go_wp2_with (at_builtin; refine wpList_append_own _ rfl _ _ 25 rfl w.heap.size 24 i0 _ 2 40 Tryd.underlying25 hi hz0 hz1 hz2' rfl (by decide) _ 0 [] rfl HE.out A n _ (lcells l) rfl (by rw [HD.out.1, HN.out]) HNW.out HD.out.2.1 (by unfold maxLen; omega) (by omega) (by simp) ?_)
    intro v' w3 hown' hgrow _
    have HO : Hid (OwnC w3 w.heap.size v' l) := Lib.hid (by unfold OwnC; rw [HN.out]; simpa using hown')
    have HB : Hid (Below w.heap.size w w3) := Lib.hid (HB1.out.grown hgrow (by simp) (fun k hk => by simp [Value.ownBlock] at hk; omega))
    clear hown' hgrow
    go_wp2
    go_ret
    exact ⟨_, rfl, HO.out, HB.out⟩
end Go.Proofs.YtogkickaebmeoaaDoor
