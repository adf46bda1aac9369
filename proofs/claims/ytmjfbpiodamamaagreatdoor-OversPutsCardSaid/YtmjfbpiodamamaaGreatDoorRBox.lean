/-
  A range over a function whose iterator keeps a state of its own in one cell: what the caller owes where no round leaves the loop.
-/
import Derived.Test.YtmjfbpiodamamaaGreatDoorLBase
import Derived.RangeFuncBox
import Derived.RangeFuncNested
import Derived.RangeFuncBound
import Derived.RangeFuncCalls
import Derived.RangeFuncLeaves
import Derived.Deep.Heap
namespace Go.Proofs.YtmjfbpiodamamaaGreatDoor
open Go.RowKit
/-- The blocks from lo on, below hi, lie as they lay. -/
def MidKept (lo hi : Nat) (A B : World) : Prop := ∀ k, lo ≤ k → k < hi → B.heap[k]? = A.heap[k]?
theorem MidKept.refl (lo hi : Nat) (A : World) : MidKept lo hi A A := fun _ _ _ => rfl
theorem MidKept.trans {lo hi : Nat} {A B C : World} (h : MidKept lo hi A B) (g : MidKept lo hi B C) : MidKept lo hi A C := fun k a b => (g k a b).trans (h k a b)
theorem MidKept.obj {lo hi : Nat} (W : World) {l : Nat} (o : Obj) (h : hi ≤ l) : MidKept lo hi W (W.putObj l o) := fun k _ b => World.putObj_heap_other (by omega)
theorem MidKept.cell {lo hi : Nat} {A B : World} (h : MidKept lo hi A B) {k i : Nat} (h1 : lo ≤ k) (h2 : k < hi) : B.cell? ⟨k, i, none⟩ = A.cell? ⟨k, i, none⟩ := World.cell?_of_block (h k h1 h2)
theorem MidKept.frozen {lo hi : Nat} {A B : World} (h : MidKept lo hi A B) {k i : Nat} (h1 : lo ≤ k) (h2 : k < hi) : B.frozen? ⟨k, i, none⟩ = A.frozen? ⟨k, i, none⟩ := World.frozen?_of_block (h k h1 h2)
/-- What the caller's predicate abides: what an iterator does, and a store into its own cell. -/
def BoxAbides (B : Nat) (box : Addr) {β : Type} (J : β → World → Prop) : Prop := AbidesFrom B J ∧ ∀ s W v, J s W → J s (W.setCell box v)
/-- The iterator's promise: all come, one by one. -/
def GivesBox {α : Type} (F : Fence) (n : Nat) (P : Program) (g : Nat) (lb : Array Value) (encs : α → Array Value) (lo hi : Nat) (box : Addr) (S : List α → Prop) (N : Nat) (w : World) : Prop :=
  ∀ (l : Nat) (J : List α → World → Prop) (W : World), Below w.heap.size w W → BoxAbides W.heap.size box J →
    (∀ pre x W1, J pre W1 → pre.length < N → YieldAt F (n - 1) P l (encs x) W1 fun e W' => e = .returned (.bool true) ∧ J (pre ++ [x]) W' ∧ MidKept lo hi W1 W') →
    J [] W → CallsIn F n P g (#[.func (.yield l) #[] #[]] ++ lb) W fun e W' => (∃ v, e = .returned v) ∧ ∃ xs, S xs ∧ J xs W'
/-- How a round ends. -/
def goneOn {α : Type} (lo hi : Nat) (I : List α → World → Prop) (xs : List α) (W : World) : Exit → Act → World → Prop
  | .normal, _, W' => KeepsOthers W W' ∧ MidKept lo hi W W' ∧ I xs W'
  | .ret, _, _ => False
  | .exit _, _, _ => False
  | .goto _, _, _ => False
  | .panic _, _, _ => False
  | .outgrown, _, _ => False
/-- The loop's record: it stands ready, or works. -/
def recOf (f : FuncId) (a : Act) (ps : Array Tmp) (assign body : Code) (D : Nat) (st : LoopState) : Loop := { state := st, pending := none, fn := f, tmps := a.tmps, params := ps, assign, body, defers := D }
variable {F : Fence} {n : Nat} {P : Program}
theorem range_box {α : Type} {g : Operand} {ps : Array Tmp} {assign body : Code} {Q : Exit → Act → World → Prop} {a : Act} {w : World} {gf : Nat} {lb : Array Value} {encs : α → Array Value} {lo hi : Nat} {box : Addr} {S : List α → Prop} {N : Nat}
    (hro : F.round = none) (h1 : 1 ≤ n) (hg : a.eval g = .func (.func gf) #[] lb) (hFg : F.fn gf) (eg : ∀ args w, (callFunc gf args).run P w = .ok (.enter gf args) w)
    (hit : GivesBox F (n - 1) P gf lb encs lo hi box S N w) (hhi : hi ≤ w.heap.size) (hbx : box.block < w.heap.size) (hps : ∀ x, (encs x).size = ps.size)
    (I : List α → World → Prop) (hI : OwnFrom w.heap.size I) (hIs : ∀ pre W v, I pre W → I pre (W.setCell box v)) (h0 : I [] w) (a₁ : α → Act)
    (hassign : ∀ (l : Nat) (x : α) (W : World) (K : Act → World → Prop), K (a₁ x) W →
      assign.wpIn (F.inRound l) (n - 1 - 1) P (Exit.then K (fun _ _ _ => False)) { tmps := (ps.zip (encs x)).foldl (fun t (p, v) => t.setIfInBounds p v) a.tmps, defers := [] } W)
    (hbody : ∀ (l : Nat) (pre : List α) (x : α) (W : World), I pre W → pre.length < N → body.wpIn (F.inRound l) (n - 1 - 1) P (goneOn lo hi I (pre ++ [x]) W) (a₁ x) W)
    (hdone : ∀ (D : Nat) (xs : List α) (W : World), w.heap.size ≤ D → S xs → I xs W → W.heap[D]? = some (.deferred (some [])) → Q .normal { a with defers := { target := .collected D, args := #[] } :: a.defers } W) :
    (Code.rangeFunc g ps assign body).wpIn F n P Q a w := by
  refine wpIn_rangeFunc fun f hf => ?_
  rw [hro]
  generalize hD : w.heap.size = D at *
  have hsz : (w.alloc (.deferred (some []))).heap.size = D + 1 := by rw [World.size_alloc, hD]
  let R : LoopState → Loop := recOf f a ps assign body D
  let V : World := (w.alloc (.deferred (some []))).alloc (.loop (R .ready))
  have vL : V.heap[D + 1]? = some (.loop (R .ready)) := by rw [← hsz]; exact World.alloc_heap_new _ _
  have vK : V.heap[D]? = some (.deferred (some [])) := by
    have e1 : (w.alloc (.deferred (some []))).heap[D]? = some (.deferred (some [])) := by rw [← hD]; exact World.alloc_heap_new w _
    exact (Below.heap_alloc _ _ _ (by omega)).trans e1
  have vI : I [] V := hI.alloc _ (hI.alloc _ h0)
  have vB : Below w.heap.size w V := ((Below.refl _ w).alloc (Nat.le_refl _) _).alloc (by rw [hsz]; omega) _
  have hen : (Instr.enterLoop f a.tmps ps assign body none).run P w = .ok (D + 1, [{ target := .collected D, args := #[] }]) V := by
    have e := run_enterLoop_outer (P := P) (w := w) f a.tmps ps assign body
    rw [hD] at e
    exact e
  let J : List α → World → Prop := fun pre W => I pre W ∧ W.heap[D + 1]? = some (.loop (R .ready)) ∧ W.heap[D]? = some (.deferred (some []))
  have vS : V.heap.size = D + 2 := by show ((w.alloc _).alloc _).heap.size = _; rw [World.size_alloc, hsz]
  have hJ : BoxAbides V.heap.size box J := by
    refine ⟨fun s A B row hs hgr hr => ?_, fun s W v hs => ⟨hIs s W v hs.1, ?_, ?_⟩⟩
    · have hr2 : ∀ r, row = some r → ∃ o : Obj, A.heap[r]? = some o ∧ o.isWalk = true := fun r e => (hr r e).2
      refine ⟨hI s A B row hs.1 hgr (fun r e => ?_), (grownBy_keeps hgr hr2 hs.2.1 rfl).trans hs.2.1, (grownBy_keeps hgr hr2 hs.2.2 rfl).trans hs.2.2⟩
      obtain ⟨hB, o, ho, hw⟩ := hr r e
      exact ⟨by omega, o, ho, Obj.not_cells_of_walk hw⟩
    · rw [Deep.blk_setCell_other _ _ _ _ (by omega)]; exact hs.2.1
    · rw [Deep.blk_setCell_other _ _ _ _ (by omega)]; exact hs.2.2
  refine ⟨D + 1, [{ target := .collected D, args := #[] }], V, { target := .fn (.func gf) lb, args := #[.func (.yield (D + 1)) #[] #[]] }, V, gf, #[.func (.yield (D + 1)) #[] #[]] ++ lb, V, hen, ?_, ?_, ?_, fun _ => h1, ?_⟩
  · simp only [_root_.Go.resolve, hg]; simp [go_sem]
  · intro f' e; simp [Target.leads] at e; subst e; exact hFg
  · simp [invoke, go_sem, eg]
  · have one : ∀ pre x W, J pre W → pre.length < N → YieldAt F (n - 1 - 1) P (D + 1) (encs x) W fun e W' => e = .returned (.bool true) ∧ J (pre ++ [x]) W' ∧ MidKept lo hi W W' := by
      rintro pre x W ⟨jI, jL, jK⟩ hlen
      have hy := run_yield (P := P) (args := encs x) jL (hps x)
      have hlt : D + 1 < W.heap.size := (Array.getElem?_eq_some_iff.1 jL).1
      let W2 : World := W.putObj (D + 1) (.loop (R .busy))
      have wL : W2.heap[D + 1]? = some (.loop (R .busy)) := World.putObj_heap_same hlt
      have wK : W2.heap[D]? = some (.deferred (some [])) := (World.putObj_heap_other (by omega)).trans jK
      refine ⟨f, _, assign, body, hy, roundIn_of_wpIn hf (hassign _ x W _ ⟨W2, run_beginRound jL rfl, ?_⟩)⟩
      refine wpIn_mono (hbody _ pre x W2 (hI.putObj _ jI (by omega) jL rfl) hlen) ?_
      rintro e a3 W3 hp
      cases e with
      | normal =>
        obtain ⟨k3, m3, i3⟩ := hp
        have l3 := k3.same _ _ wL rfl
        have c3 := k3.same _ _ wK rfl
        refine ⟨_, _, run_endRound (P := P) none l3, rfl, ⟨hI.putObj _ i3 (by omega) l3 rfl, World.putObj_heap_same (Array.getElem?_eq_some_iff.1 l3).1, (World.putObj_heap_other (by omega)).trans c3⟩, ?_⟩
        exact ((MidKept.obj W _ (by omega)).trans m3).trans (MidKept.obj W3 _ (by omega))
      | ret => exact hp.elim
      | exit id => exact hp.elim
      | goto t => exact hp.elim
      | panic ch => exact hp.elim
      | outgrown => exact hp.elim
    refine (hit (D + 1) J V vB hJ one ⟨vI, vL, vK⟩).mono ?_
    rintro e W2 ⟨⟨v, rfl⟩, xs, hS, i2, l2, k2⟩
    exact ⟨none, _, run_endLoop (P := P) l2 (by simp [R, recOf]), hdone D xs _ (by omega) hS (hI.putObj _ i2 (by omega) l2 rfl) ((World.putObj_heap_other (by omega)).trans k2)⟩
end Go.Proofs.YtmjfbpiodamamaaGreatDoor
