import Derived.Test.YtkbkaeefdhkgdaaGreatDoorGSPLines2
import Derived.Sort.LoopGhostIn
set_option maxRecDepth 100000
set_option maxHeartbeats 32000000
namespace Go.Proofs.YtkbkaeefdhkgdaaGreatDoor
section
open Go.RowKit
def MidKept (lo hi : Nat) (A B : World) : Prop := ∀ k, lo ≤ k → k < hi → B.heap[k]? = A.heap[k]?
theorem MidKept.refl (lo hi : Nat) (A : World) : MidKept lo hi A A := fun _ _ _ => rfl
theorem MidKept.trans {lo hi : Nat} {A B C : World} (h : MidKept lo hi A B) (g : MidKept lo hi B C) : MidKept lo hi A C := fun k a b => (g k a b).trans (h k a b)
theorem MidKept.obj {lo hi : Nat} (W : World) {l : Nat} (o : Obj) (h : hi ≤ l) : MidKept lo hi W (W.putObj l o) := fun k _ b => World.putObj_heap_other (by omega)
theorem MidKept.cell {lo hi : Nat} {A B : World} (h : MidKept lo hi A B) {k i : Nat} (h1 : lo ≤ k) (h2 : k < hi) : B.cell? ⟨k, i, none⟩ = A.cell? ⟨k, i, none⟩ := World.cell?_of_block (h k h1 h2)
theorem MidKept.frozen {lo hi : Nat} {A B : World} (h : MidKept lo hi A B) {k i : Nat} (h1 : lo ≤ k) (h2 : k < hi) : B.frozen? ⟨k, i, none⟩ = A.frozen? ⟨k, i, none⟩ := World.frozen?_of_block (h k h1 h2)
def BoxAbides (B : Nat) (box : Addr) {β : Type} (J : β → World → Prop) : Prop := AbidesFrom B J ∧ ∀ s W v, J s W → J s (W.setCell box v)
def GivesBox {α : Type} (F : Fence) (n : Nat) (P : Program) (g : Nat) (lb : Array Value) (encs : α → Array Value) (lo hi : Nat) (box : Addr) (S : List α → Prop) (N : Nat) (w : World) : Prop :=
 ∀ (l : Nat) (J : List α → World → Prop) (W : World), Below w.heap.size w W → BoxAbides W.heap.size box J →
  (∀ pre x W1, J pre W1 → pre.length < N → YieldAt F (n - 1) P l (encs x) W1 fun e W' => e = .returned (.bool true) ∧ J (pre ++ [x]) W' ∧ MidKept lo hi W1 W') →
  J [] W → CallsIn F n P g (#[.func (.yield l) #[] #[]] ++ lb) W fun e W' => (∃ v, e = .returned v) ∧ ∃ xs, S xs ∧ J xs W'
def goneOn {α : Type} (lo hi : Nat) (I : List α → World → Prop) (xs : List α) (W : World) : Exit → Act → World → Prop
 | .normal, _, W' => KeepsOthers W W' ∧ MidKept lo hi W W' ∧ I xs W'
 | .ret, _, _ => False
 | .exit _, _, _ => False
 | .goto _, _, _ => False
 | .panic _, _, _ => False
 | .outgrown, _, _ => False
def recOf (f : FuncId) (a : Act) (ps : Array Tmp) (assign body : Code) (D : Nat) (st : LoopState) : Loop := { state := st, pending := none, fn := f, tmps := a.tmps, params := ps, assign, body, defers := D }
variable {F : Fence} {n : Nat} {P : Program}
theorem range_box {α : Type} {g : Operand} {ps : Array Tmp} {assign body : Code} {Q : Exit → Act → World → Prop} {a : Act} {w : World} {gf : Nat} {lb : Array Value} {encs : α → Array Value} {lo hi : Nat} {box : Addr} {S : List α → Prop} {N : Nat}
  (hro : F.round = none) (h1 : 1 ≤ n) (hg : a.eval g = .func (.func gf) #[] lb) (hFg : F.fn gf) (eg : ∀ args w, (callFunc gf args).run P w = .ok (.enter gf args) w)
  (hit : GivesBox F (n - 1) P gf lb encs lo hi box S N w) (hhi : hi ≤ w.heap.size) (hbx : box.block < w.heap.size) (hps : ∀ x, (encs x).size = ps.size)
  (I : List α → World → Prop) (hI : OwnFrom w.heap.size I) (hIs : ∀ pre W v, I pre W → I pre (W.setCell box v)) (h0 : I [] w) (a₁ : α → Act)
  (hassign : ∀ (l : Nat) (x : α) (W : World) (K : Act → World → Prop), K (a₁ x) W →
   assign.wpIn (F.inRound l) (n - 1 - 1) P (Exit.then K (fun _ _ _ => False)) { tmps := (ps.zip (encs x)).foldl (fun t (p, v) => t.setIfInBounds p v) a.tmps, defers := [] } W)
  (hbody : ∀ (l : Nat) (pre : List α) (x : α) (W : World), I pre W → pre.length < N → body.wpIn (F.inRound l) (n - 1 - 1) P (goneOn lo hi I (pre ++ [x]) W) (a₁ x) W)
  (hdone : ∀ (D : Nat) (xs : List α) (W : World), w.heap.size ≤ D → S xs → I xs W → W.heap[D]? = some (.deferred (some [])) → Q .normal { a with defers := { target := .collected D, args := #[] } :: a.defers } W) :
  (Code.rangeFunc g ps assign body).wpIn F n P Q a w := by
 refine wpIn_rangeFunc fun f hf => ?_
 rw [hro]
 generalize hD : w.heap.size = D at *
 have hsz : (w.alloc (.deferred (some []))).heap.size = D + 1 := by rw [World.size_alloc, hD]
 let R : LoopState → Loop := recOf f a ps assign body D
 let V : World := (w.alloc (.deferred (some []))).alloc (.loop (R .ready))
 have vL : V.heap[D + 1]? = some (.loop (R .ready)) := by rw [← hsz]; exact World.alloc_heap_new _ _
 have vK : V.heap[D]? = some (.deferred (some [])) := by
  have e1 : (w.alloc (.deferred (some []))).heap[D]? = some (.deferred (some [])) := by rw [← hD]; exact World.alloc_heap_new w _
  exact (Below.heap_alloc _ _ _ (by omega)).trans e1
 have vI : I [] V := hI.alloc _ (hI.alloc _ h0)
 have vB : Below w.heap.size w V := ((Below.refl _ w).alloc (Nat.le_refl _) _).alloc (by rw [hsz]; omega) _
 have hen : (Instr.enterLoop f a.tmps ps assign body none).run P w = .ok (D + 1, [{ target := .collected D, args := #[] }]) V := by
  have e := run_enterLoop_outer (P := P) (w := w) f a.tmps ps assign body
  rw [hD] at e
  exact e
 let J : List α → World → Prop := fun pre W => I pre W ∧ W.heap[D + 1]? = some (.loop (R .ready)) ∧ W.heap[D]? = some (.deferred (some []))
 have vS : V.heap.size = D + 2 := by show ((w.alloc _).alloc _).heap.size = _; rw [World.size_alloc, hsz]
 have hJ : BoxAbides V.heap.size box J := by
  refine ⟨fun s A B row hs hgr hr => ?_, fun s W v hs => ⟨hIs s W v hs.1, ?_, ?_⟩⟩
  ·
   have hr2 : ∀ r, row = some r → ∃ o : Obj, A.heap[r]? = some o ∧ o.isWalk = true := fun r e => (hr r e).2
   refine ⟨hI s A B row hs.1 hgr (fun r e => ?_), (grownBy_keeps hgr hr2 hs.2.1 rfl).trans hs.2.1, (grownBy_keeps hgr hr2 hs.2.2 rfl).trans hs.2.2⟩
   obtain ⟨hB, o, ho, hw⟩ := hr r e
   exact ⟨by omega, o, ho, Obj.not_cells_of_walk hw⟩
  ·
   rw [Deep.blk_setCell_other _ _ _ _ (by omega)]; exact hs.2.1
  ·
   rw [Deep.blk_setCell_other _ _ _ _ (by omega)]; exact hs.2.2
 refine ⟨D + 1, [{ target := .collected D, args := #[] }], V, { target := .fn (.func gf) lb, args := #[.func (.yield (D + 1)) #[] #[]] }, V, gf, #[.func (.yield (D + 1)) #[] #[]] ++ lb, V, hen, ?_, ?_, ?_, fun _ => h1, ?_⟩
 ·
  simp only [_root_.Go.resolve, hg]; simp [go_sem]
 ·
  intro f' e; simp [Target.leads] at e; subst e; exact hFg
 ·
  simp [invoke, go_sem, eg]
 ·
  have one : ∀ pre x W, J pre W → pre.length < N → YieldAt F (n - 1 - 1) P (D + 1) (encs x) W fun e W' => e = .returned (.bool true) ∧ J (pre ++ [x]) W' ∧ MidKept lo hi W W' := by
   rintro pre x W ⟨jI, jL, jK⟩ hlen
   have hy := run_yield (P := P) (args := encs x) jL (hps x)
   have hlt : D + 1 < W.heap.size := (Array.getElem?_eq_some_iff.1 jL).1
   let W2 : World := W.putObj (D + 1) (.loop (R .busy))
   have wL : W2.heap[D + 1]? = some (.loop (R .busy)) := World.putObj_heap_same hlt
   have wK : W2.heap[D]? = some (.deferred (some [])) := (World.putObj_heap_other (by omega)).trans jK
   refine ⟨f, _, assign, body, hy, roundIn_of_wpIn hf (hassign _ x W _ ⟨W2, run_beginRound jL rfl, ?_⟩)⟩
   refine wpIn_mono (hbody _ pre x W2 (hI.putObj _ jI (by omega) jL rfl) hlen) ?_
   rintro e a3 W3 hp
   cases e with
   | normal =>
    obtain ⟨k3, m3, i3⟩ := hp
    have l3 := k3.same _ _ wL rfl
    have c3 := k3.same _ _ wK rfl
    refine ⟨_, _, run_endRound (P := P) none l3, rfl, ⟨hI.putObj _ i3 (by omega) l3 rfl, World.putObj_heap_same (Array.getElem?_eq_some_iff.1 l3).1, (World.putObj_heap_other (by omega)).trans c3⟩, ?_⟩
    exact ((MidKept.obj W _ (by omega)).trans m3).trans (MidKept.obj W3 _ (by omega))
   | ret => exact hp.elim
   | exit id => exact hp.elim
   | goto t => exact hp.elim
   | panic ch => exact hp.elim
   | outgrown => exact hp.elim
  refine (hit (D + 1) J V vB hJ one ⟨vI, vL, vK⟩).mono ?_
  rintro e W2 ⟨⟨v, rfl⟩, xs, hS, i2, l2, k2⟩
  exact ⟨none, _, run_endLoop (P := P) l2 (by simp [R, recOf]), hdone D xs _ (by omega) hS (hI.putObj _ i2 (by omega) l2 rfl) ((World.putObj_heap_other (by omega)).trans k2)⟩
end
section
open Go.RowKit Go.Shelf
attribute [local go_sem] Oper.semAt_some
abbrev WordX := { x : ByteArray // x.size ≤ 100000 }
def wdOf (x : WordX) : Bs := x.1.data.toList
def encW (x : WordX) : Array Value := #[.string x.1]
def AllW (s : Bs) (ys : List WordX) : Prop := ys.map wdOf = spl 32 s
def AtW (s : Bs) (pre : List WordX) (R : ByteArray) : Prop := spl 32 s = pre.map wdOf ++ spl 32 R.data.toList
theorem AtW.start (s : ByteArray) : AtW s.data.toList [] s := rfl
theorem AtW.last {s : Bs} {pre : List WordX} {R : ByteArray} (h : AtW s pre R) (hf : firstI 32 R.data.toList = -1) (x : WordX) (hr : x.1 = R) : AllW s (pre ++ [x]) := by
 unfold AllW AtW at *
 rw [h, spl_no 32 _ (firstI_neg.1 (by omega)), List.map_append]
 simp [wdOf, hr]
theorem AtW.next {s : Bs} {pre : List WordX} {R : ByteArray} (h : AtW s pre R) {k : Nat} (hf : firstI 32 R.data.toList = k) (hk : k < R.size) (x : WordX) (hr : x.1 = R.extract 0 k) : AtW s (pre ++ [x]) (R.extract (k + 1) R.size) := by
 obtain ⟨h1, h2⟩ := first_not hf (by rw [← sizeOf]; exact hk)
 have e1 : (R.extract 0 k).data.toList = R.data.toList.take k := by rw [extL]; simp
 have e2 : (R.extract (k + 1) R.size).data.toList = R.data.toList.drop (k + 1) := by rw [extL, List.take_of_length_le (by rw [List.length_drop, ← sizeOf]; omega)]
 have e3 : spl 32 R.data.toList = R.data.toList.take k :: spl 32 (R.data.toList.drop (k + 1)) := by
  conv => lhs; rw [h2]
  exact spl_at 32 _ _ h1
 unfold AtW at *
 rw [h, e3, List.map_append, e2]
 simp [wdOf, hr]
theorem AtW.len {s : ByteArray} {pre : List WordX} {R : ByteArray} (h : AtW s.data.toList pre R) : pre.length < s.size + 1 := by
 have h1 := spl_len 32 s.data.toList
 unfold AtW at h
 rw [h, List.length_append, List.length_map] at h1
 have h2 := List.length_pos_iff.2 (spl_ne 32 R.data.toList)
 rw [sizeOf]; omega
structure Boxes (W : World) (B : Nat) (R : ByteArray) : Prop where
 s : Boxed W B 9 (.string R)
 sep : W.cell? ⟨B + 1, 0, none⟩ = some (.string ⟨#[32]⟩)
 save : W.cell? ⟨B + 2, 0, none⟩ = some (.int .i64 0)
theorem Boxes.mid {W W' : World} {B : Nat} {R : ByteArray} (h : Boxes W B R) (hk : MidKept B (B + 3) W W') : Boxes W' B R :=
 ⟨(hk B (Nat.le_refl _) (by omega)).trans h.s, (hk.cell (by omega) (by omega)).trans h.sep, (hk.cell (by omega) (by omega)).trans h.save⟩
theorem Boxes.drew {W : World} {B : Nat} {R : ByteArray} (h : Boxes W B R) (q : Nat) : Boxes (W.drewN q) B R := h.mid (fun _ _ _ => rfl)
theorem Boxes.set {W : World} {B : Nat} {R : ByteArray} (h : Boxes W B R) (R' : ByteArray) : Boxes (W.setCell ⟨B, 0, none⟩ (.string R')) B R' := by
 refine ⟨h.s.set _, ?_, ?_⟩
 ·
  exact (World.cell?_of_block (Deep.blk_setCell_other W ⟨B, 0, none⟩ _ (B + 1) (by simp))).trans h.sep
 ·
  exact (World.cell?_of_block (Deep.blk_setCell_other W ⟨B, 0, none⟩ _ (B + 2) (by simp))).trans h.save
def SeqPost (s : Bs) (J : List WordX → World → Prop) (e : Ending) (W' : World) : Prop := (∃ v, e = .returned v) ∧ ∃ ys, AllW s ys ∧ J ys W'
theorem split1_in (n : Nat) (hn : 1 ≤ n) (s : ByteArray) (hs : s.size ≤ 90000) (l B0 : Nat) (J : List WordX → World → Prop) (B : Nat) (hJ : BoxAbides B ⟨B0, 0, none⟩ J)
  (hY : ∀ pre x W, J pre W → pre.length < s.size + 1 → YieldAt Fence.wide (n - 1) Tryz.prog l (encW x) W fun e W' => e = .returned (.bool true) ∧ J (pre ++ [x]) W' ∧ MidKept B0 (B0 + 3) W W')
  (W : World) (hb : Boxes W B0 s) (h0 : J [] W) :
  CallsIn Fence.wide n Tryz.prog 177 #[.func (.yield l) #[] #[], .pointer (some ⟨B0 + 1, 0, none⟩), .pointer (some ⟨B0, 0, none⟩), .pointer (some ⟨B0 + 2, 0, none⟩)] W (SeqPost s.data.toList J) := by
 refine callsIn_of_wp Tryz.func177 rfl trivial ?_ rfl
 simp only [Tryz.ntmps177, List.size_toArray, List.length_cons, List.length_nil, Nat.reduceAdd, Nat.reduceSub, Array.replicate_succ, Array.replicate_zero, List.push_toArray, List.append_toArray, List.nil_append, List.cons_append]
 have c1 := hb.sep
 have HB := Lib.hid hb
 clear hb
 gi_wp2
 gi_loopg [] (s.size + 1) (fun gg wr => ∃ (pre : List WordX) (R : ByteArray), R.size + 1 ≤ gg ∧ R.size ≤ s.size ∧ Hid (Boxes wr B0 R) ∧ Hid (AtW s.data.toList pre R) ∧ Hid (J pre wr))
 case atStart => exact ⟨[], s, Nat.le_refl _, Nat.le_refl _, HB, Lib.hid (AtW.start s), Lib.hid h0⟩
 case round =>
  obtain ⟨pre, R, hg, hR, HX, HA, HJ⟩ := hrel
  have d1 := HX.out.sep
  have d0 := HX.out.s.cell
  have d2 := HX.out.save
  have df := HX.out.s.frozen
  have hlen := HA.out.len
  rcases first_cases R 32 with hf | ⟨k, hf, hk⟩
  ·
   have C : ∀ w, Calls Tryz.prog 179 #[.string R, .string ⟨#[32]⟩] w fun e w' => e = .returned (.int .i64 (-1)) ∧ w = w' := fun w => (Tryz.strings_Index_one R 32 w).mono fun e w' hp => ⟨by rw [hp.1, idx_first, hf], hp.2.symm⟩
   have HL := Lib.hid (fun x hr => HA.out.last hf x hr)
   clear hf
   gi_wp2_with (first
    | (refine ⟨trivial, ?_⟩; gi_at_call 179; refine (callsIn_wide.2 (C _)).mono ?_; rintro e w1 ⟨rfl, rfl⟩; obtain ⟨fn, tmps, assign, body, hy, hRd⟩ := hY pre ⟨R, by omega⟩ wr HJ.out hlen; dsimp only [encW] at hy))
   refine hRd.mono ?_
   rintro e W3 ⟨rfl, hJ3, -⟩
   gi_wp2
   refine bodyPost_ret (results_none rfl _ _ _) rfl ?_
   exact ⟨⟨_, rfl⟩, _, HL.out _ rfl, hJ3⟩
  ·
   have C : ∀ w, Calls Tryz.prog 179 #[.string R, .string ⟨#[32]⟩] w fun e w' => e = .returned (.int .i64 k) ∧ w = w' := fun w => (Tryz.strings_Index_one R 32 w).mono fun e w' hp => ⟨by rw [hp.1, idx_first, hf], hp.2.symm⟩
   have hx1 : (R.extract 0 k).size ≤ 100000 := by rw [ByteArray.size_extract]; omega
   have HN := Lib.hid (HA.out.next hf hk ⟨R.extract 0 k, hx1⟩ rfl)
   have hRs : R.size ≤ 90000 := by omega
   clear hf HA
   gi_wp2_with (first
    | (refine ⟨trivial, ?_⟩; gi_at_call 179; refine (callsIn_wide.2 (C _)).mono ?_; rintro e w1 ⟨rfl, rfl⟩; obtain ⟨fn, tmps, assign, body, hy, hRd⟩ := hY pre ⟨R.extract 0 k, hx1⟩ wr HJ.out hlen; dsimp only [encW] at hy))
   refine hRd.mono ?_
   rintro e W3 ⟨rfl, hJ3, hm3⟩
   have HX3 := Lib.hid (HX.out.mid hm3)
   have e1 := HX3.out.sep
   have e0 := HX3.out.s.cell
   have ef := HX3.out.s.frozen
   clear hm3 d1 d0 d2 df
   gi_wp2
   go_roundg (R.size - k)
   case measure => omega
   case rel => exact ⟨pre ++ [⟨R.extract 0 k, hx1⟩], R.extract (k + 1) R.size, by rw [ByteArray.size_extract]; omega, by rw [ByteArray.size_extract]; omega, Lib.hid (HX3.out.set _), HN, Lib.hid (hJ.2 _ _ _ hJ3)⟩
theorem splitSeq_in (n : Nat) (s : ByteArray) (w : World) : CallsIn Fence.wide n Tryz.prog 152 #[.string s, .string ⟨#[32]⟩, .int .i64 0] w fun e w' =>
  e = .returned (.func (.func 177) #[] #[.pointer (some ⟨w.heap.size + 1, 0, none⟩), .pointer (some ⟨w.heap.size, 0, none⟩), .pointer (some ⟨w.heap.size + 2, 0, none⟩)]) ∧ w' = ((w.alloc (.cells #[.string s] 9)).alloc (.cells #[.string ⟨#[32]⟩] 9)).alloc (.cells #[.int .i64 0] 3) := by
 refine callsIn_of_wp Tryz.func152 rfl trivial ?_ rfl
 simp only [Tryz.ntmps152, List.size_toArray, List.length_cons, List.length_nil, Nat.reduceAdd, Nat.reduceSub, Array.replicate_succ, Array.replicate_zero, List.push_toArray, List.append_toArray, List.nil_append, List.cons_append]
 gi_wp2
 go_ret
 exact ⟨rfl, rfl⟩
theorem seq_in (n : Nat) (s : ByteArray) (w : World) : CallsIn Fence.wide n Tryz.prog 121 #[.string s, .string ⟨#[32]⟩] w fun e w' =>
  e = .returned (.func (.func 177) #[] #[.pointer (some ⟨w.heap.size + 1, 0, none⟩), .pointer (some ⟨w.heap.size, 0, none⟩), .pointer (some ⟨w.heap.size + 2, 0, none⟩)]) ∧ w' = ((w.alloc (.cells #[.string s] 9)).alloc (.cells #[.string ⟨#[32]⟩] 9)).alloc (.cells #[.int .i64 0] 3) := by
 refine callsIn_of_wp Tryz.func121 rfl trivial ?_ rfl
 simp only [Tryz.ntmps121, List.size_toArray, List.length_cons, List.length_nil, Nat.reduceAdd, Nat.reduceSub, Array.replicate_succ, Array.replicate_zero, List.push_toArray, List.append_toArray, List.nil_append, List.cons_append]
 gi_wp2
 refine ⟨trivial, (fun h => by cases h), (splitSeq_in _ _ _).mono ?_⟩
 rintro e w' ⟨rfl, rfl⟩
 gi_wp2
 go_ret
 exact ⟨rfl, rfl⟩
theorem Boxes.new (W : World) (s : ByteArray) : Boxes (((W.alloc (.cells #[.string s] 9)).alloc (.cells #[.string ⟨#[32]⟩] 9)).alloc (.cells #[.int .i64 0] 3)) W.heap.size s :=
 by
 have h1 : Boxed ((W.alloc (.cells #[.string s] 9)).alloc (.cells #[.string ⟨#[32]⟩] 9)) (W.heap.size + 1) 9 (.string ⟨#[32]⟩) := by
  have := Boxed.new (W.alloc (.cells #[.string s] 9)) 9 (.string ⟨#[32]⟩)
  rwa [World.size_alloc] at this
 have h2 := Boxed.new ((W.alloc (.cells #[.string s] 9)).alloc (.cells #[.string ⟨#[32]⟩] 9)) 3 (.int .i64 0)
 rw [World.size_alloc, World.size_alloc] at h2
 exact ⟨((Boxed.new W _ _).alloc _).alloc _, (h1.alloc _).cell, h2.cell⟩
theorem gives_words (n : Nat) (hn : 1 ≤ n) (s : ByteArray) (hs : s.size ≤ 90000) (B0 : Nat) (w : World) (hB : B0 + 3 ≤ w.heap.size) (hb : Boxes w B0 s) :
  GivesBox Fence.wide n Tryz.prog 177 #[.pointer (some ⟨B0 + 1, 0, none⟩), .pointer (some ⟨B0, 0, none⟩), .pointer (some ⟨B0 + 2, 0, none⟩)] encW B0 (B0 + 3) ⟨B0, 0, none⟩ (AllW s.data.toList) (s.size + 1) w := fun l J W hW hJ hY h0 =>
 split1_in n hn s hs l B0 J _ hJ hY W (hb.mid (fun k _ h2 => hW.block k (by omega))) h0
end
end Go.Proofs.YtkbkaeefdhkgdaaGreatDoor
