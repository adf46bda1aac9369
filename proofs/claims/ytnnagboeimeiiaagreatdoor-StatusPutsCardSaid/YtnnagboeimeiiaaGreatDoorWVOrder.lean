import Derived.Test.YtnnagboeimeiiaaGreatDoorProg
import Derived.Test.YtnnagboeimeiiaaGreatDoorWVMath
import Derived.WalkKit
import Derived.Lib.Hide
import Derived.Below
import Derived.OwnWalk
import Derived.Lib.SmallJoins
import Derived.WalkLawsBesides
import Derived.WalkSpells
import Derived.Deep.QuietTactic
import Derived.BigQuiet
import Derived.Deep.RegionHeld3
namespace Go.Proofs.YtnnagboeimeiiaaGreatDoor
open Go.RowKit
theorem retb {a b : Bool} (h : a = b) : Ending.returned (.bool a) = Ending.returned (.bool b) := congrArg (fun b => Ending.returned (.bool b)) h
theorem reti {k : IntKind} {a b : Int} (h : a = b) : Ending.returned (.int k a) = Ending.returned (.int k b) := congrArg (fun b => Ending.returned (.int k b)) h
theorem strOf {x : ByteArray} {l : Bs} (h : x.data.toList = l) : x = ⟨l.toArray⟩ := by subst h; simp
theorem bytesOf (l : Bs) : (ByteArray.mk l.toArray).data.toList = l := by simp
theorem sizeOf (s : ByteArray) : s.size = s.data.toList.length := Lib.size_eq s
theorem takeSn (s : ByteArray) (k : Nat) (h : k < s.size) : s.data.toList.take (k + 1) = s.data.toList.take k ++ [s[k]] := by
 have hl : k < s.data.toList.length := by rw [← Lib.size_eq]; exact h
 rw [List.take_add_one, List.getElem?_eq_getElem hl]
 simp; rfl
theorem takeAll (s : ByteArray) : s.data.toList.take s.size = s.data.toList := by rw [sizeOf]; exact List.take_length
theorem takeLen (s : ByteArray) (k : Nat) (h : k ≤ s.size) : (s.data.toList.take k).length = k := by rw [List.length_take, ← sizeOf]; omega
theorem dropC (s : ByteArray) (k : Nat) (h : k < s.size) : s.data.toList.drop k = s[k] :: s.data.toList.drop (k + 1) := by
 have hl : k < s.data.toList.length := by rw [← Lib.size_eq]; exact h
 rw [List.drop_eq_getElem_cons hl]; rfl
theorem dropAll (s : ByteArray) : s.data.toList.drop s.size = [] := by rw [sizeOf]; exact List.drop_length
theorem allNx {s : ByteArray} {f : UInt8 → Bool} {k : Nat} (h : k < s.size) (ha : (s.data.toList.take k).all f = true) (hf : f s[k] = true) : (s.data.toList.take (k + 1)).all f = true := by
 rw [takeSn s k h, List.all_append, ha]; simp [hf]
theorem allSt {s : ByteArray} {f : UInt8 → Bool} {k : Nat} (h : k < s.size) (hf : f s[k] = false) : s.data.toList.all f = false := by
 rw [List.all_eq_false]
 exact ⟨s[k], by have := takeSn s k h; exact List.mem_of_mem_take (by rw [this]; simp), by simp [hf]⟩
theorem allDn {s : ByteArray} {f : UInt8 → Bool} (ha : (s.data.toList.take s.size).all f = true) : s.data.toList.all f = true := by rwa [takeAll] at ha
theorem extL (s : ByteArray) (a b : Nat) : (s.extract a b).data.toList = (s.data.toList.drop a).take (b - a) := by
 rw [Lib.extract_data]
theorem eqT (x y : ByteArray) : (x.toList == y.toList) = decide (x.data.toList = y.data.toList) := by
 rw [ByteArray.toList_eq, ByteArray.toList_eq]
 by_cases h : x.data.toList = y.data.toList
 · simp [h]
 · rw [decide_eq_false h]; simpa using h
theorem eqTL (x : ByteArray) (l : Bs) : (x.toList == l) = decide (x.data.toList = l) := by
 rw [ByteArray.toList_eq]
 by_cases h : x.data.toList = l
 · simp [h]
 · rw [decide_eq_false h]; simpa using h
theorem lessL : ∀ (x y : Bs), Op.bytesLess x y = decide (x < y)
 | x, [] => by simp [Op.bytesLess]
 | [], b :: y => by simp [Op.bytesLess]
 | a :: x, b :: y => by
   rw [Op.bytesLess, lessL x y, Bool.eq_iff_iff]
   simp [List.cons_lt_cons_iff]
theorem lessT (x y : ByteArray) : Op.bytesLess x.toList y.toList = decide (x.data.toList < y.data.toList) := by
 rw [ByteArray.toList_eq, ByteArray.toList_eq]; exact lessL _ _
theorem emptyT (x : ByteArray) : x.toList.isEmpty = decide (x.size = 0) := by
 rw [ByteArray.toList_eq, sizeOf]; cases x.data.toList <;> simp
theorem belowQ {B : Nat} {a w : World} (h : Below B a w) (n : Nat) : Below B a (w.drewN n) := ⟨h.os, h.tape, h.output, h.size, h.block⟩
end Go.Proofs.YtnnagboeimeiiaaGreatDoor
namespace Go.Proofs.YtnnagboeimeiiaaGreatDoor
open Go.RowKit
theorem infoT : (Tryz.prog.info? 9).map (fun i => (i.zero, i.size, i.bytes)) = some (some (.string ⟨#[]⟩), 1, 16) := by kernel_rfl
def HoldT (w : World) (v : Value) (ls : List Bs) : Prop :=
 ∃ (a : Option Addr) (c b o : Nat), v = .slice a ls.length c ∧ ls.length ≤ c ∧ (0 < ls.length → a = some ⟨b, o, none⟩ ∧ b < w.heap.size) ∧ ∀ (j : Nat) l, ls[j]? = some l → w.cell? ⟨b, o + j, none⟩ = some (.string ⟨l.toArray⟩)
theorem HoldT.on {w w' : World} {v : Value} {ls : List Bs} (h : HoldT w v ls) (hb : Below w.heap.size w w') : HoldT w' v ls := by
 obtain ⟨a, c, b, o, rfl, hc, ha, hcell⟩ := h
 refine ⟨a, c, b, o, rfl, hc, fun h0 => ⟨(ha h0).1, Nat.lt_of_lt_of_le (ha h0).2 hb.size⟩, fun j l hj => ?_⟩
 have h0 : 0 < ls.length := by
   have := (List.getElem?_eq_some_iff.1 hj).1; omega
 rw [hb.cell (ha h0).2]
 exact hcell j l hj
abbrev txts (ls : List Bs) : List Value := ls.map fun l => Value.string ⟨l.toArray⟩
def OwnT (w : World) (base : Nat) (v : Value) (ls : List Bs) : Prop := w.ownsRow base 9 1 v ls.length (txts ls)
theorem OwnT.nil (w : World) (base : Nat) : OwnT w base (.slice none 0 0) [] := World.ownsRow_nil _ _ _ _
theorem cellRow (w : World) (g i : Nat) (cur : Array Value) (e : TypeId) (fz : Nat × Nat) (hg : w.heap[g]? = some (.cells cur e fz)) : w.cell? ⟨g, i, none⟩ = cur[i]? := by
 simp [World.cell?, hg]
theorem OwnT.holds {w : World} {base : Nat} {v : Value} {ls : List Bs} (h : OwnT w base v ls) : HoldT w v ls := by
 rcases h.2 with ⟨rfl, h0⟩ | ⟨g, cap, cur, rfl, hb, hg, hn, hm, hs, ht⟩
 · have : ls = [] := List.eq_nil_of_length_eq_zero h0
   subst this
   exact ⟨none, 0, 0, 0, rfl, Nat.le_refl _, fun h => absurd h (by simp), fun j l hj => by simp at hj⟩
 · refine ⟨some ⟨g, 0, none⟩, cap, g, 0, rfl, hn, fun _ => ⟨rfl, (Array.getElem?_eq_some_iff.1 hg).1⟩, fun j l hj => ?_⟩
   have hj' := (List.getElem?_eq_some_iff.1 hj).1
   have e1 : (cur.toList.take (ls.length * 1))[j]? = (txts ls)[j]? := by rw [ht]
   rw [List.getElem?_take, if_pos (by omega), Array.getElem?_toList, List.getElem?_map, hj] at e1
   rw [Nat.zero_add, cellRow w g j cur 9 (0, 0) hg, e1]
   rfl
theorem OwnT.mono {w : World} {base base' : Nat} {v : Value} {ls : List Bs} (h : OwnT w base v ls) (hb : base' ≤ base) : OwnT w base' v ls := by
 refine ⟨h.1, ?_⟩
 rcases h.2 with hn | ⟨g, cap, cur, hv, hb', rest⟩
 · exact .inl hn
 · exact .inr ⟨g, cap, cur, hv, by omega, rest⟩
theorem OwnT.cut {w : World} {base : Nat} {a : Option Addr} {c n : Nat} {ls : List Bs} (h : OwnT w base (.slice a n c) ls) (hl : 0 < ls.length) : OwnT w base (.slice a (n - 1) c) ls.dropLast := by
 rcases h.2 with ⟨_, h0⟩ | ⟨g, cap, cur, hv, hb, hg, hn, hm, hs, ht⟩
 · omega
 · simp only [Value.slice.injEq] at hv
   obtain ⟨rfl, rfl, rfl⟩ := hv
   refine ⟨by simp [txts], .inr ⟨g, c, cur, by rw [List.length_dropLast], hb, hg, by rw [List.length_dropLast]; omega, hm, hs, ?_⟩⟩
   rw [List.length_dropLast]
   have : cur.toList.take ((ls.length - 1) * 1) = (cur.toList.take (ls.length * 1)).take (ls.length - 1) := by rw [List.take_take]; congr 1; omega
   rw [this, ht, txts, txts, List.dropLast_eq_take, List.map_take]
theorem OwnT.made (w : World) (xs : List ByteArray) (hn : xs.length ≤ maxLen) : OwnT (w.alloc (.cells (xs.map Value.string).toArray 9)) w.heap.size (.slice (some ⟨w.heap.size, 0, none⟩) xs.length xs.length) (xs.map (·.data.toList)) := by
 refine ⟨by simp [txts], .inr ⟨w.heap.size, xs.length, (xs.map Value.string).toArray, by simp, Nat.le_refl _, heap_alloc_new w _, by simp, hn, by simp, ?_⟩⟩
 rw [List.length_map, Nat.mul_one, List.take_of_length_le (by simp)]
 simp [txts]
theorem OwnT.app {w' : World} {base : Nat} {v' : Value} {ls : List Bs} {x : ByteArray} {l : Bs} (hx : x.data.toList = l) (h : w'.ownsRow base 9 1 v' (ls.length + 1) (txts ls ++ [.string x])) : OwnT w' base v' (ls ++ [l]) := by
 have e : txts (ls ++ [l]) = txts ls ++ [.string x] := by simp [txts, strOf hx]
 unfold OwnT
 rw [e, List.length_append]
 exact h
theorem belowG {B : Nat} {w0 w w' : World} {o : Obj} {base : Nat} {v : Value} {ls : List Bs} (h : Below B w0 w) (hown : OwnT w base v ls) (hg : (w.alloc o).grownBy w' v.ownBlock) (hB : B ≤ base) (hBw : B ≤ w.heap.size) : Below B w0 w' :=
 (h.alloc hBw o).grown hg (by simp; omega) (fun k hk => by have := (hown.lt k hk).1; omega)
end Go.Proofs.YtnnagboeimeiiaaGreatDoor
namespace Go.Proofs.YtnnagboeimeiiaaGreatDoor
open Go.RowKit
section
variable {P : Program} {ops : Array Oper} {Q : Exit → Act → World → Prop} {md : Region.Mode} {S : World → Prop}
theorem heldYes (i d : Nat) (v : Value) {fuel : Nat} {listed : Array Bool} {a : Act} {w : World} (hd : (ops[i]?).map (·.dst) = some (some d)) (hs : Region.noSelect ops = true) (hf : Region.free md ops listed i = true) (hr : (Region.ready md ops listed).contains i = true)
   (hQ : ∀ c a w, Q (.panic c) (a.put (some d) v) w → Q (.panic c) a w) (hw : ((ops[i]?).map fun o => Region.wanted o (yielded ops a.tmps)) = some true) (hS : S w)
   (hy : ∀ w, S w → ((ops[i]?).map fun o => (execOp a.eval o).run P w) = some (.ok (.value v) w))
   (h : wpAnyH P md ops Q S fuel (listed.setIfInBounds i true) { tmps := a.tmps.setIfInBounds d v, defers := a.defers } w) : wpAnyH P md ops Q S (fuel + 1) listed a w := by
 cases ho : ops[i]? with
 | none => rw [ho] at hd; cases hd
 | some o =>
   rw [ho] at hd hw hy
   simp only [Option.map_some, Option.some.injEq] at hd hw hy
   refine wpAnyH_take ho hs hf hr (v := v) (fun c a w => by rw [hd]; exact hQ c a w) (Or.inl ⟨hw, hy⟩) hS ?_
   rw [hd]; exact h
theorem heldNo (i d : Nat) {fuel : Nat} {listed : Array Bool} {a : Act} {w : World} (hd : (ops[i]?).map (·.dst) = some (some d)) (hs : Region.noSelect ops = true) (hf : Region.free md ops listed i = true) (hr : (Region.ready md ops listed).contains i = true)
   (hQ : ∀ c a w, Q (.panic c) (a.put (some d) undef) w → Q (.panic c) a w) (hw : ((ops[i]?).map fun o => Region.wanted o (yielded ops a.tmps)) = some false) (hS : S w)
   (h : wpAnyH P md ops Q S fuel (listed.setIfInBounds i true) { tmps := a.tmps.setIfInBounds d undef, defers := a.defers } w) : wpAnyH P md ops Q S (fuel + 1) listed a w := by
 cases ho : ops[i]? with
 | none => rw [ho] at hd; cases hd
 | some o =>
   rw [ho] at hd hw
   simp only [Option.map_some, Option.some.injEq] at hd hw
   refine wpAnyH_take ho hs hf hr (v := undef) (fun c a w => by rw [hd]; exact hQ c a w) (Or.inr ⟨hw, rfl⟩) hS ?_
   rw [hd]; exact h
end
end Go.Proofs.YtnnagboeimeiiaaGreatDoor
namespace Go.Proofs.YtnnagboeimeiiaaGreatDoor
open Go.RowKit
def AtF (w : World) : List (Addr × Value) → World → Prop
 | [], V => Below w.heap.size w V
 | (a, v) :: l, V => V.cell? a = some v ∧ AtF w l V
theorem AtF.be {w V : World} : ∀ {l : List (Addr × Value)}, AtF w l V → Below w.heap.size w V
 | [], h => h
 | (_, _) :: _, h => AtF.be h.2
theorem AtF.on {w V V' : World} : ∀ {l : List (Addr × Value)}, AtF w l V → Below V.heap.size V V' → AtF w l V'
 | [], h, hb => Below.trans h (hb.mono (Below.size h))
 | (_, _) :: _, h, hb => ⟨(hb.cell (World.block_lt_of_cell? V _ h.1)).trans h.1, AtF.on h.2 hb⟩
theorem AtF.dr {w V : World} {l : List (Addr × Value)} (h : AtF w l V) : AtF w l V.drew := h.on (Below.refl _ _).drew
section
variable {P : Program} {ops : Array Oper} {Q : Exit → Act → World → Prop} {md : Region.Mode} {S : World → Prop}
theorem heldY (i d : Nat) (v : Value) (o : Oper) {fuel : Nat} {listed : Array Bool} {a : Act} {w : World} (ho : ops[i]? = some o) (hd : o.dst = some d) (hs : Region.noSelect ops = true) (hf : Region.free md ops listed i = true) (hr : (Region.ready md ops listed).contains i = true)
   (hQ : ∀ c a w, Q (.panic c) (a.put (some d) v) w → Q (.panic c) a w) (hw : Region.wanted o (yielded ops a.tmps) = true) (hS : S w)
   (hy : ∀ w, S w → (execOp a.eval o).run P w = .ok (.value v) w)
   (h : wpAnyH P md ops Q S fuel (listed.setIfInBounds i true) { tmps := a.tmps.setIfInBounds d v, defers := a.defers } w) : wpAnyH P md ops Q S (fuel + 1) listed a w :=
 heldYes i d v (by rw [ho]; exact congrArg some hd) hs hf hr hQ (by rw [ho]; exact congrArg some hw) hS (fun w hw => by rw [ho]; exact congrArg some (hy w hw)) h
end
theorem AtF.al {w V : World} {l : List (Addr × Value)} (h : AtF w l V) (o : Obj) : AtF w l (V.alloc o) := h.on ((Below.refl _ _).alloc (Nat.le_refl _) o)
theorem AtF.ald {w V : World} {l : List (Addr × Value)} (h : AtF w l V) (o : Obj) : AtF w l (V.alloc o).drew := (h.al o).dr
theorem boxV2 (W : World) (x y : Value) (t : TypeId) : (W.alloc (.cells #[x, y] t)).cell? ⟨W.heap.size, 0, none⟩ = some x ∧ (W.alloc (.cells #[x, y] t)).cell? ⟨W.heap.size, 1, none⟩ = some y := by
 have h := heap_alloc_new W (.cells #[x, y] t)
 exact ⟨by rw [cellRow _ W.heap.size 0 _ t (0, 0) h]; rfl, by rw [cellRow _ W.heap.size 1 _ t (0, 0) h]; rfl⟩
theorem boxV3 (W : World) (x y z : Value) (t : TypeId) : (W.alloc (.cells #[x, y, z] t)).cell? ⟨W.heap.size, 0, none⟩ = some x ∧ (W.alloc (.cells #[x, y, z] t)).cell? ⟨W.heap.size, 1, none⟩ = some y ∧ (W.alloc (.cells #[x, y, z] t)).cell? ⟨W.heap.size, 2, none⟩ = some z := by
 have h := heap_alloc_new W (.cells #[x, y, z] t)
 exact ⟨by rw [cellRow _ W.heap.size 0 _ t (0, 0) h]; rfl, by rw [cellRow _ W.heap.size 1 _ t (0, 0) h]; rfl, by rw [cellRow _ W.heap.size 2 _ t (0, 0) h]; rfl⟩
structure AtK (w : World) (l : List (Addr × Value)) : Prop where
 dr : ∀ V, AtF w l V → AtF w l V.drew
 on : ∀ V V', AtF w l V → Below V.heap.size V V' → AtF w l V'
 al : ∀ V o, AtF w l V → AtF w l (V.alloc o)
 ald : ∀ V o, AtF w l V → AtF w l (V.alloc o).drew
theorem atK (w : World) (l : List (Addr × Value)) : AtK w l := ⟨fun _ h => h.dr, fun _ _ h hb => h.on hb, fun _ o h => h.al o, fun _ o h => h.ald o⟩
end Go.Proofs.YtnnagboeimeiiaaGreatDoor
namespace Go.Proofs.YtnnagboeimeiiaaGreatDoor
open Go.RowKit
structure Box2 (w : World) (b : Nat) (x y : Value) : Prop where
 c0 : w.cell? ⟨b, 0, none⟩ = some x
 c1 : w.cell? ⟨b, 1, none⟩ = some y
 f : ∀ i, w.frozen? ⟨b, i, none⟩ = false
theorem Box2.new (A : World) (x y : Value) (t : TypeId) : Box2 (A.alloc (.cells #[x, y] t)) A.heap.size x y :=
 ⟨(boxV2 A x y t).1, (boxV2 A x y t).2, fun i => frozen_of_row _ A.heap.size i _ t (heap_alloc_new A _)⟩
theorem Box2.on {A B : World} {b : Nat} {x y : Value} (h : Box2 A b x y) (hb : Below A.heap.size A B) : Box2 B b x y := by
 have hlt := World.block_lt_of_cell? A _ h.c0
 have k := fun o => hb.cell (p := ⟨b, o, none⟩) hlt
 exact ⟨by rw [k]; exact h.c0, by rw [k]; exact h.c1, fun i => by rw [hb.frozen (p := ⟨b, i, none⟩) hlt]; exact h.f i⟩
abbrev put2 (w : World) (b : Nat) (x y : Value) : World := (w.setCell ⟨b, 0, none⟩ x).setCell ⟨b, 1, none⟩ y
theorem Box2.put {w : World} {b : Nat} {x y : Value} (h : Box2 w b x y) (x' y' : Value) : (put2 w b x' y').cell? ⟨b, 0, none⟩ = some x' ∧ (put2 w b x' y').cell? ⟨b, 1, none⟩ = some y' := by
 have o : ∀ (A : World) (i j : Nat) (u v : Value), i ≠ j → A.cell? ⟨b, j, none⟩ = some v → (A.setCell ⟨b, i, none⟩ u).cell? ⟨b, j, none⟩ = some v := fun A i j u v hij hv => (World.cell?_setCell_other _ _ _ _ (fun e => hij (congrArg Addr.off e))).trans hv
 have s0 : ∀ (A : World) (i : Nat) (u v : Value), A.cell? ⟨b, i, none⟩ = some v → (A.setCell ⟨b, i, none⟩ u).cell? ⟨b, i, none⟩ = some u := fun A i u v hv => World.cell?_setCell_same _ _ _ hv
 exact ⟨o _ 1 0 _ _ (by omega) (s0 _ 0 _ _ h.c0), s0 _ 1 _ _ (o _ 0 1 _ _ (by omega) h.c1)⟩
structure Box3 (w : World) (b : Nat) (x y z : Value) : Prop where
 c0 : w.cell? ⟨b, 0, none⟩ = some x
 c1 : w.cell? ⟨b, 1, none⟩ = some y
 c2 : w.cell? ⟨b, 2, none⟩ = some z
 f : ∀ i, w.frozen? ⟨b, i, none⟩ = false
theorem Box3.new (A : World) (x y z : Value) (t : TypeId) : Box3 (A.alloc (.cells #[x, y, z] t)) A.heap.size x y z :=
 ⟨(boxV3 A x y z t).1, (boxV3 A x y z t).2.1, (boxV3 A x y z t).2.2, fun i => frozen_of_row _ A.heap.size i _ t (heap_alloc_new A _)⟩
theorem Box3.on {A B : World} {b : Nat} {x y z : Value} (h : Box3 A b x y z) (hb : Below A.heap.size A B) : Box3 B b x y z := by
 have hlt := World.block_lt_of_cell? A _ h.c0
 have k := fun o => hb.cell (p := ⟨b, o, none⟩) hlt
 exact ⟨by rw [k]; exact h.c0, by rw [k]; exact h.c1, by rw [k]; exact h.c2, fun i => by rw [hb.frozen (p := ⟨b, i, none⟩) hlt]; exact h.f i⟩
abbrev put3 (w : World) (b : Nat) (x y z : Value) : World := ((w.setCell ⟨b, 0, none⟩ x).setCell ⟨b, 1, none⟩ y).setCell ⟨b, 2, none⟩ z
theorem Box3.put {w : World} {b : Nat} {x y z : Value} (h : Box3 w b x y z) (x' y' z' : Value) : (put3 w b x' y' z').cell? ⟨b, 0, none⟩ = some x' ∧ (put3 w b x' y' z').cell? ⟨b, 1, none⟩ = some y' ∧ (put3 w b x' y' z').cell? ⟨b, 2, none⟩ = some z' := by
 have o : ∀ (A : World) (i j : Nat) (u v : Value), i ≠ j → A.cell? ⟨b, j, none⟩ = some v → (A.setCell ⟨b, i, none⟩ u).cell? ⟨b, j, none⟩ = some v := fun A i j u v hij hv => (World.cell?_setCell_other _ _ _ _ (fun e => hij (congrArg Addr.off e))).trans hv
 have s0 : ∀ (A : World) (i : Nat) (u v : Value), A.cell? ⟨b, i, none⟩ = some v → (A.setCell ⟨b, i, none⟩ u).cell? ⟨b, i, none⟩ = some u := fun A i u v hv => World.cell?_setCell_same _ _ _ hv
 exact ⟨o _ 2 0 _ _ (by omega) (o _ 1 0 _ _ (by omega) (s0 _ 0 _ _ h.c0)), o _ 2 1 _ _ (by omega) (s0 _ 1 _ _ (o _ 0 1 _ _ (by omega) h.c1)), s0 _ 2 _ _ (o _ 1 2 _ _ (by omega) (o _ 0 2 _ _ (by omega) h.c2))⟩
theorem HoldT.set {w : World} {v : Value} {l : List Bs} (h : HoldT w v l) {b : Nat} (hn : ∀ a n c, v = .slice (some a) n c → a.block ≠ b) (i : Nat) (u : Value) : HoldT (w.setCell ⟨b, i, none⟩ u) v l := by
 obtain ⟨a, c, b', o, rfl, hc, ha, hcell⟩ := h
 refine ⟨a, c, b', o, rfl, hc, fun h0 => ⟨(ha h0).1, by rw [World.size_setCell]; exact (ha h0).2⟩, fun j l hj => ?_⟩
 have h0 : 0 < _ := Nat.lt_of_le_of_lt (Nat.zero_le _) (List.getElem?_eq_some_iff.1 hj).1
 have hbb := hn _ _ _ (by rw [(ha h0).1])
 exact (World.cell?_setCell_other _ _ _ _ (fun e => hbb (by rw [Addr.mk.injEq] at e; exact e.1.symm))).trans (hcell j l hj)
theorem OwnT.form {w : World} {base : Nat} {v : Value} {l : List Bs} (h : OwnT w base v l) : ∃ a n c, v = .slice a n c := by
 obtain ⟨a, c, b, o, rfl, _⟩ := h.holds
 exact ⟨_, _, _, rfl⟩
end Go.Proofs.YtnnagboeimeiiaaGreatDoor
namespace Go.Proofs.YtnnagboeimeiiaaGreatDoor
open Go.RowKit
theorem digit_ref (c : UInt8) (w : World) : Calls Tryz.prog 104 #[.int .u8 c.toNat] w fun e w' => e = .returned (.bool (dgB c)) ∧ w = w' := by
 have hc := c.toNat_lt
 obtain ⟨B, HB⟩ : ∃ B, Hid (dgB c = B) := ⟨_, rfl⟩
 rw [HB.out]
 unfold dgB at HB
 generalize c.toNat = n at *
 by_cases h1 : 48 ≤ n
 · go_enter Tryz.func104, Tryz.ntmps104
   go_wp2
   go_ret
   exact ⟨retb (by rw [← HB.out, Bool.eq_iff_iff]; simp only [Bool.and_eq_true, decide_eq_true_eq]; omega), rfl⟩
 · go_enter Tryz.func104, Tryz.ntmps104
   go_wp2
   go_ret
   exact ⟨retb (by rw [← HB.out, decide_eq_false h1]; rfl), rfl⟩
theorem letter_ref (c : UInt8) (w : World) : Calls Tryz.prog 129 #[.int .u8 c.toNat] w fun e w' => e = .returned (.bool (ltB c)) ∧ w = w' := by
 have hc := c.toNat_lt
 obtain ⟨B, HB⟩ : ∃ B, Hid (ltB c = B) := ⟨_, rfl⟩
 rw [HB.out]
 unfold ltB at HB
 generalize c.toNat = n at *
 by_cases h1 : 97 ≤ n
 · by_cases h2 : n ≤ 122
   · go_enter Tryz.func129, Tryz.ntmps129
     go_wp2
     go_ret
     exact ⟨retb (by rw [← HB.out, Bool.eq_iff_iff]; simp only [Bool.or_eq_true, Bool.and_eq_true, decide_eq_true_eq, true_iff]; omega), rfl⟩
   · go_enter Tryz.func129, Tryz.ntmps129
     go_wp2
     go_ret
     exact ⟨retb (by rw [← HB.out, Bool.eq_iff_iff]; simp only [Bool.or_eq_true, Bool.and_eq_true, decide_eq_true_eq]; omega), rfl⟩
 · by_cases h3 : 65 ≤ n
   · go_enter Tryz.func129, Tryz.ntmps129
     go_wp2
     go_ret
     exact ⟨retb (by rw [← HB.out, Bool.eq_iff_iff]; simp only [Bool.or_eq_true, Bool.and_eq_true, decide_eq_true_eq]; omega), rfl⟩
   · go_enter Tryz.func129, Tryz.ntmps129
     go_wp2
     go_ret
     exact ⟨retb (by rw [← HB.out, Bool.eq_iff_iff]; simp only [Bool.or_eq_true, Bool.and_eq_true, decide_eq_true_eq, Bool.false_eq_true, false_iff]; omega), rfl⟩
-- The first place of a byte, and the last one
def firstI (c : UInt8) (l : Bs) : Int := if c ∈ l then ((l.takeWhile fun x => decide (x ≠ c)).length : Int) else -1
def lastI (c : UInt8) (l : Bs) : Int := (l.length : Int) - ((l.reverse.takeWhile fun x => decide (x ≠ c)).length : Int) - 1
theorem firstI_mem {c : UInt8} {l : Bs} (h : c ∈ l) (r : Bs) : firstI c (l ++ r) = firstI c l := by
 unfold firstI
 rw [if_pos h, if_pos (List.mem_append_left _ h)]
 congr 2
 rw [List.takeWhile_append]
 have : ¬ (l.takeWhile fun x => decide (x ≠ c)).length = l.length := fun e => by
   have h2 := (List.takeWhile_sublist (fun x => decide (x ≠ c)) (l := l)).eq_of_length e
   have := List.all_eq_true.1 (List.all_takeWhile (p := fun x => decide (x ≠ c)) (l := l)) c (by rw [h2]; exact h)
   simp at this
 rw [if_neg this]
theorem firstI_new {c : UInt8} {l : Bs} (h : c ∉ l) : firstI c (l ++ [c]) = l.length := by
 unfold firstI
 rw [if_pos (by simp), takeWhile_at _ _ _ _ (fun y hy => by simp; rintro rfl; exact h hy) (by simp)]
theorem firstI_no {c : UInt8} {l : Bs} (h : c ∉ l) : firstI c l = -1 := by unfold firstI; rw [if_neg h]
theorem firstI_ge {c : UInt8} {l : Bs} : -1 ≤ firstI c l ∧ firstI c l < l.length ∨ l = [] ∧ firstI c l = -1 := by
 unfold firstI
 by_cases h : c ∈ l
 · rw [if_pos h]
   left
   have h1 := takeWhile_le (fun x => decide (x ≠ c)) l
   have : ¬ (l.takeWhile fun x => decide (x ≠ c)).length = l.length := fun e => by
     have h2 := (List.takeWhile_sublist (fun x => decide (x ≠ c)) (l := l)).eq_of_length e
     have := List.all_eq_true.1 (List.all_takeWhile (p := fun x => decide (x ≠ c)) (l := l)) c (by rw [h2]; exact h)
     simp at this
   omega
 · rw [if_neg h]
   cases l with
   | nil => right; exact ⟨rfl, rfl⟩
   | cons x l => left; simp; omega
theorem firstI_neg {c : UInt8} {l : Bs} : firstI c l < 0 ↔ c ∉ l := by
 unfold firstI
 by_cases h : c ∈ l
 · rw [if_pos h]; simp [h]
 · rw [if_neg h]; simp [h]
theorem lastI_snoc (c x : UInt8) (l : Bs) : lastI c (l ++ [x]) = if x = c then (l.length : Int) else lastI c l := by
 unfold lastI
 rw [List.reverse_append, List.reverse_singleton, List.singleton_append, List.length_append, List.length_singleton]
 by_cases h : x = c
 · subst h; simp
 · rw [List.takeWhile_cons, if_pos (by simp [h]), if_neg h, List.length_cons]; omega
theorem lastI_bd (c : UInt8) (l : Bs) : -1 ≤ lastI c l ∧ lastI c l < l.length ∨ l = [] ∧ lastI c l = -1 := by
 have := takeWhile_le (fun x => decide (x ≠ c)) l.reverse
 rw [List.length_reverse] at this
 cases l with
 | nil => right; exact ⟨rfl, rfl⟩
 | cons x l => left; unfold lastI; simp at this ⊢; omega
set_option maxHeartbeats 1000000 in
theorem atFirst_ref (s : ByteArray) (hs : s.size ≤ 100000) (c : UInt8) (w : World) : Calls Tryz.prog 103 #[.string s, .int .u8 c.toNat, .bool false] w fun e w' => e = .returned (.int .i64 (firstI c s.data.toList)) ∧ w = w' := by
 have hcc := c.toNat_lt
 go_enter Tryz.func103, Tryz.ntmps103
 go_wp2
 go_loop [7, 8] (fun o i => ∃ (k : Nat) (z : Int), k ≤ s.size ∧ i = .int .i64 k ∧ o = .int .i64 z ∧ Hid (z = firstI c (s.data.toList.take k))) (fun _ i => s.size - (intOf i).toNat)
 case atStart => exact ⟨0, -1, by omega, rfl, rfl, Lib.hid (by simp [firstI])⟩
 case round =>
   obtain ⟨k, z, hk, rfl, rfl, H⟩ := hrel
   by_cases hlt : k < s.size
   · have hsn := takeSn s k hlt
     have hln := takeLen s k hk
     have hx := s[k].toNat_lt
     by_cases he : s[k] = c
     · have h1 : ((s[k].toNat : Int) == (c.toNat : Int)) = true := by rw [he]; simp
       by_cases hz : z < 0
       · have HN : Hid ((k : Int) = firstI c (s.data.toList.take (k + 1))) := Lib.hid (by
           rw [hsn, he, firstI_new (firstI_neg.1 (H.out ▸ hz)), hln])
         clear hsn hln he
         go_wp2
         go_round
         case rel => exact ⟨k + 1, k, by omega, by go_num, rfl, HN⟩
         case measure => simp [intOf]; omega
       · have HN : Hid (z = firstI c (s.data.toList.take (k + 1))) := Lib.hid (by
           have hm : c ∈ s.data.toList.take k := Decidable.of_not_not fun g => hz (H.out ▸ firstI_neg.2 g)
           rw [hsn, firstI_mem hm]; exact H.out)
         clear hsn hln he
         go_wp2
         go_round
         case rel => exact ⟨k + 1, z, by omega, by go_num, rfl, HN⟩
         case measure => simp [intOf]; omega
     · have h1 : ((s[k].toNat : Int) == (c.toNat : Int)) = false := by
         rw [beq_eq_false_iff_ne]; intro g; exact he (UInt8.toNat_inj.1 (by omega))
       have HN : Hid (z = firstI c (s.data.toList.take (k + 1))) := Lib.hid (by
         rw [hsn]
         by_cases hm : c ∈ s.data.toList.take k
         · rw [firstI_mem hm]; exact H.out
         · rw [H.out, firstI_no hm, firstI_no (by simp [hm]; exact fun g => he g.symm)])
       clear hsn hln he
       go_wp2
       go_round
       case rel => exact ⟨k + 1, z, by omega, by go_num, rfl, HN⟩
       case measure => simp [intOf]; omega
   · obtain rfl : k = s.size := by omega
     have HR : Hid (z = firstI c s.data.toList) := Lib.hid (by rw [H.out, takeAll])
     clear hlt
     go_wp2
     go_ret
     exact ⟨reti HR.out, rfl⟩
set_option maxHeartbeats 1000000 in
theorem atLast_ref (s : ByteArray) (hs : s.size ≤ 100000) (c : UInt8) (w : World) : Calls Tryz.prog 103 #[.string s, .int .u8 c.toNat, .bool true] w fun e w' => e = .returned (.int .i64 (lastI c s.data.toList)) ∧ w = w' := by
 have hcc := c.toNat_lt
 go_enter Tryz.func103, Tryz.ntmps103
 go_wp2
 go_loop [7, 8] (fun o i => ∃ (k : Nat) (z : Int), k ≤ s.size ∧ i = .int .i64 k ∧ o = .int .i64 z ∧ Hid (z = lastI c (s.data.toList.take k))) (fun _ i => s.size - (intOf i).toNat)
 case atStart => exact ⟨0, -1, by omega, rfl, rfl, Lib.hid (by simp [lastI])⟩
 case round =>
   obtain ⟨k, z, hk, rfl, rfl, H⟩ := hrel
   by_cases hlt : k < s.size
   · have hsn := takeSn s k hlt
     have hln := takeLen s k hk
     have hx := s[k].toNat_lt
     by_cases he : s[k] = c
     · have h1 : ((s[k].toNat : Int) == (c.toNat : Int)) = true := by rw [he]; simp
       have HN : Hid ((k : Int) = lastI c (s.data.toList.take (k + 1))) := Lib.hid (by rw [hsn, lastI_snoc, if_pos he, hln])
       clear hsn hln he
       go_wp2
       go_round
       case rel => exact ⟨k + 1, k, by omega, by go_num, rfl, HN⟩
       case measure => simp [intOf]; omega
     · have h1 : ((s[k].toNat : Int) == (c.toNat : Int)) = false := by
         rw [beq_eq_false_iff_ne]; intro g; exact he (UInt8.toNat_inj.1 (by omega))
       have HN : Hid (z = lastI c (s.data.toList.take (k + 1))) := Lib.hid (by rw [hsn, lastI_snoc, if_neg he]; exact H.out)
       clear hsn hln he
       go_wp2
       go_round
       case rel => exact ⟨k + 1, z, by omega, by go_num, rfl, HN⟩
       case measure => simp [intOf]; omega
   · obtain rfl : k = s.size := by omega
     have HR : Hid (z = lastI c s.data.toList) := Lib.hid (by rw [H.out, takeAll])
     clear hlt
     go_wp2
     go_ret
     exact ⟨reti HR.out, rfl⟩
end Go.Proofs.YtnnagboeimeiiaaGreatDoor
namespace Go.Proofs.YtnnagboeimeiiaaGreatDoor
open Go.RowKit
def inM (m : Bs) (c : UInt8) : Bool := dgB c || ltB c || m.contains c
theorem onlyB_in (m s : Bs) : onlyB m s = s.all (inM m) := rfl
theorem inM_mark {m : Bs} {c : UInt8} (hd : dgB c = false) (hl : ltB c = false) (h : firstI c m < 0) : inM m c = false := by
 unfold inM; rw [hd, hl]
 have := firstI_neg.1 h
 simpa using this
theorem inM_yes {m : Bs} {c : UInt8} (h : ¬ firstI c m < 0) : inM m c = true := by
 unfold inM
 have : c ∈ m := Decidable.of_not_not fun g => h (firstI_neg.2 g)
 simp [this]
set_option maxHeartbeats 2000000 in
theorem only_ref (s m : ByteArray) (hs : s.size ≤ 100000) (hm : m.size ≤ 100000) (w : World) : Calls Tryz.prog 105 #[.string s, .string m] w fun e w' => e = .returned (.bool (onlyB m.data.toList s.data.toList)) ∧ w = w' := by
 obtain ⟨B, HB⟩ : ∃ B, Hid (s.data.toList.all (inM m.data.toList) = B) := ⟨_, rfl⟩
 rw [onlyB_in, HB.out]
 have C1 := fun c w => digit_ref c w
 have C2 := fun c w => letter_ref c w
 have C3 := fun c w => atFirst_ref m hm c w
 go_enter Tryz.func105, Tryz.ntmps105
 go_wp2
 go_loop [5] (fun i => ∃ k : Nat, k ≤ s.size ∧ i = .int .i64 k ∧ Hid ((s.data.toList.take k).all (inM m.data.toList) = true)) (fun i => s.size - (intOf i).toNat)
 case atStart => exact ⟨0, by omega, rfl, Lib.hid (by simp)⟩
 case round =>
   obtain ⟨k, hk, rfl, H⟩ := hrel
   by_cases hlt : k < s.size
   · have D1 := C1 s[k]
     have D2 := C2 s[k]
     have D3 := C3 s[k]
     have hx := s[k].toNat_lt
     cases h1 : dgB s[k]
     · cases h2 : ltB s[k]
       · have hfb := firstI_ge (c := s[k]) (l := m.data.toList)
         have hml := sizeOf m
         by_cases h3 : firstI s[k] m.data.toList < 0
         · have HR : Hid (false = B) := Lib.hid (by rw [← HB.out, allSt hlt (inM_mark h1 h2 h3)])
           rw [h1] at D1
           rw [h2] at D2
           generalize firstI s[k] m.data.toList = z at *
           clear C1 C2 C3 h1 h2 hfb hml
           go_wp2_with (first | (go_at_call 104; refine (D1 _).mono ?_; rintro e w1 ⟨rfl, rfl⟩) | (go_at_call 129; refine (D2 _).mono ?_; rintro e w1 ⟨rfl, rfl⟩) | (go_at_call 103; refine (D3 _).mono ?_; rintro e w1 ⟨rfl, rfl⟩))
           go_ret
           exact ⟨retb HR.out, rfl⟩
         · have HN : Hid ((s.data.toList.take (k + 1)).all (inM m.data.toList) = true) := Lib.hid (allNx hlt H.out (inM_yes h3))
           rw [h1] at D1
           rw [h2] at D2
           generalize firstI s[k] m.data.toList = z at *
           clear C1 C2 C3 h1 h2 hfb hml
           go_wp2_with (first | (go_at_call 104; refine (D1 _).mono ?_; rintro e w1 ⟨rfl, rfl⟩) | (go_at_call 129; refine (D2 _).mono ?_; rintro e w1 ⟨rfl, rfl⟩) | (go_at_call 103; refine (D3 _).mono ?_; rintro e w1 ⟨rfl, rfl⟩))
           go_round
           case rel => exact ⟨k + 1, by omega, by go_num, HN⟩
           case measure => simp [intOf]; omega
       · have HN : Hid ((s.data.toList.take (k + 1)).all (inM m.data.toList) = true) := Lib.hid (allNx hlt H.out (by unfold inM; rw [h2]; simp))
         rw [h1] at D1
         rw [h2] at D2
         clear C1 C2 C3 h1 h2 D3
         go_wp2_with (first | (go_at_call 104; refine (D1 _).mono ?_; rintro e w1 ⟨rfl, rfl⟩) | (go_at_call 129; refine (D2 _).mono ?_; rintro e w1 ⟨rfl, rfl⟩))
         go_round
         case rel => exact ⟨k + 1, by omega, by go_num, HN⟩
         case measure => simp [intOf]; omega
     · have HN : Hid ((s.data.toList.take (k + 1)).all (inM m.data.toList) = true) := Lib.hid (allNx hlt H.out (by unfold inM; rw [h1]; rfl))
       rw [h1] at D1
       clear C1 C2 C3 h1 D2 D3
       go_wp2_with (go_at_call 104; refine (D1 _).mono ?_; rintro e w1 ⟨rfl, rfl⟩)
       go_round
       case rel => exact ⟨k + 1, by omega, by go_num, HN⟩
       case measure => simp [intOf]; omega
   · obtain rfl : k = s.size := by omega
     have HR : Hid (true = B) := Lib.hid (by rw [← HB.out]; exact (allDn H.out).symm)
     clear hlt C1 C2 C3
     go_wp2
     go_ret
     exact ⟨retb HR.out, rfl⟩
-- words
end Go.Proofs.YtnnagboeimeiiaaGreatDoor
namespace Go.Proofs.YtnnagboeimeiiaaGreatDoor
open Go.RowKit
end Go.Proofs.YtnnagboeimeiiaaGreatDoor
namespace Go.Proofs.YtnnagboeimeiiaaGreatDoor
open Go.RowKit
-- Rows
def HoldR (k : Nat) (w : World) (v : Value) (rs : List (List Bs)) : Prop :=
 ∃ (a : Option Addr) (c b o : Nat), v = .slice a rs.length c ∧ rs.length ≤ c ∧ (0 < rs.length → a = some ⟨b, o, none⟩ ∧ b < w.heap.size) ∧
   ∀ (j : Nat) r, rs[j]? = some r → ∀ (i : Nat) x, i < k → r[i]? = some x → w.cell? ⟨b, o + j * k + i, none⟩ = some (.string ⟨x.toArray⟩)
theorem HoldR.on {k : Nat} {w w' : World} {v : Value} {rs : List (List Bs)} (h : HoldR k w v rs) (hb : Below w.heap.size w w') : HoldR k w' v rs := by
 obtain ⟨a, c, b, o, rfl, hc, ha, hcell⟩ := h
 refine ⟨a, c, b, o, rfl, hc, fun h0 => ⟨(ha h0).1, Nat.lt_of_lt_of_le (ha h0).2 hb.size⟩, fun j r hj i x hi hx => ?_⟩
 have h0 : 0 < rs.length := by have := (List.getElem?_eq_some_iff.1 hj).1; omega
 rw [hb.cell (ha h0).2]
 exact hcell j r hj i x hi hx
theorem HoldR.cut {k : Nat} {w : World} {a : Option Addr} {c n : Nat} {rs : List (List Bs)} (h : HoldR k w (.slice a n c) rs) (m : Nat) (hm : m ≤ n) : HoldR k w (.slice a m c) (rs.take m) := by
 obtain ⟨a', c', b, o, e, hc, ha, hcell⟩ := h
 simp only [Value.slice.injEq] at e
 obtain ⟨rfl, rfl, rfl⟩ := e
 have hl : (rs.take m).length = m := by rw [List.length_take]; omega
 refine ⟨a, c, b, o, by rw [hl], by omega, fun h0 => ha (by omega), fun j r hj => ?_⟩
 rw [List.getElem?_take] at hj
 split at hj
 · exact hcell j r hj
 · cases hj
end Go.Proofs.YtnnagboeimeiiaaGreatDoor
namespace Go.Proofs.YtnnagboeimeiiaaGreatDoor
open Go.RowKit
end Go.Proofs.YtnnagboeimeiiaaGreatDoor
