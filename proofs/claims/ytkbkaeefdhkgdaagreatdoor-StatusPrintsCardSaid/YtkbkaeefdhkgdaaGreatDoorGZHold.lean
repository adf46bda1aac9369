import Derived.Test.YtkbkaeefdhkgdaaGreatDoorGPSel
import Derived.Lib.SmallJoins
import Derived.WalkLawsBesides
import Derived.WalkSpells
import Derived.BigQuiet
import Derived.Deep.RegionHeld3
import Derived.RangeFuncRecord
namespace Go.Proofs.YtkbkaeefdhkgdaaGreatDoor
section
theorem SL {α : Type} : (∀ (x : α) (l : List α), (l.toArray.setIfInBounds 0 x) = (l.set 0 x).toArray) ∧ (∀ (x : α) (l : List α) (i : Nat), (l.toArray.setIfInBounds i x) = (l.set i x).toArray) ∧ (∀ (x y : α) (l : List α), (y :: l).set 0 x = x :: l) ∧ (∀ (x y : α) (l : List α) (i : Nat), (y :: l).set (i + 1) x = y :: l.set i x) :=
 ⟨fun _ _ => by simp, fun _ _ _ => by simp, fun _ _ _ => rfl, fun _ _ _ _ => rfl⟩
open Go.RowKit
theorem retb {a b : Bool} (h : a = b) : Ending.returned (.bool a) = Ending.returned (.bool b) := congrArg (fun b => Ending.returned (.bool b)) h
theorem reti {k : IntKind} {a b : Int} (h : a = b) : Ending.returned (.int k a) = Ending.returned (.int k b) := congrArg (fun b => Ending.returned (.int k b)) h
theorem strOf {x : ByteArray} {l : Bs} (h : x.data.toList = l) : x = ⟨l.toArray⟩ := by subst h; simp
theorem bytesOf (l : Bs) : (ByteArray.mk l.toArray).data.toList = l := by simp
theorem sizeOf (s : ByteArray) : s.size = s.data.toList.length := Lib.size_eq s
theorem takeSn (s : ByteArray) (k : Nat) (h : k < s.size) : s.data.toList.take (k + 1) = s.data.toList.take k ++ [s[k]] := by
 have hl : k < s.data.toList.length := by rw [← Lib.size_eq]; exact h
 rw [List.take_add_one, List.getElem?_eq_getElem hl]
 simp; rfl
theorem takeAll (s : ByteArray) : s.data.toList.take s.size = s.data.toList := by rw [sizeOf]; exact List.take_length
theorem takeLen (s : ByteArray) (k : Nat) (h : k ≤ s.size) : (s.data.toList.take k).length = k := by rw [List.length_take, ← sizeOf]; omega
theorem dropC (s : ByteArray) (k : Nat) (h : k < s.size) : s.data.toList.drop k = s[k] :: s.data.toList.drop (k + 1) := by
 have hl : k < s.data.toList.length := by rw [← Lib.size_eq]; exact h
 rw [List.drop_eq_getElem_cons hl]; rfl
theorem dropAll (s : ByteArray) : s.data.toList.drop s.size = [] := by rw [sizeOf]; exact List.drop_length
theorem allNx {s : ByteArray} {f : UInt8 → Bool} {k : Nat} (h : k < s.size) (ha : (s.data.toList.take k).all f = true) (hf : f s[k] = true) : (s.data.toList.take (k + 1)).all f = true := by
 rw [takeSn s k h, List.all_append, ha]; simp [hf]
theorem allSt {s : ByteArray} {f : UInt8 → Bool} {k : Nat} (h : k < s.size) (hf : f s[k] = false) : s.data.toList.all f = false := by
 rw [List.all_eq_false]
 exact ⟨s[k], by have := takeSn s k h; exact List.mem_of_mem_take (by rw [this]; simp), by simp [hf]⟩
theorem allDn {s : ByteArray} {f : UInt8 → Bool} (ha : (s.data.toList.take s.size).all f = true) : s.data.toList.all f = true := by rwa [takeAll] at ha
theorem extL (s : ByteArray) (a b : Nat) : (s.extract a b).data.toList = (s.data.toList.drop a).take (b - a) := by
 rw [Lib.extract_data]
theorem eqT (x y : ByteArray) : (x.toList == y.toList) = decide (x.data.toList = y.data.toList) := by
 rw [ByteArray.toList_eq, ByteArray.toList_eq]
 by_cases h : x.data.toList = y.data.toList
 ·
  simp [h]
 ·
  rw [decide_eq_false h]; simpa using h
theorem eqTL (x : ByteArray) (l : Bs) : (x.toList == l) = decide (x.data.toList = l) := by
 rw [ByteArray.toList_eq]
 by_cases h : x.data.toList = l
 ·
  simp [h]
 ·
  rw [decide_eq_false h]; simpa using h
theorem lessL : ∀ (x y : Bs), Op.bytesLess x y = decide (x < y)
 | x, [] => by simp [Op.bytesLess]
 | [], b :: y => by simp [Op.bytesLess]
 | a :: x, b :: y => by
  rw [Op.bytesLess, lessL x y, Bool.eq_iff_iff]
  simp [List.cons_lt_cons_iff]
theorem lessT (x y : ByteArray) : Op.bytesLess x.toList y.toList = decide (x.data.toList < y.data.toList) := by
 rw [ByteArray.toList_eq, ByteArray.toList_eq]; exact lessL _ _
theorem emptyT (x : ByteArray) : x.toList.isEmpty = decide (x.size = 0) := by
 rw [ByteArray.toList_eq, sizeOf]; cases x.data.toList <;> simp
theorem belowQ {B : Nat} {a w : World} (h : Below B a w) (n : Nat) : Below B a (w.drewN n) := ⟨h.os, h.tape, h.output, h.size, h.block⟩
end
section
open Go.RowKit
section
variable {P : Program} {ops : Array Oper} {Q : Exit → Act → World → Prop} {md : Region.Mode} {S : World → Prop}
theorem heldYes (i d : Nat) (v : Value) {fuel : Nat} {listed : Array Bool} {a : Act} {w : World} (hd : (ops[i]?).map (·.dst) = some (some d)) (hs : Region.noSelect ops = true) (hf : Region.free md ops listed i = true) (hr : (Region.ready md ops listed).contains i = true)
  (hQ : ∀ c a w, Q (.panic c) (a.put (some d) v) w → Q (.panic c) a w) (hw : ((ops[i]?).map fun o => Region.wanted o (yielded ops a.tmps)) = some true) (hS : S w)
  (hy : ∀ w, S w → ((ops[i]?).map fun o => (execOp a.eval o).run P w) = some (.ok (.value v) w))
  (h : wpAnyH P md ops Q S fuel (listed.setIfInBounds i true) { tmps := a.tmps.setIfInBounds d v, defers := a.defers } w) : wpAnyH P md ops Q S (fuel + 1) listed a w := by
 cases ho : ops[i]? with
 | none => rw [ho] at hd; cases hd
 | some o =>
  rw [ho] at hd hw hy
  simp only [Option.map_some, Option.some.injEq] at hd hw hy
  refine wpAnyH_take ho hs hf hr (v := v) (fun c a w => by rw [hd]; exact hQ c a w) (Or.inl ⟨hw, hy⟩) hS ?_
  rw [hd]; exact h
theorem heldNo (i d : Nat) {fuel : Nat} {listed : Array Bool} {a : Act} {w : World} (hd : (ops[i]?).map (·.dst) = some (some d)) (hs : Region.noSelect ops = true) (hf : Region.free md ops listed i = true) (hr : (Region.ready md ops listed).contains i = true)
  (hQ : ∀ c a w, Q (.panic c) (a.put (some d) undef) w → Q (.panic c) a w) (hw : ((ops[i]?).map fun o => Region.wanted o (yielded ops a.tmps)) = some false) (hS : S w)
  (h : wpAnyH P md ops Q S fuel (listed.setIfInBounds i true) { tmps := a.tmps.setIfInBounds d undef, defers := a.defers } w) : wpAnyH P md ops Q S (fuel + 1) listed a w := by
 cases ho : ops[i]? with
 | none => rw [ho] at hd; cases hd
 | some o =>
  rw [ho] at hd hw
  simp only [Option.map_some, Option.some.injEq] at hd hw
  refine wpAnyH_take ho hs hf hr (v := undef) (fun c a w => by rw [hd]; exact hQ c a w) (Or.inr ⟨hw, rfl⟩) hS ?_
  rw [hd]; exact h
end
end
section
open Go.RowKit
theorem infoT : (Tryz.prog.info? 9).map (fun i => (i.zero, i.size, i.bytes)) = some (some (.string ⟨#[]⟩), 1, 16) := by kernel_rfl
def HoldT (w : World) (v : Value) (ls : List Bs) : Prop :=
 ∃ (a : Option Addr) (c b o : Nat), v = .slice a ls.length c ∧ ls.length ≤ c ∧ (0 < ls.length → a = some ⟨b, o, none⟩ ∧ b < w.heap.size) ∧ ∀ (j : Nat) l, ls[j]? = some l → w.cell? ⟨b, o + j, none⟩ = some (.string ⟨l.toArray⟩)
theorem HoldT.on {w w' : World} {v : Value} {ls : List Bs} (h : HoldT w v ls) (hb : Below w.heap.size w w') : HoldT w' v ls := by
 obtain ⟨a, c, b, o, rfl, hc, ha, hcell⟩ := h
 refine ⟨a, c, b, o, rfl, hc, fun h0 => ⟨(ha h0).1, Nat.lt_of_lt_of_le (ha h0).2 hb.size⟩, fun j l hj => ?_⟩
 have h0 : 0 < ls.length := by
  have := (List.getElem?_eq_some_iff.1 hj).1; omega
 rw [hb.cell (ha h0).2]
 exact hcell j l hj
abbrev txts (ls : List Bs) : List Value := ls.map fun l => Value.string ⟨l.toArray⟩
def OwnT (w : World) (base : Nat) (v : Value) (ls : List Bs) : Prop := w.ownsRow base 9 1 v ls.length (txts ls)
theorem OwnT.nil (w : World) (base : Nat) : OwnT w base (.slice none 0 0) [] := World.ownsRow_nil _ _ _ _
theorem cellRow (w : World) (g i : Nat) (cur : Array Value) (e : TypeId) (fz : Nat × Nat) (hg : w.heap[g]? = some (.cells cur e fz)) : w.cell? ⟨g, i, none⟩ = cur[i]? := by
 simp [World.cell?, hg]
theorem OwnT.holds {w : World} {base : Nat} {v : Value} {ls : List Bs} (h : OwnT w base v ls) : HoldT w v ls := by
 rcases h.2 with ⟨rfl, h0⟩ | ⟨g, cap, cur, rfl, hb, hg, hn, hm, hs, ht⟩
 ·
  have : ls = [] := List.eq_nil_of_length_eq_zero h0
  subst this
  exact ⟨none, 0, 0, 0, rfl, Nat.le_refl _, fun h => absurd h (by simp), fun j l hj => by simp at hj⟩
 ·
  refine ⟨some ⟨g, 0, none⟩, cap, g, 0, rfl, hn, fun _ => ⟨rfl, (Array.getElem?_eq_some_iff.1 hg).1⟩, fun j l hj => ?_⟩
  have hj' := (List.getElem?_eq_some_iff.1 hj).1
  have e1 : (cur.toList.take (ls.length * 1))[j]? = (txts ls)[j]? := by rw [ht]
  rw [List.getElem?_take, if_pos (by omega), Array.getElem?_toList, List.getElem?_map, hj] at e1
  rw [Nat.zero_add, cellRow w g j cur 9 (0, 0) hg, e1]
  rfl
theorem OwnT.mono {w : World} {base base' : Nat} {v : Value} {ls : List Bs} (h : OwnT w base v ls) (hb : base' ≤ base) : OwnT w base' v ls := by
 refine ⟨h.1, ?_⟩
 rcases h.2 with hn | ⟨g, cap, cur, hv, hb', rest⟩
 ·
  exact .inl hn
 ·
  exact .inr ⟨g, cap, cur, hv, by omega, rest⟩
theorem OwnT.cut {w : World} {base : Nat} {a : Option Addr} {c n : Nat} {ls : List Bs} (h : OwnT w base (.slice a n c) ls) (hl : 0 < ls.length) : OwnT w base (.slice a (n - 1) c) ls.dropLast := by
 rcases h.2 with ⟨_, h0⟩ | ⟨g, cap, cur, hv, hb, hg, hn, hm, hs, ht⟩
 ·
  omega
 ·
  simp only [Value.slice.injEq] at hv
  obtain ⟨rfl, rfl, rfl⟩ := hv
  refine ⟨by simp [txts], .inr ⟨g, c, cur, by rw [List.length_dropLast], hb, hg, by rw [List.length_dropLast]; omega, hm, hs, ?_⟩⟩
  rw [List.length_dropLast]
  have : cur.toList.take ((ls.length - 1) * 1) = (cur.toList.take (ls.length * 1)).take (ls.length - 1) := by rw [List.take_take]; congr 1; omega
  rw [this, ht, txts, txts, List.dropLast_eq_take, List.map_take]
theorem OwnT.made (w : World) (xs : List ByteArray) (hn : xs.length ≤ maxLen) : OwnT (w.alloc (.cells (xs.map Value.string).toArray 9)) w.heap.size (.slice (some ⟨w.heap.size, 0, none⟩) xs.length xs.length) (xs.map (·.data.toList)) := by
 refine ⟨by simp [txts], .inr ⟨w.heap.size, xs.length, (xs.map Value.string).toArray, by simp, Nat.le_refl _, heap_alloc_new w _, by simp, hn, by simp, ?_⟩⟩
 rw [List.length_map, Nat.mul_one, List.take_of_length_le (by simp)]
 simp [txts]
theorem OwnT.app {w' : World} {base : Nat} {v' : Value} {ls : List Bs} {x : ByteArray} {l : Bs} (hx : x.data.toList = l) (h : w'.ownsRow base 9 1 v' (ls.length + 1) (txts ls ++ [.string x])) : OwnT w' base v' (ls ++ [l]) := by
 have e : txts (ls ++ [l]) = txts ls ++ [.string x] := by simp [txts, strOf hx]
 unfold OwnT
 rw [e, List.length_append]
 exact h
theorem belowG {B : Nat} {w0 w w' : World} {o : Obj} {base : Nat} {v : Value} {ls : List Bs} (h : Below B w0 w) (hown : OwnT w base v ls) (hg : (w.alloc o).grownBy w' v.ownBlock) (hB : B ≤ base) (hBw : B ≤ w.heap.size) : Below B w0 w' :=
 (h.alloc hBw o).grown hg (by simp; omega) (fun k hk => by have := (hown.lt k hk).1; omega)
end
section
open Go.RowKit
def AtF (w : World) : List (Addr × Value) → World → Prop
 | [], V => Below w.heap.size w V
 | (a, v) :: l, V => V.cell? a = some v ∧ AtF w l V
theorem AtF.be {w V : World} : ∀ {l : List (Addr × Value)}, AtF w l V → Below w.heap.size w V
 | [], h => h
 | (_, _) :: _, h => AtF.be h.2
theorem AtF.on {w V V' : World} : ∀ {l : List (Addr × Value)}, AtF w l V → Below V.heap.size V V' → AtF w l V'
 | [], h, hb => Below.trans h (hb.mono (Below.size h))
 | (_, _) :: _, h, hb => ⟨(hb.cell (World.block_lt_of_cell? V _ h.1)).trans h.1, AtF.on h.2 hb⟩
theorem AtF.dr {w V : World} {l : List (Addr × Value)} (h : AtF w l V) : AtF w l V.drew := h.on (Below.refl _ _).drew
section
variable {P : Program} {ops : Array Oper} {Q : Exit → Act → World → Prop} {md : Region.Mode} {S : World → Prop}
theorem heldY (i d : Nat) (v : Value) (o : Oper) {fuel : Nat} {listed : Array Bool} {a : Act} {w : World} (ho : ops[i]? = some o) (hd : o.dst = some d) (hs : Region.noSelect ops = true) (hf : Region.free md ops listed i = true) (hr : (Region.ready md ops listed).contains i = true)
  (hQ : ∀ c a w, Q (.panic c) (a.put (some d) v) w → Q (.panic c) a w) (hw : Region.wanted o (yielded ops a.tmps) = true) (hS : S w)
  (hy : ∀ w, S w → (execOp a.eval o).run P w = .ok (.value v) w)
  (h : wpAnyH P md ops Q S fuel (listed.setIfInBounds i true) { tmps := a.tmps.setIfInBounds d v, defers := a.defers } w) : wpAnyH P md ops Q S (fuel + 1) listed a w :=
 heldYes i d v (by rw [ho]; exact congrArg some hd) hs hf hr hQ (by rw [ho]; exact congrArg some hw) hS (fun w hw => by rw [ho]; exact congrArg some (hy w hw)) h
end
theorem AtF.al {w V : World} {l : List (Addr × Value)} (h : AtF w l V) (o : Obj) : AtF w l (V.alloc o) := h.on ((Below.refl _ _).alloc (Nat.le_refl _) o)
theorem AtF.ald {w V : World} {l : List (Addr × Value)} (h : AtF w l V) (o : Obj) : AtF w l (V.alloc o).drew := (h.al o).dr
theorem boxV2 (W : World) (x y : Value) (t : TypeId) : (W.alloc (.cells #[x, y] t)).cell? ⟨W.heap.size, 0, none⟩ = some x ∧ (W.alloc (.cells #[x, y] t)).cell? ⟨W.heap.size, 1, none⟩ = some y := by
 have h := heap_alloc_new W (.cells #[x, y] t)
 exact ⟨by rw [cellRow _ W.heap.size 0 _ t (0, 0) h]; rfl, by rw [cellRow _ W.heap.size 1 _ t (0, 0) h]; rfl⟩
theorem boxV3 (W : World) (x y z : Value) (t : TypeId) : (W.alloc (.cells #[x, y, z] t)).cell? ⟨W.heap.size, 0, none⟩ = some x ∧ (W.alloc (.cells #[x, y, z] t)).cell? ⟨W.heap.size, 1, none⟩ = some y ∧ (W.alloc (.cells #[x, y, z] t)).cell? ⟨W.heap.size, 2, none⟩ = some z := by
 have h := heap_alloc_new W (.cells #[x, y, z] t)
 exact ⟨by rw [cellRow _ W.heap.size 0 _ t (0, 0) h]; rfl, by rw [cellRow _ W.heap.size 1 _ t (0, 0) h]; rfl, by rw [cellRow _ W.heap.size 2 _ t (0, 0) h]; rfl⟩
structure AtK (w : World) (l : List (Addr × Value)) : Prop where
 dr : ∀ V, AtF w l V → AtF w l V.drew
 on : ∀ V V', AtF w l V → Below V.heap.size V V' → AtF w l V'
 al : ∀ V o, AtF w l V → AtF w l (V.alloc o)
 ald : ∀ V o, AtF w l V → AtF w l (V.alloc o).drew
theorem atK (w : World) (l : List (Addr × Value)) : AtK w l := ⟨fun _ h => h.dr, fun _ _ h hb => h.on hb, fun _ o h => h.al o, fun _ o h => h.ald o⟩
end
section
open Go.RowKit
structure Box2 (w : World) (b : Nat) (x y : Value) : Prop where
 c0 : w.cell? ⟨b, 0, none⟩ = some x
 c1 : w.cell? ⟨b, 1, none⟩ = some y
 f : ∀ i, w.frozen? ⟨b, i, none⟩ = false
theorem Box2.new (A : World) (x y : Value) (t : TypeId) : Box2 (A.alloc (.cells #[x, y] t)) A.heap.size x y :=
 ⟨(boxV2 A x y t).1, (boxV2 A x y t).2, fun i => frozen_of_row _ A.heap.size i _ t (heap_alloc_new A _)⟩
theorem Box2.on {A B : World} {b : Nat} {x y : Value} (h : Box2 A b x y) (hb : Below A.heap.size A B) : Box2 B b x y := by
 have hlt := World.block_lt_of_cell? A _ h.c0
 have k := fun o => hb.cell (p := ⟨b, o, none⟩) hlt
 exact ⟨by rw [k]; exact h.c0, by rw [k]; exact h.c1, fun i => by rw [hb.frozen (p := ⟨b, i, none⟩) hlt]; exact h.f i⟩
abbrev put2 (w : World) (b : Nat) (x y : Value) : World := (w.setCell ⟨b, 0, none⟩ x).setCell ⟨b, 1, none⟩ y
theorem Box2.put {w : World} {b : Nat} {x y : Value} (h : Box2 w b x y) (x' y' : Value) : (put2 w b x' y').cell? ⟨b, 0, none⟩ = some x' ∧ (put2 w b x' y').cell? ⟨b, 1, none⟩ = some y' := by
 have o : ∀ (A : World) (i j : Nat) (u v : Value), i ≠ j → A.cell? ⟨b, j, none⟩ = some v → (A.setCell ⟨b, i, none⟩ u).cell? ⟨b, j, none⟩ = some v := fun A i j u v hij hv => (World.cell?_setCell_other _ _ _ _ (fun e => hij (congrArg Addr.off e))).trans hv
 have s0 : ∀ (A : World) (i : Nat) (u v : Value), A.cell? ⟨b, i, none⟩ = some v → (A.setCell ⟨b, i, none⟩ u).cell? ⟨b, i, none⟩ = some u := fun A i u v hv => World.cell?_setCell_same _ _ _ hv
 exact ⟨o _ 1 0 _ _ (by omega) (s0 _ 0 _ _ h.c0), s0 _ 1 _ _ (o _ 0 1 _ _ (by omega) h.c1)⟩
structure Box3 (w : World) (b : Nat) (x y z : Value) : Prop where
 c0 : w.cell? ⟨b, 0, none⟩ = some x
 c1 : w.cell? ⟨b, 1, none⟩ = some y
 c2 : w.cell? ⟨b, 2, none⟩ = some z
 f : ∀ i, w.frozen? ⟨b, i, none⟩ = false
theorem Box3.new (A : World) (x y z : Value) (t : TypeId) : Box3 (A.alloc (.cells #[x, y, z] t)) A.heap.size x y z :=
 ⟨(boxV3 A x y z t).1, (boxV3 A x y z t).2.1, (boxV3 A x y z t).2.2, fun i => frozen_of_row _ A.heap.size i _ t (heap_alloc_new A _)⟩
theorem Box3.on {A B : World} {b : Nat} {x y z : Value} (h : Box3 A b x y z) (hb : Below A.heap.size A B) : Box3 B b x y z := by
 have hlt := World.block_lt_of_cell? A _ h.c0
 have k := fun o => hb.cell (p := ⟨b, o, none⟩) hlt
 exact ⟨by rw [k]; exact h.c0, by rw [k]; exact h.c1, by rw [k]; exact h.c2, fun i => by rw [hb.frozen (p := ⟨b, i, none⟩) hlt]; exact h.f i⟩
abbrev put3 (w : World) (b : Nat) (x y z : Value) : World := ((w.setCell ⟨b, 0, none⟩ x).setCell ⟨b, 1, none⟩ y).setCell ⟨b, 2, none⟩ z
theorem Box3.put {w : World} {b : Nat} {x y z : Value} (h : Box3 w b x y z) (x' y' z' : Value) : (put3 w b x' y' z').cell? ⟨b, 0, none⟩ = some x' ∧ (put3 w b x' y' z').cell? ⟨b, 1, none⟩ = some y' ∧ (put3 w b x' y' z').cell? ⟨b, 2, none⟩ = some z' := by
 have o : ∀ (A : World) (i j : Nat) (u v : Value), i ≠ j → A.cell? ⟨b, j, none⟩ = some v → (A.setCell ⟨b, i, none⟩ u).cell? ⟨b, j, none⟩ = some v := fun A i j u v hij hv => (World.cell?_setCell_other _ _ _ _ (fun e => hij (congrArg Addr.off e))).trans hv
 have s0 : ∀ (A : World) (i : Nat) (u v : Value), A.cell? ⟨b, i, none⟩ = some v → (A.setCell ⟨b, i, none⟩ u).cell? ⟨b, i, none⟩ = some u := fun A i u v hv => World.cell?_setCell_same _ _ _ hv
 exact ⟨o _ 2 0 _ _ (by omega) (o _ 1 0 _ _ (by omega) (s0 _ 0 _ _ h.c0)), o _ 2 1 _ _ (by omega) (s0 _ 1 _ _ (o _ 0 1 _ _ (by omega) h.c1)), s0 _ 2 _ _ (o _ 1 2 _ _ (by omega) (o _ 0 2 _ _ (by omega) h.c2))⟩
theorem HoldT.set {w : World} {v : Value} {l : List Bs} (h : HoldT w v l) {b : Nat} (hn : ∀ a n c, v = .slice (some a) n c → a.block ≠ b) (i : Nat) (u : Value) : HoldT (w.setCell ⟨b, i, none⟩ u) v l := by
 obtain ⟨a, c, b', o, rfl, hc, ha, hcell⟩ := h
 refine ⟨a, c, b', o, rfl, hc, fun h0 => ⟨(ha h0).1, by rw [World.size_setCell]; exact (ha h0).2⟩, fun j l hj => ?_⟩
 have h0 : 0 < _ := Nat.lt_of_le_of_lt (Nat.zero_le _) (List.getElem?_eq_some_iff.1 hj).1
 have hbb := hn _ _ _ (by rw [(ha h0).1])
 exact (World.cell?_setCell_other _ _ _ _ (fun e => hbb (by rw [Addr.mk.injEq] at e; exact e.1.symm))).trans (hcell j l hj)
theorem OwnT.form {w : World} {base : Nat} {v : Value} {l : List Bs} (h : OwnT w base v l) : ∃ a n c, v = .slice a n c := by
 obtain ⟨a, c, b, o, rfl, _⟩ := h.holds
 exact ⟨_, _, _, rfl⟩
end
section
open Go.RowKit
abbrev Rw := List Value
def HoldV (k : Nat) (w : World) (v : Value) (rows : List Rw) : Prop :=
 ∃ (a : Option Addr) (c b o : Nat), v = .slice a rows.length c ∧ rows.length ≤ c ∧ (0 < rows.length → a = some ⟨b, o, none⟩ ∧ b < w.heap.size) ∧
  ∀ (j : Nat) r, rows[j]? = some r → ∀ (i : Nat) y, i < k → r[i]? = some y → w.cell? ⟨b, o + j * k + i, none⟩ = some y
theorem HoldV.on {k : Nat} {w w' : World} {v : Value} {rows : List Rw} (h : HoldV k w v rows) (hb : Below w.heap.size w w') : HoldV k w' v rows := by
 obtain ⟨a, c, b, o, rfl, hc, ha, hcell⟩ := h
 refine ⟨a, c, b, o, rfl, hc, fun h0 => ⟨(ha h0).1, Nat.lt_of_lt_of_le (ha h0).2 hb.size⟩, fun j r hj i y hi hy => ?_⟩
 have h0 : 0 < rows.length := by have := (List.getElem?_eq_some_iff.1 hj).1; omega
 rw [hb.cell (p := ⟨b, o + j * k + i, none⟩) (ha h0).2]
 exact hcell j r hj i y hi hy
theorem HoldV.nil (k : Nat) (w : World) : HoldV k w (.slice none 0 0) [] := ⟨none, 0, 0, 0, rfl, Nat.le_refl _, fun h => absurd h (by simp), fun j l hj => by simp at hj⟩
theorem flat_at (k : Nat) : ∀ (rows : List Rw), (∀ r ∈ rows, r.length = k) → ∀ (j : Nat) r (i : Nat), rows[j]? = some r → i < k → rows.flatten[j * k + i]? = r[i]?
 | [], _, j, r, i, h, _ => by simp at h
 | q :: rows, hk, 0, r, i, h, hi => by
  simp only [List.getElem?_cons_zero, Option.some.injEq] at h
  subst h
  rw [List.flatten_cons, Nat.zero_mul, Nat.zero_add, List.getElem?_append_left (by rw [hk q (by simp)]; exact hi)]
 | q :: rows, hk, j + 1, r, i, h, hi => by
  have hq := hk q (by simp)
  rw [List.flatten_cons, List.getElem?_append_right (by rw [hq, Nat.add_mul]; omega), hq, show (j + 1) * k + i - k = j * k + i by rw [Nat.add_mul]; omega]
  exact flat_at k rows (fun x hx => hk x (List.mem_cons_of_mem _ hx)) j r i (by simpa using h) hi
def OwnV (T : TypeId) (k : Nat) (w : World) (base : Nat) (v : Value) (rows : List Rw) : Prop := (∀ r ∈ rows, r.length = k) ∧ w.ownsRow base T k v rows.length rows.flatten
theorem OwnV.nil (T : TypeId) (k : Nat) (w : World) (base : Nat) : OwnV T k w base (.slice none 0 0) [] := ⟨fun r hr => by simp at hr, World.ownsRow_nil _ _ _ _⟩
theorem OwnV.holds {T : TypeId} {k : Nat} {w : World} {base : Nat} {v : Value} {rows : List Rw} (h : OwnV T k w base v rows) : HoldV k w v rows := by
 obtain ⟨hk, h⟩ := h
 rcases h.2 with ⟨rfl, h0⟩ | ⟨g, cap, cur, rfl, hb, hg, hn, hm, hs, ht⟩
 ·
  have : rows = [] := List.eq_nil_of_length_eq_zero h0
  subst this
  exact HoldV.nil k w
 ·
  refine ⟨some ⟨g, 0, none⟩, cap, g, 0, rfl, hn, fun _ => ⟨rfl, (Array.getElem?_eq_some_iff.1 hg).1⟩, fun j r hj i y hi hy => ?_⟩
  have hj' := (List.getElem?_eq_some_iff.1 hj).1
  have hlt : j * k + i < rows.length * k := by
   have : (j + 1) * k ≤ rows.length * k := Nat.mul_le_mul_right k hj'
   rw [Nat.add_mul] at this; omega
  rw [Nat.zero_add, cellRow w g _ cur T (0, 0) hg, ← Array.getElem?_toList, ← hy, ← flat_at k rows hk j r i hj hi, ← ht, List.getElem?_take, if_pos hlt]
theorem OwnV.mono {T : TypeId} {k : Nat} {w : World} {base B : Nat} {v : Value} {rows : List Rw} (h : OwnV T k w base v rows) (hB : B ≤ base) : OwnV T k w B v rows := by
 refine ⟨h.1, h.2.1, ?_⟩
 rcases h.2.2 with hn | ⟨g, cap, cur, hv, hb', rest⟩
 ·
  exact .inl hn
 ·
  exact .inr ⟨g, cap, cur, hv, by omega, rest⟩
theorem grownV {w w' : World} (h : Below w.heap.size w w') : w.grownBy w' none := ⟨h.os, h.tape, h.output, h.size, fun k hk _ => h.block k hk⟩
theorem OwnV.on {T : TypeId} {k : Nat} {w w' : World} {base : Nat} {v : Value} {rows : List Rw} (h : OwnV T k w base v rows) (hb : Below w.heap.size w w') : OwnV T k w' base v rows := ⟨h.1, World.ownsRow.kept h.2 (grownV hb) (by cases v.ownBlock <;> simp)⟩
theorem OwnV.app {T : TypeId} {k : Nat} {w' : World} {base : Nat} {v' : Value} {rows : List Rw} {r : Rw} (hk : ∀ r ∈ rows, r.length = k) (hr : r.length = k) (h : w'.ownsRow base T k v' (rows.length + 1) (rows.flatten ++ r)) : OwnV T k w' base v' (rows ++ [r]) := by
 refine ⟨fun q hq => ?_, ?_⟩
 ·
  rcases List.mem_append.1 hq with hq | hq
  ·
   exact hk q hq
  ·
   simp at hq; subst hq; exact hr
 ·
  rw [List.length_append, List.flatten_append, List.flatten_cons, List.flatten_nil, List.append_nil]; exact h
theorem OwnV.below {T : TypeId} {k : Nat} {B : Nat} {w0 w w' : World} {o : Obj} {base : Nat} {v : Value} {rows : List Rw} (h : Below B w0 w) (hown : OwnV T k w base v rows) (hg : (w.alloc o).grownBy w' v.ownBlock) (hB : B ≤ base) (hBw : B ≤ w.heap.size) : Below B w0 w' :=
 (h.alloc hBw o).grown hg (by simp; omega) (fun k hk => by have := (World.ownsRow.lt hown.2 k hk).1; omega)
theorem OwnV.form {T : TypeId} {k : Nat} {w : World} {base : Nat} {v : Value} {rows : List Rw} (h : OwnV T k w base v rows) : ∃ a c, v = .slice a rows.length c := by
 obtain ⟨a, c, b, o, e, _⟩ := h.holds; exact ⟨a, c, e⟩
end
section
open Go.RowKit
abbrev Sv := Bs × Bs
abbrev Cv := (Bs × Int × List Bs) × Value
structure Av where
 nm : Bs
 lk : Bs
 mn : Bool
 cr : Bs
 sl : List Sv
 ch : List Cv
 sv : Value
 cv : Value
abbrev cellsS (x : Sv) : Rw := [.string (⟨x.1.toArray⟩ : ByteArray), .string (⟨x.2.toArray⟩ : ByteArray)]
abbrev cellsC (x : Cv) : Rw := [.string (⟨x.1.1.toArray⟩ : ByteArray), .int .i64 x.1.2.1, x.2]
abbrev cellsA (x : Av) : Rw := [.string (⟨x.nm.toArray⟩ : ByteArray), .string (⟨x.lk.toArray⟩ : ByteArray), .bool x.mn, .string (⟨x.cr.toArray⟩ : ByteArray), x.sv, x.cv]
abbrev HoldS (w : World) (v : Value) (l : List Sv) : Prop := HoldV 2 w v (l.map cellsS)
abbrev HoldC (w : World) (v : Value) (l : List Cv) : Prop := HoldV 3 w v (l.map cellsC) ∧ ∀ x ∈ l, HoldT w x.2 x.1.2.2
abbrev InA (w : World) (x : Av) : Prop := HoldS w x.sv x.sl ∧ HoldC w x.cv x.ch
abbrev HoldA (w : World) (v : Value) (l : List Av) : Prop := HoldV 6 w v (l.map cellsA) ∧ ∀ x ∈ l, InA w x
theorem HoldC.on {w w' : World} {v : Value} {l : List Cv} (h : HoldC w v l) (hb : Below w.heap.size w w') : HoldC w' v l := ⟨HoldV.on h.1 hb, fun x hx => (h.2 x hx).on hb⟩
theorem InA.on {w w' : World} {x : Av} (h : InA w x) (hb : Below w.heap.size w w') : InA w' x := ⟨HoldV.on h.1 hb, HoldC.on h.2 hb⟩
theorem HoldA.on {w w' : World} {v : Value} {l : List Av} (h : HoldA w v l) (hb : Below w.heap.size w w') : HoldA w' v l := ⟨HoldV.on h.1 hb, fun x hx => (h.2 x hx).on hb⟩
theorem HoldS.parts {w : World} {v : Value} {l : List Sv} (h : HoldS w v l) : ∃ (a : Option Addr) (c b o : Nat), v = .slice a l.length c ∧ l.length ≤ c ∧ (0 < l.length → a = some ⟨b, o, none⟩ ∧ b < w.heap.size) ∧
  ∀ (j : Nat) x, l[j]? = some x → w.cell? ⟨b, o + j * 2, none⟩ = some (.string (⟨x.1.toArray⟩ : ByteArray)) ∧ w.cell? ⟨b, o + j * 2 + 1, none⟩ = some (.string (⟨x.2.toArray⟩ : ByteArray)) := by
 obtain ⟨a, c, b, o, e, hc, ha, hcell⟩ := h
 rw [List.length_map] at e hc ha
 refine ⟨a, c, b, o, e, hc, ha, fun j x hx => ?_⟩
 have := hcell j (cellsS x) (by rw [List.getElem?_map, hx]; rfl)
 exact ⟨this 0 _ (by omega) rfl, this 1 _ (by omega) rfl⟩
theorem HoldC.parts {w : World} {v : Value} {l : List Cv} (h : HoldC w v l) : ∃ (a : Option Addr) (c b o : Nat), v = .slice a l.length c ∧ l.length ≤ c ∧ (0 < l.length → a = some ⟨b, o, none⟩ ∧ b < w.heap.size) ∧
  ∀ (j : Nat) x, l[j]? = some x → w.cell? ⟨b, o + j * 3, none⟩ = some (.string (⟨x.1.1.toArray⟩ : ByteArray)) ∧ w.cell? ⟨b, o + j * 3 + 1, none⟩ = some (.int .i64 x.1.2.1) ∧ w.cell? ⟨b, o + j * 3 + 2, none⟩ = some x.2 := by
 obtain ⟨⟨a, c, b, o, e, hc, ha, hcell⟩, -⟩ := h
 rw [List.length_map] at e hc ha
 refine ⟨a, c, b, o, e, hc, ha, fun j x hx => ?_⟩
 have := hcell j (cellsC x) (by rw [List.getElem?_map, hx]; rfl)
 exact ⟨this 0 _ (by omega) rfl, this 1 _ (by omega) rfl, this 2 _ (by omega) rfl⟩
theorem HoldA.parts {w : World} {v : Value} {l : List Av} (h : HoldA w v l) : ∃ (a : Option Addr) (c b o : Nat), v = .slice a l.length c ∧ l.length ≤ c ∧ (0 < l.length → a = some ⟨b, o, none⟩ ∧ b < w.heap.size) ∧
  ∀ (j : Nat) x, l[j]? = some x → w.cell? ⟨b, o + j * 6, none⟩ = some (.string (⟨x.nm.toArray⟩ : ByteArray)) ∧ w.cell? ⟨b, o + j * 6 + 1, none⟩ = some (.string (⟨x.lk.toArray⟩ : ByteArray)) ∧ w.cell? ⟨b, o + j * 6 + 2, none⟩ = some (.bool x.mn) ∧ w.cell? ⟨b, o + j * 6 + 3, none⟩ = some (.string (⟨x.cr.toArray⟩ : ByteArray)) ∧ w.cell? ⟨b, o + j * 6 + 4, none⟩ = some x.sv ∧ w.cell? ⟨b, o + j * 6 + 5, none⟩ = some x.cv := by
 obtain ⟨⟨a, c, b, o, e, hc, ha, hcell⟩, -⟩ := h
 rw [List.length_map] at e hc ha
 refine ⟨a, c, b, o, e, hc, ha, fun j x hx => ?_⟩
 have := hcell j (cellsA x) (by rw [List.getElem?_map, hx]; rfl)
 exact ⟨this 0 _ (by omega) rfl, this 1 _ (by omega) rfl, this 2 _ (by omega) rfl, this 3 _ (by omega) rfl, this 4 _ (by omega) rfl, this 5 _ (by omega) rfl⟩
-- How large
def FitS (x : Sv) : Prop := x.1.length ≤ maxLen ∧ x.2.length ≤ maxLen
def FitC (x : Cv) : Prop := x.1.1.length ≤ maxLen ∧ x.1.2.2.length ≤ maxLen ∧ ∀ q ∈ x.1.2.2, q.length ≤ maxLen
structure FitA (x : Av) : Prop where
 nm : x.nm.length ≤ maxLen
 lk : x.lk.length ≤ maxLen
 cr : x.cr.length ≤ maxLen
 sl : x.sl.length ≤ maxLen
 ch : x.ch.length ≤ maxLen
 ss : ∀ s ∈ x.sl, FitS s
 cs : ∀ c ∈ x.ch, FitC c
def FewS (x : Sv) : Prop := x.1.length ≤ 300 ∧ x.2.length ≤ 300
def FewC (x : Cv) : Prop := x.1.1.length ≤ 300 ∧ x.1.2.2.length ≤ 70 ∧ ∀ q ∈ x.1.2.2, q.length ≤ 3000
structure FewOne (x : Av) : Prop where
 nm : x.nm.length ≤ 300
 lk : x.lk.length ≤ 300
 cr : x.cr.length ≤ 300
 sl : x.sl.length ≤ 70
 ch : x.ch.length ≤ 70
 ss : ∀ s ∈ x.sl, FewS s
 cs : ∀ c ∈ x.ch, FewC c
end
section
open Go.RowKit
-- Rows
def HoldR (k : Nat) (w : World) (v : Value) (rs : List (List Bs)) : Prop :=
 ∃ (a : Option Addr) (c b o : Nat), v = .slice a rs.length c ∧ rs.length ≤ c ∧ (0 < rs.length → a = some ⟨b, o, none⟩ ∧ b < w.heap.size) ∧
  ∀ (j : Nat) r, rs[j]? = some r → ∀ (i : Nat) x, i < k → r[i]? = some x → w.cell? ⟨b, o + j * k + i, none⟩ = some (.string ⟨x.toArray⟩)
theorem HoldR.on {k : Nat} {w w' : World} {v : Value} {rs : List (List Bs)} (h : HoldR k w v rs) (hb : Below w.heap.size w w') : HoldR k w' v rs := by
 obtain ⟨a, c, b, o, rfl, hc, ha, hcell⟩ := h
 refine ⟨a, c, b, o, rfl, hc, fun h0 => ⟨(ha h0).1, Nat.lt_of_lt_of_le (ha h0).2 hb.size⟩, fun j r hj i x hi hx => ?_⟩
 have h0 : 0 < rs.length := by have := (List.getElem?_eq_some_iff.1 hj).1; omega
 rw [hb.cell (ha h0).2]
 exact hcell j r hj i x hi hx
theorem HoldR.cut {k : Nat} {w : World} {a : Option Addr} {c n : Nat} {rs : List (List Bs)} (h : HoldR k w (.slice a n c) rs) (m : Nat) (hm : m ≤ n) : HoldR k w (.slice a m c) (rs.take m) := by
 obtain ⟨a', c', b, o, e, hc, ha, hcell⟩ := h
 simp only [Value.slice.injEq] at e
 obtain ⟨rfl, rfl, rfl⟩ := e
 have hl : (rs.take m).length = m := by rw [List.length_take]; omega
 refine ⟨a, c, b, o, by rw [hl], by omega, fun h0 => ha (by omega), fun j r hj => ?_⟩
 rw [List.getElem?_take] at hj
 split at hj
 ·
  exact hcell j r hj
 ·
  cases hj
end
end Go.Proofs.YtkbkaeefdhkgdaaGreatDoor
