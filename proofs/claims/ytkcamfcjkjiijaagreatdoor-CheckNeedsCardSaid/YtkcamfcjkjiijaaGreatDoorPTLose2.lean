/-
  The Lose of the program and of the reference; nothing old turns.
-/
import Derived.Test.YtkcamfcjkjiijaaGreatDoorPDPrint
import Derived.Test.YtkcamfcjkjiijaaGreatDoorPGParseF
import Derived.BigRegion
import Derived.Laws.CopyRow
import Derived.Lib.Overlaps
import Derived.Lib.AppendZerosOnto
import Derived.Laws.AppendOwn
import Derived.Test.YtkcamfcjkjiijaaGreatDoorPTFind
import Derived.Laws.OwnMore
import Derived.IntWalk
import Derived.Shelf.Spec.SlicesInsert
import Derived.Lib.SliceRun
namespace Go.Proofs.YtkcamfcjkjiijaaGreatDoor
open Go.RowKit Go.Shelf
attribute [local go_sem] Oper.semAt_some
def idxSxT (ls : List Bs) (x : Bs) : Int := match ls.findIdx? (fun y => decide (y = x)) with
  | some k => (k : Int)
  | none => -1
theorem idxS_mem (ls : List Bs) (x : Bs) : decide (idxSxT ls x ≥ 0) = decide (x ∈ ls) := by
  unfold idxSxT
  cases h : ls.findIdx? (fun y => decide (y = x)) with
  | none =>
    have : x ∉ ls := fun g => by have := List.findIdx?_eq_none_iff.1 h x g; simp at this
    rw [decide_eq_false this]; rfl
  | some k =>
    obtain ⟨hk, h1, -⟩ := List.findIdx?_eq_some_iff_getElem.1 h
    have : x ∈ ls := by
      have e : ls[k] = x := by simpa using h1
      rw [← e]; exact List.getElem_mem _
    rw [decide_eq_true this]
    show decide ((k : Int) ≥ 0) = true
    exact decide_eq_true (by omega)
theorem idxS_hitxT {ls : List Bs} {x : Bs} {k : Nat} (hx : ls[k]? = some x) (hb : ∀ (j : Nat) y, j < k → ls[j]? = some y → y ≠ x) : idxSxT ls x = k := by
  unfold idxSxT
  have : ls.findIdx? (fun y => decide (y = x)) = some k := by
    rw [List.findIdx?_eq_some_iff_getElem]
    obtain ⟨hk, e⟩ := List.getElem?_eq_some_iff.1 hx
    exact ⟨hk, by simp [e], fun j hj => by have := hb j _ hj (List.getElem?_eq_getElem (by omega)); simpa using this⟩
  rw [this]
theorem idxS_missxT {ls : List Bs} {x : Bs} (hb : ∀ (j : Nat) y, ls[j]? = some y → y ≠ x) : idxSxT ls x = -1 := by
  unfold idxSxT
  have : ls.findIdx? (fun y => decide (y = x)) = none := by
    rw [List.findIdx?_eq_none_iff]
    intro y hy
    obtain ⟨j, hj⟩ := List.mem_iff_getElem?.1 hy
    simpa using hb j y hj
  rw [this]
set_option maxRecDepth 100000 in
set_option maxHeartbeats 4000000 in
theorem index_any (v : Value) (ls : List Bs) (hl : ls.length ≤ 90000) (x : ByteArray) (w : World) (h : HoldT w v ls) : Calls Tryz.prog 79 #[v, .string x] w fun e w' => e = .returned (.int .i64 (idxSxT ls x.data.toList)) ∧ w = w' := by
  obtain ⟨a, c, b, o, rfl, hc, ha, hcell⟩ := h
  have HC := Lib.hid hcell
  obtain ⟨Z, HZ⟩ : ∃ Z, Hid (idxSxT ls x.data.toList = Z) := ⟨_, rfl⟩
  rw [HZ.out]
  obtain ⟨n, hN⟩ : ∃ n, ls.length = n := ⟨_, rfl⟩
  rw [hN] at hc ha hl ⊢
  have HN := Lib.hid hN
  clear hcell hN
  go_enter Tryz.func79, Tryz.ntmps79
  go_wp2
  go_loop [8] (fun i => ∃ k : Nat, k ≤ n ∧ i = .int .i64 k ∧ Hid (∀ (j : Nat) y, j < k → ls[j]? = some y → y ≠ x.data.toList)) (fun i => n - (intOf i).toNat)
  case atStart => exact ⟨0, by omega, rfl, Lib.hid (fun j y hj => by omega)⟩
  case round =>
    obtain ⟨k, hk, rfl, H⟩ := hrel
    by_cases hlt : k < n
    · obtain ⟨rfl, hbw⟩ := ha (by omega)
      obtain ⟨y, hy⟩ : ∃ y, ls[k]? = some y := ⟨_, List.getElem?_eq_getElem (by rw [HN.out]; exact hlt)⟩
      have c0 := HC.out k y hy
      have hq := eqT x ⟨y.toArray⟩
      rw [bytesOf] at hq
      by_cases he : x.data.toList = y
      · rw [decide_eq_true he] at hq
        have HF : Hid ((k : Int) = Z) := Lib.hid (by rw [← HZ.out, idxS_hitxT (by rw [hy, he]) H.out])
        clear he hy H HC
        generalize (⟨y.toArray⟩ : ByteArray) = Y at *
        go_wp2
        go_ret
        exact ⟨reti HF.out, rfl⟩
      · rw [decide_eq_false he] at hq
        have HK : Hid (∀ (j : Nat) u, j < k + 1 → ls[j]? = some u → u ≠ x.data.toList) := Lib.hid (fun j u hj hu => by
          by_cases e : j = k
          · subst e; rw [hy] at hu; cases hu; exact fun g => he g.symm
          · exact H.out j u (by omega) hu)
        clear he hy H HC
        generalize (⟨y.toArray⟩ : ByteArray) = Y at *
        go_wp2
        go_round
        case rel => exact ⟨k + 1, by omega, by go_num, HK⟩
        case measure => simp [intOf]; omega
    · obtain rfl : k = n := by omega
      have HF : Hid ((-1 : Int) = Z) := Lib.hid (by rw [← HZ.out, idxS_missxT (fun j y hy => H.out j y (by have := (List.getElem?_eq_some_iff.1 hy).1; rw [HN.out] at this; exact this) hy)])
      clear hlt H HC
      go_wp2
      go_ret
      exact ⟨reti HF.out, rfl⟩
set_option maxRecDepth 100000 in
theorem contains_any (v : Value) (ls : List Bs) (hl : ls.length ≤ 90000) (x : ByteArray) (w : World) (h : HoldT w v ls) : Calls Tryz.prog 53 #[v, .string x] w fun e w' => e = .returned (.bool (decide (x.data.toList ∈ ls))) ∧ w = w' := by
  have I := index_any v ls hl x w h
  have hm := idxS_mem ls x.data.toList
  generalize idxSxT ls x.data.toList = z at *
  have HM := Lib.hid hm
  clear hm h
  go_enter Tryz.func53, Tryz.ntmps53
  go_wp2_with (go_at_call 79; refine I.mono ?_; rintro e w1 ⟨rfl, rfl⟩)
  go_ret
  exact ⟨retb HM.out, rfl⟩
-- The owners' names.
/-- What lies below, and the iterator's own boxes. -/
def KpO (n0 : Nat) (A B : World) : Prop := MidKept 0 n0 A B ∧ MidKept (n0 + 1) (n0 + 3) A B
theorem KpO.refl (n0 : Nat) (A : World) : KpO n0 A A := ⟨MidKept.refl _ _ _, MidKept.refl _ _ _⟩
theorem KpO.trans {n0 : Nat} {A B C : World} (h : KpO n0 A B) (g : KpO n0 B C) : KpO n0 A C := ⟨h.1.trans g.1, h.2.trans g.2⟩
theorem KpO.alloc {n0 : Nat} (W : World) (o : Obj) (h : n0 + 3 ≤ W.heap.size) : KpO n0 W (W.alloc o) := ⟨fun k _ b => heap_alloc_old W o (by omega), fun k _ b => heap_alloc_old W o (by omega)⟩
end Go.Proofs.YtkcamfcjkjiijaaGreatDoor
namespace Go.Proofs.YtkcamfcjkjiijaaGreatDoor
open Go.RowKit Go.Shelf
attribute [local go_sem] Oper.semAt_some
end Go.Proofs.YtkcamfcjkjiijaaGreatDoor
namespace Go.Proofs.YtkcamfcjkjiijaaGreatDoor
open Go.RowKit
theorem HoldT.form2 {w : World} {v : Value} {l : List Bs} (h : HoldT w v l) : ∃ a n c, v = .slice a n c := by
  obtain ⟨a, c, b, o, rfl, _⟩ := h
  exact ⟨_, _, _, rfl⟩
set_option maxRecDepth 100000 in
set_option maxHeartbeats 4000000 in
theorem has13_any (v : Value) (ls : List Bs) (hl : ls.length ≤ 90000) (x : ByteArray) (w : World) (h : HoldT w v ls) :
    Calls Tryz.prog 31 #[v, .string x] w fun e w' => e = .returned (.bool (decide (x.data.toList ∈ ls))) ∧ w = w' := by
  obtain ⟨a, c, b, o, rfl, hc, ha, hcell⟩ := h
  have HC := Lib.hid hcell
  obtain ⟨n, hN⟩ : ∃ n, ls.length = n := ⟨_, rfl⟩
  rw [hN] at hc ha hl ⊢
  have HN := Lib.hid hN
  obtain ⟨Z, HZ⟩ : ∃ Z, Hid (decide (x.data.toList ∈ ls) = Z) := ⟨_, rfl⟩
  rw [HZ.out]
  clear hcell hN
  go_enter Tryz.func31, Tryz.ntmps31
  go_wp2
  go_loop [5] (fun i => ∃ k : Nat, k ≤ n ∧ i = .int .i64 k ∧ Hid (∀ (j : Nat) y, j < k → ls[j]? = some y → y ≠ x.data.toList)) (fun i => n - (intOf i).toNat)
  case atStart => exact ⟨0, Nat.zero_le _, rfl, Lib.hid (fun j y hj => by omega)⟩
  case round =>
    obtain ⟨k, hk, rfl, H⟩ := hrel
    by_cases hlt : k < n
    · obtain ⟨rfl, hbw⟩ := ha (by omega)
      obtain ⟨y, hy⟩ : ∃ y, ls[k]? = some y := ⟨_, List.getElem?_eq_getElem (by rw [HN.out]; exact hlt)⟩
      have c0 := HC.out k y hy
      have hq := eqT ⟨y.toArray⟩ x
      rw [bytesOf] at hq
      by_cases he : y = x.data.toList
      · rw [decide_eq_true he] at hq
        have HF : Hid (true = Z) := Lib.hid (by rw [← HZ.out, decide_eq_true (by rw [← he]; exact List.mem_of_getElem? hy)])
        clear he hy H HC
        generalize (⟨y.toArray⟩ : ByteArray) = Y at *
        go_wp2
        go_ret
        exact ⟨retb HF.out, rfl⟩
      · rw [decide_eq_false he] at hq
        have HK : Hid (∀ (j : Nat) u, j < k + 1 → ls[j]? = some u → u ≠ x.data.toList) := Lib.hid (fun j u hj hu => by
          by_cases e : j = k
          · subst e; rw [hy] at hu; cases hu; exact he
          · exact H.out j u (by omega) hu)
        clear he hy H HC
        generalize (⟨y.toArray⟩ : ByteArray) = Y at *
        go_wp2
        go_round
        case rel => exact ⟨k + 1, by omega, by go_num, HK⟩
        case measure => simp [intOf]; omega
    · obtain rfl : k = n := by omega
      have HF : Hid (false = Z) := Lib.hid (by rw [← HZ.out, decide_eq_false (fun g => by
        obtain ⟨j, hj⟩ := List.mem_iff_getElem?.1 g
        exact H.out j _ (by have := (List.getElem?_eq_some_iff.1 hj).1; rw [HN.out] at this; exact this) hj rfl)])
      clear hlt H HC
      go_wp2
      go_ret
      exact ⟨retb HF.out, rfl⟩
theorem OwnT.belowA {B : Nat} {w0 w w' : World} {o : Obj} {base : Nat} {v : Value} {ls : List Bs} (h : Below B w0 w) (hown : OwnT w base v ls) (hg : (w.alloc o).grownBy w' v.ownBlock) (hB : B ≤ base) (hBw : B ≤ w.heap.size) : Below B w0 w' :=
  (h.alloc hBw o).grown hg (by simp; omega) (fun k hk => by have := (World.ownsRow.lt hown k hk).1; omega)
end Go.Proofs.YtkcamfcjkjiijaaGreatDoor
namespace Go.Proofs.YtkcamfcjkjiijaaGreatDoor
end Go.Proofs.YtkcamfcjkjiijaaGreatDoor
namespace Go.Proofs.YtkcamfcjkjiijaaGreatDoor
open Go.RowKit
/-- The slice value v owns the cells of the lists L, in a block from base on. -/
def OwnC (w : World) (base : Nat) (v : Value) (L : List Lp) : Prop := w.ownsRow base 63 2 v L.length (lcells L)
theorem OwnC.nil (w : World) (base : Nat) : OwnC w base (.slice none 0 0) [] := World.ownsRow_nil _ _ _ _
theorem OwnC.holds {w : World} {base : Nat} {v : Value} {l : List Lp} (h : OwnC w base v l) (hi : InT w l) : HoldL w v l := OwnL.holds ⟨hi, h⟩
theorem OwnC.mono {w : World} {base B : Nat} {v : Value} {l : List Lp} (h : OwnC w base v l) (hB : B ≤ base) : OwnC w B v l := by
  refine ⟨h.1, ?_⟩
  rcases h.2 with hn | ⟨g, cap, cur, hv, hb', rest⟩
  · exact .inl hn
  · exact .inr ⟨g, cap, cur, hv, by omega, rest⟩
theorem OwnC.app {w' : World} {base : Nat} {v' : Value} {l : List Lp} {x : Lp} {a : ByteArray} {u : Value} (ha : bsT x.1.1 = a) (hu : x.2 = u) (h : w'.ownsRow base 63 2 v' (l.length + 1) (lcells l ++ [.string a, u])) : OwnC w' base v' (l ++ [x]) := by
  have e : lcells (l ++ [x]) = lcells l ++ [.string a, u] := by simp [lcells, ha, hu]
  unfold OwnC
  rw [e, List.length_append]
  exact h
theorem OwnC.below {B : Nat} {w0 w w' : World} {o : Obj} {base : Nat} {v : Value} {l : List Lp} (h : Below B w0 w) (hown : OwnC w base v l) (hg : (w.alloc o).grownBy w' v.ownBlock) (hB : B ≤ base) (hBw : B ≤ w.heap.size) : Below B w0 w' :=
  (h.alloc hBw o).grown hg (by simp; omega) (fun k hk => by have := (World.ownsRow.lt hown k hk).1; omega)
end Go.Proofs.YtkcamfcjkjiijaaGreatDoor
namespace Go.Proofs.YtkcamfcjkjiijaaGreatDoor
open Go.RowKit Go.Lib
end Go.Proofs.YtkcamfcjkjiijaaGreatDoor
namespace Go.Proofs.YtkcamfcjkjiijaaGreatDoor
open Go.RowKit
end Go.Proofs.YtkcamfcjkjiijaaGreatDoor
namespace Go.Proofs.YtkcamfcjkjiijaaGreatDoor
open Go.RowKit
end Go.Proofs.YtkcamfcjkjiijaaGreatDoor
namespace Go.Proofs.YtkcamfcjkjiijaaGreatDoor
open Go.RowKit
theorem OwnC.formxT {w : World} {base : Nat} {v : Value} {l : List Lp} (h : OwnC w base v l) (h0 : 0 < l.length) : ∃ g c, v = .slice (some ⟨g, 0, none⟩) l.length c := by
  rcases h.2 with ⟨_, h1⟩ | ⟨g, c, cur, rfl, _⟩
  · omega
  · exact ⟨g, c, rfl⟩
theorem apart_types {w : World} {b1 b2 : Nat} {v t : Value} {ls : List Bs} {L : List Lp} (h1 : OwnT w b1 v ls) (h2 : OwnC w b2 t L) : v.ownBlock = none ∨ v.ownBlock ≠ t.ownBlock := by
  rcases h1.2 with ⟨rfl, _⟩ | ⟨g, c, cur, rfl, _, hg, _⟩
  · exact .inl rfl
  · refine .inr (fun e => ?_)
    rcases h2.2 with ⟨rfl, _⟩ | ⟨g', c', cur', rfl, _, hg', _⟩
    · cases e
    · simp only [Value.ownBlock, Option.some.injEq] at e
      subst e
      rw [hg] at hg'
      simp at hg'
end Go.Proofs.YtkcamfcjkjiijaaGreatDoor
