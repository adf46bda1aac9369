/-
  slices.Clone of lists: a slice of its own; nothing old turns.
-/
import Derived.Laws.CopyRow
import Derived.Lib.Overlaps
import Derived.Lib.AppendZerosOnto
import Derived.Laws.AppendOwn
import Derived.Test.YtkcamfcjkjiijaaGreatDoorGTFew
import Derived.Test.YtkcamfcjkjiijaaGreatDoorGTCheckL
import Derived.Deep.RegionHeld3
import Derived.Laws.OwnMore
import Derived.IntWalk
import Derived.BigRegion
import Derived.Shelf.Spec.SlicesInsert
import Derived.Lib.SliceRun
namespace Go.Proofs.YtkcamfcjkjiijaaGreatDoor
end Go.Proofs.YtkcamfcjkjiijaaGreatDoor
namespace Go.Proofs.YtkcamfcjkjiijaaGreatDoor
open Go.RowKit
def idxGxT (l : List Lp) (p : Lp → Bool) : Int := match l.findIdx? p with
  | some k => (k : Int)
  | none => -1
theorem idxG_hitxT {l : List Lp} {p : Lp → Bool} {k : Nat} {x : Lp} (hx : l[k]? = some x) (hp : p x = true) (hb : ∀ (j : Nat) y, j < k → l[j]? = some y → p y = false) : idxGxT l p = k := by
  unfold idxGxT
  have : l.findIdx? p = some k := by
    rw [List.findIdx?_eq_some_iff_getElem]
    obtain ⟨hk, e⟩ := List.getElem?_eq_some_iff.1 hx
    exact ⟨hk, by rw [e]; exact hp, fun j hj => by rw [hb j _ hj (List.getElem?_eq_getElem (by omega))]; simp⟩
  rw [this]
theorem idxG_missxT {l : List Lp} {p : Lp → Bool} (hb : ∀ (j : Nat) y, l[j]? = some y → p y = false) : idxGxT l p = -1 := by
  unfold idxGxT
  have : l.findIdx? p = none := by
    rw [List.findIdx?_eq_none_iff]
    intro y hy
    obtain ⟨j, hj⟩ := List.mem_iff_getElem?.1 hy
    exact hb j y hj
  rw [this]
def nameIs (k : Bs) (x : Lp) : Bool := decide (x.1.1 = k)
def PredL (g : Nat) (lb : Array Value) (l : List Lp) (p : Lp → Bool) (w : World) : Prop :=
  ∀ W x, Below w.heap.size w W → x ∈ l → Calls Tryz.prog g (#[aggT x] ++ lb) W fun e w' => e = .returned (.bool (p x)) ∧ Below W.heap.size W w'
set_option maxRecDepth 100000 in
set_option maxHeartbeats 4000000 in
theorem idx_ls (g : Nat) (lb : Array Value) (eg : ∀ args w, (callFunc g args).run Tryz.prog w = .ok (.enter g args) w) (p : Lp → Bool) (v : Value) (l : List Lp) (hl : l.length ≤ 90000) (w : World) (h : HoldL w v l) (hp : PredL g lb l p w) :
    Calls Tryz.prog 77 #[v, .func (.func g) #[] lb] w fun e w' => e = .returned (.int .i64 (idxGxT l p)) ∧ Below w.heap.size w w' := by
  obtain ⟨hin, a, c, b, o, rfl, hc, ha, hcell⟩ := h
  have HC := Lib.hid hcell
  have HI := Lib.hid hin
  obtain ⟨Z, HZ⟩ : ∃ Z, Hid (idxGxT l p = Z) := ⟨_, rfl⟩
  rw [HZ.out]
  have HP := Lib.hid hp
  obtain ⟨n, hN⟩ : ∃ n, l.length = n := ⟨_, rfl⟩
  rw [hN] at hc ha hl ⊢
  have HN := Lib.hid hN
  clear hcell hp hN hin
  go_enter Tryz.func77, Tryz.ntmps77
  go_wp2
  go_loopw [8] (fun i wr => ∃ k : Nat, k ≤ n ∧ i = .int .i64 k ∧ Hid (∀ (j : Nat) y, j < k → l[j]? = some y → p y = false) ∧ Hid (Below w.heap.size w wr)) (fun i _ => n - (intOf i).toNat)
  case atStart => exact ⟨0, by omega, rfl, Lib.hid (fun j y hj => by omega), Lib.hid (Below.refl _ _)⟩
  case round =>
    obtain ⟨k, hk, rfl, H, HB⟩ := hrel
    by_cases hlt : k < n
    · obtain ⟨rfl, hbw⟩ := ha (by omega)
      obtain ⟨x, hx⟩ : ∃ x, l[k]? = some x := ⟨_, List.getElem?_eq_getElem (by rw [HN.out]; exact hlt)⟩
      obtain ⟨c0, c1⟩ := HC.out k x hx
      rw [← HB.out.cell (p := ⟨b, o + k * 2, none⟩) hbw] at c0
      rw [← HB.out.cell (p := ⟨b, o + k * 2 + 1, none⟩) hbw] at c1
      have hcall := HP.out wr x HB.out (List.mem_of_getElem? hx)
      obtain ⟨ua, un, uc, hu⟩ := HoldT.formxT (HI.out x (List.mem_of_getElem? hx))
      unfold aggT at hcall
      rw [hu] at hcall c1
      have HX := Lib.hid hx
      clear hx hu
      cases hq : p x
      · rw [hq] at hcall
        have HK : Hid (∀ (j : Nat) y, j < k + 1 → l[j]? = some y → p y = false) := Lib.hid (fun j y hj hy => by
          by_cases e : j = k
          · subst e
            rw [HX.out] at hy; cases hy
            exact hq
          · exact H.out j y (by omega) hy)
        clear hq H
        go_wp2_with (go_at_fn g; refine hcall.mono ?_; rintro e w1 ⟨rfl, hb1⟩; have HB1 := Lib.hid (HB.out.trans (hb1.mono HB.out.size)); clear hb1)
        go_roundw
        case rel => exact ⟨k + 1, by omega, by go_num, HK, HB1⟩
        case measure => simp [intOf]; omega
      · rw [hq] at hcall
        have HF : Hid ((k : Int) = Z) := Lib.hid (by rw [← HZ.out, idxG_hitxT HX.out hq H.out])
        clear hq H
        go_wp2_with (go_at_fn g; refine hcall.mono ?_; rintro e w1 ⟨rfl, hb1⟩; have HB1 := Lib.hid (HB.out.trans (hb1.mono HB.out.size)); clear hb1)
        go_ret
        exact ⟨reti HF.out, HB1.out⟩
    · obtain rfl : k = n := by omega
      have HF : Hid ((-1 : Int) = Z) := Lib.hid (by rw [← HZ.out, idxG_missxT (fun j y hy => H.out j y (by have := (List.getElem?_eq_some_iff.1 hy).1; rw [HN.out] at this; exact this) hy)])
      clear hlt H
      go_wp2
      go_ret
      exact ⟨reti HF.out, HB.out⟩
abbrev FindT (w : World) (B1 B2 b0 : Nat) (k : ByteArray) (x y : Value) (W : World) : Prop :=
  W.cell? ⟨b0, 0, none⟩ = some x ∧ W.cell? ⟨b0, 1, none⟩ = some y ∧ W.cell? ⟨B1, 0, none⟩ = some (.func (.func 60) #[] #[]) ∧ W.cell? ⟨B2, 0, none⟩ = some (.string k) ∧ Below w.heap.size w W
theorem FindT.on {w : World} {B1 B2 b0 : Nat} {k : ByteArray} {x y : Value} {W W1 : World} (h : FindT w B1 B2 b0 k x y W) (hb : Below W.heap.size W W1) : FindT w B1 B2 b0 k x y W1 := by
  obtain ⟨x0, x1, h2, h3, h4⟩ := h
  exact ⟨(hb.cell (World.block_lt_of_cell? W _ x0)).trans x0, (hb.cell (World.block_lt_of_cell? W _ x1)).trans x1, (hb.cell (World.block_lt_of_cell? W _ h2)).trans h2, (hb.cell (World.block_lt_of_cell? W _ h3)).trans h3, h4.trans (hb.mono h4.size)⟩
theorem FindT.dr {w : World} {B1 B2 b0 : Nat} {k : ByteArray} {x y : Value} {W : World} (h : FindT w B1 B2 b0 k x y W) : FindT w B1 B2 b0 k x y W.drew := h.on (Below.refl _ _).drew
set_option maxRecDepth 100000 in
set_option maxHeartbeats 4000000 in
theorem findpL_any (B1 B2 : Nat) (k : ByteArray) (x : Lp) (ua : Option Addr) (un uc : Nat) (hu : x.2 = .slice ua un uc) (W : World) (h1 : W.cell? ⟨B1, 0, none⟩ = some (.func (.func 60) #[] #[])) (h2 : W.cell? ⟨B2, 0, none⟩ = some (.string k)) :
    Calls Tryz.prog 100 #[aggT x, .pointer (some ⟨B1, 0, none⟩), .pointer (some ⟨B2, 0, none⟩)] W fun e w' => e = .returned (.bool (nameIs k.data.toList x)) ∧ Below W.heap.size W w' := by
  have hq := eqT (bsT x.1.1) k
  rw [bytesOf] at hq
  unfold nameIs aggT
  rw [hu]
  have PA := fun w => nameOf_any (bsT x.1.1) (.slice ua un uc) w
  generalize decide (x.1.1 = k.data.toList) = q at *
  generalize bsT x.1.1 = X at *
  clear hu
  have l1 := World.block_lt_of_cell? W _ h1
  have l2 := World.block_lt_of_cell? W _ h2
  have B0 := (Below.refl W.heap.size W).alloc (Nat.le_refl _) (.cells #[.string X, .slice ua un uc] 63)
  obtain ⟨x0, x1⟩ := box2 W (.string X) (.slice ua un uc) 63
  have HS := Lib.hid (show FindT W B1 B2 W.heap.size k (.string X) (.slice ua un uc) _ from ⟨x0, x1, (B0.cell l1).trans h1, (B0.cell l2).trans h2, B0⟩)
  clear x0 x1
  go_enter Tryz.func100, Tryz.ntmps100
  go_wp2
  generalize W.alloc (.cells #[.string X, .slice ua un uc] 63) = W2 at *
  generalize hb0 : W.heap.size = b0 at *
  have hs := HS.out
  obtain ⟨x0, x1, k1, k2, hB⟩ := HS.out
  clear hb0 B0 h1 h2
  go_region_held3 (fun V => V.cell? ⟨b0, 0, none⟩ = some (.string X) ∧ V.cell? ⟨b0, 1, none⟩ = some (.slice ua un uc) ∧ V.cell? ⟨B1, 0, none⟩ = some (.func (.func 60) #[] #[]) ∧ V.cell? ⟨B2, 0, none⟩ = some (.string k) ∧ Below W.heap.size W V)
    (first | assumption | exact hs | exact FindT.dr hs | exact FindT.on (by assumption) (by assumption))
    ((go_at_call 60; refine (PA _).mono ?_; rintro e w3 ⟨rfl, hb⟩))
  all_goals
    rename_i hHeld
    have HW3 := Lib.hid hHeld.2.2.2.2
    clear hHeld
    go_wp2
    go_ret
    exact ⟨rfl, HW3.out⟩
set_option maxRecDepth 100000 in
set_option maxHeartbeats 4000000 in
theorem kfindL_any (v : Value) (l : List Lp) (hl : l.length ≤ 90000) (k : ByteArray) (w : World) (h : HoldL w v l) :
    Calls Tryz.prog 82 #[v, nmFxT, .string k] w fun e w' => e = .returned (.int .i64 (idxGxT l (nameIs k.data.toList))) ∧ Below w.heap.size w w' := by
  have B2 := ((Below.refl w.heap.size w).alloc (Nat.le_refl _) (.cells #[nmFxT] 94)).alloc (by simp) (.cells #[.string k] 9)
  have q1 := (Boxed.new w 94 nmFxT).alloc (.cells #[.string k] 9)
  have q2 := Boxed.new (w.alloc (.cells #[nmFxT] 94)) 9 (.string k)
  rw [World.size_alloc] at q2
  have I := idx_ls 100 #[.pointer (some ⟨w.heap.size, 0, none⟩), .pointer (some ⟨w.heap.size + 1, 0, none⟩)] (enters_of Tryz.func100 (by kernel_rfl) rfl) (nameIs k.data.toList) v l hl _ (h.on B2)
    (fun W x hb hx => by
      obtain ⟨ua, un, uc, hu⟩ := HoldT.formxT (h.1 x hx)
      exact findpL_any _ _ k x ua un uc hu W ((hb.cell q1.lt).trans q1.cell) ((hb.cell q2.lt).trans q2.cell))
  have HB2 := Lib.hid B2
  clear B2 q1 q2
  unfold nmFxT at I ⊢
  generalize idxGxT l (nameIs k.data.toList) = z at *
  go_enter Tryz.func82, Tryz.ntmps82
  go_wp2_with (go_at_call 77; refine I.mono ?_; rintro e w1 ⟨rfl, hb⟩; have HB := Lib.hid (HB2.out.trans (hb.mono HB2.out.size)); clear hb)
  go_ret
  exact ⟨rfl, HB.out⟩
theorem find13_any (v : Value) (l : List Lp) (hl : l.length ≤ 90000) (k : ByteArray) (w : World) (h : HoldL w v l) :
    Calls Tryz.prog 57 #[v, .string k] w fun e w' => e = .returned (.int .i64 (idxGxT l (nameIs k.data.toList))) ∧ Below w.heap.size w w' := by
  have I := kfindL_any v l hl k w h
  unfold nmFxT at I
  generalize idxGxT l (nameIs k.data.toList) = z at *
  go_enter Tryz.func57, Tryz.ntmps57
  go_wp2_with (go_at_call 82; refine I.mono ?_; rintro e w1 ⟨rfl, hb⟩; have HB := Lib.hid hb; clear hb)
  go_ret
  exact ⟨rfl, HB.out⟩
end Go.Proofs.YtkcamfcjkjiijaaGreatDoor
namespace Go.Proofs.YtkcamfcjkjiijaaGreatDoor
open Go.RowKit
theorem nn_ofB (o : Option Nat) : o = none ∨ o ≠ none := by cases o <;> simp
/-- The slice value v owns the cells of the lists L, in a block from base on. -/
def OwnC (w : World) (base : Nat) (v : Value) (L : List Lp) : Prop := w.ownsRow base 63 2 v L.length (lcells L)
theorem OwnC.nil (w : World) (base : Nat) : OwnC w base (.slice none 0 0) [] := World.ownsRow_nil _ _ _ _
theorem OwnC.holds {w : World} {base : Nat} {v : Value} {l : List Lp} (h : OwnC w base v l) (hi : InT w l) : HoldL w v l := OwnL.holds ⟨hi, h⟩
theorem OwnC.mono {w : World} {base B : Nat} {v : Value} {l : List Lp} (h : OwnC w base v l) (hB : B ≤ base) : OwnC w B v l := by
  refine ⟨h.1, ?_⟩
  rcases h.2 with hn | ⟨g, cap, cur, hv, hb', rest⟩
  · exact .inl hn
  · exact .inr ⟨g, cap, cur, hv, by omega, rest⟩
theorem OwnC.app {w' : World} {base : Nat} {v' : Value} {l : List Lp} {x : Lp} {a : ByteArray} {u : Value} (ha : bsT x.1.1 = a) (hu : x.2 = u) (h : w'.ownsRow base 63 2 v' (l.length + 1) (lcells l ++ [.string a, u])) : OwnC w' base v' (l ++ [x]) := by
  have e : lcells (l ++ [x]) = lcells l ++ [.string a, u] := by simp [lcells, ha, hu]
  unfold OwnC
  rw [e, List.length_append]
  exact h
theorem OwnC.below {B : Nat} {w0 w w' : World} {o : Obj} {base : Nat} {v : Value} {l : List Lp} (h : Below B w0 w) (hown : OwnC w base v l) (hg : (w.alloc o).grownBy w' v.ownBlock) (hB : B ≤ base) (hBw : B ≤ w.heap.size) : Below B w0 w' :=
  (h.alloc hBw o).grown hg (by simp; omega) (fun k hk => by have := (World.ownsRow.lt hown k hk).1; omega)
end Go.Proofs.YtkcamfcjkjiijaaGreatDoor
namespace Go.Proofs.YtkcamfcjkjiijaaGreatDoor
open Go.RowKit Go.Lib
end Go.Proofs.YtkcamfcjkjiijaaGreatDoor
namespace Go.Proofs.YtkcamfcjkjiijaaGreatDoor
open Go.RowKit
theorem own_emptyL (w : World) (base : Nat) (hb : base ≤ w.heap.size) : OwnC (w.alloc (.cells #[] 63)) base (.slice (some ⟨w.heap.size, 0, none⟩) 0 0) [] :=
  ⟨rfl, .inr ⟨w.heap.size, 0, #[], rfl, hb, World.alloc_heap_new w _, Nat.le_refl _, Nat.zero_le _, rfl, rfl⟩⟩
def ClonePostL (l : List Lp) (w : World) (e : Ending) (w' : World) : Prop := ∃ v, e = .returned v ∧ OwnC w' w.heap.size v l ∧ Below w.heap.size w w'
set_option maxRecDepth 100000 in
set_option maxHeartbeats 4000000 in
theorem cloneL_any (v : Value) (l : List Lp) (hl : l.length ≤ 90000) (w : World) (h : HoldL w v l) : Calls Tryz.prog 62 #[v] w (ClonePostL l w) := by
  obtain ⟨hin, a, c, b, o, rfl, hc, ha, hcell⟩ := h
  have HC := Lib.hid hcell
  obtain ⟨i0, hi, hz0, hz1, hz2'⟩ := info_parts infoL
  have HB1 := Lib.hid ((Below.refl w.heap.size w).alloc (Nat.le_refl _) (.cells #[] 63))
  have HE := Lib.hid (own_emptyL w w.heap.size (Nat.le_refl _))
  have HD := Lib.hid (And.intro (lcells_len l) (And.intro (lcells_one hin) (lcells_get l)))
  obtain ⟨n, hN⟩ : ∃ n, l.length = n := ⟨_, rfl⟩
  rw [hN] at hc ha hl ⊢
  have HN := Lib.hid hN
  clear hcell hN hin
  have hq : ∀ (w : World) (a : Option Addr) (n c n' c' : Nat), (binOp .eql 28 (.slice a n c) (.slice none n' c')).run Tryz.prog w = .ok (.bool a.isNone) w := fun w a n c n' c' => Lib.run_eql_slice_nil w _ _ a n c n' c' Tryz.underlying28
  cases a with
  | none =>
    have hn : n = 0 := by
      by_cases g : 0 < n
      · cases (ha g).1
      · omega
    have HL : Hid (l = []) := Lib.hid (List.eq_nil_of_length_eq_zero (by rw [HN.out, hn]))
    subst hn
    go_enter Tryz.func62, Tryz.ntmps62
    go_wp2
    go_ret
    exact ⟨_, rfl, by rw [HL.out]; exact OwnC.nil _ _, Below.refl _ _⟩
  | some A =>
    have HNW : Hid (∀ (j : Nat) u, (lcells l)[j]? = some u → (w.alloc (.cells #[] 63)).cell? (A.add j) = some u) := Lib.hid (fun j u hu => by
      obtain ⟨t, x, hx, hh⟩ := HD.out.2.2 j u hu
      have htn : t < n := by rw [← HN.out]; exact (List.getElem?_eq_some_iff.1 hx).1
      obtain ⟨e, hbw⟩ := ha (by omega)
      cases e
      obtain ⟨c0, c1⟩ := HC.out t x hx
      rcases hh with ⟨rfl, rfl⟩ | ⟨rfl, rfl⟩ <;> rw [Addr.add_lit]
      · exact (HB1.out.cell (p := ⟨b, o + t * 2, none⟩) hbw).trans c0
      · exact (HB1.out.cell (p := ⟨b, o + (t * 2 + 1), none⟩) hbw).trans c1)
    clear ha
    go_enter Tryz.func62, Tryz.ntmps62
    go_wp2_with (at_builtin; refine wpList_append_own _ rfl _ _ 28 rfl w.heap.size 63 i0 _ 2 40 Tryz.underlying28 hi hz0 hz1 hz2' rfl (by decide) _ 0 [] rfl HE.out A n _ (lcells l) rfl (by rw [HD.out.1, HN.out]) HNW.out HD.out.2.1 (by unfold maxLen; omega) (by omega) (by simp) ?_)
    intro v' w3 hown' hgrow _
    have HO : Hid (OwnC w3 w.heap.size v' l) := Lib.hid (by unfold OwnC; rw [HN.out]; simpa using hown')
    have HB : Hid (Below w.heap.size w w3) := Lib.hid (HB1.out.grown hgrow (by simp) (fun k hk => by simp [Value.ownBlock] at hk; omega))
    clear hown' hgrow
    go_wp2
    go_ret
    exact ⟨_, rfl, HO.out, HB.out⟩
end Go.Proofs.YtkcamfcjkjiijaaGreatDoor
