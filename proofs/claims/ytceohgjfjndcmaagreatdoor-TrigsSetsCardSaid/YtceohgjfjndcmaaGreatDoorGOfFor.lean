/-
  What Set comes to, as lists: one interest at its place, those with a new trigger, all of them into the others. trigs.those with whatever predicate, Of and For of the program and of the reference; slices.Clone and slices.IndexFunc of interests: what each returns; nothing old turns. The program's Of, For and their closures, the reference's Of and For: what each returns; nothing old turns.
-/
import Derived.Test.YtceohgjfjndcmaaGreatDoorGMath
import Derived.Test.YtceohgjfjndcmaaGreatDoorGSameF
import Derived.Deep.RegionHeld3
import Derived.Lib.SliceRun
namespace Go.Proofs.YtceohgjfjndcmaaGreatDoor
open Go.RowKit
open Classical in
noncomputable def ahead (x y : It) : Bool := decide (lessI x y)
noncomputable def idxI (l : List It) (p : It → Bool) : Int := match l.findIdx? p with
  | some k => (k : Int)
  | none => -1
theorem idxI_hit {l : List It} {p : It → Bool} {k : Nat} {x : It} (hx : l[k]? = some x) (hp : p x = true) (hb : ∀ (j : Nat) y, j < k → l[j]? = some y → p y = false) : l.findIdx? p = some k := by
  rw [List.findIdx?_eq_some_iff_getElem]
  obtain ⟨hk, e⟩ := List.getElem?_eq_some_iff.1 hx
  exact ⟨hk, by rw [e]; exact hp, fun j hj => by rw [hb j _ hj (List.getElem?_eq_getElem (by omega))]; simp⟩
theorem idxI_miss {l : List It} {p : It → Bool} (hb : ∀ (j : Nat) y, l[j]? = some y → p y = false) : l.findIdx? p = none := by
  rw [List.findIdx?_eq_none_iff]
  intro y hy
  obtain ⟨j, hj⟩ := List.mem_iff_getElem?.1 hy
  exact hb j y hj
noncomputable def atI (l : List It) (x : It) : Nat := (l.findIdx? (ahead x)).getD l.length
noncomputable def putI (l : List It) (x : It) : List It := l.take (atI l x) ++ x :: l.drop (atI l x)
theorem atI_le (l : List It) (x : It) : atI l x ≤ l.length := by
  unfold atI
  cases h : l.findIdx? (ahead x) with
  | none => simp
  | some k =>
    rw [List.findIdx?_eq_some_iff_getElem] at h
    obtain ⟨hk, _⟩ := h
    simp; omega
theorem putI_nil (x : It) : putI [] x = [x] := rfl
theorem putI_cons (y : It) (l : List It) (x : It) : putI (y :: l) x = if ahead x y = true then x :: y :: l else y :: putI l x := by
  unfold putI atI
  rw [List.findIdx?_cons]
  split
  · simp
  · cases h : l.findIdx? (ahead x) <;> simp
theorem putI_len (l : List It) (x : It) : (putI l x).length = l.length + 1 := by
  have := atI_le l x
  unfold putI; simp; omega
/-- The reference's put, step by step. -/
noncomputable def stepP (x : It) (s : List It × Bool) (y : It) : List It × Bool := if s.2 = false ∧ ahead x y = true then (s.1 ++ [x] ++ [y], true) else (s.1 ++ [y], s.2)
theorem stepP_done (x : It) : ∀ (l out : List It), l.foldl (stepP x) (out, true) = (out ++ l, true)
  | [], out => by simp
  | y :: l, out => by
    rw [List.foldl_cons, show stepP x (out, true) y = (out ++ [y], true) by simp [stepP], stepP_done x l]; simp
theorem stepP_put (x : It) : ∀ (l out : List It), (if (l.foldl (stepP x) (out, false)).2 = true then (l.foldl (stepP x) (out, false)).1 else (l.foldl (stepP x) (out, false)).1 ++ [x]) = out ++ putI l x
  | [], out => by simp [putI_nil]
  | y :: l, out => by
    rw [List.foldl_cons, putI_cons]
    by_cases h : ahead x y = true
    · rw [show stepP x (out, false) y = (out ++ [x] ++ [y], true) by simp [stepP, h], stepP_done]; simp [h]
    · rw [show stepP x (out, false) y = (out ++ [y], false) by simp [stepP, h], stepP_put x l, if_neg h]; simp
theorem foldl_snoc {α β : Type} (f : β → α → β) (b : β) {l : List α} {k : Nat} {x : α} (h : l[k]? = some x) : (l.take (k + 1)).foldl f b = f ((l.take k).foldl f b) x := by
  rw [List.take_add_one, h]; simp [List.foldl_append]
def trigOf (t : Bs) (x : It) : Bool := decide (x.1 = t)
def pkgOf (p : Bs) (x : It) : Bool := decide (x.2.1 = p)
def pkgNot (p : Bs) (x : It) : Bool := !(decide (x.2.1 = p))
def forI (l : List It) (t : Bs) : List It := l.filter (trigOf t)
def ofI (l : List It) (p : Bs) : List It := l.filter (pkgOf p)
def othI (l : List It) (p : Bs) : List It := l.filter (pkgNot p)
def stepM (p : Bs) (m : List It) (x : It) : List It := if (forI m x.1).length = 0 then m ++ [(x.1, p, x.2.2)] else m
def moreI (own : List It) (p : Bs) : List It := own.foldl (stepM p) []
noncomputable def setI (l : List It) (p : Bs) (own : List It) : List It := (moreI own p).foldl putI (othI l p)
theorem filter_snoc {p : It → Bool} {l : List It} {k : Nat} {x : It} (h : l[k]? = some x) : (l.take (k + 1)).filter p = (l.take k).filter p ++ (if p x = true then [x] else []) := by
  rw [List.take_add_one, h, List.filter_append]
  by_cases g : p x = true <;> simp [g]
theorem forI_nil {m : List It} {t : Bs} : (forI m t).length = 0 ↔ ∀ y ∈ m, y.1 ≠ t := by
  unfold forI
  rw [List.length_eq_zero_iff, List.filter_eq_nil_iff]
  simp [trigOf]
theorem more_trig (p : Bs) (own : List It) : ∀ (k : Nat) (t : Bs), k ≤ own.length → ((∃ y ∈ (own.take k).foldl (stepM p) [], y.1 = t) ↔ ∃ y ∈ own.take k, y.1 = t)
  | 0, t, _ => by simp
  | k + 1, t, hk => by
    obtain ⟨x, hx⟩ : ∃ x, own[k]? = some x := ⟨_, List.getElem?_eq_getElem (by omega)⟩
    have ih := fun t => more_trig p own k t (by omega)
    rw [foldl_snoc _ _ hx, List.take_add_one, hx]
    unfold stepM
    split
    · rename_i h0
      constructor
      · rintro ⟨y, hy, rfl⟩
        rw [List.mem_append] at hy
        rcases hy with hy | hy
        · obtain ⟨z, hz, e⟩ := (ih y.1).1 ⟨y, hy, rfl⟩
          exact ⟨z, List.mem_append_left _ hz, e⟩
        · simp at hy; subst hy
          exact ⟨x, by simp, rfl⟩
      · rintro ⟨y, hy, rfl⟩
        rw [List.mem_append] at hy
        rcases hy with hy | hy
        · obtain ⟨z, hz, e⟩ := (ih y.1).2 ⟨y, hy, rfl⟩
          exact ⟨z, List.mem_append_left _ hz, e⟩
        · simp at hy; subst hy
          exact ⟨(y.1, p, y.2.2), by simp, rfl⟩
    · rename_i h0
      rw [forI_nil] at h0
      obtain ⟨z, hz, hzt⟩ : ∃ y ∈ (own.take k).foldl (stepM p) [], y.1 = x.1 := by
        apply Classical.byContradiction
        intro hn
        exact h0 (fun y hy e => hn ⟨y, hy, e⟩)
      constructor
      · rintro h
        obtain ⟨y, hy, e⟩ := (ih t).1 h
        exact ⟨y, List.mem_append_left _ hy, e⟩
      · rintro ⟨y, hy, rfl⟩
        rw [List.mem_append] at hy
        rcases hy with hy | hy
        · exact (ih y.1).2 ⟨y, hy, rfl⟩
        · simp at hy; subst hy
          exact ⟨z, hz, hzt⟩
theorem for_same (p : Bs) (own : List It) (k : Nat) (t : Bs) (hk : k ≤ own.length) : (forI ((own.take k).foldl (stepM p) []) t).length = 0 ↔ (forI (own.take k) t).length = 0 := by
  rw [forI_nil, forI_nil]
  have := more_trig p own k t hk
  constructor
  · intro h y hy e
    obtain ⟨z, hz, e2⟩ := this.2 ⟨y, hy, e⟩
    exact h z hz e2
  · intro h y hy e
    obtain ⟨z, hz, e2⟩ := this.1 ⟨y, hy, e⟩
    exact h z hz e2
/-- The reference's second loop. -/
noncomputable def refI (l : List It) (p : Bs) (own : List It) (k : Nat) : List It := ((own.take k).foldl (stepM p) []).foldl putI (othI l p)
theorem refI_zero (l : List It) (p : Bs) (own : List It) : refI l p own 0 = othI l p := by simp [refI]
theorem refI_all (l : List It) (p : Bs) (own : List It) : refI l p own own.length = setI l p own := by simp [refI, setI, moreI]
theorem refI_new {l : List It} {p : Bs} {own : List It} {k : Nat} {x : It} (hx : own[k]? = some x) (h : (forI (own.take k) x.1).length = 0) : refI l p own (k + 1) = putI (refI l p own k) (x.1, p, x.2.2) := by
  unfold refI
  rw [foldl_snoc _ _ hx, stepM, if_pos ((for_same p own k x.1 (by have := (List.getElem?_eq_some_iff.1 hx).1; omega)).2 h), List.foldl_append]; rfl
theorem refI_old {l : List It} {p : Bs} {own : List It} {k : Nat} {x : It} (hx : own[k]? = some x) (h : ¬ (forI (own.take k) x.1).length = 0) : refI l p own (k + 1) = refI l p own k := by
  unfold refI
  rw [foldl_snoc _ _ hx, stepM, if_neg (fun g => h ((for_same p own k x.1 (by have := (List.getElem?_eq_some_iff.1 hx).1; omega)).1 g))]
theorem more_len (p : Bs) : ∀ (own m : List It), (own.foldl (stepM p) m).length ≤ m.length + own.length
  | [], m => by simp
  | x :: own, m => by
    have h1 := more_len p own (stepM p m x)
    have h2 : (stepM p m x).length ≤ m.length + 1 := by unfold stepM; split <;> simp
    rw [List.foldl_cons, List.length_cons]; omega
theorem fold_len : ∀ (more l : List It), (more.foldl putI l).length = l.length + more.length
  | [], l => by simp
  | x :: more, l => by rw [List.foldl_cons, fold_len more, putI_len, List.length_cons]; omega
theorem filter_put (q : It → Bool) (l : List It) (x : It) : ((putI l x).filter q).length ≤ (l.filter q).length + 1 := by
  have h : (l.filter q).length = ((l.take (atI l x)).filter q).length + ((l.drop (atI l x)).filter q).length := by
    rw [← List.length_append, ← List.filter_append, List.take_append_drop]
  unfold putI
  rw [List.filter_append, List.length_append, List.filter_cons]
  split
  · rw [List.length_cons]; omega
  · omega
theorem filter_fold (q : It → Bool) : ∀ (more l : List It), ((more.foldl putI l).filter q).length ≤ (l.filter q).length + more.length
  | [], l => by simp
  | x :: more, l => by
    have h1 := filter_fold q more (putI l x)
    have h2 := filter_put q l x
    rw [List.foldl_cons, List.length_cons]; omega
theorem set_of (l : List It) (p : Bs) (own : List It) : (ofI (setI l p own) p).length ≤ own.length := by
  have h1 := filter_fold (pkgOf p) (moreI own p) (othI l p)
  have h2 := more_len p own []
  have h3 : (othI l p).filter (pkgOf p) = [] := by
    unfold othI
    rw [List.filter_filter, List.filter_eq_nil_iff]
    intro x _
    simp [pkgOf, pkgNot]
  rw [h3] at h1
  unfold ofI setI
  unfold moreI at h1
  simp only [List.length_nil] at h1 h2
  unfold moreI
  omega
theorem set_len (l : List It) (p : Bs) (own : List It) : (setI l p own).length ≤ l.length + own.length := by
  unfold setI
  rw [fold_len]
  have h2 := more_len p own []
  have h3 := List.length_filter_le (pkgNot p) l
  unfold moreI othI
  simp only [List.length_nil] at h2
  omega
theorem ref_len {l : List It} {p : Bs} {own : List It} {k : Nat} : (refI l p own k).length ≤ l.length + own.length := by
  unfold refI
  rw [fold_len]
  have h2 := more_len p (own.take k) []
  have h3 := List.length_filter_le (pkgNot p) l
  have h4 := List.length_take_le k own
  have h5 : (own.take k).length ≤ own.length := by rw [List.length_take]; omega
  unfold othI
  simp only [List.length_nil] at h2
  omega
end Go.Proofs.YtceohgjfjndcmaaGreatDoor
namespace Go.Proofs.YtceohgjfjndcmaaGreatDoor
open Go.RowKit
def PredI (g : Nat) (lb : Array Value) (p : It → Bool) (w : World) : Prop :=
  ∀ W x, Below w.heap.size w W → Calls Tryz.prog g (#[aggI x] ++ lb) W fun e w' => e = .returned (.bool (p x)) ∧ Below W.heap.size W w'
theorem PredI.on {g : Nat} {lb : Array Value} {p : It → Bool} {w w' : World} (h : PredI g lb p w) (hb : Below w.heap.size w w') : PredI g lb p w' := fun W x hW => h W x (hb.trans (hW.mono hb.size))
def ThosePost (p : It → Bool) (l : List It) (w : World) (e : Ending) (w' : World) : Prop := ∃ v, e = .returned v ∧ OwnI w' w.heap.size v (l.filter p) ∧ Below w.heap.size w w'
set_option maxRecDepth 100000 in
set_option maxHeartbeats 8000000 in
theorem those_any (g : Nat) (lb : Array Value) (eg : ∀ args w, (callFunc g args).run Tryz.prog w = .ok (.enter g args) w) (p : It → Bool) (v : Value) (l : List It) (hl : l.length ≤ 90000) (w : World) (h : HoldI w v l) (hp : PredI g lb p w) :
    Calls Tryz.prog 53 #[v, .func (.func g) #[] lb] w (ThosePost p l w) := by
  have HPOST : Hid (∀ v' w', OwnI w' w.heap.size v' (l.filter p) → Below w.heap.size w w' → ThosePost p l w (.returned v') w') := Lib.hid (fun v' w' h1 h2 => ⟨v', rfl, h1, h2⟩)
  obtain ⟨a, c, b, o, rfl, hc, ha, hcell⟩ := h.parts
  have HC := Lib.hid hcell
  have HP := Lib.hid hp
  obtain ⟨i0, hi, hz0, hz1, hz2'⟩ := info_parts infoI
  obtain ⟨n, hN⟩ : ∃ n, l.length = n := ⟨_, rfl⟩
  rw [hN] at hc ha hl ⊢
  have HN := Lib.hid hN
  clear hcell hp hN h
  go_enter Tryz.func53, Tryz.ntmps53
  go_wp2
  go_loopw [5, 10] (fun u i wr => ∃ k : Nat, k ≤ n ∧ i = .int .i64 k ∧ Hid (OwnI wr w.heap.size u ((l.take k).filter p)) ∧ Hid (Below w.heap.size w wr)) (fun _ i _ => n - (intOf i).toNat)
  case atStart => exact ⟨0, by omega, rfl, Lib.hid (OwnV.nil _ _ _ _), Lib.hid (Below.refl _ _)⟩
  case round =>
    obtain ⟨k, hk, rfl, HO, HB⟩ := hrel
    have hsz := HB.out.size
    by_cases hlt : k < n
    · obtain ⟨rfl, hbw⟩ := ha (by omega)
      obtain ⟨⟨t, q, z⟩, hx⟩ : ∃ x, l[k]? = some x := ⟨_, List.getElem?_eq_getElem (by rw [HN.out]; exact hlt)⟩
      obtain ⟨c0, c1, c2⟩ := HC.out k (t, q, z) hx
      dsimp only at c0 c1 c2
      rw [← HB.out.cell (p := ⟨b, o + k * 3, none⟩) hbw] at c0
      rw [← HB.out.cell (p := ⟨b, o + k * 3 + 1, none⟩) hbw] at c1
      rw [← HB.out.cell (p := ⟨b, o + k * 3 + 2, none⟩) hbw] at c2
      have HFS := Lib.hid (filter_snoc (p := p) hx)
      have hfl : ((l.take k).filter p).length ≤ k := Nat.le_trans (List.length_filter_le _ _) (by rw [List.length_take]; omega)
      have HFL := Lib.hid hfl
      have HBW := Lib.hid (HB.out.alloc hsz (.cells #[.string (bsT t), .string (bsT q), .bool z] 53))
      have hbx := boxV3 wr (.string (bsT t)) (.string (bsT q)) (.bool z) 53
      have HX3 := Lib.hid (Box3.new wr (.string (bsT t)) (.string (bsT q)) (.bool z) 53)
      have hcall := HP.out (wr.alloc (.cells #[.string (bsT t), .string (bsT q), .bool z] 53)) (t, q, z) HBW.out
      have HO2 := Lib.hid (OwnV.on HO.out ((Below.refl wr.heap.size wr).alloc (Nat.le_refl _) (.cells #[.string (bsT t), .string (bsT q), .bool z] 53)))
      have HX : Hid ((bsT t).data.toList = t) := Lib.hid (by rw [bytesOf])
      have HY : Hid ((bsT q).data.toList = q) := Lib.hid (by rw [bytesOf])
      obtain ⟨x0, x1, x2⟩ := hbx
      unfold aggI at hcall
      dsimp only at hcall
      cases hq : p (t, q, z)
      · rw [hq] at hcall
        have HK : Hid ((l.take (k + 1)).filter p = (l.take k).filter p) := Lib.hid (by rw [HFS.out, hq]; simp)
        clear hx hq hfl HFS
        generalize bsT t = X at *
        generalize bsT q = Y at *
        go_wp2_with (go_at_fn g; refine hcall.mono ?_; rintro e w1 ⟨rfl, hb1⟩; have HB1 := Lib.hid (HBW.out.trans (hb1.mono HBW.out.size)); have HO3 := Lib.hid (OwnV.on HO2.out hb1); clear hb1)
        go_roundw
        case rel => exact ⟨k + 1, by omega, by go_num, Lib.hid (by rw [HK.out]; exact HO3.out), HB1⟩
        case measure => simp [intOf]; omega
      · rw [hq] at hcall
        have HK : Hid ((l.take (k + 1)).filter p = (l.take k).filter p ++ [(t, q, z)]) := Lib.hid (by rw [HFS.out, hq]; simp)
        clear hx hq hfl HFS
        generalize bsT t = X at *
        generalize bsT q = Y at *
        go_wp2_with (first
          | (go_at_fn g; refine hcall.mono ?_; rintro e w1 ⟨rfl, hb1⟩; have HB1 := Lib.hid (HBW.out.trans (hb1.mono HBW.out.size)); have HO3 := Lib.hid (OwnV.on HO2.out hb1); obtain ⟨y0, y1, y2⟩ := HX3.out.on hb1; have hsz1 := HB1.out.size; clear hb1 hcall)
          | (at_builtin; refine wpList_append_own _ rfl _ _ 22 rfl w.heap.size 53 i0 _ 3 40 Tryz.underlying22 hi hz0 hz1 hz2' rfl (by decide) _ _ _ rfl (World.ownsRow.alloc HO3.out.2 _) ⟨w1.heap.size, 0, none⟩ 1 1 [.string X, .string Y, .bool z] rfl rfl ?c1 ?c2 ?c3 ?c4 ?c5 ?_))
        case c1 =>
          intro j u hj
          match j, hj with
          | 0, hj => simp at hj; subst hj; simp [Addr.add]
          | 1, hj => simp at hj; subst hj; simp [Addr.add]
          | 2, hj => simp at hj; subst hj; simp [Addr.add]
        case c2 => intro u hu; simp at hu; rcases hu with rfl | rfl | rfl <;> rfl
        case c3 => rw [List.length_map]; have := HFL.out; unfold maxLen; omega
        case c4 => rw [List.length_map]; have := HFL.out; omega
        case c5 => simp; omega
        · intro v' w3 hown' hgrow _
          have HO4 : Hid (OwnI w3 w.heap.size v' ((l.take (k + 1)).filter p)) := Lib.hid (by rw [HK.out]; exact OwnI.app (x := (t, q, z)) HX.out HY.out (by simpa using hown'))
          have HB3 : Hid (Below w.heap.size w w3) := Lib.hid (OwnV.below HB1.out HO3.out hgrow (Nat.le_refl _) hsz1)
          clear hown' hgrow
          go_wp2
          go_roundw
          case rel => exact ⟨k + 1, by omega, by go_num, HO4, HB3⟩
          case measure => simp [intOf]; omega
    · obtain rfl : k = n := by omega
      have HF : Hid (l.take k = l) := Lib.hid (List.take_of_length_le (by rw [HN.out]; omega))
      rw [HF.out] at HO
      clear hlt
      go_wp2
      go_ret
      exact HPOST.out _ _ HO.out HB.out
end Go.Proofs.YtceohgjfjndcmaaGreatDoor
namespace Go.Proofs.YtceohgjfjndcmaaGreatDoor
open Go.RowKit
theorem of1_any (K : ByteArray) (B : Nat) (x : It) (W : World) (h : W.cell? ⟨B, 0, none⟩ = some (.string K)) : Calls Tryz.prog 57 #[aggI x, .pointer (some ⟨B, 0, none⟩)] W fun e w' => e = .returned (.bool (pkgOf K.data.toList x)) ∧ Below W.heap.size W w' := by
  obtain ⟨t, q, z⟩ := x
  show Calls _ _ #[.agg #[.string (bsT t), .string (bsT q), .bool z], _] _ _
  have q0 := eqT (bsT q) K
  rw [bytesOf] at q0
  have HD : Hid (pkgOf K.data.toList (t, q, z) = (decide (q = K.data.toList))) := Lib.hid rfl
  generalize pkgOf K.data.toList (t, q, z) = d at *
  generalize decide (q = K.data.toList) = d1 at *
  have hB := World.block_lt_of_cell? _ _ h
  have B0 := (Below.refl W.heap.size W).alloc (Nat.le_refl _) (.cells #[.string (bsT t), .string (bsT q), .bool z] 53)
  obtain ⟨x0, x1, x2⟩ := boxV3 W (.string (bsT t)) (.string (bsT q)) (.bool z) 53
  have hK := (B0.cell (p := ⟨B, 0, none⟩) hB).trans h
  have HB0 := Lib.hid B0
  generalize bsT t = X at *
  generalize bsT q = Y at *
  clear h B0
  go_enter Tryz.func57, Tryz.ntmps57
  go_wp2
  go_ret
  exact ⟨by rw [HD.out]; rfl, HB0.out⟩
theorem ofP_any (K : ByteArray) (B : Nat) (W : World) (h : W.cell? ⟨B, 0, none⟩ = some (.string K)) : PredI 57 #[.pointer (some ⟨B, 0, none⟩)] (pkgOf K.data.toList) W := fun W' x hb =>
  of1_any K B x W' ((hb.cell (p := ⟨B, 0, none⟩) (World.block_lt_of_cell? _ _ h)).trans h)
theorem for1_any (K : ByteArray) (B : Nat) (x : It) (W : World) (h : W.cell? ⟨B, 0, none⟩ = some (.string K)) : Calls Tryz.prog 58 #[aggI x, .pointer (some ⟨B, 0, none⟩)] W fun e w' => e = .returned (.bool (trigOf K.data.toList x)) ∧ Below W.heap.size W w' := by
  obtain ⟨t, q, z⟩ := x
  show Calls _ _ #[.agg #[.string (bsT t), .string (bsT q), .bool z], _] _ _
  have q0 := eqT (bsT t) K
  rw [bytesOf] at q0
  have HD : Hid (trigOf K.data.toList (t, q, z) = (decide (t = K.data.toList))) := Lib.hid rfl
  generalize trigOf K.data.toList (t, q, z) = d at *
  generalize decide (t = K.data.toList) = d1 at *
  have hB := World.block_lt_of_cell? _ _ h
  have B0 := (Below.refl W.heap.size W).alloc (Nat.le_refl _) (.cells #[.string (bsT t), .string (bsT q), .bool z] 53)
  obtain ⟨x0, x1, x2⟩ := boxV3 W (.string (bsT t)) (.string (bsT q)) (.bool z) 53
  have hK := (B0.cell (p := ⟨B, 0, none⟩) hB).trans h
  have HB0 := Lib.hid B0
  generalize bsT t = X at *
  generalize bsT q = Y at *
  clear h B0
  go_enter Tryz.func58, Tryz.ntmps58
  go_wp2
  go_ret
  exact ⟨by rw [HD.out]; rfl, HB0.out⟩
theorem forP_any (K : ByteArray) (B : Nat) (W : World) (h : W.cell? ⟨B, 0, none⟩ = some (.string K)) : PredI 58 #[.pointer (some ⟨B, 0, none⟩)] (trigOf K.data.toList) W := fun W' x hb =>
  for1_any K B x W' ((hb.cell (p := ⟨B, 0, none⟩) (World.block_lt_of_cell? _ _ h)).trans h)
theorem set1_any (K : ByteArray) (B : Nat) (x : It) (W : World) (h : W.cell? ⟨B, 0, none⟩ = some (.string K)) : Calls Tryz.prog 54 #[aggI x, .pointer (some ⟨B, 0, none⟩)] W fun e w' => e = .returned (.bool (pkgNot K.data.toList x)) ∧ Below W.heap.size W w' := by
  obtain ⟨t, q, z⟩ := x
  show Calls _ _ #[.agg #[.string (bsT t), .string (bsT q), .bool z], _] _ _
  have q0 := eqT (bsT q) K
  rw [bytesOf] at q0
  have HD : Hid (pkgNot K.data.toList (t, q, z) = (!(decide (q = K.data.toList)))) := Lib.hid rfl
  generalize pkgNot K.data.toList (t, q, z) = d at *
  generalize decide (q = K.data.toList) = d1 at *
  have hB := World.block_lt_of_cell? _ _ h
  have B0 := (Below.refl W.heap.size W).alloc (Nat.le_refl _) (.cells #[.string (bsT t), .string (bsT q), .bool z] 53)
  obtain ⟨x0, x1, x2⟩ := boxV3 W (.string (bsT t)) (.string (bsT q)) (.bool z) 53
  have hK := (B0.cell (p := ⟨B, 0, none⟩) hB).trans h
  have HB0 := Lib.hid B0
  generalize bsT t = X at *
  generalize bsT q = Y at *
  clear h B0
  go_enter Tryz.func54, Tryz.ntmps54
  go_wp2
  go_ret
  exact ⟨by rw [HD.out]; rfl, HB0.out⟩
theorem setP_any (K : ByteArray) (B : Nat) (W : World) (h : W.cell? ⟨B, 0, none⟩ = some (.string K)) : PredI 54 #[.pointer (some ⟨B, 0, none⟩)] (pkgNot K.data.toList) W := fun W' x hb =>
  set1_any K B x W' ((hb.cell (p := ⟨B, 0, none⟩) (World.block_lt_of_cell? _ _ h)).trans h)
set_option maxRecDepth 100000 in
set_option maxHeartbeats 8000000 in
theorem of_any (K : ByteArray) (v : Value) (l : List It) (hl : l.length ≤ 90000) (w : World) (h : HoldI w v l) :
    Calls Tryz.prog 26 #[v, .string K] w (ThosePost (pkgOf K.data.toList) l w) := by
  have HPOST : Hid (∀ v' w', OwnI w' w.heap.size v' (l.filter (pkgOf K.data.toList)) → Below w.heap.size w w' → ThosePost (pkgOf K.data.toList) l w (.returned v') w') := Lib.hid (fun v' w' h1 h2 => ⟨v', rfl, h1, h2⟩)
  have B0 := (Below.refl w.heap.size w).alloc (Nat.le_refl _) (.cells #[.string K] 9)
  have HB0 := Lib.hid B0
  have T := those_any 57 #[.pointer (some ⟨w.heap.size, 0, none⟩)] (enters_of Tryz.func57 (by kernel_rfl) rfl) _ v l hl _ (HoldV.on h B0) (ofP_any K w.heap.size _ (boxV1 w (.string K) 9))
  unfold ThosePost at T
  obtain ⟨a, c, rfl⟩ : ∃ a c, v = .slice a l.length c := by obtain ⟨a, c, b, o, e, _⟩ := h.parts; exact ⟨a, c, e⟩
  generalize l.length = n at *
  clear h B0
  go_enter Tryz.func26, Tryz.ntmps26
  go_wp2_with (go_at_call 53; (with_reducible refine T.mono ?_); rintro e w1 ⟨v1, rfl, ho, hb⟩; have HO := Lib.hid (OwnV.mono ho HB0.out.size); have HB := Lib.hid (HB0.out.trans (hb.mono HB0.out.size)); clear ho hb T)
  go_ret
  exact HPOST.out _ _ HO.out HB.out
set_option maxRecDepth 100000 in
set_option maxHeartbeats 8000000 in
theorem for_any (K : ByteArray) (v : Value) (l : List It) (hl : l.length ≤ 90000) (w : World) (h : HoldI w v l) :
    Calls Tryz.prog 28 #[v, .string K] w (ThosePost (trigOf K.data.toList) l w) := by
  have HPOST : Hid (∀ v' w', OwnI w' w.heap.size v' (l.filter (trigOf K.data.toList)) → Below w.heap.size w w' → ThosePost (trigOf K.data.toList) l w (.returned v') w') := Lib.hid (fun v' w' h1 h2 => ⟨v', rfl, h1, h2⟩)
  have B0 := (Below.refl w.heap.size w).alloc (Nat.le_refl _) (.cells #[.string K] 9)
  have HB0 := Lib.hid B0
  have T := those_any 58 #[.pointer (some ⟨w.heap.size, 0, none⟩)] (enters_of Tryz.func58 (by kernel_rfl) rfl) _ v l hl _ (HoldV.on h B0) (forP_any K w.heap.size _ (boxV1 w (.string K) 9))
  unfold ThosePost at T
  obtain ⟨a, c, rfl⟩ : ∃ a c, v = .slice a l.length c := by obtain ⟨a, c, b, o, e, _⟩ := h.parts; exact ⟨a, c, e⟩
  generalize l.length = n at *
  clear h B0
  go_enter Tryz.func28, Tryz.ntmps28
  go_wp2_with (go_at_call 53; (with_reducible refine T.mono ?_); rintro e w1 ⟨v1, rfl, ho, hb⟩; have HO := Lib.hid (OwnV.mono ho HB0.out.size); have HB := Lib.hid (HB0.out.trans (hb.mono HB0.out.size)); clear ho hb T)
  go_ret
  exact HPOST.out _ _ HO.out HB.out
set_option maxRecDepth 100000 in
set_option maxHeartbeats 8000000 in
theorem of_ref (K : ByteArray) (v : Value) (l : List It) (hl : l.length ≤ 90000) (w : World) (h : HoldI w v l) :
    Calls Tryz.prog 27 #[v, .string K] w (ThosePost (pkgOf K.data.toList) l w) := by
  have HPOST : Hid (∀ v' w', OwnI w' w.heap.size v' (l.filter (pkgOf K.data.toList)) → Below w.heap.size w w' → ThosePost (pkgOf K.data.toList) l w (.returned v') w') := Lib.hid (fun v' w' h1 h2 => ⟨v', rfl, h1, h2⟩)
  obtain ⟨a, c, b, o, rfl, hc, ha, hcell⟩ := h.parts
  have HC := Lib.hid hcell
  have HPD : Hid (∀ t q z, pkgOf K.data.toList (t, q, z) = decide (q = K.data.toList)) := Lib.hid (fun t q z => rfl)
  obtain ⟨p, hp⟩ : ∃ p, pkgOf K.data.toList = p := ⟨_, rfl⟩
  rw [hp] at HPOST HPD ⊢
  obtain ⟨i0, hi, hz0, hz1, hz2'⟩ := info_parts infoI
  obtain ⟨n, hN⟩ : ∃ n, l.length = n := ⟨_, rfl⟩
  rw [hN] at hc ha hl ⊢
  have HN := Lib.hid hN
  clear hcell hN h hp
  go_enter Tryz.func27, Tryz.ntmps27
  go_wp2
  go_loopw [5, 6] (fun u i wr => ∃ k : Nat, k ≤ n ∧ i = .int .i64 k ∧ Hid (OwnI wr w.heap.size u ((l.take k).filter p)) ∧ Hid (Below w.heap.size w wr)) (fun _ i _ => n - (intOf i).toNat)
  case atStart => exact ⟨0, by omega, rfl, Lib.hid (OwnV.nil _ _ _ _), Lib.hid (Below.refl _ _)⟩
  case round =>
    obtain ⟨k, hk, rfl, HO, HB⟩ := hrel
    have hsz := HB.out.size
    by_cases hlt : k < n
    · obtain ⟨rfl, hbw⟩ := ha (by omega)
      obtain ⟨⟨t, q, z⟩, hx⟩ : ∃ x, l[k]? = some x := ⟨_, List.getElem?_eq_getElem (by rw [HN.out]; exact hlt)⟩
      obtain ⟨c0, c1, c2⟩ := HC.out k (t, q, z) hx
      dsimp only at c0 c1 c2
      rw [← HB.out.cell (p := ⟨b, o + k * 3, none⟩) hbw] at c0
      rw [← HB.out.cell (p := ⟨b, o + k * 3 + 1, none⟩) hbw] at c1
      rw [← HB.out.cell (p := ⟨b, o + k * 3 + 2, none⟩) hbw] at c2
      have HFS := Lib.hid (filter_snoc (p := p) hx)
      have hfl : ((l.take k).filter p).length ≤ k := Nat.le_trans (List.length_filter_le _ _) (by rw [List.length_take]; omega)
      have HFL := Lib.hid hfl
      have HX : Hid ((bsT t).data.toList = t) := Lib.hid (by rw [bytesOf])
      have HY : Hid ((bsT q).data.toList = q) := Lib.hid (by rw [bytesOf])
      have q0 := eqT (bsT q) K
      rw [bytesOf] at q0
      cases hq : p (t, q, z)
      · have HK : Hid ((l.take (k + 1)).filter p = (l.take k).filter p) := Lib.hid (by rw [HFS.out, hq]; simp)
        rw [HPD.out] at hq
        rw [hq] at q0
        clear hx hq hfl HFS
        generalize bsT t = X at *
        generalize bsT q = Y at *
        go_wp2
        go_roundw
        case rel => exact ⟨k + 1, by omega, by go_num, Lib.hid (by rw [HK.out]; exact HO.out), HB⟩
        case measure => simp [intOf]; omega
      · have HK : Hid ((l.take (k + 1)).filter p = (l.take k).filter p ++ [(t, q, z)]) := Lib.hid (by rw [HFS.out, hq]; simp)
        rw [HPD.out] at hq
        rw [hq] at q0
        clear hx hq hfl HFS
        generalize bsT t = X at *
        generalize bsT q = Y at *
        go_wp2_with (at_builtin; refine wpList_append_own _ rfl _ _ 22 rfl w.heap.size 53 i0 _ 3 40 Tryz.underlying22 hi hz0 hz1 hz2' rfl (by decide) _ _ _ rfl (World.ownsRow.alloc HO.out.2 _) ⟨wr.heap.size, 0, none⟩ 1 1 [.string X, .string Y, .bool z] rfl rfl ?c1 ?c2 ?c3 ?c4 ?c5 ?_)
        case c2 => exact ⟨rfl, rfl, rfl⟩
        case c3 => have := HFL.out; unfold maxLen; omega
        case c4 => have := HFL.out; omega
        case c5 => omega
        · intro v' w3 hown' hgrow _
          have HO4 : Hid (OwnI w3 w.heap.size v' ((l.take (k + 1)).filter p)) := Lib.hid (by rw [HK.out]; exact OwnI.app (x := (t, q, z)) HX.out HY.out (by simpa using hown'))
          have HB3 : Hid (Below w.heap.size w w3) := Lib.hid (OwnV.below HB.out HO.out hgrow (Nat.le_refl _) hsz)
          clear hown' hgrow
          go_wp2
          go_roundw
          case rel => exact ⟨k + 1, by omega, by go_num, HO4, HB3⟩
          case measure => simp [intOf]; omega
    · obtain rfl : k = n := by omega
      have HF : Hid (l.take k = l) := Lib.hid (List.take_of_length_le (by rw [HN.out]; omega))
      rw [HF.out] at HO
      clear hlt
      go_wp2
      go_ret
      exact HPOST.out _ _ HO.out HB.out
set_option maxRecDepth 100000 in
set_option maxHeartbeats 8000000 in
theorem for_ref (K : ByteArray) (v : Value) (l : List It) (hl : l.length ≤ 90000) (w : World) (h : HoldI w v l) :
    Calls Tryz.prog 29 #[v, .string K] w (ThosePost (trigOf K.data.toList) l w) := by
  have HPOST : Hid (∀ v' w', OwnI w' w.heap.size v' (l.filter (trigOf K.data.toList)) → Below w.heap.size w w' → ThosePost (trigOf K.data.toList) l w (.returned v') w') := Lib.hid (fun v' w' h1 h2 => ⟨v', rfl, h1, h2⟩)
  obtain ⟨a, c, b, o, rfl, hc, ha, hcell⟩ := h.parts
  have HC := Lib.hid hcell
  have HPD : Hid (∀ t q z, trigOf K.data.toList (t, q, z) = decide (t = K.data.toList)) := Lib.hid (fun t q z => rfl)
  obtain ⟨p, hp⟩ : ∃ p, trigOf K.data.toList = p := ⟨_, rfl⟩
  rw [hp] at HPOST HPD ⊢
  obtain ⟨i0, hi, hz0, hz1, hz2'⟩ := info_parts infoI
  obtain ⟨n, hN⟩ : ∃ n, l.length = n := ⟨_, rfl⟩
  rw [hN] at hc ha hl ⊢
  have HN := Lib.hid hN
  clear hcell hN h hp
  go_enter Tryz.func29, Tryz.ntmps29
  go_wp2
  go_loopw [5, 6] (fun u i wr => ∃ k : Nat, k ≤ n ∧ i = .int .i64 k ∧ Hid (OwnI wr w.heap.size u ((l.take k).filter p)) ∧ Hid (Below w.heap.size w wr)) (fun _ i _ => n - (intOf i).toNat)
  case atStart => exact ⟨0, by omega, rfl, Lib.hid (OwnV.nil _ _ _ _), Lib.hid (Below.refl _ _)⟩
  case round =>
    obtain ⟨k, hk, rfl, HO, HB⟩ := hrel
    have hsz := HB.out.size
    by_cases hlt : k < n
    · obtain ⟨rfl, hbw⟩ := ha (by omega)
      obtain ⟨⟨t, q, z⟩, hx⟩ : ∃ x, l[k]? = some x := ⟨_, List.getElem?_eq_getElem (by rw [HN.out]; exact hlt)⟩
      obtain ⟨c0, c1, c2⟩ := HC.out k (t, q, z) hx
      dsimp only at c0 c1 c2
      rw [← HB.out.cell (p := ⟨b, o + k * 3, none⟩) hbw] at c0
      rw [← HB.out.cell (p := ⟨b, o + k * 3 + 1, none⟩) hbw] at c1
      rw [← HB.out.cell (p := ⟨b, o + k * 3 + 2, none⟩) hbw] at c2
      have HFS := Lib.hid (filter_snoc (p := p) hx)
      have hfl : ((l.take k).filter p).length ≤ k := Nat.le_trans (List.length_filter_le _ _) (by rw [List.length_take]; omega)
      have HFL := Lib.hid hfl
      have HX : Hid ((bsT t).data.toList = t) := Lib.hid (by rw [bytesOf])
      have HY : Hid ((bsT q).data.toList = q) := Lib.hid (by rw [bytesOf])
      have q0 := eqT (bsT t) K
      rw [bytesOf] at q0
      cases hq : p (t, q, z)
      · have HK : Hid ((l.take (k + 1)).filter p = (l.take k).filter p) := Lib.hid (by rw [HFS.out, hq]; simp)
        rw [HPD.out] at hq
        rw [hq] at q0
        clear hx hq hfl HFS
        generalize bsT t = X at *
        generalize bsT q = Y at *
        go_wp2
        go_roundw
        case rel => exact ⟨k + 1, by omega, by go_num, Lib.hid (by rw [HK.out]; exact HO.out), HB⟩
        case measure => simp [intOf]; omega
      · have HK : Hid ((l.take (k + 1)).filter p = (l.take k).filter p ++ [(t, q, z)]) := Lib.hid (by rw [HFS.out, hq]; simp)
        rw [HPD.out] at hq
        rw [hq] at q0
        clear hx hq hfl HFS
        generalize bsT t = X at *
        generalize bsT q = Y at *
        go_wp2_with (at_builtin; refine wpList_append_own _ rfl _ _ 22 rfl w.heap.size 53 i0 _ 3 40 Tryz.underlying22 hi hz0 hz1 hz2' rfl (by decide) _ _ _ rfl (World.ownsRow.alloc HO.out.2 _) ⟨wr.heap.size, 0, none⟩ 1 1 [.string X, .string Y, .bool z] rfl rfl ?c1 ?c2 ?c3 ?c4 ?c5 ?_)
        case c2 => exact ⟨rfl, rfl, rfl⟩
        case c3 => have := HFL.out; unfold maxLen; omega
        case c4 => have := HFL.out; omega
        case c5 => omega
        · intro v' w3 hown' hgrow _
          have HO4 : Hid (OwnI w3 w.heap.size v' ((l.take (k + 1)).filter p)) := Lib.hid (by rw [HK.out]; exact OwnI.app (x := (t, q, z)) HX.out HY.out (by simpa using hown'))
          have HB3 : Hid (Below w.heap.size w w3) := Lib.hid (OwnV.below HB.out HO.out hgrow (Nat.le_refl _) hsz)
          clear hown' hgrow
          go_wp2
          go_roundw
          case rel => exact ⟨k + 1, by omega, by go_num, HO4, HB3⟩
          case measure => simp [intOf]; omega
    · obtain rfl : k = n := by omega
      have HF : Hid (l.take k = l) := Lib.hid (List.take_of_length_le (by rw [HN.out]; omega))
      rw [HF.out] at HO
      clear hlt
      go_wp2
      go_ret
      exact HPOST.out _ _ HO.out HB.out
end Go.Proofs.YtceohgjfjndcmaaGreatDoor
