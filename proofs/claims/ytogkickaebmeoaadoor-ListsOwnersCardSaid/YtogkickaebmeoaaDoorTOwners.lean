/-
  slices.Contains of texts; the program's iterator over the owners of a path: for every loop body.
-/
import Derived.Test.YtogkickaebmeoaaDoorTHold
import Derived.Test.YtogkickaebmeoaaDoorSPLines2
import Derived.Test.YtogkickaebmeoaaDoorRBox
namespace Go.Proofs.YtogkickaebmeoaaDoor
open Go.RowKit Go.Shelf
attribute [local go_sem] Oper.semAt_some
def idxS (ls : List Bs) (x : Bs) : Int := match ls.findIdx? (fun y => decide (y = x)) with
  | some k => (k : Int)
  | none => -1
theorem idxS_mem (ls : List Bs) (x : Bs) : decide (idxS ls x ≥ 0) = decide (x ∈ ls) := by
  unfold idxS
  cases h : ls.findIdx? (fun y => decide (y = x)) with
  | none =>
    have : x ∉ ls := fun g => by have := List.findIdx?_eq_none_iff.1 h x g; simp at this
    rw [decide_eq_false this]; rfl
  | some k =>
    obtain ⟨hk, h1, -⟩ := List.findIdx?_eq_some_iff_getElem.1 h
    have : x ∈ ls := by
      have e : ls[k] = x := by simpa using h1
      rw [← e]; exact List.getElem_mem _
    rw [decide_eq_true this]
    show decide ((k : Int) ≥ 0) = true
    exact decide_eq_true (by omega)
theorem idxS_hit {ls : List Bs} {x : Bs} {k : Nat} (hx : ls[k]? = some x) (hb : ∀ (j : Nat) y, j < k → ls[j]? = some y → y ≠ x) : idxS ls x = k := by
  unfold idxS
  have : ls.findIdx? (fun y => decide (y = x)) = some k := by
    rw [List.findIdx?_eq_some_iff_getElem]
    obtain ⟨hk, e⟩ := List.getElem?_eq_some_iff.1 hx
    exact ⟨hk, by simp [e], fun j hj => by have := hb j _ hj (List.getElem?_eq_getElem (by omega)); simpa using this⟩
  rw [this]
theorem idxS_miss {ls : List Bs} {x : Bs} (hb : ∀ (j : Nat) y, ls[j]? = some y → y ≠ x) : idxS ls x = -1 := by
  unfold idxS
  have : ls.findIdx? (fun y => decide (y = x)) = none := by
    rw [List.findIdx?_eq_none_iff]
    intro y hy
    obtain ⟨j, hj⟩ := List.mem_iff_getElem?.1 hy
    simpa using hb j y hj
  rw [this]
set_option maxRecDepth 100000 in
set_option maxHeartbeats 4000000 in
theorem index_any (v : Value) (ls : List Bs) (hl : ls.length ≤ 90000) (x : ByteArray) (w : World) (h : HoldT w v ls) : Calls Tryd.prog 85 #[v, .string x] w fun e w' => e = .returned (.int .i64 (idxS ls x.data.toList)) ∧ w = w' := by
  obtain ⟨a, c, b, o, rfl, hc, ha, hcell⟩ := h
  have HC := Lib.hid hcell
  obtain ⟨Z, HZ⟩ : ∃ Z, Hid (idxS ls x.data.toList = Z) := ⟨_, rfl⟩
  rw [HZ.out]
  obtain ⟨n, hN⟩ : ∃ n, ls.length = n := ⟨_, rfl⟩
  rw [hN] at hc ha hl ⊢
  have HN := Lib.hid hN
  clear hcell hN
  go_enter Tryd.func85, Tryd.ntmps85
  go_wp2
  go_loop [8] (fun i => ∃ k : Nat, k ≤ n ∧ i = .int .i64 k ∧ Hid (∀ (j : Nat) y, j < k → ls[j]? = some y → y ≠ x.data.toList)) (fun i => n - (intOf i).toNat)
  case atStart => exact ⟨0, by omega, rfl, Lib.hid (fun j y hj => by omega)⟩
  case round =>
    obtain ⟨k, hk, rfl, H⟩ := hrel
    by_cases hlt : k < n
    · obtain ⟨rfl, hbw⟩ := ha (by omega)
      obtain ⟨y, hy⟩ : ∃ y, ls[k]? = some y := ⟨_, List.getElem?_eq_getElem (by rw [HN.out]; exact hlt)⟩
      have c0 := HC.out k y hy
      have hq := eqT x ⟨y.toArray⟩
      rw [bytesOf] at hq
      by_cases he : x.data.toList = y
      · rw [decide_eq_true he] at hq
        have HF : Hid ((k : Int) = Z) := Lib.hid (by rw [← HZ.out, idxS_hit (by rw [hy, he]) H.out])
        clear he hy H HC
        generalize (⟨y.toArray⟩ : ByteArray) = Y at *
        go_wp2
        go_ret
        exact ⟨reti HF.out, rfl⟩
      · rw [decide_eq_false he] at hq
        have HK : Hid (∀ (j : Nat) u, j < k + 1 → ls[j]? = some u → u ≠ x.data.toList) := Lib.hid (fun j u hj hu => by
          by_cases e : j = k
          · subst e; rw [hy] at hu; cases hu; exact fun g => he g.symm
          · exact H.out j u (by omega) hu)
        clear he hy H HC
        generalize (⟨y.toArray⟩ : ByteArray) = Y at *
        go_wp2
        go_round
        case rel => exact ⟨k + 1, by omega, by go_num, HK⟩
        case measure => simp [intOf]; omega
    · obtain rfl : k = n := by omega
      have HF : Hid ((-1 : Int) = Z) := Lib.hid (by rw [← HZ.out, idxS_miss (fun j y hy => H.out j y (by have := (List.getElem?_eq_some_iff.1 hy).1; rw [HN.out] at this; exact this) hy)])
      clear hlt H HC
      go_wp2
      go_ret
      exact ⟨reti HF.out, rfl⟩
set_option maxRecDepth 100000 in
theorem contains_any (v : Value) (ls : List Bs) (hl : ls.length ≤ 90000) (x : ByteArray) (w : World) (h : HoldT w v ls) : Calls Tryd.prog 60 #[v, .string x] w fun e w' => e = .returned (.bool (decide (x.data.toList ∈ ls))) ∧ w = w' := by
  have I := index_any v ls hl x w h
  have hm := idxS_mem ls x.data.toList
  generalize idxS ls x.data.toList = z at *
  have HM := Lib.hid hm
  clear hm h
  go_enter Tryd.func60, Tryd.ntmps60
  go_wp2_with (go_at_call 85; refine I.mono ?_; rintro e w1 ⟨rfl, rfl⟩)
  go_ret
  exact ⟨retb HM.out, rfl⟩
-- The owners' names.
def ownN (L : List Lp) (p : Bs) : List Bs := (L.filter fun q => decide (p ∈ q.1.2)).map fun q => q.1.1
theorem own_yes {L : List Lp} {k : Nat} {q : Lp} {p : Bs} (hq : L[k]? = some q) (h : p ∈ q.1.2) : ownN (L.take (k + 1)) p = ownN (L.take k) p ++ [q.1.1] := by
  unfold ownN
  rw [List.take_add_one, hq, List.filter_append, List.map_append]
  simp [h]
theorem own_no {L : List Lp} {k : Nat} {q : Lp} {p : Bs} (hq : L[k]? = some q) (h : p ∉ q.1.2) : ownN (L.take (k + 1)) p = ownN (L.take k) p := by
  unfold ownN
  rw [List.take_add_one, hq, List.filter_append, List.map_append]
  simp [h]
theorem own_len (L : List Lp) (p : Bs) : (ownN L p).length ≤ L.length := by unfold ownN; rw [List.length_map]; exact List.length_filter_le _ _
abbrev NmX := { x : ByteArray // x.size ≤ 9223372036854775807 }
def nmOf (x : NmX) : Bs := x.1.data.toList
def encNm (x : NmX) : Array Value := #[.string x.1]
def AllNm (L : List Lp) (p : Bs) (ys : List NmX) : Prop := ys.map nmOf = ownN L p
/-- What lies below, and the iterator's own boxes. -/
def KpO (n0 : Nat) (A B : World) : Prop := MidKept 0 n0 A B ∧ MidKept (n0 + 1) (n0 + 3) A B
theorem KpO.refl (n0 : Nat) (A : World) : KpO n0 A A := ⟨MidKept.refl _ _ _, MidKept.refl _ _ _⟩
theorem KpO.trans {n0 : Nat} {A B C : World} (h : KpO n0 A B) (g : KpO n0 B C) : KpO n0 A C := ⟨h.1.trans g.1, h.2.trans g.2⟩
theorem KpO.alloc {n0 : Nat} (W : World) (o : Obj) (h : n0 + 3 ≤ W.heap.size) : KpO n0 W (W.alloc o) := ⟨fun k _ b => heap_alloc_old W o (by omega), fun k _ b => heap_alloc_old W o (by omega)⟩
set_option maxRecDepth 100000 in
set_option maxHeartbeats 4000000 in
theorem owners1_in (n : Nat) (hn : 1 ≤ n) (v : Value) (L : List Lp) (hl : L.length ≤ 90000) (hp : ∀ q ∈ L, q.1.1.length ≤ 9000000 ∧ q.1.2.length ≤ 90000) (P : ByteArray) (w : World) (h : HoldL w v L) (l : Nat) (J Jx : List NmX → World → Prop) (B : Nat) (hJ : AbidesFrom B J)
    (hY : ∀ pre x W, J pre W → pre.length < L.length + 1 → YieldAt Fence.wide (n - 1) Tryd.prog l (encNm x) W fun e W' =>
      (e = .returned (.bool true) ∧ J (pre ++ [x]) W' ∧ KpO w.heap.size W W') ∨ (e = .returned (.bool false) ∧ Jx (pre ++ [x]) W'))
    (W : World) (hW : MidKept 0 w.heap.size w W) (h1 : W.cell? ⟨w.heap.size + 1, 0, none⟩ = some v) (h2 : W.cell? ⟨w.heap.size + 2, 0, none⟩ = some (.string P)) (h0 : J [] W) :
    CallsIn Fence.wide n Tryd.prog 87 #[.func (.yield l) #[] #[], .pointer (some ⟨w.heap.size + 1, 0, none⟩), .pointer (some ⟨w.heap.size + 2, 0, none⟩)] W fun e W' => (∃ v, e = .returned v) ∧
      ((∃ ys, AllNm L P.data.toList ys ∧ J ys W') ∨ (∃ pre, True ∧ Jx pre W')) := by
  obtain ⟨hin, a, c, b, o, rfl, hc, ha, hcell⟩ := h
  have HC := Lib.hid hcell
  have HI := Lib.hid hin
  have HPS := Lib.hid hp
  have HJ' := Lib.hid hJ
  obtain ⟨m, hM⟩ : ∃ m, L.length = m := ⟨_, rfl⟩
  rw [hM] at hc ha hl hY h1
  have HM := Lib.hid hM
  have HW := Lib.hid hW
  clear hcell hin hp hM hW hJ
  refine callsIn_of_wp Tryd.func87 rfl trivial ?_ rfl
  simp only [Tryd.ntmps87, List.size_toArray, List.length_cons, List.length_nil, Nat.reduceAdd, Nat.reduceSub, Array.replicate_succ, Array.replicate_zero, List.push_toArray, List.append_toArray, List.nil_append, List.cons_append]
  gi_wp2
  gi_loopw [8] (fun i wr => ∃ (k : Nat) (pre : List NmX), k ≤ m ∧ i = .int .i64 k ∧ Hid (pre.map nmOf = ownN (L.take k) P.data.toList) ∧ Hid (KpO w.heap.size W wr) ∧ Hid (J pre wr)) (fun i _ => m - (intOf i).toNat)
  case atStart => exact ⟨0, [], by omega, rfl, Lib.hid rfl, Lib.hid (KpO.refl _ _), Lib.hid h0⟩
  case round =>
    obtain ⟨k, pre, hk, rfl, H, HK, HJ⟩ := hrel
    have g2 := (HK.out.2.cell (k := w.heap.size + 2) (i := 0) (by omega) (by omega)).trans h2
    have hsz : w.heap.size + 3 ≤ wr.heap.size := by have := World.block_lt_of_cell? wr _ g2; simp only at this; omega
    by_cases hlt : k < m
    · obtain ⟨rfl, hbw⟩ := ha (by omega)
      obtain ⟨q, hq⟩ : ∃ q, L[k]? = some q := ⟨_, List.getElem?_eq_getElem (by rw [HM.out]; exact hlt)⟩
      obtain ⟨c0, c1⟩ := HC.out k q hq
      have hlow : ∀ (b i : Nat), b < w.heap.size → wr.cell? ⟨b, i, none⟩ = w.cell? ⟨b, i, none⟩ := fun b i hb => (HK.out.1.cell (by omega) hb).trans (HW.out.cell (by omega) hb)
      rw [← hlow b _ hbw] at c0 c1
      have hT : HoldT wr q.2 q.1.2 := by
        obtain ⟨a, c, b', o', e, hc, ha, hcell⟩ := HI.out q (List.mem_of_getElem? hq)
        refine ⟨a, c, b', o', e, hc, fun h0 => ⟨(ha h0).1, by have := (ha h0).2; omega⟩, fun j l hj => ?_⟩
        have h0 : 0 < q.1.2.length := by have := (List.getElem?_eq_some_iff.1 hj).1; omega
        rw [hlow b' _ (ha h0).2]; exact hcell j l hj
      have CT := contains_any q.2 q.1.2 (HPS.out q (List.mem_of_getElem? hq)).2 P _ (hT.on ((Below.refl wr.heap.size wr).alloc (Nat.le_refl _) (.cells #[.string (bsT q.1.1), q.2] 24)))
      have hxs : (bsT q.1.1).size ≤ 9223372036854775807 := by have := (HPS.out q (List.mem_of_getElem? hq)).1; rw [sizeOf, bytesOf]; omega
      have HXS := Lib.hid hxs
      obtain ⟨ua, un, uc, hu⟩ : ∃ ua un uc, q.2 = .slice ua un uc := by obtain ⟨a, c, b, o, e, _⟩ := HI.out q (List.mem_of_getElem? hq); exact ⟨_, _, _, e⟩
      have hHA : Hid (KpO w.heap.size W (wr.alloc (.cells #[.string (bsT q.1.1), q.2] 24))) := Lib.hid (HK.out.trans (KpO.alloc wr _ hsz))
      have hJA : Hid (J pre (wr.alloc (.cells #[.string (bsT q.1.1), q.2] 24))) := Lib.hid (HJ'.out _ _ _ none HJ.out (World.grownBy_alloc wr _ none) (fun r e => by cases e))
      have g2A : (wr.alloc (.cells #[.string (bsT q.1.1), q.2] 24)).cell? ⟨w.heap.size + 2, 0, none⟩ = some (.string P) := by
        have := (hHA.out.2.cell (k := w.heap.size + 2) (i := 0) (by omega) (by omega)).trans h2
        exact this
      rw [hu] at c1 CT hHA hJA g2A
      have hlen : pre.length ≤ k := by
        have := congrArg List.length H.out
        rw [List.length_map] at this
        have h3 := own_len (L.take k) P.data.toList
        rw [List.length_take] at h3; omega
      obtain ⟨x, hx⟩ : ∃ x : NmX, x = ⟨bsT q.1.1, hxs⟩ := ⟨_, rfl⟩
      have hxv : x.1 = bsT q.1.1 := by rw [hx]
      by_cases hmem : P.data.toList ∈ q.1.2
      · have HN : Hid ((pre ++ [x]).map nmOf = ownN (L.take (k + 1)) P.data.toList) := Lib.hid (by rw [own_yes hq hmem, List.map_append, H.out]; simp [nmOf, hx])
        rw [decide_eq_true hmem] at CT
        obtain ⟨fn, tmps, assign, body, hy, hRd⟩ := hY pre x _ hJA.out (by omega)
        dsimp only [encNm] at hy
        rw [hxv] at hy
        clear hmem hq hT hlow H HC HI HPS hu hx hxv HXS hxs
        generalize bsT q.1.1 = X at *
        gi_wp2_with (refine ⟨trivial, ?_⟩; gi_at_call 60; refine (callsIn_wide.2 CT).mono ?_; rintro e w1 ⟨rfl, rfl⟩)
        refine hRd.mono ?_
        rintro e W3 (⟨rfl, hJ3, hK3⟩ | ⟨rfl, hJx3⟩)
        · gi_wp2
          go_roundw
          case rel => exact ⟨k + 1, _, by omega, by go_num, HN, Lib.hid (hHA.out.trans hK3), Lib.hid hJ3⟩
          case measure => simp [intOf]; omega
        · gi_wp2
          refine bodyPost_ret (results_none rfl _ _ _) rfl ?_
          exact ⟨⟨_, rfl⟩, .inr ⟨_, trivial, hJx3⟩⟩
      · have HN : Hid (pre.map nmOf = ownN (L.take (k + 1)) P.data.toList) := Lib.hid (by rw [own_no hq hmem, H.out])
        rw [decide_eq_false hmem] at CT
        clear hmem hq hT hlow H HC HI HPS hu hx hxv HXS hxs
        generalize bsT q.1.1 = X at *
        gi_wp2_with (refine ⟨trivial, ?_⟩; gi_at_call 60; refine (callsIn_wide.2 CT).mono ?_; rintro e w1 ⟨rfl, rfl⟩)
        refine ⟨(by intro f h; cases h), ?_⟩
        gi_wp2
        go_roundw
        case rel => exact ⟨k + 1, pre, by omega, by go_num, HN, hHA, hJA⟩
        case measure => simp [intOf]; omega
    · obtain rfl : k = m := by omega
      have HE : Hid (AllNm L P.data.toList pre) := Lib.hid (by have := H.out; rw [List.take_of_length_le (by rw [HM.out]; omega)] at this; exact this)
      clear hlt H HC
      gi_wp2
      go_end0
      exact ⟨⟨_, rfl⟩, .inl ⟨pre, HE.out, HJ.out⟩⟩
theorem owners_in (n : Nat) (a : Option Addr) (m c : Nat) (P : ByteArray) (w : World) : CallsIn Fence.wide n Tryd.prog 63 #[.slice a m c, .string P] w fun e w' => e = .returned (.func (.func 87) #[] #[.pointer (some ⟨w.heap.size, 0, none⟩), .pointer (some ⟨w.heap.size + 1, 0, none⟩)]) ∧ w' = (w.alloc (.cells #[.slice a m c] 25)).alloc (.cells #[.string P] 9) := by
  refine callsIn_of_wp Tryd.func63 rfl trivial ?_ rfl
  simp only [Tryd.ntmps63, List.size_toArray, List.length_cons, List.length_nil, Nat.reduceAdd, Nat.reduceSub, Array.replicate_succ, Array.replicate_zero, List.push_toArray, List.append_toArray, List.nil_append, List.cons_append]
  gi_wp2
  go_ret
  exact ⟨rfl, rfl⟩
end Go.Proofs.YtogkickaebmeoaaDoor
