/-
  slices.Clone and slices.DeleteFunc of texts, with lists.Lose's predicate: what each returns; nothing else turns.
-/
import Derived.Test.YtkcamfcjkjiijaaGreatDoorGEcNames
import Derived.Test.YtkcamfcjkjiijaaGreatDoorGTClone
import Derived.Lib.SliceRun
import Derived.Shelf.Spec.SlicesInsert
namespace Go.Proofs.YtkcamfcjkjiijaaGreatDoor
open Go.RowKit
set_option maxRecDepth 100000 in
theorem losep_any (B : Nat) (u : Value) (ps : List Bs) (hl : ps.length ≤ 90000) (x : ByteArray) (W : World) (hc : W.cell? ⟨B, 0, none⟩ = some u) (h : HoldT W u ps) :
    Calls Tryz.prog 63 #[.string x, .pointer (some ⟨B, 0, none⟩)] W fun e w' => e = .returned (.bool (decide (x.data.toList ∈ ps))) ∧ W = w' := by
  have C := contains_any u ps hl x W h
  obtain ⟨a, n, c, rfl⟩ := HoldT.form2 h
  generalize decide (x.data.toList ∈ ps) = q at *
  clear h
  go_enter Tryz.func63, Tryz.ntmps63
  go_wp2_with (go_at_call 53; refine C.mono ?_; rintro e w1 ⟨rfl, rfl⟩)
  go_ret
  exact ⟨rfl, rfl⟩
def inMxT (m : List Bs) (x : Bs) : Bool := decide (x ∈ m)
def idxM (l m : List Bs) : Int := match l.findIdx? (inMxT m) with
  | some k => (k : Int)
  | none => -1
set_option maxRecDepth 100000 in
set_option maxHeartbeats 4000000 in
theorem idxf_any (g : Nat) (lb : Array Value) (eg : ∀ args w, (callFunc g args).run Tryz.prog w = .ok (.enter g args) w) (v : Value) (l m : List Bs) (hl : l.length ≤ 90000) (w : World) (h : HoldT w v l)
    (hp : ∀ x : ByteArray, Calls Tryz.prog g (#[.string x] ++ lb) w fun e w' => e = .returned (.bool (decide (x.data.toList ∈ m))) ∧ w = w') :
    Calls Tryz.prog 87 #[v, .func (.func g) #[] lb] w fun e w' => e = .returned (.int .i64 (idxM l m)) ∧ w = w' := by
  obtain ⟨a, c, b, o, rfl, hc, ha, hcell⟩ := h
  have HC := Lib.hid hcell
  have HP := Lib.hid hp
  obtain ⟨Z, HZ⟩ : ∃ Z, Hid (idxM l m = Z) := ⟨_, rfl⟩
  rw [HZ.out]
  have HHIT : Hid (∀ (k : Nat) x, l[k]? = some x → x ∈ m → (∀ (j : Nat) y, j < k → l[j]? = some y → y ∉ m) → (k : Int) = Z) := Lib.hid (fun k x hx hm hb => by
    rw [← HZ.out]; unfold idxM
    have : l.findIdx? (inMxT m) = some k := by
      rw [List.findIdx?_eq_some_iff_getElem]
      obtain ⟨hk, e⟩ := List.getElem?_eq_some_iff.1 hx
      exact ⟨hk, by rw [e]; exact decide_eq_true hm, fun j hj => by have := hb j _ hj (List.getElem?_eq_getElem (by omega)); simp [inMxT, this]⟩
    rw [this])
  have HMISS : Hid ((∀ (j : Nat) y, l[j]? = some y → y ∉ m) → (-1 : Int) = Z) := Lib.hid (fun hb => by
    rw [← HZ.out]; unfold idxM
    have : l.findIdx? (inMxT m) = none := by
      rw [List.findIdx?_eq_none_iff]
      intro y hy
      obtain ⟨j, hj⟩ := List.mem_iff_getElem?.1 hy
      exact decide_eq_false (hb j y hj)
    rw [this])
  obtain ⟨n, hN⟩ : ∃ n, l.length = n := ⟨_, rfl⟩
  rw [hN] at hc ha hl ⊢
  have HN := Lib.hid hN
  clear hcell hN hp
  go_enter Tryz.func87, Tryz.ntmps87
  go_wp2
  go_loop [8] (fun i => ∃ k : Nat, k ≤ n ∧ i = .int .i64 k ∧ Hid (∀ (j : Nat) y, j < k → l[j]? = some y → y ∉ m)) (fun i => n - (intOf i).toNat)
  case atStart => exact ⟨0, by omega, rfl, Lib.hid (fun j y hj => by omega)⟩
  case round =>
    obtain ⟨k, hk, rfl, H⟩ := hrel
    by_cases hlt : k < n
    · obtain ⟨rfl, hbw⟩ := ha (by omega)
      obtain ⟨x, hx⟩ : ∃ x, l[k]? = some x := ⟨_, List.getElem?_eq_getElem (by rw [HN.out]; exact hlt)⟩
      have c0 := HC.out k x hx
      have hcall := HP.out ⟨x.toArray⟩
      rw [bytesOf] at hcall
      by_cases he : x ∈ m
      · rw [decide_eq_true he] at hcall
        have HF := Lib.hid (HHIT.out k x hx he H.out)
        clear he hx H HC HP
        generalize (⟨x.toArray⟩ : ByteArray) = X at *
        go_wp2_with (go_at_fn g; refine hcall.mono ?_; rintro e w1 ⟨rfl, rfl⟩)
        go_ret
        exact ⟨reti HF.out, rfl⟩
      · rw [decide_eq_false he] at hcall
        have HK : Hid (∀ (j : Nat) y, j < k + 1 → l[j]? = some y → y ∉ m) := Lib.hid (fun j y hj hy => by
          by_cases e : j = k
          · subst e; rw [hx] at hy; cases hy; exact he
          · exact H.out j y (by omega) hy)
        clear he hx H HC HP
        generalize (⟨x.toArray⟩ : ByteArray) = X at *
        go_wp2_with (go_at_fn g; refine hcall.mono ?_; rintro e w1 ⟨rfl, rfl⟩)
        go_round
        case rel => exact ⟨k + 1, by omega, by go_num, HK⟩
        case measure => simp [intOf]; omega
    · obtain rfl : k = n := by omega
      have HF := Lib.hid (HMISS.out (fun j y hy => H.out j y (by have := (List.getElem?_eq_some_iff.1 hy).1; rw [HN.out] at this; exact this) hy))
      clear hlt H HC
      go_wp2
      go_ret
      exact ⟨reti HF.out, rfl⟩
theorem run_clear_row (P : Program) (w : World) (t e ty : TypeId) (z : Value) (ht : P.underlying t = some (.slice e)) (hv : ∀ w, (zeroValue e).run P w = .ok z w) (hz : z.cells = #[z]) (h1 : z.oneCell' = true) (g o n c : Nat) (cur : Array Value) (te : TypeId) (hn : 0 < n)
    (hg : w.heap[g]? = some (.cells cur te (0, 0))) (hfit : o + n ≤ cur.size) :
    (Builtin.clear_ #[t] ty #[.slice (some ⟨g, o, none⟩) n c]).run P w = .ok (.tuple #[]) (w.setRow g (cur.toList.take o ++ List.replicate n z ++ cur.toList.drop (o + n)).toArray) := by
  have hzc : (Builtin.zeroCells z.cells n).toList = List.replicate n z := by
    rw [hz]
    simp [Builtin.zeroCells]
    apply List.ext_getElem
    · simp
    · intro i h1 h2
      simp [Nat.mod_one]
  have hst := run_storeCells_at P g o te (List.replicate n z) 0 cur w hg (by simpa using hfit) (by intro v hv'; rw [List.eq_of_mem_replicate hv']; exact h1)
  simp only [Nat.add_zero, List.length_replicate] at hst
  obtain ⟨m, rfl⟩ : ∃ m, n = m + 1 := ⟨n - 1, by omega⟩
  simp [Builtin.clear_, run_underlying ht, hv, hzc, hst]
theorem grown_refl (w : World) (r : Option Nat) : w.grownBy w r := ⟨rfl, rfl, rfl, Nat.le_refl _, fun _ _ _ => rfl⟩
theorem grown_row {w wr : World} {g : Nat} (h : w.grownBy wr (some g)) (C : Array Value) : w.grownBy (wr.setRow g C) (some g) :=
  ⟨h.os, h.tape, h.output, by rw [setRow_size]; exact h.size, fun k hk hne => by rw [setRow_other wr g k C (fun e => hne (by rw [e]))]; exact h.block k hk hne⟩
theorem minus_none {l m : List Bs} (h : ∀ x ∈ l, x ∉ m) : minusS l m = l := by
  unfold minusS
  exact List.filter_eq_self.2 (fun x hx => by simp [h x hx])
def DelPost (base : Nat) (v : Value) (ls : List Bs) (w : World) (e : Ending) (w' : World) : Prop := ∃ v', e = .returned v' ∧ OwnT w' base v' ls ∧ w.grownBy w' v.ownBlock
set_option maxRecDepth 100000 in
set_option maxHeartbeats 8000000 in
theorem delete_any (lb : Array Value) (base : Nat) (v : Value) (l m : List Bs) (hl : l.length ≤ 90000) (w : World) (h : OwnT w base v l)
    (hp : ∀ (W : World) (x : ByteArray), w.grownBy W v.ownBlock → Calls Tryz.prog 63 (#[.string x] ++ lb) W fun e w' => e = .returned (.bool (decide (x.data.toList ∈ m))) ∧ W = w') :
    Calls Tryz.prog 64 #[v, .func (.func 63) #[] lb] w (DelPost base v (minusS l m) w) := by
  have IX := idxf_any 63 lb (enters_of Tryz.func63 (by kernel_rfl) rfl) v l m hl w h.holds (fun x => hp w x (grown_refl _ _))
  cases hf : l.findIdx? (inMxT m) with
  | none =>
    have e0 : idxM l m = -1 := by unfold idxM; rw [hf]
    have HP : Hid (DelPost base v (minusS l m) w (.returned v) w) := Lib.hid ⟨v, rfl, by
      rw [minus_none (fun x hx => of_decide_eq_false (List.findIdx?_eq_none_iff.1 hf x hx))]; exact h, grown_refl _ _⟩
    obtain ⟨z, hz⟩ : ∃ z, idxM l m = z := ⟨_, rfl⟩
    rw [hz] at IX e0
    have hzb : (z == -1) = true := by rw [e0]; rfl
    obtain ⟨a, n, c, rfl⟩ := HoldT.form2 h.holds
    clear h hp hf e0 hz
    go_enter Tryz.func64, Tryz.ntmps64
    go_wp2_with (go_at_call 87; refine IX.mono ?_; rintro e w1 ⟨rfl, rfl⟩)
    go_ret
    exact HP.out
  | some k0 =>
    obtain ⟨hk0, h1, h2⟩ := List.findIdx?_eq_some_iff_getElem.1 hf
    have e0 : idxM l m = (k0 : Int) := by unfold idxM; rw [hf]
    obtain ⟨z, hz⟩ : ∃ z, idxM l m = z := ⟨_, rfl⟩
    rw [hz] at IX e0
    have hzb : (z == -1) = false := by rw [e0, beq_eq_false_iff_ne]; omega
    rcases h.2 with ⟨rfl, hn0⟩ | ⟨g, cap, cur, rfl, hbg, hg, hnc, hcm, hcs, ht⟩
    · omega
    have hxk : l[k0]? = some l[k0] := List.getElem?_eq_getElem hk0
    have hst : minusS (l.take (k0 + 1)) m = l.take k0 := by
      rw [minus_no hxk (of_decide_eq_true h1)]
      refine minus_none (fun x hx => ?_)
      obtain ⟨j, hj⟩ := List.mem_iff_getElem?.1 hx
      have hjk : j < k0 := by have := (List.getElem?_eq_some_iff.1 hj).1; rw [List.length_take] at this; omega
      rw [List.getElem?_take_of_lt hjk] at hj
      obtain ⟨hj2, e⟩ := List.getElem?_eq_some_iff.1 hj
      have := h2 j hjk
      rw [e] at this
      simpa [inMxT] using this
    have HP : Hid (∀ (i : Nat) w', OwnT w' base (.slice (some ⟨g, 0, none⟩) i cap) (minusS l m) → w.grownBy w' (some g) → DelPost base (.slice (some ⟨g, 0, none⟩) l.length cap) (minusS l m) w (.returned (.slice (some ⟨g, 0, none⟩) i cap)) w') := Lib.hid (fun i w' q1 q2 => ⟨_, rfl, q1, q2⟩)
    have HD := Lib.hid (fun (W : World) (x : ByteArray) (q : w.grownBy W (some g)) => hp W x q)
    have hcur : ∀ (t : Nat) x, l[t]? = some x → cur[t]? = some (.string ⟨x.toArray⟩) := fun t x hx => by
      have htl := (List.getElem?_eq_some_iff.1 hx).1
      have e1 : (cur.toList.take (l.length * 1))[t]? = (txts l)[t]? := by rw [ht]
      rw [List.getElem?_take, if_pos (by omega), Array.getElem?_toList, List.getElem?_map, hx] at e1
      exact e1
    have HST0 : Hid (w.heap[g]? = some (.cells cur 9 (0, 0)) ∧ cur.size = cap ∧ cur.toList.take k0 = txts (minusS (l.take (k0 + 1)) m) ∧ (minusS (l.take (k0 + 1)) m).length = k0 ∧ ∀ (t : Nat) x, k0 + 1 ≤ t → l[t]? = some x → cur[t]? = some (.string ⟨x.toArray⟩)) := Lib.hid ⟨hg, by omega, by
        rw [hst]
        have e1 : (cur.toList.take (l.length * 1)).take k0 = (txts l).take k0 := by rw [ht]
        rw [List.take_take, show min k0 (l.length * 1) = k0 by omega] at e1
        rw [e1, txts, txts, List.map_take], by rw [hst, List.length_take]; omega, fun t x _ hx => hcur t x hx⟩
    have HNX := Lib.hid (fun (j : Nat) (x : Bs) (hx : l[j]? = some x) => And.intro (minus_yes (m := m) hx) (minus_no (m := m) hx))
    obtain ⟨n, hN⟩ : ∃ n, l.length = n := ⟨_, rfl⟩
    rw [hN] at hk0 hl hnc HP IX ⊢
    have HN := Lib.hid hN
    have HL := Lib.hid (fun (j : Nat) (hj : j < n) => (⟨l[j]'(by omega), List.getElem?_eq_getElem (by omega)⟩ : ∃ x, l[j]? = some x))
    unfold maxLen at hcm
    have HG0 := Lib.hid (grown_refl w (some g))
    have hzw : IntKind.i64.wrap (z + 1) = z + 1 := by rw [e0]; exact IntWalk.i64_in _ (by omega)
    have HZ := Lib.hid e0
    clear h hp hf e0 hz h1 h2 hg hcs ht hxk hst hcur hN
    go_enter Tryz.func64, Tryz.ntmps64
    go_wp2_with (go_at_call 87; refine IX.mono ?_; rintro e w1 ⟨rfl, rfl⟩)
    clear IX hzb hzw
    go_loopw [5, 6] (fun a b wr => ∃ (i j : Nat) (C : Array Value), i < j ∧ j ≤ n ∧ a = .int .i64 i ∧ b = .int .i64 j ∧ Hid (wr.heap[g]? = some (.cells C 9 (0, 0)) ∧ C.size = cap ∧ C.toList.take i = txts (minusS (l.take j) m) ∧ (minusS (l.take j) m).length = i ∧ ∀ (t : Nat) x, j ≤ t → l[t]? = some x → C[t]? = some (.string ⟨x.toArray⟩)) ∧ Hid (w.grownBy wr (some g))) (fun _ b _ => n - (intOf b).toNat)
    case atStart => exact ⟨k0, k0 + 1, cur, by omega, by omega, by rw [HZ.out], by rw [HZ.out]; rfl, HST0, HG0⟩
    case round =>
      obtain ⟨i, j, C, hij, hj, rfl, rfl, HS, HG⟩ := hrel
      obtain ⟨hh, hsz, htk, hln, hrest⟩ := HS.out
      by_cases hlt : j < n
      · obtain ⟨x, hx⟩ := HL.out j hlt
        have c0 : wr.cell? ⟨g, j, none⟩ = some (.string ⟨x.toArray⟩) := by rw [cellRow wr g j C _ (0, 0) hh]; exact hrest j x (Nat.le_refl _) hx
        have hcall := HD.out wr ⟨x.toArray⟩ HG.out
        rw [bytesOf] at hcall
        obtain ⟨nx1, nx2⟩ := HNX.out j x hx
        have hnx : ∀ (t : Nat) y, j + 1 ≤ t → l[t]? = some y → C[t]? = some (.string ⟨y.toArray⟩) := fun t y h1 h2 => hrest t y (by omega) h2
        by_cases he : x ∈ m
        · rw [decide_eq_true he] at hcall
          have HS2 := Lib.hid (show wr.heap[g]? = some (.cells C 9 (0, 0)) ∧ C.size = cap ∧ C.toList.take i = txts (minusS (l.take (j + 1)) m) ∧ (minusS (l.take (j + 1)) m).length = i ∧ ∀ (t : Nat) x, j + 1 ≤ t → l[t]? = some x → C[t]? = some (.string ⟨x.toArray⟩) from ⟨hh, hsz, by rw [nx2 he]; exact htk, by rw [nx2 he]; exact hln, hnx⟩)
          clear he hx hh htk hln hrest hnx nx1 nx2 HS
          generalize (⟨x.toArray⟩ : ByteArray) = X at *
          go_wp2_with (go_at_call 63; refine hcall.mono ?_; rintro e w1 ⟨rfl, rfl⟩)
          go_roundw
          case rel => exact ⟨i, j + 1, C, by omega, by omega, rfl, by go_num, HS2, HG⟩
          case measure => simp [intOf]; omega
        · rw [decide_eq_false he] at hcall
          obtain ⟨D, hD⟩ : ∃ D, D = C.setIfInBounds i (.string ⟨x.toArray⟩) := ⟨_, rfl⟩
          have hset : wr.setCell ⟨g, i, none⟩ (.string ⟨x.toArray⟩) = wr.setRow g D := by rw [hD]; exact setCell_eq_setRow wr g i C _ (0, 0) _ hh
          have HS2 := Lib.hid (show (wr.setRow g D).heap[g]? = some (.cells D 9 (0, 0)) ∧ D.size = cap ∧ D.toList.take (i + 1) = txts (minusS (l.take (j + 1)) m) ∧ (minusS (l.take (j + 1)) m).length = i + 1 ∧ ∀ (t : Nat) x, j + 1 ≤ t → l[t]? = some x → D[t]? = some (.string ⟨x.toArray⟩) from ⟨setRow_heap wr g C D _ _ hh, by rw [hD]; simpa using hsz, by
              rw [nx1 he, hD, Array.toList_setIfInBounds, List.take_add_one, List.getElem?_set_self (by rw [Array.length_toList]; omega), List.take_set_of_le (Nat.le_refl _), htk]
              simp [txts], by rw [nx1 he, List.length_append, hln]; rfl, fun t y h1 h2 => by rw [hD, Array.getElem?_setIfInBounds_ne (by omega)]; exact hnx t y h1 h2⟩)
          have HG2 := Lib.hid (grown_row HG.out D)
          have HSE := Lib.hid hset
          have ci : ∃ u, wr.cell? ⟨g, i, none⟩ = some u := ⟨C[i]'(by omega), by rw [cellRow wr g i C _ (0, 0) hh]; exact Array.getElem?_eq_getElem (by omega)⟩
          obtain ⟨u0, ci⟩ := ci
          have fi : wr.frozen? ⟨g, i, none⟩ = false := by simp [World.frozen?, hh]
          have hin : (i : Int) < (n : Int) := by omega
          clear he hx hh htk hln hrest hnx nx1 nx2 HS hset hD
          generalize (⟨x.toArray⟩ : ByteArray) = X at *
          go_wp2_with (go_at_call 63; refine hcall.mono ?_; rintro e w1 ⟨rfl, rfl⟩)
          go_roundw
          case rel => exact ⟨i + 1, j + 1, D, by omega, by omega, by go_num, by go_num, by rw [HSE.out]; exact HS2, by rw [HSE.out]; exact HG2⟩
          case measure => simp [intOf]; omega
      · obtain rfl : j = n := by omega
        obtain ⟨D, hD⟩ : ∃ D : Array Value, D = (C.toList.take i ++ List.replicate (j - i) (Value.string ⟨#[]⟩) ++ C.toList.drop (i + (j - i))).toArray := ⟨_, rfl⟩
        have hcl : ∀ ty, (Builtin.clear_ #[33] ty #[.slice (some ⟨g, i, none⟩) (j - i) (cap - i)]).run Tryz.prog wr = .ok (.tuple #[]) (wr.setRow g D) := fun ty => by
          rw [hD]
          exact run_clear_row Tryz.prog wr _ _ ty _ Tryz.underlying33 Tryz.zeroValue9 rfl rfl g i (j - i) (cap - i) C _ (by omega) hh (by omega)
        have HF : Hid (l.take j = l) := Lib.hid (by rw [← HN.out, List.take_length])
        rw [HF.out] at htk hln
        have HE : Hid (OwnT (wr.setRow g D) base (.slice (some ⟨g, 0, none⟩) i cap) (minusS l m)) := Lib.hid (by
          refine ⟨by rw [txts, List.length_map]; omega, .inr ⟨g, cap, D, by rw [hln], hbg, setRow_heap wr g C D _ _ hh, by omega, by unfold maxLen; omega, ?_, ?_⟩⟩
          · rw [← Array.length_toList, hD]; simp only [List.length_append, List.length_take, List.length_drop, List.length_replicate, Array.length_toList]; omega
          · rw [hln, Nat.mul_one, hD, ← htk]
            simp only [List.append_assoc]
            exact List.take_left' (by rw [List.length_take, Array.length_toList]; omega))
        have HG2 := Lib.hid (grown_row HG.out D)
        have i1 : ¬ (cap = i) := by omega
        have i2 : (i : Int) ≤ (j : Int) := by omega
        have i3 : i ≤ j := by omega
        clear hlt hh htk hln hrest HS hD hsz
        go_wp2
        go_ret
        exact HP.out _ _ HE.out HG2.out
end Go.Proofs.YtkcamfcjkjiijaaGreatDoor
