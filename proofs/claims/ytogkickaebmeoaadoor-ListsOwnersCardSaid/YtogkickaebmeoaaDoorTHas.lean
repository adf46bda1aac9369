/-
  The reference's Has, Owners and Minus: what each returns; nothing old turns.
-/
import Derived.Test.YtogkickaebmeoaaDoorTOwners2
import Derived.BigRegion
namespace Go.Proofs.YtogkickaebmeoaaDoor
open Go.RowKit
theorem HoldT.form2 {w : World} {v : Value} {l : List Bs} (h : HoldT w v l) : ∃ a n c, v = .slice a n c := by
  obtain ⟨a, c, b, o, rfl, _⟩ := h
  exact ⟨_, _, _, rfl⟩
set_option maxRecDepth 100000 in
set_option maxHeartbeats 4000000 in
theorem has13_any (v : Value) (ls : List Bs) (hl : ls.length ≤ 90000) (x : ByteArray) (w : World) (h : HoldT w v ls) :
    Calls Tryd.prog 64 #[v, .string x] w fun e w' => e = .returned (.bool (decide (x.data.toList ∈ ls))) ∧ w = w' := by
  obtain ⟨a, c, b, o, rfl, hc, ha, hcell⟩ := h
  have HC := Lib.hid hcell
  obtain ⟨n, hN⟩ : ∃ n, ls.length = n := ⟨_, rfl⟩
  rw [hN] at hc ha hl ⊢
  have HN := Lib.hid hN
  obtain ⟨Z, HZ⟩ : ∃ Z, Hid (decide (x.data.toList ∈ ls) = Z) := ⟨_, rfl⟩
  rw [HZ.out]
  clear hcell hN
  go_enter Tryd.func64, Tryd.ntmps64
  go_wp2
  go_loop [5] (fun i => ∃ k : Nat, k ≤ n ∧ i = .int .i64 k ∧ Hid (∀ (j : Nat) y, j < k → ls[j]? = some y → y ≠ x.data.toList)) (fun i => n - (intOf i).toNat)
  case atStart => exact ⟨0, Nat.zero_le _, rfl, Lib.hid (fun j y hj => by omega)⟩
  case round =>
    obtain ⟨k, hk, rfl, H⟩ := hrel
    by_cases hlt : k < n
    · obtain ⟨rfl, hbw⟩ := ha (by omega)
      obtain ⟨y, hy⟩ : ∃ y, ls[k]? = some y := ⟨_, List.getElem?_eq_getElem (by rw [HN.out]; exact hlt)⟩
      have c0 := HC.out k y hy
      have hq := eqT ⟨y.toArray⟩ x
      rw [bytesOf] at hq
      by_cases he : y = x.data.toList
      · rw [decide_eq_true he] at hq
        have HF : Hid (true = Z) := Lib.hid (by rw [← HZ.out, decide_eq_true (by rw [← he]; exact List.mem_of_getElem? hy)])
        clear he hy H HC
        generalize (⟨y.toArray⟩ : ByteArray) = Y at *
        go_wp2
        go_ret
        exact ⟨retb HF.out, rfl⟩
      · rw [decide_eq_false he] at hq
        have HK : Hid (∀ (j : Nat) u, j < k + 1 → ls[j]? = some u → u ≠ x.data.toList) := Lib.hid (fun j u hj hu => by
          by_cases e : j = k
          · subst e; rw [hy] at hu; cases hu; exact he
          · exact H.out j u (by omega) hu)
        clear he hy H HC
        generalize (⟨y.toArray⟩ : ByteArray) = Y at *
        go_wp2
        go_round
        case rel => exact ⟨k + 1, by omega, by go_num, HK⟩
        case measure => simp [intOf]; omega
    · obtain rfl : k = n := by omega
      have HF : Hid (false = Z) := Lib.hid (by rw [← HZ.out, decide_eq_false (fun g => by
        obtain ⟨j, hj⟩ := List.mem_iff_getElem?.1 g
        exact H.out j _ (by have := (List.getElem?_eq_some_iff.1 hj).1; rw [HN.out] at this; exact this) hj rfl)])
      clear hlt H HC
      go_wp2
      go_ret
      exact ⟨retb HF.out, rfl⟩
def minusS (l m : List Bs) : List Bs := l.filter fun x => !decide (x ∈ m)
theorem minus_yes {l m : List Bs} {k : Nat} {x : Bs} (hx : l[k]? = some x) (h : x ∉ m) : minusS (l.take (k + 1)) m = minusS (l.take k) m ++ [x] := by
  unfold minusS
  rw [List.take_add_one, hx, List.filter_append]
  simp [h]
theorem minus_no {l m : List Bs} {k : Nat} {x : Bs} (hx : l[k]? = some x) (h : x ∈ m) : minusS (l.take (k + 1)) m = minusS (l.take k) m := by
  unfold minusS
  rw [List.take_add_one, hx, List.filter_append]
  simp [h]
theorem minus_len (l m : List Bs) : (minusS l m).length ≤ l.length := List.length_filter_le _ _
theorem minus_twice (l m : List Bs) : minusS (minusS l m) m = minusS l m := by unfold minusS; rw [List.filter_filter]; simp
def TPost (ls : List Bs) (w : World) (e : Ending) (w' : World) : Prop := ∃ v, e = .returned v ∧ OwnT w' w.heap.size v ls ∧ Below w.heap.size w w'
theorem OwnT.belowA {B : Nat} {w0 w w' : World} {o : Obj} {base : Nat} {v : Value} {ls : List Bs} (h : Below B w0 w) (hown : OwnT w base v ls) (hg : (w.alloc o).grownBy w' v.ownBlock) (hB : B ≤ base) (hBw : B ≤ w.heap.size) : Below B w0 w' :=
  (h.alloc hBw o).grown hg (by simp; omega) (fun k hk => by have := (World.ownsRow.lt hown k hk).1; omega)
set_option maxRecDepth 100000 in
set_option maxHeartbeats 4000000 in
theorem minus_ref (v u : Value) (l m : List Bs) (hl : l.length ≤ 90000) (hm : m.length ≤ 90000) (w : World) (h : HoldT w v l) (h2 : HoldT w u m) : Calls Tryd.prog 30 #[v, u] w (TPost (minusS l m) w) := by
  have HA := fun W (hb : Below w.heap.size w W) (x : ByteArray) => has13_any u m hm x W (h2.on hb)
  obtain ⟨a, c, b, o, rfl, hc, ha, hcell⟩ := h
  have HC := Lib.hid hcell
  obtain ⟨i0, hi, hz0, hz1, hz2'⟩ := info_parts infoT
  obtain ⟨n, hN⟩ : ∃ n, l.length = n := ⟨_, rfl⟩
  rw [hN] at hc ha hl ⊢
  have HN := Lib.hid hN
  clear hcell hN
  obtain ⟨ua, un, uc, rfl⟩ := HoldT.form2 h2
  clear h2
  go_enter Tryd.func30, Tryd.ntmps30
  go_wp2
  go_loopw [5, 6] (fun t i wr => ∃ k : Nat, k ≤ n ∧ i = .int .i64 k ∧ Hid (OwnT wr w.heap.size t (minusS (l.take k) m)) ∧ Hid (Below w.heap.size w wr)) (fun _ i _ => n - (intOf i).toNat)
  case atStart => exact ⟨0, by omega, rfl, Lib.hid (OwnT.nil _ _), Lib.hid (Below.refl _ _)⟩
  case round =>
    obtain ⟨k, hk, rfl, HO, HB⟩ := hrel
    have hsz := HB.out.size
    by_cases hlt : k < n
    · obtain ⟨rfl, hbw⟩ := ha (by omega)
      obtain ⟨x, hx⟩ : ∃ x, l[k]? = some x := ⟨_, List.getElem?_eq_getElem (by rw [HN.out]; exact hlt)⟩
      have c0 := HC.out k x hx
      rw [← HB.out.cell (p := ⟨b, o + k, none⟩) hbw] at c0
      have hlen : (minusS (l.take k) m).length ≤ 90000 := Nat.le_trans (minus_len _ _) (by rw [List.length_take]; omega)
      have HK := HA wr HB.out ⟨x.toArray⟩
      rw [bytesOf] at HK
      by_cases he : x ∈ m
      · rw [decide_eq_true he] at HK
        have HE : Hid (minusS (l.take (k + 1)) m = minusS (l.take k) m) := Lib.hid (minus_no hx he)
        clear he hx
        generalize (⟨x.toArray⟩ : ByteArray) = X at *
        go_wp2_with (go_at_call 64; refine HK.mono ?_; rintro e w1 ⟨rfl, rfl⟩)
        go_roundw
        case rel => exact ⟨k + 1, by omega, by go_num, Lib.hid (by rw [HE.out]; exact HO.out), HB⟩
        case measure => simp [intOf]; omega
      · rw [decide_eq_false he] at HK
        have HE : Hid (minusS (l.take (k + 1)) m = minusS (l.take k) m ++ [x]) := Lib.hid (minus_yes hx he)
        generalize hX : (⟨x.toArray⟩ : ByteArray) = X at *
        have HX : Hid (X.data.toList = x) := Lib.hid (by rw [← hX, bytesOf])
        clear he hx hX
        go_wp2_with (first
          | (go_at_call 64; refine HK.mono ?_; rintro e w1 ⟨rfl, rfl⟩)
          | (at_builtin; refine wpList_append_own _ rfl _ _ 22 rfl w.heap.size 9 i0 _ 1 16 Tryd.underlying22 hi hz0 hz1 hz2' rfl (by decide) _ _ _ rfl (World.ownsRow.alloc HO.out _) ⟨wr.heap.size, 0, none⟩ 1 1 [.string X] rfl rfl (by intro j u hj; match j, hj with | 0, hj => simp at hj; subst hj; simp [Addr.add]) (by intro u hu; simp at hu; subst hu; rfl) (by unfold maxLen; omega) (by omega) (by simp; omega) ?_))
        intro v' w3 hown' hgrow _
        have HO3 : Hid (OwnT w3 w.heap.size v' (minusS (l.take (k + 1)) m)) := Lib.hid (by rw [HE.out]; exact OwnT.app HX.out hown')
        have HB3 : Hid (Below w.heap.size w w3) := Lib.hid (OwnT.belowA HB.out HO.out hgrow (Nat.le_refl _) (by omega))
        clear hown' hgrow
        go_wp2
        go_roundw
        case rel => exact ⟨k + 1, by omega, by go_num, HO3, HB3⟩
        case measure => simp [intOf]; omega
    · obtain rfl : k = n := by omega
      have HF : Hid (l.take k = l) := Lib.hid (by rw [← HN.out, List.take_length])
      rw [HF.out] at HO
      clear hlt
      go_wp2
      go_ret
      exact ⟨_, rfl, HO.out, HB.out⟩
set_option maxRecDepth 100000 in
set_option maxHeartbeats 4000000 in
theorem owners_ref (v : Value) (L : List Lp) (hl : L.length ≤ 90000) (hp : ∀ q ∈ L, q.1.1.length ≤ 9000000 ∧ q.1.2.length ≤ 90000) (P : ByteArray) (w : World) (h : HoldL w v L) : Calls Tryd.prog 28 #[v, .string P] w (OwPost L P.data.toList w) := by
  obtain ⟨hin, a, c, b, o, rfl, hc, ha, hcell⟩ := h
  have HC := Lib.hid hcell
  have HI := Lib.hid hin
  have HPS := Lib.hid hp
  obtain ⟨i0, hi, hz0, hz1, hz2'⟩ := info_parts infoT
  obtain ⟨n, hN⟩ : ∃ n, L.length = n := ⟨_, rfl⟩
  rw [hN] at hc ha hl ⊢
  have HN := Lib.hid hN
  clear hcell hN hin hp
  go_enter Tryd.func28, Tryd.ntmps28
  go_wp2
  go_loopw [5, 6] (fun t i wr => ∃ k : Nat, k ≤ n ∧ i = .int .i64 k ∧ Hid (OwnT wr w.heap.size t (ownN (L.take k) P.data.toList)) ∧ Hid (Below w.heap.size w wr)) (fun _ i _ => n - (intOf i).toNat)
  case atStart => exact ⟨0, by omega, rfl, Lib.hid (OwnT.nil _ _), Lib.hid (Below.refl _ _)⟩
  case round =>
    obtain ⟨k, hk, rfl, HO, HB⟩ := hrel
    have hsz := HB.out.size
    by_cases hlt : k < n
    · obtain ⟨rfl, hbw⟩ := ha (by omega)
      obtain ⟨q, hq⟩ : ∃ q, L[k]? = some q := ⟨_, List.getElem?_eq_getElem (by rw [HN.out]; exact hlt)⟩
      obtain ⟨c0, c1⟩ := HC.out k q hq
      rw [← HB.out.cell (p := ⟨b, o + k * 2, none⟩) hbw] at c0
      rw [← HB.out.cell (p := ⟨b, o + k * 2 + 1, none⟩) hbw] at c1
      have hqm := List.mem_of_getElem? hq
      obtain ⟨ua, un, uc, hu⟩ := HoldT.form2 (HI.out q hqm)
      have hlen : (ownN (L.take k) P.data.toList).length ≤ 90000 := Nat.le_trans (own_len _ _) (by rw [List.length_take]; omega)
      have HK := has13_any q.2 q.1.2 (HPS.out q hqm).2 P wr ((HI.out q hqm).on HB.out)
      rw [hu] at HK c1
      by_cases he : P.data.toList ∈ q.1.2
      · rw [decide_eq_true he] at HK
        have HE : Hid (ownN (L.take (k + 1)) P.data.toList = ownN (L.take k) P.data.toList ++ [q.1.1]) := Lib.hid (own_yes hq he)
        generalize hX : bsT q.1.1 = X at *
        have HX : Hid (X.data.toList = q.1.1) := Lib.hid (by rw [← hX, bytesOf])
        clear he hq hX hu hqm
        go_wp2_with (first
          | (go_at_call 64; refine HK.mono ?_; rintro e w1 ⟨rfl, rfl⟩)
          | (at_builtin; refine wpList_append_own _ rfl _ _ 22 rfl w.heap.size 9 i0 _ 1 16 Tryd.underlying22 hi hz0 hz1 hz2' rfl (by decide) _ _ _ rfl (World.ownsRow.alloc HO.out _) ⟨wr.heap.size, 0, none⟩ 1 1 [.string X] rfl rfl (by intro j u hj; match j, hj with | 0, hj => simp at hj; subst hj; simp [Addr.add]) (by intro u hu; simp at hu; subst hu; rfl) (by unfold maxLen; omega) (by omega) (by simp; omega) ?_))
        intro v' w3 hown' hgrow _
        have HO3 : Hid (OwnT w3 w.heap.size v' (ownN (L.take (k + 1)) P.data.toList)) := Lib.hid (by rw [HE.out]; exact OwnT.app HX.out hown')
        have HB3 : Hid (Below w.heap.size w w3) := Lib.hid (OwnT.belowA HB.out HO.out hgrow (Nat.le_refl _) (by omega))
        clear hown' hgrow
        go_wp2
        go_roundw
        case rel => exact ⟨k + 1, by omega, by go_num, HO3, HB3⟩
        case measure => simp [intOf]; omega
      · rw [decide_eq_false he] at HK
        have HE : Hid (ownN (L.take (k + 1)) P.data.toList = ownN (L.take k) P.data.toList) := Lib.hid (own_no hq he)
        clear he hq hu hqm
        generalize bsT q.1.1 = X at *
        go_wp2_with (go_at_call 64; refine HK.mono ?_; rintro e w1 ⟨rfl, rfl⟩)
        go_roundw
        case rel => exact ⟨k + 1, by omega, by go_num, Lib.hid (by rw [HE.out]; exact HO.out), HB⟩
        case measure => simp [intOf]; omega
    · obtain rfl : k = n := by omega
      have HF : Hid (L.take k = L) := Lib.hid (by rw [← HN.out, List.take_length])
      rw [HF.out] at HO
      clear hlt
      go_wp2
      go_ret
      exact ⟨_, rfl, HO.out, HB.out⟩
end Go.Proofs.YtogkickaebmeoaaDoor
