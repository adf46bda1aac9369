/-
  Where a path is, and whence: the program's From and True, the reference's Find, From and True: what each returns; nothing old turns.
-/
import Derived.Test.YtogkickaebmeoaaDoorDFind
namespace Go.Proofs.YtogkickaebmeoaaDoor
open Go.RowKit
theorem find_hit {l : List Dv} {p : Dv → Bool} {k : Nat} {x : Dv} (hx : l[k]? = some x) (hp : p x = true) (hb : ∀ (j : Nat) y, j < k → l[j]? = some y → p y = false) : l.find? p = some x := by
  obtain ⟨hk, e⟩ := List.getElem?_eq_some_iff.1 hx
  rw [List.find?_eq_some_iff_getElem]
  exact ⟨hp, k, hk, e, fun j hj => by rw [hb j _ hj (List.getElem?_eq_getElem (by omega))]; rfl⟩
theorem find_miss {l : List Dv} {p : Dv → Bool} (hb : ∀ (j : Nat) y, l[j]? = some y → p y = false) : l.find? p = none := by
  rw [List.find?_eq_none]
  intro y hy
  obtain ⟨j, hj⟩ := List.mem_iff_getElem?.1 hy
  rw [hb j y hj]; simp
def toIs (k : Bs) (x : Dv) : Bool := decide (x.2.1 = k)
theorem fromD_hit {l : List Dv} {p : Bs} {x : Dv} (h : l.find? (toIs p) = some x) : fromD l p = x.1 := by
  unfold fromD
  have : (fun x : Dv => decide (x.2.1 = p)) = toIs p := rfl
  rw [this, h]
theorem fromD_miss {l : List Dv} {p : Bs} (h : l.find? (toIs p) = none) : fromD l p = p := by
  unfold fromD
  have : (fun x : Dv => decide (x.2.1 = p)) = toIs p := rfl
  rw [this, h]
theorem strX (s : ByteArray) : Value.string s = Value.string (bsA s.data.toList) := by rw [show bsA s.data.toList = s from (strOf rfl).symm]
def FromPost (l : List Dv) (p : Bs) (w : World) (e : Ending) (w' : World) : Prop := e = .returned (.string (bsA (fromD l p))) ∧ Below w.heap.size w w'
set_option maxRecDepth 100000 in
set_option maxHeartbeats 4000000 in
theorem from_any (v : Value) (l : List Dv) (hl : l.length ≤ 90000) (p : ByteArray) (w : World) (h : HoldD w v l) : Calls Tryd.prog 111 #[v, .string p] w (FromPost l p.data.toList w) := by
  obtain ⟨a, c, b, o, rfl, hc, ha, hcell⟩ := h.parts
  have HC := Lib.hid hcell
  have HP : Hid (∀ (s : ByteArray) w', s = bsA (fromD l p.data.toList) → Below w.heap.size w w' → FromPost l p.data.toList w (.returned (.string s)) w') := Lib.hid (fun s w' e hb => ⟨by rw [e], hb⟩)
  obtain ⟨n, hN⟩ : ∃ n, l.length = n := ⟨_, rfl⟩
  rw [hN] at hc ha hl ⊢
  have HN := Lib.hid hN
  clear hcell hN h
  go_enter Tryd.func111, Tryd.ntmps111
  go_wp2
  go_loopw [9] (fun i wr => ∃ k : Nat, k ≤ n ∧ i = .int .i64 k ∧ Hid (∀ (j : Nat) y, j < k → l[j]? = some y → toIs p.data.toList y = false) ∧ Hid (Below w.heap.size w wr)) (fun i _ => n - (intOf i).toNat)
  case atStart => exact ⟨0, by omega, rfl, Lib.hid (fun j y hj => by omega), Lib.hid (Below.refl _ _)⟩
  case round =>
    obtain ⟨k, hk, rfl, H, HB⟩ := hrel
    by_cases hlt : k < n
    · obtain ⟨rfl, hbw⟩ := ha (by omega)
      obtain ⟨x, hx⟩ : ∃ x, l[k]? = some x := ⟨_, List.getElem?_eq_getElem (by rw [HN.out]; exact hlt)⟩
      obtain ⟨c0, c1, c2⟩ := HC.out k x hx
      rw [← HB.out.cell (p := ⟨b, o + k * 3, none⟩) hbw] at c0
      rw [← HB.out.cell (p := ⟨b, o + k * 3 + 1, none⟩) hbw] at c1
      rw [← HB.out.cell (p := ⟨b, o + k * 3 + 2, none⟩) hbw] at c2
      have hq := eqT (bsA x.2.1) p
      rw [bytesOf] at hq
      have HX := Lib.hid hx
      have HB1 := Lib.hid (HB.out.alloc HB.out.size (.cells #[.string (bsA x.1), .string (bsA x.2.1), .string (bsA x.2.2)] 54))
      cases hp : toIs p.data.toList x
      · have HK : Hid (∀ (j : Nat) y, j < k + 1 → l[j]? = some y → toIs p.data.toList y = false) := Lib.hid (fun j y hj hy => by
          by_cases e : j = k
          · subst e; rw [HX.out] at hy; cases hy; exact hp
          · exact H.out j y (by omega) hy)
        unfold toIs at hp
        rw [hp] at hq
        generalize bsA x.1 = X at *
        generalize bsA x.2.1 = Y at *
        generalize bsA x.2.2 = Z at *
        clear hp H hx
        go_wp2
        go_roundw
        case rel => exact ⟨k + 1, by omega, by go_num, HK, HB1⟩
        case measure => simp [intOf]; omega
      · have HF : Hid (bsA x.1 = bsA (fromD l p.data.toList)) := Lib.hid (by rw [fromD_hit (find_hit HX.out hp H.out)])
        unfold toIs at hp
        rw [hp] at hq
        generalize bsA x.1 = X at *
        generalize bsA x.2.1 = Y at *
        generalize bsA x.2.2 = Z at *
        clear hp H hx
        go_wp2
        go_ret
        exact HP.out _ _ HF.out HB1.out
    · obtain rfl : k = n := by omega
      have HF : Hid (p = bsA (fromD l p.data.toList)) := Lib.hid (by rw [fromD_miss (find_miss (fun j y hy => H.out j y (by have := (List.getElem?_eq_some_iff.1 hy).1; rw [HN.out] at this; exact this) hy))])
      clear hlt H
      go_wp2
      go_ret
      exact HP.out _ _ HF.out HB.out
set_option maxRecDepth 100000 in
set_option maxHeartbeats 4000000 in
theorem find_ref9 (v : Value) (l : List Dv) (hl : l.length ≤ 90000) (p : ByteArray) (w : World) (h : HoldD w v l) : Calls Tryd.prog 39 #[v, .string p] w fun e w' => e = .returned (.int .i64 (idxD l (pathIs p.data.toList))) ∧ w = w' := by
  obtain ⟨a, c, b, o, rfl, hc, ha, hcell⟩ := h.parts
  have HC := Lib.hid hcell
  obtain ⟨Z, HZ⟩ : ∃ Z, Hid (idxD l (pathIs p.data.toList) = Z) := ⟨_, rfl⟩
  rw [HZ.out]
  obtain ⟨n, hN⟩ : ∃ n, l.length = n := ⟨_, rfl⟩
  rw [hN] at hc ha hl ⊢
  have HN := Lib.hid hN
  clear hcell hN h
  go_enter Tryd.func39, Tryd.ntmps39
  go_wp2
  go_loop [5] (fun i => ∃ k : Nat, k ≤ n ∧ i = .int .i64 k ∧ Hid (∀ (j : Nat) y, j < k → l[j]? = some y → pathIs p.data.toList y = false)) (fun i => n - (intOf i).toNat)
  case atStart => exact ⟨0, by omega, rfl, Lib.hid (fun j y hj => by omega)⟩
  case round =>
    obtain ⟨k, hk, rfl, H⟩ := hrel
    by_cases hlt : k < n
    · obtain ⟨rfl, hbw⟩ := ha (by omega)
      obtain ⟨x, hx⟩ : ∃ x, l[k]? = some x := ⟨_, List.getElem?_eq_getElem (by rw [HN.out]; exact hlt)⟩
      obtain ⟨c0, -, -⟩ := HC.out k x hx
      have hq := eqT (bsA x.1) p
      rw [bytesOf] at hq
      have HX := Lib.hid hx
      cases hp : pathIs p.data.toList x
      · have HK : Hid (∀ (j : Nat) y, j < k + 1 → l[j]? = some y → pathIs p.data.toList y = false) := Lib.hid (fun j y hj hy => by
          by_cases e : j = k
          · subst e; rw [HX.out] at hy; cases hy; exact hp
          · exact H.out j y (by omega) hy)
        unfold pathIs at hp
        rw [hp] at hq
        generalize bsA x.1 = X at *
        clear hp H hx
        go_wp2
        go_round
        case rel => exact ⟨k + 1, by omega, by go_num, HK⟩
        case measure => simp [intOf]; omega
      · have HF : Hid ((k : Int) = Z) := Lib.hid (by rw [← HZ.out, idxD_hit HX.out hp H.out])
        unfold pathIs at hp
        rw [hp] at hq
        generalize bsA x.1 = X at *
        clear hp H hx
        go_wp2
        go_ret
        exact ⟨reti HF.out, rfl⟩
    · obtain rfl : k = n := by omega
      have HF : Hid ((-1 : Int) = Z) := Lib.hid (by rw [← HZ.out, idxD_miss (fun j y hy => H.out j y (by have := (List.getElem?_eq_some_iff.1 hy).1; rw [HN.out] at this; exact this) hy)])
      clear hlt H
      go_wp2
      go_ret
      exact ⟨reti HF.out, rfl⟩
end Go.Proofs.YtogkickaebmeoaaDoor
