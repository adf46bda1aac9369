/-
  Where a path is: the program's True, the reference's; the reference's Same; the law's Few: what each returns; nothing old turns.
-/
import Derived.Test.YtkcamfcjkjiijaaGreatDoorPPSorted2
import Derived.Deep.RegionHeld3
import Derived.Laws.StructEq
namespace Go.Proofs.YtkcamfcjkjiijaaGreatDoor
open Go.RowKit
def rowD (x : Dv) : List Bs := [x.1, x.2.1, x.2.2]
abbrev HoldD (w : World) (v : Value) (l : List Dv) : Prop := HoldR 3 w v (l.map rowD)
abbrev bsA (l : Bs) : ByteArray := ⟨l.toArray⟩
abbrev aggX (x : Dv) : Value := aggD (bsA x.1) (bsA x.2.1) (bsA x.2.2)
theorem HoldD.parts {w : World} {v : Value} {l : List Dv} (h : HoldD w v l) : ∃ (a : Option Addr) (c b o : Nat), v = .slice a l.length c ∧ l.length ≤ c ∧ (0 < l.length → a = some ⟨b, o, none⟩ ∧ b < w.heap.size) ∧
    ∀ (j : Nat) x, l[j]? = some x → w.cell? ⟨b, o + j * 3, none⟩ = some (.string (bsA x.1)) ∧ w.cell? ⟨b, o + j * 3 + 1, none⟩ = some (.string (bsA x.2.1)) ∧ w.cell? ⟨b, o + j * 3 + 2, none⟩ = some (.string (bsA x.2.2)) := by
  obtain ⟨a, c, b, o, e, hc, ha, hcell⟩ := h
  rw [List.length_map] at e hc ha
  refine ⟨a, c, b, o, e, hc, ha, fun j x hx => ?_⟩
  have := hcell j (rowD x) (by rw [List.getElem?_map, hx]; rfl)
  exact ⟨this 0 _ (by omega) rfl, this 1 _ (by omega) rfl, this 2 _ (by omega) rfl⟩
def idxD (l : List Dv) (p : Dv → Bool) : Int := match l.findIdx? p with
  | some k => (k : Int)
  | none => -1
theorem idxD_hit {l : List Dv} {p : Dv → Bool} {k : Nat} {x : Dv} (hx : l[k]? = some x) (hp : p x = true) (hb : ∀ (j : Nat) y, j < k → l[j]? = some y → p y = false) : idxD l p = k := by
  unfold idxD
  have : l.findIdx? p = some k := by
    rw [List.findIdx?_eq_some_iff_getElem]
    obtain ⟨hk, e⟩ := List.getElem?_eq_some_iff.1 hx
    exact ⟨hk, by rw [e]; exact hp, fun j hj => by rw [hb j _ hj (List.getElem?_eq_getElem (by omega))]; simp⟩
  rw [this]
theorem idxD_miss {l : List Dv} {p : Dv → Bool} (hb : ∀ (j : Nat) y, l[j]? = some y → p y = false) : idxD l p = -1 := by
  unfold idxD
  have : l.findIdx? p = none := by
    rw [List.findIdx?_eq_none_iff]
    intro y hy
    obtain ⟨j, hj⟩ := List.mem_iff_getElem?.1 hy
    exact hb j y hj
  rw [this]
theorem idxD_cases (l : List Dv) (p : Dv → Bool) : (idxD l p = -1 ∧ ∀ x ∈ l, p x = false) ∨ ∃ (k : Nat) (x : Dv), idxD l p = k ∧ l[k]? = some x ∧ p x = true ∧ l.find? p = some x := by
  unfold idxD
  cases h : l.findIdx? p with
  | none => exact .inl ⟨rfl, List.findIdx?_eq_none_iff.1 h⟩
  | some k =>
    obtain ⟨hk, h1, h2⟩ := List.findIdx?_eq_some_iff_getElem.1 h
    refine .inr ⟨k, l[k], rfl, List.getElem?_eq_getElem hk, h1, ?_⟩
    rw [List.find?_eq_some_iff_getElem]
    exact ⟨h1, k, hk, rfl, fun j hj => by simpa using h2 j hj⟩
/-- What is asked of a predicate: at each of l's, in each later world. -/
def PredD (g : Nat) (lb : Array Value) (l : List Dv) (p : Dv → Bool) (w : World) : Prop :=
  ∀ W x, Below w.heap.size w W → x ∈ l → Calls Tryz.prog g (#[aggX x] ++ lb) W fun e w' => e = .returned (.bool (p x)) ∧ Below W.heap.size W w'
set_option maxRecDepth 100000 in
set_option maxHeartbeats 4000000 in
theorem idx_dv (g : Nat) (lb : Array Value) (eg : ∀ args w, (callFunc g args).run Tryz.prog w = .ok (.enter g args) w) (p : Dv → Bool) (v : Value) (l : List Dv) (hl : l.length ≤ 90000) (w : World) (h : HoldD w v l) (hp : PredD g lb l p w) :
    Calls Tryz.prog 104 #[v, .func (.func g) #[] lb] w fun e w' => e = .returned (.int .i64 (idxD l p)) ∧ Below w.heap.size w w' := by
  obtain ⟨a, c, b, o, rfl, hc, ha, hcell⟩ := h.parts
  have HC := Lib.hid hcell
  obtain ⟨Z, HZ⟩ : ∃ Z, Hid (idxD l p = Z) := ⟨_, rfl⟩
  rw [HZ.out]
  have HP := Lib.hid hp
  obtain ⟨n, hN⟩ : ∃ n, l.length = n := ⟨_, rfl⟩
  rw [hN] at hc ha hl ⊢
  have HN := Lib.hid hN
  clear hcell hp hN h
  go_enter Tryz.func104, Tryz.ntmps104
  go_wp2
  go_loopw [8] (fun i wr => ∃ k : Nat, k ≤ n ∧ i = .int .i64 k ∧ Hid (∀ (j : Nat) y, j < k → l[j]? = some y → p y = false) ∧ Hid (Below w.heap.size w wr)) (fun i _ => n - (intOf i).toNat)
  case atStart => exact ⟨0, by omega, rfl, Lib.hid (fun j y hj => by omega), Lib.hid (Below.refl _ _)⟩
  case round =>
    obtain ⟨k, hk, rfl, H, HB⟩ := hrel
    by_cases hlt : k < n
    · obtain ⟨rfl, hbw⟩ := ha (by omega)
      obtain ⟨x, hx⟩ : ∃ x, l[k]? = some x := ⟨_, List.getElem?_eq_getElem (by rw [HN.out]; exact hlt)⟩
      obtain ⟨c0, c1, c2⟩ := HC.out k x hx
      rw [← HB.out.cell (p := ⟨b, o + k * 3, none⟩) hbw] at c0
      rw [← HB.out.cell (p := ⟨b, o + k * 3 + 1, none⟩) hbw] at c1
      rw [← HB.out.cell (p := ⟨b, o + k * 3 + 2, none⟩) hbw] at c2
      have hcall := HP.out wr x HB.out (List.mem_of_getElem? hx)
      have HX := Lib.hid hx
      clear hx
      cases hq : p x
      · rw [hq] at hcall
        have HK : Hid (∀ (j : Nat) y, j < k + 1 → l[j]? = some y → p y = false) := Lib.hid (fun j y hj hy => by
          by_cases e : j = k
          · subst e
            rw [HX.out] at hy; cases hy; exact hq
          · exact H.out j y (by omega) hy)
        clear hq H
        go_wp2_with (go_at_fn g; refine hcall.mono ?_; rintro e w1 ⟨rfl, hb1⟩; have HB1 := Lib.hid (HB.out.trans (hb1.mono HB.out.size)); clear hb1)
        go_roundw
        case rel => exact ⟨k + 1, by omega, by go_num, HK, HB1⟩
        case measure => simp [intOf]; omega
      · rw [hq] at hcall
        have HF : Hid ((k : Int) = Z) := Lib.hid (by rw [← HZ.out, idxD_hit HX.out hq H.out])
        clear hq H
        go_wp2_with (go_at_fn g; refine hcall.mono ?_; rintro e w1 ⟨rfl, hb1⟩; have HB1 := Lib.hid (HB.out.trans (hb1.mono HB.out.size)); clear hb1)
        go_ret
        exact ⟨reti HF.out, HB1.out⟩
    · obtain rfl : k = n := by omega
      have HF : Hid ((-1 : Int) = Z) := Lib.hid (by rw [← HZ.out, idxD_miss (fun j y hy => H.out j y (by have := (List.getElem?_eq_some_iff.1 hy).1; rw [HN.out] at this; exact this) hy)])
      clear hlt H
      go_wp2
      go_ret
      exact ⟨reti HF.out, HB.out⟩
/-- What a key's predicate needs of the world. -/
abbrev FindS (w : World) (B1 B2 b0 : Nat) (k X Y Z : ByteArray) (W : World) : Prop :=
  W.cell? ⟨b0, 0, none⟩ = some (.string X) ∧ W.cell? ⟨b0, 1, none⟩ = some (.string Y) ∧ W.cell? ⟨b0, 2, none⟩ = some (.string Z) ∧ W.cell? ⟨B1, 0, none⟩ = some (.func (.func 89) #[] #[]) ∧ W.cell? ⟨B2, 0, none⟩ = some (.string k) ∧ Below w.heap.size w W
theorem FindS.on {w : World} {B1 B2 b0 : Nat} {k X Y Z : ByteArray} {W W1 : World} (h : FindS w B1 B2 b0 k X Y Z W) (hb : Below W.heap.size W W1) : FindS w B1 B2 b0 k X Y Z W1 := by
  obtain ⟨x0, x1, x2, h2, h3, h4⟩ := h
  obtain ⟨y0, y1, y2⟩ := (show At3 W b0 X Y Z from ⟨x0, x1, x2⟩).on hb
  exact ⟨y0, y1, y2, (hb.cell (World.block_lt_of_cell? W _ h2)).trans h2, (hb.cell (World.block_lt_of_cell? W _ h3)).trans h3, h4.trans (hb.mono h4.size)⟩
theorem FindS.dr {w : World} {B1 B2 b0 : Nat} {k X Y Z : ByteArray} {W : World} (h : FindS w B1 B2 b0 k X Y Z W) : FindS w B1 B2 b0 k X Y Z W.drew := h.on (Below.refl _ _).drew
def pathIs (k : Bs) (x : Dv) : Bool := decide (x.1 = k)
set_option maxRecDepth 100000 in
set_option maxHeartbeats 4000000 in
/-- keyed.Find's predicate: the key function and the key lie in boxes. -/
theorem findp_any (B1 B2 : Nat) (k : ByteArray) (x : Dv) (W : World) (h1 : W.cell? ⟨B1, 0, none⟩ = some (.func (.func 89) #[] #[])) (h2 : W.cell? ⟨B2, 0, none⟩ = some (.string k)) :
    Calls Tryz.prog 105 #[aggX x, .pointer (some ⟨B1, 0, none⟩), .pointer (some ⟨B2, 0, none⟩)] W fun e w' => e = .returned (.bool (pathIs k.data.toList x)) ∧ Below W.heap.size W w' := by
  have hq := eqT (bsA x.1) k
  rw [bytesOf] at hq
  unfold pathIs
  show Calls _ _ #[.agg #[.string (bsA x.1), .string (bsA x.2.1), .string (bsA x.2.2)], _, _] _ _
  have PA := fun w => pathOf_any (bsA x.1) (bsA x.2.1) (bsA x.2.2) w
  unfold aggD at PA
  generalize decide (x.1 = k.data.toList) = q at *
  generalize bsA x.1 = X at *
  generalize bsA x.2.1 = Y at *
  generalize bsA x.2.2 = Z at *
  have l1 := World.block_lt_of_cell? W _ h1
  have l2 := World.block_lt_of_cell? W _ h2
  have B0 := (Below.refl W.heap.size W).alloc (Nat.le_refl _) (.cells #[.string X, .string Y, .string Z] 100)
  obtain ⟨x0, x1, x2⟩ := box3xD W X Y Z 100
  have HS := Lib.hid (show FindS W B1 B2 W.heap.size k X Y Z _ from ⟨x0, x1, x2, (B0.cell l1).trans h1, (B0.cell l2).trans h2, B0⟩)
  clear x0 x1 x2
  go_enter Tryz.func105, Tryz.ntmps105
  go_wp2
  generalize W.alloc (.cells #[.string X, .string Y, .string Z] 100) = W2 at *
  generalize hb0 : W.heap.size = b0 at *
  have hs := HS.out
  obtain ⟨x0, x1, x2, k1, k2, hB⟩ := HS.out
  clear hb0 B0 h1 h2
  go_region_held3 (fun V => V.cell? ⟨b0, 0, none⟩ = some (.string X) ∧ V.cell? ⟨b0, 1, none⟩ = some (.string Y) ∧ V.cell? ⟨b0, 2, none⟩ = some (.string Z) ∧ V.cell? ⟨B1, 0, none⟩ = some (.func (.func 89) #[] #[]) ∧ V.cell? ⟨B2, 0, none⟩ = some (.string k) ∧ Below W.heap.size W V)
    (first | assumption | exact hs | exact FindS.dr hs | exact FindS.on (by assumption) (by assumption))
    ((go_at_call 89; refine (PA _).mono ?_; rintro e w3 ⟨rfl, hb⟩))
  all_goals
    rename_i hHeld
    have HW3 := Lib.hid hHeld.2.2.2.2.2
    clear hHeld
    go_wp2
    go_ret
    exact ⟨rfl, HW3.out⟩
abbrev pathF : Value := .func (.func 89) #[] #[]
set_option maxRecDepth 100000 in
set_option maxHeartbeats 4000000 in
theorem kfind_any (v : Value) (l : List Dv) (hl : l.length ≤ 90000) (k : ByteArray) (w : World) (h : HoldD w v l) :
    Calls Tryz.prog 88 #[v, pathF, .string k] w fun e w' => e = .returned (.int .i64 (idxD l (pathIs k.data.toList))) ∧ Below w.heap.size w w' := by
  have B2 := ((Below.refl w.heap.size w).alloc (Nat.le_refl _) (.cells #[pathF] 130)).alloc (by simp) (.cells #[.string k] 9)
  have q1 := (Boxed.new w 130 pathF).alloc (.cells #[.string k] 9)
  have q2 := Boxed.new (w.alloc (.cells #[pathF] 130)) 9 (.string k)
  rw [World.size_alloc] at q2
  have I := idx_dv 105 #[.pointer (some ⟨w.heap.size, 0, none⟩), .pointer (some ⟨w.heap.size + 1, 0, none⟩)] (enters_of Tryz.func105 (by kernel_rfl) rfl) (pathIs k.data.toList) v l hl _ (HoldR.on h B2)
    (fun W x hb _ => findp_any _ _ k x W ((hb.cell q1.lt).trans q1.cell) ((hb.cell q2.lt).trans q2.cell))
  have HB2 := Lib.hid B2
  clear B2 q1 q2
  unfold pathF at I ⊢
  generalize idxD l (pathIs k.data.toList) = z at *
  go_enter Tryz.func88, Tryz.ntmps88
  go_wp2_with (go_at_call 104; refine I.mono ?_; rintro e w1 ⟨rfl, hb⟩; have HB := Lib.hid (HB2.out.trans (hb.mono HB2.out.size)); clear hb)
  go_ret
  exact ⟨rfl, HB.out⟩
theorem find9_any (v : Value) (l : List Dv) (hl : l.length ≤ 90000) (k : ByteArray) (w : World) (h : HoldD w v l) :
    Calls Tryz.prog 66 #[v, .string k] w fun e w' => e = .returned (.int .i64 (idxD l (pathIs k.data.toList))) ∧ Below w.heap.size w w' := by
  have I := kfind_any v l hl k w h
  unfold pathF at I
  generalize idxD l (pathIs k.data.toList) = z at *
  go_enter Tryz.func66, Tryz.ntmps66
  go_wp2_with (go_at_call 88; refine I.mono ?_; rintro e w1 ⟨rfl, hb⟩; have HB := Lib.hid hb; clear hb)
  go_ret
  exact ⟨rfl, HB.out⟩
end Go.Proofs.YtkcamfcjkjiijaaGreatDoor
namespace Go.Proofs.YtkcamfcjkjiijaaGreatDoor
open Go.RowKit
set_option maxRecDepth 100000 in
set_option maxHeartbeats 4000000 in
theorem find_ref9 (v : Value) (l : List Dv) (hl : l.length ≤ 90000) (p : ByteArray) (w : World) (h : HoldD w v l) : Calls Tryz.prog 97 #[v, .string p] w fun e w' => e = .returned (.int .i64 (idxD l (pathIs p.data.toList))) ∧ w = w' := by
  obtain ⟨a, c, b, o, rfl, hc, ha, hcell⟩ := h.parts
  have HC := Lib.hid hcell
  obtain ⟨Z, HZ⟩ : ∃ Z, Hid (idxD l (pathIs p.data.toList) = Z) := ⟨_, rfl⟩
  rw [HZ.out]
  obtain ⟨n, hN⟩ : ∃ n, l.length = n := ⟨_, rfl⟩
  rw [hN] at hc ha hl ⊢
  have HN := Lib.hid hN
  clear hcell hN h
  go_enter Tryz.func97, Tryz.ntmps97
  go_wp2
  go_loop [5] (fun i => ∃ k : Nat, k ≤ n ∧ i = .int .i64 k ∧ Hid (∀ (j : Nat) y, j < k → l[j]? = some y → pathIs p.data.toList y = false)) (fun i => n - (intOf i).toNat)
  case atStart => exact ⟨0, by omega, rfl, Lib.hid (fun j y hj => by omega)⟩
  case round =>
    obtain ⟨k, hk, rfl, H⟩ := hrel
    by_cases hlt : k < n
    · obtain ⟨rfl, hbw⟩ := ha (by omega)
      obtain ⟨x, hx⟩ : ∃ x, l[k]? = some x := ⟨_, List.getElem?_eq_getElem (by rw [HN.out]; exact hlt)⟩
      obtain ⟨c0, -, -⟩ := HC.out k x hx
      have hq := eqT (bsA x.1) p
      rw [bytesOf] at hq
      have HX := Lib.hid hx
      cases hp : pathIs p.data.toList x
      · have HK : Hid (∀ (j : Nat) y, j < k + 1 → l[j]? = some y → pathIs p.data.toList y = false) := Lib.hid (fun j y hj hy => by
          by_cases e : j = k
          · subst e; rw [HX.out] at hy; cases hy; exact hp
          · exact H.out j y (by omega) hy)
        unfold pathIs at hp
        rw [hp] at hq
        generalize bsA x.1 = X at *
        clear hp H hx
        go_wp2
        go_round
        case rel => exact ⟨k + 1, by omega, by go_num, HK⟩
        case measure => simp [intOf]; omega
      · have HF : Hid ((k : Int) = Z) := Lib.hid (by rw [← HZ.out, idxD_hit HX.out hp H.out])
        unfold pathIs at hp
        rw [hp] at hq
        generalize bsA x.1 = X at *
        clear hp H hx
        go_wp2
        go_ret
        exact ⟨reti HF.out, rfl⟩
    · obtain rfl : k = n := by omega
      have HF : Hid ((-1 : Int) = Z) := Lib.hid (by rw [← HZ.out, idxD_miss (fun j y hy => H.out j y (by have := (List.getElem?_eq_some_iff.1 hy).1; rw [HN.out] at this; exact this) hy)])
      clear hlt H
      go_wp2
      go_ret
      exact ⟨reti HF.out, rfl⟩
end Go.Proofs.YtkcamfcjkjiijaaGreatDoor
namespace Go.Proofs.YtkcamfcjkjiijaaGreatDoor
open Go.RowKit
def ToPost (l : List Dv) (p q : Bs) (w : World) (e : Ending) (w' : World) : Prop := e = .returned (.string (bsA (toD l p q))) ∧ Below w.heap.size w w'
theorem toD_miss {l : List Dv} {p q : Bs} (h : l.find? (pathIs p) = none) : toD l p q = p := by
  unfold toD
  have : (fun x : Dv => decide (x.1 = p)) = pathIs p := rfl
  rw [this, h]
theorem toD_hit {l : List Dv} {p q : Bs} {x : Dv} (h : l.find? (pathIs p) = some x) : toD l p q = if q ≠ [] ∧ x.2.2 = q then p else x.2.1 := by
  unfold toD
  have : (fun x : Dv => decide (x.1 = p)) = pathIs p := rfl
  rw [this, h]
set_option maxRecDepth 100000 in
set_option maxHeartbeats 8000000 in
theorem true_any (v : Value) (l : List Dv) (hl : l.length ≤ 90000) (p q : ByteArray) (w : World) (h : HoldD w v l) : Calls Tryz.prog 30 #[v, .string p, .string q] w (ToPost l p.data.toList q.data.toList w) := by
  have FA := find9_any v l hl p w h
  have HP : Hid (∀ (s : ByteArray) w', s = bsA (toD l p.data.toList q.data.toList) → Below w.heap.size w w' → ToPost l p.data.toList q.data.toList w (.returned (.string s)) w') := Lib.hid (fun s w' e hb => ⟨by rw [e], hb⟩)
  obtain ⟨a, c, b, o, rfl, hc, ha, hcell⟩ := h.parts
  have he := byEmpty q
  rcases idxD_cases l (pathIs p.data.toList) with ⟨e1, e2⟩ | ⟨k, x, e1, hx, hp, hf⟩
  · rw [e1] at FA
    have HF : Hid (p = bsA (toD l p.data.toList q.data.toList)) := Lib.hid (by rw [toD_miss (List.find?_eq_none.2 (fun y hy => by rw [e2 y hy]; simp))])
    clear e1 e2 hcell h
    go_enter Tryz.func30, Tryz.ntmps30
    go_wp2_with (go_at_call 66; refine FA.mono ?_; rintro e w1 ⟨rfl, hb⟩; have HB := Lib.hid hb; clear hb)
    go_ret
    exact HP.out _ _ HF.out HB.out
  · rw [e1] at FA
    have hk : k < l.length := (List.getElem?_eq_some_iff.1 hx).1
    obtain ⟨rfl, hbw⟩ := ha (by omega)
    obtain ⟨c0, c1, c2⟩ := hcell k x hx
    have HC := Lib.hid (And.intro c1 c2)
    have hq := eqT (bsA x.2.2) q
    rw [bytesOf] at hq
    have HT := Lib.hid (toD_hit (q := q.data.toList) hf)
    have HX2 : Hid (bsA x.2.1 = bsA x.2.1) := Lib.hid rfl
    obtain ⟨n, hN⟩ : ∃ n, l.length = n := ⟨_, rfl⟩
    rw [hN] at hc hl hk FA ⊢
    clear hcell ha hx hp hf e1 hN h c0 c1 c2
    by_cases h3 : x.2.2 = q.data.toList
    · rw [decide_eq_true h3] at hq
      by_cases h4 : q.data.toList = []
      · rw [decide_eq_true h4] at he
        have HF : Hid (bsA x.2.1 = bsA (toD l p.data.toList q.data.toList)) := Lib.hid (by rw [HT.out, if_neg (fun g => g.1 h4)])
        clear h3 h4 HT
        generalize bsA x.2.1 = Y at *
        generalize bsA x.2.2 = Z at *
        go_enter Tryz.func30, Tryz.ntmps30
        go_wp2_with (go_at_call 66; refine FA.mono ?_; rintro e w1 ⟨rfl, hb⟩; have HB := Lib.hid hb; have d1 := (hb.cell (p := ⟨b, o + k * 3 + 1, none⟩) hbw).trans HC.out.1; have d2 := (hb.cell (p := ⟨b, o + k * 3 + 2, none⟩) hbw).trans HC.out.2; clear hb)
        go_ret
        exact HP.out _ _ HF.out HB.out
      · rw [decide_eq_false h4] at he
        have HF : Hid (p = bsA (toD l p.data.toList q.data.toList)) := Lib.hid (by rw [HT.out, if_pos ⟨h4, h3⟩])
        clear h3 h4 HT
        generalize bsA x.2.1 = Y at *
        generalize bsA x.2.2 = Z at *
        go_enter Tryz.func30, Tryz.ntmps30
        go_wp2_with (go_at_call 66; refine FA.mono ?_; rintro e w1 ⟨rfl, hb⟩; have HB := Lib.hid hb; have d1 := (hb.cell (p := ⟨b, o + k * 3 + 1, none⟩) hbw).trans HC.out.1; have d2 := (hb.cell (p := ⟨b, o + k * 3 + 2, none⟩) hbw).trans HC.out.2; clear hb)
        go_ret
        exact HP.out _ _ HF.out HB.out
    · rw [decide_eq_false h3] at hq
      have HF : Hid (bsA x.2.1 = bsA (toD l p.data.toList q.data.toList)) := Lib.hid (by rw [HT.out, if_neg (fun g => h3 g.2)])
      clear h3 HT he
      generalize bsA x.2.1 = Y at *
      generalize bsA x.2.2 = Z at *
      go_enter Tryz.func30, Tryz.ntmps30
      go_wp2_with (go_at_call 66; refine FA.mono ?_; rintro e w1 ⟨rfl, hb⟩; have HB := Lib.hid hb; have d1 := (hb.cell (p := ⟨b, o + k * 3 + 1, none⟩) hbw).trans HC.out.1; have d2 := (hb.cell (p := ⟨b, o + k * 3 + 2, none⟩) hbw).trans HC.out.2; clear hb)
      go_ret
      exact HP.out _ _ HF.out HB.out
set_option maxRecDepth 100000 in
set_option maxHeartbeats 8000000 in
theorem true_ref (v : Value) (l : List Dv) (hl : l.length ≤ 90000) (p q : ByteArray) (w : World) (h : HoldD w v l) : Calls Tryz.prog 78 #[v, .string p, .string q] w (ToPost l p.data.toList q.data.toList w) := by
  have FA := find_ref9 v l hl p w h
  have HP : Hid (∀ (s : ByteArray) w', s = bsA (toD l p.data.toList q.data.toList) → Below w.heap.size w w' → ToPost l p.data.toList q.data.toList w (.returned (.string s)) w') := Lib.hid (fun s w' e hb => ⟨by rw [e], hb⟩)
  obtain ⟨a, c, b, o, rfl, hc, ha, hcell⟩ := h.parts
  have he := byEmpty q
  rcases idxD_cases l (pathIs p.data.toList) with ⟨e1, e2⟩ | ⟨k, x, e1, hx, hp, hf⟩
  · rw [e1] at FA
    have HF : Hid (p = bsA (toD l p.data.toList q.data.toList)) := Lib.hid (by rw [toD_miss (List.find?_eq_none.2 (fun y hy => by rw [e2 y hy]; simp))])
    clear e1 e2 hcell h
    go_enter Tryz.func78, Tryz.ntmps78
    go_wp2_with (go_at_call 97; refine FA.mono ?_; rintro e w1 ⟨rfl, rfl⟩)
    go_ret
    exact HP.out _ _ HF.out (Below.refl _ _)
  · rw [e1] at FA
    have hk : k < l.length := (List.getElem?_eq_some_iff.1 hx).1
    obtain ⟨rfl, hbw⟩ := ha (by omega)
    obtain ⟨c0, c1, c2⟩ := hcell k x hx
    have hq := eqT (bsA x.2.2) q
    rw [bytesOf] at hq
    have HT := Lib.hid (toD_hit (q := q.data.toList) hf)
    obtain ⟨n, hN⟩ : ∃ n, l.length = n := ⟨_, rfl⟩
    rw [hN] at hc hl hk FA ⊢
    clear hcell ha hx hp hf e1 hN h c0
    by_cases h4 : q.data.toList = []
    · rw [decide_eq_true h4] at he
      have HF : Hid (bsA x.2.1 = bsA (toD l p.data.toList q.data.toList)) := Lib.hid (by rw [HT.out, if_neg (fun g => g.1 h4)])
      clear h4 HT hq
      generalize bsA x.2.1 = Y at *
      generalize bsA x.2.2 = Z at *
      go_enter Tryz.func78, Tryz.ntmps78
      go_wp2_with (go_at_call 97; refine FA.mono ?_; rintro e w1 ⟨rfl, rfl⟩)
      go_ret
      exact HP.out _ _ HF.out (Below.refl _ _)
    · rw [decide_eq_false h4] at he
      by_cases h3 : x.2.2 = q.data.toList
      · rw [decide_eq_true h3] at hq
        have HF : Hid (p = bsA (toD l p.data.toList q.data.toList)) := Lib.hid (by rw [HT.out, if_pos ⟨h4, h3⟩])
        clear h3 h4 HT
        generalize bsA x.2.1 = Y at *
        generalize bsA x.2.2 = Z at *
        go_enter Tryz.func78, Tryz.ntmps78
        go_wp2_with (go_at_call 97; refine FA.mono ?_; rintro e w1 ⟨rfl, rfl⟩)
        go_ret
        exact HP.out _ _ HF.out (Below.refl _ _)
      · rw [decide_eq_false h3] at hq
        have HF : Hid (bsA x.2.1 = bsA (toD l p.data.toList q.data.toList)) := Lib.hid (by rw [HT.out, if_neg (fun g => h3 g.2)])
        clear h3 h4 HT
        generalize bsA x.2.1 = Y at *
        generalize bsA x.2.2 = Z at *
        go_enter Tryz.func78, Tryz.ntmps78
        go_wp2_with (go_at_call 97; refine FA.mono ?_; rintro e w1 ⟨rfl, rfl⟩)
        go_ret
        exact HP.out _ _ HF.out (Below.refl _ _)
end Go.Proofs.YtkcamfcjkjiijaaGreatDoor
