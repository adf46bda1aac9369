/-
  A package, and a state, in memory: what they hold; how that is carried.
-/
import Derived.Test.YtkcamfcjkjiijaaGreatDoorGTMath
import Derived.Deep.RegionHeld3
import Derived.Test.YtkcamfcjkjiijaaGreatDoorGOdMath
import Derived.Test.YtkcamfcjkjiijaaGreatDoorGEpActs
import Derived.Test.YtkcamfcjkjiijaaGreatDoorGTHold
namespace Go.Proofs.YtkcamfcjkjiijaaGreatDoor
open Go.RowKit
def rowD (x : Dv) : List Bs := [x.1, x.2.1, x.2.2]
abbrev HoldD (w : World) (v : Value) (l : List Dv) : Prop := HoldR 3 w v (l.map rowD)
abbrev bsA (l : Bs) : ByteArray := ⟨l.toArray⟩
abbrev aggX (x : Dv) : Value := aggD (bsA x.1) (bsA x.2.1) (bsA x.2.2)
theorem HoldD.parts {w : World} {v : Value} {l : List Dv} (h : HoldD w v l) : ∃ (a : Option Addr) (c b o : Nat), v = .slice a l.length c ∧ l.length ≤ c ∧ (0 < l.length → a = some ⟨b, o, none⟩ ∧ b < w.heap.size) ∧
    ∀ (j : Nat) x, l[j]? = some x → w.cell? ⟨b, o + j * 3, none⟩ = some (.string (bsA x.1)) ∧ w.cell? ⟨b, o + j * 3 + 1, none⟩ = some (.string (bsA x.2.1)) ∧ w.cell? ⟨b, o + j * 3 + 2, none⟩ = some (.string (bsA x.2.2)) := by
  obtain ⟨a, c, b, o, e, hc, ha, hcell⟩ := h
  rw [List.length_map] at e hc ha
  refine ⟨a, c, b, o, e, hc, ha, fun j x hx => ?_⟩
  have := hcell j (rowD x) (by rw [List.getElem?_map, hx]; rfl)
  exact ⟨this 0 _ (by omega) rfl, this 1 _ (by omega) rfl, this 2 _ (by omega) rfl⟩
def idxD (l : List Dv) (p : Dv → Bool) : Int := match l.findIdx? p with
  | some k => (k : Int)
  | none => -1
theorem idxD_hit {l : List Dv} {p : Dv → Bool} {k : Nat} {x : Dv} (hx : l[k]? = some x) (hp : p x = true) (hb : ∀ (j : Nat) y, j < k → l[j]? = some y → p y = false) : idxD l p = k := by
  unfold idxD
  have : l.findIdx? p = some k := by
    rw [List.findIdx?_eq_some_iff_getElem]
    obtain ⟨hk, e⟩ := List.getElem?_eq_some_iff.1 hx
    exact ⟨hk, by rw [e]; exact hp, fun j hj => by rw [hb j _ hj (List.getElem?_eq_getElem (by omega))]; simp⟩
  rw [this]
theorem idxD_miss {l : List Dv} {p : Dv → Bool} (hb : ∀ (j : Nat) y, l[j]? = some y → p y = false) : idxD l p = -1 := by
  unfold idxD
  have : l.findIdx? p = none := by
    rw [List.findIdx?_eq_none_iff]
    intro y hy
    obtain ⟨j, hj⟩ := List.mem_iff_getElem?.1 hy
    exact hb j y hj
  rw [this]
theorem idxD_cases (l : List Dv) (p : Dv → Bool) : (idxD l p = -1 ∧ ∀ x ∈ l, p x = false) ∨ ∃ (k : Nat) (x : Dv), idxD l p = k ∧ l[k]? = some x ∧ p x = true ∧ l.find? p = some x := by
  unfold idxD
  cases h : l.findIdx? p with
  | none => exact .inl ⟨rfl, List.findIdx?_eq_none_iff.1 h⟩
  | some k =>
    obtain ⟨hk, h1, h2⟩ := List.findIdx?_eq_some_iff_getElem.1 h
    refine .inr ⟨k, l[k], rfl, List.getElem?_eq_getElem hk, h1, ?_⟩
    rw [List.find?_eq_some_iff_getElem]
    exact ⟨h1, k, hk, rfl, fun j hj => by simpa using h2 j hj⟩
/-- What is asked of a predicate: at each of l's, in each later world. -/
def PredD (g : Nat) (lb : Array Value) (l : List Dv) (p : Dv → Bool) (w : World) : Prop :=
  ∀ W x, Below w.heap.size w W → x ∈ l → Calls Tryz.prog g (#[aggX x] ++ lb) W fun e w' => e = .returned (.bool (p x)) ∧ Below W.heap.size W w'
set_option maxRecDepth 100000 in
set_option maxHeartbeats 4000000 in
theorem idx_dv (g : Nat) (lb : Array Value) (eg : ∀ args w, (callFunc g args).run Tryz.prog w = .ok (.enter g args) w) (p : Dv → Bool) (v : Value) (l : List Dv) (hl : l.length ≤ 90000) (w : World) (h : HoldD w v l) (hp : PredD g lb l p w) :
    Calls Tryz.prog 104 #[v, .func (.func g) #[] lb] w fun e w' => e = .returned (.int .i64 (idxD l p)) ∧ Below w.heap.size w w' := by
  obtain ⟨a, c, b, o, rfl, hc, ha, hcell⟩ := h.parts
  have HC := Lib.hid hcell
  obtain ⟨Z, HZ⟩ : ∃ Z, Hid (idxD l p = Z) := ⟨_, rfl⟩
  rw [HZ.out]
  have HP := Lib.hid hp
  obtain ⟨n, hN⟩ : ∃ n, l.length = n := ⟨_, rfl⟩
  rw [hN] at hc ha hl ⊢
  have HN := Lib.hid hN
  clear hcell hp hN h
  go_enter Tryz.func104, Tryz.ntmps104
  go_wp2
  go_loopw [8] (fun i wr => ∃ k : Nat, k ≤ n ∧ i = .int .i64 k ∧ Hid (∀ (j : Nat) y, j < k → l[j]? = some y → p y = false) ∧ Hid (Below w.heap.size w wr)) (fun i _ => n - (intOf i).toNat)
  case atStart => exact ⟨0, by omega, rfl, Lib.hid (fun j y hj => by omega), Lib.hid (Below.refl _ _)⟩
  case round =>
    obtain ⟨k, hk, rfl, H, HB⟩ := hrel
    by_cases hlt : k < n
    · obtain ⟨rfl, hbw⟩ := ha (by omega)
      obtain ⟨x, hx⟩ : ∃ x, l[k]? = some x := ⟨_, List.getElem?_eq_getElem (by rw [HN.out]; exact hlt)⟩
      obtain ⟨c0, c1, c2⟩ := HC.out k x hx
      rw [← HB.out.cell (p := ⟨b, o + k * 3, none⟩) hbw] at c0
      rw [← HB.out.cell (p := ⟨b, o + k * 3 + 1, none⟩) hbw] at c1
      rw [← HB.out.cell (p := ⟨b, o + k * 3 + 2, none⟩) hbw] at c2
      have hcall := HP.out wr x HB.out (List.mem_of_getElem? hx)
      have HX := Lib.hid hx
      clear hx
      cases hq : p x
      · rw [hq] at hcall
        have HK : Hid (∀ (j : Nat) y, j < k + 1 → l[j]? = some y → p y = false) := Lib.hid (fun j y hj hy => by
          by_cases e : j = k
          · subst e
            rw [HX.out] at hy; cases hy; exact hq
          · exact H.out j y (by omega) hy)
        clear hq H
        go_wp2_with (go_at_fn g; refine hcall.mono ?_; rintro e w1 ⟨rfl, hb1⟩; have HB1 := Lib.hid (HB.out.trans (hb1.mono HB.out.size)); clear hb1)
        go_roundw
        case rel => exact ⟨k + 1, by omega, by go_num, HK, HB1⟩
        case measure => simp [intOf]; omega
      · rw [hq] at hcall
        have HF : Hid ((k : Int) = Z) := Lib.hid (by rw [← HZ.out, idxD_hit HX.out hq H.out])
        clear hq H
        go_wp2_with (go_at_fn g; refine hcall.mono ?_; rintro e w1 ⟨rfl, hb1⟩; have HB1 := Lib.hid (HB.out.trans (hb1.mono HB.out.size)); clear hb1)
        go_ret
        exact ⟨reti HF.out, HB1.out⟩
    · obtain rfl : k = n := by omega
      have HF : Hid ((-1 : Int) = Z) := Lib.hid (by rw [← HZ.out, idxD_miss (fun j y hy => H.out j y (by have := (List.getElem?_eq_some_iff.1 hy).1; rw [HN.out] at this; exact this) hy)])
      clear hlt H
      go_wp2
      go_ret
      exact ⟨reti HF.out, HB.out⟩
/-- What a key's predicate needs of the world. -/
abbrev FindS (w : World) (B1 B2 b0 : Nat) (k X Y Z : ByteArray) (W : World) : Prop :=
  W.cell? ⟨b0, 0, none⟩ = some (.string X) ∧ W.cell? ⟨b0, 1, none⟩ = some (.string Y) ∧ W.cell? ⟨b0, 2, none⟩ = some (.string Z) ∧ W.cell? ⟨B1, 0, none⟩ = some (.func (.func 89) #[] #[]) ∧ W.cell? ⟨B2, 0, none⟩ = some (.string k) ∧ Below w.heap.size w W
theorem FindS.on {w : World} {B1 B2 b0 : Nat} {k X Y Z : ByteArray} {W W1 : World} (h : FindS w B1 B2 b0 k X Y Z W) (hb : Below W.heap.size W W1) : FindS w B1 B2 b0 k X Y Z W1 := by
  obtain ⟨x0, x1, x2, h2, h3, h4⟩ := h
  obtain ⟨y0, y1, y2⟩ := (show At3 W b0 X Y Z from ⟨x0, x1, x2⟩).on hb
  exact ⟨y0, y1, y2, (hb.cell (World.block_lt_of_cell? W _ h2)).trans h2, (hb.cell (World.block_lt_of_cell? W _ h3)).trans h3, h4.trans (hb.mono h4.size)⟩
theorem FindS.dr {w : World} {B1 B2 b0 : Nat} {k X Y Z : ByteArray} {W : World} (h : FindS w B1 B2 b0 k X Y Z W) : FindS w B1 B2 b0 k X Y Z W.drew := h.on (Below.refl _ _).drew
def pathIs (k : Bs) (x : Dv) : Bool := decide (x.1 = k)
set_option maxRecDepth 100000 in
set_option maxHeartbeats 4000000 in
/-- keyed.Find's predicate: the key function and the key lie in boxes. -/
theorem findp_any (B1 B2 : Nat) (k : ByteArray) (x : Dv) (W : World) (h1 : W.cell? ⟨B1, 0, none⟩ = some (.func (.func 89) #[] #[])) (h2 : W.cell? ⟨B2, 0, none⟩ = some (.string k)) :
    Calls Tryz.prog 105 #[aggX x, .pointer (some ⟨B1, 0, none⟩), .pointer (some ⟨B2, 0, none⟩)] W fun e w' => e = .returned (.bool (pathIs k.data.toList x)) ∧ Below W.heap.size W w' := by
  have hq := eqT (bsA x.1) k
  rw [bytesOf] at hq
  unfold pathIs
  show Calls _ _ #[.agg #[.string (bsA x.1), .string (bsA x.2.1), .string (bsA x.2.2)], _, _] _ _
  have PA := fun w => pathOf_any (bsA x.1) (bsA x.2.1) (bsA x.2.2) w
  unfold aggD at PA
  generalize decide (x.1 = k.data.toList) = q at *
  generalize bsA x.1 = X at *
  generalize bsA x.2.1 = Y at *
  generalize bsA x.2.2 = Z at *
  have l1 := World.block_lt_of_cell? W _ h1
  have l2 := World.block_lt_of_cell? W _ h2
  have B0 := (Below.refl W.heap.size W).alloc (Nat.le_refl _) (.cells #[.string X, .string Y, .string Z] 100)
  obtain ⟨x0, x1, x2⟩ := box3xD W X Y Z 100
  have HS := Lib.hid (show FindS W B1 B2 W.heap.size k X Y Z _ from ⟨x0, x1, x2, (B0.cell l1).trans h1, (B0.cell l2).trans h2, B0⟩)
  clear x0 x1 x2
  go_enter Tryz.func105, Tryz.ntmps105
  go_wp2
  generalize W.alloc (.cells #[.string X, .string Y, .string Z] 100) = W2 at *
  generalize hb0 : W.heap.size = b0 at *
  have hs := HS.out
  obtain ⟨x0, x1, x2, k1, k2, hB⟩ := HS.out
  clear hb0 B0 h1 h2
  go_region_held3 (fun V => V.cell? ⟨b0, 0, none⟩ = some (.string X) ∧ V.cell? ⟨b0, 1, none⟩ = some (.string Y) ∧ V.cell? ⟨b0, 2, none⟩ = some (.string Z) ∧ V.cell? ⟨B1, 0, none⟩ = some (.func (.func 89) #[] #[]) ∧ V.cell? ⟨B2, 0, none⟩ = some (.string k) ∧ Below W.heap.size W V)
    (first | assumption | exact hs | exact FindS.dr hs | exact FindS.on (by assumption) (by assumption))
    ((go_at_call 89; refine (PA _).mono ?_; rintro e w3 ⟨rfl, hb⟩))
  all_goals
    rename_i hHeld
    have HW3 := Lib.hid hHeld.2.2.2.2.2
    clear hHeld
    go_wp2
    go_ret
    exact ⟨rfl, HW3.out⟩
abbrev pathF : Value := .func (.func 89) #[] #[]
set_option maxRecDepth 100000 in
set_option maxHeartbeats 4000000 in
theorem kfind_any (v : Value) (l : List Dv) (hl : l.length ≤ 90000) (k : ByteArray) (w : World) (h : HoldD w v l) :
    Calls Tryz.prog 88 #[v, pathF, .string k] w fun e w' => e = .returned (.int .i64 (idxD l (pathIs k.data.toList))) ∧ Below w.heap.size w w' := by
  have B2 := ((Below.refl w.heap.size w).alloc (Nat.le_refl _) (.cells #[pathF] 130)).alloc (by simp) (.cells #[.string k] 9)
  have q1 := (Boxed.new w 130 pathF).alloc (.cells #[.string k] 9)
  have q2 := Boxed.new (w.alloc (.cells #[pathF] 130)) 9 (.string k)
  rw [World.size_alloc] at q2
  have I := idx_dv 105 #[.pointer (some ⟨w.heap.size, 0, none⟩), .pointer (some ⟨w.heap.size + 1, 0, none⟩)] (enters_of Tryz.func105 (by kernel_rfl) rfl) (pathIs k.data.toList) v l hl _ (HoldR.on h B2)
    (fun W x hb _ => findp_any _ _ k x W ((hb.cell q1.lt).trans q1.cell) ((hb.cell q2.lt).trans q2.cell))
  have HB2 := Lib.hid B2
  clear B2 q1 q2
  unfold pathF at I ⊢
  generalize idxD l (pathIs k.data.toList) = z at *
  go_enter Tryz.func88, Tryz.ntmps88
  go_wp2_with (go_at_call 104; refine I.mono ?_; rintro e w1 ⟨rfl, hb⟩; have HB := Lib.hid (HB2.out.trans (hb.mono HB2.out.size)); clear hb)
  go_ret
  exact ⟨rfl, HB.out⟩
theorem find9_any (v : Value) (l : List Dv) (hl : l.length ≤ 90000) (k : ByteArray) (w : World) (h : HoldD w v l) :
    Calls Tryz.prog 66 #[v, .string k] w fun e w' => e = .returned (.int .i64 (idxD l (pathIs k.data.toList))) ∧ Below w.heap.size w w' := by
  have I := kfind_any v l hl k w h
  unfold pathF at I
  generalize idxD l (pathIs k.data.toList) = z at *
  go_enter Tryz.func66, Tryz.ntmps66
  go_wp2_with (go_at_call 88; refine I.mono ?_; rintro e w1 ⟨rfl, hb⟩; have HB := Lib.hid hb; clear hb)
  go_ret
  exact ⟨rfl, HB.out⟩
end Go.Proofs.YtkcamfcjkjiijaaGreatDoor
namespace Go.Proofs.YtkcamfcjkjiijaaGreatDoor
open Go.RowKit
/-- A record as it comes in. -/
structure FitU (x : Uv) : Prop where
  nm : x.nm.length ≤ maxLen
  vr : x.vr.length ≤ maxLen
  dn : x.dp.length ≤ maxLen
  dp : ∀ g ∈ x.dp, BigQ g.1 ∧ g.1.length ≤ maxLen
  cl : x.cn.length ≤ maxLen
  cq : BigQ x.cn
  rl : x.rp.length ≤ maxLen
  rp : ∀ s ∈ x.rp, s.length ≤ maxLen
  fl : x.cf.length ≤ maxLen
  cf : ∀ c ∈ x.cf, c.1.length ≤ maxLen ∧ c.2.length ≤ maxLen
  pl : x.pd.length ≤ maxLen
  pd : ∀ s ∈ x.pd, s.length ≤ maxLen
  al : x.aw.length ≤ maxLen
  aw : ∀ s ∈ x.aw, s.length ≤ maxLen
/-- A record that is small. -/
structure FewR (x : Uv) : Prop where
  nm : x.nm.length ≤ 4000
  vr : x.vr.length ≤ 4000
  dn : x.dp.length ≤ 70
  dp : ∀ g ∈ x.dp, g.1.length ≤ 70
  dt : (allE (fsts x.dp)).1.length ≤ 4000
  cl : x.cn.length ≤ 70
  cq : ∀ r ∈ x.cn, r.1.length ≤ 4000 ∧ r.2.2.length ≤ 4000
  rl : x.rp.length ≤ 70
  rp : ∀ s ∈ x.rp, s.length ≤ 4000
  fl : x.cf.length ≤ 70
  cf : ∀ c ∈ x.cf, c.1.length ≤ 4000 ∧ c.2.length ≤ 4000
  pl : x.pd.length ≤ 70
  pd : ∀ s ∈ x.pd, s.length ≤ 4000
  al : x.aw.length ≤ 70
  aw : ∀ s ∈ x.aw, s.length ≤ 4000
def FewU (l : List Uv) : Prop := l.length ≤ 70 ∧ ∀ x ∈ l, FewR x
theorem FewR.small {x : Uv} (h : FewR x) (f : FitU x) : SmallU x :=
  ⟨h.nm, h.vr, h.dn, fun g hg => ⟨(f.dp g hg).1, Nat.le_trans (h.dp g hg) (by decide)⟩, h.cl, f.cq, (Nat.le_trans h.rl (by decide)), h.rp, (Nat.le_trans h.fl (by decide)), h.cf, (Nat.le_trans h.pl (by decide)), h.pd, (Nat.le_trans h.al (by decide)), h.aw⟩
/-- What the law's Few has looked at, up to a place. -/
structure UptoU (x : Uv) (k : Nat) : Prop where
  dp : ∀ (j : Nat) g, j < k → x.dp[j]? = some g → g.1.length ≤ 70
  cq : ∀ (j : Nat) r, j < k → x.cn[j]? = some r → r.1.length ≤ 4000 ∧ r.2.2.length ≤ 4000
  rp : ∀ (j : Nat) s, j < k → x.rp[j]? = some s → s.length ≤ 4000
  cf : ∀ (j : Nat) c, j < k → x.cf[j]? = some c → c.1.length ≤ 4000 ∧ c.2.length ≤ 4000
  pd : ∀ (j : Nat) s, j < k → x.pd[j]? = some s → s.length ≤ 4000
  aw : ∀ (j : Nat) s, j < k → x.aw[j]? = some s → s.length ≤ 4000
theorem UptoU.zero (x : Uv) : UptoU x 0 := ⟨fun j _ h => by omega, fun j _ h => by omega, fun j _ h => by omega, fun j _ h => by omega, fun j _ h => by omega, fun j _ h => by omega⟩
theorem upto_next {α : Type} {l : List α} {P : α → Prop} {k : Nat} (h : ∀ (j : Nat) a, j < k → l[j]? = some a → P a) (hk : ∀ a, l[k]? = some a → P a) : ∀ (j : Nat) a, j < k + 1 → l[j]? = some a → P a := fun j a hj ha => by
  by_cases e : j = k
  · subst e; exact hk a ha
  · exact h j a (by omega) ha
theorem UptoU.next {x : Uv} {k : Nat} (h : UptoU x k) (h1 : ∀ g, x.dp[k]? = some g → g.1.length ≤ 70) (h2 : ∀ r, x.cn[k]? = some r → r.1.length ≤ 4000 ∧ r.2.2.length ≤ 4000) (h3 : ∀ s, x.rp[k]? = some s → s.length ≤ 4000) (h4 : ∀ c, x.cf[k]? = some c → c.1.length ≤ 4000 ∧ c.2.length ≤ 4000) (h5 : ∀ s, x.pd[k]? = some s → s.length ≤ 4000) (h6 : ∀ s, x.aw[k]? = some s → s.length ≤ 4000) : UptoU x (k + 1) :=
  ⟨upto_next h.dp h1, upto_next h.cq h2, upto_next h.rp h3, upto_next h.cf h4, upto_next h.pd h5, upto_next h.aw h6⟩
theorem upto_all {α : Type} {l : List α} {P : α → Prop} {k : Nat} (h : ∀ (j : Nat) a, j < k → l[j]? = some a → P a) (hk : l.length ≤ k) : ∀ a ∈ l, P a := fun a ha => by
  obtain ⟨i, hi⟩ := List.mem_iff_getElem?.1 ha
  exact h i a (by have := (List.getElem?_eq_some_iff.1 hi).1; omega) hi
theorem UptoU.few {x : Uv} (h : UptoU x 70) (h0 : x.nm.length ≤ 4000) (h1 : x.vr.length ≤ 4000) (hd : (allE (fsts x.dp)).1.length ≤ 4000) (h3 : x.dp.length ≤ 70) (h4 : x.cn.length ≤ 70) (h5 : x.rp.length ≤ 70) (h6 : x.cf.length ≤ 70) (h7 : x.pd.length ≤ 70) (h8 : x.aw.length ≤ 70) : FewR x :=
  ⟨h0, h1, h3, upto_all h.dp h3, hd, h4, upto_all h.cq h4, h5, upto_all h.rp h5, h6, upto_all h.cf h6, h7, upto_all h.pd h7, h8, upto_all h.aw h8⟩
end Go.Proofs.YtkcamfcjkjiijaaGreatDoor
namespace Go.Proofs.YtkcamfcjkjiijaaGreatDoor
open Go.RowKit Go.Shelf
/-- A package's file. -/
structure Fv where
  pt : Bs
  kd : Int
  mm : Int
  uu : Int
  gg : Int
  tx : Bs
  cf : Bool
instance : Inhabited Fv := ⟨⟨[], 0, 0, 0, 0, [], false⟩⟩
abbrev cellsFv (x : Fv) : Rw := [.string (⟨x.pt.toArray⟩ : ByteArray), .int .i64 x.kd, .int .i64 x.mm, .int .i64 x.uu, .int .i64 x.gg, .string (⟨x.tx.toArray⟩ : ByteArray), .bool x.cf]
abbrev HoldFv (w : World) (v : Value) (l : List Fv) : Prop := HoldV 7 w v (l.map cellsFv)
/-- A package, with the values of its lists. -/
structure Pv where
  nm : Bs
  vr : Bs
  dp : List Gv
  cn : List Rl
  rp : List Bs
  fl : List Fv
  it : List It
  s0 : List Kv
  s1 : List Kv
  s2 : List Kv
  s3 : List Kv
  dv : Value
  cv : Value
  rv : Value
  fv : Value
  iv : Value
  v0 : Value
  v1 : Value
  v2 : Value
  v3 : Value
abbrev cellsP (x : Pv) : Rw := [.string (⟨x.nm.toArray⟩ : ByteArray), .string (⟨x.vr.toArray⟩ : ByteArray), x.dv, x.cv, x.rv, x.fv, x.iv, x.v0, x.v1, x.v2, x.v3]
abbrev agP (x : Pv) : Value := .agg #[.string (⟨x.nm.toArray⟩ : ByteArray), .string (⟨x.vr.toArray⟩ : ByteArray), x.dv, x.cv, x.rv, x.fv, x.iv, x.v0, x.v1, x.v2, x.v3]
structure InP (w : World) (x : Pv) : Prop where
  dp : HoldGs w x.dv x.dp
  cn : HoldQ w x.cv x.cn
  rp : HoldT w x.rv x.rp
  fl : HoldFv w x.fv x.fl
  it : HoldI w x.iv x.it
  s0 : HoldAc w x.v0 x.s0
  s1 : HoldAc w x.v1 x.s1
  s2 : HoldAc w x.v2 x.s2
  s3 : HoldAc w x.v3 x.s3
theorem InP.on {w w' : World} {x : Pv} (h : InP w x) (hb : Below w.heap.size w w') : InP w' x := ⟨h.dp.on hb, HoldV.on h.cn hb, h.rp.on hb, HoldV.on h.fl hb, HoldV.on h.it hb, h.s0.on hb, h.s1.on hb, h.s2.on hb, h.s3.on hb⟩
structure FitP (x : Pv) : Prop where
  nm : x.nm.length ≤ maxLen
  vr : x.vr.length ≤ maxLen
  dn : x.dp.length ≤ maxLen
  dp : ∀ g ∈ x.dp, BigQ g.1 ∧ g.1.length ≤ maxLen
  cl : x.cn.length ≤ maxLen
  cq : BigQ x.cn
  rl : x.rp.length ≤ maxLen
  rp : ∀ s ∈ x.rp, s.length ≤ maxLen
  fn : x.fl.length ≤ maxLen
  fl : ∀ f ∈ x.fl, f.pt.length ≤ maxLen ∧ f.tx.length ≤ maxLen
  il : x.it.length ≤ maxLen
  it : ∀ i ∈ x.it, i.1.length ≤ maxLen ∧ i.2.1.length ≤ maxLen
  n0 : x.s0.length ≤ maxLen
  s0 : ∀ k ∈ x.s0, FitK k
  n1 : x.s1.length ≤ maxLen
  s1 : ∀ k ∈ x.s1, FitK k
  n2 : x.s2.length ≤ maxLen
  s2 : ∀ k ∈ x.s2, FitK k
  n3 : x.s3.length ≤ maxLen
  s3 : ∀ k ∈ x.s3, FitK k
/-- A state: its records, diversions and lists, and the values of all its slices. -/
structure Stv where
  rs : List Uv
  ds : List Dv
  ls : List Lp
  rv : Value
  dv : Value
  ov : Value
  av : Value
  iv : Value
  fv : Value
  lv : Value
abbrev agS (x : Stv) : Value := .agg #[x.rv, x.dv, x.ov, x.av, x.iv, x.fv, x.lv]
structure InSt (w : World) (x : Stv) : Prop where
  rs : HoldU w x.rv x.rs
  ds : HoldD w x.dv x.ds
  ls : HoldL w x.lv x.ls
  ov : ∃ a n c, x.ov = .slice a n c
  av : ∃ a n c, x.av = .slice a n c
  iv : ∃ a n c, x.iv = .slice a n c
  fv : ∃ a n c, x.fv = .slice a n c
structure FitSt (x : Stv) : Prop where
  rn : x.rs.length ≤ maxLen
  rs : ∀ r ∈ x.rs, FitU r
  dn : x.ds.length ≤ maxLen
  ds : ∀ d ∈ x.ds, d.1.length ≤ maxLen ∧ d.2.1.length ≤ maxLen ∧ d.2.2.length ≤ maxLen
  ln : x.ls.length ≤ maxLen
  ls : ∀ p ∈ x.ls, p.1.1.length ≤ maxLen ∧ p.1.2.length ≤ maxLen ∧ ∀ q ∈ p.1.2, q.length ≤ maxLen
end Go.Proofs.YtkcamfcjkjiijaaGreatDoor
