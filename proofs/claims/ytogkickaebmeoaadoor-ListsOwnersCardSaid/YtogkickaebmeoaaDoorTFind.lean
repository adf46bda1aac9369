/-
  slices.IndexFunc over lists with whatever predicate; the program's Find, the reference's: what each returns; nothing old turns.
-/
import Derived.Test.YtogkickaebmeoaaDoorTRefParse
import Derived.Test.YtogkickaebmeoaaDoorTCheckL
import Derived.Deep.RegionHeld3
namespace Go.Proofs.YtogkickaebmeoaaDoor
open Go.RowKit
def idxG (l : List Lp) (p : Lp → Bool) : Int := match l.findIdx? p with
  | some k => (k : Int)
  | none => -1
theorem idxG_hit {l : List Lp} {p : Lp → Bool} {k : Nat} {x : Lp} (hx : l[k]? = some x) (hp : p x = true) (hb : ∀ (j : Nat) y, j < k → l[j]? = some y → p y = false) : idxG l p = k := by
  unfold idxG
  have : l.findIdx? p = some k := by
    rw [List.findIdx?_eq_some_iff_getElem]
    obtain ⟨hk, e⟩ := List.getElem?_eq_some_iff.1 hx
    exact ⟨hk, by rw [e]; exact hp, fun j hj => by rw [hb j _ hj (List.getElem?_eq_getElem (by omega))]; simp⟩
  rw [this]
theorem idxG_miss {l : List Lp} {p : Lp → Bool} (hb : ∀ (j : Nat) y, l[j]? = some y → p y = false) : idxG l p = -1 := by
  unfold idxG
  have : l.findIdx? p = none := by
    rw [List.findIdx?_eq_none_iff]
    intro y hy
    obtain ⟨j, hj⟩ := List.mem_iff_getElem?.1 hy
    exact hb j y hj
  rw [this]
def nameIs (k : Bs) (x : Lp) : Bool := decide (x.1.1 = k)
def PredL (g : Nat) (lb : Array Value) (l : List Lp) (p : Lp → Bool) (w : World) : Prop :=
  ∀ W x, Below w.heap.size w W → x ∈ l → Calls Tryd.prog g (#[aggT x] ++ lb) W fun e w' => e = .returned (.bool (p x)) ∧ Below W.heap.size W w'
set_option maxRecDepth 100000 in
set_option maxHeartbeats 4000000 in
theorem idx_ls (g : Nat) (lb : Array Value) (eg : ∀ args w, (callFunc g args).run Tryd.prog w = .ok (.enter g args) w) (p : Lp → Bool) (v : Value) (l : List Lp) (hl : l.length ≤ 90000) (w : World) (h : HoldL w v l) (hp : PredL g lb l p w) :
    Calls Tryd.prog 81 #[v, .func (.func g) #[] lb] w fun e w' => e = .returned (.int .i64 (idxG l p)) ∧ Below w.heap.size w w' := by
  obtain ⟨hin, a, c, b, o, rfl, hc, ha, hcell⟩ := h
  have HC := Lib.hid hcell
  have HI := Lib.hid hin
  obtain ⟨Z, HZ⟩ : ∃ Z, Hid (idxG l p = Z) := ⟨_, rfl⟩
  rw [HZ.out]
  have HP := Lib.hid hp
  obtain ⟨n, hN⟩ : ∃ n, l.length = n := ⟨_, rfl⟩
  rw [hN] at hc ha hl ⊢
  have HN := Lib.hid hN
  clear hcell hp hN hin
  go_enter Tryd.func81, Tryd.ntmps81
  go_wp2
  go_loopw [8] (fun i wr => ∃ k : Nat, k ≤ n ∧ i = .int .i64 k ∧ Hid (∀ (j : Nat) y, j < k → l[j]? = some y → p y = false) ∧ Hid (Below w.heap.size w wr)) (fun i _ => n - (intOf i).toNat)
  case atStart => exact ⟨0, by omega, rfl, Lib.hid (fun j y hj => by omega), Lib.hid (Below.refl _ _)⟩
  case round =>
    obtain ⟨k, hk, rfl, H, HB⟩ := hrel
    by_cases hlt : k < n
    · obtain ⟨rfl, hbw⟩ := ha (by omega)
      obtain ⟨x, hx⟩ : ∃ x, l[k]? = some x := ⟨_, List.getElem?_eq_getElem (by rw [HN.out]; exact hlt)⟩
      obtain ⟨c0, c1⟩ := HC.out k x hx
      rw [← HB.out.cell (p := ⟨b, o + k * 2, none⟩) hbw] at c0
      rw [← HB.out.cell (p := ⟨b, o + k * 2 + 1, none⟩) hbw] at c1
      have hcall := HP.out wr x HB.out (List.mem_of_getElem? hx)
      obtain ⟨ua, un, uc, hu⟩ := HoldT.form (HI.out x (List.mem_of_getElem? hx))
      unfold aggT at hcall
      rw [hu] at hcall c1
      have HX := Lib.hid hx
      clear hx hu
      cases hq : p x
      · rw [hq] at hcall
        have HK : Hid (∀ (j : Nat) y, j < k + 1 → l[j]? = some y → p y = false) := Lib.hid (fun j y hj hy => by
          by_cases e : j = k
          · subst e
            rw [HX.out] at hy; cases hy
            exact hq
          · exact H.out j y (by omega) hy)
        clear hq H
        go_wp2_with (go_at_fn g; refine hcall.mono ?_; rintro e w1 ⟨rfl, hb1⟩; have HB1 := Lib.hid (HB.out.trans (hb1.mono HB.out.size)); clear hb1)
        go_roundw
        case rel => exact ⟨k + 1, by omega, by go_num, HK, HB1⟩
        case measure => simp [intOf]; omega
      · rw [hq] at hcall
        have HF : Hid ((k : Int) = Z) := Lib.hid (by rw [← HZ.out, idxG_hit HX.out hq H.out])
        clear hq H
        go_wp2_with (go_at_fn g; refine hcall.mono ?_; rintro e w1 ⟨rfl, hb1⟩; have HB1 := Lib.hid (HB.out.trans (hb1.mono HB.out.size)); clear hb1)
        go_ret
        exact ⟨reti HF.out, HB1.out⟩
    · obtain rfl : k = n := by omega
      have HF : Hid ((-1 : Int) = Z) := Lib.hid (by rw [← HZ.out, idxG_miss (fun j y hy => H.out j y (by have := (List.getElem?_eq_some_iff.1 hy).1; rw [HN.out] at this; exact this) hy)])
      clear hlt H
      go_wp2
      go_ret
      exact ⟨reti HF.out, HB.out⟩
abbrev FindT (w : World) (B1 B2 b0 : Nat) (k : ByteArray) (x y : Value) (W : World) : Prop :=
  W.cell? ⟨b0, 0, none⟩ = some x ∧ W.cell? ⟨b0, 1, none⟩ = some y ∧ W.cell? ⟨B1, 0, none⟩ = some (.func (.func 52) #[] #[]) ∧ W.cell? ⟨B2, 0, none⟩ = some (.string k) ∧ Below w.heap.size w W
theorem FindT.on {w : World} {B1 B2 b0 : Nat} {k : ByteArray} {x y : Value} {W W1 : World} (h : FindT w B1 B2 b0 k x y W) (hb : Below W.heap.size W W1) : FindT w B1 B2 b0 k x y W1 := by
  obtain ⟨x0, x1, h2, h3, h4⟩ := h
  exact ⟨(hb.cell (World.block_lt_of_cell? W _ x0)).trans x0, (hb.cell (World.block_lt_of_cell? W _ x1)).trans x1, (hb.cell (World.block_lt_of_cell? W _ h2)).trans h2, (hb.cell (World.block_lt_of_cell? W _ h3)).trans h3, h4.trans (hb.mono h4.size)⟩
theorem FindT.dr {w : World} {B1 B2 b0 : Nat} {k : ByteArray} {x y : Value} {W : World} (h : FindT w B1 B2 b0 k x y W) : FindT w B1 B2 b0 k x y W.drew := h.on (Below.refl _ _).drew
set_option maxRecDepth 100000 in
set_option maxHeartbeats 4000000 in
theorem findpL_any (B1 B2 : Nat) (k : ByteArray) (x : Lp) (ua : Option Addr) (un uc : Nat) (hu : x.2 = .slice ua un uc) (W : World) (h1 : W.cell? ⟨B1, 0, none⟩ = some (.func (.func 52) #[] #[])) (h2 : W.cell? ⟨B2, 0, none⟩ = some (.string k)) :
    Calls Tryd.prog 84 #[aggT x, .pointer (some ⟨B1, 0, none⟩), .pointer (some ⟨B2, 0, none⟩)] W fun e w' => e = .returned (.bool (nameIs k.data.toList x)) ∧ Below W.heap.size W w' := by
  have hq := eqT (bsT x.1.1) k
  rw [bytesOf] at hq
  unfold nameIs aggT
  rw [hu]
  have PA := fun w => nameOf_any (bsT x.1.1) (.slice ua un uc) w
  generalize decide (x.1.1 = k.data.toList) = q at *
  generalize bsT x.1.1 = X at *
  clear hu
  have l1 := World.block_lt_of_cell? W _ h1
  have l2 := World.block_lt_of_cell? W _ h2
  have B0 := (Below.refl W.heap.size W).alloc (Nat.le_refl _) (.cells #[.string X, .slice ua un uc] 24)
  obtain ⟨x0, x1⟩ := box2 W (.string X) (.slice ua un uc) 24
  have HS := Lib.hid (show FindT W B1 B2 W.heap.size k (.string X) (.slice ua un uc) _ from ⟨x0, x1, (B0.cell l1).trans h1, (B0.cell l2).trans h2, B0⟩)
  clear x0 x1
  go_enter Tryd.func84, Tryd.ntmps84
  go_wp2
  generalize W.alloc (.cells #[.string X, .slice ua un uc] 24) = W2 at *
  generalize hb0 : W.heap.size = b0 at *
  have hs := HS.out
  obtain ⟨x0, x1, k1, k2, hB⟩ := HS.out
  clear hb0 B0 h1 h2
  go_region_held3 (fun V => V.cell? ⟨b0, 0, none⟩ = some (.string X) ∧ V.cell? ⟨b0, 1, none⟩ = some (.slice ua un uc) ∧ V.cell? ⟨B1, 0, none⟩ = some (.func (.func 52) #[] #[]) ∧ V.cell? ⟨B2, 0, none⟩ = some (.string k) ∧ Below W.heap.size W V)
    (first | assumption | exact hs | exact FindT.dr hs | exact FindT.on (by assumption) (by assumption))
    ((go_at_call 52; refine (PA _).mono ?_; rintro e w3 ⟨rfl, hb⟩))
  all_goals
    rename_i hHeld
    have HW3 := Lib.hid hHeld.2.2.2.2
    clear hHeld
    go_wp2
    go_ret
    exact ⟨rfl, HW3.out⟩
set_option maxRecDepth 100000 in
set_option maxHeartbeats 4000000 in
theorem kfindL_any (v : Value) (l : List Lp) (hl : l.length ≤ 90000) (k : ByteArray) (w : World) (h : HoldL w v l) :
    Calls Tryd.prog 57 #[v, nmF, .string k] w fun e w' => e = .returned (.int .i64 (idxG l (nameIs k.data.toList))) ∧ Below w.heap.size w w' := by
  have B2 := ((Below.refl w.heap.size w).alloc (Nat.le_refl _) (.cells #[nmF] 76)).alloc (by simp) (.cells #[.string k] 9)
  have q1 := (Boxed.new w 76 nmF).alloc (.cells #[.string k] 9)
  have q2 := Boxed.new (w.alloc (.cells #[nmF] 76)) 9 (.string k)
  rw [World.size_alloc] at q2
  have I := idx_ls 84 #[.pointer (some ⟨w.heap.size, 0, none⟩), .pointer (some ⟨w.heap.size + 1, 0, none⟩)] (enters_of Tryd.func84 (by kernel_rfl) rfl) (nameIs k.data.toList) v l hl _ (h.on B2)
    (fun W x hb hx => by
      obtain ⟨ua, un, uc, hu⟩ := HoldT.form (h.1 x hx)
      exact findpL_any _ _ k x ua un uc hu W ((hb.cell q1.lt).trans q1.cell) ((hb.cell q2.lt).trans q2.cell))
  have HB2 := Lib.hid B2
  clear B2 q1 q2
  unfold nmF at I ⊢
  generalize idxG l (nameIs k.data.toList) = z at *
  go_enter Tryd.func57, Tryd.ntmps57
  go_wp2_with (go_at_call 81; refine I.mono ?_; rintro e w1 ⟨rfl, hb⟩; have HB := Lib.hid (HB2.out.trans (hb.mono HB2.out.size)); clear hb)
  go_ret
  exact ⟨rfl, HB.out⟩
theorem find13_any (v : Value) (l : List Lp) (hl : l.length ≤ 90000) (k : ByteArray) (w : World) (h : HoldL w v l) :
    Calls Tryd.prog 23 #[v, .string k] w fun e w' => e = .returned (.int .i64 (idxG l (nameIs k.data.toList))) ∧ Below w.heap.size w w' := by
  have I := kfindL_any v l hl k w h
  unfold nmF at I
  generalize idxG l (nameIs k.data.toList) = z at *
  go_enter Tryd.func23, Tryd.ntmps23
  go_wp2_with (go_at_call 57; refine I.mono ?_; rintro e w1 ⟨rfl, hb⟩; have HB := Lib.hid hb; clear hb)
  go_ret
  exact ⟨rfl, HB.out⟩
set_option maxRecDepth 100000 in
set_option maxHeartbeats 4000000 in
theorem find13_ref (v : Value) (l : List Lp) (hl : l.length ≤ 90000) (p : ByteArray) (w : World) (h : HoldL w v l) : Calls Tryd.prog 24 #[v, .string p] w fun e w' => e = .returned (.int .i64 (idxG l (nameIs p.data.toList))) ∧ w = w' := by
  obtain ⟨-, a, c, b, o, rfl, hc, ha, hcell⟩ := h
  have HC := Lib.hid hcell
  obtain ⟨Z, HZ⟩ : ∃ Z, Hid (idxG l (nameIs p.data.toList) = Z) := ⟨_, rfl⟩
  rw [HZ.out]
  obtain ⟨n, hN⟩ : ∃ n, l.length = n := ⟨_, rfl⟩
  rw [hN] at hc ha hl ⊢
  have HN := Lib.hid hN
  clear hcell hN
  go_enter Tryd.func24, Tryd.ntmps24
  go_wp2
  go_loop [5] (fun i => ∃ k : Nat, k ≤ n ∧ i = .int .i64 k ∧ Hid (∀ (j : Nat) y, j < k → l[j]? = some y → nameIs p.data.toList y = false)) (fun i => n - (intOf i).toNat)
  case atStart => exact ⟨0, by omega, rfl, Lib.hid (fun j y hj => by omega)⟩
  case round =>
    obtain ⟨k, hk, rfl, H⟩ := hrel
    by_cases hlt : k < n
    · obtain ⟨rfl, hbw⟩ := ha (by omega)
      obtain ⟨x, hx⟩ : ∃ x, l[k]? = some x := ⟨_, List.getElem?_eq_getElem (by rw [HN.out]; exact hlt)⟩
      obtain ⟨c0, -⟩ := HC.out k x hx
      have hq := eqT (bsT x.1.1) p
      rw [bytesOf] at hq
      by_cases he : x.1.1 = p.data.toList
      · rw [decide_eq_true he] at hq
        have HF : Hid ((k : Int) = Z) := Lib.hid (by rw [← HZ.out, idxG_hit hx (by unfold nameIs; exact decide_eq_true he) H.out])
        clear he hx H HC
        generalize bsT x.1.1 = X at *
        go_wp2
        go_ret
        exact ⟨reti HF.out, rfl⟩
      · rw [decide_eq_false he] at hq
        have HK : Hid (∀ (j : Nat) y, j < k + 1 → l[j]? = some y → nameIs p.data.toList y = false) := Lib.hid (fun j y hj hy => by
          by_cases e : j = k
          · subst e; rw [hx] at hy; cases hy; unfold nameIs; exact decide_eq_false he
          · exact H.out j y (by omega) hy)
        clear he hx H HC
        generalize bsT x.1.1 = X at *
        go_wp2
        go_round
        case rel => exact ⟨k + 1, by omega, by go_num, HK⟩
        case measure => simp [intOf]; omega
    · obtain rfl : k = n := by omega
      have HF : Hid ((-1 : Int) = Z) := Lib.hid (by rw [← HZ.out, idxG_miss (fun j y hy => H.out j y (by have := (List.getElem?_eq_some_iff.1 hy).1; rw [HN.out] at this; exact this) hy)])
      clear hlt H HC
      go_wp2
      go_ret
      exact ⟨reti HF.out, rfl⟩
end Go.Proofs.YtogkickaebmeoaaDoor
