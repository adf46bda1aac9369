import Derived.Test.YtkbkaeefdhkgdaaGreatDoorPBRefR
import Derived.Test.YtkbkaeefdhkgdaaGreatDoorPZHold
import Derived.RangeFuncBox
import Derived.Test.YtkbkaeefdhkgdaaGreatDoorPPCleanRef
set_option maxRecDepth 100000
set_option maxHeartbeats 32000000
namespace Go.Proofs.YtkbkaeefdhkgdaaGreatDoor
section
open Go.RowKit
abbrev bsT (l : Bs) : ByteArray := ⟨l.toArray⟩
abbrev cellsQ (x : Rl) : Rw := [.string (bsT x.1), .string (bsT x.2.1), .string (bsT x.2.2)]
abbrev aggQ (x : Rl) : Value := .agg #[.string (bsT x.1), .string (bsT x.2.1), .string (bsT x.2.2)]
abbrev HoldQ (w : World) (v : Value) (l : List (Rl)) : Prop := HoldV 3 w v (l.map cellsQ)
theorem HoldQ.parts {w : World} {v : Value} {l : List (Rl)} (h : HoldQ w v l) : ∃ (a : Option Addr) (c b o : Nat), v = .slice a l.length c ∧ l.length ≤ c ∧ (0 < l.length → a = some ⟨b, o, none⟩ ∧ b < w.heap.size) ∧
  ∀ (j : Nat) x, l[j]? = some x → w.cell? ⟨b, o + j * 3, none⟩ = some (.string (bsT x.1)) ∧ w.cell? ⟨b, o + j * 3 + 1, none⟩ = some (.string (bsT x.2.1)) ∧ w.cell? ⟨b, o + j * 3 + 2, none⟩ = some (.string (bsT x.2.2)) := by
 obtain ⟨a, c, b, o, e, hc, ha, hcell⟩ := h
 rw [List.length_map] at e hc ha
 refine ⟨a, c, b, o, e, hc, ha, fun j x hx => ?_⟩
 have := hcell j (cellsQ x) (by rw [List.getElem?_map, hx]; rfl)
 exact ⟨this 0 _ (by omega) rfl, this 1 _ (by omega) rfl, this 2 _ (by omega) rfl⟩
abbrev OwnQ (w : World) (base : Nat) (v : Value) (l : List (Rl)) : Prop := OwnV 46 3 w base v (l.map cellsQ)
theorem cellsQ_len (l : List (Rl)) : ∀ r ∈ l.map cellsQ, r.length = 3 := fun r hr => by obtain ⟨x, _, rfl⟩ := List.mem_map.1 hr; rfl
theorem OwnQ.app {w' : World} {base : Nat} {v' : Value} {l : List (Rl)} {x : Rl} {c0 : ByteArray} {c1 : ByteArray} {c2 : ByteArray} (h0 : c0.data.toList = x.1) (h1 : c1.data.toList = x.2.1) (h2 : c2.data.toList = x.2.2) (h : w'.ownsRow base 46 3 v' (l.length + 1) ((l.map cellsQ).flatten ++ [.string c0, .string c1, .string c2])) : OwnQ w' base v' (l ++ [x]) := by
 have := OwnV.app (T := 46) (k := 3) (rows := l.map cellsQ) (r := cellsQ x) (cellsQ_len l) rfl (by rw [List.length_map]; rw [strOf h0, strOf h1, strOf h2] at h; exact h)
 unfold OwnQ; rw [List.map_append]; exact this
theorem infoQ : (Tryz.prog.info? 46).map (fun i => (i.zero, i.size, i.bytes)) = some (some (.agg #[.string ⟨#[]⟩, .string ⟨#[]⟩, .string ⟨#[]⟩]), 3, 48) := by kernel_rfl
def PredQ (l : List Rl) (g : Nat) (lb : Array Value) (p : Rl → Bool) (w : World) : Prop :=
 ∀ W x, x ∈ l → Below w.heap.size w W → Calls Tryz.prog g (#[aggQ x] ++ lb) W fun e w' => e = .returned (.bool (p x)) ∧ Below W.heap.size W w'
def idxQ (l : List (Rl)) (p : Rl → Bool) : Int := match l.findIdx? p with
 | some k => (k : Int)
 | none => -1
theorem idxQ_hit {l : List (Rl)} {p : Rl → Bool} {k : Nat} {x : Rl} (hx : l[k]? = some x) (hp : p x = true) (hb : ∀ (j : Nat) y, j < k → l[j]? = some y → p y = false) : l.findIdx? p = some k := by
 rw [List.findIdx?_eq_some_iff_getElem]
 obtain ⟨hk, e⟩ := List.getElem?_eq_some_iff.1 hx
 exact ⟨hk, by rw [e]; exact hp, fun j hj => by rw [hb j _ hj (List.getElem?_eq_getElem (by omega))]; simp⟩
theorem idxQ_miss {l : List (Rl)} {p : Rl → Bool} (hb : ∀ (j : Nat) y, l[j]? = some y → p y = false) : l.findIdx? p = none := by
 rw [List.findIdx?_eq_none_iff]
 intro y hy
 obtain ⟨j, hj⟩ := List.mem_iff_getElem?.1 hy
 exact hb j y hj
theorem idxQ_any (g : Nat) (lb : Array Value) (eg : ∀ args w, (callFunc g args).run Tryz.prog w = .ok (.enter g args) w) (p : Rl → Bool) (v : Value) (l : List (Rl)) (hl : l.length ≤ 90000) (w : World) (h : HoldQ w v l) (hp : PredQ l g lb p w) :
  Calls Tryz.prog 155 #[v, .func (.func g) #[] lb] w fun e w' => e = .returned (.int .i64 (idxQ l p)) ∧ Below w.heap.size w w' := by
 obtain ⟨a, c, b, o, rfl, hc, ha, hcell⟩ := h.parts
 have HC := Lib.hid hcell
 obtain ⟨Z, HZ⟩ : ∃ Z, Hid (idxQ l p = Z) := ⟨_, rfl⟩
 rw [HZ.out]
 have HP := Lib.hid hp
 obtain ⟨n, hN⟩ : ∃ n, l.length = n := ⟨_, rfl⟩
 rw [hN] at hc ha hl ⊢
 have HN := Lib.hid hN
 clear hcell hp hN h
 go_enter Tryz.func155, Tryz.ntmps155
 go_wp2
 go_loopw [8] (fun i wr => ∃ k : Nat, k ≤ n ∧ i = .int .i64 k ∧ Hid (∀ (j : Nat) y, j < k → l[j]? = some y → p y = false) ∧ Hid (Below w.heap.size w wr)) (fun i _ => n - (intOf i).toNat)
 case atStart => exact ⟨0, by omega, rfl, Lib.hid (fun j y hj => by omega), Lib.hid (Below.refl _ _)⟩
 case round =>
  obtain ⟨k, hk, rfl, H, HB⟩ := hrel
  by_cases hlt : k < n
  ·
   obtain ⟨rfl, hbw⟩ := ha (by omega)
   obtain ⟨⟨a0, a1, a2⟩, hx⟩ : ∃ x, l[k]? = some x := ⟨_, List.getElem?_eq_getElem (by rw [HN.out]; exact hlt)⟩
   obtain ⟨c0, c1, c2⟩ := HC.out k (a0, a1, a2) hx
   dsimp only at c0 c1 c2
   rw [← HB.out.cell (p := ⟨b, o + k * 3, none⟩) hbw] at c0
   rw [← HB.out.cell (p := ⟨b, o + k * 3 + 1, none⟩) hbw] at c1
   rw [← HB.out.cell (p := ⟨b, o + k * 3 + 2, none⟩) hbw] at c2
   have hcall := HP.out wr (a0, a1, a2) (List.mem_of_getElem? hx) HB.out
   unfold aggQ at hcall
   dsimp only at hcall
   have HX := Lib.hid hx
   clear hx
   cases hq : p (a0, a1, a2)
   ·
    rw [hq] at hcall
    have HK : Hid (∀ (j : Nat) y, j < k + 1 → l[j]? = some y → p y = false) := Lib.hid (fun j y hj hy => by
     by_cases e : j = k
     ·
      subst e
      rw [HX.out] at hy; cases hy
      exact hq
     ·
      exact H.out j y (by omega) hy)
    clear hq H
    generalize bsT a0 = X0 at *
    generalize bsT a1 = X1 at *
    generalize bsT a2 = X2 at *
    go_wp2_with (go_at_fn g; refine hcall.mono ?_; rintro e w1 ⟨rfl, hb1⟩; have HB1 := Lib.hid (HB.out.trans (hb1.mono HB.out.size)); clear hb1)
    go_roundw
    case rel => exact ⟨k + 1, by omega, by go_num, HK, HB1⟩
    case measure => simp [intOf]; omega
   ·
    rw [hq] at hcall
    have HF : Hid ((k : Int) = Z) := Lib.hid (by rw [← HZ.out, idxQ, idxQ_hit HX.out hq H.out])
    clear hq H
    generalize bsT a0 = X0 at *
    generalize bsT a1 = X1 at *
    generalize bsT a2 = X2 at *
    go_wp2_with (go_at_fn g; refine hcall.mono ?_; rintro e w1 ⟨rfl, hb1⟩; have HB1 := Lib.hid (HB.out.trans (hb1.mono HB.out.size)); clear hb1)
    go_ret
    exact ⟨reti HF.out, HB1.out⟩
  ·
   obtain rfl : k = n := by omega
   have HF : Hid ((-1 : Int) = Z) := Lib.hid (by rw [← HZ.out, idxQ, idxQ_miss (fun j y hy => H.out j y (by have := (List.getElem?_eq_some_iff.1 hy).1; rw [HN.out] at this; exact this) hy)])
   clear hlt H
   go_wp2
   go_ret
   exact ⟨reti HF.out, HB.out⟩
theorem idxQ_neg {l : List Rl} {p : Rl → Bool} : (0 ≤ idxQ l p) = (l.any p = true) := by
 unfold idxQ
 cases h : l.findIdx? p with
 | none =>
  rw [List.findIdx?_eq_none_iff] at h
  have : l.any p = false := by rw [List.any_eq_false]; intro x hx; rw [h x hx]; simp
  rw [this]; simp
 | some k =>
  obtain ⟨hk, hp, _⟩ := List.findIdx?_eq_some_iff_getElem.1 h
  have : l.any p = true := List.any_eq_true.2 ⟨_, List.getElem_mem hk, hp⟩
  rw [this]; simp
theorem contQ_any (g : Nat) (lb : Array Value) (eg : ∀ args w, (callFunc g args).run Tryz.prog w = .ok (.enter g args) w) (p : Rl → Bool) (v : Value) (l : List Rl) (hl : l.length ≤ 90000) (w : World) (h : HoldQ w v l) (hp : PredQ l g lb p w) :
  Calls Tryz.prog 125 #[v, .func (.func g) #[] lb] w fun e w' => e = .returned (.bool (l.any p)) ∧ Below w.heap.size w w' := by
 have C := idxQ_any g lb eg p v l hl w h hp
 obtain ⟨a, c, b, o, rfl, -⟩ := h.parts
 have HN := Lib.hid (idxQ_neg (l := l) (p := p))
 generalize idxQ l p = z at *
 generalize hq : l.any p = q at *
 have hz : decide (0 ≤ z) = q := by
  have := HN.out
  cases q
  ·
   rw [decide_eq_false_iff_not, this]; simp
  ·
   rw [decide_eq_true_iff, this]
 generalize l.length = n at *
 clear hp h hl hq
 cases q
 all_goals
  go_enter Tryz.func125, Tryz.ntmps125
  go_wp2_with (go_at_call 155; (with_reducible refine C.mono ?_); rintro e w1 ⟨rfl, hb⟩; have HB := Lib.hid hb; clear hb)
  go_ret
  exact ⟨rfl, HB.out⟩
end
section
open Go.RowKit
abbrev Gv := List Rl × Value
abbrev HoldGs (w : World) (v : Value) (L : List Gv) : Prop := HoldV 1 w v (L.map fun x => [x.2]) ∧ ∀ x ∈ L, HoldQ w x.2 x.1
theorem HoldGs.on {w w' : World} {v : Value} {L : List Gv} (h : HoldGs w v L) (hb : Below w.heap.size w w') : HoldGs w' v L := ⟨HoldV.on h.1 hb, fun x hx => HoldV.on (h.2 x hx) hb⟩
theorem HoldGs.parts {w : World} {v : Value} {l : List Gv} (h : HoldGs w v l) : ∃ (a : Option Addr) (c b o : Nat), v = .slice a l.length c ∧ l.length ≤ c ∧ (0 < l.length → a = some ⟨b, o, none⟩ ∧ b < w.heap.size) ∧
  ∀ (j : Nat) x, l[j]? = some x → w.cell? ⟨b, o + j, none⟩ = some x.2 := by
 obtain ⟨⟨a, c, b, o, e, hc, ha, hcell⟩, -⟩ := h
 rw [List.length_map] at e hc ha
 refine ⟨a, c, b, o, e, hc, ha, fun j x hx => ?_⟩
 have := hcell j [x.2] (by rw [List.getElem?_map, hx]; rfl) 0 _ (by omega) rfl
 simpa using this
def PredG (l : List Gv) (g : Nat) (lb : Array Value) (p : Gv → Bool) (w : World) : Prop :=
 ∀ W x, x ∈ l → Below w.heap.size w W → Calls Tryz.prog g (#[x.2] ++ lb) W fun e w' => e = .returned (.bool (p x)) ∧ Below W.heap.size W w'
def idxG (l : List Gv) (p : Gv → Bool) : Int := match l.findIdx? p with
 | some k => (k : Int)
 | none => -1
theorem idxG_hit {l : List Gv} {p : Gv → Bool} {k : Nat} {x : Gv} (hx : l[k]? = some x) (hp : p x = true) (hb : ∀ (j : Nat) y, j < k → l[j]? = some y → p y = false) : l.findIdx? p = some k := by
 rw [List.findIdx?_eq_some_iff_getElem]
 obtain ⟨hk, e⟩ := List.getElem?_eq_some_iff.1 hx
 exact ⟨hk, by rw [e]; exact hp, fun j hj => by rw [hb j _ hj (List.getElem?_eq_getElem (by omega))]; simp⟩
theorem idxG_miss {l : List Gv} {p : Gv → Bool} (hb : ∀ (j : Nat) y, l[j]? = some y → p y = false) : l.findIdx? p = none := by
 rw [List.findIdx?_eq_none_iff]
 intro y hy
 obtain ⟨j, hj⟩ := List.mem_iff_getElem?.1 hy
 exact hb j y hj
theorem idxG_any (g : Nat) (lb : Array Value) (eg : ∀ args w, (callFunc g args).run Tryz.prog w = .ok (.enter g args) w) (p : Gv → Bool) (v : Value) (l : List Gv) (hl : l.length ≤ 90000) (w : World) (h : HoldGs w v l) (hp : PredG l g lb p w) :
  Calls Tryz.prog 124 #[v, .func (.func g) #[] lb] w fun e w' => e = .returned (.int .i64 (idxG l p)) ∧ Below w.heap.size w w' := by
 obtain ⟨a, c, b, o, rfl, hc, ha, hcell⟩ := h.parts
 have HC := Lib.hid hcell
 have HG := Lib.hid h
 obtain ⟨Z, HZ⟩ : ∃ Z, Hid (idxG l p = Z) := ⟨_, rfl⟩
 rw [HZ.out]
 have HP := Lib.hid hp
 obtain ⟨n, hN⟩ : ∃ n, l.length = n := ⟨_, rfl⟩
 rw [hN] at hc ha hl ⊢
 have HN := Lib.hid hN
 clear hcell hp hN h
 go_enter Tryz.func124, Tryz.ntmps124
 go_wp2
 go_loopw [8] (fun i wr => ∃ k : Nat, k ≤ n ∧ i = .int .i64 k ∧ Hid (∀ (j : Nat) y, j < k → l[j]? = some y → p y = false) ∧ Hid (Below w.heap.size w wr)) (fun i _ => n - (intOf i).toNat)
 case atStart => exact ⟨0, by omega, rfl, Lib.hid (fun j y hj => by omega), Lib.hid (Below.refl _ _)⟩
 case round =>
  obtain ⟨k, hk, rfl, H, HB⟩ := hrel
  by_cases hlt : k < n
  ·
   obtain ⟨rfl, hbw⟩ := ha (by omega)
   obtain ⟨⟨g0, sv⟩, hx⟩ : ∃ x, l[k]? = some x := ⟨_, List.getElem?_eq_getElem (by rw [HN.out]; exact hlt)⟩
   obtain ⟨sa, sc, -, -, hsv, -⟩ := (HG.out.2 _ (List.mem_of_getElem? hx)).parts
   dsimp only at hsv
   subst hsv
   have c0 := HC.out k _ hx
   dsimp only at c0
   rw [← HB.out.cell (p := ⟨b, o + k, none⟩) hbw] at c0
   have hcall := HP.out wr _ (List.mem_of_getElem? hx) HB.out
   dsimp only at hcall
   have HX := Lib.hid hx
   clear hx
   cases hq : p (g0, .slice sa g0.length sc)
   ·
    rw [hq] at hcall
    have HK : Hid (∀ (j : Nat) y, j < k + 1 → l[j]? = some y → p y = false) := Lib.hid (fun j y hj hy => by
     by_cases e : j = k
     ·
      subst e
      rw [HX.out] at hy; cases hy
      exact hq
     ·
      exact H.out j y (by omega) hy)
    clear hq H
    go_wp2_with (go_at_fn g; refine hcall.mono ?_; rintro e w1 ⟨rfl, hb1⟩; have HB1 := Lib.hid (HB.out.trans (hb1.mono HB.out.size)); clear hb1)
    go_roundw
    case rel => exact ⟨k + 1, by omega, by go_num, HK, HB1⟩
    case measure => simp [intOf]; omega
   ·
    rw [hq] at hcall
    have HF : Hid ((k : Int) = Z) := Lib.hid (by rw [← HZ.out, idxG, idxG_hit HX.out hq H.out])
    clear hq H
    go_wp2_with (go_at_fn g; refine hcall.mono ?_; rintro e w1 ⟨rfl, hb1⟩; have HB1 := Lib.hid (HB.out.trans (hb1.mono HB.out.size)); clear hb1)
    go_ret
    exact ⟨reti HF.out, HB1.out⟩
  ·
   obtain rfl : k = n := by omega
   have HF : Hid ((-1 : Int) = Z) := Lib.hid (by rw [← HZ.out, idxG, idxG_miss (fun j y hy => H.out j y (by have := (List.getElem?_eq_some_iff.1 hy).1; rw [HN.out] at this; exact this) hy)])
   clear hlt H
   go_wp2
   go_ret
   exact ⟨reti HF.out, HB.out⟩
theorem idxG_neg {l : List Gv} {p : Gv → Bool} : (0 ≤ idxG l p) = (l.any p = true) := by
 unfold idxG
 cases h : l.findIdx? p with
 | none =>
  rw [List.findIdx?_eq_none_iff] at h
  have : l.any p = false := by rw [List.any_eq_false]; intro x hx; rw [h x hx]; simp
  rw [this]; simp
 | some k =>
  obtain ⟨hk, hp, _⟩ := List.findIdx?_eq_some_iff_getElem.1 h
  have : l.any p = true := List.any_eq_true.2 ⟨_, List.getElem_mem hk, hp⟩
  rw [this]; simp
theorem contG_any (g : Nat) (lb : Array Value) (eg : ∀ args w, (callFunc g args).run Tryz.prog w = .ok (.enter g args) w) (p : Gv → Bool) (v : Value) (l : List Gv) (hl : l.length ≤ 90000) (w : World) (h : HoldGs w v l) (hp : PredG l g lb p w) :
  Calls Tryz.prog 82 #[v, .func (.func g) #[] lb] w fun e w' => e = .returned (.bool (l.any p)) ∧ Below w.heap.size w w' := by
 have C := idxG_any g lb eg p v l hl w h hp
 obtain ⟨a, c, b, o, rfl, -⟩ := h.parts
 have HN := Lib.hid (idxG_neg (l := l) (p := p))
 generalize idxG l p = z at *
 generalize hq : l.any p = q at *
 have hz : decide (0 ≤ z) = q := by
  have := HN.out
  cases q
  ·
   rw [decide_eq_false_iff_not, this]; simp
  ·
   rw [decide_eq_true_iff, this]
 generalize l.length = n at *
 clear hp h hl hq
 cases q
 all_goals
  go_enter Tryz.func82, Tryz.ntmps82
  go_wp2_with (go_at_call 124; (with_reducible refine C.mono ?_); rintro e w1 ⟨rfl, hb⟩; have HB := Lib.hid hb; clear hb)
  go_ret
  exact ⟨rfl, HB.out⟩
end
section
open Go.RowKit
structure Uv where
 nm : Bs
 vr : Bs
 st : Int
 dp : List Gv
 cn : List Rl
 rp : List Bs
 cf : List (Bs × Bs)
 pd : List Bs
 aw : List Bs
 dv : Value
 cv : Value
 rv : Value
 fv : Value
 pv : Value
 av : Value
abbrev cellsW2 (x : Bs × Bs) : Rw := [.string ((⟨x.1.toArray⟩ : ByteArray)), .string ((⟨x.2.toArray⟩ : ByteArray))]
abbrev HoldW2 (w : World) (v : Value) (l : List (Bs × Bs)) : Prop := HoldV 2 w v (l.map cellsW2)
abbrev cellsU (x : Uv) : Rw := [.string ((⟨x.nm.toArray⟩ : ByteArray)), .string ((⟨x.vr.toArray⟩ : ByteArray)), .int .i64 x.st, x.dv, x.cv, x.rv, x.fv, x.pv, x.av]
structure InU (w : World) (x : Uv) : Prop where
 dp : HoldGs w x.dv x.dp
 cn : HoldQ w x.cv x.cn
 rp : HoldT w x.rv x.rp
 cf : HoldW2 w x.fv x.cf
 pd : HoldT w x.pv x.pd
 aw : HoldT w x.av x.aw
theorem InU.on {w w' : World} {x : Uv} (h : InU w x) (hb : Below w.heap.size w w') : InU w' x := ⟨HoldGs.on h.dp hb, HoldV.on h.cn hb, h.rp.on hb, HoldV.on h.cf hb, h.pd.on hb, h.aw.on hb⟩
abbrev HoldU (w : World) (v : Value) (l : List Uv) : Prop := HoldV 9 w v (l.map cellsU) ∧ ∀ x ∈ l, InU w x
theorem HoldU.on {w w' : World} {v : Value} {l : List Uv} (h : HoldU w v l) (hb : Below w.heap.size w w') : HoldU w' v l := ⟨HoldV.on h.1 hb, fun x hx => (h.2 x hx).on hb⟩
theorem HoldW2.parts {w : World} {v : Value} {l : List (Bs × Bs)} (h : HoldW2 w v l) : ∃ (a : Option Addr) (c b o : Nat), v = .slice a l.length c ∧ l.length ≤ c ∧ (0 < l.length → a = some ⟨b, o, none⟩ ∧ b < w.heap.size) ∧
  ∀ (j : Nat) x, l[j]? = some x → w.cell? ⟨b, o + j * 2, none⟩ = some (.string ((⟨x.1.toArray⟩ : ByteArray))) ∧ w.cell? ⟨b, o + j * 2 + 1, none⟩ = some (.string ((⟨x.2.toArray⟩ : ByteArray))) := by
 obtain ⟨a, c, b, o, e, hc, ha, hcell⟩ := h
 rw [List.length_map] at e hc ha
 refine ⟨a, c, b, o, e, hc, ha, fun j x hx => ?_⟩
 have := hcell j (cellsW2 x) (by rw [List.getElem?_map, hx]; rfl)
 exact ⟨this 0 _ (by omega) rfl, this 1 _ (by omega) rfl⟩
theorem HoldU.parts {w : World} {v : Value} {l : List Uv} (h : HoldU w v l) : ∃ (a : Option Addr) (c b o : Nat), v = .slice a l.length c ∧ l.length ≤ c ∧ (0 < l.length → a = some ⟨b, o, none⟩ ∧ b < w.heap.size) ∧
  ∀ (j : Nat) x, l[j]? = some x → w.cell? ⟨b, o + j * 9, none⟩ = some (.string ((⟨x.nm.toArray⟩ : ByteArray))) ∧ w.cell? ⟨b, o + j * 9 + 1, none⟩ = some (.string ((⟨x.vr.toArray⟩ : ByteArray))) ∧ w.cell? ⟨b, o + j * 9 + 2, none⟩ = some (.int .i64 x.st) ∧ w.cell? ⟨b, o + j * 9 + 3, none⟩ = some (x.dv) ∧ w.cell? ⟨b, o + j * 9 + 4, none⟩ = some (x.cv) ∧ w.cell? ⟨b, o + j * 9 + 5, none⟩ = some (x.rv) ∧ w.cell? ⟨b, o + j * 9 + 6, none⟩ = some (x.fv) ∧ w.cell? ⟨b, o + j * 9 + 7, none⟩ = some (x.pv) ∧ w.cell? ⟨b, o + j * 9 + 8, none⟩ = some (x.av) := by
 obtain ⟨⟨a, c, b, o, e, hc, ha, hcell⟩, -⟩ := h
 rw [List.length_map] at e hc ha
 refine ⟨a, c, b, o, e, hc, ha, fun j x hx => ?_⟩
 have := hcell j (cellsU x) (by rw [List.getElem?_map, hx]; rfl)
 exact ⟨this 0 _ (by omega) rfl, this 1 _ (by omega) rfl, this 2 _ (by omega) rfl, this 3 _ (by omega) rfl, this 4 _ (by omega) rfl, this 5 _ (by omega) rfl, this 6 _ (by omega) rfl, this 7 _ (by omega) rfl, this 8 _ (by omega) rfl⟩
theorem boxV9 (W : World) (c0 c1 c2 c3 c4 c5 c6 c7 c8 : Value) (t : TypeId) : (W.alloc (.cells #[c0, c1, c2, c3, c4, c5, c6, c7, c8] t)).cell? ⟨W.heap.size, 0, none⟩ = some c0 ∧ (W.alloc (.cells #[c0, c1, c2, c3, c4, c5, c6, c7, c8] t)).cell? ⟨W.heap.size, 1, none⟩ = some c1 ∧ (W.alloc (.cells #[c0, c1, c2, c3, c4, c5, c6, c7, c8] t)).cell? ⟨W.heap.size, 2, none⟩ = some c2 ∧ (W.alloc (.cells #[c0, c1, c2, c3, c4, c5, c6, c7, c8] t)).cell? ⟨W.heap.size, 3, none⟩ = some c3 ∧ (W.alloc (.cells #[c0, c1, c2, c3, c4, c5, c6, c7, c8] t)).cell? ⟨W.heap.size, 4, none⟩ = some c4 ∧ (W.alloc (.cells #[c0, c1, c2, c3, c4, c5, c6, c7, c8] t)).cell? ⟨W.heap.size, 5, none⟩ = some c5 ∧ (W.alloc (.cells #[c0, c1, c2, c3, c4, c5, c6, c7, c8] t)).cell? ⟨W.heap.size, 6, none⟩ = some c6 ∧ (W.alloc (.cells #[c0, c1, c2, c3, c4, c5, c6, c7, c8] t)).cell? ⟨W.heap.size, 7, none⟩ = some c7 ∧ (W.alloc (.cells #[c0, c1, c2, c3, c4, c5, c6, c7, c8] t)).cell? ⟨W.heap.size, 8, none⟩ = some c8 := by
 refine ⟨?_, ?_, ?_, ?_, ?_, ?_, ?_, ?_, ?_⟩ <;> (rw [World.cell?_alloc_new]; rfl)
theorem boxV2U (W : World) (c0 c1 : Value) (t : TypeId) : (W.alloc (.cells #[c0, c1] t)).cell? ⟨W.heap.size, 0, none⟩ = some c0 ∧ (W.alloc (.cells #[c0, c1] t)).cell? ⟨W.heap.size, 1, none⟩ = some c1 := by
 refine ⟨?_, ?_⟩ <;> (rw [World.cell?_alloc_new]; rfl)
end
section
open Go.RowKit
-- Lists by keys
section
variable {α : Type} (rt : α → Bool) (key : α → Bs)
def stepK (l : List α) (i : Nat) (x : α) : Prop := rt x = true ∧ ∀ y, 0 < i → l[i - 1]? = some y → key y < key x
def StepsK (l : List α) : Prop := ∀ (i : Nat) x, l[i]? = some x → stepK rt key l i x
open Classical in
noncomputable def kchkK (l : List α) : Int := if 64 < l.length then 22 else if StepsK rt key l then 0 else 1
end
section
variable {α : Type} {rt : α → Bool} {key : α → Bs}
theorem kchkK_long {l : List α} (h : 64 < l.length) : kchkK rt key l = 22 := by unfold kchkK; rw [if_pos h]
theorem kchkK_ok {l : List α} (h : ¬ 64 < l.length) (g : StepsK rt key l) : kchkK rt key l = 0 := by unfold kchkK; rw [if_neg h, if_pos g]
theorem kchkK_no {l : List α} (h : ¬ 64 < l.length) (g : ¬ StepsK rt key l) : kchkK rt key l = 1 := by unfold kchkK; rw [if_neg h, if_neg g]
theorem kchkK_ways (rt : α → Bool) (key : α → Bs) (l : List α) : (kchkK rt key l = 0 ∧ l.length ≤ 64 ∧ StepsK rt key l) ∨ ((kchkK rt key l = 22 ∨ kchkK rt key l = 1) ∧ ¬ (l.length ≤ 64 ∧ StepsK rt key l)) := by
 by_cases h : 64 < l.length
 ·
  exact .inr ⟨.inl (kchkK_long h), fun g => by omega⟩
 ·
  by_cases g : StepsK rt key l
  ·
   exact .inl ⟨kchkK_ok h g, by omega, g⟩
  ·
   exact .inr ⟨.inr (kchkK_no h g), fun q => g q.2⟩
end
end
section
open Go.RowKit
theorem itself_any (s : ByteArray) (w : World) : Calls Tryz.prog 107 #[.string s] w fun e w' => e = .returned (.string s) ∧ w' = w := by
 go_enter Tryz.func107, Tryz.ntmps107
 go_wp2
 go_ret
 exact ⟨rfl, rfl⟩
abbrev keyFT : Value := .func (.func 107) #[] #[]
def PredKT (g : Nat) (lb : Array Value) (l : List Bs) (p : Bs → Bool) (w : World) : Prop :=
 ∀ x ∈ l, ∀ W, Below w.heap.size w W → Calls Tryz.prog g (#[.string (⟨x.toArray⟩ : ByteArray)] ++ lb) W fun e w' => e = .returned (.bool (p x)) ∧ Below W.heap.size W w'
theorem kcheckT_any (g : Nat) (lb : Array Value) (eg : ∀ args w, (callFunc g args).run Tryz.prog w = .ok (.enter g args) w) (rt : Bs → Bool) (v : Value) (l : List Bs) (hl : l.length ≤ 90000) (w : World) (h : HoldT w v l) (hra : PredKT g lb l rt w) :
  Calls Tryz.prog 106 #[v, keyFT, .func (.func g) #[] lb] w fun e w' => e = .returned (.int .i64 (kchkK rt (fun x => x) l)) ∧ Below w.heap.size w w' := by
 obtain ⟨a, c, b, o, rfl, hc, ha, hcell⟩ := h
 have HC := Lib.hid hcell
 have HRA := Lib.hid hra
 have KI := fun s W => itself_any s W
 unfold keyFT
 obtain ⟨Z, HZ⟩ : ∃ Z, Hid (kchkK rt (fun x => x) l = Z) := ⟨_, rfl⟩
 rw [HZ.out]
 obtain ⟨n, hN⟩ : ∃ n, l.length = n := ⟨_, rfl⟩
 rw [hN] at hc ha hl ⊢
 have HN := Lib.hid hN
 clear hcell hN hra
 by_cases h64 : 64 < n
 ·
  have HF : Hid ((22 : Int) = Z) := Lib.hid (by rw [← HZ.out, kchkK_long (by rw [HN.out]; exact h64)])
  go_enter Tryz.func106, Tryz.ntmps106
  go_wp2
  go_ret
  exact ⟨reti HF.out, Below.refl _ _⟩
 have HBAD : Hid (∀ (i : Nat) x, l[i]? = some x → ¬ stepK rt (fun x => x) l i x → (1 : Int) = Z) := Lib.hid (fun i x hx g => by rw [← HZ.out, kchkK_no (by rw [HN.out]; exact h64) (fun q => g (q i x hx))])
 have HOK : Hid (StepsK rt (fun x => x) l → (0 : Int) = Z) := Lib.hid (fun g => by rw [← HZ.out, kchkK_ok (by rw [HN.out]; exact h64) g])
 clear HZ
 go_enter Tryz.func106, Tryz.ntmps106
 go_wp2
 go_loopw [14] (fun i wr => ∃ k : Nat, k ≤ n ∧ i = .int .i64 k ∧ Hid (∀ (j : Nat) x, j < k → l[j]? = some x → stepK rt (fun x => x) l j x) ∧ Hid (Below w.heap.size w wr)) (fun i _ => n - (intOf i).toNat)
 case atStart => exact ⟨0, by omega, rfl, Lib.hid (fun j y hj => by omega), Lib.hid (Below.refl _ _)⟩
 case round =>
  obtain ⟨k, hk, rfl, H, HB⟩ := hrel
  by_cases hlt : k < n
  ·
   obtain ⟨rfl, hbw⟩ := ha (by omega)
   obtain ⟨x, hx⟩ : ∃ x, l[k]? = some x := ⟨_, List.getElem?_eq_getElem (by rw [HN.out]; exact hlt)⟩
   have c0 := HC.out k x hx
   rw [← HB.out.cell (p := ⟨b, o + k, none⟩) hbw] at c0
   have RA := HRA.out x (List.mem_of_getElem? hx) wr HB.out
   have HX := Lib.hid hx
   have hsz := HB.out.size
   clear hx
   cases hq : rt x
   ·
    have HF := Lib.hid (HBAD.out k x HX.out (fun g => by rw [g.1] at hq; cases hq))
    simp only [hq] at RA
    clear hq H HBAD HOK HC HX HRA
    generalize (⟨x.toArray⟩ : ByteArray) = X0 at *
    go_wp2_with (go_at_fn g; (with_reducible refine RA.mono ?_); rintro e w3 ⟨rfl, hb⟩; have HB3 := Lib.hid (HB.out.trans (hb.mono hsz)); clear hb)
    go_ret
    exact ⟨reti HF.out, HB3.out⟩
   ·
    simp only [hq] at RA
    by_cases hk0 : 0 < k
    ·
     obtain ⟨y, hy⟩ : ∃ y, l[k - 1]? = some y := ⟨_, List.getElem?_eq_getElem (by rw [HN.out]; omega)⟩
     have HE0 : Hid (∀ W, Below w.heap.size w W → W.cell? ⟨b, o + (k - 1), none⟩ = some (.string ⟨y.toArray⟩)) := Lib.hid (fun W hW => (hW.cell (p := ⟨b, o + (k - 1), none⟩) hbw).trans (HC.out (k - 1) y hy))
     have hls := lessT (⟨y.toArray⟩ : ByteArray) (⟨x.toArray⟩ : ByteArray)
     rw [bytesOf, bytesOf] at hls
     have HBADk : Hid (decide (y < x) = false → (1 : Int) = Z) := Lib.hid (fun g => HBAD.out k x HX.out (fun q => by have := q.2 y hk0 hy; simp only at this; rw [decide_eq_true this] at g; cases g))
     have HNEXT : Hid (decide (y < x) = true → ∀ (j : Nat) u, j < k + 1 → l[j]? = some u → stepK rt (fun x => x) l j u) := Lib.hid (fun g j u hj hu => by
      by_cases ej : j = k
      ·
       subst ej
       rw [HX.out] at hu; cases hu
       exact ⟨hq, fun u h1 h2 => by rw [hy] at h2; cases h2; exact of_decide_eq_true g⟩
      ·
       exact H.out j u (by omega) hu)
     generalize decide (y < x) = q at *
     have hd : decide ((0 : Int) < (k : Int)) = true := decide_eq_true (by omega)
     have hk1 : (1 : Int) ≤ (k : Int) := by omega
     have i0 : (0 : Int) ≤ (k : Int) - 1 := by omega
     have i1 : (k : Int) - 1 < (n : Int) := by omega
     have i2 : ((k : Int) - 1).toNat = k - 1 := by omega
     have i3 : IntKind.i64.wrap ((k : Int) - 1) = (k : Int) - 1 := IntWalk.i64_in _ (by omega)
     clear hq H HBAD HC HX hy HRA
     generalize (⟨x.toArray⟩ : ByteArray) = X0 at *
     generalize (⟨y.toArray⟩ : ByteArray) = X0' at *
     cases q
     ·
      have HF := Lib.hid (HBADk.out rfl)
      clear HBADk HNEXT
      go_wp2_with (first
       | (go_at_fn g; (with_reducible refine RA.mono ?_); rintro e w3 ⟨rfl, hb⟩; have HB3 := Lib.hid (HB.out.trans (hb.mono hsz)); have e3 := HE0.out _ HB3.out; clear hb)
       | (go_at_call 107; (with_reducible refine (KI _ _).mono ?_); rintro e w4 ⟨rfl, rfl⟩))
      go_ret
      exact ⟨reti HF.out, HB3.out⟩
     ·
      have HK := Lib.hid (HNEXT.out rfl)
      clear HBADk HNEXT
      go_wp2_with (first
       | (go_at_fn g; (with_reducible refine RA.mono ?_); rintro e w3 ⟨rfl, hb⟩; have HB3 := Lib.hid (HB.out.trans (hb.mono hsz)); have e3 := HE0.out _ HB3.out; clear hb)
       | (go_at_call 107; (with_reducible refine (KI _ _).mono ?_); rintro e w4 ⟨rfl, rfl⟩))
      go_roundw
      case rel => exact ⟨k + 1, by omega, by go_num, HK, HB3⟩
      case measure => simp [intOf]; omega
    ·
     have HK : Hid (∀ (j : Nat) u, j < k + 1 → l[j]? = some u → stepK rt (fun x => x) l j u) := Lib.hid (fun j u hj hu => by
      obtain rfl : j = k := by omega
      rw [HX.out] at hu; cases hu
      exact ⟨hq, fun _ h1 => absurd h1 hk0⟩)
     have hd : decide ((0 : Int) < (k : Int)) = false := decide_eq_false (by omega)
     clear hq H HBAD HOK HC HX HRA
     generalize (⟨x.toArray⟩ : ByteArray) = X0 at *
     go_wp2_with (go_at_fn g; (with_reducible refine RA.mono ?_); rintro e w3 ⟨rfl, hb⟩; have HB3 := Lib.hid (HB.out.trans (hb.mono hsz)); clear hb)
     go_roundw
     case rel => exact ⟨k + 1, by omega, by go_num, HK, HB3⟩
     case measure => simp [intOf]; omega
  ·
   obtain rfl : k = n := by omega
   have HF := Lib.hid (HOK.out (fun i x hx => H.out i x (by have := (List.getElem?_eq_some_iff.1 hx).1; rw [HN.out] at this; exact this) hx))
   clear hlt H HBAD HOK
   go_wp2
   go_ret
   exact ⟨reti HF.out, HB.out⟩
end
section
open Go.RowKit
def trigB (s : Bs) : Bool := nameB s || right s
theorem trig_any (s : ByteArray) (hs : s.size ≤ 4000) (w : World) (hL : LaidP w) :
  Calls Tryz.prog 108 #[.string s] w fun e w' => e = .returned (.bool (trigB s.data.toList)) ∧ Below w.heap.size w w' := by
 have NM := fun W => name_any s hs W
 have RA := right_any s hs w hL
 unfold trigB
 generalize right s.data.toList = q at *
 cases hn : nameB s.data.toList
 all_goals
  simp only [hn] at NM
  clear hn hL hs
  go_enter Tryz.func108, Tryz.ntmps108
  go_wp2_with (first
   | (go_at_call 52; refine (NM _).mono ?_; rintro e w1 ⟨rfl, rfl⟩)
   | (go_at_call 142; refine RA.mono ?_; rintro e w2 ⟨rfl, hb⟩; have HB := Lib.hid hb; clear hb))
  go_ret
  first | exact ⟨retb (by simp), HB.out⟩ | exact ⟨retb (by simp), Below.refl _ _⟩
theorem trig_ref (s : ByteArray) (hs : s.size ≤ 4000) (w : World) :
  Calls Tryz.prog 62 #[.string s] w fun e w' => e = .returned (.bool (trigB s.data.toList)) ∧ Below w.heap.size w w' := by
 have NM := fun W => name_ref s hs W
 have RA := right_ref s hs w
 unfold trigB
 generalize right s.data.toList = q at *
 cases hn : nameB s.data.toList
 all_goals
  simp only [hn] at NM
  clear hn hs
  go_enter Tryz.func62, Tryz.ntmps62
  go_wp2_with (first
   | (go_at_call 58; refine (NM _).mono ?_; rintro e w1 ⟨rfl, rfl⟩)
   | (go_at_call 61; refine RA.mono ?_; rintro e w2 ⟨rfl, hb⟩; have HB := Lib.hid hb; clear hb))
  go_ret
  first | exact ⟨retb (by simp), HB.out⟩ | exact ⟨retb (by simp), Below.refl _ _⟩
end
end Go.Proofs.YtkbkaeefdhkgdaaGreatDoor
