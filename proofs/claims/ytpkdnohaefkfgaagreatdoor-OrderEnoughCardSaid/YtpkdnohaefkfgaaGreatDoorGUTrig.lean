/-
  Triggers, of both sides; nothing old turns. Condition of the program's: LaidP.
-/
import Derived.Test.YtpkdnohaefkfgaaGreatDoorGQHold
import Derived.Test.YtpkdnohaefkfgaaGreatDoorGPName
import Derived.Test.YtpkdnohaefkfgaaGreatDoorGPResolved
import Derived.Laws.DeepStrings4
import Derived.Test.YtpkdnohaefkfgaaGreatDoorGPClean
import Derived.Test.YtpkdnohaefkfgaaGreatDoorGZHold
import Derived.IntWalk
import Derived.Laws.StructEq
namespace Go.Proofs.YtpkdnohaefkfgaaGreatDoor
open Go.RowKit
abbrev Gv := List Rl × Value
abbrev HoldGs (w : World) (v : Value) (L : List Gv) : Prop := HoldV 1 w v (L.map fun x => [x.2]) ∧ ∀ x ∈ L, HoldQ w x.2 x.1
theorem HoldGs.on {w w' : World} {v : Value} {L : List Gv} (h : HoldGs w v L) (hb : Below w.heap.size w w') : HoldGs w' v L := ⟨HoldV.on h.1 hb, fun x hx => HoldV.on (h.2 x hx) hb⟩
theorem HoldGs.parts {w : World} {v : Value} {l : List Gv} (h : HoldGs w v l) : ∃ (a : Option Addr) (c b o : Nat), v = .slice a l.length c ∧ l.length ≤ c ∧ (0 < l.length → a = some ⟨b, o, none⟩ ∧ b < w.heap.size) ∧
    ∀ (j : Nat) x, l[j]? = some x → w.cell? ⟨b, o + j, none⟩ = some x.2 := by
  obtain ⟨⟨a, c, b, o, e, hc, ha, hcell⟩, -⟩ := h
  rw [List.length_map] at e hc ha
  refine ⟨a, c, b, o, e, hc, ha, fun j x hx => ?_⟩
  have := hcell j [x.2] (by rw [List.getElem?_map, hx]; rfl) 0 _ (by omega) rfl
  simpa using this
def PredG (l : List Gv) (g : Nat) (lb : Array Value) (p : Gv → Bool) (w : World) : Prop :=
  ∀ W x, x ∈ l → Below w.heap.size w W → Calls Tryz.prog g (#[x.2] ++ lb) W fun e w' => e = .returned (.bool (p x)) ∧ Below W.heap.size W w'
def idxG (l : List Gv) (p : Gv → Bool) : Int := match l.findIdx? p with
  | some k => (k : Int)
  | none => -1
theorem idxG_hit {l : List Gv} {p : Gv → Bool} {k : Nat} {x : Gv} (hx : l[k]? = some x) (hp : p x = true) (hb : ∀ (j : Nat) y, j < k → l[j]? = some y → p y = false) : l.findIdx? p = some k := by
  rw [List.findIdx?_eq_some_iff_getElem]
  obtain ⟨hk, e⟩ := List.getElem?_eq_some_iff.1 hx
  exact ⟨hk, by rw [e]; exact hp, fun j hj => by rw [hb j _ hj (List.getElem?_eq_getElem (by omega))]; simp⟩
theorem idxG_miss {l : List Gv} {p : Gv → Bool} (hb : ∀ (j : Nat) y, l[j]? = some y → p y = false) : l.findIdx? p = none := by
  rw [List.findIdx?_eq_none_iff]
  intro y hy
  obtain ⟨j, hj⟩ := List.mem_iff_getElem?.1 hy
  exact hb j y hj
set_option maxRecDepth 100000 in
set_option maxHeartbeats 4000000 in
theorem idxG_any (g : Nat) (lb : Array Value) (eg : ∀ args w, (callFunc g args).run Tryz.prog w = .ok (.enter g args) w) (p : Gv → Bool) (v : Value) (l : List Gv) (hl : l.length ≤ 90000) (w : World) (h : HoldGs w v l) (hp : PredG l g lb p w) :
    Calls Tryz.prog 87 #[v, .func (.func g) #[] lb] w fun e w' => e = .returned (.int .i64 (idxG l p)) ∧ Below w.heap.size w w' := by
  obtain ⟨a, c, b, o, rfl, hc, ha, hcell⟩ := h.parts
  have HC := Lib.hid hcell
  have HG := Lib.hid h
  obtain ⟨Z, HZ⟩ : ∃ Z, Hid (idxG l p = Z) := ⟨_, rfl⟩
  rw [HZ.out]
  have HP := Lib.hid hp
  obtain ⟨n, hN⟩ : ∃ n, l.length = n := ⟨_, rfl⟩
  rw [hN] at hc ha hl ⊢
  have HN := Lib.hid hN
  clear hcell hp hN h
  go_enter Tryz.func87, Tryz.ntmps87
  go_wp2
  go_loopw [8] (fun i wr => ∃ k : Nat, k ≤ n ∧ i = .int .i64 k ∧ Hid (∀ (j : Nat) y, j < k → l[j]? = some y → p y = false) ∧ Hid (Below w.heap.size w wr)) (fun i _ => n - (intOf i).toNat)
  case atStart => exact ⟨0, by omega, rfl, Lib.hid (fun j y hj => by omega), Lib.hid (Below.refl _ _)⟩
  case round =>
    obtain ⟨k, hk, rfl, H, HB⟩ := hrel
    by_cases hlt : k < n
    · obtain ⟨rfl, hbw⟩ := ha (by omega)
      obtain ⟨⟨g0, sv⟩, hx⟩ : ∃ x, l[k]? = some x := ⟨_, List.getElem?_eq_getElem (by rw [HN.out]; exact hlt)⟩
      obtain ⟨sa, sc, -, -, hsv, -⟩ := (HG.out.2 _ (List.mem_of_getElem? hx)).parts
      dsimp only at hsv
      subst hsv
      have c0 := HC.out k _ hx
      dsimp only at c0
      rw [← HB.out.cell (p := ⟨b, o + k, none⟩) hbw] at c0
      have hcall := HP.out wr _ (List.mem_of_getElem? hx) HB.out
      dsimp only at hcall
      have HX := Lib.hid hx
      clear hx
      cases hq : p (g0, .slice sa g0.length sc)
      · rw [hq] at hcall
        have HK : Hid (∀ (j : Nat) y, j < k + 1 → l[j]? = some y → p y = false) := Lib.hid (fun j y hj hy => by
          by_cases e : j = k
          · subst e
            rw [HX.out] at hy; cases hy
            exact hq
          · exact H.out j y (by omega) hy)
        clear hq H
        go_wp2_with (go_at_fn g; refine hcall.mono ?_; rintro e w1 ⟨rfl, hb1⟩; have HB1 := Lib.hid (HB.out.trans (hb1.mono HB.out.size)); clear hb1)
        go_roundw
        case rel => exact ⟨k + 1, by omega, by go_num, HK, HB1⟩
        case measure => simp [intOf]; omega
      · rw [hq] at hcall
        have HF : Hid ((k : Int) = Z) := Lib.hid (by rw [← HZ.out, idxG, idxG_hit HX.out hq H.out])
        clear hq H
        go_wp2_with (go_at_fn g; refine hcall.mono ?_; rintro e w1 ⟨rfl, hb1⟩; have HB1 := Lib.hid (HB.out.trans (hb1.mono HB.out.size)); clear hb1)
        go_ret
        exact ⟨reti HF.out, HB1.out⟩
    · obtain rfl : k = n := by omega
      have HF : Hid ((-1 : Int) = Z) := Lib.hid (by rw [← HZ.out, idxG, idxG_miss (fun j y hy => H.out j y (by have := (List.getElem?_eq_some_iff.1 hy).1; rw [HN.out] at this; exact this) hy)])
      clear hlt H
      go_wp2
      go_ret
      exact ⟨reti HF.out, HB.out⟩
theorem idxG_neg {l : List Gv} {p : Gv → Bool} : (0 ≤ idxG l p) = (l.any p = true) := by
  unfold idxG
  cases h : l.findIdx? p with
  | none =>
    rw [List.findIdx?_eq_none_iff] at h
    have : l.any p = false := by rw [List.any_eq_false]; intro x hx; rw [h x hx]; simp
    rw [this]; simp
  | some k =>
    obtain ⟨hk, hp, _⟩ := List.findIdx?_eq_some_iff_getElem.1 h
    have : l.any p = true := List.any_eq_true.2 ⟨_, List.getElem_mem hk, hp⟩
    rw [this]; simp
set_option maxHeartbeats 4000000 in
theorem contG_any (g : Nat) (lb : Array Value) (eg : ∀ args w, (callFunc g args).run Tryz.prog w = .ok (.enter g args) w) (p : Gv → Bool) (v : Value) (l : List Gv) (hl : l.length ≤ 90000) (w : World) (h : HoldGs w v l) (hp : PredG l g lb p w) :
    Calls Tryz.prog 64 #[v, .func (.func g) #[] lb] w fun e w' => e = .returned (.bool (l.any p)) ∧ Below w.heap.size w w' := by
  have C := idxG_any g lb eg p v l hl w h hp
  obtain ⟨a, c, b, o, rfl, -⟩ := h.parts
  have HN := Lib.hid (idxG_neg (l := l) (p := p))
  generalize idxG l p = z at *
  generalize hq : l.any p = q at *
  have hz : decide (0 ≤ z) = q := by
    have := HN.out
    cases q
    · rw [decide_eq_false_iff_not, this]; simp
    · rw [decide_eq_true_iff, this]
  generalize l.length = n at *
  clear hp h hl hq
  cases q
  all_goals
    go_enter Tryz.func64, Tryz.ntmps64
    go_wp2_with (go_at_call 87; (with_reducible refine C.mono ?_); rintro e w1 ⟨rfl, hb⟩; have HB := Lib.hid hb; clear hb)
    go_ret
    exact ⟨rfl, HB.out⟩
end Go.Proofs.YtpkdnohaefkfgaaGreatDoor
namespace Go.Proofs.YtpkdnohaefkfgaaGreatDoor
open Go.RowKit
/-- A record, and the slice values of its lists. -/
structure Uv where
  nm : Bs
  vr : Bs
  st : Int
  dp : List Gv
  cn : List Rl
  rp : List Bs
  cf : List (Bs × Bs)
  pd : List Bs
  aw : List Bs
  dv : Value
  cv : Value
  rv : Value
  fv : Value
  pv : Value
  av : Value
abbrev cellsW2 (x : Bs × Bs) : Rw := [.string ((⟨x.1.toArray⟩ : ByteArray)), .string ((⟨x.2.toArray⟩ : ByteArray))]
abbrev HoldW2 (w : World) (v : Value) (l : List (Bs × Bs)) : Prop := HoldV 2 w v (l.map cellsW2)
abbrev cellsU (x : Uv) : Rw := [.string ((⟨x.nm.toArray⟩ : ByteArray)), .string ((⟨x.vr.toArray⟩ : ByteArray)), .int .i64 x.st, x.dv, x.cv, x.rv, x.fv, x.pv, x.av]
structure InU (w : World) (x : Uv) : Prop where
  dp : HoldGs w x.dv x.dp
  cn : HoldQ w x.cv x.cn
  rp : HoldT w x.rv x.rp
  cf : HoldW2 w x.fv x.cf
  pd : HoldT w x.pv x.pd
  aw : HoldT w x.av x.aw
theorem InU.on {w w' : World} {x : Uv} (h : InU w x) (hb : Below w.heap.size w w') : InU w' x := ⟨HoldGs.on h.dp hb, HoldV.on h.cn hb, h.rp.on hb, HoldV.on h.cf hb, h.pd.on hb, h.aw.on hb⟩
abbrev HoldU (w : World) (v : Value) (l : List Uv) : Prop := HoldV 9 w v (l.map cellsU) ∧ ∀ x ∈ l, InU w x
theorem HoldU.on {w w' : World} {v : Value} {l : List Uv} (h : HoldU w v l) (hb : Below w.heap.size w w') : HoldU w' v l := ⟨HoldV.on h.1 hb, fun x hx => (h.2 x hx).on hb⟩
theorem HoldW2.parts {w : World} {v : Value} {l : List (Bs × Bs)} (h : HoldW2 w v l) : ∃ (a : Option Addr) (c b o : Nat), v = .slice a l.length c ∧ l.length ≤ c ∧ (0 < l.length → a = some ⟨b, o, none⟩ ∧ b < w.heap.size) ∧
    ∀ (j : Nat) x, l[j]? = some x → w.cell? ⟨b, o + j * 2, none⟩ = some (.string ((⟨x.1.toArray⟩ : ByteArray))) ∧ w.cell? ⟨b, o + j * 2 + 1, none⟩ = some (.string ((⟨x.2.toArray⟩ : ByteArray))) := by
  obtain ⟨a, c, b, o, e, hc, ha, hcell⟩ := h
  rw [List.length_map] at e hc ha
  refine ⟨a, c, b, o, e, hc, ha, fun j x hx => ?_⟩
  have := hcell j (cellsW2 x) (by rw [List.getElem?_map, hx]; rfl)
  exact ⟨this 0 _ (by omega) rfl, this 1 _ (by omega) rfl⟩
theorem HoldU.parts {w : World} {v : Value} {l : List Uv} (h : HoldU w v l) : ∃ (a : Option Addr) (c b o : Nat), v = .slice a l.length c ∧ l.length ≤ c ∧ (0 < l.length → a = some ⟨b, o, none⟩ ∧ b < w.heap.size) ∧
    ∀ (j : Nat) x, l[j]? = some x → w.cell? ⟨b, o + j * 9, none⟩ = some (.string ((⟨x.nm.toArray⟩ : ByteArray))) ∧ w.cell? ⟨b, o + j * 9 + 1, none⟩ = some (.string ((⟨x.vr.toArray⟩ : ByteArray))) ∧ w.cell? ⟨b, o + j * 9 + 2, none⟩ = some (.int .i64 x.st) ∧ w.cell? ⟨b, o + j * 9 + 3, none⟩ = some (x.dv) ∧ w.cell? ⟨b, o + j * 9 + 4, none⟩ = some (x.cv) ∧ w.cell? ⟨b, o + j * 9 + 5, none⟩ = some (x.rv) ∧ w.cell? ⟨b, o + j * 9 + 6, none⟩ = some (x.fv) ∧ w.cell? ⟨b, o + j * 9 + 7, none⟩ = some (x.pv) ∧ w.cell? ⟨b, o + j * 9 + 8, none⟩ = some (x.av) := by
  obtain ⟨⟨a, c, b, o, e, hc, ha, hcell⟩, -⟩ := h
  rw [List.length_map] at e hc ha
  refine ⟨a, c, b, o, e, hc, ha, fun j x hx => ?_⟩
  have := hcell j (cellsU x) (by rw [List.getElem?_map, hx]; rfl)
  exact ⟨this 0 _ (by omega) rfl, this 1 _ (by omega) rfl, this 2 _ (by omega) rfl, this 3 _ (by omega) rfl, this 4 _ (by omega) rfl, this 5 _ (by omega) rfl, this 6 _ (by omega) rfl, this 7 _ (by omega) rfl, this 8 _ (by omega) rfl⟩
theorem boxV9 (W : World) (c0 c1 c2 c3 c4 c5 c6 c7 c8 : Value) (t : TypeId) : (W.alloc (.cells #[c0, c1, c2, c3, c4, c5, c6, c7, c8] t)).cell? ⟨W.heap.size, 0, none⟩ = some c0 ∧ (W.alloc (.cells #[c0, c1, c2, c3, c4, c5, c6, c7, c8] t)).cell? ⟨W.heap.size, 1, none⟩ = some c1 ∧ (W.alloc (.cells #[c0, c1, c2, c3, c4, c5, c6, c7, c8] t)).cell? ⟨W.heap.size, 2, none⟩ = some c2 ∧ (W.alloc (.cells #[c0, c1, c2, c3, c4, c5, c6, c7, c8] t)).cell? ⟨W.heap.size, 3, none⟩ = some c3 ∧ (W.alloc (.cells #[c0, c1, c2, c3, c4, c5, c6, c7, c8] t)).cell? ⟨W.heap.size, 4, none⟩ = some c4 ∧ (W.alloc (.cells #[c0, c1, c2, c3, c4, c5, c6, c7, c8] t)).cell? ⟨W.heap.size, 5, none⟩ = some c5 ∧ (W.alloc (.cells #[c0, c1, c2, c3, c4, c5, c6, c7, c8] t)).cell? ⟨W.heap.size, 6, none⟩ = some c6 ∧ (W.alloc (.cells #[c0, c1, c2, c3, c4, c5, c6, c7, c8] t)).cell? ⟨W.heap.size, 7, none⟩ = some c7 ∧ (W.alloc (.cells #[c0, c1, c2, c3, c4, c5, c6, c7, c8] t)).cell? ⟨W.heap.size, 8, none⟩ = some c8 := by
  refine ⟨?_, ?_, ?_, ?_, ?_, ?_, ?_, ?_, ?_⟩ <;> (rw [World.cell?_alloc_new]; rfl)
theorem boxV2U (W : World) (c0 c1 : Value) (t : TypeId) : (W.alloc (.cells #[c0, c1] t)).cell? ⟨W.heap.size, 0, none⟩ = some c0 ∧ (W.alloc (.cells #[c0, c1] t)).cell? ⟨W.heap.size, 1, none⟩ = some c1 := by
  refine ⟨?_, ?_⟩ <;> (rw [World.cell?_alloc_new]; rfl)
end Go.Proofs.YtpkdnohaefkfgaaGreatDoor
namespace Go.Proofs.YtpkdnohaefkfgaaGreatDoor
open Go.RowKit Go.Sort
end Go.Proofs.YtpkdnohaefkfgaaGreatDoor
namespace Go.Proofs.YtpkdnohaefkfgaaGreatDoor
open Go.RowKit Go.Sort
end Go.Proofs.YtpkdnohaefkfgaaGreatDoor
namespace Go.Proofs.YtpkdnohaefkfgaaGreatDoor
open Go.RowKit
def trigB (s : Bs) : Bool := nameB s || right s
set_option maxRecDepth 100000 in
theorem trig_any (s : ByteArray) (hs : s.size ≤ 4000) (w : World) (hL : LaidP w) :
    Calls Tryz.prog 49 #[.string s] w fun e w' => e = .returned (.bool (trigB s.data.toList)) ∧ Below w.heap.size w w' := by
  have NM := fun W => name_any s hs W
  have RA := right_any s hs w hL
  unfold trigB
  generalize right s.data.toList = q at *
  cases hn : nameB s.data.toList
  all_goals
    simp only [hn] at NM
    clear hn hL hs
    go_enter Tryz.func49, Tryz.ntmps49
    go_wp2_with (first
      | (go_at_call 24; refine (NM _).mono ?_; rintro e w1 ⟨rfl, rfl⟩)
      | (go_at_call 74; refine RA.mono ?_; rintro e w2 ⟨rfl, hb⟩; have HB := Lib.hid hb; clear hb))
    go_ret
    first | exact ⟨retb (by simp), HB.out⟩ | exact ⟨retb (by simp), Below.refl _ _⟩
end Go.Proofs.YtpkdnohaefkfgaaGreatDoor
