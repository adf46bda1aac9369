/-
  Selections in memory: held, owned; slices.IndexFunc and ContainsFunc of them.
-/
import Derived.Test.YtmfmohbcehkooaaGreatDoorYMath
import Derived.Test.YtmfmohbcehkooaaGreatDoorRowV
import Derived.Test.YtmfmohbcehkooaaGreatDoorBoxV
import Derived.Lib.SliceRun
import Derived.RangeFuncRecord
namespace Go.Proofs.YtmfmohbcehkooaaGreatDoor
open Go.RowKit
abbrev bsT (l : Bs) : ByteArray := ⟨l.toArray⟩
abbrev cellsY (x : Sl) : Rw := [.string (bsT x.1), .bool x.2.1, .string (bsT x.2.2)]
abbrev aggY (x : Sl) : Value := .agg #[.string (bsT x.1), .bool x.2.1, .string (bsT x.2.2)]
abbrev HoldY (w : World) (v : Value) (l : List (Sl)) : Prop := HoldV 3 w v (l.map cellsY)
theorem HoldY.parts {w : World} {v : Value} {l : List (Sl)} (h : HoldY w v l) : ∃ (a : Option Addr) (c b o : Nat), v = .slice a l.length c ∧ l.length ≤ c ∧ (0 < l.length → a = some ⟨b, o, none⟩ ∧ b < w.heap.size) ∧
    ∀ (j : Nat) x, l[j]? = some x → w.cell? ⟨b, o + j * 3, none⟩ = some (.string (bsT x.1)) ∧ w.cell? ⟨b, o + j * 3 + 1, none⟩ = some (.bool x.2.1) ∧ w.cell? ⟨b, o + j * 3 + 2, none⟩ = some (.string (bsT x.2.2)) := by
  obtain ⟨a, c, b, o, e, hc, ha, hcell⟩ := h
  rw [List.length_map] at e hc ha
  refine ⟨a, c, b, o, e, hc, ha, fun j x hx => ?_⟩
  have := hcell j (cellsY x) (by rw [List.getElem?_map, hx]; rfl)
  exact ⟨this 0 _ (by omega) rfl, this 1 _ (by omega) rfl, this 2 _ (by omega) rfl⟩
abbrev OwnY (T : TypeId) (w : World) (base : Nat) (v : Value) (l : List (Sl)) : Prop := OwnV T 3 w base v (l.map cellsY)
theorem cellsY_len (l : List (Sl)) : ∀ r ∈ l.map cellsY, r.length = 3 := fun r hr => by obtain ⟨x, _, rfl⟩ := List.mem_map.1 hr; rfl
theorem OwnY.app {T : TypeId} {w' : World} {base : Nat} {v' : Value} {l : List (Sl)} {x : Sl} {c0 : ByteArray} {c2 : ByteArray} (h0 : c0.data.toList = x.1) (h2 : c2.data.toList = x.2.2) (h : w'.ownsRow base T 3 v' (l.length + 1) ((l.map cellsY).flatten ++ [.string c0, .bool x.2.1, .string c2])) : OwnY T w' base v' (l ++ [x]) := by
  have := OwnV.app (T := T) (k := 3) (rows := l.map cellsY) (r := cellsY x) (cellsY_len l) rfl (by rw [List.length_map]; rw [strOf h0, strOf h2] at h; exact h)
  unfold OwnY; rw [List.map_append]; exact this
theorem OwnY.one (l : List (Sl)) : ∀ u ∈ (l.map cellsY).flatten, u.oneCell' = true := fun u hu => by
  obtain ⟨r, hr, hu⟩ := List.mem_flatten.1 hu
  obtain ⟨x, _, rfl⟩ := List.mem_map.1 hr
  simp only [List.mem_cons, List.not_mem_nil, or_false] at hu
  rcases hu with rfl | rfl | rfl <;> rfl
theorem infoY : (Tryz.prog.info? 55).map (fun i => (i.zero, i.size, i.bytes)) = some (some (.agg #[.string ⟨#[]⟩, .bool false, .string ⟨#[]⟩]), 3, 40) := by kernel_rfl
def PredY (l : List Sl) (g : Nat) (lb : Array Value) (p : Sl → Bool) (w : World) : Prop :=
  ∀ W x, x ∈ l → Below w.heap.size w W → Calls Tryz.prog g (#[aggY x] ++ lb) W fun e w' => e = .returned (.bool (p x)) ∧ Below W.heap.size W w'
def idxY (l : List (Sl)) (p : Sl → Bool) : Int := match l.findIdx? p with
  | some k => (k : Int)
  | none => -1
theorem idxY_hit {l : List (Sl)} {p : Sl → Bool} {k : Nat} {x : Sl} (hx : l[k]? = some x) (hp : p x = true) (hb : ∀ (j : Nat) y, j < k → l[j]? = some y → p y = false) : l.findIdx? p = some k := by
  rw [List.findIdx?_eq_some_iff_getElem]
  obtain ⟨hk, e⟩ := List.getElem?_eq_some_iff.1 hx
  exact ⟨hk, by rw [e]; exact hp, fun j hj => by rw [hb j _ hj (List.getElem?_eq_getElem (by omega))]; simp⟩
theorem idxY_miss {l : List (Sl)} {p : Sl → Bool} (hb : ∀ (j : Nat) y, l[j]? = some y → p y = false) : l.findIdx? p = none := by
  rw [List.findIdx?_eq_none_iff]
  intro y hy
  obtain ⟨j, hj⟩ := List.mem_iff_getElem?.1 hy
  exact hb j y hj
set_option maxRecDepth 100000 in
set_option maxHeartbeats 4000000 in
theorem idxY_any (g : Nat) (lb : Array Value) (eg : ∀ args w, (callFunc g args).run Tryz.prog w = .ok (.enter g args) w) (p : Sl → Bool) (v : Value) (l : List (Sl)) (hl : l.length ≤ 90000) (w : World) (h : HoldY w v l) (hp : PredY l g lb p w) :
    Calls Tryz.prog 89 #[v, .func (.func g) #[] lb] w fun e w' => e = .returned (.int .i64 (idxY l p)) ∧ Below w.heap.size w w' := by
  obtain ⟨a, c, b, o, rfl, hc, ha, hcell⟩ := h.parts
  have HC := Lib.hid hcell
  obtain ⟨Z, HZ⟩ : ∃ Z, Hid (idxY l p = Z) := ⟨_, rfl⟩
  rw [HZ.out]
  have HP := Lib.hid hp
  obtain ⟨n, hN⟩ : ∃ n, l.length = n := ⟨_, rfl⟩
  rw [hN] at hc ha hl ⊢
  have HN := Lib.hid hN
  clear hcell hp hN h
  go_enter Tryz.func89, Tryz.ntmps89
  go_wp2
  go_loopw [8] (fun i wr => ∃ k : Nat, k ≤ n ∧ i = .int .i64 k ∧ Hid (∀ (j : Nat) y, j < k → l[j]? = some y → p y = false) ∧ Hid (Below w.heap.size w wr)) (fun i _ => n - (intOf i).toNat)
  case atStart => exact ⟨0, by omega, rfl, Lib.hid (fun j y hj => by omega), Lib.hid (Below.refl _ _)⟩
  case round =>
    obtain ⟨k, hk, rfl, H, HB⟩ := hrel
    by_cases hlt : k < n
    · obtain ⟨rfl, hbw⟩ := ha (by omega)
      obtain ⟨⟨a0, a1, a2⟩, hx⟩ : ∃ x, l[k]? = some x := ⟨_, List.getElem?_eq_getElem (by rw [HN.out]; exact hlt)⟩
      obtain ⟨c0, c1, c2⟩ := HC.out k (a0, a1, a2) hx
      dsimp only at c0 c1 c2
      rw [← HB.out.cell (p := ⟨b, o + k * 3, none⟩) hbw] at c0
      rw [← HB.out.cell (p := ⟨b, o + k * 3 + 1, none⟩) hbw] at c1
      rw [← HB.out.cell (p := ⟨b, o + k * 3 + 2, none⟩) hbw] at c2
      have hcall := HP.out wr (a0, a1, a2) (List.mem_of_getElem? hx) HB.out
      unfold aggY at hcall
      dsimp only at hcall
      have HX := Lib.hid hx
      clear hx
      cases hq : p (a0, a1, a2)
      · rw [hq] at hcall
        have HK : Hid (∀ (j : Nat) y, j < k + 1 → l[j]? = some y → p y = false) := Lib.hid (fun j y hj hy => by
          by_cases e : j = k
          · subst e
            rw [HX.out] at hy; cases hy
            exact hq
          · exact H.out j y (by omega) hy)
        clear hq H
        generalize bsT a0 = X0 at *
        generalize bsT a2 = X2 at *
        go_wp2_with (go_at_fn g; refine hcall.mono ?_; rintro e w1 ⟨rfl, hb1⟩; have HB1 := Lib.hid (HB.out.trans (hb1.mono HB.out.size)); clear hb1)
        go_roundw
        case rel => exact ⟨k + 1, by omega, by go_num, HK, HB1⟩
        case measure => simp [intOf]; omega
      · rw [hq] at hcall
        have HF : Hid ((k : Int) = Z) := Lib.hid (by rw [← HZ.out, idxY, idxY_hit HX.out hq H.out])
        clear hq H
        generalize bsT a0 = X0 at *
        generalize bsT a2 = X2 at *
        go_wp2_with (go_at_fn g; refine hcall.mono ?_; rintro e w1 ⟨rfl, hb1⟩; have HB1 := Lib.hid (HB.out.trans (hb1.mono HB.out.size)); clear hb1)
        go_ret
        exact ⟨reti HF.out, HB1.out⟩
    · obtain rfl : k = n := by omega
      have HF : Hid ((-1 : Int) = Z) := Lib.hid (by rw [← HZ.out, idxY, idxY_miss (fun j y hy => H.out j y (by have := (List.getElem?_eq_some_iff.1 hy).1; rw [HN.out] at this; exact this) hy)])
      clear hlt H
      go_wp2
      go_ret
      exact ⟨reti HF.out, HB.out⟩
theorem idxY_neg {l : List Sl} {p : Sl → Bool} : (0 ≤ idxY l p) = (l.any p = true) := by
  unfold idxY
  cases h : l.findIdx? p with
  | none =>
    rw [List.findIdx?_eq_none_iff] at h
    have : l.any p = false := by rw [List.any_eq_false]; intro x hx; rw [h x hx]; simp
    rw [this]; simp
  | some k =>
    obtain ⟨hk, hp, _⟩ := List.findIdx?_eq_some_iff_getElem.1 h
    have : l.any p = true := List.any_eq_true.2 ⟨_, List.getElem_mem hk, hp⟩
    rw [this]; simp
set_option maxHeartbeats 4000000 in
theorem contY_any (g : Nat) (lb : Array Value) (eg : ∀ args w, (callFunc g args).run Tryz.prog w = .ok (.enter g args) w) (p : Sl → Bool) (v : Value) (l : List Sl) (hl : l.length ≤ 90000) (w : World) (h : HoldY w v l) (hp : PredY l g lb p w) :
    Calls Tryz.prog 59 #[v, .func (.func g) #[] lb] w fun e w' => e = .returned (.bool (l.any p)) ∧ Below w.heap.size w w' := by
  have C := idxY_any g lb eg p v l hl w h hp
  obtain ⟨a, c, b, o, rfl, -⟩ := h.parts
  have HN := Lib.hid (idxY_neg (l := l) (p := p))
  generalize idxY l p = z at *
  generalize hq : l.any p = q at *
  have hz : decide (0 ≤ z) = q := by
    have := HN.out
    cases q
    · rw [decide_eq_false_iff_not, this]; simp
    · rw [decide_eq_true_iff, this]
  generalize l.length = n at *
  clear hp h hl hq
  cases q
  all_goals
    go_enter Tryz.func59, Tryz.ntmps59
    go_wp2_with (go_at_call 89; (with_reducible refine C.mono ?_); rintro e w1 ⟨rfl, hb⟩; have HB := Lib.hid hb; clear hb)
    go_ret
    exact ⟨rfl, HB.out⟩
end Go.Proofs.YtmfmohbcehkooaaGreatDoor
