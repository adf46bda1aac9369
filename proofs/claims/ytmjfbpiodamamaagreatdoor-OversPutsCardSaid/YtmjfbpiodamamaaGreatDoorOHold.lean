/-
  Overrides in memory: held, owned; slices.Clone and slices.IndexFunc of them.
-/
import Derived.Test.YtmjfbpiodamamaaGreatDoorOMath
import Derived.Test.YtmjfbpiodamamaaGreatDoorRowV
import Derived.Test.YtmjfbpiodamamaaGreatDoorBoxV
import Derived.Lib.SliceRun
import Derived.RangeFuncRecord
namespace Go.Proofs.YtmjfbpiodamamaaGreatDoor
open Go.RowKit
abbrev bsT (l : Bs) : ByteArray := ⟨l.toArray⟩
abbrev cellsO (x : Ov) : Rw := [.string (bsT x.1), .int .i64 x.2.1, .int .i64 x.2.2.1, .int .i64 x.2.2.2]
abbrev aggO (x : Ov) : Value := .agg #[.string (bsT x.1), .int .i64 x.2.1, .int .i64 x.2.2.1, .int .i64 x.2.2.2]
abbrev HoldO (w : World) (v : Value) (l : List (Ov)) : Prop := HoldV 4 w v (l.map cellsO)
theorem HoldO.parts {w : World} {v : Value} {l : List (Ov)} (h : HoldO w v l) : ∃ (a : Option Addr) (c b o : Nat), v = .slice a l.length c ∧ l.length ≤ c ∧ (0 < l.length → a = some ⟨b, o, none⟩ ∧ b < w.heap.size) ∧
    ∀ (j : Nat) x, l[j]? = some x → w.cell? ⟨b, o + j * 4, none⟩ = some (.string (bsT x.1)) ∧ w.cell? ⟨b, o + j * 4 + 1, none⟩ = some (.int .i64 x.2.1) ∧ w.cell? ⟨b, o + j * 4 + 2, none⟩ = some (.int .i64 x.2.2.1) ∧ w.cell? ⟨b, o + j * 4 + 3, none⟩ = some (.int .i64 x.2.2.2) := by
  obtain ⟨a, c, b, o, e, hc, ha, hcell⟩ := h
  rw [List.length_map] at e hc ha
  refine ⟨a, c, b, o, e, hc, ha, fun j x hx => ?_⟩
  have := hcell j (cellsO x) (by rw [List.getElem?_map, hx]; rfl)
  exact ⟨this 0 _ (by omega) rfl, this 1 _ (by omega) rfl, this 2 _ (by omega) rfl, this 3 _ (by omega) rfl⟩
abbrev OwnO (w : World) (base : Nat) (v : Value) (l : List (Ov)) : Prop := OwnV 41 4 w base v (l.map cellsO)
theorem cellsO_len (l : List (Ov)) : ∀ r ∈ l.map cellsO, r.length = 4 := fun r hr => by obtain ⟨x, _, rfl⟩ := List.mem_map.1 hr; rfl
theorem OwnO.app {w' : World} {base : Nat} {v' : Value} {l : List (Ov)} {x : Ov} {c0 : ByteArray} (h0 : c0.data.toList = x.1) (h : w'.ownsRow base 41 4 v' (l.length + 1) ((l.map cellsO).flatten ++ [.string c0, .int .i64 x.2.1, .int .i64 x.2.2.1, .int .i64 x.2.2.2])) : OwnO w' base v' (l ++ [x]) := by
  have := OwnV.app (T := 41) (k := 4) (rows := l.map cellsO) (r := cellsO x) (cellsO_len l) rfl (by rw [List.length_map]; rw [strOf h0] at h; exact h)
  unfold OwnO; rw [List.map_append]; exact this
theorem OwnO.one (l : List (Ov)) : ∀ u ∈ (l.map cellsO).flatten, u.oneCell' = true := fun u hu => by
  obtain ⟨r, hr, hu⟩ := List.mem_flatten.1 hu
  obtain ⟨x, _, rfl⟩ := List.mem_map.1 hr
  simp only [List.mem_cons, List.not_mem_nil, or_false] at hu
  rcases hu with rfl | rfl | rfl | rfl <;> rfl
theorem infoO : (Tryz.prog.info? 41).map (fun i => (i.zero, i.size, i.bytes)) = some (some (.agg #[.string ⟨#[]⟩, .int .i64 0, .int .i64 0, .int .i64 0]), 4, 40) := by kernel_rfl
theorem HoldV.flatc {k : Nat} {w : World} {a : Option Addr} {n c : Nat} {rows : List Rw} (hk : 0 < k) (hr : ∀ r ∈ rows, r.length = k) (h : HoldV k w (.slice a n c) rows) (h0 : 0 < rows.length) : ∃ b o, a = some ⟨b, o, none⟩ ∧ b < w.heap.size ∧ ∀ (j : Nat) u, rows.flatten[j]? = some u → w.cell? ⟨b, o + j, none⟩ = some u := by
  obtain ⟨a', c', b, o, e, _, ha, hcell⟩ := h
  simp only [Value.slice.injEq] at e
  obtain ⟨rfl, rfl, rfl⟩ := e
  refine ⟨b, o, (ha h0).1, (ha h0).2, fun m u hu => ?_⟩
  obtain ⟨j, i, r, rfl, hi, hj, hr⟩ := flat_get k hk rows hr m u hu
  rw [← Nat.add_assoc]
  exact hcell j r hj i u hi hr
theorem own_emptyO (w : World) (base : Nat) (hb : base ≤ w.heap.size) : OwnO (w.alloc (.cells #[] 41)) base (.slice (some ⟨w.heap.size, 0, none⟩) 0 0) [] :=
  ⟨fun r hr => by simp at hr, rfl, .inr ⟨w.heap.size, 0, #[], rfl, hb, World.alloc_heap_new w _, Nat.le_refl _, Nat.zero_le _, rfl, rfl⟩⟩
set_option maxRecDepth 100000 in
set_option maxHeartbeats 4000000 in
theorem cloneO_any (v : Value) (l : List (Ov)) (hl : l.length ≤ 90000) (w : World) (h : HoldO w v l) : Calls Tryz.prog 61 #[v] w fun e w' => ∃ v', e = .returned v' ∧ OwnO w' w.heap.size v' l ∧ Below w.heap.size w w' := by
  have hh := h
  obtain ⟨a, c, b, o, rfl, hc, ha, hcell⟩ := h.parts
  obtain ⟨i0, hi, hz0, hz1, hz2'⟩ := info_parts infoO
  have HB1 := Lib.hid ((Below.refl w.heap.size w).alloc (Nat.le_refl _) (.cells #[] 41))
  have HE := Lib.hid (own_emptyO w w.heap.size (Nat.le_refl _))
  have HD := Lib.hid (And.intro (flat_len 4 (l.map cellsO) (cellsO_len l)) (OwnO.one l))
  have HF : Hid (0 < l.length → ∃ b o, a = some ⟨b, o, none⟩ ∧ b < w.heap.size ∧ ∀ (j : Nat) u, (l.map cellsO).flatten[j]? = some u → w.cell? ⟨b, o + j, none⟩ = some u) := Lib.hid (fun h0 => HoldV.flatc (by omega) (cellsO_len l) hh (by rw [List.length_map]; exact h0))
  obtain ⟨n, hN⟩ : ∃ n, l.length = n := ⟨_, rfl⟩
  rw [List.length_map] at HD
  rw [hN] at hc ha hl HF HD ⊢
  have HN := Lib.hid hN
  clear hcell hN h hh ha
  have hq : ∀ (w : World) (a : Option Addr) (n c n' c' : Nat), (binOp .eql 22 (.slice a n c) (.slice none n' c')).run Tryz.prog w = .ok (.bool a.isNone) w := fun w a n c n' c' => Lib.run_eql_slice_nil w _ _ a n c n' c' Tryz.underlying22
  cases a with
  | none =>
    have hn : n = 0 := by
      by_cases g : 0 < n
      · obtain ⟨_, _, e, _⟩ := HF.out g; cases e
      · omega
    have HL : Hid (l = []) := Lib.hid (List.eq_nil_of_length_eq_zero (by rw [HN.out, hn]))
    subst hn
    go_enter Tryz.func61, Tryz.ntmps61
    go_wp2
    go_ret
    exact ⟨_, rfl, by rw [HL.out]; exact OwnV.nil _ _ _ _, Below.refl _ _⟩
  | some A =>
    have HNW : Hid (∀ (j : Nat) u, (l.map cellsO).flatten[j]? = some u → (w.alloc (.cells #[] 41)).cell? (A.add j) = some u) := Lib.hid (fun j u hu => by
      have hj : j < n * 4 := by rw [← HD.out.1]; exact (List.getElem?_eq_some_iff.1 hu).1
      obtain ⟨b, o, e, hbw, hcl⟩ := HF.out (by omega)
      cases e
      rw [Addr.add_lit]
      exact (HB1.out.cell (p := ⟨b, o + j, none⟩) hbw).trans (hcl j u hu))
    go_enter Tryz.func61, Tryz.ntmps61
    go_wp2_with (at_builtin; refine wpList_append_own _ rfl _ _ 22 rfl w.heap.size 41 i0 _ 4 40 Tryz.underlying22 hi hz0 hz1 hz2' rfl (by decide) _ 0 [] rfl HE.out.2 A n _ (l.map cellsO).flatten rfl HD.out.1 HNW.out HD.out.2 (by unfold maxLen; omega) (by omega) (by simp) ?_)
    intro v' w3 hown' hgrow _
    have HO : Hid (OwnO w3 w.heap.size v' l) := Lib.hid ⟨cellsO_len l, by rw [List.length_map, HN.out]; simpa using hown'⟩
    have HB : Hid (Below w.heap.size w w3) := Lib.hid (HB1.out.grown hgrow (by simp) (fun k hk => by simp [Value.ownBlock] at hk; omega))
    clear hown' hgrow
    go_wp2
    go_ret
    exact ⟨_, rfl, HO.out, HB.out⟩
def PredO (g : Nat) (lb : Array Value) (p : Ov → Bool) (w : World) : Prop :=
  ∀ W x, Below w.heap.size w W → Calls Tryz.prog g (#[aggO x] ++ lb) W fun e w' => e = .returned (.bool (p x)) ∧ Below W.heap.size W w'
def idxO (l : List (Ov)) (p : Ov → Bool) : Int := match l.findIdx? p with
  | some k => (k : Int)
  | none => -1
theorem idxO_hit {l : List (Ov)} {p : Ov → Bool} {k : Nat} {x : Ov} (hx : l[k]? = some x) (hp : p x = true) (hb : ∀ (j : Nat) y, j < k → l[j]? = some y → p y = false) : l.findIdx? p = some k := by
  rw [List.findIdx?_eq_some_iff_getElem]
  obtain ⟨hk, e⟩ := List.getElem?_eq_some_iff.1 hx
  exact ⟨hk, by rw [e]; exact hp, fun j hj => by rw [hb j _ hj (List.getElem?_eq_getElem (by omega))]; simp⟩
theorem idxO_miss {l : List (Ov)} {p : Ov → Bool} (hb : ∀ (j : Nat) y, l[j]? = some y → p y = false) : l.findIdx? p = none := by
  rw [List.findIdx?_eq_none_iff]
  intro y hy
  obtain ⟨j, hj⟩ := List.mem_iff_getElem?.1 hy
  exact hb j y hj
set_option maxRecDepth 100000 in
set_option maxHeartbeats 4000000 in
theorem idxO_any (g : Nat) (lb : Array Value) (eg : ∀ args w, (callFunc g args).run Tryz.prog w = .ok (.enter g args) w) (p : Ov → Bool) (v : Value) (l : List (Ov)) (hl : l.length ≤ 90000) (w : World) (h : HoldO w v l) (hp : PredO g lb p w) :
    Calls Tryz.prog 62 #[v, .func (.func g) #[] lb] w fun e w' => e = .returned (.int .i64 (idxO l p)) ∧ Below w.heap.size w w' := by
  obtain ⟨a, c, b, o, rfl, hc, ha, hcell⟩ := h.parts
  have HC := Lib.hid hcell
  obtain ⟨Z, HZ⟩ : ∃ Z, Hid (idxO l p = Z) := ⟨_, rfl⟩
  rw [HZ.out]
  have HP := Lib.hid hp
  obtain ⟨n, hN⟩ : ∃ n, l.length = n := ⟨_, rfl⟩
  rw [hN] at hc ha hl ⊢
  have HN := Lib.hid hN
  clear hcell hp hN h
  go_enter Tryz.func62, Tryz.ntmps62
  go_wp2
  go_loopw [8] (fun i wr => ∃ k : Nat, k ≤ n ∧ i = .int .i64 k ∧ Hid (∀ (j : Nat) y, j < k → l[j]? = some y → p y = false) ∧ Hid (Below w.heap.size w wr)) (fun i _ => n - (intOf i).toNat)
  case atStart => exact ⟨0, by omega, rfl, Lib.hid (fun j y hj => by omega), Lib.hid (Below.refl _ _)⟩
  case round =>
    obtain ⟨k, hk, rfl, H, HB⟩ := hrel
    by_cases hlt : k < n
    · obtain ⟨rfl, hbw⟩ := ha (by omega)
      obtain ⟨⟨a0, a1, a2, a3⟩, hx⟩ : ∃ x, l[k]? = some x := ⟨_, List.getElem?_eq_getElem (by rw [HN.out]; exact hlt)⟩
      obtain ⟨c0, c1, c2, c3⟩ := HC.out k (a0, a1, a2, a3) hx
      dsimp only at c0 c1 c2 c3
      rw [← HB.out.cell (p := ⟨b, o + k * 4, none⟩) hbw] at c0
      rw [← HB.out.cell (p := ⟨b, o + k * 4 + 1, none⟩) hbw] at c1
      rw [← HB.out.cell (p := ⟨b, o + k * 4 + 2, none⟩) hbw] at c2
      rw [← HB.out.cell (p := ⟨b, o + k * 4 + 3, none⟩) hbw] at c3
      have hcall := HP.out wr (a0, a1, a2, a3) HB.out
      unfold aggO at hcall
      dsimp only at hcall
      have HX := Lib.hid hx
      clear hx
      cases hq : p (a0, a1, a2, a3)
      · rw [hq] at hcall
        have HK : Hid (∀ (j : Nat) y, j < k + 1 → l[j]? = some y → p y = false) := Lib.hid (fun j y hj hy => by
          by_cases e : j = k
          · subst e
            rw [HX.out] at hy; cases hy
            exact hq
          · exact H.out j y (by omega) hy)
        clear hq H
        generalize bsT a0 = X0 at *
        go_wp2_with (go_at_fn g; refine hcall.mono ?_; rintro e w1 ⟨rfl, hb1⟩; have HB1 := Lib.hid (HB.out.trans (hb1.mono HB.out.size)); clear hb1)
        go_roundw
        case rel => exact ⟨k + 1, by omega, by go_num, HK, HB1⟩
        case measure => simp [intOf]; omega
      · rw [hq] at hcall
        have HF : Hid ((k : Int) = Z) := Lib.hid (by rw [← HZ.out, idxO, idxO_hit HX.out hq H.out])
        clear hq H
        generalize bsT a0 = X0 at *
        go_wp2_with (go_at_fn g; refine hcall.mono ?_; rintro e w1 ⟨rfl, hb1⟩; have HB1 := Lib.hid (HB.out.trans (hb1.mono HB.out.size)); clear hb1)
        go_ret
        exact ⟨reti HF.out, HB1.out⟩
    · obtain rfl : k = n := by omega
      have HF : Hid ((-1 : Int) = Z) := Lib.hid (by rw [← HZ.out, idxO, idxO_miss (fun j y hy => H.out j y (by have := (List.getElem?_eq_some_iff.1 hy).1; rw [HN.out] at this; exact this) hy)])
      clear hlt H
      go_wp2
      go_ret
      exact ⟨reti HF.out, HB.out⟩
end Go.Proofs.YtmjfbpiodamamaaGreatDoor
