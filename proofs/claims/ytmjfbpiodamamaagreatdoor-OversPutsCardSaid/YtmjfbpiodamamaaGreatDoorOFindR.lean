/-
  keyed.Find of overrides and overs.Find: what each returns; nothing old turns. The reference's Find of overrides, and idText: what each returns; nothing old turns.
-/
import Derived.Test.YtmjfbpiodamamaaGreatDoorOCheck
import Derived.Deep.RegionHeld3
import Derived.RangeFuncBox
import Derived.Test.YtmjfbpiodamamaaGreatDoorTextsWalk
namespace Go.Proofs.YtmjfbpiodamamaaGreatDoor
open Go.RowKit
def pathIsO (k : Bs) (x : Ov) : Bool := decide (x.1 = k)
set_option maxRecDepth 100000 in
set_option maxHeartbeats 4000000 in
theorem findpO_any (B1 B2 : Nat) (k : ByteArray) (x : Ov) (W : World) (h1 : W.cell? ⟨B1, 0, none⟩ = some kyO) (h2 : W.cell? ⟨B2, 0, none⟩ = some (.string k)) :
    Calls Tryz.prog 65 #[aggO x, .pointer (some ⟨B1, 0, none⟩), .pointer (some ⟨B2, 0, none⟩)] W fun e w' => e = .returned (.bool (pathIsO k.data.toList x)) ∧ Below W.heap.size W w' := by
  obtain ⟨t, m, u, g⟩ := x
  unfold kyO at h1
  have hq := eqT (bsT t) k
  rw [bytesOf] at hq
  unfold pathIsO aggO
  dsimp only
  have PA := fun w => pathOf_any (bsT t) m u g w
  generalize decide (t = k.data.toList) = q at *
  generalize bsT t = X at *
  have l1 := World.block_lt_of_cell? W _ h1
  have l2 := World.block_lt_of_cell? W _ h2
  have B0 := (Below.refl W.heap.size W).alloc (Nat.le_refl _) (.cells #[.string X, .int .i64 m, .int .i64 u, .int .i64 g] 41)
  obtain ⟨x0, x1, x2, x3⟩ := boxV4 W (.string X) (.int .i64 m) (.int .i64 u) (.int .i64 g) 41
  have k1 := (B0.cell l1).trans h1
  have k2 := (B0.cell l2).trans h2
  have hs := And.intro x0 (And.intro x1 (And.intro x2 (And.intro x3 (And.intro k1 (And.intro k2 B0)))))
  clear x0 x1 x2 x3 k1 k2
  go_enter Tryz.func65, Tryz.ntmps65
  go_wp2
  generalize W.alloc (.cells #[.string X, .int .i64 m, .int .i64 u, .int .i64 g] 41) = W2 at *
  obtain ⟨x0, x1, x2, x3, k1, k2, hB⟩ := hs
  have hs := And.intro x0 (And.intro x1 (And.intro x2 (And.intro x3 (And.intro k1 (And.intro k2 hB)))))
  clear B0 h1 h2
  have BE := fun (V : World) (h : V.cell? ⟨W.heap.size, 0, none⟩ = some (.string X) ∧ V.cell? ⟨W.heap.size, 1, none⟩ = some (.int .i64 m) ∧ V.cell? ⟨W.heap.size, 2, none⟩ = some (.int .i64 u) ∧ V.cell? ⟨W.heap.size, 3, none⟩ = some (.int .i64 g) ∧ V.cell? ⟨B1, 0, none⟩ = some (.func (.func 34) #[] #[]) ∧ V.cell? ⟨B2, 0, none⟩ = some (.string k) ∧ Below W.heap.size W V) => AtF.be (w := W) (l := [(⟨W.heap.size, 0, none⟩, .string X), (⟨W.heap.size, 1, none⟩, .int .i64 m), (⟨W.heap.size, 2, none⟩, .int .i64 u), (⟨W.heap.size, 3, none⟩, .int .i64 g), (⟨B1, 0, none⟩, .func (.func 34) #[] #[]), (⟨B2, 0, none⟩, .string k)]) h
  go_region_held3 (fun V => V.cell? ⟨W.heap.size, 0, none⟩ = some (.string X) ∧ V.cell? ⟨W.heap.size, 1, none⟩ = some (.int .i64 m) ∧ V.cell? ⟨W.heap.size, 2, none⟩ = some (.int .i64 u) ∧ V.cell? ⟨W.heap.size, 3, none⟩ = some (.int .i64 g) ∧ V.cell? ⟨B1, 0, none⟩ = some (.func (.func 34) #[] #[]) ∧ V.cell? ⟨B2, 0, none⟩ = some (.string k) ∧ Below W.heap.size W V)
    (first | assumption | exact hs | exact AtF.dr (w := W) (l := [(⟨W.heap.size, 0, none⟩, .string X), (⟨W.heap.size, 1, none⟩, .int .i64 m), (⟨W.heap.size, 2, none⟩, .int .i64 u), (⟨W.heap.size, 3, none⟩, .int .i64 g), (⟨B1, 0, none⟩, .func (.func 34) #[] #[]), (⟨B2, 0, none⟩, .string k)]) hs | exact AtF.dr (w := W) (l := [(⟨W.heap.size, 0, none⟩, .string X), (⟨W.heap.size, 1, none⟩, .int .i64 m), (⟨W.heap.size, 2, none⟩, .int .i64 u), (⟨W.heap.size, 3, none⟩, .int .i64 g), (⟨B1, 0, none⟩, .func (.func 34) #[] #[]), (⟨B2, 0, none⟩, .string k)]) (by assumption) | exact AtF.on (w := W) (l := [(⟨W.heap.size, 0, none⟩, .string X), (⟨W.heap.size, 1, none⟩, .int .i64 m), (⟨W.heap.size, 2, none⟩, .int .i64 u), (⟨W.heap.size, 3, none⟩, .int .i64 g), (⟨B1, 0, none⟩, .func (.func 34) #[] #[]), (⟨B2, 0, none⟩, .string k)]) (by assumption) (by assumption) | exact AtF.al (w := W) (l := [(⟨W.heap.size, 0, none⟩, .string X), (⟨W.heap.size, 1, none⟩, .int .i64 m), (⟨W.heap.size, 2, none⟩, .int .i64 u), (⟨W.heap.size, 3, none⟩, .int .i64 g), (⟨B1, 0, none⟩, .func (.func 34) #[] #[]), (⟨B2, 0, none⟩, .string k)]) (by assumption) _ | exact AtF.ald (w := W) (l := [(⟨W.heap.size, 0, none⟩, .string X), (⟨W.heap.size, 1, none⟩, .int .i64 m), (⟨W.heap.size, 2, none⟩, .int .i64 u), (⟨W.heap.size, 3, none⟩, .int .i64 g), (⟨B1, 0, none⟩, .func (.func 34) #[] #[]), (⟨B2, 0, none⟩, .string k)]) (by assumption) _ | exact AtF.al (w := W) (l := [(⟨W.heap.size, 0, none⟩, .string X), (⟨W.heap.size, 1, none⟩, .int .i64 m), (⟨W.heap.size, 2, none⟩, .int .i64 u), (⟨W.heap.size, 3, none⟩, .int .i64 g), (⟨B1, 0, none⟩, .func (.func 34) #[] #[]), (⟨B2, 0, none⟩, .string k)]) hs _ | exact AtF.ald (w := W) (l := [(⟨W.heap.size, 0, none⟩, .string X), (⟨W.heap.size, 1, none⟩, .int .i64 m), (⟨W.heap.size, 2, none⟩, .int .i64 u), (⟨W.heap.size, 3, none⟩, .int .i64 g), (⟨B1, 0, none⟩, .func (.func 34) #[] #[]), (⟨B2, 0, none⟩, .string k)]) hs _)
    ((go_at_call 34; (with_reducible refine (PA _).mono ?_); rintro e w3 ⟨rfl, hb⟩))
  all_goals
    rename_i hHeld
    have HW3 := Lib.hid (BE _ hHeld)
    clear hHeld
    go_wp2
    go_ret
    exact ⟨rfl, HW3.out⟩
set_option maxRecDepth 100000 in
set_option maxHeartbeats 4000000 in
theorem kfindO_any (v : Value) (l : List Ov) (hl : l.length ≤ 90000) (k : ByteArray) (w : World) (h : HoldO w v l) :
    Calls Tryz.prog 44 #[v, kyO, .string k] w fun e w' => e = .returned (.int .i64 (idxO l (pathIsO k.data.toList))) ∧ Below w.heap.size w w' := by
  have B2 := ((Below.refl w.heap.size w).alloc (Nat.le_refl _) (.cells #[kyO] 62)).alloc (by simp) (.cells #[.string k] 9)
  have q1 := (Boxed.new w 62 kyO).alloc (.cells #[.string k] 9)
  have q2 := Boxed.new (w.alloc (.cells #[kyO] 62)) 9 (.string k)
  rw [World.size_alloc] at q2
  have I := idxO_any 65 #[.pointer (some ⟨w.heap.size, 0, none⟩), .pointer (some ⟨w.heap.size + 1, 0, none⟩)] (enters_of Tryz.func65 (by kernel_rfl) rfl) (pathIsO k.data.toList) v l hl _ (HoldV.on h B2)
    (fun W x hb => findpO_any _ _ k x W ((hb.cell q1.lt).trans q1.cell) ((hb.cell q2.lt).trans q2.cell))
  have HB2 := Lib.hid B2
  obtain ⟨a, c, rfl⟩ : ∃ a c, v = .slice a l.length c := by obtain ⟨a, c, b, o, e, _⟩ := h.parts; exact ⟨a, c, e⟩
  clear B2 q1 q2 h
  unfold kyO at I ⊢
  generalize idxO l (pathIsO k.data.toList) = z at *
  generalize l.length = n at *
  go_enter Tryz.func44, Tryz.ntmps44
  go_wp2_with (go_at_call 62; (with_reducible refine I.mono ?_); rintro e w1 ⟨rfl, hb⟩; have HB := Lib.hid (HB2.out.trans (hb.mono HB2.out.size)); clear hb)
  go_ret
  exact ⟨rfl, HB.out⟩
theorem findO_any (v : Value) (l : List Ov) (hl : l.length ≤ 90000) (k : ByteArray) (w : World) (h : HoldO w v l) :
    Calls Tryz.prog 20 #[v, .string k] w fun e w' => e = .returned (.int .i64 (idxO l (pathIsO k.data.toList))) ∧ Below w.heap.size w w' := by
  have I := kfindO_any v l hl k w h
  unfold kyO at I
  obtain ⟨a, c, rfl⟩ : ∃ a c, v = .slice a l.length c := by obtain ⟨a, c, b, o, e, _⟩ := h.parts; exact ⟨a, c, e⟩
  generalize idxO l (pathIsO k.data.toList) = z at *
  clear h hl
  generalize l.length = n at *
  go_enter Tryz.func20, Tryz.ntmps20
  go_wp2_with (go_at_call 44; (with_reducible refine I.mono ?_); rintro e w1 ⟨rfl, hb⟩; have HB := Lib.hid hb; clear hb)
  go_ret
  exact ⟨rfl, HB.out⟩
end Go.Proofs.YtmjfbpiodamamaaGreatDoor
namespace Go.Proofs.YtmjfbpiodamamaaGreatDoor
open Go.RowKit
set_option maxRecDepth 100000 in
set_option maxHeartbeats 4000000 in
theorem findO_ref (v : Value) (l : List Ov) (hl : l.length ≤ 90000) (K : ByteArray) (w : World) (h : HoldO w v l) :
    Calls Tryz.prog 21 #[v, .string K] w fun e w' => e = .returned (.int .i64 (idxO l (pathIsO K.data.toList))) ∧ w = w' := by
  obtain ⟨a, c, b, o, rfl, hc, ha, hcell⟩ := h.parts
  have HC := Lib.hid hcell
  obtain ⟨p, hp⟩ : ∃ p, pathIsO K.data.toList = p := ⟨_, rfl⟩
  have HPD : Hid (∀ x : Ov, p x = decide (x.1 = K.data.toList)) := Lib.hid (fun x => by rw [← hp]; rfl)
  obtain ⟨Z, HZ⟩ : ∃ Z, Hid (idxO l p = Z) := ⟨_, rfl⟩
  rw [hp, HZ.out]
  obtain ⟨n, hN⟩ : ∃ n, l.length = n := ⟨_, rfl⟩
  rw [hN] at hc ha hl ⊢
  have HN := Lib.hid hN
  clear hcell hN h hp
  go_enter Tryz.func21, Tryz.ntmps21
  go_wp2
  go_loop [5] (fun i => ∃ k : Nat, k ≤ n ∧ i = .int .i64 k ∧ Hid (∀ (j : Nat) y, j < k → l[j]? = some y → p y = false)) (fun i => n - (intOf i).toNat)
  case atStart => exact ⟨0, by omega, rfl, Lib.hid (fun j y hj => by omega)⟩
  case round =>
    obtain ⟨k, hk, rfl, H⟩ := hrel
    by_cases hlt : k < n
    · obtain ⟨rfl, hbw⟩ := ha (by omega)
      obtain ⟨⟨t, m, u, g⟩, hx⟩ : ∃ x, l[k]? = some x := ⟨_, List.getElem?_eq_getElem (by rw [HN.out]; exact hlt)⟩
      obtain ⟨c0, -, -, -⟩ := HC.out k _ hx
      dsimp only at c0
      have HX := Lib.hid hx
      have q0 := eqT (bsT t) K
      rw [bytesOf] at q0
      clear hx
      cases hq : p (t, m, u, g)
      · have HK : Hid (∀ (j : Nat) y, j < k + 1 → l[j]? = some y → p y = false) := Lib.hid (fun j y hj hy => by
          by_cases e : j = k
          · subst e; rw [HX.out] at hy; cases hy; exact hq
          · exact H.out j y (by omega) hy)
        rw [HPD.out] at hq
        dsimp only at hq
        rw [hq] at q0
        clear hq H
        generalize bsT t = X at *
        go_wp2
        go_round
        case rel => exact ⟨k + 1, by omega, by go_num, HK⟩
        case measure => simp [intOf]; omega
      · have HF : Hid ((k : Int) = Z) := Lib.hid (by rw [← HZ.out, idxO, idxO_hit HX.out hq H.out])
        rw [HPD.out] at hq
        dsimp only at hq
        rw [hq] at q0
        clear hq H
        generalize bsT t = X at *
        go_wp2
        go_ret
        exact ⟨reti HF.out, rfl⟩
    · obtain rfl : k = n := by omega
      have HF : Hid ((-1 : Int) = Z) := Lib.hid (by rw [← HZ.out, idxO, idxO_miss (fun j y hy => H.out j y (by have := (List.getElem?_eq_some_iff.1 hy).1; rw [HN.out] at this; exact this) hy)])
      clear hlt H
      go_wp2
      go_ret
      exact ⟨reti HF.out, rfl⟩
theorem idText_any (n : Int) (h0 : -9223372036854775808 ≤ n) (h1 : n ≤ 9223372036854775807) (w : World) (h : Laid w) :
    Calls Tryz.prog 26 #[.int .i64 n] w fun e w' => e = .returned (.string (bsT (idO n))) ∧ Below w.heap.size w w' := by
  have T := text_any n h0 h1 w h
  have HE : Hid ((⟨#[35]⟩ : ByteArray) ++ ⟨(Lib.itoa n).toArray⟩ = bsT (idO n)) := Lib.hid (by
    apply ByteArray.ext
    simp [idO])
  have hsz : (ByteArray.mk (Lib.itoa n).toArray).size ≤ 20 := by have := itoa_len n h0 h1; simpa [ByteArray.size] using this
  generalize (⟨(Lib.itoa n).toArray⟩ : ByteArray) = X at *
  clear h0 h1 h
  go_enter Tryz.func26, Tryz.ntmps26
  go_wp2_with (go_at_call 49; (with_reducible refine T.mono ?_); rintro e w1 ⟨rfl, hb⟩; have HB := Lib.hid hb; clear hb T)
  go_ret
  exact ⟨by first | (rw [HE.out]; done) | (rw [HE.out]; rfl) | (show Ending.returned (.string _) = _; rw [HE.out]), HB.out⟩
end Go.Proofs.YtmjfbpiodamamaaGreatDoor
