/-
  Lacks of groups of relations: what it returns; nothing old turns. Condition: LaidV.
-/
import Derived.Test.YtkcamfcjkjiijaaGreatDoorGQLacks
namespace Go.Proofs.YtkcamfcjkjiijaaGreatDoor
open Go.RowKit
set_option maxHeartbeats 8000000 in
theorem lacks1_any (x : Rl) (hx : Small1 x) (v : Value) (t : List Rl) (hl : t.length ≤ 90000) (hs : SmallQ t) (g : Nat) (w : World) (h : HoldQ w v t) (hL : LaidV w) (h0 : w.cell? ⟨g, 0, none⟩ = some v) : Calls Tryz.prog 70 #[aggQ x, .pointer (some ⟨g, 0, none⟩)] w fun e w' => e = .returned (.bool (metB x t)) ∧ Below w.heap.size w w' := by
  have B0 := (Below.refl w.heap.size w).alloc (Nat.le_refl _) (.cells #[.string (bsT x.1), .string (bsT x.2.1), .string (bsT x.2.2)] 75)
  have M := met_any x hx v t hl hs _ (HoldV.on h B0) (hL.on B0)
  have k0 := (B0.cell (p := ⟨g, 0, none⟩) (World.block_lt_of_cell? w _ h0)).trans h0
  obtain ⟨a, c, b, o, rfl, -⟩ := h.parts
  have HB0 := Lib.hid B0
  obtain ⟨p, q, z⟩ := x
  unfold aggQ at M ⊢
  dsimp only at M HB0 k0 ⊢
  generalize metB (p, q, z) t = r at *
  generalize t.length = n at *
  generalize bsT p = P at *
  generalize bsT q = Q at *
  generalize bsT z = Z at *
  clear B0 h hL hs hl hx h0
  go_enter Tryz.func70, Tryz.ntmps70
  go_wp2_with (go_at_call 71; (with_reducible refine M.mono ?_); rintro e w1 ⟨rfl, hb⟩; have HB := Lib.hid (HB0.out.trans (hb.mono HB0.out.size)); clear hb)
  go_ret
  exact ⟨rfl, HB.out⟩
theorem infoIn : (Tryz.prog.info? 3).map (fun i => (i.zero, i.size, i.bytes)) = some (some (.int .i64 0), 1, 8) := by kernel_rfl
/-- The places below k of groups of which nothing is there. -/
def lackL (t : List Rl) : Nat → List (List Rl) → List Nat
  | _, [] => []
  | k, g :: l => if g.any (fun x => metB x t) then lackL t (k + 1) l else k :: lackL t (k + 1) l
abbrev OwnIn (w : World) (B : Nat) (v : Value) (l : List Nat) : Prop := OwnV 3 1 w B v (l.map fun (k : Nat) => [Value.int .i64 (k : Int)])
theorem lackL_len (t : List Rl) : ∀ (l : List (List Rl)) (k : Nat), (lackL t k l).length ≤ l.length
  | [], k => by simp [lackL]
  | g :: l, k => by
    have := lackL_len t l (k + 1)
    rw [lackL]
    split <;> simp <;> omega
set_option maxRecDepth 100000 in
set_option maxHeartbeats 16000000 in
theorem lacks_any (v u : Value) (l : List Gv) (hl : l.length ≤ 500) (hs : SmallG l) (t : List Rl) (ht : t.length ≤ 90000) (hst : SmallQ t) (w : World) (h : HoldGs w v l) (h2 : HoldQ w u t) (hL : LaidV w) :
    Calls Tryz.prog 37 #[v, u] w fun e w' => ∃ r, e = .returned r ∧ OwnIn w' w.heap.size r (lackL t 0 (fsts l)) ∧ Below w.heap.size w w' := by
  have EN : ∀ args w, (callFunc 70 args).run Tryz.prog w = .ok (.enter 70 args) w := enters_of Tryz.func70 (by kernel_rfl) rfl
  obtain ⟨i0, hi, hz0, hz1, hz2'⟩ := info_parts infoIn
  have B0 := (Below.refl w.heap.size w).alloc (Nat.le_refl _) (.cells #[u] 32)
  have z0 := boxV1 w u 32
  have hsz0 : w.heap.size < (w.alloc (.cells #[u] 32)).heap.size := by rw [World.size_alloc]; omega
  have CF : Hid (∀ (x : Gv), x ∈ l → ∀ W, Below (w.alloc (.cells #[u] 32)).heap.size (w.alloc (.cells #[u] 32)) W → Calls Tryz.prog 69 #[x.2, .func (.func 70) #[] #[.pointer (some ⟨w.heap.size, 0, none⟩)]] W fun e w' => e = .returned (.bool (x.1.any fun y => metB y t)) ∧ Below W.heap.size W w') := Lib.hid (fun x hx W hW =>
    contQ_any 70 #[.pointer (some ⟨w.heap.size, 0, none⟩)] EN (fun y => metB y t) x.2 x.1 (by have := (hs x hx).2; omega) W (HoldV.on (HoldV.on (h.2 x hx) B0) hW) (fun W' y hy hb => by
      have hbW := hW.trans (hb.mono hW.size)
      have := lacks1_any y ((hs x hx).1 y hy) u t ht hst w.heap.size W' (HoldV.on (HoldV.on h2 B0) hbW) ((hL.on B0).on hbW) ((hbW.cell (p := ⟨w.heap.size, 0, none⟩) hsz0).trans z0)
      simpa using this))
  have HG := Lib.hid (h.on B0)
  obtain ⟨a, c, b, o, rfl, hc, ha, hcell⟩ := (h.on B0).parts
  obtain ⟨ua, uc, -, -, rfl, -⟩ := h2.parts
  have HC := Lib.hid hcell
  have HB0 := Lib.hid B0
  obtain ⟨n, hN⟩ : ∃ n, l.length = n := ⟨_, rfl⟩
  rw [hN] at hc ha hl ⊢
  have HN := Lib.hid hN
  generalize t.length = tn at *
  have hfl : (fsts l).length = n := by rw [List.length_map]; exact hN
  have HFL := Lib.hid hfl
  have hlk := lackL_len t (fsts l) 0
  have hlk2 : (lackL t 0 (fsts l)).length ≤ 500 := by omega
  have HLK := Lib.hid hlk2
  clear hcell hN h h2 hs hst hL B0 z0 hsz0 EN hfl hlk hlk2
  go_enter Tryz.func37, Tryz.ntmps37
  go_wp2
  obtain ⟨w0, hw0⟩ : ∃ w0, w.alloc (.cells #[.slice ua tn uc] 32) = w0 := ⟨_, rfl⟩
  rw [hw0] at HG HC HB0 CF ha ⊢
  clear hw0
  have hsz0 := HB0.out.size
  go_loopw [5, 10] (fun u i wr => ∃ (k : Nat) (xs : List Nat), k ≤ n ∧ i = .int .i64 k ∧ Hid (xs ++ lackL t k ((fsts l).drop k) = lackL t 0 (fsts l)) ∧ xs.length ≤ k ∧ Hid (OwnIn wr w0.heap.size u xs) ∧ Hid (Below w0.heap.size w0 wr)) (fun _ i _ => n - (intOf i).toNat)
  case atStart => exact ⟨0, [], by omega, rfl, Lib.hid rfl, by simp, Lib.hid (OwnV.nil _ _ _ _), Lib.hid (Below.refl _ _)⟩
  case round =>
    obtain ⟨k, xs, hk, rfl, HX, hxk, HO, HB⟩ := hrel
    have hsz := HB.out.size
    by_cases hlt : k < n
    · obtain ⟨rfl, hbw⟩ := ha (by omega)
      obtain ⟨⟨g0, sv⟩, hx⟩ : ∃ x, l[k]? = some x := ⟨_, List.getElem?_eq_getElem (by rw [HN.out]; exact hlt)⟩
      have c0 := HC.out k _ hx
      dsimp only at c0
      rw [← HB.out.cell (p := ⟨b, o + k, none⟩) hbw] at c0
      have C := CF.out _ (List.mem_of_getElem? hx) wr HB.out
      dsimp only at C
      obtain ⟨sa, sc, -, -, hsv, -⟩ := (HG.out.2 _ (List.mem_of_getElem? hx)).parts
      dsimp only at hsv
      subst hsv
      have hfx : (fsts l)[k]? = some g0 := by rw [List.getElem?_map, hx]; rfl
      have hdr := drop_atQ hfx
      obtain ⟨r, hr⟩ : ∃ r, (g0.any fun y => metB y t) = r := ⟨_, rfl⟩
      rw [hr] at C
      generalize g0.length = gn at *
      cases r
      · have HX2 : Hid ((xs ++ [k]) ++ lackL t (k + 1) ((fsts l).drop (k + 1)) = lackL t 0 (fsts l)) := Lib.hid (by
          rw [← HX.out, hdr, lackL, hr]; simp)
        clear hx hfx hdr hr HX
        go_wp2_with (first
          | (go_at_call 69; (with_reducible refine C.mono ?_); rintro e w2 ⟨rfl, hb⟩; have HB2 := Lib.hid (HB.out.trans (hb.mono hsz)); have HO2 := Lib.hid (OwnV.on HO.out hb); have hz2 := HB2.out.size; clear hb C HO)
          | (at_builtin; refine wpList_append_own _ rfl _ _ 45 rfl w0.heap.size 3 i0 _ 1 8 Tryz.underlying45 hi hz0 hz1 hz2' rfl (by decide) _ _ _ rfl (World.ownsRow.alloc HO2.out.2 _) ⟨w2.heap.size, 0, none⟩ 1 1 [.int .i64 k] rfl rfl ?c1 ?c2 ?c3 ?c4 ?c5 ?_))
        case c1 =>
          intro j u hj
          match j, hj with
          | 0, hj => simp at hj; subst hj; simp [Addr.add]
        case c2 => intro u hu; simp at hu; subst hu; rfl
        case c3 => rw [List.length_map]; unfold maxLen; omega
        case c4 => rw [List.length_map]; omega
        case c5 => simp; omega
        intro v' w3 hown' hgrow _
        have HO3 : Hid (OwnIn w3 w0.heap.size v' (xs ++ [k])) := Lib.hid (by
          unfold OwnIn
          rw [List.map_append]
          exact OwnV.app HO2.out.1 rfl (by simpa using hown'))
        have HB3 : Hid (Below w0.heap.size w0 w3) := Lib.hid (OwnV.below HB2.out HO2.out hgrow (Nat.le_refl _) hz2)
        clear hown' hgrow
        go_wp2
        go_roundw
        case rel => exact ⟨k + 1, _, by omega, by go_num, HX2, by rw [List.length_append]; show xs.length + 1 ≤ _; omega, HO3, HB3⟩
        case measure => simp [intOf]; omega
      · have HX2 : Hid (xs ++ lackL t (k + 1) ((fsts l).drop (k + 1)) = lackL t 0 (fsts l)) := Lib.hid (by
          rw [← HX.out, hdr, lackL, hr]; simp)
        clear hx hfx hdr hr HX
        go_wp2_with (go_at_call 69; (with_reducible refine C.mono ?_); rintro e w2 ⟨rfl, hb⟩; have HB2 := Lib.hid (HB.out.trans (hb.mono hsz)); have HO2 := Lib.hid (OwnV.on HO.out hb); clear hb C HO)
        go_roundw
        case rel => exact ⟨k + 1, _, by omega, by go_num, HX2, by omega, HO2, HB2⟩
        case measure => simp [intOf]; omega
    · obtain rfl : k = n := by omega
      have HE : Hid (xs = lackL t 0 (fsts l)) := Lib.hid (by rw [← HX.out, List.drop_of_length_le (by rw [HFL.out]; omega), lackL, List.append_nil])
      clear hlt HX
      go_wp2
      go_ret
      exact ⟨_, rfl, by rw [← HE.out]; exact OwnV.mono HO.out hsz0, HB0.out.trans (HB.out.mono hsz0)⟩
end Go.Proofs.YtkcamfcjkjiijaaGreatDoor
