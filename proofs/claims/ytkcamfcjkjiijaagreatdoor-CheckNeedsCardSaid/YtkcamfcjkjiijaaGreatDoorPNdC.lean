/-
  Which groups lack, check.Missing and check.Needed, of relations of any size. Condition: LaidV.
-/
import Derived.Test.YtkcamfcjkjiijaaGreatDoorPNdB
namespace Go.Proofs.YtkcamfcjkjiijaaGreatDoor
open Go.RowKit
def Big1 (x : Rl) : Prop := x.1.length ≤ 9223372036854775807 ∧ x.2.1.length ≤ 9223372036854775807 ∧ x.2.2.length ≤ 9223372036854775807
def BigL (l : List Rl) : Prop := ∀ x ∈ l, Big1 x
def BigGL (l : List Gv) : Prop := ∀ x ∈ l, BigL x.1 ∧ x.1.length ≤ 500
set_option maxHeartbeats 8000000 in
theorem fits_anyB (p q z n v : ByteArray) (hz : z.size ≤ 9223372036854775807) (hv : v.size ≤ 9223372036854775807) (w : World) (hL : LaidV w) : Calls Tryz.prog 76 #[.agg #[.string p, .string q, .string z], .string n, .string v] w fun e w' => e = .returned (.bool (fitsB (p.data.toList, q.data.toList, z.data.toList) n.data.toList v.data.toList)) ∧ Below w.heap.size w w' := by
  have HO := fun W h => holds_anyB v q z hv hz W h
  have hq := eqT p n
  have HBA : Hid (∀ o, Below w.heap.size w (w.alloc o)) := Lib.hid (fun o => (Below.refl _ _).alloc (Nat.le_refl _) o)
  have HLA := Lib.hid (fun o => hL.on (HBA.out o))
  by_cases he : p.data.toList = n.data.toList
  · have hf : fitsB (p.data.toList, q.data.toList, z.data.toList) n.data.toList v.data.toList = holdsV v.data.toList q.data.toList z.data.toList := by unfold fitsB; rw [decide_eq_true he, Bool.true_and]
    rw [hf]
    rw [decide_eq_true he] at hq
    generalize holdsV v.data.toList q.data.toList z.data.toList = r at *
    clear he hL hf
    go_enter Tryz.func76, Tryz.ntmps76
    go_wp2_with (go_at_call 96; (with_reducible refine (HO _ (HLA.out _)).mono ?_); rintro e w1 ⟨rfl, hb⟩; have HB := Lib.hid ((HBA.out _).trans (hb.mono (HBA.out _).size)); clear hb)
    go_ret
    exact ⟨rfl, HB.out⟩
  · have hf : fitsB (p.data.toList, q.data.toList, z.data.toList) n.data.toList v.data.toList = false := by unfold fitsB; rw [decide_eq_false he, Bool.false_and]
    rw [hf]
    rw [decide_eq_false he] at hq
    clear he hL hf HO
    go_enter Tryz.func76, Tryz.ntmps76
    go_wp2
    go_ret
    exact ⟨rfl, HBA.out _⟩
set_option maxHeartbeats 8000000 in
theorem fits_refB (p q z n v : ByteArray) (hz : z.size ≤ 9223372036854775807) (hv : v.size ≤ 9223372036854775807) (w : World) : Calls Tryz.prog 72 #[.agg #[.string p, .string q, .string z], .string n, .string v] w fun e w' => e = .returned (.bool (fitsB (p.data.toList, q.data.toList, z.data.toList) n.data.toList v.data.toList)) ∧ Below w.heap.size w w' := by
  have HO := fun W => holds_refB v q z hv hz W
  have hq := eqT p n
  have HBA : Hid (∀ o, Below w.heap.size w (w.alloc o)) := Lib.hid (fun o => (Below.refl _ _).alloc (Nat.le_refl _) o)
  by_cases he : p.data.toList = n.data.toList
  · have hf : fitsB (p.data.toList, q.data.toList, z.data.toList) n.data.toList v.data.toList = holdsV v.data.toList q.data.toList z.data.toList := by unfold fitsB; rw [decide_eq_true he, Bool.true_and]
    rw [hf]
    rw [decide_eq_true he] at hq
    generalize holdsV v.data.toList q.data.toList z.data.toList = r at *
    clear he hf
    go_enter Tryz.func72, Tryz.ntmps72
    go_wp2_with (go_at_call 95; (with_reducible refine (HO _).mono ?_); rintro e w1 ⟨rfl, hb⟩; have HB := Lib.hid ((HBA.out _).trans (hb.mono (HBA.out _).size)); clear hb)
    go_ret
    exact ⟨rfl, HB.out⟩
  · have hf : fitsB (p.data.toList, q.data.toList, z.data.toList) n.data.toList v.data.toList = false := by unfold fitsB; rw [decide_eq_false he, Bool.false_and]
    rw [hf]
    rw [decide_eq_false he] at hq
    clear he hf HO
    go_enter Tryz.func72, Tryz.ntmps72
    go_wp2
    go_ret
    exact ⟨rfl, HBA.out _⟩
set_option maxHeartbeats 8000000 in
theorem met1_anyB (x y : Rl) (hx : Big1 x) (hy : Big1 y) (g : Nat) (w : World) (hL : LaidV w) (h0 : w.cell? ⟨g, 0, none⟩ = some (.string (bsT x.1))) (h1 : w.cell? ⟨g, 1, none⟩ = some (.string (bsT x.2.1))) (h2 : w.cell? ⟨g, 2, none⟩ = some (.string (bsT x.2.2))) :
    Calls Tryz.prog 94 #[aggQ y, .pointer (some ⟨g, 0, none⟩)] w fun e w' => e = .returned (.bool (fitsB x y.1 y.2.2)) ∧ Below w.heap.size w w' := by
  have F := fun W h => fits_anyB (bsT x.1) (bsT x.2.1) (bsT x.2.2) (bsT y.1) (bsT y.2.2) (by rw [sizeOf, bytesOf]; exact hx.2.2) (by rw [sizeOf, bytesOf]; exact hy.2.2) W h
  rw [bytesOf, bytesOf, bytesOf, bytesOf, bytesOf] at F
  obtain ⟨p, q, z⟩ := x
  obtain ⟨n, o, v⟩ := y
  dsimp only at F h0 h1 h2 ⊢
  unfold aggQ
  dsimp only
  generalize fitsB (p, q, z) n v = r at *
  have hg := World.block_lt_of_cell? w _ h0
  have HBA : Hid (∀ o, Below w.heap.size w (w.alloc o)) := Lib.hid (fun o => (Below.refl _ _).alloc (Nat.le_refl _) o)
  have HLA := Lib.hid (fun o => hL.on (HBA.out o))
  have k0 := fun o => (HBA.out o).cell (p := ⟨g, 0, none⟩) hg
  have k1 := fun o => (HBA.out o).cell (p := ⟨g, 1, none⟩) hg
  have k2 := fun o => (HBA.out o).cell (p := ⟨g, 2, none⟩) hg
  rw [h0] at k0
  rw [h1] at k1
  rw [h2] at k2
  generalize bsT p = P at *
  generalize bsT q = Q at *
  generalize bsT z = Z at *
  generalize bsT n = N at *
  generalize bsT o = O at *
  generalize bsT v = V at *
  clear hL h0 h1 h2 hx hy hg
  go_enter Tryz.func94, Tryz.ntmps94
  go_wp2_with (go_at_call 76; (with_reducible refine (F _ (HLA.out _)).mono ?_); rintro e w1 ⟨rfl, hb⟩; have HB := Lib.hid ((HBA.out _).trans (hb.mono (HBA.out _).size)); clear hb)
  go_ret
  exact ⟨rfl, HB.out⟩
set_option maxHeartbeats 8000000 in
theorem met_anyB (x : Rl) (hx : Big1 x) (v : Value) (t : List Rl) (hl : t.length ≤ 90000) (hs : BigL t) (w : World) (h : HoldQ w v t) (hL : LaidV w) : Calls Tryz.prog 71 #[aggQ x, v] w fun e w' => e = .returned (.bool (metB x t)) ∧ Below w.heap.size w w' := by
  have EN : ∀ args w, (callFunc 94 args).run Tryz.prog w = .ok (.enter 94 args) w := enters_of Tryz.func94 (by kernel_rfl) rfl
  have B0 := (Below.refl w.heap.size w).alloc (Nat.le_refl _) (.cells #[.string (bsT x.1), .string (bsT x.2.1), .string (bsT x.2.2)] 75)
  obtain ⟨z0, z1, z2⟩ := boxV3 w (.string (bsT x.1)) (.string (bsT x.2.1)) (.string (bsT x.2.2)) 75
  have hsz : w.heap.size < (w.alloc (.cells #[.string (bsT x.1), .string (bsT x.2.1), .string (bsT x.2.2)] 75)).heap.size := by rw [World.size_alloc]; omega
  have C := contQ_any 94 #[.pointer (some ⟨w.heap.size, 0, none⟩)] EN (fun y => fitsB x y.1 y.2.2) v t hl (w.alloc (.cells #[.string (bsT x.1), .string (bsT x.2.1), .string (bsT x.2.2)] 75)) (HoldV.on h B0) (fun W y hy hb => by
    have := met1_anyB x y hx (hs y hy) w.heap.size W ((hL.on B0).on hb) ((hb.cell (p := ⟨w.heap.size, 0, none⟩) hsz).trans z0) ((hb.cell (p := ⟨w.heap.size, 1, none⟩) hsz).trans z1) ((hb.cell (p := ⟨w.heap.size, 2, none⟩) hsz).trans z2)
    simpa using this)
  obtain ⟨a, c, b, o, rfl, -⟩ := h.parts
  obtain ⟨r, hr⟩ : ∃ r, metB x t = r := ⟨_, rfl⟩
  have hr' : (t.any fun y => fitsB x y.1 y.2.2) = r := hr
  rw [hr'] at C
  rw [hr]
  have HB0 := Lib.hid B0
  obtain ⟨p, q, z⟩ := x
  unfold aggQ
  dsimp only at C HB0 ⊢
  generalize t.length = n at *
  clear hr hr' z0 z1 z2 hsz B0 h hL hs hl hx EN
  generalize bsT p = P at *
  generalize bsT q = Q at *
  generalize bsT z = Z at *
  go_enter Tryz.func71, Tryz.ntmps71
  go_wp2_with (go_at_call 69; (with_reducible refine C.mono ?_); rintro e w1 ⟨rfl, hb⟩; have HB := Lib.hid (HB0.out.trans (hb.mono HB0.out.size)); clear hb)
  go_ret
  exact ⟨rfl, HB.out⟩
set_option maxHeartbeats 8000000 in
theorem lacks1_anyB (x : Rl) (hx : Big1 x) (v : Value) (t : List Rl) (hl : t.length ≤ 90000) (hs : BigL t) (g : Nat) (w : World) (h : HoldQ w v t) (hL : LaidV w) (h0 : w.cell? ⟨g, 0, none⟩ = some v) : Calls Tryz.prog 70 #[aggQ x, .pointer (some ⟨g, 0, none⟩)] w fun e w' => e = .returned (.bool (metB x t)) ∧ Below w.heap.size w w' := by
  have B0 := (Below.refl w.heap.size w).alloc (Nat.le_refl _) (.cells #[.string (bsT x.1), .string (bsT x.2.1), .string (bsT x.2.2)] 75)
  have M := met_anyB x hx v t hl hs _ (HoldV.on h B0) (hL.on B0)
  have k0 := (B0.cell (p := ⟨g, 0, none⟩) (World.block_lt_of_cell? w _ h0)).trans h0
  obtain ⟨a, c, b, o, rfl, -⟩ := h.parts
  have HB0 := Lib.hid B0
  obtain ⟨p, q, z⟩ := x
  unfold aggQ at M ⊢
  dsimp only at M HB0 k0 ⊢
  generalize metB (p, q, z) t = r at *
  generalize t.length = n at *
  generalize bsT p = P at *
  generalize bsT q = Q at *
  generalize bsT z = Z at *
  clear B0 h hL hs hl hx h0
  go_enter Tryz.func70, Tryz.ntmps70
  go_wp2_with (go_at_call 71; (with_reducible refine M.mono ?_); rintro e w1 ⟨rfl, hb⟩; have HB := Lib.hid (HB0.out.trans (hb.mono HB0.out.size)); clear hb)
  go_ret
  exact ⟨rfl, HB.out⟩
set_option maxRecDepth 100000 in
set_option maxHeartbeats 16000000 in
theorem lacks_anyB (v u : Value) (l : List Gv) (hl : l.length ≤ 500) (hs : BigGL l) (t : List Rl) (ht : t.length ≤ 90000) (hst : BigL t) (w : World) (h : HoldGs w v l) (h2 : HoldQ w u t) (hL : LaidV w) :
    Calls Tryz.prog 37 #[v, u] w fun e w' => ∃ r, e = .returned r ∧ OwnIn w' w.heap.size r (lackL t 0 (fsts l)) ∧ Below w.heap.size w w' := by
  have EN : ∀ args w, (callFunc 70 args).run Tryz.prog w = .ok (.enter 70 args) w := enters_of Tryz.func70 (by kernel_rfl) rfl
  obtain ⟨i0, hi, hz0, hz1, hz2'⟩ := info_parts infoIn
  have B0 := (Below.refl w.heap.size w).alloc (Nat.le_refl _) (.cells #[u] 32)
  have z0 := boxV1 w u 32
  have hsz0 : w.heap.size < (w.alloc (.cells #[u] 32)).heap.size := by rw [World.size_alloc]; omega
  have CF : Hid (∀ (x : Gv), x ∈ l → ∀ W, Below (w.alloc (.cells #[u] 32)).heap.size (w.alloc (.cells #[u] 32)) W → Calls Tryz.prog 69 #[x.2, .func (.func 70) #[] #[.pointer (some ⟨w.heap.size, 0, none⟩)]] W fun e w' => e = .returned (.bool (x.1.any fun y => metB y t)) ∧ Below W.heap.size W w') := Lib.hid (fun x hx W hW =>
    contQ_any 70 #[.pointer (some ⟨w.heap.size, 0, none⟩)] EN (fun y => metB y t) x.2 x.1 (by have := (hs x hx).2; omega) W (HoldV.on (HoldV.on (h.2 x hx) B0) hW) (fun W' y hy hb => by
      have hbW := hW.trans (hb.mono hW.size)
      have := lacks1_anyB y ((hs x hx).1 y hy) u t ht hst w.heap.size W' (HoldV.on (HoldV.on h2 B0) hbW) ((hL.on B0).on hbW) ((hbW.cell (p := ⟨w.heap.size, 0, none⟩) hsz0).trans z0)
      simpa using this))
  have HG := Lib.hid (h.on B0)
  obtain ⟨a, c, b, o, rfl, hc, ha, hcell⟩ := (h.on B0).parts
  obtain ⟨ua, uc, -, -, rfl, -⟩ := h2.parts
  have HC := Lib.hid hcell
  have HB0 := Lib.hid B0
  obtain ⟨n, hN⟩ : ∃ n, l.length = n := ⟨_, rfl⟩
  rw [hN] at hc ha hl ⊢
  have HN := Lib.hid hN
  generalize t.length = tn at *
  have hfl : (fsts l).length = n := by rw [List.length_map]; exact hN
  have HFL := Lib.hid hfl
  have hlk := lackL_len t (fsts l) 0
  have hlk2 : (lackL t 0 (fsts l)).length ≤ 500 := by omega
  have HLK := Lib.hid hlk2
  clear hcell hN h h2 hs hst hL B0 z0 hsz0 EN hfl hlk hlk2
  go_enter Tryz.func37, Tryz.ntmps37
  go_wp2
  obtain ⟨w0, hw0⟩ : ∃ w0, w.alloc (.cells #[.slice ua tn uc] 32) = w0 := ⟨_, rfl⟩
  rw [hw0] at HG HC HB0 CF ha ⊢
  clear hw0
  have hsz0 := HB0.out.size
  go_loopw [5, 10] (fun u i wr => ∃ (k : Nat) (xs : List Nat), k ≤ n ∧ i = .int .i64 k ∧ Hid (xs ++ lackL t k ((fsts l).drop k) = lackL t 0 (fsts l)) ∧ xs.length ≤ k ∧ Hid (OwnIn wr w0.heap.size u xs) ∧ Hid (Below w0.heap.size w0 wr)) (fun _ i _ => n - (intOf i).toNat)
  case atStart => exact ⟨0, [], by omega, rfl, Lib.hid rfl, by simp, Lib.hid (OwnV.nil _ _ _ _), Lib.hid (Below.refl _ _)⟩
  case round =>
    obtain ⟨k, xs, hk, rfl, HX, hxk, HO, HB⟩ := hrel
    have hsz := HB.out.size
    by_cases hlt : k < n
    · obtain ⟨rfl, hbw⟩ := ha (by omega)
      obtain ⟨⟨g0, sv⟩, hx⟩ : ∃ x, l[k]? = some x := ⟨_, List.getElem?_eq_getElem (by rw [HN.out]; exact hlt)⟩
      have c0 := HC.out k _ hx
      dsimp only at c0
      rw [← HB.out.cell (p := ⟨b, o + k, none⟩) hbw] at c0
      have C := CF.out _ (List.mem_of_getElem? hx) wr HB.out
      dsimp only at C
      obtain ⟨sa, sc, -, -, hsv, -⟩ := (HG.out.2 _ (List.mem_of_getElem? hx)).parts
      dsimp only at hsv
      subst hsv
      have hfx : (fsts l)[k]? = some g0 := by rw [List.getElem?_map, hx]; rfl
      have hdr := drop_atQ hfx
      obtain ⟨r, hr⟩ : ∃ r, (g0.any fun y => metB y t) = r := ⟨_, rfl⟩
      rw [hr] at C
      generalize g0.length = gn at *
      cases r
      · have HX2 : Hid ((xs ++ [k]) ++ lackL t (k + 1) ((fsts l).drop (k + 1)) = lackL t 0 (fsts l)) := Lib.hid (by
          rw [← HX.out, hdr, lackL, hr]; simp)
        clear hx hfx hdr hr HX
        go_wp2_with (first
          | (go_at_call 69; (with_reducible refine C.mono ?_); rintro e w2 ⟨rfl, hb⟩; have HB2 := Lib.hid (HB.out.trans (hb.mono hsz)); have HO2 := Lib.hid (OwnV.on HO.out hb); have hz2 := HB2.out.size; clear hb C HO)
          | (at_builtin; refine wpList_append_own _ rfl _ _ 45 rfl w0.heap.size 3 i0 _ 1 8 Tryz.underlying45 hi hz0 hz1 hz2' rfl (by decide) _ _ _ rfl (World.ownsRow.alloc HO2.out.2 _) ⟨w2.heap.size, 0, none⟩ 1 1 [.int .i64 k] rfl rfl ?c1 ?c2 ?c3 ?c4 ?c5 ?_))
        case c1 =>
          intro j u hj
          match j, hj with
          | 0, hj => simp at hj; subst hj; simp [Addr.add]
        case c2 => intro u hu; simp at hu; subst hu; rfl
        case c3 => rw [List.length_map]; unfold maxLen; omega
        case c4 => rw [List.length_map]; omega
        case c5 => simp; omega
        intro v' w3 hown' hgrow _
        have HO3 : Hid (OwnIn w3 w0.heap.size v' (xs ++ [k])) := Lib.hid (by
          unfold OwnIn
          rw [List.map_append]
          exact OwnV.app HO2.out.1 rfl (by simpa using hown'))
        have HB3 : Hid (Below w0.heap.size w0 w3) := Lib.hid (OwnV.below HB2.out HO2.out hgrow (Nat.le_refl _) hz2)
        clear hown' hgrow
        go_wp2
        go_roundw
        case rel => exact ⟨k + 1, _, by omega, by go_num, HX2, by rw [List.length_append]; show xs.length + 1 ≤ _; omega, HO3, HB3⟩
        case measure => simp [intOf]; omega
      · have HX2 : Hid (xs ++ lackL t (k + 1) ((fsts l).drop (k + 1)) = lackL t 0 (fsts l)) := Lib.hid (by
          rw [← HX.out, hdr, lackL, hr]; simp)
        clear hx hfx hdr hr HX
        go_wp2_with (go_at_call 69; (with_reducible refine C.mono ?_); rintro e w2 ⟨rfl, hb⟩; have HB2 := Lib.hid (HB.out.trans (hb.mono hsz)); have HO2 := Lib.hid (OwnV.on HO.out hb); clear hb C HO)
        go_roundw
        case rel => exact ⟨k + 1, _, by omega, by go_num, HX2, by omega, HO2, HB2⟩
        case measure => simp [intOf]; omega
    · obtain rfl : k = n := by omega
      have HE : Hid (xs = lackL t 0 (fsts l)) := Lib.hid (by rw [← HX.out, List.drop_of_length_le (by rw [HFL.out]; omega), lackL, List.append_nil])
      clear hlt HX
      go_wp2
      go_ret
      exact ⟨_, rfl, by rw [← HE.out]; exact OwnV.mono HO.out hsz0, HB0.out.trans (HB.out.mono hsz0)⟩
end Go.Proofs.YtkcamfcjkjiijaaGreatDoor
namespace Go.Proofs.YtkcamfcjkjiijaaGreatDoor
open Go.RowKit Go.Shelf
set_option maxRecDepth 100000 in
set_option maxHeartbeats 8000000 in
theorem missing_anyB (x : Stv) (hn : x.rs.length ≤ 90000) (hs : BigL (thereU x.rs)) (v : Value) (l : List Gv) (hl : l.length ≤ 500) (hg : BigGL l) (w : World) (hx : InS7 w x) (h : HoldGs w v l) (hL : LaidV w) :
    Calls Tryz.prog 14 #[agS x, v] w fun e w' => ∃ r, e = .returned r ∧ OwnIn w' w.heap.size r (missL x.rs l) ∧ Below w.heap.size w w' := by
  have B0 := (Below.refl w.heap.size w).alloc (Nat.le_refl _) (.cells #[x.rv, x.dv, x.ov, x.av, x.iv, x.fv, x.lv] 30)
  have TH := there_any x.rv x.rs hn _ (hx.rs.on B0)
  have HG := Lib.hid h
  have HLV := Lib.hid hL
  have HLEN : (thereU x.rs).length ≤ 90000 := Nat.le_trans (there_len _) hn
  have LA : Hid (∀ r W, Below w.heap.size w W → OwnQ W w.heap.size r (thereU x.rs) → Calls Tryz.prog 37 #[v, r] W fun e w' => ∃ r', e = .returned r' ∧ OwnIn w' w.heap.size r' (missL x.rs l) ∧ Below w.heap.size w w') := Lib.hid (fun r W hb ho => (lacks_anyB v r l hl hg (thereU x.rs) HLEN hs W (HG.out.on hb) ho.holds (HLV.out.on hb)).mono (fun e w' h => by
    obtain ⟨r', g1, g2, g3⟩ := h
    exact ⟨r', g1, g2.mono hb.size, hb.trans (g3.mono hb.size)⟩))
  obtain ⟨⟨⟨ra, rc, -, -, hrv, -⟩, -⟩, ⟨oa, on, oc, hov⟩, ⟨aa, an, ac, hav⟩, ⟨ia, im, ic, hiv⟩, ⟨fa, fn, fc, hfv⟩, ⟨da, dn, dc, hdv⟩, ⟨la, ln, lc, hlv⟩⟩ := hx
  obtain ⟨ga, gc, gb, go, hgv, -⟩ := h.1
  obtain ⟨RES, hRES⟩ : ∃ q, missL x.rs l = q := ⟨_, rfl⟩
  simp only [hRES] at LA ⊢
  obtain ⟨TL, hTL⟩ : ∃ q, thereU x.rs = q := ⟨_, rfl⟩
  simp only [hTL] at LA TH
  clear hRES hTL HG HLV h hL HLEN hn hs hl hg
  obtain ⟨rs, ds, ls, rv, dv, ov, av, iv, fv, lv⟩ := x
  unfold agS
  dsimp only at *
  subst hrv hov hav hiv hfv hdv hlv hgv
  simp only [List.length_map] at *
  generalize rs.length = rn at *
  generalize l.length = gn at *
  simp only [World.size_alloc] at TH
  go_enter Tryz.func14, Tryz.ntmps14
  go_wp2_with (first
    | (go_at_call 11; (with_reducible refine TH.mono ?_); rintro e w1 ⟨r, rfl, h1, h2⟩; have HB := Lib.hid (B0.trans (h2.mono (by simp))); have LC := LA.out r w1 HB.out (h1.mono (by omega)); clear h1 h2 TH)
    | (go_at_call 37; (with_reducible refine LC.mono ?_); rintro e w2 ⟨r2, rfl, h1, h2⟩; have HO2 := Lib.hid h1; have HB2 := Lib.hid h2; clear h1 h2 LC))
  first | (go_ret; exact ⟨_, rfl, HO2.out, HB2.out⟩) | exact ⟨_, rfl, HO2.out, HB2.out⟩
theorem missLen_anyB (x : Stv) (hn : x.rs.length ≤ 90000) (hs : BigL (thereU x.rs)) (v : Value) (l : List Gv) (hl : l.length ≤ 500) (hg : BigGL l) (w : World) (hx : InS7 w x) (h : HoldGs w v l) (hL : LaidV w) :
    Calls Tryz.prog 14 #[agS x, v] w fun e w' => ∃ a c, e = .returned (.slice a (missL x.rs l).length c) ∧ Below w.heap.size w w' :=
  (missing_anyB x hn hs v l hl hg w hx h hL).mono (fun e w' h => by
    obtain ⟨r, g1, g2, g3⟩ := h
    obtain ⟨a, c, hr⟩ := g2.form
    rw [List.length_map] at hr
    exact ⟨a, c, by rw [g1, hr], g3⟩)
set_option maxRecDepth 100000 in
set_option maxHeartbeats 16000000 in
theorem need1_anyB (x y : Stv) (hn : x.rs.length ≤ 90000) (hs : BigL (thereU x.rs)) (hn2 : y.rs.length ≤ 90000) (hs2 : BigL (thereU y.rs)) (A B : Nat) (r : Uv) (hl : r.dp.length ≤ 500) (hg : BigGL r.dp) (W : World) (hA : Cell7 A W y) (hB : Cell7 B W x) (hx : InS7 W x) (hy : InS7 W y) (hr : InU W r) (hL : LaidV W) :
    Calls Tryz.prog 41 #[agZU r, .pointer (some ⟨A, 0, none⟩), .pointer (some ⟨B, 0, none⟩)] W fun e w' => e = .returned (.bool (needB x.rs y.rs r)) ∧ Below W.heap.size W w' := by
  have b0 := (Below.refl W.heap.size W).alloc (Nat.le_refl _) (.cells #[.string (⟨r.nm.toArray⟩ : ByteArray), .string (⟨r.vr.toArray⟩ : ByteArray), .int .i64 r.st, r.dv, r.cv, r.rv, r.fv, r.pv, r.av] 71)
  obtain ⟨-, -, y2, y3, -, -, -, -, -⟩ := boxV9 W (.string (⟨r.nm.toArray⟩ : ByteArray)) (.string (⟨r.vr.toArray⟩ : ByteArray)) (.int .i64 r.st) r.dv r.cv r.rv r.fv r.pv r.av 71
  obtain ⟨w1, hw1⟩ : ∃ w1, W.alloc (.cells #[.string (⟨r.nm.toArray⟩ : ByteArray), .string (⟨r.vr.toArray⟩ : ByteArray), .int .i64 r.st, r.dv, r.cv, r.rv, r.fv, r.pv, r.av] 71) = w1 := ⟨_, rfl⟩
  rw [hw1] at b0 y2 y3
  have HDONE : Hid (∀ w', Below w1.heap.size w1 w' → Below W.heap.size W w') := Lib.hid (fun w' h => b0.trans (h.mono b0.size))
  have RX : Hid (∀ V, Below w1.heap.size w1 V → Calls Tryz.prog 14 #[agS x, r.dv] V fun e w' => ∃ a c, e = .returned (.slice a (missL x.rs r.dp).length c) ∧ Below V.heap.size V w') := Lib.hid (fun V hV => missLen_anyB x hn hs r.dv r.dp hl hg V (hx.on (b0.trans (hV.mono b0.size))) (hr.dp.on (b0.trans (hV.mono b0.size))) (hL.on (b0.trans (hV.mono b0.size))))
  have RY : Hid (∀ V, Below w1.heap.size w1 V → Calls Tryz.prog 14 #[agS y, r.dv] V fun e w' => ∃ a c, e = .returned (.slice a (missL y.rs r.dp).length c) ∧ Below V.heap.size V w') := Lib.hid (fun V hV => missLen_anyB y hn2 hs2 r.dv r.dp hl hg V (hy.on (b0.trans (hV.mono b0.size))) (hr.dp.on (b0.trans (hV.mono b0.size))) (hL.on (b0.trans (hV.mono b0.size))))
  obtain ⟨A0, A1, A2, A3, A4, A5, A6⟩ := hA.on b0
  obtain ⟨B0, B1, B2, B3, B4, B5, B6⟩ := hB.on b0
  have hq : needB x.rs y.rs r = (cfS r.st && decide ((missL x.rs r.dp).length < (missL y.rs r.dp).length)) := rfl
  obtain ⟨a3, n3, m3, q3⟩ := formU3 hr
  obtain ⟨a4, n4, m4, q4⟩ := formU4 hr
  obtain ⟨a5, n5, m5, q5⟩ := formU5 hr
  obtain ⟨a6, n6, m6, q6⟩ := formU6 hr
  obtain ⟨a7, n7, m7, q7⟩ := formU7 hr
  obtain ⟨a8, n8, m8, q8⟩ := formU8 hr
  obtain ⟨⟨⟨xr0, xr2, -, -, xr, -⟩, -⟩, ⟨xo0, xo1, xo2, xo⟩, ⟨xa0, xa1, xa2, xa⟩, ⟨xi0, xi1, xi2, xi⟩, ⟨xf0, xf1, xf2, xf⟩, ⟨xd0, xd1, xd2, xd⟩, ⟨xl0, xl1, xl2, xl⟩⟩ := hx
  obtain ⟨⟨⟨yr0, yr2, -, -, yr, -⟩, -⟩, ⟨yo0, yo1, yo2, yo⟩, ⟨ya0, ya1, ya2, ya⟩, ⟨yi0, yi1, yi2, yi⟩, ⟨yf0, yf1, yf2, yf⟩, ⟨yd0, yd1, yd2, yd⟩, ⟨yl0, yl1, yl2, yl⟩⟩ := hy
  unfold agS at RX RY
  unfold agZU
  rw [hq]
  clear hq hA hB hr hL hl hg hn hn2 hs hs2
  simp only [q3, q4, q5, q6, q7, q8, xr, xo, xa, xi, xf, xd, xl, yr, yo, ya, yi, yf, yd, yl] at *
  clear q3 q4 q5 q6 q7 q8 xr xo xa xi xf xd xl yr yo ya yi yf yd yl
  generalize (x.rs.map cellsU).length = xr1 at *
  generalize (y.rs.map cellsU).length = yr1 at *
  generalize (missL x.rs r.dp).length = mx at *
  generalize (missL y.rs r.dp).length = my at *
  generalize (⟨r.nm.toArray⟩ : ByteArray) = X0 at *
  generalize (⟨r.vr.toArray⟩ : ByteArray) = X1 at *
  generalize r.st = z at *
  have hs := And.intro y2 (And.intro y3 (And.intro A0 (And.intro A1 (And.intro A2 (And.intro A3 (And.intro A4 (And.intro A5 (And.intro A6 (And.intro B0 (And.intro B1 (And.intro B2 (And.intro B3 (And.intro B4 (And.intro B5 (And.intro B6 (Below.refl w1.heap.size w1))))))))))))))))
  have CF := fun V => configured_any z V
  cases hz : cfS z
  · rw [hz] at CF
    simp only [Bool.false_and]
    go_enter Tryz.func41, Tryz.ntmps41
    go_wp2
    have BE := fun (V : World) (h : V.cell? ⟨W.heap.size, 2, none⟩ = some (.int .i64 z) ∧ V.cell? ⟨W.heap.size, 3, none⟩ = some (.slice a3 n3 m3) ∧ V.cell? ⟨A, 0, none⟩ = some (.slice yr0 yr1 yr2) ∧ V.cell? ⟨A, 1, none⟩ = some (.slice yd0 yd1 yd2) ∧ V.cell? ⟨A, 2, none⟩ = some (.slice yo0 yo1 yo2) ∧ V.cell? ⟨A, 3, none⟩ = some (.slice ya0 ya1 ya2) ∧ V.cell? ⟨A, 4, none⟩ = some (.slice yi0 yi1 yi2) ∧ V.cell? ⟨A, 5, none⟩ = some (.slice yf0 yf1 yf2) ∧ V.cell? ⟨A, 6, none⟩ = some (.slice yl0 yl1 yl2) ∧ V.cell? ⟨B, 0, none⟩ = some (.slice xr0 xr1 xr2) ∧ V.cell? ⟨B, 1, none⟩ = some (.slice xd0 xd1 xd2) ∧ V.cell? ⟨B, 2, none⟩ = some (.slice xo0 xo1 xo2) ∧ V.cell? ⟨B, 3, none⟩ = some (.slice xa0 xa1 xa2) ∧ V.cell? ⟨B, 4, none⟩ = some (.slice xi0 xi1 xi2) ∧ V.cell? ⟨B, 5, none⟩ = some (.slice xf0 xf1 xf2) ∧ V.cell? ⟨B, 6, none⟩ = some (.slice xl0 xl1 xl2) ∧ Below w1.heap.size w1 V) => AtF.be (w := w1) (l := [(⟨W.heap.size, 2, none⟩, .int .i64 z), (⟨W.heap.size, 3, none⟩, .slice a3 n3 m3), (⟨A, 0, none⟩, .slice yr0 yr1 yr2), (⟨A, 1, none⟩, .slice yd0 yd1 yd2), (⟨A, 2, none⟩, .slice yo0 yo1 yo2), (⟨A, 3, none⟩, .slice ya0 ya1 ya2), (⟨A, 4, none⟩, .slice yi0 yi1 yi2), (⟨A, 5, none⟩, .slice yf0 yf1 yf2), (⟨A, 6, none⟩, .slice yl0 yl1 yl2), (⟨B, 0, none⟩, .slice xr0 xr1 xr2), (⟨B, 1, none⟩, .slice xd0 xd1 xd2), (⟨B, 2, none⟩, .slice xo0 xo1 xo2), (⟨B, 3, none⟩, .slice xa0 xa1 xa2), (⟨B, 4, none⟩, .slice xi0 xi1 xi2), (⟨B, 5, none⟩, .slice xf0 xf1 xf2), (⟨B, 6, none⟩, .slice xl0 xl1 xl2)]) h
    refine wp_region_held_drew (S := (fun V => V.cell? ⟨W.heap.size, 2, none⟩ = some (.int .i64 z) ∧ V.cell? ⟨W.heap.size, 3, none⟩ = some (.slice a3 n3 m3) ∧ V.cell? ⟨A, 0, none⟩ = some (.slice yr0 yr1 yr2) ∧ V.cell? ⟨A, 1, none⟩ = some (.slice yd0 yd1 yd2) ∧ V.cell? ⟨A, 2, none⟩ = some (.slice yo0 yo1 yo2) ∧ V.cell? ⟨A, 3, none⟩ = some (.slice ya0 ya1 ya2) ∧ V.cell? ⟨A, 4, none⟩ = some (.slice yi0 yi1 yi2) ∧ V.cell? ⟨A, 5, none⟩ = some (.slice yf0 yf1 yf2) ∧ V.cell? ⟨A, 6, none⟩ = some (.slice yl0 yl1 yl2) ∧ V.cell? ⟨B, 0, none⟩ = some (.slice xr0 xr1 xr2) ∧ V.cell? ⟨B, 1, none⟩ = some (.slice xd0 xd1 xd2) ∧ V.cell? ⟨B, 2, none⟩ = some (.slice xo0 xo1 xo2) ∧ V.cell? ⟨B, 3, none⟩ = some (.slice xa0 xa1 xa2) ∧ V.cell? ⟨B, 4, none⟩ = some (.slice xi0 xi1 xi2) ∧ V.cell? ⟨B, 5, none⟩ = some (.slice xf0 xf1 xf2) ∧ V.cell? ⟨B, 6, none⟩ = some (.slice xl0 xl1 xl2) ∧ Below w1.heap.size w1 V)) (by kernel_rfl) ?_ (fun hHeld => ?_)
    · (try dsimp only); (first | assumption | exact hs | exact AtF.dr (w := w1) (l := [(⟨W.heap.size, 2, none⟩, .int .i64 z), (⟨W.heap.size, 3, none⟩, .slice a3 n3 m3), (⟨A, 0, none⟩, .slice yr0 yr1 yr2), (⟨A, 1, none⟩, .slice yd0 yd1 yd2), (⟨A, 2, none⟩, .slice yo0 yo1 yo2), (⟨A, 3, none⟩, .slice ya0 ya1 ya2), (⟨A, 4, none⟩, .slice yi0 yi1 yi2), (⟨A, 5, none⟩, .slice yf0 yf1 yf2), (⟨A, 6, none⟩, .slice yl0 yl1 yl2), (⟨B, 0, none⟩, .slice xr0 xr1 xr2), (⟨B, 1, none⟩, .slice xd0 xd1 xd2), (⟨B, 2, none⟩, .slice xo0 xo1 xo2), (⟨B, 3, none⟩, .slice xa0 xa1 xa2), (⟨B, 4, none⟩, .slice xi0 xi1 xi2), (⟨B, 5, none⟩, .slice xf0 xf1 xf2), (⟨B, 6, none⟩, .slice xl0 xl1 xl2)]) hs | exact AtF.dr (w := w1) (l := [(⟨W.heap.size, 2, none⟩, .int .i64 z), (⟨W.heap.size, 3, none⟩, .slice a3 n3 m3), (⟨A, 0, none⟩, .slice yr0 yr1 yr2), (⟨A, 1, none⟩, .slice yd0 yd1 yd2), (⟨A, 2, none⟩, .slice yo0 yo1 yo2), (⟨A, 3, none⟩, .slice ya0 ya1 ya2), (⟨A, 4, none⟩, .slice yi0 yi1 yi2), (⟨A, 5, none⟩, .slice yf0 yf1 yf2), (⟨A, 6, none⟩, .slice yl0 yl1 yl2), (⟨B, 0, none⟩, .slice xr0 xr1 xr2), (⟨B, 1, none⟩, .slice xd0 xd1 xd2), (⟨B, 2, none⟩, .slice xo0 xo1 xo2), (⟨B, 3, none⟩, .slice xa0 xa1 xa2), (⟨B, 4, none⟩, .slice xi0 xi1 xi2), (⟨B, 5, none⟩, .slice xf0 xf1 xf2), (⟨B, 6, none⟩, .slice xl0 xl1 xl2)]) (by assumption) | exact AtF.on (w := w1) (l := [(⟨W.heap.size, 2, none⟩, .int .i64 z), (⟨W.heap.size, 3, none⟩, .slice a3 n3 m3), (⟨A, 0, none⟩, .slice yr0 yr1 yr2), (⟨A, 1, none⟩, .slice yd0 yd1 yd2), (⟨A, 2, none⟩, .slice yo0 yo1 yo2), (⟨A, 3, none⟩, .slice ya0 ya1 ya2), (⟨A, 4, none⟩, .slice yi0 yi1 yi2), (⟨A, 5, none⟩, .slice yf0 yf1 yf2), (⟨A, 6, none⟩, .slice yl0 yl1 yl2), (⟨B, 0, none⟩, .slice xr0 xr1 xr2), (⟨B, 1, none⟩, .slice xd0 xd1 xd2), (⟨B, 2, none⟩, .slice xo0 xo1 xo2), (⟨B, 3, none⟩, .slice xa0 xa1 xa2), (⟨B, 4, none⟩, .slice xi0 xi1 xi2), (⟨B, 5, none⟩, .slice xf0 xf1 xf2), (⟨B, 6, none⟩, .slice xl0 xl1 xl2)]) (by assumption) (by assumption) | exact AtF.al (w := w1) (l := [(⟨W.heap.size, 2, none⟩, .int .i64 z), (⟨W.heap.size, 3, none⟩, .slice a3 n3 m3), (⟨A, 0, none⟩, .slice yr0 yr1 yr2), (⟨A, 1, none⟩, .slice yd0 yd1 yd2), (⟨A, 2, none⟩, .slice yo0 yo1 yo2), (⟨A, 3, none⟩, .slice ya0 ya1 ya2), (⟨A, 4, none⟩, .slice yi0 yi1 yi2), (⟨A, 5, none⟩, .slice yf0 yf1 yf2), (⟨A, 6, none⟩, .slice yl0 yl1 yl2), (⟨B, 0, none⟩, .slice xr0 xr1 xr2), (⟨B, 1, none⟩, .slice xd0 xd1 xd2), (⟨B, 2, none⟩, .slice xo0 xo1 xo2), (⟨B, 3, none⟩, .slice xa0 xa1 xa2), (⟨B, 4, none⟩, .slice xi0 xi1 xi2), (⟨B, 5, none⟩, .slice xf0 xf1 xf2), (⟨B, 6, none⟩, .slice xl0 xl1 xl2)]) (by assumption) _ | exact AtF.ald (w := w1) (l := [(⟨W.heap.size, 2, none⟩, .int .i64 z), (⟨W.heap.size, 3, none⟩, .slice a3 n3 m3), (⟨A, 0, none⟩, .slice yr0 yr1 yr2), (⟨A, 1, none⟩, .slice yd0 yd1 yd2), (⟨A, 2, none⟩, .slice yo0 yo1 yo2), (⟨A, 3, none⟩, .slice ya0 ya1 ya2), (⟨A, 4, none⟩, .slice yi0 yi1 yi2), (⟨A, 5, none⟩, .slice yf0 yf1 yf2), (⟨A, 6, none⟩, .slice yl0 yl1 yl2), (⟨B, 0, none⟩, .slice xr0 xr1 xr2), (⟨B, 1, none⟩, .slice xd0 xd1 xd2), (⟨B, 2, none⟩, .slice xo0 xo1 xo2), (⟨B, 3, none⟩, .slice xa0 xa1 xa2), (⟨B, 4, none⟩, .slice xi0 xi1 xi2), (⟨B, 5, none⟩, .slice xf0 xf1 xf2), (⟨B, 6, none⟩, .slice xl0 xl1 xl2)]) (by assumption) _ | exact AtF.al (w := w1) (l := [(⟨W.heap.size, 2, none⟩, .int .i64 z), (⟨W.heap.size, 3, none⟩, .slice a3 n3 m3), (⟨A, 0, none⟩, .slice yr0 yr1 yr2), (⟨A, 1, none⟩, .slice yd0 yd1 yd2), (⟨A, 2, none⟩, .slice yo0 yo1 yo2), (⟨A, 3, none⟩, .slice ya0 ya1 ya2), (⟨A, 4, none⟩, .slice yi0 yi1 yi2), (⟨A, 5, none⟩, .slice yf0 yf1 yf2), (⟨A, 6, none⟩, .slice yl0 yl1 yl2), (⟨B, 0, none⟩, .slice xr0 xr1 xr2), (⟨B, 1, none⟩, .slice xd0 xd1 xd2), (⟨B, 2, none⟩, .slice xo0 xo1 xo2), (⟨B, 3, none⟩, .slice xa0 xa1 xa2), (⟨B, 4, none⟩, .slice xi0 xi1 xi2), (⟨B, 5, none⟩, .slice xf0 xf1 xf2), (⟨B, 6, none⟩, .slice xl0 xl1 xl2)]) hs _ | exact AtF.ald (w := w1) (l := [(⟨W.heap.size, 2, none⟩, .int .i64 z), (⟨W.heap.size, 3, none⟩, .slice a3 n3 m3), (⟨A, 0, none⟩, .slice yr0 yr1 yr2), (⟨A, 1, none⟩, .slice yd0 yd1 yd2), (⟨A, 2, none⟩, .slice yo0 yo1 yo2), (⟨A, 3, none⟩, .slice ya0 ya1 ya2), (⟨A, 4, none⟩, .slice yi0 yi1 yi2), (⟨A, 5, none⟩, .slice yf0 yf1 yf2), (⟨A, 6, none⟩, .slice yl0 yl1 yl2), (⟨B, 0, none⟩, .slice xr0 xr1 xr2), (⟨B, 1, none⟩, .slice xd0 xd1 xd2), (⟨B, 2, none⟩, .slice xo0 xo1 xo2), (⟨B, 3, none⟩, .slice xa0 xa1 xa2), (⟨B, 4, none⟩, .slice xi0 xi1 xi2), (⟨B, 5, none⟩, .slice xf0 xf1 xf2), (⟨B, 6, none⟩, .slice xl0 xl1 xl2)]) hs _)
    refine heldY 0 5 ?_ _ rfl rfl (by kernel_rfl) (by kernel_rfl) (by kernel_rfl) (fun _ _ _ h => h) rfl (by assumption) ?_ ?_
    rotate_left
    · (intro w hSw; (try dsimp only at hSw); go_simp; (try with_reducible rfl))
    try simp only [List.setIfInBounds_toArray, List.set_cons_zero, List.set_cons_succ]
    refine heldY 1 6 ?_ _ rfl rfl (by kernel_rfl) (by kernel_rfl) (by kernel_rfl) (fun _ _ _ h => h) rfl (by assumption) ?_ ?_
    rotate_left
    · (intro w hSw; (try dsimp only at hSw); go_simp; (try with_reducible rfl))
    try simp only [List.setIfInBounds_toArray, List.set_cons_zero, List.set_cons_succ]
    refine wpAnyH_ready (rs := [2]) (by kernel_rfl) (by simp) ?_
    refine AllReadyH.cons rfl (fun K hK => ?_) AllReadyH.nil
    go_simp
    go_at_call 42; refine (CF _).mono ?_; rintro e w3 ⟨rfl, rfl⟩
    refine hK.out _ _ ?_ (fun hHeld => ?_)
    · (try dsimp only); (first | assumption | exact hs | exact AtF.dr (w := w1) (l := [(⟨W.heap.size, 2, none⟩, .int .i64 z), (⟨W.heap.size, 3, none⟩, .slice a3 n3 m3), (⟨A, 0, none⟩, .slice yr0 yr1 yr2), (⟨A, 1, none⟩, .slice yd0 yd1 yd2), (⟨A, 2, none⟩, .slice yo0 yo1 yo2), (⟨A, 3, none⟩, .slice ya0 ya1 ya2), (⟨A, 4, none⟩, .slice yi0 yi1 yi2), (⟨A, 5, none⟩, .slice yf0 yf1 yf2), (⟨A, 6, none⟩, .slice yl0 yl1 yl2), (⟨B, 0, none⟩, .slice xr0 xr1 xr2), (⟨B, 1, none⟩, .slice xd0 xd1 xd2), (⟨B, 2, none⟩, .slice xo0 xo1 xo2), (⟨B, 3, none⟩, .slice xa0 xa1 xa2), (⟨B, 4, none⟩, .slice xi0 xi1 xi2), (⟨B, 5, none⟩, .slice xf0 xf1 xf2), (⟨B, 6, none⟩, .slice xl0 xl1 xl2)]) hs | exact AtF.dr (w := w1) (l := [(⟨W.heap.size, 2, none⟩, .int .i64 z), (⟨W.heap.size, 3, none⟩, .slice a3 n3 m3), (⟨A, 0, none⟩, .slice yr0 yr1 yr2), (⟨A, 1, none⟩, .slice yd0 yd1 yd2), (⟨A, 2, none⟩, .slice yo0 yo1 yo2), (⟨A, 3, none⟩, .slice ya0 ya1 ya2), (⟨A, 4, none⟩, .slice yi0 yi1 yi2), (⟨A, 5, none⟩, .slice yf0 yf1 yf2), (⟨A, 6, none⟩, .slice yl0 yl1 yl2), (⟨B, 0, none⟩, .slice xr0 xr1 xr2), (⟨B, 1, none⟩, .slice xd0 xd1 xd2), (⟨B, 2, none⟩, .slice xo0 xo1 xo2), (⟨B, 3, none⟩, .slice xa0 xa1 xa2), (⟨B, 4, none⟩, .slice xi0 xi1 xi2), (⟨B, 5, none⟩, .slice xf0 xf1 xf2), (⟨B, 6, none⟩, .slice xl0 xl1 xl2)]) (by assumption) | exact AtF.on (w := w1) (l := [(⟨W.heap.size, 2, none⟩, .int .i64 z), (⟨W.heap.size, 3, none⟩, .slice a3 n3 m3), (⟨A, 0, none⟩, .slice yr0 yr1 yr2), (⟨A, 1, none⟩, .slice yd0 yd1 yd2), (⟨A, 2, none⟩, .slice yo0 yo1 yo2), (⟨A, 3, none⟩, .slice ya0 ya1 ya2), (⟨A, 4, none⟩, .slice yi0 yi1 yi2), (⟨A, 5, none⟩, .slice yf0 yf1 yf2), (⟨A, 6, none⟩, .slice yl0 yl1 yl2), (⟨B, 0, none⟩, .slice xr0 xr1 xr2), (⟨B, 1, none⟩, .slice xd0 xd1 xd2), (⟨B, 2, none⟩, .slice xo0 xo1 xo2), (⟨B, 3, none⟩, .slice xa0 xa1 xa2), (⟨B, 4, none⟩, .slice xi0 xi1 xi2), (⟨B, 5, none⟩, .slice xf0 xf1 xf2), (⟨B, 6, none⟩, .slice xl0 xl1 xl2)]) (by assumption) (by assumption) | exact AtF.al (w := w1) (l := [(⟨W.heap.size, 2, none⟩, .int .i64 z), (⟨W.heap.size, 3, none⟩, .slice a3 n3 m3), (⟨A, 0, none⟩, .slice yr0 yr1 yr2), (⟨A, 1, none⟩, .slice yd0 yd1 yd2), (⟨A, 2, none⟩, .slice yo0 yo1 yo2), (⟨A, 3, none⟩, .slice ya0 ya1 ya2), (⟨A, 4, none⟩, .slice yi0 yi1 yi2), (⟨A, 5, none⟩, .slice yf0 yf1 yf2), (⟨A, 6, none⟩, .slice yl0 yl1 yl2), (⟨B, 0, none⟩, .slice xr0 xr1 xr2), (⟨B, 1, none⟩, .slice xd0 xd1 xd2), (⟨B, 2, none⟩, .slice xo0 xo1 xo2), (⟨B, 3, none⟩, .slice xa0 xa1 xa2), (⟨B, 4, none⟩, .slice xi0 xi1 xi2), (⟨B, 5, none⟩, .slice xf0 xf1 xf2), (⟨B, 6, none⟩, .slice xl0 xl1 xl2)]) (by assumption) _ | exact AtF.ald (w := w1) (l := [(⟨W.heap.size, 2, none⟩, .int .i64 z), (⟨W.heap.size, 3, none⟩, .slice a3 n3 m3), (⟨A, 0, none⟩, .slice yr0 yr1 yr2), (⟨A, 1, none⟩, .slice yd0 yd1 yd2), (⟨A, 2, none⟩, .slice yo0 yo1 yo2), (⟨A, 3, none⟩, .slice ya0 ya1 ya2), (⟨A, 4, none⟩, .slice yi0 yi1 yi2), (⟨A, 5, none⟩, .slice yf0 yf1 yf2), (⟨A, 6, none⟩, .slice yl0 yl1 yl2), (⟨B, 0, none⟩, .slice xr0 xr1 xr2), (⟨B, 1, none⟩, .slice xd0 xd1 xd2), (⟨B, 2, none⟩, .slice xo0 xo1 xo2), (⟨B, 3, none⟩, .slice xa0 xa1 xa2), (⟨B, 4, none⟩, .slice xi0 xi1 xi2), (⟨B, 5, none⟩, .slice xf0 xf1 xf2), (⟨B, 6, none⟩, .slice xl0 xl1 xl2)]) (by assumption) _ | exact AtF.al (w := w1) (l := [(⟨W.heap.size, 2, none⟩, .int .i64 z), (⟨W.heap.size, 3, none⟩, .slice a3 n3 m3), (⟨A, 0, none⟩, .slice yr0 yr1 yr2), (⟨A, 1, none⟩, .slice yd0 yd1 yd2), (⟨A, 2, none⟩, .slice yo0 yo1 yo2), (⟨A, 3, none⟩, .slice ya0 ya1 ya2), (⟨A, 4, none⟩, .slice yi0 yi1 yi2), (⟨A, 5, none⟩, .slice yf0 yf1 yf2), (⟨A, 6, none⟩, .slice yl0 yl1 yl2), (⟨B, 0, none⟩, .slice xr0 xr1 xr2), (⟨B, 1, none⟩, .slice xd0 xd1 xd2), (⟨B, 2, none⟩, .slice xo0 xo1 xo2), (⟨B, 3, none⟩, .slice xa0 xa1 xa2), (⟨B, 4, none⟩, .slice xi0 xi1 xi2), (⟨B, 5, none⟩, .slice xf0 xf1 xf2), (⟨B, 6, none⟩, .slice xl0 xl1 xl2)]) hs _ | exact AtF.ald (w := w1) (l := [(⟨W.heap.size, 2, none⟩, .int .i64 z), (⟨W.heap.size, 3, none⟩, .slice a3 n3 m3), (⟨A, 0, none⟩, .slice yr0 yr1 yr2), (⟨A, 1, none⟩, .slice yd0 yd1 yd2), (⟨A, 2, none⟩, .slice yo0 yo1 yo2), (⟨A, 3, none⟩, .slice ya0 ya1 ya2), (⟨A, 4, none⟩, .slice yi0 yi1 yi2), (⟨A, 5, none⟩, .slice yf0 yf1 yf2), (⟨A, 6, none⟩, .slice yl0 yl1 yl2), (⟨B, 0, none⟩, .slice xr0 xr1 xr2), (⟨B, 1, none⟩, .slice xd0 xd1 xd2), (⟨B, 2, none⟩, .slice xo0 xo1 xo2), (⟨B, 3, none⟩, .slice xa0 xa1 xa2), (⟨B, 4, none⟩, .slice xi0 xi1 xi2), (⟨B, 5, none⟩, .slice xf0 xf1 xf2), (⟨B, 6, none⟩, .slice xl0 xl1 xl2)]) hs _)
    clear hK K
    try simp only [Act.put, List.setIfInBounds_toArray, List.set_cons_zero, List.set_cons_succ]
    refine heldY 3 8 ?_ _ rfl rfl (by kernel_rfl) (by kernel_rfl) (by kernel_rfl) (fun _ _ _ h => h) rfl (by assumption) ?_ ?_
    rotate_left
    · (intro w hSw; (try dsimp only at hSw); go_simp; (try with_reducible rfl))
    try simp only [List.setIfInBounds_toArray, List.set_cons_zero, List.set_cons_succ]
    refine heldNo 4 9 rfl (by kernel_rfl) (by kernel_rfl) (by kernel_rfl) (fun _ _ _ h => h) rfl (by assumption) ?_
    try simp only [List.setIfInBounds_toArray, List.set_cons_zero, List.set_cons_succ]
    refine heldNo 5 10 rfl (by kernel_rfl) (by kernel_rfl) (by kernel_rfl) (fun _ _ _ h => h) rfl (by assumption) ?_
    try simp only [List.setIfInBounds_toArray, List.set_cons_zero, List.set_cons_succ]
    refine heldNo 6 11 rfl (by kernel_rfl) (by kernel_rfl) (by kernel_rfl) (fun _ _ _ h => h) rfl (by assumption) ?_
    try simp only [List.setIfInBounds_toArray, List.set_cons_zero, List.set_cons_succ]
    refine heldNo 7 12 rfl (by kernel_rfl) (by kernel_rfl) (by kernel_rfl) (fun _ _ _ h => h) rfl (by assumption) ?_
    try simp only [List.setIfInBounds_toArray, List.set_cons_zero, List.set_cons_succ]
    refine heldNo 8 13 rfl (by kernel_rfl) (by kernel_rfl) (by kernel_rfl) (fun _ _ _ h => h) rfl (by assumption) ?_
    try simp only [List.setIfInBounds_toArray, List.set_cons_zero, List.set_cons_succ]
    refine heldNo 9 14 rfl (by kernel_rfl) (by kernel_rfl) (by kernel_rfl) (fun _ _ _ h => h) rfl (by assumption) ?_
    try simp only [List.setIfInBounds_toArray, List.set_cons_zero, List.set_cons_succ]
    refine heldNo 10 15 rfl (by kernel_rfl) (by kernel_rfl) (by kernel_rfl) (fun _ _ _ h => h) rfl (by assumption) ?_
    try simp only [List.setIfInBounds_toArray, List.set_cons_zero, List.set_cons_succ]
    refine heldNo 11 16 rfl (by kernel_rfl) (by kernel_rfl) (by kernel_rfl) (fun _ _ _ h => h) rfl (by assumption) ?_
    try simp only [List.setIfInBounds_toArray, List.set_cons_zero, List.set_cons_succ]
    refine heldNo 12 17 rfl (by kernel_rfl) (by kernel_rfl) (by kernel_rfl) (fun _ _ _ h => h) rfl (by assumption) ?_
    try simp only [List.setIfInBounds_toArray, List.set_cons_zero, List.set_cons_succ]
    refine heldNo 13 18 rfl (by kernel_rfl) (by kernel_rfl) (by kernel_rfl) (fun _ _ _ h => h) rfl (by assumption) ?_
    try simp only [List.setIfInBounds_toArray, List.set_cons_zero, List.set_cons_succ]
    refine heldNo 14 19 rfl (by kernel_rfl) (by kernel_rfl) (by kernel_rfl) (fun _ _ _ h => h) rfl (by assumption) ?_
    try simp only [List.setIfInBounds_toArray, List.set_cons_zero, List.set_cons_succ]
    refine heldY 15 20 ?_ _ rfl rfl (by kernel_rfl) (by kernel_rfl) (by kernel_rfl) (fun _ _ _ h => h) rfl (by assumption) ?_ ?_
    rotate_left
    · (intro w hSw; (try dsimp only at hSw); go_simp; (try with_reducible rfl))
    try simp only [List.setIfInBounds_toArray, List.set_cons_zero, List.set_cons_succ]
    refine heldY 16 4 ?_ _ rfl rfl (by kernel_rfl) (by kernel_rfl) (by kernel_rfl) (fun _ _ _ h => h) rfl (by assumption) ?_ ?_
    rotate_left
    · (intro w hSw; (try dsimp only at hSw); go_simp; (try with_reducible rfl))
    try simp only [List.setIfInBounds_toArray, List.set_cons_zero, List.set_cons_succ]
    refine wpAnyH_done (by kernel_rfl) ?_ _
    have HW := Lib.hid (BE _ hHeld)
    clear hHeld
    go_wp2
    go_ret
    exact ⟨rfl, HDONE.out _ HW.out⟩
  · rw [hz] at CF
    simp only [Bool.true_and]
    go_enter Tryz.func41, Tryz.ntmps41
    go_wp2
    have BE := fun (V : World) (h : V.cell? ⟨W.heap.size, 2, none⟩ = some (.int .i64 z) ∧ V.cell? ⟨W.heap.size, 3, none⟩ = some (.slice a3 n3 m3) ∧ V.cell? ⟨A, 0, none⟩ = some (.slice yr0 yr1 yr2) ∧ V.cell? ⟨A, 1, none⟩ = some (.slice yd0 yd1 yd2) ∧ V.cell? ⟨A, 2, none⟩ = some (.slice yo0 yo1 yo2) ∧ V.cell? ⟨A, 3, none⟩ = some (.slice ya0 ya1 ya2) ∧ V.cell? ⟨A, 4, none⟩ = some (.slice yi0 yi1 yi2) ∧ V.cell? ⟨A, 5, none⟩ = some (.slice yf0 yf1 yf2) ∧ V.cell? ⟨A, 6, none⟩ = some (.slice yl0 yl1 yl2) ∧ V.cell? ⟨B, 0, none⟩ = some (.slice xr0 xr1 xr2) ∧ V.cell? ⟨B, 1, none⟩ = some (.slice xd0 xd1 xd2) ∧ V.cell? ⟨B, 2, none⟩ = some (.slice xo0 xo1 xo2) ∧ V.cell? ⟨B, 3, none⟩ = some (.slice xa0 xa1 xa2) ∧ V.cell? ⟨B, 4, none⟩ = some (.slice xi0 xi1 xi2) ∧ V.cell? ⟨B, 5, none⟩ = some (.slice xf0 xf1 xf2) ∧ V.cell? ⟨B, 6, none⟩ = some (.slice xl0 xl1 xl2) ∧ Below w1.heap.size w1 V) => AtF.be (w := w1) (l := [(⟨W.heap.size, 2, none⟩, .int .i64 z), (⟨W.heap.size, 3, none⟩, .slice a3 n3 m3), (⟨A, 0, none⟩, .slice yr0 yr1 yr2), (⟨A, 1, none⟩, .slice yd0 yd1 yd2), (⟨A, 2, none⟩, .slice yo0 yo1 yo2), (⟨A, 3, none⟩, .slice ya0 ya1 ya2), (⟨A, 4, none⟩, .slice yi0 yi1 yi2), (⟨A, 5, none⟩, .slice yf0 yf1 yf2), (⟨A, 6, none⟩, .slice yl0 yl1 yl2), (⟨B, 0, none⟩, .slice xr0 xr1 xr2), (⟨B, 1, none⟩, .slice xd0 xd1 xd2), (⟨B, 2, none⟩, .slice xo0 xo1 xo2), (⟨B, 3, none⟩, .slice xa0 xa1 xa2), (⟨B, 4, none⟩, .slice xi0 xi1 xi2), (⟨B, 5, none⟩, .slice xf0 xf1 xf2), (⟨B, 6, none⟩, .slice xl0 xl1 xl2)]) h
    refine wp_region_held_drew (S := (fun V => V.cell? ⟨W.heap.size, 2, none⟩ = some (.int .i64 z) ∧ V.cell? ⟨W.heap.size, 3, none⟩ = some (.slice a3 n3 m3) ∧ V.cell? ⟨A, 0, none⟩ = some (.slice yr0 yr1 yr2) ∧ V.cell? ⟨A, 1, none⟩ = some (.slice yd0 yd1 yd2) ∧ V.cell? ⟨A, 2, none⟩ = some (.slice yo0 yo1 yo2) ∧ V.cell? ⟨A, 3, none⟩ = some (.slice ya0 ya1 ya2) ∧ V.cell? ⟨A, 4, none⟩ = some (.slice yi0 yi1 yi2) ∧ V.cell? ⟨A, 5, none⟩ = some (.slice yf0 yf1 yf2) ∧ V.cell? ⟨A, 6, none⟩ = some (.slice yl0 yl1 yl2) ∧ V.cell? ⟨B, 0, none⟩ = some (.slice xr0 xr1 xr2) ∧ V.cell? ⟨B, 1, none⟩ = some (.slice xd0 xd1 xd2) ∧ V.cell? ⟨B, 2, none⟩ = some (.slice xo0 xo1 xo2) ∧ V.cell? ⟨B, 3, none⟩ = some (.slice xa0 xa1 xa2) ∧ V.cell? ⟨B, 4, none⟩ = some (.slice xi0 xi1 xi2) ∧ V.cell? ⟨B, 5, none⟩ = some (.slice xf0 xf1 xf2) ∧ V.cell? ⟨B, 6, none⟩ = some (.slice xl0 xl1 xl2) ∧ Below w1.heap.size w1 V)) (by kernel_rfl) ?_ (fun hHeld => ?_)
    · (try dsimp only); (first | assumption | exact hs | exact AtF.dr (w := w1) (l := [(⟨W.heap.size, 2, none⟩, .int .i64 z), (⟨W.heap.size, 3, none⟩, .slice a3 n3 m3), (⟨A, 0, none⟩, .slice yr0 yr1 yr2), (⟨A, 1, none⟩, .slice yd0 yd1 yd2), (⟨A, 2, none⟩, .slice yo0 yo1 yo2), (⟨A, 3, none⟩, .slice ya0 ya1 ya2), (⟨A, 4, none⟩, .slice yi0 yi1 yi2), (⟨A, 5, none⟩, .slice yf0 yf1 yf2), (⟨A, 6, none⟩, .slice yl0 yl1 yl2), (⟨B, 0, none⟩, .slice xr0 xr1 xr2), (⟨B, 1, none⟩, .slice xd0 xd1 xd2), (⟨B, 2, none⟩, .slice xo0 xo1 xo2), (⟨B, 3, none⟩, .slice xa0 xa1 xa2), (⟨B, 4, none⟩, .slice xi0 xi1 xi2), (⟨B, 5, none⟩, .slice xf0 xf1 xf2), (⟨B, 6, none⟩, .slice xl0 xl1 xl2)]) hs | exact AtF.dr (w := w1) (l := [(⟨W.heap.size, 2, none⟩, .int .i64 z), (⟨W.heap.size, 3, none⟩, .slice a3 n3 m3), (⟨A, 0, none⟩, .slice yr0 yr1 yr2), (⟨A, 1, none⟩, .slice yd0 yd1 yd2), (⟨A, 2, none⟩, .slice yo0 yo1 yo2), (⟨A, 3, none⟩, .slice ya0 ya1 ya2), (⟨A, 4, none⟩, .slice yi0 yi1 yi2), (⟨A, 5, none⟩, .slice yf0 yf1 yf2), (⟨A, 6, none⟩, .slice yl0 yl1 yl2), (⟨B, 0, none⟩, .slice xr0 xr1 xr2), (⟨B, 1, none⟩, .slice xd0 xd1 xd2), (⟨B, 2, none⟩, .slice xo0 xo1 xo2), (⟨B, 3, none⟩, .slice xa0 xa1 xa2), (⟨B, 4, none⟩, .slice xi0 xi1 xi2), (⟨B, 5, none⟩, .slice xf0 xf1 xf2), (⟨B, 6, none⟩, .slice xl0 xl1 xl2)]) (by assumption) | exact AtF.on (w := w1) (l := [(⟨W.heap.size, 2, none⟩, .int .i64 z), (⟨W.heap.size, 3, none⟩, .slice a3 n3 m3), (⟨A, 0, none⟩, .slice yr0 yr1 yr2), (⟨A, 1, none⟩, .slice yd0 yd1 yd2), (⟨A, 2, none⟩, .slice yo0 yo1 yo2), (⟨A, 3, none⟩, .slice ya0 ya1 ya2), (⟨A, 4, none⟩, .slice yi0 yi1 yi2), (⟨A, 5, none⟩, .slice yf0 yf1 yf2), (⟨A, 6, none⟩, .slice yl0 yl1 yl2), (⟨B, 0, none⟩, .slice xr0 xr1 xr2), (⟨B, 1, none⟩, .slice xd0 xd1 xd2), (⟨B, 2, none⟩, .slice xo0 xo1 xo2), (⟨B, 3, none⟩, .slice xa0 xa1 xa2), (⟨B, 4, none⟩, .slice xi0 xi1 xi2), (⟨B, 5, none⟩, .slice xf0 xf1 xf2), (⟨B, 6, none⟩, .slice xl0 xl1 xl2)]) (by assumption) (by assumption) | exact AtF.al (w := w1) (l := [(⟨W.heap.size, 2, none⟩, .int .i64 z), (⟨W.heap.size, 3, none⟩, .slice a3 n3 m3), (⟨A, 0, none⟩, .slice yr0 yr1 yr2), (⟨A, 1, none⟩, .slice yd0 yd1 yd2), (⟨A, 2, none⟩, .slice yo0 yo1 yo2), (⟨A, 3, none⟩, .slice ya0 ya1 ya2), (⟨A, 4, none⟩, .slice yi0 yi1 yi2), (⟨A, 5, none⟩, .slice yf0 yf1 yf2), (⟨A, 6, none⟩, .slice yl0 yl1 yl2), (⟨B, 0, none⟩, .slice xr0 xr1 xr2), (⟨B, 1, none⟩, .slice xd0 xd1 xd2), (⟨B, 2, none⟩, .slice xo0 xo1 xo2), (⟨B, 3, none⟩, .slice xa0 xa1 xa2), (⟨B, 4, none⟩, .slice xi0 xi1 xi2), (⟨B, 5, none⟩, .slice xf0 xf1 xf2), (⟨B, 6, none⟩, .slice xl0 xl1 xl2)]) (by assumption) _ | exact AtF.ald (w := w1) (l := [(⟨W.heap.size, 2, none⟩, .int .i64 z), (⟨W.heap.size, 3, none⟩, .slice a3 n3 m3), (⟨A, 0, none⟩, .slice yr0 yr1 yr2), (⟨A, 1, none⟩, .slice yd0 yd1 yd2), (⟨A, 2, none⟩, .slice yo0 yo1 yo2), (⟨A, 3, none⟩, .slice ya0 ya1 ya2), (⟨A, 4, none⟩, .slice yi0 yi1 yi2), (⟨A, 5, none⟩, .slice yf0 yf1 yf2), (⟨A, 6, none⟩, .slice yl0 yl1 yl2), (⟨B, 0, none⟩, .slice xr0 xr1 xr2), (⟨B, 1, none⟩, .slice xd0 xd1 xd2), (⟨B, 2, none⟩, .slice xo0 xo1 xo2), (⟨B, 3, none⟩, .slice xa0 xa1 xa2), (⟨B, 4, none⟩, .slice xi0 xi1 xi2), (⟨B, 5, none⟩, .slice xf0 xf1 xf2), (⟨B, 6, none⟩, .slice xl0 xl1 xl2)]) (by assumption) _ | exact AtF.al (w := w1) (l := [(⟨W.heap.size, 2, none⟩, .int .i64 z), (⟨W.heap.size, 3, none⟩, .slice a3 n3 m3), (⟨A, 0, none⟩, .slice yr0 yr1 yr2), (⟨A, 1, none⟩, .slice yd0 yd1 yd2), (⟨A, 2, none⟩, .slice yo0 yo1 yo2), (⟨A, 3, none⟩, .slice ya0 ya1 ya2), (⟨A, 4, none⟩, .slice yi0 yi1 yi2), (⟨A, 5, none⟩, .slice yf0 yf1 yf2), (⟨A, 6, none⟩, .slice yl0 yl1 yl2), (⟨B, 0, none⟩, .slice xr0 xr1 xr2), (⟨B, 1, none⟩, .slice xd0 xd1 xd2), (⟨B, 2, none⟩, .slice xo0 xo1 xo2), (⟨B, 3, none⟩, .slice xa0 xa1 xa2), (⟨B, 4, none⟩, .slice xi0 xi1 xi2), (⟨B, 5, none⟩, .slice xf0 xf1 xf2), (⟨B, 6, none⟩, .slice xl0 xl1 xl2)]) hs _ | exact AtF.ald (w := w1) (l := [(⟨W.heap.size, 2, none⟩, .int .i64 z), (⟨W.heap.size, 3, none⟩, .slice a3 n3 m3), (⟨A, 0, none⟩, .slice yr0 yr1 yr2), (⟨A, 1, none⟩, .slice yd0 yd1 yd2), (⟨A, 2, none⟩, .slice yo0 yo1 yo2), (⟨A, 3, none⟩, .slice ya0 ya1 ya2), (⟨A, 4, none⟩, .slice yi0 yi1 yi2), (⟨A, 5, none⟩, .slice yf0 yf1 yf2), (⟨A, 6, none⟩, .slice yl0 yl1 yl2), (⟨B, 0, none⟩, .slice xr0 xr1 xr2), (⟨B, 1, none⟩, .slice xd0 xd1 xd2), (⟨B, 2, none⟩, .slice xo0 xo1 xo2), (⟨B, 3, none⟩, .slice xa0 xa1 xa2), (⟨B, 4, none⟩, .slice xi0 xi1 xi2), (⟨B, 5, none⟩, .slice xf0 xf1 xf2), (⟨B, 6, none⟩, .slice xl0 xl1 xl2)]) hs _)
    refine heldY 0 5 ?_ _ rfl rfl (by kernel_rfl) (by kernel_rfl) (by kernel_rfl) (fun _ _ _ h => h) rfl (by assumption) ?_ ?_
    rotate_left
    · (intro w hSw; (try dsimp only at hSw); go_simp; (try with_reducible rfl))
    try simp only [List.setIfInBounds_toArray, List.set_cons_zero, List.set_cons_succ]
    refine heldY 1 6 ?_ _ rfl rfl (by kernel_rfl) (by kernel_rfl) (by kernel_rfl) (fun _ _ _ h => h) rfl (by assumption) ?_ ?_
    rotate_left
    · (intro w hSw; (try dsimp only at hSw); go_simp; (try with_reducible rfl))
    try simp only [List.setIfInBounds_toArray, List.set_cons_zero, List.set_cons_succ]
    refine wpAnyH_ready (rs := [2]) (by kernel_rfl) (by simp) ?_
    refine AllReadyH.cons rfl (fun K hK => ?_) AllReadyH.nil
    go_simp
    first | (go_at_call 42; refine (CF _).mono ?_; rintro e w3 ⟨rfl, rfl⟩) | (go_at_call 14; (with_reducible refine (RY.out _ (BE _ (by assumption))).mono ?_); rintro e w3 ⟨ta, tc, rfl, hb⟩) | (go_at_call 14; (with_reducible refine (RX.out _ (BE _ (by assumption))).mono ?_); rintro e w3 ⟨tb, td, rfl, hb⟩)
    refine hK.out _ _ ?_ (fun hHeld => ?_)
    · (try dsimp only); (first | assumption | exact hs | exact AtF.dr (w := w1) (l := [(⟨W.heap.size, 2, none⟩, .int .i64 z), (⟨W.heap.size, 3, none⟩, .slice a3 n3 m3), (⟨A, 0, none⟩, .slice yr0 yr1 yr2), (⟨A, 1, none⟩, .slice yd0 yd1 yd2), (⟨A, 2, none⟩, .slice yo0 yo1 yo2), (⟨A, 3, none⟩, .slice ya0 ya1 ya2), (⟨A, 4, none⟩, .slice yi0 yi1 yi2), (⟨A, 5, none⟩, .slice yf0 yf1 yf2), (⟨A, 6, none⟩, .slice yl0 yl1 yl2), (⟨B, 0, none⟩, .slice xr0 xr1 xr2), (⟨B, 1, none⟩, .slice xd0 xd1 xd2), (⟨B, 2, none⟩, .slice xo0 xo1 xo2), (⟨B, 3, none⟩, .slice xa0 xa1 xa2), (⟨B, 4, none⟩, .slice xi0 xi1 xi2), (⟨B, 5, none⟩, .slice xf0 xf1 xf2), (⟨B, 6, none⟩, .slice xl0 xl1 xl2)]) hs | exact AtF.dr (w := w1) (l := [(⟨W.heap.size, 2, none⟩, .int .i64 z), (⟨W.heap.size, 3, none⟩, .slice a3 n3 m3), (⟨A, 0, none⟩, .slice yr0 yr1 yr2), (⟨A, 1, none⟩, .slice yd0 yd1 yd2), (⟨A, 2, none⟩, .slice yo0 yo1 yo2), (⟨A, 3, none⟩, .slice ya0 ya1 ya2), (⟨A, 4, none⟩, .slice yi0 yi1 yi2), (⟨A, 5, none⟩, .slice yf0 yf1 yf2), (⟨A, 6, none⟩, .slice yl0 yl1 yl2), (⟨B, 0, none⟩, .slice xr0 xr1 xr2), (⟨B, 1, none⟩, .slice xd0 xd1 xd2), (⟨B, 2, none⟩, .slice xo0 xo1 xo2), (⟨B, 3, none⟩, .slice xa0 xa1 xa2), (⟨B, 4, none⟩, .slice xi0 xi1 xi2), (⟨B, 5, none⟩, .slice xf0 xf1 xf2), (⟨B, 6, none⟩, .slice xl0 xl1 xl2)]) (by assumption) | exact AtF.on (w := w1) (l := [(⟨W.heap.size, 2, none⟩, .int .i64 z), (⟨W.heap.size, 3, none⟩, .slice a3 n3 m3), (⟨A, 0, none⟩, .slice yr0 yr1 yr2), (⟨A, 1, none⟩, .slice yd0 yd1 yd2), (⟨A, 2, none⟩, .slice yo0 yo1 yo2), (⟨A, 3, none⟩, .slice ya0 ya1 ya2), (⟨A, 4, none⟩, .slice yi0 yi1 yi2), (⟨A, 5, none⟩, .slice yf0 yf1 yf2), (⟨A, 6, none⟩, .slice yl0 yl1 yl2), (⟨B, 0, none⟩, .slice xr0 xr1 xr2), (⟨B, 1, none⟩, .slice xd0 xd1 xd2), (⟨B, 2, none⟩, .slice xo0 xo1 xo2), (⟨B, 3, none⟩, .slice xa0 xa1 xa2), (⟨B, 4, none⟩, .slice xi0 xi1 xi2), (⟨B, 5, none⟩, .slice xf0 xf1 xf2), (⟨B, 6, none⟩, .slice xl0 xl1 xl2)]) (by assumption) (by assumption) | exact AtF.al (w := w1) (l := [(⟨W.heap.size, 2, none⟩, .int .i64 z), (⟨W.heap.size, 3, none⟩, .slice a3 n3 m3), (⟨A, 0, none⟩, .slice yr0 yr1 yr2), (⟨A, 1, none⟩, .slice yd0 yd1 yd2), (⟨A, 2, none⟩, .slice yo0 yo1 yo2), (⟨A, 3, none⟩, .slice ya0 ya1 ya2), (⟨A, 4, none⟩, .slice yi0 yi1 yi2), (⟨A, 5, none⟩, .slice yf0 yf1 yf2), (⟨A, 6, none⟩, .slice yl0 yl1 yl2), (⟨B, 0, none⟩, .slice xr0 xr1 xr2), (⟨B, 1, none⟩, .slice xd0 xd1 xd2), (⟨B, 2, none⟩, .slice xo0 xo1 xo2), (⟨B, 3, none⟩, .slice xa0 xa1 xa2), (⟨B, 4, none⟩, .slice xi0 xi1 xi2), (⟨B, 5, none⟩, .slice xf0 xf1 xf2), (⟨B, 6, none⟩, .slice xl0 xl1 xl2)]) (by assumption) _ | exact AtF.ald (w := w1) (l := [(⟨W.heap.size, 2, none⟩, .int .i64 z), (⟨W.heap.size, 3, none⟩, .slice a3 n3 m3), (⟨A, 0, none⟩, .slice yr0 yr1 yr2), (⟨A, 1, none⟩, .slice yd0 yd1 yd2), (⟨A, 2, none⟩, .slice yo0 yo1 yo2), (⟨A, 3, none⟩, .slice ya0 ya1 ya2), (⟨A, 4, none⟩, .slice yi0 yi1 yi2), (⟨A, 5, none⟩, .slice yf0 yf1 yf2), (⟨A, 6, none⟩, .slice yl0 yl1 yl2), (⟨B, 0, none⟩, .slice xr0 xr1 xr2), (⟨B, 1, none⟩, .slice xd0 xd1 xd2), (⟨B, 2, none⟩, .slice xo0 xo1 xo2), (⟨B, 3, none⟩, .slice xa0 xa1 xa2), (⟨B, 4, none⟩, .slice xi0 xi1 xi2), (⟨B, 5, none⟩, .slice xf0 xf1 xf2), (⟨B, 6, none⟩, .slice xl0 xl1 xl2)]) (by assumption) _ | exact AtF.al (w := w1) (l := [(⟨W.heap.size, 2, none⟩, .int .i64 z), (⟨W.heap.size, 3, none⟩, .slice a3 n3 m3), (⟨A, 0, none⟩, .slice yr0 yr1 yr2), (⟨A, 1, none⟩, .slice yd0 yd1 yd2), (⟨A, 2, none⟩, .slice yo0 yo1 yo2), (⟨A, 3, none⟩, .slice ya0 ya1 ya2), (⟨A, 4, none⟩, .slice yi0 yi1 yi2), (⟨A, 5, none⟩, .slice yf0 yf1 yf2), (⟨A, 6, none⟩, .slice yl0 yl1 yl2), (⟨B, 0, none⟩, .slice xr0 xr1 xr2), (⟨B, 1, none⟩, .slice xd0 xd1 xd2), (⟨B, 2, none⟩, .slice xo0 xo1 xo2), (⟨B, 3, none⟩, .slice xa0 xa1 xa2), (⟨B, 4, none⟩, .slice xi0 xi1 xi2), (⟨B, 5, none⟩, .slice xf0 xf1 xf2), (⟨B, 6, none⟩, .slice xl0 xl1 xl2)]) hs _ | exact AtF.ald (w := w1) (l := [(⟨W.heap.size, 2, none⟩, .int .i64 z), (⟨W.heap.size, 3, none⟩, .slice a3 n3 m3), (⟨A, 0, none⟩, .slice yr0 yr1 yr2), (⟨A, 1, none⟩, .slice yd0 yd1 yd2), (⟨A, 2, none⟩, .slice yo0 yo1 yo2), (⟨A, 3, none⟩, .slice ya0 ya1 ya2), (⟨A, 4, none⟩, .slice yi0 yi1 yi2), (⟨A, 5, none⟩, .slice yf0 yf1 yf2), (⟨A, 6, none⟩, .slice yl0 yl1 yl2), (⟨B, 0, none⟩, .slice xr0 xr1 xr2), (⟨B, 1, none⟩, .slice xd0 xd1 xd2), (⟨B, 2, none⟩, .slice xo0 xo1 xo2), (⟨B, 3, none⟩, .slice xa0 xa1 xa2), (⟨B, 4, none⟩, .slice xi0 xi1 xi2), (⟨B, 5, none⟩, .slice xf0 xf1 xf2), (⟨B, 6, none⟩, .slice xl0 xl1 xl2)]) hs _)
    clear hK K
    try simp only [Act.put, List.setIfInBounds_toArray, List.set_cons_zero, List.set_cons_succ]
    refine heldY 3 8 ?_ _ rfl rfl (by kernel_rfl) (by kernel_rfl) (by kernel_rfl) (fun _ _ _ h => h) rfl (by assumption) ?_ ?_
    rotate_left
    · (intro w hSw; (try dsimp only at hSw); go_simp; (try with_reducible rfl))
    try simp only [List.setIfInBounds_toArray, List.set_cons_zero, List.set_cons_succ]
    refine heldY 4 9 ?_ _ rfl rfl (by kernel_rfl) (by kernel_rfl) (by kernel_rfl) (fun _ _ _ h => h) rfl (by assumption) ?_ ?_
    rotate_left
    · (intro w hSw; (try dsimp only at hSw); go_simp; (try with_reducible rfl))
    try simp only [List.setIfInBounds_toArray, List.set_cons_zero, List.set_cons_succ]
    refine heldY 5 10 ?_ _ rfl rfl (by kernel_rfl) (by kernel_rfl) (by kernel_rfl) (fun _ _ _ h => h) rfl (by assumption) ?_ ?_
    rotate_left
    · (intro w hSw; (try dsimp only at hSw); go_simp; (try with_reducible rfl))
    try simp only [List.setIfInBounds_toArray, List.set_cons_zero, List.set_cons_succ]
    refine heldY 6 11 ?_ _ rfl rfl (by kernel_rfl) (by kernel_rfl) (by kernel_rfl) (fun _ _ _ h => h) rfl (by assumption) ?_ ?_
    rotate_left
    · (intro w hSw; (try dsimp only at hSw); go_simp; (try with_reducible rfl))
    try simp only [List.setIfInBounds_toArray, List.set_cons_zero, List.set_cons_succ]
    refine heldY 9 14 ?_ _ rfl rfl (by kernel_rfl) (by kernel_rfl) (by kernel_rfl) (fun _ _ _ h => h) rfl (by assumption) ?_ ?_
    rotate_left
    · (intro w hSw; (try dsimp only at hSw); go_simp; (try with_reducible rfl))
    try simp only [List.setIfInBounds_toArray, List.set_cons_zero, List.set_cons_succ]
    refine heldY 10 15 ?_ _ rfl rfl (by kernel_rfl) (by kernel_rfl) (by kernel_rfl) (fun _ _ _ h => h) rfl (by assumption) ?_ ?_
    rotate_left
    · (intro w hSw; (try dsimp only at hSw); go_simp; (try with_reducible rfl))
    try simp only [List.setIfInBounds_toArray, List.set_cons_zero, List.set_cons_succ]
    refine heldY 11 16 ?_ _ rfl rfl (by kernel_rfl) (by kernel_rfl) (by kernel_rfl) (fun _ _ _ h => h) rfl (by assumption) ?_ ?_
    rotate_left
    · (intro w hSw; (try dsimp only at hSw); go_simp; (try with_reducible rfl))
    try simp only [List.setIfInBounds_toArray, List.set_cons_zero, List.set_cons_succ]
    refine wpAnyH_ready (rs := [7]) (by kernel_rfl) (by simp) ?_
    refine AllReadyH.cons rfl (fun K hK => ?_) AllReadyH.nil
    go_simp
    first | (go_at_call 42; refine (CF _).mono ?_; rintro e w3 ⟨rfl, rfl⟩) | (go_at_call 14; (with_reducible refine (RY.out _ (BE _ (by assumption))).mono ?_); rintro e w3 ⟨ta, tc, rfl, hb⟩) | (go_at_call 14; (with_reducible refine (RX.out _ (BE _ (by assumption))).mono ?_); rintro e w3 ⟨tb, td, rfl, hb⟩)
    refine hK.out _ _ ?_ (fun hHeld => ?_)
    · (try dsimp only); (first | assumption | exact hs | exact AtF.dr (w := w1) (l := [(⟨W.heap.size, 2, none⟩, .int .i64 z), (⟨W.heap.size, 3, none⟩, .slice a3 n3 m3), (⟨A, 0, none⟩, .slice yr0 yr1 yr2), (⟨A, 1, none⟩, .slice yd0 yd1 yd2), (⟨A, 2, none⟩, .slice yo0 yo1 yo2), (⟨A, 3, none⟩, .slice ya0 ya1 ya2), (⟨A, 4, none⟩, .slice yi0 yi1 yi2), (⟨A, 5, none⟩, .slice yf0 yf1 yf2), (⟨A, 6, none⟩, .slice yl0 yl1 yl2), (⟨B, 0, none⟩, .slice xr0 xr1 xr2), (⟨B, 1, none⟩, .slice xd0 xd1 xd2), (⟨B, 2, none⟩, .slice xo0 xo1 xo2), (⟨B, 3, none⟩, .slice xa0 xa1 xa2), (⟨B, 4, none⟩, .slice xi0 xi1 xi2), (⟨B, 5, none⟩, .slice xf0 xf1 xf2), (⟨B, 6, none⟩, .slice xl0 xl1 xl2)]) hs | exact AtF.dr (w := w1) (l := [(⟨W.heap.size, 2, none⟩, .int .i64 z), (⟨W.heap.size, 3, none⟩, .slice a3 n3 m3), (⟨A, 0, none⟩, .slice yr0 yr1 yr2), (⟨A, 1, none⟩, .slice yd0 yd1 yd2), (⟨A, 2, none⟩, .slice yo0 yo1 yo2), (⟨A, 3, none⟩, .slice ya0 ya1 ya2), (⟨A, 4, none⟩, .slice yi0 yi1 yi2), (⟨A, 5, none⟩, .slice yf0 yf1 yf2), (⟨A, 6, none⟩, .slice yl0 yl1 yl2), (⟨B, 0, none⟩, .slice xr0 xr1 xr2), (⟨B, 1, none⟩, .slice xd0 xd1 xd2), (⟨B, 2, none⟩, .slice xo0 xo1 xo2), (⟨B, 3, none⟩, .slice xa0 xa1 xa2), (⟨B, 4, none⟩, .slice xi0 xi1 xi2), (⟨B, 5, none⟩, .slice xf0 xf1 xf2), (⟨B, 6, none⟩, .slice xl0 xl1 xl2)]) (by assumption) | exact AtF.on (w := w1) (l := [(⟨W.heap.size, 2, none⟩, .int .i64 z), (⟨W.heap.size, 3, none⟩, .slice a3 n3 m3), (⟨A, 0, none⟩, .slice yr0 yr1 yr2), (⟨A, 1, none⟩, .slice yd0 yd1 yd2), (⟨A, 2, none⟩, .slice yo0 yo1 yo2), (⟨A, 3, none⟩, .slice ya0 ya1 ya2), (⟨A, 4, none⟩, .slice yi0 yi1 yi2), (⟨A, 5, none⟩, .slice yf0 yf1 yf2), (⟨A, 6, none⟩, .slice yl0 yl1 yl2), (⟨B, 0, none⟩, .slice xr0 xr1 xr2), (⟨B, 1, none⟩, .slice xd0 xd1 xd2), (⟨B, 2, none⟩, .slice xo0 xo1 xo2), (⟨B, 3, none⟩, .slice xa0 xa1 xa2), (⟨B, 4, none⟩, .slice xi0 xi1 xi2), (⟨B, 5, none⟩, .slice xf0 xf1 xf2), (⟨B, 6, none⟩, .slice xl0 xl1 xl2)]) (by assumption) (by assumption) | exact AtF.al (w := w1) (l := [(⟨W.heap.size, 2, none⟩, .int .i64 z), (⟨W.heap.size, 3, none⟩, .slice a3 n3 m3), (⟨A, 0, none⟩, .slice yr0 yr1 yr2), (⟨A, 1, none⟩, .slice yd0 yd1 yd2), (⟨A, 2, none⟩, .slice yo0 yo1 yo2), (⟨A, 3, none⟩, .slice ya0 ya1 ya2), (⟨A, 4, none⟩, .slice yi0 yi1 yi2), (⟨A, 5, none⟩, .slice yf0 yf1 yf2), (⟨A, 6, none⟩, .slice yl0 yl1 yl2), (⟨B, 0, none⟩, .slice xr0 xr1 xr2), (⟨B, 1, none⟩, .slice xd0 xd1 xd2), (⟨B, 2, none⟩, .slice xo0 xo1 xo2), (⟨B, 3, none⟩, .slice xa0 xa1 xa2), (⟨B, 4, none⟩, .slice xi0 xi1 xi2), (⟨B, 5, none⟩, .slice xf0 xf1 xf2), (⟨B, 6, none⟩, .slice xl0 xl1 xl2)]) (by assumption) _ | exact AtF.ald (w := w1) (l := [(⟨W.heap.size, 2, none⟩, .int .i64 z), (⟨W.heap.size, 3, none⟩, .slice a3 n3 m3), (⟨A, 0, none⟩, .slice yr0 yr1 yr2), (⟨A, 1, none⟩, .slice yd0 yd1 yd2), (⟨A, 2, none⟩, .slice yo0 yo1 yo2), (⟨A, 3, none⟩, .slice ya0 ya1 ya2), (⟨A, 4, none⟩, .slice yi0 yi1 yi2), (⟨A, 5, none⟩, .slice yf0 yf1 yf2), (⟨A, 6, none⟩, .slice yl0 yl1 yl2), (⟨B, 0, none⟩, .slice xr0 xr1 xr2), (⟨B, 1, none⟩, .slice xd0 xd1 xd2), (⟨B, 2, none⟩, .slice xo0 xo1 xo2), (⟨B, 3, none⟩, .slice xa0 xa1 xa2), (⟨B, 4, none⟩, .slice xi0 xi1 xi2), (⟨B, 5, none⟩, .slice xf0 xf1 xf2), (⟨B, 6, none⟩, .slice xl0 xl1 xl2)]) (by assumption) _ | exact AtF.al (w := w1) (l := [(⟨W.heap.size, 2, none⟩, .int .i64 z), (⟨W.heap.size, 3, none⟩, .slice a3 n3 m3), (⟨A, 0, none⟩, .slice yr0 yr1 yr2), (⟨A, 1, none⟩, .slice yd0 yd1 yd2), (⟨A, 2, none⟩, .slice yo0 yo1 yo2), (⟨A, 3, none⟩, .slice ya0 ya1 ya2), (⟨A, 4, none⟩, .slice yi0 yi1 yi2), (⟨A, 5, none⟩, .slice yf0 yf1 yf2), (⟨A, 6, none⟩, .slice yl0 yl1 yl2), (⟨B, 0, none⟩, .slice xr0 xr1 xr2), (⟨B, 1, none⟩, .slice xd0 xd1 xd2), (⟨B, 2, none⟩, .slice xo0 xo1 xo2), (⟨B, 3, none⟩, .slice xa0 xa1 xa2), (⟨B, 4, none⟩, .slice xi0 xi1 xi2), (⟨B, 5, none⟩, .slice xf0 xf1 xf2), (⟨B, 6, none⟩, .slice xl0 xl1 xl2)]) hs _ | exact AtF.ald (w := w1) (l := [(⟨W.heap.size, 2, none⟩, .int .i64 z), (⟨W.heap.size, 3, none⟩, .slice a3 n3 m3), (⟨A, 0, none⟩, .slice yr0 yr1 yr2), (⟨A, 1, none⟩, .slice yd0 yd1 yd2), (⟨A, 2, none⟩, .slice yo0 yo1 yo2), (⟨A, 3, none⟩, .slice ya0 ya1 ya2), (⟨A, 4, none⟩, .slice yi0 yi1 yi2), (⟨A, 5, none⟩, .slice yf0 yf1 yf2), (⟨A, 6, none⟩, .slice yl0 yl1 yl2), (⟨B, 0, none⟩, .slice xr0 xr1 xr2), (⟨B, 1, none⟩, .slice xd0 xd1 xd2), (⟨B, 2, none⟩, .slice xo0 xo1 xo2), (⟨B, 3, none⟩, .slice xa0 xa1 xa2), (⟨B, 4, none⟩, .slice xi0 xi1 xi2), (⟨B, 5, none⟩, .slice xf0 xf1 xf2), (⟨B, 6, none⟩, .slice xl0 xl1 xl2)]) hs _)
    clear hK K
    try simp only [Act.put, List.setIfInBounds_toArray, List.set_cons_zero, List.set_cons_succ]
    refine heldY 8 13 ?_ _ rfl rfl (by kernel_rfl) (by kernel_rfl) (by kernel_rfl) (fun _ _ _ h => h) rfl (by assumption) ?_ ?_
    rotate_left
    · (intro w hSw; (try dsimp only at hSw); go_simp; (try with_reducible rfl))
    try simp only [List.setIfInBounds_toArray, List.set_cons_zero, List.set_cons_succ]
    refine wpAnyH_ready (rs := [12]) (by kernel_rfl) (by simp) ?_
    refine AllReadyH.cons rfl (fun K hK => ?_) AllReadyH.nil
    go_simp
    first | (go_at_call 42; refine (CF _).mono ?_; rintro e w3 ⟨rfl, rfl⟩) | (go_at_call 14; (with_reducible refine (RY.out _ (BE _ (by assumption))).mono ?_); rintro e w3 ⟨ta, tc, rfl, hb⟩) | (go_at_call 14; (with_reducible refine (RX.out _ (BE _ (by assumption))).mono ?_); rintro e w3 ⟨tb, td, rfl, hb⟩)
    refine hK.out _ _ ?_ (fun hHeld => ?_)
    · (try dsimp only); (first | assumption | exact hs | exact AtF.dr (w := w1) (l := [(⟨W.heap.size, 2, none⟩, .int .i64 z), (⟨W.heap.size, 3, none⟩, .slice a3 n3 m3), (⟨A, 0, none⟩, .slice yr0 yr1 yr2), (⟨A, 1, none⟩, .slice yd0 yd1 yd2), (⟨A, 2, none⟩, .slice yo0 yo1 yo2), (⟨A, 3, none⟩, .slice ya0 ya1 ya2), (⟨A, 4, none⟩, .slice yi0 yi1 yi2), (⟨A, 5, none⟩, .slice yf0 yf1 yf2), (⟨A, 6, none⟩, .slice yl0 yl1 yl2), (⟨B, 0, none⟩, .slice xr0 xr1 xr2), (⟨B, 1, none⟩, .slice xd0 xd1 xd2), (⟨B, 2, none⟩, .slice xo0 xo1 xo2), (⟨B, 3, none⟩, .slice xa0 xa1 xa2), (⟨B, 4, none⟩, .slice xi0 xi1 xi2), (⟨B, 5, none⟩, .slice xf0 xf1 xf2), (⟨B, 6, none⟩, .slice xl0 xl1 xl2)]) hs | exact AtF.dr (w := w1) (l := [(⟨W.heap.size, 2, none⟩, .int .i64 z), (⟨W.heap.size, 3, none⟩, .slice a3 n3 m3), (⟨A, 0, none⟩, .slice yr0 yr1 yr2), (⟨A, 1, none⟩, .slice yd0 yd1 yd2), (⟨A, 2, none⟩, .slice yo0 yo1 yo2), (⟨A, 3, none⟩, .slice ya0 ya1 ya2), (⟨A, 4, none⟩, .slice yi0 yi1 yi2), (⟨A, 5, none⟩, .slice yf0 yf1 yf2), (⟨A, 6, none⟩, .slice yl0 yl1 yl2), (⟨B, 0, none⟩, .slice xr0 xr1 xr2), (⟨B, 1, none⟩, .slice xd0 xd1 xd2), (⟨B, 2, none⟩, .slice xo0 xo1 xo2), (⟨B, 3, none⟩, .slice xa0 xa1 xa2), (⟨B, 4, none⟩, .slice xi0 xi1 xi2), (⟨B, 5, none⟩, .slice xf0 xf1 xf2), (⟨B, 6, none⟩, .slice xl0 xl1 xl2)]) (by assumption) | exact AtF.on (w := w1) (l := [(⟨W.heap.size, 2, none⟩, .int .i64 z), (⟨W.heap.size, 3, none⟩, .slice a3 n3 m3), (⟨A, 0, none⟩, .slice yr0 yr1 yr2), (⟨A, 1, none⟩, .slice yd0 yd1 yd2), (⟨A, 2, none⟩, .slice yo0 yo1 yo2), (⟨A, 3, none⟩, .slice ya0 ya1 ya2), (⟨A, 4, none⟩, .slice yi0 yi1 yi2), (⟨A, 5, none⟩, .slice yf0 yf1 yf2), (⟨A, 6, none⟩, .slice yl0 yl1 yl2), (⟨B, 0, none⟩, .slice xr0 xr1 xr2), (⟨B, 1, none⟩, .slice xd0 xd1 xd2), (⟨B, 2, none⟩, .slice xo0 xo1 xo2), (⟨B, 3, none⟩, .slice xa0 xa1 xa2), (⟨B, 4, none⟩, .slice xi0 xi1 xi2), (⟨B, 5, none⟩, .slice xf0 xf1 xf2), (⟨B, 6, none⟩, .slice xl0 xl1 xl2)]) (by assumption) (by assumption) | exact AtF.al (w := w1) (l := [(⟨W.heap.size, 2, none⟩, .int .i64 z), (⟨W.heap.size, 3, none⟩, .slice a3 n3 m3), (⟨A, 0, none⟩, .slice yr0 yr1 yr2), (⟨A, 1, none⟩, .slice yd0 yd1 yd2), (⟨A, 2, none⟩, .slice yo0 yo1 yo2), (⟨A, 3, none⟩, .slice ya0 ya1 ya2), (⟨A, 4, none⟩, .slice yi0 yi1 yi2), (⟨A, 5, none⟩, .slice yf0 yf1 yf2), (⟨A, 6, none⟩, .slice yl0 yl1 yl2), (⟨B, 0, none⟩, .slice xr0 xr1 xr2), (⟨B, 1, none⟩, .slice xd0 xd1 xd2), (⟨B, 2, none⟩, .slice xo0 xo1 xo2), (⟨B, 3, none⟩, .slice xa0 xa1 xa2), (⟨B, 4, none⟩, .slice xi0 xi1 xi2), (⟨B, 5, none⟩, .slice xf0 xf1 xf2), (⟨B, 6, none⟩, .slice xl0 xl1 xl2)]) (by assumption) _ | exact AtF.ald (w := w1) (l := [(⟨W.heap.size, 2, none⟩, .int .i64 z), (⟨W.heap.size, 3, none⟩, .slice a3 n3 m3), (⟨A, 0, none⟩, .slice yr0 yr1 yr2), (⟨A, 1, none⟩, .slice yd0 yd1 yd2), (⟨A, 2, none⟩, .slice yo0 yo1 yo2), (⟨A, 3, none⟩, .slice ya0 ya1 ya2), (⟨A, 4, none⟩, .slice yi0 yi1 yi2), (⟨A, 5, none⟩, .slice yf0 yf1 yf2), (⟨A, 6, none⟩, .slice yl0 yl1 yl2), (⟨B, 0, none⟩, .slice xr0 xr1 xr2), (⟨B, 1, none⟩, .slice xd0 xd1 xd2), (⟨B, 2, none⟩, .slice xo0 xo1 xo2), (⟨B, 3, none⟩, .slice xa0 xa1 xa2), (⟨B, 4, none⟩, .slice xi0 xi1 xi2), (⟨B, 5, none⟩, .slice xf0 xf1 xf2), (⟨B, 6, none⟩, .slice xl0 xl1 xl2)]) (by assumption) _ | exact AtF.al (w := w1) (l := [(⟨W.heap.size, 2, none⟩, .int .i64 z), (⟨W.heap.size, 3, none⟩, .slice a3 n3 m3), (⟨A, 0, none⟩, .slice yr0 yr1 yr2), (⟨A, 1, none⟩, .slice yd0 yd1 yd2), (⟨A, 2, none⟩, .slice yo0 yo1 yo2), (⟨A, 3, none⟩, .slice ya0 ya1 ya2), (⟨A, 4, none⟩, .slice yi0 yi1 yi2), (⟨A, 5, none⟩, .slice yf0 yf1 yf2), (⟨A, 6, none⟩, .slice yl0 yl1 yl2), (⟨B, 0, none⟩, .slice xr0 xr1 xr2), (⟨B, 1, none⟩, .slice xd0 xd1 xd2), (⟨B, 2, none⟩, .slice xo0 xo1 xo2), (⟨B, 3, none⟩, .slice xa0 xa1 xa2), (⟨B, 4, none⟩, .slice xi0 xi1 xi2), (⟨B, 5, none⟩, .slice xf0 xf1 xf2), (⟨B, 6, none⟩, .slice xl0 xl1 xl2)]) hs _ | exact AtF.ald (w := w1) (l := [(⟨W.heap.size, 2, none⟩, .int .i64 z), (⟨W.heap.size, 3, none⟩, .slice a3 n3 m3), (⟨A, 0, none⟩, .slice yr0 yr1 yr2), (⟨A, 1, none⟩, .slice yd0 yd1 yd2), (⟨A, 2, none⟩, .slice yo0 yo1 yo2), (⟨A, 3, none⟩, .slice ya0 ya1 ya2), (⟨A, 4, none⟩, .slice yi0 yi1 yi2), (⟨A, 5, none⟩, .slice yf0 yf1 yf2), (⟨A, 6, none⟩, .slice yl0 yl1 yl2), (⟨B, 0, none⟩, .slice xr0 xr1 xr2), (⟨B, 1, none⟩, .slice xd0 xd1 xd2), (⟨B, 2, none⟩, .slice xo0 xo1 xo2), (⟨B, 3, none⟩, .slice xa0 xa1 xa2), (⟨B, 4, none⟩, .slice xi0 xi1 xi2), (⟨B, 5, none⟩, .slice xf0 xf1 xf2), (⟨B, 6, none⟩, .slice xl0 xl1 xl2)]) hs _)
    clear hK K
    try simp only [Act.put, List.setIfInBounds_toArray, List.set_cons_zero, List.set_cons_succ]
    refine heldY 13 18 ?_ _ rfl rfl (by kernel_rfl) (by kernel_rfl) (by kernel_rfl) (fun _ _ _ h => h) rfl (by assumption) ?_ ?_
    rotate_left
    · (intro w hSw; (try dsimp only at hSw); go_simp; (try with_reducible rfl))
    try simp only [List.setIfInBounds_toArray, List.set_cons_zero, List.set_cons_succ]
    refine heldY 14 19 ?_ _ rfl rfl (by kernel_rfl) (by kernel_rfl) (by kernel_rfl) (fun _ _ _ h => h) rfl (by assumption) ?_ ?_
    rotate_left
    · (intro w hSw; (try dsimp only at hSw); go_simp; (try with_reducible rfl))
    try simp only [List.setIfInBounds_toArray, List.set_cons_zero, List.set_cons_succ]
    refine heldY 15 20 ?_ _ rfl rfl (by kernel_rfl) (by kernel_rfl) (by kernel_rfl) (fun _ _ _ h => h) rfl (by assumption) ?_ ?_
    rotate_left
    · (intro w hSw; (try dsimp only at hSw); go_simp; (try with_reducible rfl))
    try simp only [List.setIfInBounds_toArray, List.set_cons_zero, List.set_cons_succ]
    refine heldY 16 4 ?_ _ rfl rfl (by kernel_rfl) (by kernel_rfl) (by kernel_rfl) (fun _ _ _ h => h) rfl (by assumption) ?_ ?_
    rotate_left
    · (intro w hSw; (try dsimp only at hSw); go_simp; (try with_reducible rfl))
    try simp only [List.setIfInBounds_toArray, List.set_cons_zero, List.set_cons_succ]
    refine wpAnyH_done (by kernel_rfl) ?_ _
    have HW := Lib.hid (BE _ hHeld)
    clear hHeld
    go_wp2
    go_ret
    exact ⟨by simp, HDONE.out _ HW.out⟩
set_option maxRecDepth 100000 in
set_option maxHeartbeats 16000000 in
theorem needed_anyB (x : Stv) (hn : x.rs.length ≤ 90000) (hs : ∀ l, (∀ r ∈ l, r ∈ x.rs) → BigL (thereU l)) (hg : ∀ r ∈ x.rs, r.dp.length ≤ 500 ∧ BigGL r.dp) (p : ByteArray) (w : World) (hx : InS7 w x) (hL : LaidV w) :
    Calls Tryz.prog 17 #[agS x, .string p] w fun e w' => ∃ r, e = .returned r ∧ OwnT w' w.heap.size r (neededU x.rs p.data.toList) ∧ Below w.heap.size w w' := by
  have b1 := (Below.refl w.heap.size w).alloc (Nat.le_refl _) (.cells #[x.rv, x.dv, x.ov, x.av, x.iv, x.fv, x.lv] 30)
  have b2 := b1.alloc b1.size (.cells #[x.rv, x.dv, x.ov, x.av, x.iv, x.fv, x.lv] 30)
  obtain ⟨w2, hw2⟩ : ∃ w2, (w.alloc (.cells #[x.rv, x.dv, x.ov, x.av, x.iv, x.fv, x.lv] 30)).alloc (.cells #[x.rv, x.dv, x.ov, x.av, x.iv, x.fv, x.lv] 30) = w2 := ⟨_, rfl⟩
  have hz2 : w2.heap.size = w.heap.size + 2 := by rw [← hw2]; simp
  have hB : Cell7 w.heap.size w2 x := by
    have k := fun i v h => boxV7 w x.rv x.dv x.ov x.av x.iv x.fv x.lv 30 i v h
    have hc : Cell7 w.heap.size (w.alloc (.cells #[x.rv, x.dv, x.ov, x.av, x.iv, x.fv, x.lv] 30)) x := ⟨k 0 _ rfl, k 1 _ rfl, k 2 _ rfl, k 3 _ rfl, k 4 _ rfl, k 5 _ rfl, k 6 _ rfl⟩
    rw [← hw2]
    exact hc.on ((Below.refl _ _).alloc (Nat.le_refl _) _)
  have hA : Cell7 (w.heap.size + 1) w2 x := by
    have k := fun i v h => boxV7 (w.alloc (.cells #[x.rv, x.dv, x.ov, x.av, x.iv, x.fv, x.lv] 30)) x.rv x.dv x.ov x.av x.iv x.fv x.lv 30 i v h
    simp only [World.size_alloc] at k
    rw [← hw2]
    exact ⟨k 0 _ rfl, k 1 _ rfl, k 2 _ rfl, k 3 _ rfl, k 4 _ rfl, k 5 _ rfl, k 6 _ rfl⟩
  have hfr : w2.frozen? ⟨w.heap.size + 1, 0, none⟩ = false := by
    rw [← hw2]
    have := frozen_of_row ((w.alloc (.cells #[x.rv, x.dv, x.ov, x.av, x.iv, x.fv, x.lv] 30)).alloc (.cells #[x.rv, x.dv, x.ov, x.av, x.iv, x.fv, x.lv] 30)) (w.heap.size + 1) 0 _ _ (by have := heap_alloc_new (w.alloc (.cells #[x.rv, x.dv, x.ov, x.av, x.iv, x.fv, x.lv] 30)) (.cells #[x.rv, x.dv, x.ov, x.av, x.iv, x.fv, x.lv] 30); simpa using this)
    exact this
  rw [hw2] at b2
  have DR := dropU_own x.rv x.rs hn p w2 (hx.rs.on b2)
  have hmem : ∀ r ∈ dropU x.rs p.data.toList, r ∈ x.rs := fun r hr => dropU_mem hr
  have hlen := dropU_len x.rs p.data.toList
  -- the call of namesOf, at any world behind
  have NM : Hid (∀ v' w3, Below w2.heap.size w2 w3 → OwnV 71 9 w3 w2.heap.size v' ((dropU x.rs p.data.toList).map cellsU) → Calls Tryz.prog 40 #[v', .func (.func 41) #[] #[.pointer (some ⟨w.heap.size + 1, 0, none⟩), .pointer (some ⟨w.heap.size, 0, none⟩)]] (w3.setCell ⟨w.heap.size + 1, 0, none⟩ v') fun e w' => ∃ r, e = .returned r ∧ OwnT w' w.heap.size r (neededU x.rs p.data.toList) ∧ Below w.heap.size w w') := Lib.hid (fun v' w3 hb ho => by
    have hb3 : Below w.heap.size w w3 := b2.trans (hb.mono b2.size)
    have hb4 : Below w.heap.size w (w3.setCell ⟨w.heap.size + 1, 0, none⟩ v') := hb3.setCell (by simp) v'
    have hB3 := hB.on hb
    have hA3 := hA.on hb
    have ho4 := ownV_set ho (b := w.heap.size + 1) (by omega) 0 v'
    have hB4 : Cell7 w.heap.size (w3.setCell ⟨w.heap.size + 1, 0, none⟩ v') x := by
      obtain ⟨h0, h1, h2, h3, h4, h5, h6⟩ := hB3
      have k := fun j v (h : w3.cell? ⟨w.heap.size, j, none⟩ = some v) => (setB w3 w.heap.size (w.heap.size + 1) 0 j v' (by omega)).trans h
      exact ⟨k 0 _ h0, k 1 _ h1, k 2 _ h2, k 3 _ h3, k 4 _ h4, k 5 _ h5, k 6 _ h6⟩
    have hA4 : Cell7 (w.heap.size + 1) (w3.setCell ⟨w.heap.size + 1, 0, none⟩ v') { x with rs := dropU x.rs p.data.toList, rv := v' } := by
      obtain ⟨h0, h1, h2, h3, h4, h5, h6⟩ := hA3
      have k := fun j v (hj : 0 ≠ j) (h : w3.cell? ⟨w.heap.size + 1, j, none⟩ = some v) => (setO w3 (w.heap.size + 1) 0 j v' hj).trans h
      exact ⟨World.cell?_setCell_same _ _ _ h0, k 1 _ (by omega) h1, k 2 _ (by omega) h2, k 3 _ (by omega) h3, k 4 _ (by omega) h4, k 5 _ (by omega) h5, k 6 _ (by omega) h6⟩
    have hu4 : HoldU (w3.setCell ⟨w.heap.size + 1, 0, none⟩ v') v' (dropU x.rs p.data.toList) := ⟨ho4.holds, fun r hr => (hx.rs.2 r (hmem r hr)).on hb4⟩
    have hx4 := hx.on hb4
    refine (namesOf_any 41 #[.pointer (some ⟨w.heap.size + 1, 0, none⟩), .pointer (some ⟨w.heap.size, 0, none⟩)] (enters_of Tryz.func41 (by kernel_rfl) rfl) (needB x.rs (dropU x.rs p.data.toList)) v' (dropU x.rs p.data.toList) (Nat.le_trans hlen hn) _ hu4 (fun W r hr hW => ?_)).mono (fun e w' h => ?_)
    · exact need1_anyB x { x with rs := dropU x.rs p.data.toList, rv := v' } hn (hs _ (fun r h => h)) (Nat.le_trans hlen hn) (hs _ hmem) _ _ r (hg r (hmem r hr)).1 (hg r (hmem r hr)).2 W (hA4.on hW) (hB4.on hW) (hx4.on hW) ⟨hu4.on hW, hx.ov, hx.av, hx.iv, hx.fv, hx.dv, hx.lv⟩ ((hu4.2 r hr).on hW) ((hL.on hb4).on hW)
    · obtain ⟨r, g1, g2, g3⟩ := h
      exact ⟨r, g1, g2.mono hb4.size, hb4.trans (g3.mono hb4.size)⟩)
  have HFR : Hid (∀ w3, Below w2.heap.size w2 w3 → w3.frozen? ⟨w.heap.size + 1, 0, none⟩ = false) := Lib.hid (fun w3 hb => by rw [hb.frozen (p := ⟨w.heap.size + 1, 0, none⟩) (show w.heap.size + 1 < w2.heap.size by omega)]; exact hfr)
  have HAC : Hid (∀ w3, Below w2.heap.size w2 w3 → w3.cell? ⟨w.heap.size + 1, 0, none⟩ = some x.rv) := Lib.hid (fun w3 hb => (hA.on hb).1)
  have HSA : Hid (∀ w3 v', Below w2.heap.size w2 w3 → (w3.setCell ⟨w.heap.size + 1, 0, none⟩ v').cell? ⟨w.heap.size + 1, 0, none⟩ = some v') := Lib.hid (fun w3 v' hb => World.cell?_setCell_same _ _ _ (hA.on hb).1)
  have HFO : Hid (∀ w3 v', OwnV 71 9 w3 w2.heap.size v' ((dropU x.rs p.data.toList).map cellsU) → ∃ a n c, v' = .slice a n c) := Lib.hid (fun w3 v' ho => by obtain ⟨a, c, e⟩ := ho.form; exact ⟨a, _, c, e⟩)
  obtain ⟨h0, h1, h2, h3, h4, h5, h6⟩ := hB
  obtain ⟨k0, k1, k2, k3, k4, k5, k6⟩ := hA
  obtain ⟨⟨⟨ra, rc, -, -, hrv, -⟩, -⟩, ⟨oa, on, oc, hov⟩, ⟨aa, an, ac, hav⟩, ⟨ia, im, ic, hiv⟩, ⟨fa, fn, fc, hfv⟩, ⟨da, dn, dc, hdv⟩, ⟨la, ln, lc, hlv⟩⟩ := hx
  obtain ⟨RES, hRES⟩ : ∃ q, neededU x.rs p.data.toList = q := ⟨_, rfl⟩
  obtain ⟨RWS, hRWS⟩ : ∃ q, (dropU x.rs p.data.toList).map cellsU = q := ⟨_, rfl⟩
  rw [hRES] at NM ⊢
  rw [hRWS] at NM DR HFO
  clear hRES hRWS hmem hlen hg hs hn hL b1
  obtain ⟨rs, ds, ls, rv, dv, ov, av, iv, fv, lv⟩ := x
  unfold agS
  dsimp only at *
  subst hrv hov hav hiv hfv hdv hlv
  simp only [List.length_map] at *
  generalize rs.length = rn at *
  go_enter Tryz.func17, Tryz.ntmps17
  go_wp2_with (first
    | (go_at_call 39; (with_reducible refine DR.mono ?_); rintro e w3 ⟨v', rfl, ho, hb⟩; obtain ⟨va, vn, vc, rfl⟩ := HFO.out _ _ ho; have NC := NM.out _ _ hb ho; have hfz := HFR.out _ hb; have hac := HAC.out _ hb; have hsa := HSA.out _ (.slice va vn vc) hb; clear ho hb DR)
    | (go_at_call 40; (with_reducible refine NC.mono ?_); rintro e w5 ⟨r, rfl, h1, h2⟩; have HO2 := Lib.hid h1; have HB2 := Lib.hid h2; clear h1 h2 NC))
  first | (go_ret; exact ⟨_, rfl, HO2.out, HB2.out⟩) | exact ⟨_, rfl, HO2.out, HB2.out⟩
end Go.Proofs.YtkcamfcjkjiijaaGreatDoor
