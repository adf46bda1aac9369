/-
  Fits, met, Lacks of relations: what each returns; nothing old turns. Condition: LaidV. Lacks of groups of relations: what it returns; nothing old turns. Condition: LaidV. The law's few and is: what each returns; nothing old turns. The law's example: true. Condition: LaidQ.
-/
import Derived.Test.YteoomeknlfcfaaaGreatDoorQParseA
import Derived.Test.YteoomeknlfcfaaaGreatDoorVPHolds
namespace Go.Proofs.YteoomeknlfcfaaaGreatDoor
open Go.RowKit
def fitsB (x : Rl) (n v : Bs) : Bool := decide (x.1 = n) && holdsV v x.2.1 x.2.2
set_option maxHeartbeats 8000000 in
theorem fits_any (p q z n v : ByteArray) (hz : z.size ≤ 4000) (hv : v.size ≤ 4000) (w : World) (hL : LaidV w) : Calls Tryz.prog 27 #[.agg #[.string p, .string q, .string z], .string n, .string v] w fun e w' => e = .returned (.bool (fitsB (p.data.toList, q.data.toList, z.data.toList) n.data.toList v.data.toList)) ∧ Below w.heap.size w w' := by
  have HO := fun W h => holds_any v q z hv hz W h
  have hq := eqT p n
  have HBA : Hid (∀ o, Below w.heap.size w (w.alloc o)) := Lib.hid (fun o => (Below.refl _ _).alloc (Nat.le_refl _) o)
  have HLA := Lib.hid (fun o => hL.on (HBA.out o))
  by_cases he : p.data.toList = n.data.toList
  · have hf : fitsB (p.data.toList, q.data.toList, z.data.toList) n.data.toList v.data.toList = holdsV v.data.toList q.data.toList z.data.toList := by unfold fitsB; rw [decide_eq_true he, Bool.true_and]
    rw [hf]
    rw [decide_eq_true he] at hq
    generalize holdsV v.data.toList q.data.toList z.data.toList = r at *
    clear he hL hf
    go_enter Tryz.func27, Tryz.ntmps27
    go_wp2_with (go_at_call 52; (with_reducible refine (HO _ (HLA.out _)).mono ?_); rintro e w1 ⟨rfl, hb⟩; have HB := Lib.hid ((HBA.out _).trans (hb.mono (HBA.out _).size)); clear hb)
    go_ret
    exact ⟨rfl, HB.out⟩
  · have hf : fitsB (p.data.toList, q.data.toList, z.data.toList) n.data.toList v.data.toList = false := by unfold fitsB; rw [decide_eq_false he, Bool.false_and]
    rw [hf]
    rw [decide_eq_false he] at hq
    clear he hL hf HO
    go_enter Tryz.func27, Tryz.ntmps27
    go_wp2
    go_ret
    exact ⟨rfl, HBA.out _⟩
set_option maxHeartbeats 8000000 in
theorem fits_ref (p q z n v : ByteArray) (hz : z.size ≤ 4000) (hv : v.size ≤ 4000) (w : World) : Calls Tryz.prog 28 #[.agg #[.string p, .string q, .string z], .string n, .string v] w fun e w' => e = .returned (.bool (fitsB (p.data.toList, q.data.toList, z.data.toList) n.data.toList v.data.toList)) ∧ Below w.heap.size w w' := by
  have HO := fun W => holds_ref v q z hv hz W
  have hq := eqT p n
  have HBA : Hid (∀ o, Below w.heap.size w (w.alloc o)) := Lib.hid (fun o => (Below.refl _ _).alloc (Nat.le_refl _) o)
  by_cases he : p.data.toList = n.data.toList
  · have hf : fitsB (p.data.toList, q.data.toList, z.data.toList) n.data.toList v.data.toList = holdsV v.data.toList q.data.toList z.data.toList := by unfold fitsB; rw [decide_eq_true he, Bool.true_and]
    rw [hf]
    rw [decide_eq_true he] at hq
    generalize holdsV v.data.toList q.data.toList z.data.toList = r at *
    clear he hf
    go_enter Tryz.func28, Tryz.ntmps28
    go_wp2_with (go_at_call 53; (with_reducible refine (HO _).mono ?_); rintro e w1 ⟨rfl, hb⟩; have HB := Lib.hid ((HBA.out _).trans (hb.mono (HBA.out _).size)); clear hb)
    go_ret
    exact ⟨rfl, HB.out⟩
  · have hf : fitsB (p.data.toList, q.data.toList, z.data.toList) n.data.toList v.data.toList = false := by unfold fitsB; rw [decide_eq_false he, Bool.false_and]
    rw [hf]
    rw [decide_eq_false he] at hq
    clear he hf HO
    go_enter Tryz.func28, Tryz.ntmps28
    go_wp2
    go_ret
    exact ⟨rfl, HBA.out _⟩
def Small1 (x : Rl) : Prop := x.1.length ≤ 4000 ∧ x.2.1.length ≤ 4000 ∧ x.2.2.length ≤ 4000
set_option maxHeartbeats 8000000 in
theorem met1_any (x y : Rl) (hx : Small1 x) (hy : Small1 y) (g : Nat) (w : World) (hL : LaidV w) (h0 : w.cell? ⟨g, 0, none⟩ = some (.string (bsT x.1))) (h1 : w.cell? ⟨g, 1, none⟩ = some (.string (bsT x.2.1))) (h2 : w.cell? ⟨g, 2, none⟩ = some (.string (bsT x.2.2))) :
    Calls Tryz.prog 73 #[aggQ y, .pointer (some ⟨g, 0, none⟩)] w fun e w' => e = .returned (.bool (fitsB x y.1 y.2.2)) ∧ Below w.heap.size w w' := by
  have F := fun W h => fits_any (bsT x.1) (bsT x.2.1) (bsT x.2.2) (bsT y.1) (bsT y.2.2) (by rw [sizeOf, bytesOf]; exact hx.2.2) (by rw [sizeOf, bytesOf]; exact hy.2.2) W h
  rw [bytesOf, bytesOf, bytesOf, bytesOf, bytesOf] at F
  obtain ⟨p, q, z⟩ := x
  obtain ⟨n, o, v⟩ := y
  dsimp only at F h0 h1 h2 ⊢
  unfold aggQ
  dsimp only
  generalize fitsB (p, q, z) n v = r at *
  have hg := World.block_lt_of_cell? w _ h0
  have HBA : Hid (∀ o, Below w.heap.size w (w.alloc o)) := Lib.hid (fun o => (Below.refl _ _).alloc (Nat.le_refl _) o)
  have HLA := Lib.hid (fun o => hL.on (HBA.out o))
  have k0 := fun o => (HBA.out o).cell (p := ⟨g, 0, none⟩) hg
  have k1 := fun o => (HBA.out o).cell (p := ⟨g, 1, none⟩) hg
  have k2 := fun o => (HBA.out o).cell (p := ⟨g, 2, none⟩) hg
  rw [h0] at k0
  rw [h1] at k1
  rw [h2] at k2
  generalize bsT p = P at *
  generalize bsT q = Q at *
  generalize bsT z = Z at *
  generalize bsT n = N at *
  generalize bsT o = O at *
  generalize bsT v = V at *
  clear hL h0 h1 h2 hx hy hg
  go_enter Tryz.func73, Tryz.ntmps73
  go_wp2_with (go_at_call 27; (with_reducible refine (F _ (HLA.out _)).mono ?_); rintro e w1 ⟨rfl, hb⟩; have HB := Lib.hid ((HBA.out _).trans (hb.mono (HBA.out _).size)); clear hb)
  go_ret
  exact ⟨rfl, HB.out⟩
def metB (x : Rl) (t : List Rl) : Bool := t.any fun y => fitsB x y.1 y.2.2
set_option maxHeartbeats 8000000 in
theorem met_any (x : Rl) (hx : Small1 x) (v : Value) (t : List Rl) (hl : t.length ≤ 90000) (hs : SmallQ t) (w : World) (h : HoldQ w v t) (hL : LaidV w) : Calls Tryz.prog 56 #[aggQ x, v] w fun e w' => e = .returned (.bool (metB x t)) ∧ Below w.heap.size w w' := by
  have EN : ∀ args w, (callFunc 73 args).run Tryz.prog w = .ok (.enter 73 args) w := enters_of Tryz.func73 (by kernel_rfl) rfl
  have B0 := (Below.refl w.heap.size w).alloc (Nat.le_refl _) (.cells #[.string (bsT x.1), .string (bsT x.2.1), .string (bsT x.2.2)] 23)
  obtain ⟨z0, z1, z2⟩ := boxV3 w (.string (bsT x.1)) (.string (bsT x.2.1)) (.string (bsT x.2.2)) 23
  have hsz : w.heap.size < (w.alloc (.cells #[.string (bsT x.1), .string (bsT x.2.1), .string (bsT x.2.2)] 23)).heap.size := by rw [World.size_alloc]; omega
  have C := contQ_any 73 #[.pointer (some ⟨w.heap.size, 0, none⟩)] EN (fun y => fitsB x y.1 y.2.2) v t hl (w.alloc (.cells #[.string (bsT x.1), .string (bsT x.2.1), .string (bsT x.2.2)] 23)) (HoldV.on h B0) (fun W y hy hb => by
    have := met1_any x y hx (hs y hy) w.heap.size W ((hL.on B0).on hb) ((hb.cell (p := ⟨w.heap.size, 0, none⟩) hsz).trans z0) ((hb.cell (p := ⟨w.heap.size, 1, none⟩) hsz).trans z1) ((hb.cell (p := ⟨w.heap.size, 2, none⟩) hsz).trans z2)
    simpa using this)
  obtain ⟨a, c, b, o, rfl, -⟩ := h.parts
  obtain ⟨r, hr⟩ : ∃ r, metB x t = r := ⟨_, rfl⟩
  have hr' : (t.any fun y => fitsB x y.1 y.2.2) = r := hr
  rw [hr'] at C
  rw [hr]
  have HB0 := Lib.hid B0
  obtain ⟨p, q, z⟩ := x
  unfold aggQ
  dsimp only at C HB0 ⊢
  generalize t.length = n at *
  clear hr hr' z0 z1 z2 hsz B0 h hL hs hl hx EN
  generalize bsT p = P at *
  generalize bsT q = Q at *
  generalize bsT z = Z at *
  go_enter Tryz.func56, Tryz.ntmps56
  go_wp2_with (go_at_call 54; (with_reducible refine C.mono ?_); rintro e w1 ⟨rfl, hb⟩; have HB := Lib.hid (HB0.out.trans (hb.mono HB0.out.size)); clear hb)
  go_ret
  exact ⟨rfl, HB.out⟩
end Go.Proofs.YteoomeknlfcfaaaGreatDoor
namespace Go.Proofs.YteoomeknlfcfaaaGreatDoor
open Go.RowKit
set_option maxHeartbeats 8000000 in
theorem lacks1_any (x : Rl) (hx : Small1 x) (v : Value) (t : List Rl) (hl : t.length ≤ 90000) (hs : SmallQ t) (g : Nat) (w : World) (h : HoldQ w v t) (hL : LaidV w) (h0 : w.cell? ⟨g, 0, none⟩ = some v) : Calls Tryz.prog 55 #[aggQ x, .pointer (some ⟨g, 0, none⟩)] w fun e w' => e = .returned (.bool (metB x t)) ∧ Below w.heap.size w w' := by
  have B0 := (Below.refl w.heap.size w).alloc (Nat.le_refl _) (.cells #[.string (bsT x.1), .string (bsT x.2.1), .string (bsT x.2.2)] 23)
  have M := met_any x hx v t hl hs _ (HoldV.on h B0) (hL.on B0)
  have k0 := (B0.cell (p := ⟨g, 0, none⟩) (World.block_lt_of_cell? w _ h0)).trans h0
  obtain ⟨a, c, b, o, rfl, -⟩ := h.parts
  have HB0 := Lib.hid B0
  obtain ⟨p, q, z⟩ := x
  unfold aggQ at M ⊢
  dsimp only at M HB0 k0 ⊢
  generalize metB (p, q, z) t = r at *
  generalize t.length = n at *
  generalize bsT p = P at *
  generalize bsT q = Q at *
  generalize bsT z = Z at *
  clear B0 h hL hs hl hx h0
  go_enter Tryz.func55, Tryz.ntmps55
  go_wp2_with (go_at_call 56; (with_reducible refine M.mono ?_); rintro e w1 ⟨rfl, hb⟩; have HB := Lib.hid (HB0.out.trans (hb.mono HB0.out.size)); clear hb)
  go_ret
  exact ⟨rfl, HB.out⟩
theorem infoIn : (Tryz.prog.info? 3).map (fun i => (i.zero, i.size, i.bytes)) = some (some (.int .i64 0), 1, 8) := by kernel_rfl
/-- The places below k of groups of which nothing is there. -/
def lackL (t : List Rl) : Nat → List (List Rl) → List Nat
  | _, [] => []
  | k, g :: l => if g.any (fun x => metB x t) then lackL t (k + 1) l else k :: lackL t (k + 1) l
abbrev OwnI (w : World) (B : Nat) (v : Value) (l : List Nat) : Prop := OwnV 3 1 w B v (l.map fun (k : Nat) => [Value.int .i64 (k : Int)])
theorem lackL_len (t : List Rl) : ∀ (l : List (List Rl)) (k : Nat), (lackL t k l).length ≤ l.length
  | [], k => by simp [lackL]
  | g :: l, k => by
    have := lackL_len t l (k + 1)
    rw [lackL]
    split <;> simp <;> omega
set_option maxRecDepth 100000 in
set_option maxHeartbeats 16000000 in
theorem lacks_any (v u : Value) (l : List Gv) (hl : l.length ≤ 500) (hs : SmallG l) (t : List Rl) (ht : t.length ≤ 90000) (hst : SmallQ t) (w : World) (h : HoldGs w v l) (h2 : HoldQ w u t) (hL : LaidV w) :
    Calls Tryz.prog 29 #[v, u] w fun e w' => ∃ r, e = .returned r ∧ OwnI w' w.heap.size r (lackL t 0 (fsts l)) ∧ Below w.heap.size w w' := by
  have EN : ∀ args w, (callFunc 55 args).run Tryz.prog w = .ok (.enter 55 args) w := enters_of Tryz.func55 (by kernel_rfl) rfl
  obtain ⟨i0, hi, hz0, hz1, hz2'⟩ := info_parts infoIn
  have B0 := (Below.refl w.heap.size w).alloc (Nat.le_refl _) (.cells #[u] 25)
  have z0 := boxV1 w u 25
  have hsz0 : w.heap.size < (w.alloc (.cells #[u] 25)).heap.size := by rw [World.size_alloc]; omega
  have CF : Hid (∀ (x : Gv), x ∈ l → ∀ W, Below (w.alloc (.cells #[u] 25)).heap.size (w.alloc (.cells #[u] 25)) W → Calls Tryz.prog 54 #[x.2, .func (.func 55) #[] #[.pointer (some ⟨w.heap.size, 0, none⟩)]] W fun e w' => e = .returned (.bool (x.1.any fun y => metB y t)) ∧ Below W.heap.size W w') := Lib.hid (fun x hx W hW =>
    contQ_any 55 #[.pointer (some ⟨w.heap.size, 0, none⟩)] EN (fun y => metB y t) x.2 x.1 (by have := (hs x hx).2; omega) W (HoldV.on (HoldV.on (h.2 x hx) B0) hW) (fun W' y hy hb => by
      have hbW := hW.trans (hb.mono hW.size)
      have := lacks1_any y ((hs x hx).1 y hy) u t ht hst w.heap.size W' (HoldV.on (HoldV.on h2 B0) hbW) ((hL.on B0).on hbW) ((hbW.cell (p := ⟨w.heap.size, 0, none⟩) hsz0).trans z0)
      simpa using this))
  have HG := Lib.hid (h.on B0)
  obtain ⟨a, c, b, o, rfl, hc, ha, hcell⟩ := (h.on B0).parts
  obtain ⟨ua, uc, -, -, rfl, -⟩ := h2.parts
  have HC := Lib.hid hcell
  have HB0 := Lib.hid B0
  obtain ⟨n, hN⟩ : ∃ n, l.length = n := ⟨_, rfl⟩
  rw [hN] at hc ha hl ⊢
  have HN := Lib.hid hN
  generalize t.length = tn at *
  have hfl : (fsts l).length = n := by rw [List.length_map]; exact hN
  have HFL := Lib.hid hfl
  have hlk := lackL_len t (fsts l) 0
  have hlk2 : (lackL t 0 (fsts l)).length ≤ 500 := by omega
  have HLK := Lib.hid hlk2
  clear hcell hN h h2 hs hst hL B0 z0 hsz0 EN hfl hlk hlk2
  go_enter Tryz.func29, Tryz.ntmps29
  go_wp2
  obtain ⟨w0, hw0⟩ : ∃ w0, w.alloc (.cells #[.slice ua tn uc] 25) = w0 := ⟨_, rfl⟩
  rw [hw0] at HG HC HB0 CF ha ⊢
  clear hw0
  have hsz0 := HB0.out.size
  go_loopw [5, 10] (fun u i wr => ∃ (k : Nat) (xs : List Nat), k ≤ n ∧ i = .int .i64 k ∧ Hid (xs ++ lackL t k ((fsts l).drop k) = lackL t 0 (fsts l)) ∧ xs.length ≤ k ∧ Hid (OwnI wr w0.heap.size u xs) ∧ Hid (Below w0.heap.size w0 wr)) (fun _ i _ => n - (intOf i).toNat)
  case atStart => exact ⟨0, [], by omega, rfl, Lib.hid rfl, by simp, Lib.hid (OwnV.nil _ _ _ _), Lib.hid (Below.refl _ _)⟩
  case round =>
    obtain ⟨k, xs, hk, rfl, HX, hxk, HO, HB⟩ := hrel
    have hsz := HB.out.size
    by_cases hlt : k < n
    · obtain ⟨rfl, hbw⟩ := ha (by omega)
      obtain ⟨⟨g0, sv⟩, hx⟩ : ∃ x, l[k]? = some x := ⟨_, List.getElem?_eq_getElem (by rw [HN.out]; exact hlt)⟩
      have c0 := HC.out k _ hx
      dsimp only at c0
      rw [← HB.out.cell (p := ⟨b, o + k, none⟩) hbw] at c0
      have C := CF.out _ (List.mem_of_getElem? hx) wr HB.out
      dsimp only at C
      obtain ⟨sa, sc, -, -, hsv, -⟩ := (HG.out.2 _ (List.mem_of_getElem? hx)).parts
      dsimp only at hsv
      subst hsv
      have hfx : (fsts l)[k]? = some g0 := by rw [List.getElem?_map, hx]; rfl
      have hdr := drop_atQ hfx
      obtain ⟨r, hr⟩ : ∃ r, (g0.any fun y => metB y t) = r := ⟨_, rfl⟩
      rw [hr] at C
      generalize g0.length = gn at *
      cases r
      · have HX2 : Hid ((xs ++ [k]) ++ lackL t (k + 1) ((fsts l).drop (k + 1)) = lackL t 0 (fsts l)) := Lib.hid (by
          rw [← HX.out, hdr, lackL, hr]; simp)
        clear hx hfx hdr hr HX
        go_wp2_with (first
          | (go_at_call 54; (with_reducible refine C.mono ?_); rintro e w2 ⟨rfl, hb⟩; have HB2 := Lib.hid (HB.out.trans (hb.mono hsz)); have HO2 := Lib.hid (OwnV.on HO.out hb); have hz2 := HB2.out.size; clear hb C HO)
          | (at_builtin; refine wpList_append_own _ rfl _ _ 56 rfl w0.heap.size 3 i0 _ 1 8 Tryz.underlying56 hi hz0 hz1 hz2' rfl (by decide) _ _ _ rfl (World.ownsRow.alloc HO2.out.2 _) ⟨w2.heap.size, 0, none⟩ 1 1 [.int .i64 k] rfl rfl ?c1 ?c2 ?c3 ?c4 ?c5 ?_))
        case c1 =>
          intro j u hj
          match j, hj with
          | 0, hj => simp at hj; subst hj; simp [Addr.add]
        case c2 => intro u hu; simp at hu; subst hu; rfl
        case c3 => rw [List.length_map]; unfold maxLen; omega
        case c4 => rw [List.length_map]; omega
        case c5 => simp; omega
        intro v' w3 hown' hgrow _
        have HO3 : Hid (OwnI w3 w0.heap.size v' (xs ++ [k])) := Lib.hid (by
          unfold OwnI
          rw [List.map_append]
          exact OwnV.app HO2.out.1 rfl (by simpa using hown'))
        have HB3 : Hid (Below w0.heap.size w0 w3) := Lib.hid (OwnV.below HB2.out HO2.out hgrow (Nat.le_refl _) hz2)
        clear hown' hgrow
        go_wp2
        go_roundw
        case rel => exact ⟨k + 1, _, by omega, by go_num, HX2, by rw [List.length_append]; show xs.length + 1 ≤ _; omega, HO3, HB3⟩
        case measure => simp [intOf]; omega
      · have HX2 : Hid (xs ++ lackL t (k + 1) ((fsts l).drop (k + 1)) = lackL t 0 (fsts l)) := Lib.hid (by
          rw [← HX.out, hdr, lackL, hr]; simp)
        clear hx hfx hdr hr HX
        go_wp2_with (go_at_call 54; (with_reducible refine C.mono ?_); rintro e w2 ⟨rfl, hb⟩; have HB2 := Lib.hid (HB.out.trans (hb.mono hsz)); have HO2 := Lib.hid (OwnV.on HO.out hb); clear hb C HO)
        go_roundw
        case rel => exact ⟨k + 1, _, by omega, by go_num, HX2, by omega, HO2, HB2⟩
        case measure => simp [intOf]; omega
    · obtain rfl : k = n := by omega
      have HE : Hid (xs = lackL t 0 (fsts l)) := Lib.hid (by rw [← HX.out, List.drop_of_length_le (by rw [HFL.out]; omega), lackL, List.append_nil])
      clear hlt HX
      go_wp2
      go_ret
      exact ⟨_, rfl, by rw [← HE.out]; exact OwnV.mono HO.out hsz0, HB0.out.trans (HB.out.mono hsz0)⟩
end Go.Proofs.YteoomeknlfcfaaaGreatDoor
namespace Go.Proofs.YteoomeknlfcfaaaGreatDoor
open Go.RowKit
abbrev vQ (x : Rl) : Nat := x.1.length + x.2.1.length + x.2.2.length + 1
abbrev vGr (g : List Rl) : Nat := (g.map vQ).sum
abbrev vGs (l : List Gv) : Nat := (l.map fun x => vGr x.1).sum
structure FewG (l : List Gv) : Prop where
  n : l.length ≤ 70
  ns : ∀ x ∈ l, x.1.length ≤ 70
  v : vGs l ≤ 3000
theorem vGr_mem {g : List Rl} {x : Rl} (h : x ∈ g) : vQ x ≤ vGr g := by
  induction g with
  | nil => simp at h
  | cons y g ih =>
    rcases List.mem_cons.1 h with e | e
    · subst e; simp only [vGr, List.map_cons, List.sum_cons]; omega
    · have := ih e; simp only [vGr, List.map_cons, List.sum_cons] at *; omega
theorem vGs_mem {l : List Gv} {x : Gv} (h : x ∈ l) : vGr x.1 ≤ vGs l := by
  induction l with
  | nil => simp at h
  | cons y g ih =>
    rcases List.mem_cons.1 h with e | e
    · subst e; simp only [vGs, List.map_cons, List.sum_cons]; omega
    · have := ih e; simp only [vGs, List.map_cons, List.sum_cons] at *; omega
theorem FewG.small {l : List Gv} (h : FewG l) : SmallG l := fun x hx => ⟨fun y hy => by
  have h1 := vGr_mem hy
  have h2 := vGs_mem hx
  have := h.v
  simp only [vQ] at h1
  exact ⟨by omega, by omega, by omega⟩, by have := h.ns x hx; omega⟩
theorem vGr_take {g : List Rl} {t : Nat} {f : Rl} (h : g[t]? = some f) : vGr (g.take (t + 1)) = vGr (g.take t) + vQ f := by
  rw [List.take_add_one, h]; simp [vGr]
theorem vGs_take {l : List Gv} {j : Nat} {x : Gv} (h : l[j]? = some x) : vGs (l.take (j + 1)) = vGs (l.take j) + vGr x.1 := by
  rw [List.take_add_one, h]; simp [vGs]
def FewPost (l : List Gv) (w : World) (e : Ending) (w' : World) : Prop := ∃ fb, e = .returned (.bool fb) ∧ (fb = true → FewG l) ∧ Below w.heap.size w w'
set_option maxRecDepth 100000 in
set_option maxHeartbeats 8000000 in
theorem few_any (v : Value) (l : List Gv) (w : World) (h : HoldGs w v l) : Calls Tryz.prog 8 #[v] w (FewPost l w) := by
  have HP : Hid (∀ fb w', (fb = true → FewG l) → Below w.heap.size w w' → FewPost l w (.returned (.bool fb)) w') := Lib.hid (fun fb w' h1 h2 => ⟨fb, rfl, h1, h2⟩)
  obtain ⟨a, c, b, o, rfl, hc, ha, hcell⟩ := h.parts
  have HC := Lib.hid hcell
  have HG := Lib.hid h
  obtain ⟨n, hN⟩ : ∃ n, l.length = n := ⟨_, rfl⟩
  rw [hN] at hc ha ⊢
  have HN := Lib.hid hN
  clear hcell hN h
  by_cases h70 : 70 < n
  · go_enter Tryz.func8, Tryz.ntmps8
    go_wp2
    go_ret
    exact HP.out false _ (fun h => by cases h) (Below.refl _ _)
  go_enter Tryz.func8, Tryz.ntmps8
  go_wp2
  go_loopw [3, 4] (fun z i wr => ∃ k s : Nat, k ≤ n ∧ i = .int .i64 k ∧ z = .int .i64 s ∧ s ≤ 3000 ∧ Hid (vGs (l.take k) = s ∧ ∀ (j : Nat) x, j < k → l[j]? = some x → x.1.length ≤ 70) ∧ Hid (Below w.heap.size w wr)) (fun _ i _ => n - (intOf i).toNat)
  case atStart => exact ⟨0, 0, by omega, rfl, rfl, by omega, Lib.hid ⟨rfl, fun j st hj => by omega⟩, Lib.hid (Below.refl _ _)⟩
  case round =>
    obtain ⟨k, s, hk, rfl, rfl, hs, HV, HB⟩ := hrel
    obtain ⟨wo, rfl⟩ : ∃ wo : World, wo = wr := ⟨_, rfl⟩
    have hsz := HB.out.size
    by_cases hlt : k < n
    · obtain ⟨rfl, hbw⟩ := ha (by omega)
      obtain ⟨⟨g0, sv⟩, hx⟩ : ∃ x, l[k]? = some x := ⟨_, List.getElem?_eq_getElem (by rw [HN.out]; exact hlt)⟩
      have hgx := HG.out.2 _ (List.mem_of_getElem? hx)
      have c0 := HC.out k _ hx
      dsimp only at c0 hgx
      have HC0 := Lib.hid c0
      obtain ⟨ai, ci, bi, oi, rfl, hci, hai, hicell⟩ := hgx.parts
      have HIC := Lib.hid hicell
      obtain ⟨m, hM⟩ : ∃ m, g0.length = m := ⟨_, rfl⟩
      rw [hM] at c0 hci hai HC0
      rw [← HB.out.cell (p := ⟨b, o + k, none⟩) hbw] at c0
      have HM := Lib.hid hM
      have HX := Lib.hid hx
      clear hgx hicell hM hx
      by_cases hm70 : 70 < m
      · go_wp2
        go_ret
        exact HP.out false _ (fun h => by cases h) HB.out
      · go_wp2
        go_loopw [3, 5] (fun z i' wr => ∃ t s' : Nat, t ≤ m ∧ i' = .int .i64 t ∧ z = .int .i64 s' ∧ s' ≤ 3000 ∧ Hid (vGs (l.take k) + vGr (g0.take t) = s') ∧ Hid (Below w.heap.size w wr)) (fun _ i' _ => m - (intOf i').toNat)
        case atStart => exact ⟨0, s, by omega, rfl, rfl, hs, Lib.hid (by rw [HV.out.1]; rfl), HB⟩
        case round =>
          obtain ⟨t, s', ht, rfl, rfl, hs', HV3, HB3⟩ := hrel
          have hu3 : wr.cell? ⟨b, o + k, none⟩ = some (.slice ai m ci) := (HB3.out.cell (p := ⟨b, o + k, none⟩) hbw).trans HC0.out
          have hsz3 := HB3.out.size
          clear c0
          by_cases htm : t < m
          · obtain ⟨rfl, hbi⟩ := hai (by omega)
            obtain ⟨⟨p, q, z⟩, hf⟩ : ∃ f, g0[t]? = some f := ⟨_, List.getElem?_eq_getElem (by rw [HM.out]; exact htm)⟩
            obtain ⟨g1, g2, g3⟩ := HIC.out t _ hf
            dsimp only at g1 g2 g3
            rw [← HB3.out.cell (p := ⟨bi, oi + t * 3, none⟩) hbi] at g1
            rw [← HB3.out.cell (p := ⟨bi, oi + t * 3 + 1, none⟩) hbi] at g2
            rw [← HB3.out.cell (p := ⟨bi, oi + t * 3 + 2, none⟩) hbi] at g3
            have HV4 : Hid (vGs (l.take k) + vGr (g0.take (t + 1)) = s' + ((bsT p).size + (bsT q).size + (bsT z).size + 1)) := Lib.hid (by
              rw [vGr_take hf, ← Nat.add_assoc, HV3.out, sizeOf, sizeOf, sizeOf, bytesOf, bytesOf, bytesOf])
            generalize bsT p = P at *
            generalize bsT q = Q at *
            generalize bsT z = Z at *
            have HB4 : Hid (Below w.heap.size w (wr.alloc (.cells #[.string P, .string Q, .string Z] 23))) := Lib.hid (HB3.out.alloc hsz3 _)
            clear hf HV3
            by_cases hr3 : (3000 : Int) < (s' : Int) + (min (P.size : Int) 3000 + min (Q.size : Int) 3000 + min (Z.size : Int) 3000 + 1)
            · go_wp2
              go_ret
              exact HP.out false _ (fun h => by cases h) HB4.out
            · have hs4 : s' + (P.size + Q.size + Z.size + 1) ≤ 3000 := by omega
              have he : (s' : Int) + (min (P.size : Int) 3000 + min (Q.size : Int) 3000 + min (Z.size : Int) 3000 + 1) = ((s' + (P.size + Q.size + Z.size + 1) : Nat) : Int) := by omega
              have HEE := Lib.hid he
              clear he
              go_wp2
              go_roundw
              case rel => exact ⟨t + 1, s' + (P.size + Q.size + Z.size + 1), by omega, by go_num, by rw [HEE.out], hs4, HV4, HB4⟩
              case measure => simp [intOf]; omega
          · obtain rfl : t = m := by omega
            have HVN : Hid (vGs (l.take (k + 1)) = s' ∧ ∀ (j : Nat) x, j < k + 1 → l[j]? = some x → x.1.length ≤ 70) := Lib.hid (by
              refine ⟨by rw [vGs_take HX.out, ← HV3.out, List.take_of_length_le (l := g0) (by rw [HM.out]; omega)], fun j x' hj hx' => ?_⟩
              by_cases e : j = k
              · subst e; rw [HX.out] at hx'; cases hx'; show g0.length ≤ 70; rw [HM.out]; omega
              · exact HV.out.2 j x' (by omega) hx')
            clear htm HV3
            go_wp2
            go_roundw
            case rel => exact ⟨k + 1, s', by omega, by go_num, rfl, hs', HVN, HB3⟩
            case measure => simp [intOf]; omega
    · obtain rfl : k = n := by omega
      have HF : Hid (FewG l) := Lib.hid ⟨by rw [HN.out]; omega, fun x hx => by
        obtain ⟨j, hj, rfl⟩ := List.mem_iff_getElem.1 hx
        exact HV.out.2 j _ (by rw [← HN.out]; exact hj) (List.getElem?_eq_getElem hj), by
        have := HV.out.1; rw [List.take_of_length_le (by rw [HN.out]; omega)] at this; omega⟩
      clear hlt ha HV
      go_wp2
      go_ret
      exact HP.out true _ (fun _ => HF.out) HB.out
set_option maxHeartbeats 4000000 in
theorem is_any (e : Int) (ok : Bool) (w : World) : Calls Tryz.prog 12 #[.int .i64 e, .bool ok] w fun r w' => r = .returned (.bool (if ok then decide (e = 0) else decide (e = 2))) ∧ w = w' := by
  cases ok
  · have H : Hid ((e == 2) = decide (e = 2)) := Lib.hid rfl
    go_enter Tryz.func12, Tryz.ntmps12
    go_wp2
    go_ret
    exact ⟨retb H.out, rfl⟩
  · have H : Hid ((e == 0) = decide (e = 0)) := Lib.hid rfl
    go_enter Tryz.func12, Tryz.ntmps12
    go_wp2
    go_ret
    exact ⟨retb H.out, rfl⟩
end Go.Proofs.YteoomeknlfcfaaaGreatDoor
namespace Go.Proofs.YteoomeknlfcfaaaGreatDoor
open Go.RowKit
abbrev exT : Bs := [97, 32, 40, 62, 61, 32, 49, 41, 32, 124, 32, 98, 44, 32, 99]
abbrev exA : List (List Rl) := [[([97], [62, 61], [49]), ([98], [], [])], [([99], [], [])]]
abbrev exH : List Rl := [([98], [], [51])]
theorem ex_parse : parseA exT = some exA := by decide +kernel
theorem ex_all : allE exA = (exT, 0) := by decide +kernel
theorem ex_lack : (lackL exH 0 exA).length = 1 := by decide +kernel
theorem ex_right : rightR ([97], [62, 61], [49]) = true := by decide +kernel
theorem ex_small : ∀ g ∈ exA, SmallQ g ∧ g.length ≤ 500 := by
  intro g hg
  simp only [exA, List.mem_cons, List.not_mem_nil, or_false] at hg
  rcases hg with rfl | rfl <;> refine ⟨fun x hx => ?_, by simp⟩ <;> simp only [List.mem_cons, List.not_mem_nil, or_false] at hx
  · rcases hx with rfl | rfl <;> decide
  · subst hx; decide
theorem ex_smallG {L : List Gv} (h : fsts L = exA) : SmallG L := fun x hx => ex_small x.1 (by rw [← h]; exact List.mem_map_of_mem hx)
def ExP (w : World) (e : Ending) (w' : World) : Prop := ∃ (b o c b1 o1 c1 : Nat) (L : List Gv), e = .returned (.tuple #[.slice (some ⟨b, o, none⟩) 2 c, .int .i64 0]) ∧ b < w'.heap.size ∧ b1 < w'.heap.size ∧ 2 ≤ c ∧ 2 ≤ c1 ∧
  w'.cell? ⟨b, o, none⟩ = some (.slice (some ⟨b1, o1, none⟩) 2 c1) ∧ w'.cell? ⟨b1, o1, none⟩ = some (.string ⟨#[97]⟩) ∧ w'.cell? ⟨b1, o1 + 1, none⟩ = some (.string ⟨#[62, 61]⟩) ∧ w'.cell? ⟨b1, o1 + 2, none⟩ = some (.string ⟨#[49]⟩) ∧
  HoldGs w' (.slice (some ⟨b, o, none⟩) 2 c) L ∧ fsts L = exA ∧ Below w.heap.size w w'
theorem ex_parseA (w : World) (hL : LaidQ w) : Calls Tryz.prog 19 #[.string ⟨#[97, 32, 40, 62, 61, 32, 49, 41, 32, 124, 32, 98, 44, 32, 99]⟩] w (ExP w) := by
  have P := parseAllQ_any ⟨#[97, 32, 40, 62, 61, 32, 49, 41, 32, 124, 32, 98, 44, 32, 99]⟩ (by decide) (by decide +kernel) w hL
  have e : parseA (ByteArray.mk #[97, 32, 40, 62, 61, 32, 49, 41, 32, 124, 32, 98, 44, 32, 99]).data.toList = some exA := ex_parse
  rw [e] at P
  refine P.mono fun e w' h => ?_
  obtain ⟨a, n, c, L, rfl, hf, ho, hb⟩ := cutPostG_some h
  have hH := ho.holds
  obtain ⟨a', c', b, o, e1, hc, ha, hcell⟩ := hH.parts
  have hlen : L.length = 2 := by have := congrArg List.length hf; simpa [fsts] using this
  rw [hlen] at e1 hc ha
  simp only [Value.slice.injEq] at e1
  obtain ⟨rfl, rfl, rfl⟩ := e1
  obtain ⟨rfl, hbw⟩ := ha (by omega)
  obtain ⟨⟨g0, sv⟩, hx⟩ : ∃ x, L[0]? = some x := ⟨_, List.getElem?_eq_getElem (by omega)⟩
  have hg0 : g0 = [([97], [62, 61], [49]), ([98], [], [])] := by
    have : (fsts L)[0]? = some g0 := by rw [List.getElem?_map, hx]; rfl
    rw [hf] at this
    exact (Option.some.inj this).symm
  have c0 := hcell 0 _ hx
  obtain ⟨a1, c1, b1, o1, hsv, hc1, ha1, hcell1⟩ := (hH.2 _ (List.mem_of_getElem? hx)).parts
  dsimp only at c0 hsv hc1 ha1 hcell1
  subst hg0
  obtain ⟨rfl, hb1⟩ := ha1 (by simp)
  obtain ⟨d0, d1, d2⟩ := hcell1 0 _ rfl
  rw [hsv] at c0
  refine ⟨b, o, c, b1, o1, c1, L, rfl, hbw, hb1, hc, hc1, by simpa using c0, by simpa using d0, by simpa using d1, by simpa using d2, hH, hf, hb⟩
theorem ex_allA (v : Value) (L : List Gv) (hf : fsts L = exA) (w : World) (h : HoldGs w v L) (hL : LaidV w) : Calls Tryz.prog 17 #[v] w fun e w' => e = .returned (.tuple #[.string ⟨#[97, 32, 40, 62, 61, 32, 49, 41, 32, 124, 32, 98, 44, 32, 99]⟩, .int .i64 0]) ∧ Below w.heap.size w w' := by
  have hlen : L.length = 2 := by have := congrArg List.length hf; simpa [fsts] using this
  have P := all_any v L (by omega) (ex_smallG hf) w h hL
  rw [hf, ex_all] at P
  exact P
theorem ex_hold (w : World) : HoldQ (w.alloc (.cells #[.string ⟨#[98]⟩, .string ⟨#[]⟩, .string ⟨#[51]⟩] 23)) (.slice (some ⟨w.heap.size, 0, none⟩) 1 1) exH := by
  obtain ⟨z0, z1, z2⟩ := boxV3 w (.string ⟨#[98]⟩) (.string ⟨#[]⟩) (.string ⟨#[51]⟩) 23
  refine ⟨some ⟨w.heap.size, 0, none⟩, 1, w.heap.size, 0, rfl, by simp, fun _ => ⟨rfl, by simp⟩, fun j r hj i y hi hy => ?_⟩
  match j, hj with
  | 0, hj =>
    simp at hj
    subst hj
    match i, hi, hy with
    | 0, _, hy => simp at hy; subst hy; simp
    | 1, _, hy => simp at hy; subst hy; simp
    | 2, _, hy => simp at hy; subst hy; simp
  | j + 1, hj => simp at hj
theorem ex_lacks (v : Value) (L : List Gv) (hf : fsts L = exA) (w : World) (h : HoldGs w v L) (hL : LaidV w) : Calls Tryz.prog 29 #[v, .slice (some ⟨w.heap.size, 0, none⟩) 1 1] (w.alloc (.cells #[.string ⟨#[98]⟩, .string ⟨#[]⟩, .string ⟨#[51]⟩] 23)) fun e w' => (∃ a c, e = .returned (.slice a 1 c)) ∧ Below w.heap.size w w' := by
  have hlen : L.length = 2 := by have := congrArg List.length hf; simpa [fsts] using this
  have B0 := (Below.refl w.heap.size w).alloc (Nat.le_refl _) (.cells #[.string ⟨#[98]⟩, .string ⟨#[]⟩, .string ⟨#[51]⟩] 23)
  have P := lacks_any v _ L (by omega) (ex_smallG hf) exH (by decide) (fun x hx => by simp only [exH, List.mem_cons, List.not_mem_nil, or_false] at hx; subst hx; decide) _ (h.on B0) (ex_hold w) (hL.on B0)
  refine P.mono fun e w' hp => ?_
  obtain ⟨r, rfl, ho, hb⟩ := hp
  obtain ⟨a, c, hr⟩ := OwnV.form ho
  rw [List.length_map, hf, ex_lack] at hr
  subst hr
  exact ⟨⟨a, c, rfl⟩, B0.trans (hb.mono B0.size)⟩
theorem ex_rightA (w : World) (hL : LaidV w) : Calls Tryz.prog 13 #[.agg #[.string ⟨#[97]⟩, .string ⟨#[62, 61]⟩, .string ⟨#[49]⟩]] w fun e w' => e = .returned (.bool true) ∧ Below w.heap.size w w' :=
  (rightR_any ⟨#[97]⟩ ⟨#[62, 61]⟩ ⟨#[49]⟩ (by decide) (by decide) w hL).mono fun _ _ hp => ⟨hp.1.trans (retb ex_right), hp.2⟩
set_option maxRecDepth 100000 in
set_option maxHeartbeats 8000000 in
theorem awake7 (w : World) (hL : LaidQ w) : Calls Tryz.prog 9 #[] w fun e w' => e = .returned (.bool true) ∧ Below w.heap.size w w' := by
  have P := ex_parseA w hL
  have HL := Lib.hid hL
  clear hL
  go_enter Tryz.func9, Tryz.ntmps9
  go_wp2_with (first
    | (go_at_call 19; (with_reducible refine P.mono ?_); rintro e w1 ⟨b, o, c, b1, o1, c1, L, rfl, hb, hb1, hc, hc1, c0, d0, d1, d2, hH, hf, hB⟩; have HF := Lib.hid hf; have HH1 := Lib.hid hH; have HB1 := Lib.hid hB; have HL1 := Lib.hid (HL.out.on hB); have A1 := fun W hW => ex_allA _ L hf W (hH.on hW) (HL1.out.on hW).v; clear hf hH hB P)
    | (go_at_call 17; (with_reducible refine (A1 _ (Below.refl _ _)).mono ?_); rintro e w2 ⟨rfl, h2⟩; have HB2 := Lib.hid (HB1.out.trans (h2.mono HB1.out.size)); have HH2 := Lib.hid (HH1.out.on h2); have HL2 := Lib.hid (HL1.out.on h2); have k0 := (h2.cell (p := ⟨b, o, none⟩) hb).trans c0; have l0 := (h2.cell (p := ⟨b1, o1, none⟩) hb1).trans d0; have l1 := (h2.cell (p := ⟨b1, o1 + 1, none⟩) hb1).trans d1; have l2 := (h2.cell (p := ⟨b1, o1 + 2, none⟩) hb1).trans d2; have R2 := fun W hW => ex_rightA W (HL2.out.on hW).v; clear h2 A1 c0 d0 d1 d2)
    | (go_at_call 13; (with_reducible refine (R2 _ (Below.refl _ _)).mono ?_); rintro e w3 ⟨rfl, h3⟩; have HB3 := Lib.hid (HB2.out.trans (h3.mono HB2.out.size)); have HH3 := Lib.hid (HH2.out.on h3); have HL3 := Lib.hid (HL2.out.on h3); have LK := ex_lacks _ L HF.out w3 HH3.out HL3.out.v; clear h3 R2)
    | (go_at_call 29; (with_reducible refine LK.mono ?_); rintro e w4 ⟨⟨ra, rc, rfl⟩, h4⟩; have HB4 := Lib.hid (HB3.out.trans (h4.mono HB3.out.size)); clear h4 LK))
  go_ret
  exact ⟨rfl, HB4.out⟩
end Go.Proofs.YteoomeknlfcfaaaGreatDoor
