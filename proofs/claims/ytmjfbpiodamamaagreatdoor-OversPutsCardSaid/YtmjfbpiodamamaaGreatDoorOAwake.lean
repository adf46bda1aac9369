/-
  The meta of a path by overrides, of both sides: what each returns; nothing old turns. cellarerlaw10's awake: it returns true; nothing old turns. Conditions: LaidP, LaidE.
-/
import Derived.Test.YtmjfbpiodamamaaGreatDoorOFindR
import Derived.BigRegion
import Derived.Test.YtmjfbpiodamamaaGreatDoorOParse
import Derived.Laws.StructEq
namespace Go.Proofs.YtmjfbpiodamamaaGreatDoor
open Go.RowKit
abbrev Mt := Int × Int × Int
abbrev aggM (d : Mt) : Value := .agg #[.int .i64 d.1, .int .i64 d.2.1, .int .i64 d.2.2]
def metaO (l : List Ov) (p : Bs) (d : Mt) : Mt := match l.findIdx? (pathIsO p) with
  | some k => ((l[k]?).map (·.2)).getD d
  | none => d
theorem metaO_hit {l : List Ov} {p : Bs} {d : Mt} {k : Nat} {x : Ov} (h : l.findIdx? (pathIsO p) = some k) (hx : l[k]? = some x) : metaO l p d = x.2 := by unfold metaO; rw [h]; dsimp only; rw [hx]; rfl
theorem metaO_miss {l : List Ov} {p : Bs} {d : Mt} (h : l.findIdx? (pathIsO p) = none) : metaO l p d = d := by unfold metaO; rw [h]
abbrev oM (m u g : Int) : Obj := .cells #[.int .i64 m, .int .i64 u, .int .i64 g] 39
theorem two_boxes {w : World} {m u g : Int} {W : World} (hb : Below ((w.alloc (oM m u g)).alloc (oM 0 0 0)).heap.size ((w.alloc (oM m u g)).alloc (oM 0 0 0)) W) :
    Below w.heap.size w W ∧ Box3 W w.heap.size (.int .i64 m) (.int .i64 u) (.int .i64 g) ∧ Box3 W (w.heap.size + 1) (.int .i64 0) (.int .i64 0) (.int .i64 0) := by
  have B1 := (Below.refl w.heap.size w).alloc (Nat.le_refl _) (oM m u g)
  have B2 := B1.alloc B1.size (oM 0 0 0)
  have X1 := (Box3.new w (.int .i64 m) (.int .i64 u) (.int .i64 g) 39).on ((Below.refl _ _).alloc (Nat.le_refl _) (oM 0 0 0))
  have X2 := Box3.new (w.alloc (oM m u g)) (.int .i64 0) (.int .i64 0) (.int .i64 0) 39
  rw [World.size_alloc] at X2
  exact ⟨B2.trans (hb.mono B2.size), X1.on hb, X2.on hb⟩
def MetaP (l : List Ov) (p : Bs) (d : Mt) (w : World) (e : Ending) (w' : World) : Prop := e = .returned (aggM (metaO l p d)) ∧ Below w.heap.size w w'
set_option maxRecDepth 100000 in
set_option maxHeartbeats 8000000 in
theorem metaO_any (v : Value) (l : List Ov) (hl : l.length ≤ 90000) (K : ByteArray) (d : Mt) (w : World) (h : HoldO w v l) : Calls Tryz.prog 24 #[v, .string K, aggM d] w (MetaP l K.data.toList d w) := by
  obtain ⟨m, u, g⟩ := d
  have HT := Lib.hid (fun W (hb : Below ((w.alloc (oM m u g)).alloc (oM 0 0 0)).heap.size ((w.alloc (oM m u g)).alloc (oM 0 0 0)) W) => two_boxes hb)
  have FI := findO_any v l hl K ((w.alloc (oM m u g)).alloc (oM 0 0 0)) (HoldV.on h (two_boxes (Below.refl _ _)).1)
  obtain ⟨a, c, b, o, rfl, hc, ha, hcell⟩ := h.parts
  have HC := Lib.hid hcell
  unfold aggM
  dsimp only
  cases hf : l.findIdx? (pathIsO K.data.toList) with
  | none =>
    have hi : idxO l (pathIsO K.data.toList) = -1 := by unfold idxO; rw [hf]
    rw [hi] at FI
    have HP : Hid (∀ w', Below w.heap.size w w' → MetaP l K.data.toList (m, u, g) w (.returned (.agg #[.int .i64 m, .int .i64 u, .int .i64 g])) w') := Lib.hid (fun w' hb => ⟨by rw [metaO_miss hf], hb⟩)
    generalize l.length = n at *
    clear hf hi hcell HC h
    go_enter Tryz.func24, Tryz.ntmps24
    go_wp2_with (go_at_call 20; (with_reducible refine FI.mono ?_); rintro e w3 ⟨rfl, hb⟩; obtain ⟨hbw, hx1, hx2⟩ := HT.out _ hb; obtain ⟨r0, r1, r2, -⟩ := hx1; have HX2 := Lib.hid hx2; obtain ⟨z0, z1, z2, fz⟩ := hx2; have f0 := fz 0; have f1 := fz 1; have f2 := fz 2; have HB := Lib.hid hbw; clear hb FI fz hbw)
    obtain ⟨k0, k1, k2⟩ := HX2.out.put (.int .i64 m) (.int .i64 u) (.int .i64 g)
    exact bodyPost_ret (v := .agg #[.int .i64 m, .int .i64 u, .int .i64 g]) (by simp [results, Tryz.results24, go_sem, k0, k1, k2]) rfl (HP.out _ (put3_below HB.out (by omega) _ _ _))
  | some k =>
    obtain ⟨hk, -⟩ := List.findIdx?_eq_some_iff_getElem.1 hf
    obtain ⟨⟨p', m', u', g'⟩, hx⟩ : ∃ x, l[k]? = some x := ⟨_, List.getElem?_eq_getElem hk⟩
    have hi : idxO l (pathIsO K.data.toList) = (k : Int) := by unfold idxO; rw [hf]
    rw [hi] at FI
    obtain ⟨-, c1, c2, c3⟩ := hcell k _ hx
    dsimp only at c1 c2 c3
    have HP : Hid (∀ w', Below w.heap.size w w' → MetaP l K.data.toList (m, u, g) w (.returned (.agg #[.int .i64 m', .int .i64 u', .int .i64 g'])) w') := Lib.hid (fun w' hb => ⟨by rw [metaO_hit hf hx], hb⟩)
    obtain ⟨rfl, hbw0⟩ := ha (by omega)
    have HBW0 := Lib.hid hbw0
    have hk0 : (0 : Int) ≤ (k : Int) := by omega
    generalize l.length = n at *
    clear hf hi hcell HC h hx
    go_enter Tryz.func24, Tryz.ntmps24
    go_wp2_with (go_at_call 20; (with_reducible refine FI.mono ?_); rintro e w3 ⟨rfl, hb⟩; obtain ⟨hbw, hx1, hx2⟩ := HT.out _ hb; have HX2 := Lib.hid hx2; obtain ⟨z0, z1, z2, fz⟩ := hx2; have f0 := fz 0; have f1 := fz 1; have f2 := fz 2; have HB := Lib.hid hbw; rw [← hbw.cell (p := ⟨b, o + k * 4 + 1, none⟩) hbw0] at c1; rw [← hbw.cell (p := ⟨b, o + k * 4 + 2, none⟩) hbw0] at c2; rw [← hbw.cell (p := ⟨b, o + k * 4 + 3, none⟩) hbw0] at c3; clear hb FI fz hbw)
    obtain ⟨k0, k1, k2⟩ := HX2.out.put (.int .i64 m') (.int .i64 u') (.int .i64 g')
    exact bodyPost_ret (v := .agg #[.int .i64 m', .int .i64 u', .int .i64 g']) (by simp [results, Tryz.results24, go_sem, k0, k1, k2]) rfl (HP.out _ (put3_below HB.out (by omega) _ _ _))
set_option maxRecDepth 100000 in
set_option maxHeartbeats 8000000 in
theorem metaO_ref (v : Value) (l : List Ov) (hl : l.length ≤ 90000) (K : ByteArray) (d : Mt) (w : World) (h : HoldO w v l) : Calls Tryz.prog 25 #[v, .string K, aggM d] w (MetaP l K.data.toList d w) := by
  obtain ⟨m, u, g⟩ := d
  obtain ⟨hbw, hx1, hx2⟩ := two_boxes (Below.refl ((w.alloc (oM m u g)).alloc (oM 0 0 0)).heap.size ((w.alloc (oM m u g)).alloc (oM 0 0 0)))
  have FI := findO_ref v l hl K ((w.alloc (oM m u g)).alloc (oM 0 0 0)) (HoldV.on h hbw)
  obtain ⟨a, c, b, o, rfl, hc, ha, hcell⟩ := h.parts
  unfold aggM
  dsimp only
  obtain ⟨r0, r1, r2, -⟩ := hx1
  cases hf : l.findIdx? (pathIsO K.data.toList) with
  | none =>
    have hi : idxO l (pathIsO K.data.toList) = -1 := by unfold idxO; rw [hf]
    rw [hi] at FI
    have HP : Hid (∀ w', Below w.heap.size w w' → MetaP l K.data.toList (m, u, g) w (.returned (.agg #[.int .i64 m, .int .i64 u, .int .i64 g])) w') := Lib.hid (fun w' hb => ⟨by rw [metaO_miss hf], hb⟩)
    generalize l.length = n at *
    clear hf hi hcell h hbw hx2
    go_enter Tryz.func25, Tryz.ntmps25
    go_wp2_with (go_at_call 21; (with_reducible refine FI.mono ?_); rintro e w3 ⟨rfl, rfl⟩)
    exact bodyPost_ret (v := .agg #[.int .i64 m, .int .i64 u, .int .i64 g]) (by simp [results, Tryz.results25, go_sem]) rfl (HP.out _ (((Below.refl _ _).alloc (Nat.le_refl _) _).alloc (by simp) _))
  | some k =>
    obtain ⟨hk, -⟩ := List.findIdx?_eq_some_iff_getElem.1 hf
    obtain ⟨⟨p', m', u', g'⟩, hx⟩ : ∃ x, l[k]? = some x := ⟨_, List.getElem?_eq_getElem hk⟩
    have hi : idxO l (pathIsO K.data.toList) = (k : Int) := by unfold idxO; rw [hf]
    rw [hi] at FI
    obtain ⟨-, c1, c2, c3⟩ := hcell k _ hx
    dsimp only at c1 c2 c3
    have HP : Hid (∀ w', Below w.heap.size w w' → MetaP l K.data.toList (m, u, g) w (.returned (.agg #[.int .i64 m', .int .i64 u', .int .i64 g'])) w') := Lib.hid (fun w' hb => ⟨by rw [metaO_hit hf hx], hb⟩)
    obtain ⟨rfl, hbw0⟩ := ha (by omega)
    rw [← hbw.cell (p := ⟨b, o + k * 4 + 1, none⟩) hbw0] at c1
    rw [← hbw.cell (p := ⟨b, o + k * 4 + 2, none⟩) hbw0] at c2
    rw [← hbw.cell (p := ⟨b, o + k * 4 + 3, none⟩) hbw0] at c3
    have hk0 : (0 : Int) ≤ (k : Int) := by omega
    have hk1 : ¬ (k : Int) < 0 := by omega
    generalize l.length = n at *
    clear hf hi hcell h hx hbw r0 r1 r2 hx2
    go_enter Tryz.func25, Tryz.ntmps25
    go_wp2_with (go_at_call 21; (with_reducible refine FI.mono ?_); rintro e w3 ⟨rfl, rfl⟩)
    exact bodyPost_ret (v := .agg #[.int .i64 m', .int .i64 u', .int .i64 g']) (by simp [results, Tryz.results25, go_sem]) rfl (HP.out _ (((Below.refl _ _).alloc (Nat.le_refl _) _).alloc (by simp) _))
end Go.Proofs.YtmjfbpiodamamaaGreatDoor
namespace Go.Proofs.YtmjfbpiodamamaaGreatDoor
open Go.RowKit
abbrev exO : Ov := ([47, 97], 2541, 0, 5)
abbrev exT : Bs := [35, 48, 32, 35, 53, 32, 52, 55, 53, 53, 32, 47, 97, 10]
theorem exO_right : rightO exO = true := by decide +kernel
theorem exO_chk : chkO [exO] = 0 := chkO_ok (by decide) (fun i x hx => by
  match i, hx with
  | 0, hx => simp at hx; subst hx; exact ⟨exO_right, fun y h => by omega⟩)
theorem exO_text : textO [exO] = exT := by decide +kernel
theorem exO_print : printO [exO] = (exT, 0) := by rw [printO_ok exO_chk, exO_text]
theorem exO_parse : parseO exT = some [exO] := by
  have := parse_textO exO_chk
  rwa [exO_text] at this
theorem exO_small : SmallO [exO] := fun x hx => by simp at hx; subst hx; decide
theorem exO_meta : metaO [exO] [47, 97] (0, 0, 0) = (2541, 0, 5) := by decide +kernel
theorem fld_gid (a b c : Int) (w : World) : (Instr.field 39 (.agg #[.int .i64 a, .int .i64 b, .int .i64 c]) 2).run Tryz.prog w = .ok (.int .i64 c) w := by
  unfold Instr.field
  go_simp
  rfl
set_option maxRecDepth 100000 in
set_option maxHeartbeats 8000000 in
theorem awake10 (w : World) (hL : LaidP w) (hE : LaidE w) : Calls Tryz.prog 8 #[] w fun e w' => e = .returned (.bool true) ∧ Below w.heap.size w w' := by
  have PA := parseO_any ⟨#[35, 48, 32, 35, 53, 32, 52, 55, 53, 53, 32, 47, 97, 10]⟩ (by decide) (by decide +kernel) w hL hE
  unfold PaPostO at PA
  have HPA : Hid (∀ v z (w' : World), (∀ l, parseO (ByteArray.mk #[35, 48, 32, 35, 53, 32, 52, 55, 53, 53, 32, 47, 97, 10]).data.toList = some l → z = (0 : Int) ∧ HoldO w' v l) → z = 0 ∧ HoldO w' v [exO]) := Lib.hid (fun v z w' h => h _ exO_parse)
  have PR := fun v W (hb : Below w.heap.size w W) (h : HoldO W v [exO]) => printO_any v [exO] (by simp) exO_small W (hL.on hb) (hE.on hb).laid h
  unfold PrPostO at PR
  rw [exO_print] at PR
  have ME := fun v W (h : HoldO W v [exO]) => metaO_any v [exO] (by simp) ⟨#[47, 97]⟩ (0, 0, 0) W h
  unfold MetaP at ME
  rw [show (ByteArray.mk #[47, 97]).data.toList = [47, 97] from rfl, exO_meta] at ME
  have RI := fun W (hb : Below w.heap.size w W) => rightO_any exO (by decide) W (hL.on hb)
  rw [exO_right] at RI
  have HF : Hid (∀ (W : World) v, HoldO W v [exO] → ∃ b o c, v = .slice (some ⟨b, o, none⟩) 1 c ∧ 1 ≤ c ∧ b < W.heap.size ∧ W.cell? ⟨b, o, none⟩ = some (.string ⟨#[47, 97]⟩) ∧ W.cell? ⟨b, o + 1, none⟩ = some (.int .i64 2541) ∧ W.cell? ⟨b, o + 2, none⟩ = some (.int .i64 0) ∧ W.cell? ⟨b, o + 3, none⟩ = some (.int .i64 5)) := Lib.hid (fun W v h => by
    obtain ⟨a, c, b, o, rfl, hc, ha, hcell⟩ := h.parts
    obtain ⟨rfl, hb⟩ := ha (by simp)
    obtain ⟨c0, c1, c2, c3⟩ := hcell 0 exO rfl
    exact ⟨b, o, c, rfl, hc, hb, by simpa using c0, by simpa using c1, by simpa using c2, by simpa using c3⟩)
  clear hL hE
  have FG := fun a b c W => fld_gid a b c W
  unfold aggM at ME
  unfold aggO at RI
  dsimp only at ME RI
  go_enter Tryz.func8, Tryz.ntmps8
  go_wp2_with (first
    | (go_at_call 13; (with_reducible refine PA.mono ?_); rintro e w1 ⟨v1, z1, rfl, hp, -, hb⟩; obtain ⟨rfl, hv1⟩ := HPA.out _ _ _ hp; obtain ⟨b, o, c, rfl, hc, hbl, -⟩ := HF.out _ _ hv1; have HV1 := Lib.hid hv1; have HB1 := Lib.hid hb; clear hb hp hv1 PA)
    | (go_at_call 9; (with_reducible refine (PR _ _ HB1.out HV1.out).mono ?_); rintro e w2 ⟨rfl, hb⟩; have HB2 := Lib.hid (HB1.out.trans (hb.mono HB1.out.size)); have hv2 := HoldV.on HV1.out hb; have HV2 := Lib.hid hv2; obtain ⟨b', o', c', e', -, -, d0, d1, d2, d3⟩ := HF.out _ _ hv2; cases e'; clear hb PR hv2)
    | (go_at_call 24; (with_reducible refine (ME _ _ HV2.out).mono ?_); rintro e w4 ⟨rfl, hb⟩; have HB4 := Lib.hid (HB2.out.trans (hb.mono HB2.out.size)); have hv4 := HoldV.on HV2.out hb; obtain ⟨b', o', c', e', -, -, g0, g1, g2, g3⟩ := HF.out _ _ hv4; cases e'; clear hb ME hv4)
    | (go_at_call 22; (with_reducible refine (RI _ HB4.out).mono ?_); rintro e w5 ⟨rfl, hb⟩; have HB5 := Lib.hid (HB4.out.trans (hb.mono HB4.out.size)); clear hb RI))
  go_ret
  exact ⟨rfl, HB5.out⟩
end Go.Proofs.YtmjfbpiodamamaaGreatDoor
