/-
  check.Needed: who leans on a name; nothing old turns.
-/
import Derived.Test.YtkcamfcjkjiijaaGreatDoorPEcNames
import Derived.Test.YtkcamfcjkjiijaaGreatDoorPZHold
namespace Go.Proofs.YtkcamfcjkjiijaaGreatDoor
open Go.RowKit Go.Shelf
def cfS (z : Int) : Bool := decide (z = 7 ∨ z = 6 ∨ z = 5)
set_option maxRecDepth 100000 in
theorem configured_any (z : Int) (w : World) : Calls Tryz.prog 42 #[.int .i64 z] w fun e w' => e = .returned (.bool (cfS z)) ∧ w = w' := by
  by_cases h7 : z = 7
  · subst h7
    go_enter Tryz.func42, Tryz.ntmps42
    go_wp2
    go_ret
    exact ⟨rfl, rfl⟩
  by_cases h6 : z = 6
  · subst h6
    go_enter Tryz.func42, Tryz.ntmps42
    go_wp2
    go_ret
    exact ⟨rfl, rfl⟩
  have g7 : (z == 7) = false := by simpa using h7
  have g6 : (z == 6) = false := by simpa using h6
  by_cases h5 : z = 5
  · subst h5
    go_enter Tryz.func42, Tryz.ntmps42
    go_wp2
    go_ret
    exact ⟨rfl, rfl⟩
  have g5 : (z == 5) = false := by simpa using h5
  have hr : cfS z = false := by unfold cfS; rw [decide_eq_false_iff_not]; omega
  rw [hr]
  go_enter Tryz.func42, Tryz.ntmps42
  go_wp2
  go_ret
  exact ⟨rfl, rfl⟩
def needB (rs ys : List Uv) (r : Uv) : Bool := cfS r.st && decide ((missL rs r.dp).length < (missL ys r.dp).length)
def Cell7 (b : Nat) (W : World) (x : Stv) : Prop := W.cell? ⟨b, 0, none⟩ = some x.rv ∧ W.cell? ⟨b, 1, none⟩ = some x.dv ∧ W.cell? ⟨b, 2, none⟩ = some x.ov ∧ W.cell? ⟨b, 3, none⟩ = some x.av ∧ W.cell? ⟨b, 4, none⟩ = some x.iv ∧ W.cell? ⟨b, 5, none⟩ = some x.fv ∧ W.cell? ⟨b, 6, none⟩ = some x.lv
theorem missLen_any (x : Stv) (hn : x.rs.length ≤ 90000) (hs : SmallQ (thereU x.rs)) (v : Value) (l : List Gv) (hl : l.length ≤ 500) (hg : SmallG l) (w : World) (hx : InS7 w x) (h : HoldGs w v l) (hL : LaidV w) :
    Calls Tryz.prog 14 #[agS x, v] w fun e w' => ∃ a c, e = .returned (.slice a (missL x.rs l).length c) ∧ Below w.heap.size w w' :=
  (missing_any x hn hs v l hl hg w hx h hL).mono (fun e w' h => by
    obtain ⟨r, g1, g2, g3⟩ := h
    obtain ⟨a, c, hr⟩ := g2.form
    rw [List.length_map] at hr
    exact ⟨a, c, by rw [g1, hr], g3⟩)
theorem cell7_lt {b : Nat} {W : World} {x : Stv} (h : Cell7 b W x) : b < W.heap.size := World.block_lt_of_cell? W ⟨b, 0, none⟩ h.1
theorem Cell7.on {b : Nat} {w w' : World} {x : Stv} (h : Cell7 b w x) (hb : Below w.heap.size w w') : Cell7 b w' x := by
  have hl := cell7_lt h
  obtain ⟨h0, h1, h2, h3, h4, h5, h6⟩ := h
  have k := fun i v (h : w.cell? ⟨b, i, none⟩ = some v) => (hb.cell (p := ⟨b, i, none⟩) hl).trans h
  exact ⟨k 0 _ h0, k 1 _ h1, k 2 _ h2, k 3 _ h3, k 4 _ h4, k 5 _ h5, k 6 _ h6⟩
set_option maxRecDepth 100000 in
set_option maxHeartbeats 16000000 in
theorem need1_any (x y : Stv) (hn : x.rs.length ≤ 90000) (hs : SmallQ (thereU x.rs)) (hn2 : y.rs.length ≤ 90000) (hs2 : SmallQ (thereU y.rs)) (A B : Nat) (r : Uv) (hl : r.dp.length ≤ 500) (hg : SmallG r.dp) (W : World) (hA : Cell7 A W y) (hB : Cell7 B W x) (hx : InS7 W x) (hy : InS7 W y) (hr : InU W r) (hL : LaidV W) :
    Calls Tryz.prog 41 #[agZU r, .pointer (some ⟨A, 0, none⟩), .pointer (some ⟨B, 0, none⟩)] W fun e w' => e = .returned (.bool (needB x.rs y.rs r)) ∧ Below W.heap.size W w' := by
  have b0 := (Below.refl W.heap.size W).alloc (Nat.le_refl _) (.cells #[.string (⟨r.nm.toArray⟩ : ByteArray), .string (⟨r.vr.toArray⟩ : ByteArray), .int .i64 r.st, r.dv, r.cv, r.rv, r.fv, r.pv, r.av] 71)
  obtain ⟨-, -, y2, y3, -, -, -, -, -⟩ := boxV9 W (.string (⟨r.nm.toArray⟩ : ByteArray)) (.string (⟨r.vr.toArray⟩ : ByteArray)) (.int .i64 r.st) r.dv r.cv r.rv r.fv r.pv r.av 71
  obtain ⟨w1, hw1⟩ : ∃ w1, W.alloc (.cells #[.string (⟨r.nm.toArray⟩ : ByteArray), .string (⟨r.vr.toArray⟩ : ByteArray), .int .i64 r.st, r.dv, r.cv, r.rv, r.fv, r.pv, r.av] 71) = w1 := ⟨_, rfl⟩
  rw [hw1] at b0 y2 y3
  have HDONE : Hid (∀ w', Below w1.heap.size w1 w' → Below W.heap.size W w') := Lib.hid (fun w' h => b0.trans (h.mono b0.size))
  have RX : Hid (∀ V, Below w1.heap.size w1 V → Calls Tryz.prog 14 #[agS x, r.dv] V fun e w' => ∃ a c, e = .returned (.slice a (missL x.rs r.dp).length c) ∧ Below V.heap.size V w') := Lib.hid (fun V hV => missLen_any x hn hs r.dv r.dp hl hg V (hx.on (b0.trans (hV.mono b0.size))) (hr.dp.on (b0.trans (hV.mono b0.size))) (hL.on (b0.trans (hV.mono b0.size))))
  have RY : Hid (∀ V, Below w1.heap.size w1 V → Calls Tryz.prog 14 #[agS y, r.dv] V fun e w' => ∃ a c, e = .returned (.slice a (missL y.rs r.dp).length c) ∧ Below V.heap.size V w') := Lib.hid (fun V hV => missLen_any y hn2 hs2 r.dv r.dp hl hg V (hy.on (b0.trans (hV.mono b0.size))) (hr.dp.on (b0.trans (hV.mono b0.size))) (hL.on (b0.trans (hV.mono b0.size))))
  obtain ⟨A0, A1, A2, A3, A4, A5, A6⟩ := hA.on b0
  obtain ⟨B0, B1, B2, B3, B4, B5, B6⟩ := hB.on b0
  have hq : needB x.rs y.rs r = (cfS r.st && decide ((missL x.rs r.dp).length < (missL y.rs r.dp).length)) := rfl
  obtain ⟨a3, n3, m3, q3⟩ := formU3 hr
  obtain ⟨a4, n4, m4, q4⟩ := formU4 hr
  obtain ⟨a5, n5, m5, q5⟩ := formU5 hr
  obtain ⟨a6, n6, m6, q6⟩ := formU6 hr
  obtain ⟨a7, n7, m7, q7⟩ := formU7 hr
  obtain ⟨a8, n8, m8, q8⟩ := formU8 hr
  obtain ⟨⟨⟨xr0, xr2, -, -, xr, -⟩, -⟩, ⟨xo0, xo1, xo2, xo⟩, ⟨xa0, xa1, xa2, xa⟩, ⟨xi0, xi1, xi2, xi⟩, ⟨xf0, xf1, xf2, xf⟩, ⟨xd0, xd1, xd2, xd⟩, ⟨xl0, xl1, xl2, xl⟩⟩ := hx
  obtain ⟨⟨⟨yr0, yr2, -, -, yr, -⟩, -⟩, ⟨yo0, yo1, yo2, yo⟩, ⟨ya0, ya1, ya2, ya⟩, ⟨yi0, yi1, yi2, yi⟩, ⟨yf0, yf1, yf2, yf⟩, ⟨yd0, yd1, yd2, yd⟩, ⟨yl0, yl1, yl2, yl⟩⟩ := hy
  unfold agS at RX RY
  unfold agZU
  rw [hq]
  clear hq hA hB hr hL hl hg hn hn2 hs hs2
  simp only [q3, q4, q5, q6, q7, q8, xr, xo, xa, xi, xf, xd, xl, yr, yo, ya, yi, yf, yd, yl] at *
  clear q3 q4 q5 q6 q7 q8 xr xo xa xi xf xd xl yr yo ya yi yf yd yl
  generalize (x.rs.map cellsU).length = xr1 at *
  generalize (y.rs.map cellsU).length = yr1 at *
  generalize (missL x.rs r.dp).length = mx at *
  generalize (missL y.rs r.dp).length = my at *
  generalize (⟨r.nm.toArray⟩ : ByteArray) = X0 at *
  generalize (⟨r.vr.toArray⟩ : ByteArray) = X1 at *
  generalize r.st = z at *
  have hs := And.intro y2 (And.intro y3 (And.intro A0 (And.intro A1 (And.intro A2 (And.intro A3 (And.intro A4 (And.intro A5 (And.intro A6 (And.intro B0 (And.intro B1 (And.intro B2 (And.intro B3 (And.intro B4 (And.intro B5 (And.intro B6 (Below.refl w1.heap.size w1))))))))))))))))
  have CF := fun V => configured_any z V
  cases hz : cfS z
  · rw [hz] at CF
    simp only [Bool.false_and]
    go_enter Tryz.func41, Tryz.ntmps41
    go_wp2
    have BE := fun (V : World) (h : V.cell? ⟨W.heap.size, 2, none⟩ = some (.int .i64 z) ∧ V.cell? ⟨W.heap.size, 3, none⟩ = some (.slice a3 n3 m3) ∧ V.cell? ⟨A, 0, none⟩ = some (.slice yr0 yr1 yr2) ∧ V.cell? ⟨A, 1, none⟩ = some (.slice yd0 yd1 yd2) ∧ V.cell? ⟨A, 2, none⟩ = some (.slice yo0 yo1 yo2) ∧ V.cell? ⟨A, 3, none⟩ = some (.slice ya0 ya1 ya2) ∧ V.cell? ⟨A, 4, none⟩ = some (.slice yi0 yi1 yi2) ∧ V.cell? ⟨A, 5, none⟩ = some (.slice yf0 yf1 yf2) ∧ V.cell? ⟨A, 6, none⟩ = some (.slice yl0 yl1 yl2) ∧ V.cell? ⟨B, 0, none⟩ = some (.slice xr0 xr1 xr2) ∧ V.cell? ⟨B, 1, none⟩ = some (.slice xd0 xd1 xd2) ∧ V.cell? ⟨B, 2, none⟩ = some (.slice xo0 xo1 xo2) ∧ V.cell? ⟨B, 3, none⟩ = some (.slice xa0 xa1 xa2) ∧ V.cell? ⟨B, 4, none⟩ = some (.slice xi0 xi1 xi2) ∧ V.cell? ⟨B, 5, none⟩ = some (.slice xf0 xf1 xf2) ∧ V.cell? ⟨B, 6, none⟩ = some (.slice xl0 xl1 xl2) ∧ Below w1.heap.size w1 V) => AtF.be (w := w1) (l := [(⟨W.heap.size, 2, none⟩, .int .i64 z), (⟨W.heap.size, 3, none⟩, .slice a3 n3 m3), (⟨A, 0, none⟩, .slice yr0 yr1 yr2), (⟨A, 1, none⟩, .slice yd0 yd1 yd2), (⟨A, 2, none⟩, .slice yo0 yo1 yo2), (⟨A, 3, none⟩, .slice ya0 ya1 ya2), (⟨A, 4, none⟩, .slice yi0 yi1 yi2), (⟨A, 5, none⟩, .slice yf0 yf1 yf2), (⟨A, 6, none⟩, .slice yl0 yl1 yl2), (⟨B, 0, none⟩, .slice xr0 xr1 xr2), (⟨B, 1, none⟩, .slice xd0 xd1 xd2), (⟨B, 2, none⟩, .slice xo0 xo1 xo2), (⟨B, 3, none⟩, .slice xa0 xa1 xa2), (⟨B, 4, none⟩, .slice xi0 xi1 xi2), (⟨B, 5, none⟩, .slice xf0 xf1 xf2), (⟨B, 6, none⟩, .slice xl0 xl1 xl2)]) h
    refine wp_region_held_drew (S := (fun V => V.cell? ⟨W.heap.size, 2, none⟩ = some (.int .i64 z) ∧ V.cell? ⟨W.heap.size, 3, none⟩ = some (.slice a3 n3 m3) ∧ V.cell? ⟨A, 0, none⟩ = some (.slice yr0 yr1 yr2) ∧ V.cell? ⟨A, 1, none⟩ = some (.slice yd0 yd1 yd2) ∧ V.cell? ⟨A, 2, none⟩ = some (.slice yo0 yo1 yo2) ∧ V.cell? ⟨A, 3, none⟩ = some (.slice ya0 ya1 ya2) ∧ V.cell? ⟨A, 4, none⟩ = some (.slice yi0 yi1 yi2) ∧ V.cell? ⟨A, 5, none⟩ = some (.slice yf0 yf1 yf2) ∧ V.cell? ⟨A, 6, none⟩ = some (.slice yl0 yl1 yl2) ∧ V.cell? ⟨B, 0, none⟩ = some (.slice xr0 xr1 xr2) ∧ V.cell? ⟨B, 1, none⟩ = some (.slice xd0 xd1 xd2) ∧ V.cell? ⟨B, 2, none⟩ = some (.slice xo0 xo1 xo2) ∧ V.cell? ⟨B, 3, none⟩ = some (.slice xa0 xa1 xa2) ∧ V.cell? ⟨B, 4, none⟩ = some (.slice xi0 xi1 xi2) ∧ V.cell? ⟨B, 5, none⟩ = some (.slice xf0 xf1 xf2) ∧ V.cell? ⟨B, 6, none⟩ = some (.slice xl0 xl1 xl2) ∧ Below w1.heap.size w1 V)) (by kernel_rfl) ?_ (fun hHeld => ?_)
    · (try dsimp only); (first | assumption | exact hs | exact AtF.dr (w := w1) (l := [(⟨W.heap.size, 2, none⟩, .int .i64 z), (⟨W.heap.size, 3, none⟩, .slice a3 n3 m3), (⟨A, 0, none⟩, .slice yr0 yr1 yr2), (⟨A, 1, none⟩, .slice yd0 yd1 yd2), (⟨A, 2, none⟩, .slice yo0 yo1 yo2), (⟨A, 3, none⟩, .slice ya0 ya1 ya2), (⟨A, 4, none⟩, .slice yi0 yi1 yi2), (⟨A, 5, none⟩, .slice yf0 yf1 yf2), (⟨A, 6, none⟩, .slice yl0 yl1 yl2), (⟨B, 0, none⟩, .slice xr0 xr1 xr2), (⟨B, 1, none⟩, .slice xd0 xd1 xd2), (⟨B, 2, none⟩, .slice xo0 xo1 xo2), (⟨B, 3, none⟩, .slice xa0 xa1 xa2), (⟨B, 4, none⟩, .slice xi0 xi1 xi2), (⟨B, 5, none⟩, .slice xf0 xf1 xf2), (⟨B, 6, none⟩, .slice xl0 xl1 xl2)]) hs | exact AtF.dr (w := w1) (l := [(⟨W.heap.size, 2, none⟩, .int .i64 z), (⟨W.heap.size, 3, none⟩, .slice a3 n3 m3), (⟨A, 0, none⟩, .slice yr0 yr1 yr2), (⟨A, 1, none⟩, .slice yd0 yd1 yd2), (⟨A, 2, none⟩, .slice yo0 yo1 yo2), (⟨A, 3, none⟩, .slice ya0 ya1 ya2), (⟨A, 4, none⟩, .slice yi0 yi1 yi2), (⟨A, 5, none⟩, .slice yf0 yf1 yf2), (⟨A, 6, none⟩, .slice yl0 yl1 yl2), (⟨B, 0, none⟩, .slice xr0 xr1 xr2), (⟨B, 1, none⟩, .slice xd0 xd1 xd2), (⟨B, 2, none⟩, .slice xo0 xo1 xo2), (⟨B, 3, none⟩, .slice xa0 xa1 xa2), (⟨B, 4, none⟩, .slice xi0 xi1 xi2), (⟨B, 5, none⟩, .slice xf0 xf1 xf2), (⟨B, 6, none⟩, .slice xl0 xl1 xl2)]) (by assumption) | exact AtF.on (w := w1) (l := [(⟨W.heap.size, 2, none⟩, .int .i64 z), (⟨W.heap.size, 3, none⟩, .slice a3 n3 m3), (⟨A, 0, none⟩, .slice yr0 yr1 yr2), (⟨A, 1, none⟩, .slice yd0 yd1 yd2), (⟨A, 2, none⟩, .slice yo0 yo1 yo2), (⟨A, 3, none⟩, .slice ya0 ya1 ya2), (⟨A, 4, none⟩, .slice yi0 yi1 yi2), (⟨A, 5, none⟩, .slice yf0 yf1 yf2), (⟨A, 6, none⟩, .slice yl0 yl1 yl2), (⟨B, 0, none⟩, .slice xr0 xr1 xr2), (⟨B, 1, none⟩, .slice xd0 xd1 xd2), (⟨B, 2, none⟩, .slice xo0 xo1 xo2), (⟨B, 3, none⟩, .slice xa0 xa1 xa2), (⟨B, 4, none⟩, .slice xi0 xi1 xi2), (⟨B, 5, none⟩, .slice xf0 xf1 xf2), (⟨B, 6, none⟩, .slice xl0 xl1 xl2)]) (by assumption) (by assumption) | exact AtF.al (w := w1) (l := [(⟨W.heap.size, 2, none⟩, .int .i64 z), (⟨W.heap.size, 3, none⟩, .slice a3 n3 m3), (⟨A, 0, none⟩, .slice yr0 yr1 yr2), (⟨A, 1, none⟩, .slice yd0 yd1 yd2), (⟨A, 2, none⟩, .slice yo0 yo1 yo2), (⟨A, 3, none⟩, .slice ya0 ya1 ya2), (⟨A, 4, none⟩, .slice yi0 yi1 yi2), (⟨A, 5, none⟩, .slice yf0 yf1 yf2), (⟨A, 6, none⟩, .slice yl0 yl1 yl2), (⟨B, 0, none⟩, .slice xr0 xr1 xr2), (⟨B, 1, none⟩, .slice xd0 xd1 xd2), (⟨B, 2, none⟩, .slice xo0 xo1 xo2), (⟨B, 3, none⟩, .slice xa0 xa1 xa2), (⟨B, 4, none⟩, .slice xi0 xi1 xi2), (⟨B, 5, none⟩, .slice xf0 xf1 xf2), (⟨B, 6, none⟩, .slice xl0 xl1 xl2)]) (by assumption) _ | exact AtF.ald (w := w1) (l := [(⟨W.heap.size, 2, none⟩, .int .i64 z), (⟨W.heap.size, 3, none⟩, .slice a3 n3 m3), (⟨A, 0, none⟩, .slice yr0 yr1 yr2), (⟨A, 1, none⟩, .slice yd0 yd1 yd2), (⟨A, 2, none⟩, .slice yo0 yo1 yo2), (⟨A, 3, none⟩, .slice ya0 ya1 ya2), (⟨A, 4, none⟩, .slice yi0 yi1 yi2), (⟨A, 5, none⟩, .slice yf0 yf1 yf2), (⟨A, 6, none⟩, .slice yl0 yl1 yl2), (⟨B, 0, none⟩, .slice xr0 xr1 xr2), (⟨B, 1, none⟩, .slice xd0 xd1 xd2), (⟨B, 2, none⟩, .slice xo0 xo1 xo2), (⟨B, 3, none⟩, .slice xa0 xa1 xa2), (⟨B, 4, none⟩, .slice xi0 xi1 xi2), (⟨B, 5, none⟩, .slice xf0 xf1 xf2), (⟨B, 6, none⟩, .slice xl0 xl1 xl2)]) (by assumption) _ | exact AtF.al (w := w1) (l := [(⟨W.heap.size, 2, none⟩, .int .i64 z), (⟨W.heap.size, 3, none⟩, .slice a3 n3 m3), (⟨A, 0, none⟩, .slice yr0 yr1 yr2), (⟨A, 1, none⟩, .slice yd0 yd1 yd2), (⟨A, 2, none⟩, .slice yo0 yo1 yo2), (⟨A, 3, none⟩, .slice ya0 ya1 ya2), (⟨A, 4, none⟩, .slice yi0 yi1 yi2), (⟨A, 5, none⟩, .slice yf0 yf1 yf2), (⟨A, 6, none⟩, .slice yl0 yl1 yl2), (⟨B, 0, none⟩, .slice xr0 xr1 xr2), (⟨B, 1, none⟩, .slice xd0 xd1 xd2), (⟨B, 2, none⟩, .slice xo0 xo1 xo2), (⟨B, 3, none⟩, .slice xa0 xa1 xa2), (⟨B, 4, none⟩, .slice xi0 xi1 xi2), (⟨B, 5, none⟩, .slice xf0 xf1 xf2), (⟨B, 6, none⟩, .slice xl0 xl1 xl2)]) hs _ | exact AtF.ald (w := w1) (l := [(⟨W.heap.size, 2, none⟩, .int .i64 z), (⟨W.heap.size, 3, none⟩, .slice a3 n3 m3), (⟨A, 0, none⟩, .slice yr0 yr1 yr2), (⟨A, 1, none⟩, .slice yd0 yd1 yd2), (⟨A, 2, none⟩, .slice yo0 yo1 yo2), (⟨A, 3, none⟩, .slice ya0 ya1 ya2), (⟨A, 4, none⟩, .slice yi0 yi1 yi2), (⟨A, 5, none⟩, .slice yf0 yf1 yf2), (⟨A, 6, none⟩, .slice yl0 yl1 yl2), (⟨B, 0, none⟩, .slice xr0 xr1 xr2), (⟨B, 1, none⟩, .slice xd0 xd1 xd2), (⟨B, 2, none⟩, .slice xo0 xo1 xo2), (⟨B, 3, none⟩, .slice xa0 xa1 xa2), (⟨B, 4, none⟩, .slice xi0 xi1 xi2), (⟨B, 5, none⟩, .slice xf0 xf1 xf2), (⟨B, 6, none⟩, .slice xl0 xl1 xl2)]) hs _)
    refine heldY 0 5 ?_ _ rfl rfl (by kernel_rfl) (by kernel_rfl) (by kernel_rfl) (fun _ _ _ h => h) rfl (by assumption) ?_ ?_
    rotate_left
    · (intro w hSw; (try dsimp only at hSw); go_simp; (try with_reducible rfl))
    try simp only [List.setIfInBounds_toArray, List.set_cons_zero, List.set_cons_succ]
    refine heldY 1 6 ?_ _ rfl rfl (by kernel_rfl) (by kernel_rfl) (by kernel_rfl) (fun _ _ _ h => h) rfl (by assumption) ?_ ?_
    rotate_left
    · (intro w hSw; (try dsimp only at hSw); go_simp; (try with_reducible rfl))
    try simp only [List.setIfInBounds_toArray, List.set_cons_zero, List.set_cons_succ]
    refine wpAnyH_ready (rs := [2]) (by kernel_rfl) (by simp) ?_
    refine AllReadyH.cons rfl (fun K hK => ?_) AllReadyH.nil
    go_simp
    go_at_call 42; refine (CF _).mono ?_; rintro e w3 ⟨rfl, rfl⟩
    refine hK.out _ _ ?_ (fun hHeld => ?_)
    · (try dsimp only); (first | assumption | exact hs | exact AtF.dr (w := w1) (l := [(⟨W.heap.size, 2, none⟩, .int .i64 z), (⟨W.heap.size, 3, none⟩, .slice a3 n3 m3), (⟨A, 0, none⟩, .slice yr0 yr1 yr2), (⟨A, 1, none⟩, .slice yd0 yd1 yd2), (⟨A, 2, none⟩, .slice yo0 yo1 yo2), (⟨A, 3, none⟩, .slice ya0 ya1 ya2), (⟨A, 4, none⟩, .slice yi0 yi1 yi2), (⟨A, 5, none⟩, .slice yf0 yf1 yf2), (⟨A, 6, none⟩, .slice yl0 yl1 yl2), (⟨B, 0, none⟩, .slice xr0 xr1 xr2), (⟨B, 1, none⟩, .slice xd0 xd1 xd2), (⟨B, 2, none⟩, .slice xo0 xo1 xo2), (⟨B, 3, none⟩, .slice xa0 xa1 xa2), (⟨B, 4, none⟩, .slice xi0 xi1 xi2), (⟨B, 5, none⟩, .slice xf0 xf1 xf2), (⟨B, 6, none⟩, .slice xl0 xl1 xl2)]) hs | exact AtF.dr (w := w1) (l := [(⟨W.heap.size, 2, none⟩, .int .i64 z), (⟨W.heap.size, 3, none⟩, .slice a3 n3 m3), (⟨A, 0, none⟩, .slice yr0 yr1 yr2), (⟨A, 1, none⟩, .slice yd0 yd1 yd2), (⟨A, 2, none⟩, .slice yo0 yo1 yo2), (⟨A, 3, none⟩, .slice ya0 ya1 ya2), (⟨A, 4, none⟩, .slice yi0 yi1 yi2), (⟨A, 5, none⟩, .slice yf0 yf1 yf2), (⟨A, 6, none⟩, .slice yl0 yl1 yl2), (⟨B, 0, none⟩, .slice xr0 xr1 xr2), (⟨B, 1, none⟩, .slice xd0 xd1 xd2), (⟨B, 2, none⟩, .slice xo0 xo1 xo2), (⟨B, 3, none⟩, .slice xa0 xa1 xa2), (⟨B, 4, none⟩, .slice xi0 xi1 xi2), (⟨B, 5, none⟩, .slice xf0 xf1 xf2), (⟨B, 6, none⟩, .slice xl0 xl1 xl2)]) (by assumption) | exact AtF.on (w := w1) (l := [(⟨W.heap.size, 2, none⟩, .int .i64 z), (⟨W.heap.size, 3, none⟩, .slice a3 n3 m3), (⟨A, 0, none⟩, .slice yr0 yr1 yr2), (⟨A, 1, none⟩, .slice yd0 yd1 yd2), (⟨A, 2, none⟩, .slice yo0 yo1 yo2), (⟨A, 3, none⟩, .slice ya0 ya1 ya2), (⟨A, 4, none⟩, .slice yi0 yi1 yi2), (⟨A, 5, none⟩, .slice yf0 yf1 yf2), (⟨A, 6, none⟩, .slice yl0 yl1 yl2), (⟨B, 0, none⟩, .slice xr0 xr1 xr2), (⟨B, 1, none⟩, .slice xd0 xd1 xd2), (⟨B, 2, none⟩, .slice xo0 xo1 xo2), (⟨B, 3, none⟩, .slice xa0 xa1 xa2), (⟨B, 4, none⟩, .slice xi0 xi1 xi2), (⟨B, 5, none⟩, .slice xf0 xf1 xf2), (⟨B, 6, none⟩, .slice xl0 xl1 xl2)]) (by assumption) (by assumption) | exact AtF.al (w := w1) (l := [(⟨W.heap.size, 2, none⟩, .int .i64 z), (⟨W.heap.size, 3, none⟩, .slice a3 n3 m3), (⟨A, 0, none⟩, .slice yr0 yr1 yr2), (⟨A, 1, none⟩, .slice yd0 yd1 yd2), (⟨A, 2, none⟩, .slice yo0 yo1 yo2), (⟨A, 3, none⟩, .slice ya0 ya1 ya2), (⟨A, 4, none⟩, .slice yi0 yi1 yi2), (⟨A, 5, none⟩, .slice yf0 yf1 yf2), (⟨A, 6, none⟩, .slice yl0 yl1 yl2), (⟨B, 0, none⟩, .slice xr0 xr1 xr2), (⟨B, 1, none⟩, .slice xd0 xd1 xd2), (⟨B, 2, none⟩, .slice xo0 xo1 xo2), (⟨B, 3, none⟩, .slice xa0 xa1 xa2), (⟨B, 4, none⟩, .slice xi0 xi1 xi2), (⟨B, 5, none⟩, .slice xf0 xf1 xf2), (⟨B, 6, none⟩, .slice xl0 xl1 xl2)]) (by assumption) _ | exact AtF.ald (w := w1) (l := [(⟨W.heap.size, 2, none⟩, .int .i64 z), (⟨W.heap.size, 3, none⟩, .slice a3 n3 m3), (⟨A, 0, none⟩, .slice yr0 yr1 yr2), (⟨A, 1, none⟩, .slice yd0 yd1 yd2), (⟨A, 2, none⟩, .slice yo0 yo1 yo2), (⟨A, 3, none⟩, .slice ya0 ya1 ya2), (⟨A, 4, none⟩, .slice yi0 yi1 yi2), (⟨A, 5, none⟩, .slice yf0 yf1 yf2), (⟨A, 6, none⟩, .slice yl0 yl1 yl2), (⟨B, 0, none⟩, .slice xr0 xr1 xr2), (⟨B, 1, none⟩, .slice xd0 xd1 xd2), (⟨B, 2, none⟩, .slice xo0 xo1 xo2), (⟨B, 3, none⟩, .slice xa0 xa1 xa2), (⟨B, 4, none⟩, .slice xi0 xi1 xi2), (⟨B, 5, none⟩, .slice xf0 xf1 xf2), (⟨B, 6, none⟩, .slice xl0 xl1 xl2)]) (by assumption) _ | exact AtF.al (w := w1) (l := [(⟨W.heap.size, 2, none⟩, .int .i64 z), (⟨W.heap.size, 3, none⟩, .slice a3 n3 m3), (⟨A, 0, none⟩, .slice yr0 yr1 yr2), (⟨A, 1, none⟩, .slice yd0 yd1 yd2), (⟨A, 2, none⟩, .slice yo0 yo1 yo2), (⟨A, 3, none⟩, .slice ya0 ya1 ya2), (⟨A, 4, none⟩, .slice yi0 yi1 yi2), (⟨A, 5, none⟩, .slice yf0 yf1 yf2), (⟨A, 6, none⟩, .slice yl0 yl1 yl2), (⟨B, 0, none⟩, .slice xr0 xr1 xr2), (⟨B, 1, none⟩, .slice xd0 xd1 xd2), (⟨B, 2, none⟩, .slice xo0 xo1 xo2), (⟨B, 3, none⟩, .slice xa0 xa1 xa2), (⟨B, 4, none⟩, .slice xi0 xi1 xi2), (⟨B, 5, none⟩, .slice xf0 xf1 xf2), (⟨B, 6, none⟩, .slice xl0 xl1 xl2)]) hs _ | exact AtF.ald (w := w1) (l := [(⟨W.heap.size, 2, none⟩, .int .i64 z), (⟨W.heap.size, 3, none⟩, .slice a3 n3 m3), (⟨A, 0, none⟩, .slice yr0 yr1 yr2), (⟨A, 1, none⟩, .slice yd0 yd1 yd2), (⟨A, 2, none⟩, .slice yo0 yo1 yo2), (⟨A, 3, none⟩, .slice ya0 ya1 ya2), (⟨A, 4, none⟩, .slice yi0 yi1 yi2), (⟨A, 5, none⟩, .slice yf0 yf1 yf2), (⟨A, 6, none⟩, .slice yl0 yl1 yl2), (⟨B, 0, none⟩, .slice xr0 xr1 xr2), (⟨B, 1, none⟩, .slice xd0 xd1 xd2), (⟨B, 2, none⟩, .slice xo0 xo1 xo2), (⟨B, 3, none⟩, .slice xa0 xa1 xa2), (⟨B, 4, none⟩, .slice xi0 xi1 xi2), (⟨B, 5, none⟩, .slice xf0 xf1 xf2), (⟨B, 6, none⟩, .slice xl0 xl1 xl2)]) hs _)
    clear hK K
    try simp only [Act.put, List.setIfInBounds_toArray, List.set_cons_zero, List.set_cons_succ]
    refine heldY 3 8 ?_ _ rfl rfl (by kernel_rfl) (by kernel_rfl) (by kernel_rfl) (fun _ _ _ h => h) rfl (by assumption) ?_ ?_
    rotate_left
    · (intro w hSw; (try dsimp only at hSw); go_simp; (try with_reducible rfl))
    try simp only [List.setIfInBounds_toArray, List.set_cons_zero, List.set_cons_succ]
    refine heldNo 4 9 rfl (by kernel_rfl) (by kernel_rfl) (by kernel_rfl) (fun _ _ _ h => h) rfl (by assumption) ?_
    try simp only [List.setIfInBounds_toArray, List.set_cons_zero, List.set_cons_succ]
    refine heldNo 5 10 rfl (by kernel_rfl) (by kernel_rfl) (by kernel_rfl) (fun _ _ _ h => h) rfl (by assumption) ?_
    try simp only [List.setIfInBounds_toArray, List.set_cons_zero, List.set_cons_succ]
    refine heldNo 6 11 rfl (by kernel_rfl) (by kernel_rfl) (by kernel_rfl) (fun _ _ _ h => h) rfl (by assumption) ?_
    try simp only [List.setIfInBounds_toArray, List.set_cons_zero, List.set_cons_succ]
    refine heldNo 7 12 rfl (by kernel_rfl) (by kernel_rfl) (by kernel_rfl) (fun _ _ _ h => h) rfl (by assumption) ?_
    try simp only [List.setIfInBounds_toArray, List.set_cons_zero, List.set_cons_succ]
    refine heldNo 8 13 rfl (by kernel_rfl) (by kernel_rfl) (by kernel_rfl) (fun _ _ _ h => h) rfl (by assumption) ?_
    try simp only [List.setIfInBounds_toArray, List.set_cons_zero, List.set_cons_succ]
    refine heldNo 9 14 rfl (by kernel_rfl) (by kernel_rfl) (by kernel_rfl) (fun _ _ _ h => h) rfl (by assumption) ?_
    try simp only [List.setIfInBounds_toArray, List.set_cons_zero, List.set_cons_succ]
    refine heldNo 10 15 rfl (by kernel_rfl) (by kernel_rfl) (by kernel_rfl) (fun _ _ _ h => h) rfl (by assumption) ?_
    try simp only [List.setIfInBounds_toArray, List.set_cons_zero, List.set_cons_succ]
    refine heldNo 11 16 rfl (by kernel_rfl) (by kernel_rfl) (by kernel_rfl) (fun _ _ _ h => h) rfl (by assumption) ?_
    try simp only [List.setIfInBounds_toArray, List.set_cons_zero, List.set_cons_succ]
    refine heldNo 12 17 rfl (by kernel_rfl) (by kernel_rfl) (by kernel_rfl) (fun _ _ _ h => h) rfl (by assumption) ?_
    try simp only [List.setIfInBounds_toArray, List.set_cons_zero, List.set_cons_succ]
    refine heldNo 13 18 rfl (by kernel_rfl) (by kernel_rfl) (by kernel_rfl) (fun _ _ _ h => h) rfl (by assumption) ?_
    try simp only [List.setIfInBounds_toArray, List.set_cons_zero, List.set_cons_succ]
    refine heldNo 14 19 rfl (by kernel_rfl) (by kernel_rfl) (by kernel_rfl) (fun _ _ _ h => h) rfl (by assumption) ?_
    try simp only [List.setIfInBounds_toArray, List.set_cons_zero, List.set_cons_succ]
    refine heldY 15 20 ?_ _ rfl rfl (by kernel_rfl) (by kernel_rfl) (by kernel_rfl) (fun _ _ _ h => h) rfl (by assumption) ?_ ?_
    rotate_left
    · (intro w hSw; (try dsimp only at hSw); go_simp; (try with_reducible rfl))
    try simp only [List.setIfInBounds_toArray, List.set_cons_zero, List.set_cons_succ]
    refine heldY 16 4 ?_ _ rfl rfl (by kernel_rfl) (by kernel_rfl) (by kernel_rfl) (fun _ _ _ h => h) rfl (by assumption) ?_ ?_
    rotate_left
    · (intro w hSw; (try dsimp only at hSw); go_simp; (try with_reducible rfl))
    try simp only [List.setIfInBounds_toArray, List.set_cons_zero, List.set_cons_succ]
    refine wpAnyH_done (by kernel_rfl) ?_ _
    have HW := Lib.hid (BE _ hHeld)
    clear hHeld
    go_wp2
    go_ret
    exact ⟨rfl, HDONE.out _ HW.out⟩
  · rw [hz] at CF
    simp only [Bool.true_and]
    go_enter Tryz.func41, Tryz.ntmps41
    go_wp2
    have BE := fun (V : World) (h : V.cell? ⟨W.heap.size, 2, none⟩ = some (.int .i64 z) ∧ V.cell? ⟨W.heap.size, 3, none⟩ = some (.slice a3 n3 m3) ∧ V.cell? ⟨A, 0, none⟩ = some (.slice yr0 yr1 yr2) ∧ V.cell? ⟨A, 1, none⟩ = some (.slice yd0 yd1 yd2) ∧ V.cell? ⟨A, 2, none⟩ = some (.slice yo0 yo1 yo2) ∧ V.cell? ⟨A, 3, none⟩ = some (.slice ya0 ya1 ya2) ∧ V.cell? ⟨A, 4, none⟩ = some (.slice yi0 yi1 yi2) ∧ V.cell? ⟨A, 5, none⟩ = some (.slice yf0 yf1 yf2) ∧ V.cell? ⟨A, 6, none⟩ = some (.slice yl0 yl1 yl2) ∧ V.cell? ⟨B, 0, none⟩ = some (.slice xr0 xr1 xr2) ∧ V.cell? ⟨B, 1, none⟩ = some (.slice xd0 xd1 xd2) ∧ V.cell? ⟨B, 2, none⟩ = some (.slice xo0 xo1 xo2) ∧ V.cell? ⟨B, 3, none⟩ = some (.slice xa0 xa1 xa2) ∧ V.cell? ⟨B, 4, none⟩ = some (.slice xi0 xi1 xi2) ∧ V.cell? ⟨B, 5, none⟩ = some (.slice xf0 xf1 xf2) ∧ V.cell? ⟨B, 6, none⟩ = some (.slice xl0 xl1 xl2) ∧ Below w1.heap.size w1 V) => AtF.be (w := w1) (l := [(⟨W.heap.size, 2, none⟩, .int .i64 z), (⟨W.heap.size, 3, none⟩, .slice a3 n3 m3), (⟨A, 0, none⟩, .slice yr0 yr1 yr2), (⟨A, 1, none⟩, .slice yd0 yd1 yd2), (⟨A, 2, none⟩, .slice yo0 yo1 yo2), (⟨A, 3, none⟩, .slice ya0 ya1 ya2), (⟨A, 4, none⟩, .slice yi0 yi1 yi2), (⟨A, 5, none⟩, .slice yf0 yf1 yf2), (⟨A, 6, none⟩, .slice yl0 yl1 yl2), (⟨B, 0, none⟩, .slice xr0 xr1 xr2), (⟨B, 1, none⟩, .slice xd0 xd1 xd2), (⟨B, 2, none⟩, .slice xo0 xo1 xo2), (⟨B, 3, none⟩, .slice xa0 xa1 xa2), (⟨B, 4, none⟩, .slice xi0 xi1 xi2), (⟨B, 5, none⟩, .slice xf0 xf1 xf2), (⟨B, 6, none⟩, .slice xl0 xl1 xl2)]) h
    refine wp_region_held_drew (S := (fun V => V.cell? ⟨W.heap.size, 2, none⟩ = some (.int .i64 z) ∧ V.cell? ⟨W.heap.size, 3, none⟩ = some (.slice a3 n3 m3) ∧ V.cell? ⟨A, 0, none⟩ = some (.slice yr0 yr1 yr2) ∧ V.cell? ⟨A, 1, none⟩ = some (.slice yd0 yd1 yd2) ∧ V.cell? ⟨A, 2, none⟩ = some (.slice yo0 yo1 yo2) ∧ V.cell? ⟨A, 3, none⟩ = some (.slice ya0 ya1 ya2) ∧ V.cell? ⟨A, 4, none⟩ = some (.slice yi0 yi1 yi2) ∧ V.cell? ⟨A, 5, none⟩ = some (.slice yf0 yf1 yf2) ∧ V.cell? ⟨A, 6, none⟩ = some (.slice yl0 yl1 yl2) ∧ V.cell? ⟨B, 0, none⟩ = some (.slice xr0 xr1 xr2) ∧ V.cell? ⟨B, 1, none⟩ = some (.slice xd0 xd1 xd2) ∧ V.cell? ⟨B, 2, none⟩ = some (.slice xo0 xo1 xo2) ∧ V.cell? ⟨B, 3, none⟩ = some (.slice xa0 xa1 xa2) ∧ V.cell? ⟨B, 4, none⟩ = some (.slice xi0 xi1 xi2) ∧ V.cell? ⟨B, 5, none⟩ = some (.slice xf0 xf1 xf2) ∧ V.cell? ⟨B, 6, none⟩ = some (.slice xl0 xl1 xl2) ∧ Below w1.heap.size w1 V)) (by kernel_rfl) ?_ (fun hHeld => ?_)
    · (try dsimp only); (first | assumption | exact hs | exact AtF.dr (w := w1) (l := [(⟨W.heap.size, 2, none⟩, .int .i64 z), (⟨W.heap.size, 3, none⟩, .slice a3 n3 m3), (⟨A, 0, none⟩, .slice yr0 yr1 yr2), (⟨A, 1, none⟩, .slice yd0 yd1 yd2), (⟨A, 2, none⟩, .slice yo0 yo1 yo2), (⟨A, 3, none⟩, .slice ya0 ya1 ya2), (⟨A, 4, none⟩, .slice yi0 yi1 yi2), (⟨A, 5, none⟩, .slice yf0 yf1 yf2), (⟨A, 6, none⟩, .slice yl0 yl1 yl2), (⟨B, 0, none⟩, .slice xr0 xr1 xr2), (⟨B, 1, none⟩, .slice xd0 xd1 xd2), (⟨B, 2, none⟩, .slice xo0 xo1 xo2), (⟨B, 3, none⟩, .slice xa0 xa1 xa2), (⟨B, 4, none⟩, .slice xi0 xi1 xi2), (⟨B, 5, none⟩, .slice xf0 xf1 xf2), (⟨B, 6, none⟩, .slice xl0 xl1 xl2)]) hs | exact AtF.dr (w := w1) (l := [(⟨W.heap.size, 2, none⟩, .int .i64 z), (⟨W.heap.size, 3, none⟩, .slice a3 n3 m3), (⟨A, 0, none⟩, .slice yr0 yr1 yr2), (⟨A, 1, none⟩, .slice yd0 yd1 yd2), (⟨A, 2, none⟩, .slice yo0 yo1 yo2), (⟨A, 3, none⟩, .slice ya0 ya1 ya2), (⟨A, 4, none⟩, .slice yi0 yi1 yi2), (⟨A, 5, none⟩, .slice yf0 yf1 yf2), (⟨A, 6, none⟩, .slice yl0 yl1 yl2), (⟨B, 0, none⟩, .slice xr0 xr1 xr2), (⟨B, 1, none⟩, .slice xd0 xd1 xd2), (⟨B, 2, none⟩, .slice xo0 xo1 xo2), (⟨B, 3, none⟩, .slice xa0 xa1 xa2), (⟨B, 4, none⟩, .slice xi0 xi1 xi2), (⟨B, 5, none⟩, .slice xf0 xf1 xf2), (⟨B, 6, none⟩, .slice xl0 xl1 xl2)]) (by assumption) | exact AtF.on (w := w1) (l := [(⟨W.heap.size, 2, none⟩, .int .i64 z), (⟨W.heap.size, 3, none⟩, .slice a3 n3 m3), (⟨A, 0, none⟩, .slice yr0 yr1 yr2), (⟨A, 1, none⟩, .slice yd0 yd1 yd2), (⟨A, 2, none⟩, .slice yo0 yo1 yo2), (⟨A, 3, none⟩, .slice ya0 ya1 ya2), (⟨A, 4, none⟩, .slice yi0 yi1 yi2), (⟨A, 5, none⟩, .slice yf0 yf1 yf2), (⟨A, 6, none⟩, .slice yl0 yl1 yl2), (⟨B, 0, none⟩, .slice xr0 xr1 xr2), (⟨B, 1, none⟩, .slice xd0 xd1 xd2), (⟨B, 2, none⟩, .slice xo0 xo1 xo2), (⟨B, 3, none⟩, .slice xa0 xa1 xa2), (⟨B, 4, none⟩, .slice xi0 xi1 xi2), (⟨B, 5, none⟩, .slice xf0 xf1 xf2), (⟨B, 6, none⟩, .slice xl0 xl1 xl2)]) (by assumption) (by assumption) | exact AtF.al (w := w1) (l := [(⟨W.heap.size, 2, none⟩, .int .i64 z), (⟨W.heap.size, 3, none⟩, .slice a3 n3 m3), (⟨A, 0, none⟩, .slice yr0 yr1 yr2), (⟨A, 1, none⟩, .slice yd0 yd1 yd2), (⟨A, 2, none⟩, .slice yo0 yo1 yo2), (⟨A, 3, none⟩, .slice ya0 ya1 ya2), (⟨A, 4, none⟩, .slice yi0 yi1 yi2), (⟨A, 5, none⟩, .slice yf0 yf1 yf2), (⟨A, 6, none⟩, .slice yl0 yl1 yl2), (⟨B, 0, none⟩, .slice xr0 xr1 xr2), (⟨B, 1, none⟩, .slice xd0 xd1 xd2), (⟨B, 2, none⟩, .slice xo0 xo1 xo2), (⟨B, 3, none⟩, .slice xa0 xa1 xa2), (⟨B, 4, none⟩, .slice xi0 xi1 xi2), (⟨B, 5, none⟩, .slice xf0 xf1 xf2), (⟨B, 6, none⟩, .slice xl0 xl1 xl2)]) (by assumption) _ | exact AtF.ald (w := w1) (l := [(⟨W.heap.size, 2, none⟩, .int .i64 z), (⟨W.heap.size, 3, none⟩, .slice a3 n3 m3), (⟨A, 0, none⟩, .slice yr0 yr1 yr2), (⟨A, 1, none⟩, .slice yd0 yd1 yd2), (⟨A, 2, none⟩, .slice yo0 yo1 yo2), (⟨A, 3, none⟩, .slice ya0 ya1 ya2), (⟨A, 4, none⟩, .slice yi0 yi1 yi2), (⟨A, 5, none⟩, .slice yf0 yf1 yf2), (⟨A, 6, none⟩, .slice yl0 yl1 yl2), (⟨B, 0, none⟩, .slice xr0 xr1 xr2), (⟨B, 1, none⟩, .slice xd0 xd1 xd2), (⟨B, 2, none⟩, .slice xo0 xo1 xo2), (⟨B, 3, none⟩, .slice xa0 xa1 xa2), (⟨B, 4, none⟩, .slice xi0 xi1 xi2), (⟨B, 5, none⟩, .slice xf0 xf1 xf2), (⟨B, 6, none⟩, .slice xl0 xl1 xl2)]) (by assumption) _ | exact AtF.al (w := w1) (l := [(⟨W.heap.size, 2, none⟩, .int .i64 z), (⟨W.heap.size, 3, none⟩, .slice a3 n3 m3), (⟨A, 0, none⟩, .slice yr0 yr1 yr2), (⟨A, 1, none⟩, .slice yd0 yd1 yd2), (⟨A, 2, none⟩, .slice yo0 yo1 yo2), (⟨A, 3, none⟩, .slice ya0 ya1 ya2), (⟨A, 4, none⟩, .slice yi0 yi1 yi2), (⟨A, 5, none⟩, .slice yf0 yf1 yf2), (⟨A, 6, none⟩, .slice yl0 yl1 yl2), (⟨B, 0, none⟩, .slice xr0 xr1 xr2), (⟨B, 1, none⟩, .slice xd0 xd1 xd2), (⟨B, 2, none⟩, .slice xo0 xo1 xo2), (⟨B, 3, none⟩, .slice xa0 xa1 xa2), (⟨B, 4, none⟩, .slice xi0 xi1 xi2), (⟨B, 5, none⟩, .slice xf0 xf1 xf2), (⟨B, 6, none⟩, .slice xl0 xl1 xl2)]) hs _ | exact AtF.ald (w := w1) (l := [(⟨W.heap.size, 2, none⟩, .int .i64 z), (⟨W.heap.size, 3, none⟩, .slice a3 n3 m3), (⟨A, 0, none⟩, .slice yr0 yr1 yr2), (⟨A, 1, none⟩, .slice yd0 yd1 yd2), (⟨A, 2, none⟩, .slice yo0 yo1 yo2), (⟨A, 3, none⟩, .slice ya0 ya1 ya2), (⟨A, 4, none⟩, .slice yi0 yi1 yi2), (⟨A, 5, none⟩, .slice yf0 yf1 yf2), (⟨A, 6, none⟩, .slice yl0 yl1 yl2), (⟨B, 0, none⟩, .slice xr0 xr1 xr2), (⟨B, 1, none⟩, .slice xd0 xd1 xd2), (⟨B, 2, none⟩, .slice xo0 xo1 xo2), (⟨B, 3, none⟩, .slice xa0 xa1 xa2), (⟨B, 4, none⟩, .slice xi0 xi1 xi2), (⟨B, 5, none⟩, .slice xf0 xf1 xf2), (⟨B, 6, none⟩, .slice xl0 xl1 xl2)]) hs _)
    refine heldY 0 5 ?_ _ rfl rfl (by kernel_rfl) (by kernel_rfl) (by kernel_rfl) (fun _ _ _ h => h) rfl (by assumption) ?_ ?_
    rotate_left
    · (intro w hSw; (try dsimp only at hSw); go_simp; (try with_reducible rfl))
    try simp only [List.setIfInBounds_toArray, List.set_cons_zero, List.set_cons_succ]
    refine heldY 1 6 ?_ _ rfl rfl (by kernel_rfl) (by kernel_rfl) (by kernel_rfl) (fun _ _ _ h => h) rfl (by assumption) ?_ ?_
    rotate_left
    · (intro w hSw; (try dsimp only at hSw); go_simp; (try with_reducible rfl))
    try simp only [List.setIfInBounds_toArray, List.set_cons_zero, List.set_cons_succ]
    refine wpAnyH_ready (rs := [2]) (by kernel_rfl) (by simp) ?_
    refine AllReadyH.cons rfl (fun K hK => ?_) AllReadyH.nil
    go_simp
    first | (go_at_call 42; refine (CF _).mono ?_; rintro e w3 ⟨rfl, rfl⟩) | (go_at_call 14; (with_reducible refine (RY.out _ (BE _ (by assumption))).mono ?_); rintro e w3 ⟨ta, tc, rfl, hb⟩) | (go_at_call 14; (with_reducible refine (RX.out _ (BE _ (by assumption))).mono ?_); rintro e w3 ⟨tb, td, rfl, hb⟩)
    refine hK.out _ _ ?_ (fun hHeld => ?_)
    · (try dsimp only); (first | assumption | exact hs | exact AtF.dr (w := w1) (l := [(⟨W.heap.size, 2, none⟩, .int .i64 z), (⟨W.heap.size, 3, none⟩, .slice a3 n3 m3), (⟨A, 0, none⟩, .slice yr0 yr1 yr2), (⟨A, 1, none⟩, .slice yd0 yd1 yd2), (⟨A, 2, none⟩, .slice yo0 yo1 yo2), (⟨A, 3, none⟩, .slice ya0 ya1 ya2), (⟨A, 4, none⟩, .slice yi0 yi1 yi2), (⟨A, 5, none⟩, .slice yf0 yf1 yf2), (⟨A, 6, none⟩, .slice yl0 yl1 yl2), (⟨B, 0, none⟩, .slice xr0 xr1 xr2), (⟨B, 1, none⟩, .slice xd0 xd1 xd2), (⟨B, 2, none⟩, .slice xo0 xo1 xo2), (⟨B, 3, none⟩, .slice xa0 xa1 xa2), (⟨B, 4, none⟩, .slice xi0 xi1 xi2), (⟨B, 5, none⟩, .slice xf0 xf1 xf2), (⟨B, 6, none⟩, .slice xl0 xl1 xl2)]) hs | exact AtF.dr (w := w1) (l := [(⟨W.heap.size, 2, none⟩, .int .i64 z), (⟨W.heap.size, 3, none⟩, .slice a3 n3 m3), (⟨A, 0, none⟩, .slice yr0 yr1 yr2), (⟨A, 1, none⟩, .slice yd0 yd1 yd2), (⟨A, 2, none⟩, .slice yo0 yo1 yo2), (⟨A, 3, none⟩, .slice ya0 ya1 ya2), (⟨A, 4, none⟩, .slice yi0 yi1 yi2), (⟨A, 5, none⟩, .slice yf0 yf1 yf2), (⟨A, 6, none⟩, .slice yl0 yl1 yl2), (⟨B, 0, none⟩, .slice xr0 xr1 xr2), (⟨B, 1, none⟩, .slice xd0 xd1 xd2), (⟨B, 2, none⟩, .slice xo0 xo1 xo2), (⟨B, 3, none⟩, .slice xa0 xa1 xa2), (⟨B, 4, none⟩, .slice xi0 xi1 xi2), (⟨B, 5, none⟩, .slice xf0 xf1 xf2), (⟨B, 6, none⟩, .slice xl0 xl1 xl2)]) (by assumption) | exact AtF.on (w := w1) (l := [(⟨W.heap.size, 2, none⟩, .int .i64 z), (⟨W.heap.size, 3, none⟩, .slice a3 n3 m3), (⟨A, 0, none⟩, .slice yr0 yr1 yr2), (⟨A, 1, none⟩, .slice yd0 yd1 yd2), (⟨A, 2, none⟩, .slice yo0 yo1 yo2), (⟨A, 3, none⟩, .slice ya0 ya1 ya2), (⟨A, 4, none⟩, .slice yi0 yi1 yi2), (⟨A, 5, none⟩, .slice yf0 yf1 yf2), (⟨A, 6, none⟩, .slice yl0 yl1 yl2), (⟨B, 0, none⟩, .slice xr0 xr1 xr2), (⟨B, 1, none⟩, .slice xd0 xd1 xd2), (⟨B, 2, none⟩, .slice xo0 xo1 xo2), (⟨B, 3, none⟩, .slice xa0 xa1 xa2), (⟨B, 4, none⟩, .slice xi0 xi1 xi2), (⟨B, 5, none⟩, .slice xf0 xf1 xf2), (⟨B, 6, none⟩, .slice xl0 xl1 xl2)]) (by assumption) (by assumption) | exact AtF.al (w := w1) (l := [(⟨W.heap.size, 2, none⟩, .int .i64 z), (⟨W.heap.size, 3, none⟩, .slice a3 n3 m3), (⟨A, 0, none⟩, .slice yr0 yr1 yr2), (⟨A, 1, none⟩, .slice yd0 yd1 yd2), (⟨A, 2, none⟩, .slice yo0 yo1 yo2), (⟨A, 3, none⟩, .slice ya0 ya1 ya2), (⟨A, 4, none⟩, .slice yi0 yi1 yi2), (⟨A, 5, none⟩, .slice yf0 yf1 yf2), (⟨A, 6, none⟩, .slice yl0 yl1 yl2), (⟨B, 0, none⟩, .slice xr0 xr1 xr2), (⟨B, 1, none⟩, .slice xd0 xd1 xd2), (⟨B, 2, none⟩, .slice xo0 xo1 xo2), (⟨B, 3, none⟩, .slice xa0 xa1 xa2), (⟨B, 4, none⟩, .slice xi0 xi1 xi2), (⟨B, 5, none⟩, .slice xf0 xf1 xf2), (⟨B, 6, none⟩, .slice xl0 xl1 xl2)]) (by assumption) _ | exact AtF.ald (w := w1) (l := [(⟨W.heap.size, 2, none⟩, .int .i64 z), (⟨W.heap.size, 3, none⟩, .slice a3 n3 m3), (⟨A, 0, none⟩, .slice yr0 yr1 yr2), (⟨A, 1, none⟩, .slice yd0 yd1 yd2), (⟨A, 2, none⟩, .slice yo0 yo1 yo2), (⟨A, 3, none⟩, .slice ya0 ya1 ya2), (⟨A, 4, none⟩, .slice yi0 yi1 yi2), (⟨A, 5, none⟩, .slice yf0 yf1 yf2), (⟨A, 6, none⟩, .slice yl0 yl1 yl2), (⟨B, 0, none⟩, .slice xr0 xr1 xr2), (⟨B, 1, none⟩, .slice xd0 xd1 xd2), (⟨B, 2, none⟩, .slice xo0 xo1 xo2), (⟨B, 3, none⟩, .slice xa0 xa1 xa2), (⟨B, 4, none⟩, .slice xi0 xi1 xi2), (⟨B, 5, none⟩, .slice xf0 xf1 xf2), (⟨B, 6, none⟩, .slice xl0 xl1 xl2)]) (by assumption) _ | exact AtF.al (w := w1) (l := [(⟨W.heap.size, 2, none⟩, .int .i64 z), (⟨W.heap.size, 3, none⟩, .slice a3 n3 m3), (⟨A, 0, none⟩, .slice yr0 yr1 yr2), (⟨A, 1, none⟩, .slice yd0 yd1 yd2), (⟨A, 2, none⟩, .slice yo0 yo1 yo2), (⟨A, 3, none⟩, .slice ya0 ya1 ya2), (⟨A, 4, none⟩, .slice yi0 yi1 yi2), (⟨A, 5, none⟩, .slice yf0 yf1 yf2), (⟨A, 6, none⟩, .slice yl0 yl1 yl2), (⟨B, 0, none⟩, .slice xr0 xr1 xr2), (⟨B, 1, none⟩, .slice xd0 xd1 xd2), (⟨B, 2, none⟩, .slice xo0 xo1 xo2), (⟨B, 3, none⟩, .slice xa0 xa1 xa2), (⟨B, 4, none⟩, .slice xi0 xi1 xi2), (⟨B, 5, none⟩, .slice xf0 xf1 xf2), (⟨B, 6, none⟩, .slice xl0 xl1 xl2)]) hs _ | exact AtF.ald (w := w1) (l := [(⟨W.heap.size, 2, none⟩, .int .i64 z), (⟨W.heap.size, 3, none⟩, .slice a3 n3 m3), (⟨A, 0, none⟩, .slice yr0 yr1 yr2), (⟨A, 1, none⟩, .slice yd0 yd1 yd2), (⟨A, 2, none⟩, .slice yo0 yo1 yo2), (⟨A, 3, none⟩, .slice ya0 ya1 ya2), (⟨A, 4, none⟩, .slice yi0 yi1 yi2), (⟨A, 5, none⟩, .slice yf0 yf1 yf2), (⟨A, 6, none⟩, .slice yl0 yl1 yl2), (⟨B, 0, none⟩, .slice xr0 xr1 xr2), (⟨B, 1, none⟩, .slice xd0 xd1 xd2), (⟨B, 2, none⟩, .slice xo0 xo1 xo2), (⟨B, 3, none⟩, .slice xa0 xa1 xa2), (⟨B, 4, none⟩, .slice xi0 xi1 xi2), (⟨B, 5, none⟩, .slice xf0 xf1 xf2), (⟨B, 6, none⟩, .slice xl0 xl1 xl2)]) hs _)
    clear hK K
    try simp only [Act.put, List.setIfInBounds_toArray, List.set_cons_zero, List.set_cons_succ]
    refine heldY 3 8 ?_ _ rfl rfl (by kernel_rfl) (by kernel_rfl) (by kernel_rfl) (fun _ _ _ h => h) rfl (by assumption) ?_ ?_
    rotate_left
    · (intro w hSw; (try dsimp only at hSw); go_simp; (try with_reducible rfl))
    try simp only [List.setIfInBounds_toArray, List.set_cons_zero, List.set_cons_succ]
    refine heldY 4 9 ?_ _ rfl rfl (by kernel_rfl) (by kernel_rfl) (by kernel_rfl) (fun _ _ _ h => h) rfl (by assumption) ?_ ?_
    rotate_left
    · (intro w hSw; (try dsimp only at hSw); go_simp; (try with_reducible rfl))
    try simp only [List.setIfInBounds_toArray, List.set_cons_zero, List.set_cons_succ]
    refine heldY 5 10 ?_ _ rfl rfl (by kernel_rfl) (by kernel_rfl) (by kernel_rfl) (fun _ _ _ h => h) rfl (by assumption) ?_ ?_
    rotate_left
    · (intro w hSw; (try dsimp only at hSw); go_simp; (try with_reducible rfl))
    try simp only [List.setIfInBounds_toArray, List.set_cons_zero, List.set_cons_succ]
    refine heldY 6 11 ?_ _ rfl rfl (by kernel_rfl) (by kernel_rfl) (by kernel_rfl) (fun _ _ _ h => h) rfl (by assumption) ?_ ?_
    rotate_left
    · (intro w hSw; (try dsimp only at hSw); go_simp; (try with_reducible rfl))
    try simp only [List.setIfInBounds_toArray, List.set_cons_zero, List.set_cons_succ]
    refine heldY 9 14 ?_ _ rfl rfl (by kernel_rfl) (by kernel_rfl) (by kernel_rfl) (fun _ _ _ h => h) rfl (by assumption) ?_ ?_
    rotate_left
    · (intro w hSw; (try dsimp only at hSw); go_simp; (try with_reducible rfl))
    try simp only [List.setIfInBounds_toArray, List.set_cons_zero, List.set_cons_succ]
    refine heldY 10 15 ?_ _ rfl rfl (by kernel_rfl) (by kernel_rfl) (by kernel_rfl) (fun _ _ _ h => h) rfl (by assumption) ?_ ?_
    rotate_left
    · (intro w hSw; (try dsimp only at hSw); go_simp; (try with_reducible rfl))
    try simp only [List.setIfInBounds_toArray, List.set_cons_zero, List.set_cons_succ]
    refine heldY 11 16 ?_ _ rfl rfl (by kernel_rfl) (by kernel_rfl) (by kernel_rfl) (fun _ _ _ h => h) rfl (by assumption) ?_ ?_
    rotate_left
    · (intro w hSw; (try dsimp only at hSw); go_simp; (try with_reducible rfl))
    try simp only [List.setIfInBounds_toArray, List.set_cons_zero, List.set_cons_succ]
    refine wpAnyH_ready (rs := [7]) (by kernel_rfl) (by simp) ?_
    refine AllReadyH.cons rfl (fun K hK => ?_) AllReadyH.nil
    go_simp
    first | (go_at_call 42; refine (CF _).mono ?_; rintro e w3 ⟨rfl, rfl⟩) | (go_at_call 14; (with_reducible refine (RY.out _ (BE _ (by assumption))).mono ?_); rintro e w3 ⟨ta, tc, rfl, hb⟩) | (go_at_call 14; (with_reducible refine (RX.out _ (BE _ (by assumption))).mono ?_); rintro e w3 ⟨tb, td, rfl, hb⟩)
    refine hK.out _ _ ?_ (fun hHeld => ?_)
    · (try dsimp only); (first | assumption | exact hs | exact AtF.dr (w := w1) (l := [(⟨W.heap.size, 2, none⟩, .int .i64 z), (⟨W.heap.size, 3, none⟩, .slice a3 n3 m3), (⟨A, 0, none⟩, .slice yr0 yr1 yr2), (⟨A, 1, none⟩, .slice yd0 yd1 yd2), (⟨A, 2, none⟩, .slice yo0 yo1 yo2), (⟨A, 3, none⟩, .slice ya0 ya1 ya2), (⟨A, 4, none⟩, .slice yi0 yi1 yi2), (⟨A, 5, none⟩, .slice yf0 yf1 yf2), (⟨A, 6, none⟩, .slice yl0 yl1 yl2), (⟨B, 0, none⟩, .slice xr0 xr1 xr2), (⟨B, 1, none⟩, .slice xd0 xd1 xd2), (⟨B, 2, none⟩, .slice xo0 xo1 xo2), (⟨B, 3, none⟩, .slice xa0 xa1 xa2), (⟨B, 4, none⟩, .slice xi0 xi1 xi2), (⟨B, 5, none⟩, .slice xf0 xf1 xf2), (⟨B, 6, none⟩, .slice xl0 xl1 xl2)]) hs | exact AtF.dr (w := w1) (l := [(⟨W.heap.size, 2, none⟩, .int .i64 z), (⟨W.heap.size, 3, none⟩, .slice a3 n3 m3), (⟨A, 0, none⟩, .slice yr0 yr1 yr2), (⟨A, 1, none⟩, .slice yd0 yd1 yd2), (⟨A, 2, none⟩, .slice yo0 yo1 yo2), (⟨A, 3, none⟩, .slice ya0 ya1 ya2), (⟨A, 4, none⟩, .slice yi0 yi1 yi2), (⟨A, 5, none⟩, .slice yf0 yf1 yf2), (⟨A, 6, none⟩, .slice yl0 yl1 yl2), (⟨B, 0, none⟩, .slice xr0 xr1 xr2), (⟨B, 1, none⟩, .slice xd0 xd1 xd2), (⟨B, 2, none⟩, .slice xo0 xo1 xo2), (⟨B, 3, none⟩, .slice xa0 xa1 xa2), (⟨B, 4, none⟩, .slice xi0 xi1 xi2), (⟨B, 5, none⟩, .slice xf0 xf1 xf2), (⟨B, 6, none⟩, .slice xl0 xl1 xl2)]) (by assumption) | exact AtF.on (w := w1) (l := [(⟨W.heap.size, 2, none⟩, .int .i64 z), (⟨W.heap.size, 3, none⟩, .slice a3 n3 m3), (⟨A, 0, none⟩, .slice yr0 yr1 yr2), (⟨A, 1, none⟩, .slice yd0 yd1 yd2), (⟨A, 2, none⟩, .slice yo0 yo1 yo2), (⟨A, 3, none⟩, .slice ya0 ya1 ya2), (⟨A, 4, none⟩, .slice yi0 yi1 yi2), (⟨A, 5, none⟩, .slice yf0 yf1 yf2), (⟨A, 6, none⟩, .slice yl0 yl1 yl2), (⟨B, 0, none⟩, .slice xr0 xr1 xr2), (⟨B, 1, none⟩, .slice xd0 xd1 xd2), (⟨B, 2, none⟩, .slice xo0 xo1 xo2), (⟨B, 3, none⟩, .slice xa0 xa1 xa2), (⟨B, 4, none⟩, .slice xi0 xi1 xi2), (⟨B, 5, none⟩, .slice xf0 xf1 xf2), (⟨B, 6, none⟩, .slice xl0 xl1 xl2)]) (by assumption) (by assumption) | exact AtF.al (w := w1) (l := [(⟨W.heap.size, 2, none⟩, .int .i64 z), (⟨W.heap.size, 3, none⟩, .slice a3 n3 m3), (⟨A, 0, none⟩, .slice yr0 yr1 yr2), (⟨A, 1, none⟩, .slice yd0 yd1 yd2), (⟨A, 2, none⟩, .slice yo0 yo1 yo2), (⟨A, 3, none⟩, .slice ya0 ya1 ya2), (⟨A, 4, none⟩, .slice yi0 yi1 yi2), (⟨A, 5, none⟩, .slice yf0 yf1 yf2), (⟨A, 6, none⟩, .slice yl0 yl1 yl2), (⟨B, 0, none⟩, .slice xr0 xr1 xr2), (⟨B, 1, none⟩, .slice xd0 xd1 xd2), (⟨B, 2, none⟩, .slice xo0 xo1 xo2), (⟨B, 3, none⟩, .slice xa0 xa1 xa2), (⟨B, 4, none⟩, .slice xi0 xi1 xi2), (⟨B, 5, none⟩, .slice xf0 xf1 xf2), (⟨B, 6, none⟩, .slice xl0 xl1 xl2)]) (by assumption) _ | exact AtF.ald (w := w1) (l := [(⟨W.heap.size, 2, none⟩, .int .i64 z), (⟨W.heap.size, 3, none⟩, .slice a3 n3 m3), (⟨A, 0, none⟩, .slice yr0 yr1 yr2), (⟨A, 1, none⟩, .slice yd0 yd1 yd2), (⟨A, 2, none⟩, .slice yo0 yo1 yo2), (⟨A, 3, none⟩, .slice ya0 ya1 ya2), (⟨A, 4, none⟩, .slice yi0 yi1 yi2), (⟨A, 5, none⟩, .slice yf0 yf1 yf2), (⟨A, 6, none⟩, .slice yl0 yl1 yl2), (⟨B, 0, none⟩, .slice xr0 xr1 xr2), (⟨B, 1, none⟩, .slice xd0 xd1 xd2), (⟨B, 2, none⟩, .slice xo0 xo1 xo2), (⟨B, 3, none⟩, .slice xa0 xa1 xa2), (⟨B, 4, none⟩, .slice xi0 xi1 xi2), (⟨B, 5, none⟩, .slice xf0 xf1 xf2), (⟨B, 6, none⟩, .slice xl0 xl1 xl2)]) (by assumption) _ | exact AtF.al (w := w1) (l := [(⟨W.heap.size, 2, none⟩, .int .i64 z), (⟨W.heap.size, 3, none⟩, .slice a3 n3 m3), (⟨A, 0, none⟩, .slice yr0 yr1 yr2), (⟨A, 1, none⟩, .slice yd0 yd1 yd2), (⟨A, 2, none⟩, .slice yo0 yo1 yo2), (⟨A, 3, none⟩, .slice ya0 ya1 ya2), (⟨A, 4, none⟩, .slice yi0 yi1 yi2), (⟨A, 5, none⟩, .slice yf0 yf1 yf2), (⟨A, 6, none⟩, .slice yl0 yl1 yl2), (⟨B, 0, none⟩, .slice xr0 xr1 xr2), (⟨B, 1, none⟩, .slice xd0 xd1 xd2), (⟨B, 2, none⟩, .slice xo0 xo1 xo2), (⟨B, 3, none⟩, .slice xa0 xa1 xa2), (⟨B, 4, none⟩, .slice xi0 xi1 xi2), (⟨B, 5, none⟩, .slice xf0 xf1 xf2), (⟨B, 6, none⟩, .slice xl0 xl1 xl2)]) hs _ | exact AtF.ald (w := w1) (l := [(⟨W.heap.size, 2, none⟩, .int .i64 z), (⟨W.heap.size, 3, none⟩, .slice a3 n3 m3), (⟨A, 0, none⟩, .slice yr0 yr1 yr2), (⟨A, 1, none⟩, .slice yd0 yd1 yd2), (⟨A, 2, none⟩, .slice yo0 yo1 yo2), (⟨A, 3, none⟩, .slice ya0 ya1 ya2), (⟨A, 4, none⟩, .slice yi0 yi1 yi2), (⟨A, 5, none⟩, .slice yf0 yf1 yf2), (⟨A, 6, none⟩, .slice yl0 yl1 yl2), (⟨B, 0, none⟩, .slice xr0 xr1 xr2), (⟨B, 1, none⟩, .slice xd0 xd1 xd2), (⟨B, 2, none⟩, .slice xo0 xo1 xo2), (⟨B, 3, none⟩, .slice xa0 xa1 xa2), (⟨B, 4, none⟩, .slice xi0 xi1 xi2), (⟨B, 5, none⟩, .slice xf0 xf1 xf2), (⟨B, 6, none⟩, .slice xl0 xl1 xl2)]) hs _)
    clear hK K
    try simp only [Act.put, List.setIfInBounds_toArray, List.set_cons_zero, List.set_cons_succ]
    refine heldY 8 13 ?_ _ rfl rfl (by kernel_rfl) (by kernel_rfl) (by kernel_rfl) (fun _ _ _ h => h) rfl (by assumption) ?_ ?_
    rotate_left
    · (intro w hSw; (try dsimp only at hSw); go_simp; (try with_reducible rfl))
    try simp only [List.setIfInBounds_toArray, List.set_cons_zero, List.set_cons_succ]
    refine wpAnyH_ready (rs := [12]) (by kernel_rfl) (by simp) ?_
    refine AllReadyH.cons rfl (fun K hK => ?_) AllReadyH.nil
    go_simp
    first | (go_at_call 42; refine (CF _).mono ?_; rintro e w3 ⟨rfl, rfl⟩) | (go_at_call 14; (with_reducible refine (RY.out _ (BE _ (by assumption))).mono ?_); rintro e w3 ⟨ta, tc, rfl, hb⟩) | (go_at_call 14; (with_reducible refine (RX.out _ (BE _ (by assumption))).mono ?_); rintro e w3 ⟨tb, td, rfl, hb⟩)
    refine hK.out _ _ ?_ (fun hHeld => ?_)
    · (try dsimp only); (first | assumption | exact hs | exact AtF.dr (w := w1) (l := [(⟨W.heap.size, 2, none⟩, .int .i64 z), (⟨W.heap.size, 3, none⟩, .slice a3 n3 m3), (⟨A, 0, none⟩, .slice yr0 yr1 yr2), (⟨A, 1, none⟩, .slice yd0 yd1 yd2), (⟨A, 2, none⟩, .slice yo0 yo1 yo2), (⟨A, 3, none⟩, .slice ya0 ya1 ya2), (⟨A, 4, none⟩, .slice yi0 yi1 yi2), (⟨A, 5, none⟩, .slice yf0 yf1 yf2), (⟨A, 6, none⟩, .slice yl0 yl1 yl2), (⟨B, 0, none⟩, .slice xr0 xr1 xr2), (⟨B, 1, none⟩, .slice xd0 xd1 xd2), (⟨B, 2, none⟩, .slice xo0 xo1 xo2), (⟨B, 3, none⟩, .slice xa0 xa1 xa2), (⟨B, 4, none⟩, .slice xi0 xi1 xi2), (⟨B, 5, none⟩, .slice xf0 xf1 xf2), (⟨B, 6, none⟩, .slice xl0 xl1 xl2)]) hs | exact AtF.dr (w := w1) (l := [(⟨W.heap.size, 2, none⟩, .int .i64 z), (⟨W.heap.size, 3, none⟩, .slice a3 n3 m3), (⟨A, 0, none⟩, .slice yr0 yr1 yr2), (⟨A, 1, none⟩, .slice yd0 yd1 yd2), (⟨A, 2, none⟩, .slice yo0 yo1 yo2), (⟨A, 3, none⟩, .slice ya0 ya1 ya2), (⟨A, 4, none⟩, .slice yi0 yi1 yi2), (⟨A, 5, none⟩, .slice yf0 yf1 yf2), (⟨A, 6, none⟩, .slice yl0 yl1 yl2), (⟨B, 0, none⟩, .slice xr0 xr1 xr2), (⟨B, 1, none⟩, .slice xd0 xd1 xd2), (⟨B, 2, none⟩, .slice xo0 xo1 xo2), (⟨B, 3, none⟩, .slice xa0 xa1 xa2), (⟨B, 4, none⟩, .slice xi0 xi1 xi2), (⟨B, 5, none⟩, .slice xf0 xf1 xf2), (⟨B, 6, none⟩, .slice xl0 xl1 xl2)]) (by assumption) | exact AtF.on (w := w1) (l := [(⟨W.heap.size, 2, none⟩, .int .i64 z), (⟨W.heap.size, 3, none⟩, .slice a3 n3 m3), (⟨A, 0, none⟩, .slice yr0 yr1 yr2), (⟨A, 1, none⟩, .slice yd0 yd1 yd2), (⟨A, 2, none⟩, .slice yo0 yo1 yo2), (⟨A, 3, none⟩, .slice ya0 ya1 ya2), (⟨A, 4, none⟩, .slice yi0 yi1 yi2), (⟨A, 5, none⟩, .slice yf0 yf1 yf2), (⟨A, 6, none⟩, .slice yl0 yl1 yl2), (⟨B, 0, none⟩, .slice xr0 xr1 xr2), (⟨B, 1, none⟩, .slice xd0 xd1 xd2), (⟨B, 2, none⟩, .slice xo0 xo1 xo2), (⟨B, 3, none⟩, .slice xa0 xa1 xa2), (⟨B, 4, none⟩, .slice xi0 xi1 xi2), (⟨B, 5, none⟩, .slice xf0 xf1 xf2), (⟨B, 6, none⟩, .slice xl0 xl1 xl2)]) (by assumption) (by assumption) | exact AtF.al (w := w1) (l := [(⟨W.heap.size, 2, none⟩, .int .i64 z), (⟨W.heap.size, 3, none⟩, .slice a3 n3 m3), (⟨A, 0, none⟩, .slice yr0 yr1 yr2), (⟨A, 1, none⟩, .slice yd0 yd1 yd2), (⟨A, 2, none⟩, .slice yo0 yo1 yo2), (⟨A, 3, none⟩, .slice ya0 ya1 ya2), (⟨A, 4, none⟩, .slice yi0 yi1 yi2), (⟨A, 5, none⟩, .slice yf0 yf1 yf2), (⟨A, 6, none⟩, .slice yl0 yl1 yl2), (⟨B, 0, none⟩, .slice xr0 xr1 xr2), (⟨B, 1, none⟩, .slice xd0 xd1 xd2), (⟨B, 2, none⟩, .slice xo0 xo1 xo2), (⟨B, 3, none⟩, .slice xa0 xa1 xa2), (⟨B, 4, none⟩, .slice xi0 xi1 xi2), (⟨B, 5, none⟩, .slice xf0 xf1 xf2), (⟨B, 6, none⟩, .slice xl0 xl1 xl2)]) (by assumption) _ | exact AtF.ald (w := w1) (l := [(⟨W.heap.size, 2, none⟩, .int .i64 z), (⟨W.heap.size, 3, none⟩, .slice a3 n3 m3), (⟨A, 0, none⟩, .slice yr0 yr1 yr2), (⟨A, 1, none⟩, .slice yd0 yd1 yd2), (⟨A, 2, none⟩, .slice yo0 yo1 yo2), (⟨A, 3, none⟩, .slice ya0 ya1 ya2), (⟨A, 4, none⟩, .slice yi0 yi1 yi2), (⟨A, 5, none⟩, .slice yf0 yf1 yf2), (⟨A, 6, none⟩, .slice yl0 yl1 yl2), (⟨B, 0, none⟩, .slice xr0 xr1 xr2), (⟨B, 1, none⟩, .slice xd0 xd1 xd2), (⟨B, 2, none⟩, .slice xo0 xo1 xo2), (⟨B, 3, none⟩, .slice xa0 xa1 xa2), (⟨B, 4, none⟩, .slice xi0 xi1 xi2), (⟨B, 5, none⟩, .slice xf0 xf1 xf2), (⟨B, 6, none⟩, .slice xl0 xl1 xl2)]) (by assumption) _ | exact AtF.al (w := w1) (l := [(⟨W.heap.size, 2, none⟩, .int .i64 z), (⟨W.heap.size, 3, none⟩, .slice a3 n3 m3), (⟨A, 0, none⟩, .slice yr0 yr1 yr2), (⟨A, 1, none⟩, .slice yd0 yd1 yd2), (⟨A, 2, none⟩, .slice yo0 yo1 yo2), (⟨A, 3, none⟩, .slice ya0 ya1 ya2), (⟨A, 4, none⟩, .slice yi0 yi1 yi2), (⟨A, 5, none⟩, .slice yf0 yf1 yf2), (⟨A, 6, none⟩, .slice yl0 yl1 yl2), (⟨B, 0, none⟩, .slice xr0 xr1 xr2), (⟨B, 1, none⟩, .slice xd0 xd1 xd2), (⟨B, 2, none⟩, .slice xo0 xo1 xo2), (⟨B, 3, none⟩, .slice xa0 xa1 xa2), (⟨B, 4, none⟩, .slice xi0 xi1 xi2), (⟨B, 5, none⟩, .slice xf0 xf1 xf2), (⟨B, 6, none⟩, .slice xl0 xl1 xl2)]) hs _ | exact AtF.ald (w := w1) (l := [(⟨W.heap.size, 2, none⟩, .int .i64 z), (⟨W.heap.size, 3, none⟩, .slice a3 n3 m3), (⟨A, 0, none⟩, .slice yr0 yr1 yr2), (⟨A, 1, none⟩, .slice yd0 yd1 yd2), (⟨A, 2, none⟩, .slice yo0 yo1 yo2), (⟨A, 3, none⟩, .slice ya0 ya1 ya2), (⟨A, 4, none⟩, .slice yi0 yi1 yi2), (⟨A, 5, none⟩, .slice yf0 yf1 yf2), (⟨A, 6, none⟩, .slice yl0 yl1 yl2), (⟨B, 0, none⟩, .slice xr0 xr1 xr2), (⟨B, 1, none⟩, .slice xd0 xd1 xd2), (⟨B, 2, none⟩, .slice xo0 xo1 xo2), (⟨B, 3, none⟩, .slice xa0 xa1 xa2), (⟨B, 4, none⟩, .slice xi0 xi1 xi2), (⟨B, 5, none⟩, .slice xf0 xf1 xf2), (⟨B, 6, none⟩, .slice xl0 xl1 xl2)]) hs _)
    clear hK K
    try simp only [Act.put, List.setIfInBounds_toArray, List.set_cons_zero, List.set_cons_succ]
    refine heldY 13 18 ?_ _ rfl rfl (by kernel_rfl) (by kernel_rfl) (by kernel_rfl) (fun _ _ _ h => h) rfl (by assumption) ?_ ?_
    rotate_left
    · (intro w hSw; (try dsimp only at hSw); go_simp; (try with_reducible rfl))
    try simp only [List.setIfInBounds_toArray, List.set_cons_zero, List.set_cons_succ]
    refine heldY 14 19 ?_ _ rfl rfl (by kernel_rfl) (by kernel_rfl) (by kernel_rfl) (fun _ _ _ h => h) rfl (by assumption) ?_ ?_
    rotate_left
    · (intro w hSw; (try dsimp only at hSw); go_simp; (try with_reducible rfl))
    try simp only [List.setIfInBounds_toArray, List.set_cons_zero, List.set_cons_succ]
    refine heldY 15 20 ?_ _ rfl rfl (by kernel_rfl) (by kernel_rfl) (by kernel_rfl) (fun _ _ _ h => h) rfl (by assumption) ?_ ?_
    rotate_left
    · (intro w hSw; (try dsimp only at hSw); go_simp; (try with_reducible rfl))
    try simp only [List.setIfInBounds_toArray, List.set_cons_zero, List.set_cons_succ]
    refine heldY 16 4 ?_ _ rfl rfl (by kernel_rfl) (by kernel_rfl) (by kernel_rfl) (fun _ _ _ h => h) rfl (by assumption) ?_ ?_
    rotate_left
    · (intro w hSw; (try dsimp only at hSw); go_simp; (try with_reducible rfl))
    try simp only [List.setIfInBounds_toArray, List.set_cons_zero, List.set_cons_succ]
    refine wpAnyH_done (by kernel_rfl) ?_ _
    have HW := Lib.hid (BE _ hHeld)
    clear hHeld
    go_wp2
    go_ret
    exact ⟨by simp, HDONE.out _ HW.out⟩
end Go.Proofs.YtkcamfcjkjiijaaGreatDoor
