/-
  The program's Display of an alternative: what it returns; nothing old turns. Condition: LaidZ.
-/
import Derived.Test.YtmfmohbcehkooaaGreatDoorZText
import Derived.Test.YtmfmohbcehkooaaGreatDoorTBld
import Derived.Test.YtmfmohbcehkooaaGreatDoorYSmall
import Derived.StillTailTactics
import Derived.Shelf.Strings.MapGrows
namespace Go.Proofs.YtmfmohbcehkooaaGreatDoor
open Go.RowKit Go.Shelf
def bpZ (x : Av) : Bs := match x.ch[(bestC x.ch).toNat]? with
  | some c => c.1.1
  | none => []
noncomputable def displayZ (x : Av) : Bs := if rightA x = true then dispZ x (bpZ x) else []
theorem AtF.onB {w V V' : World} : ∀ {l : List (Addr × Value)}, (∀ p ∈ l, p.1.block < w.heap.size) → AtF w l V → Below w.heap.size V V' → AtF w l V'
  | [], _, h, hb => Below.trans h hb
  | (a, v) :: _, hl, h, hb => ⟨(hb.cell (p := a) (hl (a, v) List.mem_cons_self)).trans h.1, AtF.onB (fun p hp => hl p (List.mem_cons_of_mem _ hp)) h.2 hb⟩
theorem holdT2 (W : World) (a b : ByteArray) : HoldT (W.alloc (.cells #[.string a, .string b] 9)) (.slice (some ⟨W.heap.size, 0, none⟩) 2 2) [a.data.toList, b.data.toList] := (OwnT.made W [a, b] (by simp [maxLen])).holds
theorem holdT3 (W : World) (a b c : ByteArray) : HoldT (W.alloc (.cells #[.string a, .string b, .string c] 9)) (.slice (some ⟨W.heap.size, 0, none⟩) 3 3) [a.data.toList, b.data.toList, c.data.toList] := (OwnT.made W [a, b, c] (by simp [maxLen])).holds
theorem holdT4 (W : World) (a b c d : ByteArray) : HoldT (W.alloc (.cells #[.string a, .string b, .string c, .string d] 9)) (.slice (some ⟨W.heap.size, 0, none⟩) 4 4) [a.data.toList, b.data.toList, c.data.toList, d.data.toList] := (OwnT.made W [a, b, c, d] (by simp [maxLen])).holds
/-- A line of words that lie in a new slice. -/
abbrev LineOf (n : Nat) (cs : Array Value) (J : ByteArray) : Prop := ∀ W V : World, Below (W.alloc (.cells cs 9)).heap.size (W.alloc (.cells cs 9)) V → Calls Tryz.prog 33 #[.slice (some ⟨W.heap.size, 0, none⟩) n n] V fun e w' => e = .returned (.string J) ∧ Below V.heap.size V w'
theorem line2 {a b : ByteArray} {ws : List Bs} (h : ws = [a.data.toList, b.data.toList]) (hs : ∀ p ∈ ws, p.length ≤ 4000) : LineOf 2 #[.string a, .string b] (bsT (lnZ ws)) := fun W V hb => by
  have := line_any _ _ (by simp) (by simp) (by rw [← h]; exact hs) V (HoldT.on (holdT2 W a b) hb)
  rw [← h] at this; exact this
theorem line3 {a b c : ByteArray} {ws : List Bs} (h : ws = [a.data.toList, b.data.toList, c.data.toList]) (hs : ∀ p ∈ ws, p.length ≤ 4000) : LineOf 3 #[.string a, .string b, .string c] (bsT (lnZ ws)) := fun W V hb => by
  have := line_any _ _ (by simp) (by simp) (by rw [← h]; exact hs) V (HoldT.on (holdT3 W a b c) hb)
  rw [← h] at this; exact this
theorem line4 {a b c d : ByteArray} {ws : List Bs} (h : ws = [a.data.toList, b.data.toList, c.data.toList, d.data.toList]) (hs : ∀ p ∈ ws, p.length ≤ 4000) : LineOf 4 #[.string a, .string b, .string c, .string d] (bsT (lnZ ws)) := fun W V hb => by
  have := line_any _ _ (by simp) (by simp) (by rw [← h]; exact hs) V (HoldT.on (holdT4 W a b c d) hb)
  rw [← h] at this; exact this
abbrev S16 (w2 : World) (b7 : Nat) (a0 a1 a2 : Value) (t : TypeId) (V : World) : Prop := V.cell? ⟨b7, 0, none⟩ = some a0 ∧ V.cell? ⟨b7, 1, none⟩ = some a1 ∧ V.heap[b7]? = some (.cells #[a0, a1, a2] t (0, 0)) ∧ Below w2.heap.size w2 V
theorem S16.on {w2 V V' : World} {b7 : Nat} {a0 a1 a2 : Value} {t : TypeId} (h : S16 w2 b7 a0 a1 a2 t V) (hb : Below V.heap.size V V') : S16 w2 b7 a0 a1 a2 t V' := by
  have l := World.block_lt_of_cell? _ _ h.1
  exact ⟨(hb.cell (p := ⟨b7, 0, none⟩) l).trans h.1, (hb.cell (p := ⟨b7, 1, none⟩) l).trans h.2.1, (hb.block b7 l).trans h.2.2.1, h.2.2.2.trans (hb.mono h.2.2.2.size)⟩
theorem S16.oth {w2 V V' : World} {b7 bb : Nat} {a0 a1 a2 : Value} {t : TypeId} (h : S16 w2 b7 a0 a1 a2 t V) (ho : Oth bb V V') (hb : Below w2.heap.size V V') (hk : b7 ≠ bb) (ht : t ≠ tU) : S16 w2 b7 a0 a1 a2 t V' := by
  have hh := heap_oth h.2.2.1 ho hk ht
  exact ⟨cell_heap hh rfl, cell_heap hh rfl, hh, h.2.2.2.trans hb⟩
theorem S16.new {w2 V : World} {a0 a1 a2 : Value} {t : TypeId} (hb : Below w2.heap.size w2 V) : S16 w2 V.heap.size a0 a1 a2 t (V.alloc (.cells #[a0, a1, a2] t)) := by
  have hh := heap_alloc_new V (.cells #[a0, a1, a2] t)
  exact ⟨cell_heap hh rfl, cell_heap hh rfl, hh, hb.alloc hb.size _⟩
set_option maxRecDepth 100000 in
set_option maxHeartbeats 16000000 in
theorem disp_any (x : Av) (hf : FewOne x) (w : World) (hL : LaidZ w) (h : InA w x) : Calls Tryz.prog 9 #[agZA x] w fun e w' => e = .returned (.string (bsT (displayZ x))) ∧ Below w.heap.size w w' := by
  have B1 := (Below.refl w.heap.size w).alloc (Nat.le_refl _) (.cells #[.string (⟨x.nm.toArray⟩ : ByteArray), .string (⟨x.lk.toArray⟩ : ByteArray), .bool x.mn, .string (⟨x.cr.toArray⟩ : ByteArray), x.sv, x.cv] 25)
  obtain ⟨x0, x1, x2, x3, x4, x5⟩ := boxV6 w (.string (⟨x.nm.toArray⟩ : ByteArray)) (.string (⟨x.lk.toArray⟩ : ByteArray)) (.bool x.mn) (.string (⟨x.cr.toArray⟩ : ByteArray)) x.sv x.cv 25
  have RA := fun W (hb : Below w.heap.size w W) => rightA_any x hf.sm W (hL.p.on hb) (h.on hb)
  by_cases hg : GoodA x
  · have hd := hg.smd hf
    have hn0 := hg.ch.some
    have hn1 := hg.ch.few
    have hn2 := hg.sl.few
    have hbr := bestAt_range x.ch x.ch.length (Nat.le_refl _)
    obtain ⟨m, hm⟩ : ∃ m : Nat, bestC x.ch = m := ⟨(bestC x.ch).toNat, by unfold bestC; omega⟩
    have hml : m < x.ch.length := by unfold bestC at hm; omega
    obtain ⟨d, hdm⟩ : ∃ d, x.ch[m]? = some d := ⟨_, List.getElem?_eq_getElem hml⟩
    have HOUT : Hid (displayZ x = dispZ x d.1.1) := Lib.hid (by
      unfold displayZ bpZ
      rw [if_pos (rightA_yes hg), hm, Int.toNat_natCast, hdm])
    have BST := fun W (hb : Below w.heap.size w W) => bestC_any x.cv x.ch hf.sm.ch W (HoldC.on h.2 hb)
    rw [hm] at BST
    obtain ⟨sa, sc, sb, so, hsv, hsc, hsa, hscell⟩ := HoldS.parts h.1
    obtain ⟨ca, cc, cb, co, hcv, hcc, hca, hccell⟩ := HoldC.parts h.2
    obtain ⟨rfl, hcb⟩ := hca hn0
    have hp0 := (hccell m d hdm).1
    have LI1 := line4 (a := ⟨x.nm.toArray⟩) (b := ⟨#[45]⟩) (c := ⟨(wordY x.mn).toArray⟩) (d := ⟨#[109, 111, 100, 101]⟩) (ws := [x.nm, wDash, wordY x.mn, wMode]) (by simp) (h1Z_len hd).2
    have LI2 := line2 (a := ⟨#[98, 101, 115, 116]⟩) (b := ⟨d.1.1.toArray⟩) (ws := [wBest, d.1.1]) (by simp) (h2Z_len (hd.cs d (List.mem_of_getElem? hdm)).1).2
    have LI3 := line2 (a := ⟨#[99, 117, 114, 114, 101, 110, 116, 108, 121]⟩) (b := ⟨x.cr.toArray⟩) (ws := [wCur, x.cr]) (by simp) (h3Z_len hd).2
    have LI4 := line4 (a := ⟨#[108, 105, 110, 107]⟩) (b := ⟨x.nm.toArray⟩) (c := ⟨#[105, 115]⟩) (d := ⟨x.lk.toArray⟩) (ws := [wLink, x.nm, wIs, x.lk]) (by simp) (h4Z_len hd).2
    have s1 := (h1Z_len hd).1
    have s2 := (h2Z_len (hd.cs d (List.mem_of_getElem? hdm)).1).1
    have s3 := (h3Z_len hd).1
    have s4 := (h4Z_len hd).1
    obtain ⟨J1, hJ1⟩ : ∃ J : ByteArray, bsT (lnZ [x.nm, wDash, wordY x.mn, wMode]) = J := ⟨_, rfl⟩
    obtain ⟨J2, hJ2⟩ : ∃ J : ByteArray, bsT (lnZ [wBest, d.1.1]) = J := ⟨_, rfl⟩
    obtain ⟨J3, hJ3⟩ : ∃ J : ByteArray, bsT (lnZ [wCur, x.cr]) = J := ⟨_, rfl⟩
    obtain ⟨J4, hJ4⟩ : ∃ J : ByteArray, bsT (lnZ [wLink, x.nm, wIs, x.lk]) = J := ⟨_, rfl⟩
    have e1 : J1.data.toList = h1Z x := by rw [← hJ1]; exact bytesOf _
    have e2 : J2.data.toList = h2Z d.1.1 := by rw [← hJ2]; exact bytesOf _
    have e3 : J3.data.toList = h3Z x := by rw [← hJ3]; exact bytesOf _
    have e4 : J4.data.toList = h4Z x := by rw [← hJ4]; exact bytesOf _
    have z1 : J1.size ≤ 16005 := by rw [sizeOf, e1]; exact s1
    have z2 : J2.size ≤ 16005 := by rw [sizeOf, e2]; exact s2
    have z3 : J3.size ≤ 16005 := by rw [sizeOf, e3]; exact s3
    have z4 : J4.size ≤ 16005 := by rw [sizeOf, e4]; exact s4
    have HE := Lib.hid (show [] ++ J1.data.toList ++ J2.data.toList ++ J3.data.toList ++ J4.data.toList = headZ x d.1.1 from by rw [e1, e2, e3, e4]; rfl)
    have hq1 : ([] ++ J1.data.toList).length ≤ 16005 := by rw [e1]; exact s1
    have hq2 : ([] ++ J1.data.toList ++ J2.data.toList).length ≤ 32010 := by rw [List.length_append, e2]; omega
    have hq3 : ([] ++ J1.data.toList ++ J2.data.toList ++ J3.data.toList).length ≤ 48015 := by rw [List.length_append, e3]; omega
    have hq4 : ([] ++ J1.data.toList ++ J2.data.toList ++ J3.data.toList ++ J4.data.toList).length ≤ 64020 := by rw [List.length_append, e4]; omega
    rw [hJ1] at LI1
    rw [hJ2] at LI2
    rw [hJ3] at LI3
    rw [hJ4] at LI4
    have MO := fun W => mode_any x.mn W
    obtain ⟨N0, hN0⟩ : ∃ q : ByteArray, (⟨x.nm.toArray⟩ : ByteArray) = q := ⟨_, rfl⟩
    obtain ⟨L0, hL0⟩ : ∃ q : ByteArray, (⟨x.lk.toArray⟩ : ByteArray) = q := ⟨_, rfl⟩
    obtain ⟨R0, hR0⟩ : ∃ q : ByteArray, (⟨x.cr.toArray⟩ : ByteArray) = q := ⟨_, rfl⟩
    obtain ⟨M0, hM0⟩ : ∃ q : ByteArray, (⟨(wordY x.mn).toArray⟩ : ByteArray) = q := ⟨_, rfl⟩
    obtain ⟨P0, hP0⟩ : ∃ q : ByteArray, (⟨d.1.1.toArray⟩ : ByteArray) = q := ⟨_, rfl⟩
    obtain ⟨mn, hmn⟩ : ∃ q, x.mn = q := ⟨_, rfl⟩
    have RA1 := fun W hb => RA W hb
    rw [rightA_yes hg] at RA1
    unfold agZA at RA1 ⊢
    rw [hsv, hcv, hN0, hL0, hR0, hmn] at RA1 B1 x0 x1 x2 x3 x4 x5
    rw [hsv, hcv, hN0, hL0, hR0, hmn]
    rw [hcv] at BST
    rw [hP0] at hp0 LI2
    rw [hN0, hM0] at LI1
    rw [hR0] at LI3
    rw [hN0, hL0] at LI4
    rw [show (bsT (wordY x.mn) : ByteArray) = M0 from hM0, hmn] at MO
    obtain ⟨sn, hsn⟩ : ∃ n, x.sl.length = n := ⟨_, rfl⟩
    obtain ⟨cn, hcn⟩ : ∃ n, x.ch.length = n := ⟨_, rfl⟩
    rw [hsn, hcn] at RA1 B1 x0 x1 x2 x3 x4 x5
    rw [hsn, hcn]
    rw [hcn] at BST hn0 hn1 hml hcc
    rw [hsn] at hn2 hsc hsa
    rw [HOUT.out]
    have HSN := Lib.hid hsn
    have HCN := Lib.hid hcn
    have HD0 := Lib.hid hd
    have HSC := Lib.hid hscell
    have HCC := Lib.hid hccell
    have HIN := Lib.hid h
    have HLZ := Lib.hid hL
    have HB1 := Lib.hid B1
    have l0 := World.block_lt_of_cell? _ _ x0
    clear hN0 hL0 hR0 hM0 hP0 hmn hJ1 hJ2 hJ3 hJ4 hsv hcv hsn hcn hscell hccell hca h hd hg hf hbr hm hdm hL RA s1 s2 s3 s4 HOUT e1 e2 e3 e4 B1
    go_enter Tryz.func9, Tryz.ntmps9
    go_wp2_with (go_at_call 31; (with_reducible refine (RA1 _ HB1.out).mono ?_); rintro e w2 ⟨rfl, hb⟩; have HB2 := Lib.hid (HB1.out.trans (hb.mono HB1.out.size)); have hl2 := Nat.lt_of_lt_of_le l0 hb.size; have y0 := (hb.cell (p := ⟨w.heap.size, 0, none⟩) l0).trans x0; have y1 := (hb.cell (p := ⟨w.heap.size, 1, none⟩) l0).trans x1; have y2 := (hb.cell (p := ⟨w.heap.size, 2, none⟩) l0).trans x2; have y3 := (hb.cell (p := ⟨w.heap.size, 3, none⟩) l0).trans x3; have y4 := (hb.cell (p := ⟨w.heap.size, 4, none⟩) l0).trans x4; have y5 := (hb.cell (p := ⟨w.heap.size, 5, none⟩) l0).trans x5; clear hb x0 x1 x2 x3 x4 x5)
    have hcb2 : cb < w2.heap.size := Nat.lt_of_lt_of_le hcb HB2.out.size
    have hp2 := (HB2.out.cell (p := ⟨cb, co + m * 3, none⟩) hcb).trans hp0
    have HY : Hid (∀ W, Below w2.heap.size w2 W → W.cell? ⟨w.heap.size, 0, none⟩ = some (.string N0) ∧ W.cell? ⟨w.heap.size, 1, none⟩ = some (.string L0) ∧ W.cell? ⟨w.heap.size, 2, none⟩ = some (.bool mn) ∧ W.cell? ⟨w.heap.size, 3, none⟩ = some (.string R0) ∧ W.cell? ⟨w.heap.size, 4, none⟩ = some (.slice sa sn sc) ∧ W.cell? ⟨w.heap.size, 5, none⟩ = some (.slice (some ⟨cb, co, none⟩) cn cc) ∧ W.cell? ⟨cb, co + m * 3, none⟩ = some (.string P0)) := Lib.hid (fun W hb => ⟨(hb.cell (p := ⟨w.heap.size, 0, none⟩) hl2).trans y0, (hb.cell (p := ⟨w.heap.size, 1, none⟩) hl2).trans y1, (hb.cell (p := ⟨w.heap.size, 2, none⟩) hl2).trans y2, (hb.cell (p := ⟨w.heap.size, 3, none⟩) hl2).trans y3, (hb.cell (p := ⟨w.heap.size, 4, none⟩) hl2).trans y4, (hb.cell (p := ⟨w.heap.size, 5, none⟩) hl2).trans y5, (hb.cell (p := ⟨cb, co + m * 3, none⟩) hcb2).trans hp2⟩)
    clear y0 y1 y2 y3 y4 y5 hp0 hp2 l0 HB1 RA1
    have HB3 := (Below.refl w2.heap.size w2).alloc (Nat.le_refl _) (.cells #[.pointer none, .slice none 0 0] tB)
    have HD := Lib.hid (bld_new w2.heap.size w2 (Nat.le_refl _))
    have hbw3 : w2.heap.size < (w2.alloc (.cells #[.pointer none, .slice none 0 0] tB)).heap.size := by rw [World.size_alloc]; omega
    have HBW3 := Lib.hid hbw3
    clear hbw3
    generalize w2.alloc (.cells #[.pointer none, .slice none 0 0] tB) = W3 at *
    obtain ⟨y0, y1, y2, y3, y4, y5, y6⟩ := HY.out _ HB3
    have hs := And.intro y0 (And.intro y2 HB3)
    have b1 : ([] : Bs).length ≤ 100000000000 := by simp
    clear y0 y1 y2 y3 y4 y5 y6
    have BE := fun (V : World) (h : V.cell? ⟨w.heap.size, 0, none⟩ = some (.string N0) ∧ V.cell? ⟨w.heap.size, 2, none⟩ = some (.bool mn) ∧ Below w2.heap.size w2 V) => AtF.be (w := w2) (l := [(⟨w.heap.size, 0, none⟩, .string N0), (⟨w.heap.size, 2, none⟩, .bool mn)]) h
    refine wp_region_held_drew (S := (fun V => V.cell? ⟨w.heap.size, 0, none⟩ = some (.string N0) ∧ V.cell? ⟨w.heap.size, 2, none⟩ = some (.bool mn) ∧ Below w2.heap.size w2 V)) (by kernel_rfl) ?_ (fun hHeld => ?_)
    · (try dsimp only); (first | assumption | exact hs | exact AtF.dr (w := w2) (l := [(⟨w.heap.size, 0, none⟩, .string N0), (⟨w.heap.size, 2, none⟩, .bool mn)]) hs | exact AtF.dr (w := w2) (l := [(⟨w.heap.size, 0, none⟩, .string N0), (⟨w.heap.size, 2, none⟩, .bool mn)]) (by assumption) | exact AtF.on (w := w2) (l := [(⟨w.heap.size, 0, none⟩, .string N0), (⟨w.heap.size, 2, none⟩, .bool mn)]) (by assumption) (by assumption) | exact AtF.al (w := w2) (l := [(⟨w.heap.size, 0, none⟩, .string N0), (⟨w.heap.size, 2, none⟩, .bool mn)]) (by assumption) _ | exact AtF.ald (w := w2) (l := [(⟨w.heap.size, 0, none⟩, .string N0), (⟨w.heap.size, 2, none⟩, .bool mn)]) (by assumption) _ | exact AtF.al (w := w2) (l := [(⟨w.heap.size, 0, none⟩, .string N0), (⟨w.heap.size, 2, none⟩, .bool mn)]) hs _ | exact AtF.ald (w := w2) (l := [(⟨w.heap.size, 0, none⟩, .string N0), (⟨w.heap.size, 2, none⟩, .bool mn)]) hs _)
    refine heldY 0 13 ?_ _ rfl rfl (by kernel_rfl) (by kernel_rfl) (by kernel_rfl) (fun _ _ _ h => h) rfl (by assumption) ?_ ?_
    rotate_left
    · (intro w hSw; (try dsimp only at hSw); go_simp; (try with_reducible rfl))
    simp only [List.setIfInBounds_toArray, List.set_cons_zero, List.set_cons_succ]
    refine heldY 1 14 ?_ _ rfl rfl (by kernel_rfl) (by kernel_rfl) (by kernel_rfl) (fun _ _ _ h => h) rfl (by assumption) ?_ ?_
    rotate_left
    · (intro w hSw; (try dsimp only at hSw); go_simp; (try with_reducible rfl))
    simp only [List.setIfInBounds_toArray, List.set_cons_zero, List.set_cons_succ]
    refine heldY 2 15 ?_ _ rfl rfl (by kernel_rfl) (by kernel_rfl) (by kernel_rfl) (fun _ _ _ h => h) rfl (by assumption) ?_ ?_
    rotate_left
    · (intro w hSw; (try dsimp only at hSw); go_simp; (try with_reducible rfl))
    simp only [List.setIfInBounds_toArray, List.set_cons_zero, List.set_cons_succ]
    refine heldY 3 16 ?_ _ rfl rfl (by kernel_rfl) (by kernel_rfl) (by kernel_rfl) (fun _ _ _ h => h) rfl (by assumption) ?_ ?_
    rotate_left
    · (intro w hSw; (try dsimp only at hSw); go_simp; (try with_reducible rfl))
    simp only [List.setIfInBounds_toArray, List.set_cons_zero, List.set_cons_succ]
    refine wpAnyH_ready (rs := [4]) (by kernel_rfl) (by simp) ?_
    refine AllReadyH.cons rfl (fun K hK => ?_) AllReadyH.nil
    go_simp
    first | (go_at_call 34; (with_reducible refine (MO _).mono ?_); rintro e w4 ⟨rfl, rfl⟩) | (go_at_call 33; (with_reducible refine (LI1 _ _ (by first | exact Below.refl _ _ | exact (Below.refl _ _).drew)).mono ?_); rintro e w5 ⟨rfl, hb⟩; have HX5 : Hid (Below W3.heap.size W3 w5) := Lib.hid ((((Below.refl W3.heap.size W3).alloc (Nat.le_refl _) _).drew).trans (hb.mono (by simp)))) | (go_at_call 32; (with_reducible refine (wstr_any w2.heap.size w2.heap.size [] J1 w5 (Lib.IsBuilderF.below HD.out HX5.out) b1 (by omega) (BE _ (by assumption)).size).mono ?_); rintro e w6 ⟨v6, rfl, hd6, hb6, ho6⟩; have HD6 := Lib.hid hd6; have HBW6 := Lib.hid (Nat.lt_of_lt_of_le HBW3.out (Nat.le_trans HX5.out.size hb6.size)); have hs := AtF.onB (w := w2) (l := [(⟨w.heap.size, 0, none⟩, .string N0), (⟨w.heap.size, 2, none⟩, .bool mn)]) (by simp; omega) (by assumption) hb6)
    refine hK.out _ _ ?_ (fun hHeld => ?_)
    · (try dsimp only); (first | assumption | exact hs | exact AtF.dr (w := w2) (l := [(⟨w.heap.size, 0, none⟩, .string N0), (⟨w.heap.size, 2, none⟩, .bool mn)]) hs | exact AtF.dr (w := w2) (l := [(⟨w.heap.size, 0, none⟩, .string N0), (⟨w.heap.size, 2, none⟩, .bool mn)]) (by assumption) | exact AtF.on (w := w2) (l := [(⟨w.heap.size, 0, none⟩, .string N0), (⟨w.heap.size, 2, none⟩, .bool mn)]) (by assumption) (by assumption) | exact AtF.al (w := w2) (l := [(⟨w.heap.size, 0, none⟩, .string N0), (⟨w.heap.size, 2, none⟩, .bool mn)]) (by assumption) _ | exact AtF.ald (w := w2) (l := [(⟨w.heap.size, 0, none⟩, .string N0), (⟨w.heap.size, 2, none⟩, .bool mn)]) (by assumption) _ | exact AtF.al (w := w2) (l := [(⟨w.heap.size, 0, none⟩, .string N0), (⟨w.heap.size, 2, none⟩, .bool mn)]) hs _ | exact AtF.ald (w := w2) (l := [(⟨w.heap.size, 0, none⟩, .string N0), (⟨w.heap.size, 2, none⟩, .bool mn)]) hs _)
    clear hK K
    try simp only [Act.put, List.setIfInBounds_toArray, List.set_cons_zero, List.set_cons_succ]
    refine wpAnyH_ready (rs := [5]) (by kernel_rfl) (by simp) ?_
    refine AllReadyH.cons rfl (fun K hK => ?_) AllReadyH.nil
    go_simp
    refine hK.out _ _ ?_ (fun hHeld => ?_)
    · (try dsimp only); (first | assumption | exact hs | exact AtF.dr (w := w2) (l := [(⟨w.heap.size, 0, none⟩, .string N0), (⟨w.heap.size, 2, none⟩, .bool mn)]) hs | exact AtF.dr (w := w2) (l := [(⟨w.heap.size, 0, none⟩, .string N0), (⟨w.heap.size, 2, none⟩, .bool mn)]) (by assumption) | exact AtF.on (w := w2) (l := [(⟨w.heap.size, 0, none⟩, .string N0), (⟨w.heap.size, 2, none⟩, .bool mn)]) (by assumption) (by assumption) | exact AtF.al (w := w2) (l := [(⟨w.heap.size, 0, none⟩, .string N0), (⟨w.heap.size, 2, none⟩, .bool mn)]) (by assumption) _ | exact AtF.ald (w := w2) (l := [(⟨w.heap.size, 0, none⟩, .string N0), (⟨w.heap.size, 2, none⟩, .bool mn)]) (by assumption) _ | exact AtF.al (w := w2) (l := [(⟨w.heap.size, 0, none⟩, .string N0), (⟨w.heap.size, 2, none⟩, .bool mn)]) hs _ | exact AtF.ald (w := w2) (l := [(⟨w.heap.size, 0, none⟩, .string N0), (⟨w.heap.size, 2, none⟩, .bool mn)]) hs _)
    clear hK K
    try simp only [Act.put, List.setIfInBounds_toArray, List.set_cons_zero, List.set_cons_succ]
    refine wpAnyH_ready (rs := [6]) (by kernel_rfl) (by simp) ?_
    refine AllReadyH.cons rfl (fun K hK => ?_) AllReadyH.nil
    go_simp
    first | (go_at_call 34; (with_reducible refine (MO _).mono ?_); rintro e w4 ⟨rfl, rfl⟩) | (go_at_call 33; (with_reducible refine (LI1 _ _ (by first | exact Below.refl _ _ | exact (Below.refl _ _).drew)).mono ?_); rintro e w5 ⟨rfl, hb⟩; have HX5 : Hid (Below W3.heap.size W3 w5) := Lib.hid ((((Below.refl W3.heap.size W3).alloc (Nat.le_refl _) _).drew).trans (hb.mono (by simp)))) | (go_at_call 32; (with_reducible refine (wstr_any w2.heap.size w2.heap.size [] J1 w5 (Lib.IsBuilderF.below HD.out HX5.out) b1 (by omega) (BE _ (by assumption)).size).mono ?_); rintro e w6 ⟨v6, rfl, hd6, hb6, ho6⟩; have HD6 := Lib.hid hd6; have HBW6 := Lib.hid (Nat.lt_of_lt_of_le HBW3.out (Nat.le_trans HX5.out.size hb6.size)); have hs := AtF.onB (w := w2) (l := [(⟨w.heap.size, 0, none⟩, .string N0), (⟨w.heap.size, 2, none⟩, .bool mn)]) (by simp; omega) (by assumption) hb6)
    refine hK.out _ _ ?_ (fun hHeld => ?_)
    · (try dsimp only); (first | assumption | exact hs | exact AtF.dr (w := w2) (l := [(⟨w.heap.size, 0, none⟩, .string N0), (⟨w.heap.size, 2, none⟩, .bool mn)]) hs | exact AtF.dr (w := w2) (l := [(⟨w.heap.size, 0, none⟩, .string N0), (⟨w.heap.size, 2, none⟩, .bool mn)]) (by assumption) | exact AtF.on (w := w2) (l := [(⟨w.heap.size, 0, none⟩, .string N0), (⟨w.heap.size, 2, none⟩, .bool mn)]) (by assumption) (by assumption) | exact AtF.al (w := w2) (l := [(⟨w.heap.size, 0, none⟩, .string N0), (⟨w.heap.size, 2, none⟩, .bool mn)]) (by assumption) _ | exact AtF.ald (w := w2) (l := [(⟨w.heap.size, 0, none⟩, .string N0), (⟨w.heap.size, 2, none⟩, .bool mn)]) (by assumption) _ | exact AtF.al (w := w2) (l := [(⟨w.heap.size, 0, none⟩, .string N0), (⟨w.heap.size, 2, none⟩, .bool mn)]) hs _ | exact AtF.ald (w := w2) (l := [(⟨w.heap.size, 0, none⟩, .string N0), (⟨w.heap.size, 2, none⟩, .bool mn)]) hs _)
    clear hK K
    try simp only [Act.put, List.setIfInBounds_toArray, List.set_cons_zero, List.set_cons_succ]
    refine wpAnyH_ready (rs := [7]) (by kernel_rfl) (by simp) ?_
    refine AllReadyH.cons rfl (fun K hK => ?_) AllReadyH.nil
    go_simp
    first | (go_at_call 34; (with_reducible refine (MO _).mono ?_); rintro e w4 ⟨rfl, rfl⟩) | (go_at_call 33; (with_reducible refine (LI1 _ _ (by first | exact Below.refl _ _ | exact (Below.refl _ _).drew)).mono ?_); rintro e w5 ⟨rfl, hb⟩; have HX5 : Hid (Below W3.heap.size W3 w5) := Lib.hid ((((Below.refl W3.heap.size W3).alloc (Nat.le_refl _) _).drew).trans (hb.mono (by simp)))) | (go_at_call 32; (with_reducible refine (wstr_any w2.heap.size w2.heap.size [] J1 w5 (Lib.IsBuilderF.below HD.out HX5.out) b1 (by omega) (BE _ (by assumption)).size).mono ?_); rintro e w6 ⟨v6, rfl, hd6, hb6, ho6⟩; have HD6 := Lib.hid hd6; have HBW6 := Lib.hid (Nat.lt_of_lt_of_le HBW3.out (Nat.le_trans HX5.out.size hb6.size)); have hs := AtF.onB (w := w2) (l := [(⟨w.heap.size, 0, none⟩, .string N0), (⟨w.heap.size, 2, none⟩, .bool mn)]) (by simp; omega) (by assumption) hb6)
    refine hK.out _ _ ?_ (fun hHeld => ?_)
    · (try dsimp only); (first | assumption | exact hs | exact AtF.dr (w := w2) (l := [(⟨w.heap.size, 0, none⟩, .string N0), (⟨w.heap.size, 2, none⟩, .bool mn)]) hs | exact AtF.dr (w := w2) (l := [(⟨w.heap.size, 0, none⟩, .string N0), (⟨w.heap.size, 2, none⟩, .bool mn)]) (by assumption) | exact AtF.on (w := w2) (l := [(⟨w.heap.size, 0, none⟩, .string N0), (⟨w.heap.size, 2, none⟩, .bool mn)]) (by assumption) (by assumption) | exact AtF.al (w := w2) (l := [(⟨w.heap.size, 0, none⟩, .string N0), (⟨w.heap.size, 2, none⟩, .bool mn)]) (by assumption) _ | exact AtF.ald (w := w2) (l := [(⟨w.heap.size, 0, none⟩, .string N0), (⟨w.heap.size, 2, none⟩, .bool mn)]) (by assumption) _ | exact AtF.al (w := w2) (l := [(⟨w.heap.size, 0, none⟩, .string N0), (⟨w.heap.size, 2, none⟩, .bool mn)]) hs _ | exact AtF.ald (w := w2) (l := [(⟨w.heap.size, 0, none⟩, .string N0), (⟨w.heap.size, 2, none⟩, .bool mn)]) hs _)
    clear hK K
    try simp only [Act.put, List.setIfInBounds_toArray, List.set_cons_zero, List.set_cons_succ]
    refine wpAnyH_done (by kernel_rfl) ?_ _
    have HB6 := Lib.hid (BE _ hHeld)
    clear hHeld HD HB3 hs BE
    obtain ⟨y0, y1, y2, y3, y4, y5, y6⟩ := HY.out _ HB6.out
    have hs := And.intro y5 (And.intro y6 HB6.out)
    clear y0 y1 y2 y3 y4 y5 y6 MO LI1
    have j0 : (0 : Int) ≤ (m : Int) := by omega
    have j1 : (m : Int) < (cn : Int) := by omega
    have hq1' : ([] ++ J1.data.toList).length ≤ 100000000000 := by omega
    go_wp2
    have BE := fun (V : World) (h : V.cell? ⟨w.heap.size, 5, none⟩ = some (.slice (some ⟨cb, co, none⟩) cn cc) ∧ V.cell? ⟨cb, co + m * 3, none⟩ = some (.string P0) ∧ Below w2.heap.size w2 V) => AtF.be (w := w2) (l := [(⟨w.heap.size, 5, none⟩, .slice (some ⟨cb, co, none⟩) cn cc), (⟨cb, co + m * 3, none⟩, .string P0)]) h
    refine wp_region_held_drew (S := (fun V => V.cell? ⟨w.heap.size, 5, none⟩ = some (.slice (some ⟨cb, co, none⟩) cn cc) ∧ V.cell? ⟨cb, co + m * 3, none⟩ = some (.string P0) ∧ Below w2.heap.size w2 V)) (by kernel_rfl) ?_ (fun hHeld => ?_)
    · (try dsimp only); (first | assumption | exact hs | exact AtF.dr (w := w2) (l := [(⟨w.heap.size, 5, none⟩, .slice (some ⟨cb, co, none⟩) cn cc), (⟨cb, co + m * 3, none⟩, .string P0)]) hs | exact AtF.dr (w := w2) (l := [(⟨w.heap.size, 5, none⟩, .slice (some ⟨cb, co, none⟩) cn cc), (⟨cb, co + m * 3, none⟩, .string P0)]) (by assumption) | exact AtF.on (w := w2) (l := [(⟨w.heap.size, 5, none⟩, .slice (some ⟨cb, co, none⟩) cn cc), (⟨cb, co + m * 3, none⟩, .string P0)]) (by assumption) (by assumption) | exact AtF.al (w := w2) (l := [(⟨w.heap.size, 5, none⟩, .slice (some ⟨cb, co, none⟩) cn cc), (⟨cb, co + m * 3, none⟩, .string P0)]) (by assumption) _ | exact AtF.ald (w := w2) (l := [(⟨w.heap.size, 5, none⟩, .slice (some ⟨cb, co, none⟩) cn cc), (⟨cb, co + m * 3, none⟩, .string P0)]) (by assumption) _ | exact AtF.al (w := w2) (l := [(⟨w.heap.size, 5, none⟩, .slice (some ⟨cb, co, none⟩) cn cc), (⟨cb, co + m * 3, none⟩, .string P0)]) hs _ | exact AtF.ald (w := w2) (l := [(⟨w.heap.size, 5, none⟩, .slice (some ⟨cb, co, none⟩) cn cc), (⟨cb, co + m * 3, none⟩, .string P0)]) hs _)
    refine heldY 0 21 ?_ _ rfl rfl (by kernel_rfl) (by kernel_rfl) (by kernel_rfl) (fun _ _ _ h => h) rfl (by assumption) ?_ ?_
    rotate_left
    · (intro w hSw; (try dsimp only at hSw); go_simp; (try with_reducible rfl))
    simp only [List.setIfInBounds_toArray, List.set_cons_zero, List.set_cons_succ]
    refine heldY 1 22 ?_ _ rfl rfl (by kernel_rfl) (by kernel_rfl) (by kernel_rfl) (fun _ _ _ h => h) rfl (by assumption) ?_ ?_
    rotate_left
    · (intro w hSw; (try dsimp only at hSw); go_simp; (try with_reducible rfl))
    simp only [List.setIfInBounds_toArray, List.set_cons_zero, List.set_cons_succ]
    refine heldY 2 23 ?_ _ rfl rfl (by kernel_rfl) (by kernel_rfl) (by kernel_rfl) (fun _ _ _ h => h) rfl (by assumption) ?_ ?_
    rotate_left
    · (intro w hSw; (try dsimp only at hSw); go_simp; (try with_reducible rfl))
    simp only [List.setIfInBounds_toArray, List.set_cons_zero, List.set_cons_succ]
    refine heldY 3 24 ?_ _ rfl rfl (by kernel_rfl) (by kernel_rfl) (by kernel_rfl) (fun _ _ _ h => h) rfl (by assumption) ?_ ?_
    rotate_left
    · (intro w hSw; (try dsimp only at hSw); go_simp; (try with_reducible rfl))
    simp only [List.setIfInBounds_toArray, List.set_cons_zero, List.set_cons_succ]
    refine wpAnyH_ready (rs := [4]) (by kernel_rfl) (by simp) ?_
    refine AllReadyH.cons rfl (fun K hK => ?_) AllReadyH.nil
    go_simp
    first | (go_at_call 12; (with_reducible refine (BST _ (HB2.out.trans ((BE _ (by assumption)).mono HB2.out.size))).mono ?_); rintro e w7 ⟨rfl, hb⟩; have HX7 : Hid (Below w6.heap.size w6 w7) := Lib.hid ((Below.refl w6.heap.size w6).drew.trans hb)) | (go_at_call 33; (with_reducible refine (LI2 _ _ (by first | exact Below.refl _ _ | exact (Below.refl _ _).drew)).mono ?_); rintro e w8 ⟨rfl, hb⟩; have HX8 : Hid (Below w6.heap.size w6 w8) := Lib.hid (HX7.out.trans ((((Below.refl w7.heap.size w7).alloc (Nat.le_refl _) _).trans (hb.mono (by simp))).mono HX7.out.size))) | (go_at_call 32; (with_reducible refine (wstr_any w2.heap.size w2.heap.size _ J2 w8 (Lib.IsBuilderF.below HD6.out HX8.out) hq1' (by omega) (BE _ (by assumption)).size).mono ?_); rintro e w9 ⟨v9, rfl, hd9, hb9, ho9⟩; have HD9 := Lib.hid hd9; have HBW9 := Lib.hid (Nat.lt_of_lt_of_le HBW6.out (Nat.le_trans HX8.out.size hb9.size)); have hs := AtF.onB (w := w2) (l := [(⟨w.heap.size, 5, none⟩, .slice (some ⟨cb, co, none⟩) cn cc), (⟨cb, co + m * 3, none⟩, .string P0)]) (by simp; omega) (by assumption) hb9)
    refine hK.out _ _ ?_ (fun hHeld => ?_)
    · (try dsimp only); (first | assumption | exact hs | exact AtF.dr (w := w2) (l := [(⟨w.heap.size, 5, none⟩, .slice (some ⟨cb, co, none⟩) cn cc), (⟨cb, co + m * 3, none⟩, .string P0)]) hs | exact AtF.dr (w := w2) (l := [(⟨w.heap.size, 5, none⟩, .slice (some ⟨cb, co, none⟩) cn cc), (⟨cb, co + m * 3, none⟩, .string P0)]) (by assumption) | exact AtF.on (w := w2) (l := [(⟨w.heap.size, 5, none⟩, .slice (some ⟨cb, co, none⟩) cn cc), (⟨cb, co + m * 3, none⟩, .string P0)]) (by assumption) (by assumption) | exact AtF.al (w := w2) (l := [(⟨w.heap.size, 5, none⟩, .slice (some ⟨cb, co, none⟩) cn cc), (⟨cb, co + m * 3, none⟩, .string P0)]) (by assumption) _ | exact AtF.ald (w := w2) (l := [(⟨w.heap.size, 5, none⟩, .slice (some ⟨cb, co, none⟩) cn cc), (⟨cb, co + m * 3, none⟩, .string P0)]) (by assumption) _ | exact AtF.al (w := w2) (l := [(⟨w.heap.size, 5, none⟩, .slice (some ⟨cb, co, none⟩) cn cc), (⟨cb, co + m * 3, none⟩, .string P0)]) hs _ | exact AtF.ald (w := w2) (l := [(⟨w.heap.size, 5, none⟩, .slice (some ⟨cb, co, none⟩) cn cc), (⟨cb, co + m * 3, none⟩, .string P0)]) hs _)
    clear hK K
    try simp only [Act.put, List.setIfInBounds_toArray, List.set_cons_zero, List.set_cons_succ]
    refine heldY 5 26 ?_ _ rfl rfl (by kernel_rfl) (by kernel_rfl) (by kernel_rfl) (fun _ _ _ h => h) rfl (by assumption) ?_ ?_
    rotate_left
    · (intro w hSw; (try dsimp only at hSw); go_simp; (try with_reducible rfl))
    simp only [List.setIfInBounds_toArray, List.set_cons_zero, List.set_cons_succ]
    refine heldY 6 27 ?_ _ rfl rfl (by kernel_rfl) (by kernel_rfl) (by kernel_rfl) (fun _ _ _ h => h) rfl (by assumption) ?_ ?_
    rotate_left
    · (intro w hSw; (try dsimp only at hSw); go_simp; (try with_reducible rfl))
    simp only [List.setIfInBounds_toArray, List.set_cons_zero, List.set_cons_succ]
    refine heldY 7 28 ?_ _ rfl rfl (by kernel_rfl) (by kernel_rfl) (by kernel_rfl) (fun _ _ _ h => h) rfl (by assumption) ?_ ?_
    rotate_left
    · (intro w hSw; (try dsimp only at hSw); go_simp; (try with_reducible rfl))
    simp only [List.setIfInBounds_toArray, List.set_cons_zero, List.set_cons_succ]
    refine wpAnyH_ready (rs := [8]) (by kernel_rfl) (by simp) ?_
    refine AllReadyH.cons rfl (fun K hK => ?_) AllReadyH.nil
    go_simp
    refine hK.out _ _ ?_ (fun hHeld => ?_)
    · (try dsimp only); (first | assumption | exact hs | exact AtF.dr (w := w2) (l := [(⟨w.heap.size, 5, none⟩, .slice (some ⟨cb, co, none⟩) cn cc), (⟨cb, co + m * 3, none⟩, .string P0)]) hs | exact AtF.dr (w := w2) (l := [(⟨w.heap.size, 5, none⟩, .slice (some ⟨cb, co, none⟩) cn cc), (⟨cb, co + m * 3, none⟩, .string P0)]) (by assumption) | exact AtF.on (w := w2) (l := [(⟨w.heap.size, 5, none⟩, .slice (some ⟨cb, co, none⟩) cn cc), (⟨cb, co + m * 3, none⟩, .string P0)]) (by assumption) (by assumption) | exact AtF.al (w := w2) (l := [(⟨w.heap.size, 5, none⟩, .slice (some ⟨cb, co, none⟩) cn cc), (⟨cb, co + m * 3, none⟩, .string P0)]) (by assumption) _ | exact AtF.ald (w := w2) (l := [(⟨w.heap.size, 5, none⟩, .slice (some ⟨cb, co, none⟩) cn cc), (⟨cb, co + m * 3, none⟩, .string P0)]) (by assumption) _ | exact AtF.al (w := w2) (l := [(⟨w.heap.size, 5, none⟩, .slice (some ⟨cb, co, none⟩) cn cc), (⟨cb, co + m * 3, none⟩, .string P0)]) hs _ | exact AtF.ald (w := w2) (l := [(⟨w.heap.size, 5, none⟩, .slice (some ⟨cb, co, none⟩) cn cc), (⟨cb, co + m * 3, none⟩, .string P0)]) hs _)
    clear hK K
    try simp only [Act.put, List.setIfInBounds_toArray, List.set_cons_zero, List.set_cons_succ]
    refine wpAnyH_ready (rs := [9]) (by kernel_rfl) (by simp) ?_
    refine AllReadyH.cons rfl (fun K hK => ?_) AllReadyH.nil
    go_simp
    first | (go_at_call 12; (with_reducible refine (BST _ (HB2.out.trans ((BE _ (by assumption)).mono HB2.out.size))).mono ?_); rintro e w7 ⟨rfl, hb⟩; have HX7 : Hid (Below w6.heap.size w6 w7) := Lib.hid ((Below.refl w6.heap.size w6).drew.trans hb)) | (go_at_call 33; (with_reducible refine (LI2 _ _ (by first | exact Below.refl _ _ | exact (Below.refl _ _).drew)).mono ?_); rintro e w8 ⟨rfl, hb⟩; have HX8 : Hid (Below w6.heap.size w6 w8) := Lib.hid (HX7.out.trans ((((Below.refl w7.heap.size w7).alloc (Nat.le_refl _) _).trans (hb.mono (by simp))).mono HX7.out.size))) | (go_at_call 32; (with_reducible refine (wstr_any w2.heap.size w2.heap.size _ J2 w8 (Lib.IsBuilderF.below HD6.out HX8.out) hq1' (by omega) (BE _ (by assumption)).size).mono ?_); rintro e w9 ⟨v9, rfl, hd9, hb9, ho9⟩; have HD9 := Lib.hid hd9; have HBW9 := Lib.hid (Nat.lt_of_lt_of_le HBW6.out (Nat.le_trans HX8.out.size hb9.size)); have hs := AtF.onB (w := w2) (l := [(⟨w.heap.size, 5, none⟩, .slice (some ⟨cb, co, none⟩) cn cc), (⟨cb, co + m * 3, none⟩, .string P0)]) (by simp; omega) (by assumption) hb9)
    refine hK.out _ _ ?_ (fun hHeld => ?_)
    · (try dsimp only); (first | assumption | exact hs | exact AtF.dr (w := w2) (l := [(⟨w.heap.size, 5, none⟩, .slice (some ⟨cb, co, none⟩) cn cc), (⟨cb, co + m * 3, none⟩, .string P0)]) hs | exact AtF.dr (w := w2) (l := [(⟨w.heap.size, 5, none⟩, .slice (some ⟨cb, co, none⟩) cn cc), (⟨cb, co + m * 3, none⟩, .string P0)]) (by assumption) | exact AtF.on (w := w2) (l := [(⟨w.heap.size, 5, none⟩, .slice (some ⟨cb, co, none⟩) cn cc), (⟨cb, co + m * 3, none⟩, .string P0)]) (by assumption) (by assumption) | exact AtF.al (w := w2) (l := [(⟨w.heap.size, 5, none⟩, .slice (some ⟨cb, co, none⟩) cn cc), (⟨cb, co + m * 3, none⟩, .string P0)]) (by assumption) _ | exact AtF.ald (w := w2) (l := [(⟨w.heap.size, 5, none⟩, .slice (some ⟨cb, co, none⟩) cn cc), (⟨cb, co + m * 3, none⟩, .string P0)]) (by assumption) _ | exact AtF.al (w := w2) (l := [(⟨w.heap.size, 5, none⟩, .slice (some ⟨cb, co, none⟩) cn cc), (⟨cb, co + m * 3, none⟩, .string P0)]) hs _ | exact AtF.ald (w := w2) (l := [(⟨w.heap.size, 5, none⟩, .slice (some ⟨cb, co, none⟩) cn cc), (⟨cb, co + m * 3, none⟩, .string P0)]) hs _)
    clear hK K
    try simp only [Act.put, List.setIfInBounds_toArray, List.set_cons_zero, List.set_cons_succ]
    refine wpAnyH_ready (rs := [10]) (by kernel_rfl) (by simp) ?_
    refine AllReadyH.cons rfl (fun K hK => ?_) AllReadyH.nil
    go_simp
    first | (go_at_call 12; (with_reducible refine (BST _ (HB2.out.trans ((BE _ (by assumption)).mono HB2.out.size))).mono ?_); rintro e w7 ⟨rfl, hb⟩; have HX7 : Hid (Below w6.heap.size w6 w7) := Lib.hid ((Below.refl w6.heap.size w6).drew.trans hb)) | (go_at_call 33; (with_reducible refine (LI2 _ _ (by first | exact Below.refl _ _ | exact (Below.refl _ _).drew)).mono ?_); rintro e w8 ⟨rfl, hb⟩; have HX8 : Hid (Below w6.heap.size w6 w8) := Lib.hid (HX7.out.trans ((((Below.refl w7.heap.size w7).alloc (Nat.le_refl _) _).trans (hb.mono (by simp))).mono HX7.out.size))) | (go_at_call 32; (with_reducible refine (wstr_any w2.heap.size w2.heap.size _ J2 w8 (Lib.IsBuilderF.below HD6.out HX8.out) hq1' (by omega) (BE _ (by assumption)).size).mono ?_); rintro e w9 ⟨v9, rfl, hd9, hb9, ho9⟩; have HD9 := Lib.hid hd9; have HBW9 := Lib.hid (Nat.lt_of_lt_of_le HBW6.out (Nat.le_trans HX8.out.size hb9.size)); have hs := AtF.onB (w := w2) (l := [(⟨w.heap.size, 5, none⟩, .slice (some ⟨cb, co, none⟩) cn cc), (⟨cb, co + m * 3, none⟩, .string P0)]) (by simp; omega) (by assumption) hb9)
    refine hK.out _ _ ?_ (fun hHeld => ?_)
    · (try dsimp only); (first | assumption | exact hs | exact AtF.dr (w := w2) (l := [(⟨w.heap.size, 5, none⟩, .slice (some ⟨cb, co, none⟩) cn cc), (⟨cb, co + m * 3, none⟩, .string P0)]) hs | exact AtF.dr (w := w2) (l := [(⟨w.heap.size, 5, none⟩, .slice (some ⟨cb, co, none⟩) cn cc), (⟨cb, co + m * 3, none⟩, .string P0)]) (by assumption) | exact AtF.on (w := w2) (l := [(⟨w.heap.size, 5, none⟩, .slice (some ⟨cb, co, none⟩) cn cc), (⟨cb, co + m * 3, none⟩, .string P0)]) (by assumption) (by assumption) | exact AtF.al (w := w2) (l := [(⟨w.heap.size, 5, none⟩, .slice (some ⟨cb, co, none⟩) cn cc), (⟨cb, co + m * 3, none⟩, .string P0)]) (by assumption) _ | exact AtF.ald (w := w2) (l := [(⟨w.heap.size, 5, none⟩, .slice (some ⟨cb, co, none⟩) cn cc), (⟨cb, co + m * 3, none⟩, .string P0)]) (by assumption) _ | exact AtF.al (w := w2) (l := [(⟨w.heap.size, 5, none⟩, .slice (some ⟨cb, co, none⟩) cn cc), (⟨cb, co + m * 3, none⟩, .string P0)]) hs _ | exact AtF.ald (w := w2) (l := [(⟨w.heap.size, 5, none⟩, .slice (some ⟨cb, co, none⟩) cn cc), (⟨cb, co + m * 3, none⟩, .string P0)]) hs _)
    clear hK K
    try simp only [Act.put, List.setIfInBounds_toArray, List.set_cons_zero, List.set_cons_succ]
    refine wpAnyH_done (by kernel_rfl) ?_ _
    have HB9 := Lib.hid (BE _ hHeld)
    clear hHeld HD6 HB6 hs BE BST LI2 hq1'
    obtain ⟨y0, y1, y2, y3, y4, y5, y6⟩ := HY.out _ HB9.out
    have hq2' : ([] ++ J1.data.toList ++ J2.data.toList).length ≤ 100000000000 := by omega
    go_wp2_with (first
      | (go_at_call 33; (with_reducible refine (LI3 _ _ (by first | exact Below.refl _ _ | exact (Below.refl _ _).drew)).mono ?_); rintro e w10 ⟨rfl, hb⟩; have HX10 : Hid (Below w9.heap.size w9 w10) := Lib.hid (((Below.refl w9.heap.size w9).alloc (Nat.le_refl _) _).trans (hb.mono (by simp))); have HB10 := Lib.hid (HB9.out.trans (HX10.out.mono HB9.out.size)); clear hb)
      | (go_at_call 32; (with_reducible refine (wstr_any w2.heap.size w2.heap.size _ J3 w10 (Lib.IsBuilderF.below HD9.out HX10.out) hq2' (by omega) HB10.out.size).mono ?_); rintro e w11 ⟨v11, rfl, hd11, hb11, ho11⟩; have HD11 := Lib.hid hd11; have HB11 := Lib.hid (HB10.out.trans hb11); have HBW11 := Lib.hid (Nat.lt_of_lt_of_le HBW9.out (Nat.le_trans HX10.out.size hb11.size)); clear hd11 hb11 ho11; refine Hid.out ?_))
    clear y0 y1 y2 y3 y4 y5 y6 LI3 HD9 HB9 HB10 HX10 hq2'
    obtain ⟨y0, y1, y2, y3, y4, y5, y6⟩ := HY.out _ HB11.out
    have hq3' : ([] ++ J1.data.toList ++ J2.data.toList ++ J3.data.toList).length ≤ 100000000000 := by omega
    refine Lib.hid ?_
    go_wp2_with (first
      | (go_at_call 33; (with_reducible refine (LI4 _ _ (by first | exact Below.refl _ _ | exact (Below.refl _ _).drew)).mono ?_); rintro e w12 ⟨rfl, hb⟩; have HX12 : Hid (Below w11.heap.size w11 w12) := Lib.hid (((Below.refl w11.heap.size w11).alloc (Nat.le_refl _) _).trans (hb.mono (by simp))); have HB12 := Lib.hid (HB11.out.trans (HX12.out.mono HB11.out.size)); clear hb)
      | (go_at_call 32; (with_reducible refine (wstr_any w2.heap.size w2.heap.size _ J4 w12 (Lib.IsBuilderF.below HD11.out HX12.out) hq3' (by omega) HB12.out.size).mono ?_); rintro e w13 ⟨v13, rfl, hd13, hb13, ho13⟩; have HD13 := Lib.hid (show Bld w2.heap.size w2.heap.size (headZ x d.1.1) w13 by rw [← HE.out]; exact hd13); have HB13 := Lib.hid (HB12.out.trans hb13); have hbw13 := Nat.lt_of_lt_of_le HBW11.out (Nat.le_trans HX12.out.size hb13.size); clear hd13 hb13 ho13; refine Hid.out ?_))
    clear y0 y1 y2 y3 y4 y5 y6 LI4 HD11 HB11 HB12 HX12 hq3'
    have hhl : (headZ x d.1.1).length ≤ 64020 := by rw [← HE.out]; exact hq4
    clear hq1 hq2 hq3 hq4 HE z1 z2 z3 z4
    obtain ⟨H0, hH0⟩ : ∃ q, headZ x d.1.1 = q := ⟨_, rfl⟩
    have HH0 := Lib.hid (show dispZ x d.1.1 = H0 ++ x.sl.flatMap slZ ++ x.ch.flatMap (chZ x.sl) from by rw [← hH0]; rfl)
    rw [hH0] at HD13 hhl
    clear hH0
    obtain ⟨y0, y1, y2, y3, y4, y5, y6⟩ := HY.out _ HB13.out
    refine Lib.hid ?_
    have HDI : Hid (Bld w2.heap.size w2.heap.size (H0 ++ (x.sl.take 0).flatMap slZ) w13) := Lib.hid (by simpa using HD13.out)
    have HSM := Lib.hid (show ∀ s ∈ x.sl, s.1.length ≤ 300 ∧ s.2.length ≤ 300 from HD0.out.ss)
    clear HD13
    go_wp2
    go_loopw [47] (fun i wr => ∃ k : Nat, k ≤ sn ∧ i = .int .i64 k ∧ w2.heap.size < wr.heap.size ∧ Hid (Bld w2.heap.size w2.heap.size (H0 ++ (x.sl.take k).flatMap slZ) wr) ∧ (H0 ++ (x.sl.take k).flatMap slZ).length ≤ 64020 + 16005 * k ∧ Hid (Below w2.heap.size w2 wr)) (fun i _ => sn - (intOf i).toNat)
    case atStart => exact ⟨0, by omega, rfl, hbw13, HDI, by simpa using hhl, HB13⟩
    clear y0 y1 y2 y3 y4 y5 y6 HDI HB13
    case round =>
      obtain ⟨k, hk, rfl, hbI, HD, hlen, HB⟩ := hrel
      have hsz := HB.out.size
      by_cases hlt : k < sn
      · obtain ⟨rfl, hsb⟩ := hsa (by omega)
        obtain ⟨s, hx⟩ : ∃ s, x.sl[k]? = some s := ⟨_, List.getElem?_eq_getElem (by rw [HSN.out]; exact hlt)⟩
        have hBW := HB2.out.trans (HB.out.mono HB2.out.size)
        have c0 := (hBW.cell (p := ⟨sb, so + k * 2, none⟩) hsb).trans (HSC.out k s hx).1
        have c1 := (hBW.cell (p := ⟨sb, so + k * 2 + 1, none⟩) hsb).trans (HSC.out k s hx).2
        have hss := HSM.out s (List.mem_of_getElem? hx)
        have LI := line4 (a := ⟨#[115, 108, 97, 118, 101]⟩) (b := ⟨s.1.toArray⟩) (c := ⟨#[105, 115]⟩) (d := ⟨s.2.toArray⟩) (ws := [wSlave, s.1, wIs, s.2]) (by simp) (slZ_len hss).2
        have hzl := (slZ_len hss).1
        obtain ⟨J, hJ⟩ : ∃ J : ByteArray, bsT (lnZ [wSlave, s.1, wIs, s.2]) = J := ⟨_, rfl⟩
        have e1 : J.data.toList = slZ s := by rw [← hJ]; exact bytesOf _
        have z1 : J.size ≤ 16005 := by rw [sizeOf, e1]; exact hzl
        have HAP := Lib.hid (show (H0 ++ (x.sl.take k).flatMap slZ) ++ J.data.toList = H0 ++ (x.sl.take (k + 1)).flatMap slZ from by rw [flat_snoc slZ hx, e1, List.append_assoc])
        have hlen2 : (H0 ++ (x.sl.take (k + 1)).flatMap slZ).length ≤ 64020 + 16005 * (k + 1) := by rw [← HAP.out, List.length_append, ← sizeOf J]; omega
        rw [hJ] at LI
        have B0 := (Below.refl wr.heap.size wr).alloc (Nat.le_refl _) (.cells #[.string (⟨s.1.toArray⟩ : ByteArray), .string (⟨s.2.toArray⟩ : ByteArray)] 48)
        obtain ⟨u0, u1⟩ := boxV2 wr (.string (⟨s.1.toArray⟩ : ByteArray)) (.string (⟨s.2.toArray⟩ : ByteArray)) 48
        have HB0 := Lib.hid B0
        have hq : (H0 ++ (x.sl.take k).flatMap slZ).length ≤ 100000000000 := by omega
        generalize (⟨s.1.toArray⟩ : ByteArray) = S1 at *
        generalize (⟨s.2.toArray⟩ : ByteArray) = S2 at *
        generalize H0 ++ (x.sl.take k).flatMap slZ = O at *
        obtain ⟨O2, hO2⟩ : ∃ O2, H0 ++ (x.sl.take (k + 1)).flatMap slZ = O2 := ⟨_, rfl⟩
        rw [hO2] at HAP hlen2
        have HO2 := Lib.hid hO2
        clear hO2
        have LI := LI (wr.alloc (.cells #[.string S1, .string S2] 48))
        rw [show (wr.alloc (.cells #[.string S1, .string S2] 48)).heap.size = wr.heap.size + 1 from World.size_alloc _ _] at LI
        clear hx hBW hss hzl hJ e1 B0 hlen
        go_wp2_with (first
          | (go_at_call 33; (with_reducible refine (LI _ (by first | exact Below.refl _ _ | exact (Below.refl _ _).drew)).mono ?_); rintro e w15 ⟨rfl, hb⟩; have HX15 : Hid (Below wr.heap.size wr w15) := Lib.hid ((HB0.out.alloc HB0.out.size _).trans (hb.mono (by simp; omega))); have HB15 := Lib.hid (HB.out.trans (HX15.out.mono HB.out.size)); clear hb)
          | (go_at_call 32; (with_reducible refine (wstr_any w2.heap.size w2.heap.size _ J w15 (Lib.IsBuilderF.below HD.out HX15.out) hq (by omega) HB15.out.size).mono ?_); rintro e w16 ⟨v16, rfl, hd16, hb16, ho16⟩; have HD16 := Lib.hid (show Bld w2.heap.size w2.heap.size O2 w16 by rw [← HAP.out]; exact hd16); have HB16 := Lib.hid (HB15.out.trans hb16); have hbw16 := Nat.lt_of_lt_of_le hbI (Nat.le_trans HX15.out.size hb16.size); clear hd16 hb16 ho16))
        go_roundw
        case rel => exact ⟨k + 1, by omega, by go_num, hbw16, by rw [HO2.out]; exact HD16, by rw [HO2.out]; exact hlen2, HB16⟩
        case measure => simp [intOf]; omega
      · obtain rfl : sn = k := by omega
        have HD2 := HD.out
        rw [List.take_of_length_le (by rw [HSN.out]; omega)] at HD2 hlen
        have HD3 := Lib.hid HD2
        obtain ⟨y0, y1, y2, y3, y4, y5, y6⟩ := HY.out _ HB.out
        clear HD HD2 hlt
        obtain ⟨H1, hH1⟩ : ∃ q, H0 ++ x.sl.flatMap slZ = q := ⟨_, rfl⟩
        rw [hH1] at HD3 hlen
        have HH1 := Lib.hid hH1
        have HDI : Hid (Bld w2.heap.size w2.heap.size (H1 ++ (x.ch.take 0).flatMap (chZ x.sl)) wr) := Lib.hid (by simpa using HD3.out)
        have HCM := Lib.hid (show ∀ c ∈ x.ch, c.1.1.length ≤ 300 ∧ (∀ q ∈ c.1.2.2, q.length ≤ 3000) ∧ -2147483648 ≤ c.1.2.1 ∧ c.1.2.1 ≤ 2147483647 ∧ c.1.2.2.length = x.sl.length from HD0.out.cs)
        have hlen1 : H1.length ≤ 1088340 := by omega
        have hl1 : (H1 ++ (x.ch.take 0).flatMap (chZ x.sl)).length ≤ 1088340 + 1040325 * 0 := by simpa using hlen1
        have HBI := HB
        clear HD3 hH1 hlen hhl
        go_wp2
        go_loopw [62] (fun i wr => ∃ k : Nat, k ≤ cn ∧ i = .int .i64 k ∧ w2.heap.size < wr.heap.size ∧ Hid (Bld w2.heap.size w2.heap.size (H1 ++ (x.ch.take k).flatMap (chZ x.sl)) wr) ∧ (H1 ++ (x.ch.take k).flatMap (chZ x.sl)).length ≤ 1088340 + 1040325 * k ∧ Hid (Below w2.heap.size w2 wr)) (fun i _ => cn - (intOf i).toNat)
        case atStart => exact ⟨0, by omega, rfl, hbI, HDI, hl1, HBI⟩
        clear y0 y1 y2 y3 y4 y5 y6 HDI HBI hl1 HB hsz hk
        case round =>
          obtain ⟨k, hk, rfl, hb7, HD, hlen, HB⟩ := hrel
          have hsz := HB.out.size
          by_cases hlt : k < cn
          · obtain ⟨y, hx⟩ : ∃ y, x.ch[k]? = some y := ⟨_, List.getElem?_eq_getElem (by rw [HCN.out]; exact hlt)⟩
            have hym := List.mem_of_getElem? hx
            have hBW := HB2.out.trans (HB.out.mono HB2.out.size)
            obtain ⟨c0, c1, c2⟩ := HCC.out k y hx
            rw [← hBW.cell (p := ⟨cb, co + k * 3, none⟩) hcb] at c0
            rw [← hBW.cell (p := ⟨cb, co + k * 3 + 1, none⟩) hcb] at c1
            rw [← hBW.cell (p := ⟨cb, co + k * 3 + 2, none⟩) hcb] at c2
            obtain ⟨ta, tc, tb, tO, htv, htc, hta, htcell⟩ := (HIN.out.2.2 y hym)
            obtain ⟨tn, htn⟩ : ∃ n, y.1.2.2.length = n := ⟨_, rfl⟩
            rw [htn] at htv htc hta
            have htsn : tn = sn := by rw [← htn, ← HSN.out]; exact (HCM.out y hym).2.2.2.2
            have HTSN := Lib.hid htsn
            clear htsn
            have HTN := Lib.hid htn
            have HTC := Lib.hid htcell
            have hcm := HCM.out y hym
            have HQS := Lib.hid hcm.2.1
            have TX := fun W (hb : Below w.heap.size w W) => textZ_any y.1.2.1 (by omega) (by omega) W (HLZ.out.on hb)
            have LI := line4 (a := ⟨y.1.1.toArray⟩) (b := ⟨#[45]⟩) (c := ⟨#[112, 114, 105, 111, 114, 105, 116, 121]⟩) (d := ⟨(Lib.itoa y.1.2.1).toArray⟩) (ws := [y.1.1, wDash, wPrio, Lib.itoa y.1.2.1]) (by simp) (c1Z_len hcm.1 hcm.2.2.1 hcm.2.2.2.1).2
            have hzl := (c1Z_len hcm.1 hcm.2.2.1 hcm.2.2.2.1).1
            obtain ⟨J, hJ⟩ : ∃ J : ByteArray, bsT (lnZ [y.1.1, wDash, wPrio, Lib.itoa y.1.2.1]) = J := ⟨_, rfl⟩
            have e1 : J.data.toList = c1Z y := by rw [← hJ]; exact bytesOf _
            have z1 : J.size ≤ 16005 := by rw [sizeOf, e1]; exact hzl
            rw [hJ] at LI
            have HAP := Lib.hid (show (H1 ++ (x.ch.take k).flatMap (chZ x.sl)) ++ J.data.toList ++ (x.sl.zip y.1.2.2).flatMap tgZ = H1 ++ (x.ch.take (k + 1)).flatMap (chZ x.sl) from by rw [flat_snoc (chZ x.sl) hx, e1]; unfold chZ; simp [List.append_assoc])
            have hq : (H1 ++ (x.ch.take k).flatMap (chZ x.sl)).length ≤ 100000000000 := by omega
            rw [htv] at c2
            obtain ⟨C0, hC0⟩ : ∃ q : ByteArray, (⟨y.1.1.toArray⟩ : ByteArray) = q := ⟨_, rfl⟩
            obtain ⟨I0, hI0⟩ : ∃ q : ByteArray, (⟨(Lib.itoa y.1.2.1).toArray⟩ : ByteArray) = q := ⟨_, rfl⟩
            rw [hC0] at c0
            rw [hC0, hI0] at LI
            simp only [hI0] at TX
            obtain ⟨z, hz⟩ : ∃ z, y.1.2.1 = z := ⟨_, rfl⟩
            rw [hz] at c1 TX
            have hlO : ((H1 ++ (x.ch.take k).flatMap (chZ x.sl)) ++ J.data.toList).length ≤ 1088340 + 1040325 * k + 16005 := by rw [List.length_append, ← sizeOf J]; omega
            have hs := S16.new (a0 := .string C0) (a1 := .int .i64 z) (a2 := .slice ta tn tc) (t := 34) HB.out
            obtain ⟨O, hO⟩ : ∃ q, H1 ++ (x.ch.take k).flatMap (chZ x.sl) = q := ⟨_, rfl⟩
            rw [hO] at HD hq hlO HAP
            clear hO hC0 hI0 hz hJ e1 hzl hcm hx hym hBW htv htn htcell hlen
            go_wp2
            obtain ⟨W4, hW4⟩ : ∃ q, wr.alloc (.cells #[.string C0, .int .i64 z, .slice ta tn tc] 34) = q := ⟨_, rfl⟩
            rw [hW4] at hs ⊢
            have HB04 : Hid (Below wr.heap.size wr W4) := Lib.hid (by rw [← hW4]; exact (Below.refl _ _).alloc (Nat.le_refl _) _)
            have BE := fun (V : World) (h : V.cell? ⟨wr.heap.size, 0, none⟩ = some (.string C0) ∧ V.cell? ⟨wr.heap.size, 1, none⟩ = some (.int .i64 z) ∧ V.heap[wr.heap.size]? = some (.cells #[.string C0, .int .i64 z, .slice ta tn tc] 34 (0, 0)) ∧ Below w2.heap.size w2 V) => (h.2.2.2 : Below w2.heap.size w2 V)
            clear hW4
            refine wp_region_held_drew (S := (fun V => V.cell? ⟨wr.heap.size, 0, none⟩ = some (.string C0) ∧ V.cell? ⟨wr.heap.size, 1, none⟩ = some (.int .i64 z) ∧ V.heap[wr.heap.size]? = some (.cells #[.string C0, .int .i64 z, .slice ta tn tc] 34 (0, 0)) ∧ Below w2.heap.size w2 V)) (by kernel_rfl) ?_ (fun hHeld => ?_)
            · (try dsimp only); (first | assumption | exact hs | exact S16.on hs (Below.refl _ _).drew | exact S16.on (by assumption) (Below.refl _ _).drew | exact S16.on (by assumption) (by assumption) | exact S16.on (by assumption) ((Below.refl _ _).alloc (Nat.le_refl _) _) | exact S16.on (by assumption) ((Below.refl _ _).alloc (Nat.le_refl _) _).drew)
            refine heldY 0 66 ?_ _ rfl rfl (by kernel_rfl) (by kernel_rfl) (by kernel_rfl) (fun _ _ _ h => h) rfl (by assumption) ?_ ?_
            rotate_left
            · (intro w hSw; (try dsimp only at hSw); go_simp; (try with_reducible rfl))
            simp only [List.setIfInBounds_toArray, List.set_cons_zero, List.set_cons_succ]
            refine heldY 1 67 ?_ _ rfl rfl (by kernel_rfl) (by kernel_rfl) (by kernel_rfl) (fun _ _ _ h => h) rfl (by assumption) ?_ ?_
            rotate_left
            · (intro w hSw; (try dsimp only at hSw); go_simp; (try with_reducible rfl))
            simp only [List.setIfInBounds_toArray, List.set_cons_zero, List.set_cons_succ]
            refine heldY 2 68 ?_ _ rfl rfl (by kernel_rfl) (by kernel_rfl) (by kernel_rfl) (fun _ _ _ h => h) rfl (by assumption) ?_ ?_
            rotate_left
            · (intro w hSw; (try dsimp only at hSw); go_simp; (try with_reducible rfl))
            simp only [List.setIfInBounds_toArray, List.set_cons_zero, List.set_cons_succ]
            refine heldY 3 69 ?_ _ rfl rfl (by kernel_rfl) (by kernel_rfl) (by kernel_rfl) (fun _ _ _ h => h) rfl (by assumption) ?_ ?_
            rotate_left
            · (intro w hSw; (try dsimp only at hSw); go_simp; (try with_reducible rfl))
            simp only [List.setIfInBounds_toArray, List.set_cons_zero, List.set_cons_succ]
            refine wpAnyH_ready (rs := [4]) (by kernel_rfl) (by simp) ?_
            refine AllReadyH.cons rfl (fun K hK => ?_) AllReadyH.nil
            go_simp
            first | (go_at_call 35; (with_reducible refine (TX _ (HB2.out.trans ((BE _ (by assumption)).mono HB2.out.size))).mono ?_); rintro e w17 ⟨rfl, hb⟩; have HX17 : Hid (Below W4.heap.size W4 w17) := Lib.hid ((Below.refl W4.heap.size W4).drew.trans hb)) | (go_at_call 33; (with_reducible refine (LI _ _ (by first | exact Below.refl _ _ | exact (Below.refl _ _).drew)).mono ?_); rintro e w18 ⟨rfl, hb⟩; have HX18 : Hid (Below W4.heap.size W4 w18) := Lib.hid (HX17.out.trans ((((Below.refl w17.heap.size w17).alloc (Nat.le_refl _) _).trans (hb.mono (by simp))).mono HX17.out.size))) | (go_at_call 32; (with_reducible refine (wstr_any w2.heap.size w2.heap.size _ J w18 (Lib.IsBuilderF.below HD.out ((HB04.out.trans (HX18.out.mono HB04.out.size)))) hq (by omega) (BE _ (by assumption)).size).mono ?_); rintro e w19 ⟨v19, rfl, hd19, hb19, ho19⟩; have HD19 := Lib.hid hd19; have HBW19 := Lib.hid (Nat.lt_of_lt_of_le hb7 (Nat.le_trans (HB04.out.trans (HX18.out.mono HB04.out.size)).size hb19.size)); have hs := S16.oth (bb := w2.heap.size) (by assumption) ho19 hb19 (by omega) (by decide))
            refine hK.out _ _ ?_ (fun hHeld => ?_)
            · (try dsimp only); (first | assumption | exact hs | exact S16.on hs (Below.refl _ _).drew | exact S16.on (by assumption) (Below.refl _ _).drew | exact S16.on (by assumption) (by assumption) | exact S16.on (by assumption) ((Below.refl _ _).alloc (Nat.le_refl _) _) | exact S16.on (by assumption) ((Below.refl _ _).alloc (Nat.le_refl _) _).drew)
            clear hK K
            try simp only [Act.put, List.setIfInBounds_toArray, List.set_cons_zero, List.set_cons_succ]
            refine wpAnyH_ready (rs := [5]) (by kernel_rfl) (by simp) ?_
            refine AllReadyH.cons rfl (fun K hK => ?_) AllReadyH.nil
            go_simp
            refine hK.out _ _ ?_ (fun hHeld => ?_)
            · (try dsimp only); (first | assumption | exact hs | exact S16.on hs (Below.refl _ _).drew | exact S16.on (by assumption) (Below.refl _ _).drew | exact S16.on (by assumption) (by assumption) | exact S16.on (by assumption) ((Below.refl _ _).alloc (Nat.le_refl _) _) | exact S16.on (by assumption) ((Below.refl _ _).alloc (Nat.le_refl _) _).drew)
            clear hK K
            try simp only [Act.put, List.setIfInBounds_toArray, List.set_cons_zero, List.set_cons_succ]
            refine wpAnyH_ready (rs := [6]) (by kernel_rfl) (by simp) ?_
            refine AllReadyH.cons rfl (fun K hK => ?_) AllReadyH.nil
            go_simp
            first | (go_at_call 35; (with_reducible refine (TX _ (HB2.out.trans ((BE _ (by assumption)).mono HB2.out.size))).mono ?_); rintro e w17 ⟨rfl, hb⟩; have HX17 : Hid (Below W4.heap.size W4 w17) := Lib.hid ((Below.refl W4.heap.size W4).drew.trans hb)) | (go_at_call 33; (with_reducible refine (LI _ _ (by first | exact Below.refl _ _ | exact (Below.refl _ _).drew)).mono ?_); rintro e w18 ⟨rfl, hb⟩; have HX18 : Hid (Below W4.heap.size W4 w18) := Lib.hid (HX17.out.trans ((((Below.refl w17.heap.size w17).alloc (Nat.le_refl _) _).trans (hb.mono (by simp))).mono HX17.out.size))) | (go_at_call 32; (with_reducible refine (wstr_any w2.heap.size w2.heap.size _ J w18 (Lib.IsBuilderF.below HD.out ((HB04.out.trans (HX18.out.mono HB04.out.size)))) hq (by omega) (BE _ (by assumption)).size).mono ?_); rintro e w19 ⟨v19, rfl, hd19, hb19, ho19⟩; have HD19 := Lib.hid hd19; have HBW19 := Lib.hid (Nat.lt_of_lt_of_le hb7 (Nat.le_trans (HB04.out.trans (HX18.out.mono HB04.out.size)).size hb19.size)); have hs := S16.oth (bb := w2.heap.size) (by assumption) ho19 hb19 (by omega) (by decide))
            refine hK.out _ _ ?_ (fun hHeld => ?_)
            · (try dsimp only); (first | assumption | exact hs | exact S16.on hs (Below.refl _ _).drew | exact S16.on (by assumption) (Below.refl _ _).drew | exact S16.on (by assumption) (by assumption) | exact S16.on (by assumption) ((Below.refl _ _).alloc (Nat.le_refl _) _) | exact S16.on (by assumption) ((Below.refl _ _).alloc (Nat.le_refl _) _).drew)
            clear hK K
            try simp only [Act.put, List.setIfInBounds_toArray, List.set_cons_zero, List.set_cons_succ]
            refine wpAnyH_ready (rs := [7]) (by kernel_rfl) (by simp) ?_
            refine AllReadyH.cons rfl (fun K hK => ?_) AllReadyH.nil
            go_simp
            first | (go_at_call 35; (with_reducible refine (TX _ (HB2.out.trans ((BE _ (by assumption)).mono HB2.out.size))).mono ?_); rintro e w17 ⟨rfl, hb⟩; have HX17 : Hid (Below W4.heap.size W4 w17) := Lib.hid ((Below.refl W4.heap.size W4).drew.trans hb)) | (go_at_call 33; (with_reducible refine (LI _ _ (by first | exact Below.refl _ _ | exact (Below.refl _ _).drew)).mono ?_); rintro e w18 ⟨rfl, hb⟩; have HX18 : Hid (Below W4.heap.size W4 w18) := Lib.hid (HX17.out.trans ((((Below.refl w17.heap.size w17).alloc (Nat.le_refl _) _).trans (hb.mono (by simp))).mono HX17.out.size))) | (go_at_call 32; (with_reducible refine (wstr_any w2.heap.size w2.heap.size _ J w18 (Lib.IsBuilderF.below HD.out ((HB04.out.trans (HX18.out.mono HB04.out.size)))) hq (by omega) (BE _ (by assumption)).size).mono ?_); rintro e w19 ⟨v19, rfl, hd19, hb19, ho19⟩; have HD19 := Lib.hid hd19; have HBW19 := Lib.hid (Nat.lt_of_lt_of_le hb7 (Nat.le_trans (HB04.out.trans (HX18.out.mono HB04.out.size)).size hb19.size)); have hs := S16.oth (bb := w2.heap.size) (by assumption) ho19 hb19 (by omega) (by decide))
            refine hK.out _ _ ?_ (fun hHeld => ?_)
            · (try dsimp only); (first | assumption | exact hs | exact S16.on hs (Below.refl _ _).drew | exact S16.on (by assumption) (Below.refl _ _).drew | exact S16.on (by assumption) (by assumption) | exact S16.on (by assumption) ((Below.refl _ _).alloc (Nat.le_refl _) _) | exact S16.on (by assumption) ((Below.refl _ _).alloc (Nat.le_refl _) _).drew)
            clear hK K
            try simp only [Act.put, List.setIfInBounds_toArray, List.set_cons_zero, List.set_cons_succ]
            refine wpAnyH_done (by kernel_rfl) ?_ _
            have HH7 := Lib.hid hHeld.2.2.1
            have HB19 := Lib.hid (BE _ hHeld)
            clear hHeld BE hs HD TX LI HB04
            obtain ⟨y0, y1, y2, y3, y4, y5, y6⟩ := HY.out _ HB19.out
            have t2 := cell_heap (i := 2) HH7.out rfl
            obtain ⟨O3, hO3⟩ : ∃ q, O ++ J.data.toList = q := ⟨_, rfl⟩
            rw [hO3] at HD19 hlO HAP
            clear hO3 hq z1
            have HZL : Hid ((x.sl.zip y.1.2.2).length = tn) := Lib.hid (by rw [List.length_zip, HTN.out, HSN.out, HTSN.out]; omega)
            have hts : tn ≤ 64 := by rw [HTSN.out]; exact hn2
            have HDJ : Hid (Bld w2.heap.size w2.heap.size (O3 ++ ((x.sl.zip y.1.2.2).take 0).flatMap tgZ) w19) := Lib.hid (by simpa using HD19.out)
            have hlJ : (O3 ++ ((x.sl.zip y.1.2.2).take 0).flatMap tgZ).length ≤ 1088340 + 1040325 * k + 16005 + 16005 * 0 := by simpa using hlO
            have hbw19 := HBW19.out
            clear HD19 HBW19
            go_wp2
            go_loopw [77] (fun i wi => ∃ j : Nat, j ≤ tn ∧ i = .int .i64 j ∧ w2.heap.size < wi.heap.size ∧ Hid (Bld w2.heap.size w2.heap.size (O3 ++ ((x.sl.zip y.1.2.2).take j).flatMap tgZ) wi) ∧ (O3 ++ ((x.sl.zip y.1.2.2).take j).flatMap tgZ).length ≤ 1088340 + 1040325 * k + 16005 + 16005 * j ∧ Hid (Below w2.heap.size w2 wi)) (fun i _ => tn - (intOf i).toNat)
            case atStart => exact ⟨0, by omega, rfl, hbw19, HDJ, hlJ, HB19⟩
            clear HDJ hlJ HB19 hbw19 y0 y1 y2 y3 y4 y5 y6 t2 hlO HH7 hs
            case round =>
              obtain ⟨j, hj, rfl, hbj, HDD, hlen, HBJ⟩ := hrel
              have hszj := HBJ.out.size
              by_cases hjn : j < tn
              · obtain ⟨rfl, htb⟩ := hta (by omega)
                have hjs : j < sn := by rw [← HTSN.out]; exact hjn
                obtain ⟨rfl, hsb⟩ := hsa (by omega)
                obtain ⟨q, hq⟩ : ∃ q, y.1.2.2[j]? = some q := ⟨_, List.getElem?_eq_getElem (by rw [HTN.out]; exact hjn)⟩
                obtain ⟨s, hsx⟩ : ∃ s, x.sl[j]? = some s := ⟨_, List.getElem?_eq_getElem (by rw [HSN.out]; exact hjs)⟩
                have hBW := HB2.out.trans (HBJ.out.mono HB2.out.size)
                have t0 := (hBW.cell (p := ⟨tb, tO + j, none⟩) htb).trans (HTC.out j q hq)
                have c0 := (hBW.cell (p := ⟨sb, so + j * 2, none⟩) hsb).trans (HSC.out j s hsx).1
                have he := eqTL (⟨q.toArray⟩ : ByteArray) []
                rw [bytesOf] at he
                have HAQ : Hid (∀ L : Bs, tgZ (s, q) = L → (O3 ++ ((x.sl.zip y.1.2.2).take j).flatMap tgZ) ++ L = O3 ++ ((x.sl.zip y.1.2.2).take (j + 1)).flatMap tgZ) := Lib.hid (fun L hL => by rw [flat_snoc tgZ (zip_get hsx hq), hL, List.append_assoc])
                have i0 : (0 : Int) ≤ (j : Int) := by omega
                have i1 : (j : Int) < (tn : Int) := by omega
                have i2 : (j : Int) < (sn : Int) := by omega
                by_cases hq0 : q = []
                · have HNX := Lib.hid (show O3 ++ ((x.sl.zip y.1.2.2).take j).flatMap tgZ = O3 ++ ((x.sl.zip y.1.2.2).take (j + 1)).flatMap tgZ from by rw [← HAQ.out [] (by unfold tgZ; rw [if_pos hq0]), List.append_nil])
                  have hl2 : (O3 ++ ((x.sl.zip y.1.2.2).take (j + 1)).flatMap tgZ).length ≤ 1088340 + 1040325 * k + 16005 + 16005 * (j + 1) := by rw [← HNX.out]; omega
                  rw [decide_eq_true hq0] at he
                  generalize (⟨q.toArray⟩ : ByteArray) = Q at *
                  clear hq hsx hBW HAQ hq0 hlen c0
                  have HL2 := Lib.hid hl2
                  clear hl2
                  go_wp2
                  go_roundw
                  case rel => exact ⟨j + 1, by omega, by go_num, hbj, by rw [← HNX.out]; exact HDD, HL2.out, HBJ⟩
                  case measure => simp [intOf]; omega
                · have hss := HSM.out s (List.mem_of_getElem? hsx)
                  have hqs := HQS.out q (List.mem_of_getElem? hq)
                  have sz1 : (⟨s.1.toArray⟩ : ByteArray).size ≤ 300 := by rw [sizeOf, bytesOf]; exact hss.1
                  have LI := line3 (a := ⟨#[115, 108, 97, 118, 101]⟩) (b := (⟨s.1.toArray⟩ : ByteArray) ++ ⟨#[58]⟩) (c := ⟨q.toArray⟩) (ws := [wSlave, s.1 ++ [58], q]) (by simp) (tgZ_len hss.1 hqs).2
                  have hzl := (tgZ_len (s := s) hss.1 hqs).1
                  obtain ⟨K, hK⟩ : ∃ J : ByteArray, bsT (lnZ [wSlave, s.1 ++ [58], q]) = J := ⟨_, rfl⟩
                  have e1 : K.data.toList = tgZ (s, q) := by rw [← hK]; unfold tgZ; rw [if_neg hq0]
                  have zk : K.size ≤ 16005 := by rw [← hK, sizeOf, bytesOf]; exact hzl
                  rw [hK] at LI
                  have HNX := Lib.hid (HAQ.out K.data.toList e1.symm)
                  have hl2 : (O3 ++ ((x.sl.zip y.1.2.2).take (j + 1)).flatMap tgZ).length ≤ 1088340 + 1040325 * k + 16005 + 16005 * (j + 1) := by rw [← HNX.out, List.length_append, ← sizeOf K]; omega
                  have hqq : (O3 ++ ((x.sl.zip y.1.2.2).take j).flatMap tgZ).length ≤ 100000000000 := by omega
                  rw [decide_eq_false hq0] at he
                  have HL2 := Lib.hid hl2
                  obtain ⟨O4, hO4⟩ : ∃ q, O3 ++ ((x.sl.zip y.1.2.2).take (j + 1)).flatMap tgZ = q := ⟨_, rfl⟩
                  rw [hO4] at HL2 HNX
                  have HO4 := Lib.hid hO4
                  generalize (⟨q.toArray⟩ : ByteArray) = Q at *
                  generalize (⟨s.1.toArray⟩ : ByteArray) = S1 at *
                  have h1s : ∀ x, (ByteArray.mk #[x]).size = 1 := fun _ => rfl
                  have hq3 : ¬ 9223372036854775807 < S1.size + 1 := by omega
                  clear hq hsx hBW HAQ hq0 hlen hl2 hO4 hss hqs hzl hK e1
                  obtain ⟨y0, y1, y2, y3, y4, y5, y6⟩ := HY.out _ HBJ.out
                  generalize O3 ++ ((x.sl.zip y.1.2.2).take j).flatMap tgZ = O5 at *
                  go_wp2_with (first
                    | (go_at_call 33; (with_reducible refine (LI _ _ (by first | exact Below.refl _ _ | exact (Below.refl _ _).drew)).mono ?_); rintro e w22 ⟨rfl, hb⟩; have HX22 : Hid (Below wr.heap.size wr w22) := Lib.hid (((Below.refl wr.heap.size wr).alloc (Nat.le_refl _) _).trans (hb.mono (by simp))); have HB22 := Lib.hid (HBJ.out.trans (HX22.out.mono HBJ.out.size)); clear hb)
                    | (go_at_call 32; (with_reducible refine (wstr_any w2.heap.size w2.heap.size _ K w22 (Lib.IsBuilderF.below HDD.out HX22.out) hqq (by omega) HB22.out.size).mono ?_); rintro e w23 ⟨v23, rfl, hd23, hb23, ho23⟩; have HD23 := Lib.hid (show Bld w2.heap.size w2.heap.size O4 w23 by rw [← HNX.out]; exact hd23); have HB23 := Lib.hid (HB22.out.trans hb23); have hbw23 := Nat.lt_of_lt_of_le hbj (Nat.le_trans HX22.out.size hb23.size); clear hd23 hb23 ho23))
                  go_roundw
                  case rel => exact ⟨j + 1, by omega, by go_num, hbw23, by rw [HO4.out]; exact HD23, by rw [HO4.out]; exact HL2.out, HB23⟩
                  case measure => simp [intOf]; omega
              · obtain rfl : tn = j := by omega
                have hD := HDD.out
                rw [List.take_of_length_le (by rw [HZL.out]; omega), HAP.out] at hD hlen
                have HD5 := Lib.hid hD
                have hlen5 : (H1 ++ (x.ch.take (k + 1)).flatMap (chZ x.sl)).length ≤ 1088340 + 1040325 * (k + 1) := by omega
                have HL5 := Lib.hid hlen5
                clear HDD hD hjn hlen hlen5
                go_wp2
                go_roundw
                case rel => exact ⟨k + 1, by omega, by go_num, hbj, HD5, HL5.out, HBJ⟩
                case measure => simp [intOf]; omega
          · obtain rfl : k = cn := by omega
            have HD2 := HD.out
            rw [List.take_of_length_le (by rw [HCN.out]; omega)] at HD2
            have BS := bstr_any w2.heap.size w2.heap.size _ wr HD2 hsz
            have HF := Lib.hid (show H1 ++ x.ch.flatMap (chZ x.sl) = H0 ++ x.sl.flatMap slZ ++ x.ch.flatMap (chZ x.sl) from by rw [HH1.out])
            clear HD HD2 hlt hlen
            go_wp2_with (go_at_call 36; (with_reducible refine BS.mono ?_); rintro e w30 ⟨rfl, hb⟩; have HB30 := Lib.hid (HB2.out.trans ((HB.out.trans hb).mono HB2.out.size)); clear hb)
            go_ret
            exact ⟨by rw [HF.out, HH0.out]; rfl, HB30.out⟩
  · have HOUT : Hid (displayZ x = []) := Lib.hid (by unfold displayZ; rw [if_neg (by rw [rightA_no hg]; decide)])
    obtain ⟨sa, sc, ca, cc, hsh⟩ := h.sh
    rw [HOUT.out]
    have RA1 := fun W hb => RA W hb
    rw [rightA_no hg] at RA1
    unfold agZA at RA1 ⊢
    rw [hsh.s, hsh.c] at RA1 B1 x0 x1 x2 x3 x4 x5
    rw [hsh.s, hsh.c]
    have HB1 := Lib.hid B1
    generalize (⟨x.nm.toArray⟩ : ByteArray) = X0 at *
    generalize (⟨x.lk.toArray⟩ : ByteArray) = X1 at *
    generalize (⟨x.cr.toArray⟩ : ByteArray) = X3 at *
    generalize x.mn = mn at *
    generalize x.sl.length = sn at *
    generalize x.ch.length = cn at *
    clear hsh h hf hg hL RA HOUT B1
    go_enter Tryz.func9, Tryz.ntmps9
    go_wp2_with (go_at_call 31; (with_reducible refine (RA1 _ HB1.out).mono ?_); rintro e w2 ⟨rfl, hb⟩; have HB2 := Lib.hid (HB1.out.trans (hb.mono HB1.out.size)); clear hb)
    go_ret
    exact ⟨rfl, HB2.out⟩
end Go.Proofs.YtmfmohbcehkooaaGreatDoor
