/-
  The next one that may be configured: what it returns; nothing old turns. Condition: LaidV.
-/
import Derived.Test.YtpkdnohaefkfgaaGreatDoorGOdEnough
import Derived.Test.YtpkdnohaefkfgaaGreatDoorGOdKey
namespace Go.Proofs.YtpkdnohaefkfgaaGreatDoor
open Go.RowKit Go.Shelf Go.Maps
theorem heap_setN {W : World} {b i : Nat} {cs : Array Value} {t : TypeId} (u : Value) (h : W.heap[b]? = some (.cells cs t (0, 0))) : (W.setCell ⟨b, i, none⟩ u).heap[b]? = some (.cells (cs.setIfInBounds i u) t (0, 0)) := by
  obtain ⟨hlt, hk⟩ := Array.getElem?_eq_some_iff.1 h
  show (W.heap.modify b _)[b]? = _
  rw [Array.getElem?_eq_getElem (by rw [Array.size_modify]; exact hlt), Array.getElem_modify_self, hk]
  rfl
theorem cell_heapN {W : World} {b i : Nat} {cs : Array Value} {t : TypeId} {u : Value} (h : W.heap[b]? = some (.cells cs t (0, 0))) (hi : cs[i]? = some u) : W.cell? ⟨b, i, none⟩ = some u := by
  rw [cellRow W b i cs t (0, 0) h]; exact hi
abbrev nineN (W : World) (b : Nat) (u0 u1 u2 u3 u4 u5 u6 u7 u8 : Value) : World := ((((((((W.setCell ⟨b, 0, none⟩ u0).setCell ⟨b, 1, none⟩ u1).setCell ⟨b, 2, none⟩ u2).setCell ⟨b, 3, none⟩ u3).setCell ⟨b, 4, none⟩ u4).setCell ⟨b, 5, none⟩ u5).setCell ⟨b, 6, none⟩ u6).setCell ⟨b, 7, none⟩ u7).setCell ⟨b, 8, none⟩ u8
theorem nine_cellsN {W : World} {b : Nat} {a0 a1 a2 a3 a4 a5 a6 a7 a8 : Value} {t : TypeId} (u0 u1 u2 u3 u4 u5 u6 u7 u8 : Value) (h : W.heap[b]? = some (.cells #[a0, a1, a2, a3, a4, a5, a6, a7, a8] t (0, 0))) :
    (nineN W b u0 u1 u2 u3 u4 u5 u6 u7 u8).cell? ⟨b, 0, none⟩ = some u0 ∧ (nineN W b u0 u1 u2 u3 u4 u5 u6 u7 u8).cell? ⟨b, 1, none⟩ = some u1 ∧ (nineN W b u0 u1 u2 u3 u4 u5 u6 u7 u8).cell? ⟨b, 2, none⟩ = some u2 ∧ (nineN W b u0 u1 u2 u3 u4 u5 u6 u7 u8).cell? ⟨b, 3, none⟩ = some u3 ∧ (nineN W b u0 u1 u2 u3 u4 u5 u6 u7 u8).cell? ⟨b, 4, none⟩ = some u4 ∧ (nineN W b u0 u1 u2 u3 u4 u5 u6 u7 u8).cell? ⟨b, 5, none⟩ = some u5 ∧ (nineN W b u0 u1 u2 u3 u4 u5 u6 u7 u8).cell? ⟨b, 6, none⟩ = some u6 ∧ (nineN W b u0 u1 u2 u3 u4 u5 u6 u7 u8).cell? ⟨b, 7, none⟩ = some u7 ∧ (nineN W b u0 u1 u2 u3 u4 u5 u6 u7 u8).cell? ⟨b, 8, none⟩ = some u8 := by
  have h0 : (W.setCell ⟨b, 0, none⟩ u0).heap[b]? = some (.cells #[u0, a1, a2, a3, a4, a5, a6, a7, a8] t (0, 0)) := by have := heap_setN (i := 0) u0 h; simpa using this
  have h1 : ((W.setCell ⟨b, 0, none⟩ u0).setCell ⟨b, 1, none⟩ u1).heap[b]? = some (.cells #[u0, u1, a2, a3, a4, a5, a6, a7, a8] t (0, 0)) := by have := heap_setN (i := 1) u1 h0; simpa using this
  have h2 : (((W.setCell ⟨b, 0, none⟩ u0).setCell ⟨b, 1, none⟩ u1).setCell ⟨b, 2, none⟩ u2).heap[b]? = some (.cells #[u0, u1, u2, a3, a4, a5, a6, a7, a8] t (0, 0)) := by have := heap_setN (i := 2) u2 h1; simpa using this
  have h3 : ((((W.setCell ⟨b, 0, none⟩ u0).setCell ⟨b, 1, none⟩ u1).setCell ⟨b, 2, none⟩ u2).setCell ⟨b, 3, none⟩ u3).heap[b]? = some (.cells #[u0, u1, u2, u3, a4, a5, a6, a7, a8] t (0, 0)) := by have := heap_setN (i := 3) u3 h2; simpa using this
  have h4 : (((((W.setCell ⟨b, 0, none⟩ u0).setCell ⟨b, 1, none⟩ u1).setCell ⟨b, 2, none⟩ u2).setCell ⟨b, 3, none⟩ u3).setCell ⟨b, 4, none⟩ u4).heap[b]? = some (.cells #[u0, u1, u2, u3, u4, a5, a6, a7, a8] t (0, 0)) := by have := heap_setN (i := 4) u4 h3; simpa using this
  have h5 : ((((((W.setCell ⟨b, 0, none⟩ u0).setCell ⟨b, 1, none⟩ u1).setCell ⟨b, 2, none⟩ u2).setCell ⟨b, 3, none⟩ u3).setCell ⟨b, 4, none⟩ u4).setCell ⟨b, 5, none⟩ u5).heap[b]? = some (.cells #[u0, u1, u2, u3, u4, u5, a6, a7, a8] t (0, 0)) := by have := heap_setN (i := 5) u5 h4; simpa using this
  have h6 : (((((((W.setCell ⟨b, 0, none⟩ u0).setCell ⟨b, 1, none⟩ u1).setCell ⟨b, 2, none⟩ u2).setCell ⟨b, 3, none⟩ u3).setCell ⟨b, 4, none⟩ u4).setCell ⟨b, 5, none⟩ u5).setCell ⟨b, 6, none⟩ u6).heap[b]? = some (.cells #[u0, u1, u2, u3, u4, u5, u6, a7, a8] t (0, 0)) := by have := heap_setN (i := 6) u6 h5; simpa using this
  have h7 : ((((((((W.setCell ⟨b, 0, none⟩ u0).setCell ⟨b, 1, none⟩ u1).setCell ⟨b, 2, none⟩ u2).setCell ⟨b, 3, none⟩ u3).setCell ⟨b, 4, none⟩ u4).setCell ⟨b, 5, none⟩ u5).setCell ⟨b, 6, none⟩ u6).setCell ⟨b, 7, none⟩ u7).heap[b]? = some (.cells #[u0, u1, u2, u3, u4, u5, u6, u7, a8] t (0, 0)) := by have := heap_setN (i := 7) u7 h6; simpa using this
  have h8 : (((((((((W.setCell ⟨b, 0, none⟩ u0).setCell ⟨b, 1, none⟩ u1).setCell ⟨b, 2, none⟩ u2).setCell ⟨b, 3, none⟩ u3).setCell ⟨b, 4, none⟩ u4).setCell ⟨b, 5, none⟩ u5).setCell ⟨b, 6, none⟩ u6).setCell ⟨b, 7, none⟩ u7).setCell ⟨b, 8, none⟩ u8).heap[b]? = some (.cells #[u0, u1, u2, u3, u4, u5, u6, u7, u8] t (0, 0)) := by have := heap_setN (i := 8) u8 h7; simpa using this
  exact ⟨cell_heapN (i := 0) h8 (by simp), cell_heapN (i := 1) h8 (by simp), cell_heapN (i := 2) h8 (by simp), cell_heapN (i := 3) h8 (by simp), cell_heapN (i := 4) h8 (by simp), cell_heapN (i := 5) h8 (by simp), cell_heapN (i := 6) h8 (by simp), cell_heapN (i := 7) h8 (by simp), cell_heapN (i := 8) h8 (by simp)⟩
theorem nine_belowN {B : Nat} {w W : World} (h : Below B w W) {b : Nat} (hb : B ≤ b) (u0 u1 u2 u3 u4 u5 u6 u7 u8 : Value) : Below B w (nineN W b u0 u1 u2 u3 u4 u5 u6 u7 u8) :=
  ((((((((h.setCell (p := ⟨b, 0, none⟩) hb u0).setCell (p := ⟨b, 1, none⟩) hb u1).setCell (p := ⟨b, 2, none⟩) hb u2).setCell (p := ⟨b, 3, none⟩) hb u3).setCell (p := ⟨b, 4, none⟩) hb u4).setCell (p := ⟨b, 5, none⟩) hb u5).setCell (p := ⟨b, 6, none⟩) hb u6).setCell (p := ⟨b, 7, none⟩) hb u7).setCell (p := ⟨b, 8, none⟩) hb u8
theorem open_any (z : Int) (w : World) : Calls Tryz.prog 12 #[.int .i64 z] w fun e w' => e = .returned (.bool (openZ z)) ∧ w = w' := by
  have h3 : (z == 3) = decide (z = 3) := by by_cases g : z = 3 <;> simp [g]
  have h4 : (z == 4) = decide (z = 4) := by by_cases g : z = 4 <;> simp [g]
  unfold openZ
  by_cases g3 : z = 3
  · have e3 : (z == 3) = true := by rw [h3]; exact decide_eq_true g3
    have E : Hid (true = (decide (z = 3) || decide (z = 4))) := Lib.hid (by rw [decide_eq_true g3]; rfl)
    clear h3 h4
    go_enter Tryz.func12, Tryz.ntmps12
    go_wp2
    go_ret
    exact ⟨congrArg (fun b => Ending.returned (.bool b)) E.out, rfl⟩
  · have e3 : (z == 3) = false := by rw [h3]; exact decide_eq_false g3
    have E : Hid ((z == 4) = (decide (z = 3) || decide (z = 4))) := Lib.hid (by rw [decide_eq_false g3, h4]; rfl)
    clear h3 h4
    go_enter Tryz.func12, Tryz.ntmps12
    go_wp2
    go_ret
    exact ⟨congrArg (fun b => Ending.returned (.bool b)) E.out, rfl⟩
abbrev zeroRec : Value := .agg #[.string ⟨#[]⟩, .string ⟨#[]⟩, .int .i64 0, .slice none 0 0, .slice none 0 0, .slice none 0 0, .slice none 0 0, .slice none 0 0, .slice none 0 0]
abbrev enoughF (g : Nat) : Value := .func (.func 30) #[] #[.pointer (some ⟨g, 0, none⟩)]
def NextPost (l : List Uv) (s : List Bs) (t : List Rl) (w : World) (e : Ending) (w' : World) : Prop :=
  ((∃ x ∈ l, nextU l s t = some x ∧ e = .returned (.tuple #[agZU x, .bool true])) ∨ (nextU l s t = none ∧ e = .returned (.tuple #[zeroRec, .bool false]))) ∧ Below w.heap.size w w'
set_option maxRecDepth 100000 in
set_option maxHeartbeats 16000000 in
theorem next_any (v : Value) (l : List Uv) (hl : l.length ≤ 500) (hr : ∀ x ∈ l, rightU x = true) (hsm : ∀ x ∈ l, x.nm.length ≤ 4000) (s : List Bs) (hss : ∀ y ∈ s, y.length ≤ 4000) (B q : Nat) (g : Nat) (t : List Rl) (tv : Value) (ht : t.length ≤ 90000) (hst : SmallQ t) (w : World) (h : HoldU w v l) (hM : w.ownsMap Tryz.prog 9 unitElem B q (setS s)) (hc : w.cell? ⟨g, 0, none⟩ = some tv) (h2 : HoldQ w tv t) (hL : LaidV w) :
    Calls Tryz.prog 32 #[v, .map (some B), enoughF g] w (NextPost l s t w) := by
  have EN : ∀ args w, (callFunc 30 args).run Tryz.prog w = .ok (.enter 30 args) w := enters_of Tryz.func30 (by kernel_rfl) rfl
  have HEN := Lib.hid (fun x (hx : x ∈ l) W (hb : Below w.heap.size w W) => enough_any x (hr x hx) g t tv ht hst W ((h.2 x hx).on hb) ((hb.cell (p := ⟨g, 0, none⟩) (World.block_lt_of_cell? w _ hc)).trans hc) (HoldV.on h2 hb) (hL.on hb))
  have HHAS := Lib.hid (fun (x : Bs) => setS_has s (fun y hy => Nat.le_trans (hss y hy) (by unfold maxLen; decide)) (x := x))
  have HSM := Lib.hid hsm
  have HIN := Lib.hid h.2
  have HMM := Lib.hid hM
  have B0 := (Below.refl w.heap.size w).alloc (Nat.le_refl _) (.cells #[.string ⟨#[]⟩, .string ⟨#[]⟩, .int .i64 0, .slice none 0 0, .slice none 0 0, .slice none 0 0, .slice none 0 0, .slice none 0 0, .slice none 0 0] 37)
  have HRB : Hid ((w.alloc (.cells #[.string ⟨#[]⟩, .string ⟨#[]⟩, .int .i64 0, .slice none 0 0, .slice none 0 0, .slice none 0 0, .slice none 0 0, .slice none 0 0, .slice none 0 0] 37)).heap[w.heap.size]? = some (.cells #[.string ⟨#[]⟩, .string ⟨#[]⟩, .int .i64 0, .slice none 0 0, .slice none 0 0, .slice none 0 0, .slice none 0 0, .slice none 0 0, .slice none 0 0] 37 (0, 0))) := Lib.hid Array.getElem?_push_size
  have hsz0 : (w.alloc (.cells #[.string ⟨#[]⟩, .string ⟨#[]⟩, .int .i64 0, .slice none 0 0, .slice none 0 0, .slice none 0 0, .slice none 0 0, .slice none 0 0, .slice none 0 0] 37)).heap.size = w.heap.size + 1 := by simp
  have HB0 := Lib.hid B0
  obtain ⟨w0, hw0⟩ : ∃ w0, w.alloc (.cells #[.string ⟨#[]⟩, .string ⟨#[]⟩, .int .i64 0, .slice none 0 0, .slice none 0 0, .slice none 0 0, .slice none 0 0, .slice none 0 0, .slice none 0 0] 37) = w0 := ⟨_, rfl⟩
  rw [hw0] at HB0 HRB hsz0
  have HW0 := Lib.hid hw0
  obtain ⟨a, c, b, o, rfl, hcc, ha, hcell⟩ := h.parts
  have HC := Lib.hid hcell
  obtain ⟨n, hN⟩ : ∃ n, l.length = n := ⟨_, rfl⟩
  rw [hN] at hcc ha hl ⊢
  have HN := Lib.hid hN
  have HNO : Hid (nextU l s t = none → ∀ w', Below w.heap.size w w' → NextPost l s t w (.returned (.tuple #[zeroRec, .bool false])) w') := Lib.hid (fun g w' hb => ⟨.inr ⟨g, rfl⟩, hb⟩)
  have HYES : Hid (∀ x ∈ l, nextU l s t = some x → ∀ w', Below w.heap.size w w' → NextPost l s t w (.returned (.tuple #[agZU x, .bool true])) w') := Lib.hid (fun x hx g w' hb => ⟨.inl ⟨x, hx, g, rfl⟩, hb⟩)
  clear hcell hN h hr hsm hss hM hc h2 hL ht hst B0 hw0
  go_enter Tryz.func32, Tryz.ntmps32
  go_wp2
  rw [HW0.out]
  go_loopw [14] (fun i wr => ∃ (k : Nat), k ≤ n ∧ i = .int .i64 k ∧ Hid (∀ (j : Nat) x, j < k → l[j]? = some x → mayB s t x = false) ∧ Hid (Below w0.heap.size w0 wr)) (fun i _ => n - (intOf i).toNat)
  case atStart => exact ⟨0, by omega, rfl, Lib.hid (fun j x hj => by omega), Lib.hid (Below.refl _ _)⟩
  case round =>
    obtain ⟨k, hk, rfl, H, HB⟩ := hrel
    have hsz := HB.out.size
    have HBW : Hid (Below w.heap.size w wr) := Lib.hid (HB0.out.trans (HB.out.mono (by omega)))
    have HRW : Hid (wr.heap[w.heap.size]? = _) := Lib.hid ((HB.out.block _ (by omega)).trans HRB.out)
    by_cases hlt : k < n
    · obtain ⟨rfl, hbw⟩ := ha (by omega)
      obtain ⟨x, hx⟩ : ∃ x, l[k]? = some x := ⟨_, List.getElem?_eq_getElem (by rw [HN.out]; exact hlt)⟩
      have hm := List.mem_of_getElem? hx
      have HKY := Lib.hid (key_s (⟨x.nm.toArray⟩ : ByteArray) (by rw [sizeOf, bytesOf]; exact Nat.le_trans (HSM.out x hm) (by unfold maxLen; decide)))
      have hhas := HHAS.out x.nm
      obtain ⟨x0, x1, x2, x3, x4, x5, x6, x7, x8⟩ := HC.out k _ hx
      rw [← HBW.out.cell (p := ⟨b, o + k * 9, none⟩) hbw] at x0
      rw [← HBW.out.cell (p := ⟨b, o + k * 9 + 1, none⟩) hbw] at x1
      rw [← HBW.out.cell (p := ⟨b, o + k * 9 + 2, none⟩) hbw] at x2
      rw [← HBW.out.cell (p := ⟨b, o + k * 9 + 3, none⟩) hbw] at x3
      rw [← HBW.out.cell (p := ⟨b, o + k * 9 + 4, none⟩) hbw] at x4
      rw [← HBW.out.cell (p := ⟨b, o + k * 9 + 5, none⟩) hbw] at x5
      rw [← HBW.out.cell (p := ⟨b, o + k * 9 + 6, none⟩) hbw] at x6
      rw [← HBW.out.cell (p := ⟨b, o + k * 9 + 7, none⟩) hbw] at x7
      rw [← HBW.out.cell (p := ⟨b, o + k * 9 + 8, none⟩) hbw] at x8
      obtain ⟨a3, n3, m3, q3⟩ := formU3 (HIN.out x hm)
      obtain ⟨a4, n4, m4, q4⟩ := formU4 (HIN.out x hm)
      obtain ⟨a5, n5, m5, q5⟩ := formU5 (HIN.out x hm)
      obtain ⟨a6, n6, m6, q6⟩ := formU6 (HIN.out x hm)
      obtain ⟨a7, n7, m7, q7⟩ := formU7 (HIN.out x hm)
      obtain ⟨a8, n8, m8, q8⟩ := formU8 (HIN.out x hm)
      have EN1 := fun W (hb : Below w.heap.size w W) => HEN.out x hm W hb
      have HY := Lib.hid (fun (hmb : mayB s t x = true) => HYES.out x hm (next_at hx hmb H.out))
      have OP := fun W => open_any x.st W
      have B2 := HB.out.alloc hsz (.cells #[.string (⟨x.nm.toArray⟩ : ByteArray), .string (⟨x.vr.toArray⟩ : ByteArray), .int .i64 x.st, x.dv, x.cv, x.rv, x.fv, x.pv, x.av] 37)
      have HX : Hid (mayB s t x = false → ∀ (j : Nat) y, j < k + 1 → l[j]? = some y → mayB s t y = false) := Lib.hid (fun g j y hj hy => by
        by_cases e : j = k
        · subst e; rw [hx] at hy; cases hy; exact g
        · exact H.out j y (by omega) hy)
      unfold agZU at EN1 HY
      simp only [q3, q4, q5, q6, q7, q8] at EN1 HY x3 x4 x5 x6 x7 x8 B2
      obtain ⟨y0, y1, y2, y3, y4, y5, y6, y7, y8⟩ := boxV9 wr (.string (⟨x.nm.toArray⟩ : ByteArray)) (.string (⟨x.vr.toArray⟩ : ByteArray)) (.int .i64 x.st) (.slice a3 n3 m3) (.slice a4 n4 m4) (.slice a5 n5 m5) (.slice a6 n6 m6) (.slice a7 n7 m7) (.slice a8 n8 m8) 37
      have HMV : Hid (mayB s t x = (!decide (x.nm ∈ s) && openZ x.st && enoughB t x)) := Lib.hid rfl
      rw [bytesOf] at HKY
      have HM2 : Hid (∀ W : World, Below w.heap.size w W → W.ownsMap Tryz.prog 9 unitElem B q (setS s)) := Lib.hid (fun W hb => World.ownsMap.kept HMM.out (grownV hb) (by simp))
      generalize openZ x.st = ob at *
      generalize enoughB t x = eb at *
      generalize x.st = z at *
      generalize (⟨x.nm.toArray⟩ : ByteArray) = X0 at *
      generalize (⟨x.vr.toArray⟩ : ByteArray) = X1 at *
      have HB2 := Lib.hid B2
      have HBW2 : Hid (Below w.heap.size w (wr.alloc (.cells #[.string X0, .string X1, .int .i64 z, .slice a3 n3 m3, .slice a4 n4 m4, .slice a5 n5 m5, .slice a6 n6 m6, .slice a7 n7 m7, .slice a8 n8 m8] 37))) := Lib.hid (HB0.out.trans (B2.mono (by omega)))
      have HM3 := Lib.hid (HM2.out _ HBW2.out)
      have hin : Hid (decide (x.nm ∈ s) = true ∨ decide (x.nm ∈ s) = false) := Lib.hid (by cases decide (x.nm ∈ s) <;> simp)
      generalize decide (x.nm ∈ s) = db at *
      have HHA := Lib.hid hhas
      generalize setS s = D at *
      clear hx hm H HIN HC HSM HEN HHAS HYES q3 q4 q5 q6 q7 q8 B2 hhas hin
      cases db
      case true =>
        have HX2 := Lib.hid (HX.out (by rw [HMV.out]; rfl))
        clear HX HMV HY
        go_wp2_with (at_lookup; refine wpList_lookup_own_unit _ rfl _ _ 50 rfl 9 53 lawS Tryz.underlying50 (zeroU _) B q D rfl HM3.out _ _ rfl HKY.out ?_; rw [HHA.out])
        go_roundw
        case rel => exact ⟨k + 1, by omega, by go_num, HX2, Lib.hid (HB2.out.alloc (by simp; omega) _)⟩
        case measure => simp [intOf]; omega
      case false =>
        have b3 := (Below.refl (wr.alloc (.cells #[.string X0, .string X1, .int .i64 z, .slice a3 n3 m3, .slice a4 n4 m4, .slice a5 n5 m5, .slice a6 n6 m6, .slice a7 n7 m7, .slice a8 n8 m8] 37)).heap.size (wr.alloc (.cells #[.string X0, .string X1, .int .i64 z, .slice a3 n3 m3, .slice a4 n4 m4, .slice a5 n5 m5, .slice a6 n6 m6, .slice a7 n7 m7, .slice a8 n8 m8] 37))).alloc (Nat.le_refl _) (.cells #[] 53)
        have HB3 := Lib.hid (HB2.out.trans (b3.mono HB2.out.size))
        have HBW3 := Lib.hid (HBW2.out.trans (b3.mono HBW2.out.size))
        have u0 := (b3.cell (p := ⟨wr.heap.size, 0, none⟩) (by simp)).trans y0
        have u1 := (b3.cell (p := ⟨wr.heap.size, 1, none⟩) (by simp)).trans y1
        have u2 := (b3.cell (p := ⟨wr.heap.size, 2, none⟩) (by simp)).trans y2
        have u3 := (b3.cell (p := ⟨wr.heap.size, 3, none⟩) (by simp)).trans y3
        have u4 := (b3.cell (p := ⟨wr.heap.size, 4, none⟩) (by simp)).trans y4
        have u5 := (b3.cell (p := ⟨wr.heap.size, 5, none⟩) (by simp)).trans y5
        have u6 := (b3.cell (p := ⟨wr.heap.size, 6, none⟩) (by simp)).trans y6
        have u7 := (b3.cell (p := ⟨wr.heap.size, 7, none⟩) (by simp)).trans y7
        have u8 := (b3.cell (p := ⟨wr.heap.size, 8, none⟩) (by simp)).trans y8
        cases ob
        case false =>
          have HX2 := Lib.hid (HX.out (by rw [HMV.out]; rfl))
          clear HX HMV HY
          go_wp2_with (first | (at_lookup; refine wpList_lookup_own_unit _ rfl _ _ 50 rfl 9 53 lawS Tryz.underlying50 (zeroU _) B q D rfl HM3.out _ _ rfl HKY.out ?_; rw [HHA.out]) | (go_at_call 12; (with_reducible refine (OP _).mono ?_); rintro e wq ⟨rfl, rfl⟩))
          go_roundw
          case rel => exact ⟨k + 1, by omega, by go_num, HX2, HB3⟩
          case measure => simp [intOf]; omega
        case true =>
          cases eb
          case false =>
            have HX2 := Lib.hid (HX.out (by rw [HMV.out]; rfl))
            clear HX HMV HY
            go_wp2_with (first | (at_lookup; refine wpList_lookup_own_unit _ rfl _ _ 50 rfl 9 53 lawS Tryz.underlying50 (zeroU _) B q D rfl HM3.out _ _ rfl HKY.out ?_; rw [HHA.out]) | (go_at_call 12; (with_reducible refine (OP _).mono ?_); rintro e wq ⟨rfl, rfl⟩) | (go_at_call 30; (with_reducible refine (EN1 _ HBW3.out).mono ?_); rintro e w4 ⟨rfl, hb⟩; have HB4 := Lib.hid (HB3.out.trans (hb.mono HB3.out.size)); have HC4 := Lib.hid hb; clear hb))
            go_roundw
            case rel => exact ⟨k + 1, by omega, by go_num, HX2, HB4⟩
            case measure => simp [intOf]; omega
          case true =>
            have HY2 := Lib.hid (HY.out (by rw [HMV.out]; rfl))
            clear HX HMV HY
            go_wp2_with (first | (at_lookup; refine wpList_lookup_own_unit _ rfl _ _ 50 rfl 9 53 lawS Tryz.underlying50 (zeroU _) B q D rfl HM3.out _ _ rfl HKY.out ?_; rw [HHA.out]) | (go_at_call 12; (with_reducible refine (OP _).mono ?_); rintro e wq ⟨rfl, rfl⟩) | (go_at_call 30; (with_reducible refine (EN1 _ HBW3.out).mono ?_); rintro e w4 ⟨rfl, hb⟩; have HB4 := Lib.hid (HB3.out.trans (hb.mono HB3.out.size)); have HC4 := Lib.hid hb; clear hb; have z0 := (HC4.out.cell (p := ⟨wr.heap.size, 0, none⟩) (by simp; omega)).trans u0; have z1 := (HC4.out.cell (p := ⟨wr.heap.size, 1, none⟩) (by simp; omega)).trans u1; have z2 := (HC4.out.cell (p := ⟨wr.heap.size, 2, none⟩) (by simp; omega)).trans u2; have z3 := (HC4.out.cell (p := ⟨wr.heap.size, 3, none⟩) (by simp; omega)).trans u3; have z4 := (HC4.out.cell (p := ⟨wr.heap.size, 4, none⟩) (by simp; omega)).trans u4; have z5 := (HC4.out.cell (p := ⟨wr.heap.size, 5, none⟩) (by simp; omega)).trans u5; have z6 := (HC4.out.cell (p := ⟨wr.heap.size, 6, none⟩) (by simp; omega)).trans u6; have z7 := (HC4.out.cell (p := ⟨wr.heap.size, 7, none⟩) (by simp; omega)).trans u7; have z8 := (HC4.out.cell (p := ⟨wr.heap.size, 8, none⟩) (by simp; omega)).trans u8; have HR4 := Lib.hid ((HB4.out.block _ (by omega)).trans HRB.out); have r0 := cell_heapN (i := 0) HR4.out rfl; have g0 := frozen_of_row _ _ 0 _ _ HR4.out; have r1 := cell_heapN (i := 1) HR4.out rfl; have g1 := frozen_of_row _ _ 1 _ _ HR4.out; have r2 := cell_heapN (i := 2) HR4.out rfl; have g2 := frozen_of_row _ _ 2 _ _ HR4.out; have r3 := cell_heapN (i := 3) HR4.out rfl; have g3 := frozen_of_row _ _ 3 _ _ HR4.out; have r4 := cell_heapN (i := 4) HR4.out rfl; have g4 := frozen_of_row _ _ 4 _ _ HR4.out; have r5 := cell_heapN (i := 5) HR4.out rfl; have g5 := frozen_of_row _ _ 5 _ _ HR4.out; have r6 := cell_heapN (i := 6) HR4.out rfl; have g6 := frozen_of_row _ _ 6 _ _ HR4.out; have r7 := cell_heapN (i := 7) HR4.out rfl; have g7 := frozen_of_row _ _ 7 _ _ HR4.out; have r8 := cell_heapN (i := 8) HR4.out rfl; have g8 := frozen_of_row _ _ 8 _ _ HR4.out))
            have HBW4 := Lib.hid (HB0.out.trans (HB4.out.mono (by omega)))
            obtain ⟨k0, k1, k2, k3, k4, k5, k6, k7, k8⟩ := nine_cellsN (.string X0) (.string X1) (.int .i64 z) (.slice a3 n3 m3) (.slice a4 n4 m4) (.slice a5 n5 m5) (.slice a6 n6 m6) (.slice a7 n7 m7) (.slice a8 n8 m8) HR4.out
            have HBX := Lib.hid (nine_belowN HBW4.out (b := w.heap.size) (Nat.le_refl _) (.string X0) (.string X1) (.int .i64 z) (.slice a3 n3 m3) (.slice a4 n4 m4) (.slice a5 n5 m5) (.slice a6 n6 m6) (.slice a7 n7 m7) (.slice a8 n8 m8))
            refine bodyPost_ret (v := .tuple #[.agg #[.string X0, .string X1, .int .i64 z, .slice a3 n3 m3, .slice a4 n4 m4, .slice a5 n5 m5, .slice a6 n6 m6, .slice a7 n7 m7, .slice a8 n8 m8], .bool true]) ?_ rfl ?_
            · simp [results, Tryz.results32, go_sem, k0, k1, k2, k3, k4, k5, k6, k7, k8]
            · exact HY2.out _ HBX.out
    · obtain rfl : k = n := by omega
      have HF := Lib.hid (HNO.out (next_no fun x hx => by
        obtain ⟨j, hj, rfl⟩ := List.mem_iff_getElem.1 hx
        exact H.out j _ (by rw [HN.out] at hj; exact hj) (List.getElem?_eq_getElem hj)))
      have r0 := cell_heapN (i := 0) HRW.out rfl
      have g0 := frozen_of_row _ _ 0 _ _ HRW.out
      have r1 := cell_heapN (i := 1) HRW.out rfl
      have g1 := frozen_of_row _ _ 1 _ _ HRW.out
      have r2 := cell_heapN (i := 2) HRW.out rfl
      have g2 := frozen_of_row _ _ 2 _ _ HRW.out
      have r3 := cell_heapN (i := 3) HRW.out rfl
      have g3 := frozen_of_row _ _ 3 _ _ HRW.out
      have r4 := cell_heapN (i := 4) HRW.out rfl
      have g4 := frozen_of_row _ _ 4 _ _ HRW.out
      have r5 := cell_heapN (i := 5) HRW.out rfl
      have g5 := frozen_of_row _ _ 5 _ _ HRW.out
      have r6 := cell_heapN (i := 6) HRW.out rfl
      have g6 := frozen_of_row _ _ 6 _ _ HRW.out
      have r7 := cell_heapN (i := 7) HRW.out rfl
      have g7 := frozen_of_row _ _ 7 _ _ HRW.out
      have r8 := cell_heapN (i := 8) HRW.out rfl
      have g8 := frozen_of_row _ _ 8 _ _ HRW.out
      clear H HYES HNO HEN HIN HC HSM HHAS HMM
      go_wp2
      obtain ⟨k0, k1, k2, k3, k4, k5, k6, k7, k8⟩ := nine_cellsN (.string ⟨#[]⟩) (.string ⟨#[]⟩) (.int .i64 0) (.slice none 0 0) (.slice none 0 0) (.slice none 0 0) (.slice none 0 0) (.slice none 0 0) (.slice none 0 0) HRW.out
      have HBX := Lib.hid (nine_belowN HBW.out (b := w.heap.size) (Nat.le_refl _) (.string ⟨#[]⟩) (.string ⟨#[]⟩) (.int .i64 0) (.slice none 0 0) (.slice none 0 0) (.slice none 0 0) (.slice none 0 0) (.slice none 0 0) (.slice none 0 0))
      refine bodyPost_ret (v := .tuple #[zeroRec, .bool false]) ?_ rfl ?_
      · simp [results, Tryz.results32, go_sem, k0, k1, k2, k3, k4, k5, k6, k7, k8]
      · exact HF.out _ HBX.out
end Go.Proofs.YtpkdnohaefkfgaaGreatDoor
