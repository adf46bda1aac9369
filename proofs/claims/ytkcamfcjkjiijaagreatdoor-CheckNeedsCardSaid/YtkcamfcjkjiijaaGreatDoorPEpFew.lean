/-
  cellarerlaw19's Few of a package: where it tells true, all is small; nothing old turns.
-/
import Derived.Test.YtkcamfcjkjiijaaGreatDoorPEpOpen
import Derived.Test.YtkcamfcjkjiijaaGreatDoorPUFew
import Derived.Test.YtkcamfcjkjiijaaGreatDoorPTFind
namespace Go.Proofs.YtkcamfcjkjiijaaGreatDoor
open Go.RowKit Go.Shelf
/-- The record that the law makes of a package. -/
def recP (x : Pv) : Uv := ⟨x.nm, x.vr, 0, x.dp, x.cn, x.rp, [], [], [], x.dv, x.cv, x.rv, .slice none 0 0, .slice none 0 0, .slice none 0 0⟩
def sumF (l : List Fv) : Nat := (l.map fun f => min f.pt.length 6000 + min f.tx.length 6000).sum
theorem sumF_take {l : List Fv} {k : Nat} {y : Fv} (h : l[k]? = some y) : sumF (l.take (k + 1)) = sumF (l.take k) + (min y.pt.length 6000 + min y.tx.length 6000) := by
  unfold sumF
  rw [List.take_add_one, h]; simp
structure FewP (x : Pv) : Prop where
  fn : x.fl.length ≤ 40
  rc : FewR (recP x)
  it : FewI x.it
  sm : sumF x.fl ≤ 6000
  a0 : x.s0.length ≤ 10 ∧ ∀ k ∈ x.s0, SmK k
  a1 : x.s1.length ≤ 10 ∧ ∀ k ∈ x.s1, SmK k
  a2 : x.s2.length ≤ 10 ∧ ∀ k ∈ x.s2, SmK k
  a3 : x.s3.length ≤ 10 ∧ ∀ k ∈ x.s3, SmK k
def FewPP (x : Pv) (w : World) (e : Ending) (w' : World) : Prop := (∃ fb : Bool, e = .returned (.bool fb) ∧ (fb = true → FewP x)) ∧ Below w.heap.size w w'
theorem holdTNil (w : World) : HoldT w (.slice none 0 0) [] := ⟨none, 0, 0, 0, rfl, Nat.le_refl _, (fun h => by simp at h), fun j s hj => by simp at hj⟩
theorem fitRec {x : Pv} (h : FitP x) : FitU (recP x) := ⟨h.nm, h.vr, h.dn, h.dp, h.cl, h.cq, h.rl, h.rp, Nat.zero_le _, (fun c hc => by cases hc), Nat.zero_le _, (fun c hc => by cases hc), Nat.zero_le _, (fun c hc => by cases hc)⟩
theorem inRec {x : Pv} {w : World} (h : InP w x) : InU w (recP x) := ⟨h.dp, h.cn, h.rp, HoldV.nil 2 w, holdTNil w, holdTNil w⟩
theorem holdOneU (x : Uv) (W : World) (t : TypeId) (h : InU W x) : HoldU (W.alloc (.cells #[.string (⟨x.nm.toArray⟩ : ByteArray), .string (⟨x.vr.toArray⟩ : ByteArray), .int .i64 x.st, x.dv, x.cv, x.rv, x.fv, x.pv, x.av] t)) (.slice (some ⟨W.heap.size, 0, none⟩) 1 1) [x] := ⟨holdOne 9 W (cellsU x) t, fun y hy => by
  have e : y = x := by simpa using hy
  subst e
  exact h.on ((Below.refl _ _).alloc (Nat.le_refl _) _)⟩
set_option maxRecDepth 100000 in
set_option maxHeartbeats 8000000 in
theorem fewP_any (x : Pv) (hf : FitP x) (w : World) (h : InP w x) : Calls Tryz.prog 8 #[agP x] w (FewPP x w) := by
  have HNO : Hid (∀ w', Below w.heap.size w w' → FewPP x w (.returned (.bool false)) w') := Lib.hid (fun w' hb => ⟨⟨false, rfl, fun e => by cases e⟩, hb⟩)
  have HYES : Hid (∀ w', FewP x → Below w.heap.size w w' → FewPP x w (.returned (.bool true)) w') := Lib.hid (fun w' g hb => ⟨⟨true, rfl, fun _ => g⟩, hb⟩)
  obtain ⟨POST, hPO⟩ : ∃ P, FewPP x w = P := ⟨_, rfl⟩
  simp only [hPO] at HNO HYES ⊢
  have HIN := Lib.hid h
  have HFIT := Lib.hid hf
  obtain ⟨fa, fc, fb, fo, hfv, hfc, hfa, hcell⟩ := h.fl
  rw [List.length_map] at hfv hfc hfa
  have HC : Hid (∀ (j : Nat) y, x.fl[j]? = some y → w.cell? ⟨fb, fo + j * 7, none⟩ = some (.string (⟨y.pt.toArray⟩ : ByteArray)) ∧ w.cell? ⟨fb, fo + j * 7 + 5, none⟩ = some (.string (⟨y.tx.toArray⟩ : ByteArray))) := Lib.hid (fun j y hj => by
    have := hcell j (cellsFv y) (by rw [List.getElem?_map, hj]; rfl)
    exact ⟨this 0 _ (by omega) rfl, this 5 _ (by omega) rfl⟩)
  have hfn := hf.fn
  unfold maxLen at hfn
  have FU : Hid (∀ wr t, Below w.heap.size w wr → Calls Tryz.prog 32 #[.slice (some ⟨wr.heap.size, 0, none⟩) 1 1] (wr.alloc (.cells #[.string (⟨x.nm.toArray⟩ : ByteArray), .string (⟨x.vr.toArray⟩ : ByteArray), .int .i64 0, x.dv, x.cv, x.rv, .slice none 0 0, .slice none 0 0, .slice none 0 0] t)) (FewUP [recP x] (wr.alloc (.cells #[.string (⟨x.nm.toArray⟩ : ByteArray), .string (⟨x.vr.toArray⟩ : ByteArray), .int .i64 0, x.dv, x.cv, x.rv, .slice none 0 0, .slice none 0 0, .slice none 0 0] t)))) := Lib.hid (fun wr t hb => fewU_any _ [recP x] (by simp [maxLen]) (fun y hy => by rw [List.mem_singleton.1 hy]; exact fitRec HFIT.out) _ (holdOneU (recP x) wr t (inRec (HIN.out.on hb))))
  have FI : Hid (∀ wr, Below w.heap.size w wr → Calls Tryz.prog 35 #[x.iv] wr (FewPostI x.it wr)) := Lib.hid (fun wr hb => fewI_any x.iv x.it wr HFIT.out.il HFIT.out.it (HIN.out.on hb).it)
  have FA0 : Hid (∀ wr, Below w.heap.size w wr → Calls Tryz.prog 36 #[x.v0, .int .i64 10] wr fun e w' => (∃ fb : Bool, e = .returned (.bool fb) ∧ (fb = true → x.s0.length ≤ 10 ∧ ∀ k ∈ x.s0, SmK k)) ∧ Below wr.heap.size wr w') := Lib.hid (fun wr hb => fewActsL_any x.v0 x.s0 10 (by omega) HFIT.out.n0 HFIT.out.s0 wr (HIN.out.on hb).s0)
  have FA1 : Hid (∀ wr, Below w.heap.size w wr → Calls Tryz.prog 36 #[x.v1, .int .i64 10] wr fun e w' => (∃ fb : Bool, e = .returned (.bool fb) ∧ (fb = true → x.s1.length ≤ 10 ∧ ∀ k ∈ x.s1, SmK k)) ∧ Below wr.heap.size wr w') := Lib.hid (fun wr hb => fewActsL_any x.v1 x.s1 10 (by omega) HFIT.out.n1 HFIT.out.s1 wr (HIN.out.on hb).s1)
  have FA2 : Hid (∀ wr, Below w.heap.size w wr → Calls Tryz.prog 36 #[x.v2, .int .i64 10] wr fun e w' => (∃ fb : Bool, e = .returned (.bool fb) ∧ (fb = true → x.s2.length ≤ 10 ∧ ∀ k ∈ x.s2, SmK k)) ∧ Below wr.heap.size wr w') := Lib.hid (fun wr hb => fewActsL_any x.v2 x.s2 10 (by omega) HFIT.out.n2 HFIT.out.s2 wr (HIN.out.on hb).s2)
  have FA3 : Hid (∀ wr, Below w.heap.size w wr → Calls Tryz.prog 36 #[x.v3, .int .i64 10] wr fun e w' => (∃ fb : Bool, e = .returned (.bool fb) ∧ (fb = true → x.s3.length ≤ 10 ∧ ∀ k ∈ x.s3, SmK k)) ∧ Below wr.heap.size wr w') := Lib.hid (fun wr hb => fewActsL_any x.v3 x.s3 10 (by omega) HFIT.out.n3 HFIT.out.s3 wr (HIN.out.on hb).s3)
  have FG : Hid (x.fl.length ≤ 40 → FewR (recP x) → FewI x.it → sumF x.fl ≤ 6000 → (x.s0.length ≤ 10 ∧ ∀ k ∈ x.s0, SmK k) → (x.s1.length ≤ 10 ∧ ∀ k ∈ x.s1, SmK k) → (x.s2.length ≤ 10 ∧ ∀ k ∈ x.s2, SmK k) → (x.s3.length ≤ 10 ∧ ∀ k ∈ x.s3, SmK k) → FewP x) := Lib.hid (fun a b c d e f g h => ⟨a, b, c, d, e, f, g, h⟩)
  obtain ⟨⟨da, dc, _, _, hdv, -⟩, -⟩ := h.dp
  obtain ⟨ca, cc, _, _, hcv, -⟩ := h.cn
  obtain ⟨ra, rc, _, _, hrv, -⟩ := h.rp
  obtain ⟨ia, ic, _, _, hiv, -⟩ := h.it
  obtain ⟨⟨a0, c0, _, _, hv0, -⟩, -⟩ := h.s0
  obtain ⟨⟨a1, c1, _, _, hv1, -⟩, -⟩ := h.s1
  obtain ⟨⟨a2, c2, _, _, hv2, -⟩, -⟩ := h.s2
  obtain ⟨⟨a3, c3, _, _, hv3, -⟩, -⟩ := h.s3
  have HSZ : Hid (∀ y ∈ x.fl, y.pt.length ≤ maxLen ∧ y.tx.length ≤ maxLen) := Lib.hid hf.fl
  clear hcell h hf hPO HIN HFIT
  obtain ⟨P1, hP1⟩ : ∃ P, FewR (recP x) = P := ⟨_, rfl⟩
  have FU2 := FU
  clear FU
  have FU : Hid (∀ wr t, Below w.heap.size w wr → Calls Tryz.prog 32 #[.slice (some ⟨wr.heap.size, 0, none⟩) 1 1] (wr.alloc (.cells #[.string (⟨x.nm.toArray⟩ : ByteArray), .string (⟨x.vr.toArray⟩ : ByteArray), .int .i64 0, x.dv, x.cv, x.rv, .slice none 0 0, .slice none 0 0, .slice none 0 0] t)) fun e w' => ∃ fb : Bool, e = .returned (.bool fb) ∧ (fb = true → P1) ∧ Below wr.heap.size wr w') := Lib.hid (fun wr t hb => (FU2.out wr t hb).mono (fun e w' h => by
    obtain ⟨fb, g1, g2, g3⟩ := h
    exact ⟨fb, g1, (fun e => by rw [← hP1]; exact (g2 e).2 _ (List.mem_singleton.2 rfl)), ((Below.refl _ _).alloc (Nat.le_refl _) _).trans (g3.mono (by simp))⟩))
  clear FU2
  rw [hP1] at FG
  clear hP1
  obtain ⟨P2, hP2⟩ : ∃ P, FewI x.it = P := ⟨_, rfl⟩
  have FI2 : Hid (∀ wr, Below w.heap.size w wr → Calls Tryz.prog 35 #[x.iv] wr fun e w' => ∃ fb : Bool, e = .returned (.bool fb) ∧ (fb = true → P2) ∧ wr = w') := Lib.hid (fun wr hb => (FI.out wr hb).mono (fun e w' h => ⟨fewI x.it, h.1, (fun e => by
    rw [← hP2]
    by_cases q : FewI x.it
    · exact q
    · rw [fewI_no q] at e; cases e), h.2⟩))
  clear FI
  rw [hP2] at FG
  clear hP2
  obtain ⟨Q0, hQ0⟩ : ∃ P, (x.s0.length ≤ 10 ∧ ∀ k ∈ x.s0, SmK k) = P := ⟨_, rfl⟩
  obtain ⟨Q1, hQ1⟩ : ∃ P, (x.s1.length ≤ 10 ∧ ∀ k ∈ x.s1, SmK k) = P := ⟨_, rfl⟩
  obtain ⟨Q2, hQ2⟩ : ∃ P, (x.s2.length ≤ 10 ∧ ∀ k ∈ x.s2, SmK k) = P := ⟨_, rfl⟩
  obtain ⟨Q3, hQ3⟩ : ∃ P, (x.s3.length ≤ 10 ∧ ∀ k ∈ x.s3, SmK k) = P := ⟨_, rfl⟩
  rw [hQ0, hQ1, hQ2, hQ3] at FG
  simp only [hQ0] at FA0
  simp only [hQ1] at FA1
  simp only [hQ2] at FA2
  simp only [hQ3] at FA3
  clear hQ0 hQ1 hQ2 hQ3
  obtain ⟨FP, hFP⟩ : ∃ P, FewP x = P := ⟨_, rfl⟩
  rw [hFP] at FG HYES
  clear hFP
  obtain ⟨nm, vr, dp, cn, rp, fl, it, s0, s1, s2, s3, dv, cv, rv, fv, iv, v0, v1, v2, v3⟩ := x
  unfold agP
  dsimp only at *
  subst hfv hdv hcv hrv hiv hv0 hv1 hv2 hv3
  simp only [List.length_map] at *
  obtain ⟨n, hN⟩ : ∃ n, fl.length = n := ⟨_, rfl⟩
  simp only [hN] at hfc hfa hfn FG ⊢
  have HN := Lib.hid hN
  clear hN
  generalize dp.length = dn at *
  generalize cn.length = cl at *
  generalize rp.length = rn at *
  generalize it.length = im at *
  generalize s0.length = n0 at *
  generalize s1.length = n1 at *
  generalize s2.length = n2 at *
  generalize s3.length = n3 at *
  generalize (⟨nm.toArray⟩ : ByteArray) = NM at *
  generalize (⟨vr.toArray⟩ : ByteArray) = VR at *
  have HB1 : Hid (Below w.heap.size w (w.alloc (.cells #[.string NM, .string VR, .slice da dn dc, .slice ca cl cc, .slice ra rn rc, .slice fa n fc, .slice ia im ic, .slice a0 n0 c0, .slice a1 n1 c1, .slice a2 n2 c2, .slice a3 n3 c3] 38))) := Lib.hid ((Below.refl _ _).alloc (Nat.le_refl _) _)
  by_cases hlong : 40 < n
  · have HX := Lib.hid (HNO.out _ HB1.out)
    go_enter Tryz.func8, Tryz.ntmps8
    go_wp2
    exact HX.out
  have F1 := FU.out _ 71 HB1.out
  have hbox := fun i v (h : (#[Value.string NM, .string VR, .slice da dn dc, .slice ca cl cc, .slice ra rn rc, .slice fa n fc, .slice ia im ic, .slice a0 n0 c0, .slice a1 n1 c1, .slice a2 n2 c2, .slice a3 n3 c3] : Array Value)[i]? = some v) => boxK w _ 38 i v h
  have x5 := hbox 5 _ rfl
  have x6 := hbox 6 _ rfl
  have x7 := hbox 7 _ rfl
  have x8 := hbox 8 _ rfl
  have x9 := hbox 9 _ rfl
  have x10 := hbox 10 _ rfl
  clear hbox
  obtain ⟨w1, hw1⟩ : ∃ w1, w.alloc (.cells #[.string NM, .string VR, .slice da dn dc, .slice ca cl cc, .slice ra rn rc, .slice fa n fc, .slice ia im ic, .slice a0 n0 c0, .slice a1 n1 c1, .slice a2 n2 c2, .slice a3 n3 c3] 38) = w1 := ⟨_, rfl⟩
  have hs1 : w1.heap.size = w.heap.size + 1 := by rw [← hw1]; simp
  have XS : Hid (∀ W, Below w1.heap.size w1 W → W.cell? ⟨w.heap.size, 5, none⟩ = some (.slice fa n fc) ∧ W.cell? ⟨w.heap.size, 6, none⟩ = some (.slice ia im ic) ∧ W.cell? ⟨w.heap.size, 7, none⟩ = some (.slice a0 n0 c0) ∧ W.cell? ⟨w.heap.size, 8, none⟩ = some (.slice a1 n1 c1) ∧ W.cell? ⟨w.heap.size, 9, none⟩ = some (.slice a2 n2 c2) ∧ W.cell? ⟨w.heap.size, 10, none⟩ = some (.slice a3 n3 c3)) := Lib.hid (fun W hW => by
    have k := fun i v (h : w1.cell? ⟨w.heap.size, i, none⟩ = some v) => (hW.cell (p := ⟨w.heap.size, i, none⟩) (show w.heap.size < w1.heap.size by omega)).trans h
    rw [hw1] at x5 x6 x7 x8 x9 x10
    exact ⟨k 5 _ x5, k 6 _ x6, k 7 _ x7, k 8 _ x8, k 9 _ x9, k 10 _ x10⟩)
  have HT : Hid (∀ W, Below w1.heap.size w1 W → Below w.heap.size w W) := Lib.hid (fun W h => by have := HB1.out; rw [hw1] at this; exact this.trans (h.mono (by omega)))
  simp only [hw1] at F1
  rw [hs1] at F1
  have F1H := Lib.hid F1
  clear x5 x6 x7 x8 x9 x10 F1 FU
  go_enter Tryz.func8, Tryz.ntmps8
  have F1 := F1H.out
  rw [← hw1] at F1
  have HW1 := Lib.hid hw1
  have HS1 := Lib.hid hs1
  clear F1H hw1 hs1
  go_wp2_with (go_at_call 32; (with_reducible refine F1.mono ?_); rintro e w2 ⟨fb1, rfl, h1, h2⟩; rw [HW1.out, ← HS1.out] at h2; have H1 := Lib.hid h1; have HB2 := Lib.hid h2; have F2 := FI2.out w2 (HT.out _ h2); obtain ⟨x5, x6, x7, x8, x9, x10⟩ := XS.out _ h2; clear h1 h2 F1; cases fb1)
  · first | (go_ret; exact HNO.out _ (HT.out _ HB2.out)) | exact HNO.out _ (HT.out _ HB2.out)
  have G1 := Lib.hid (H1.out (by trivial))
  clear H1
  go_wp2_with (go_at_call 35; (with_reducible refine F2.mono ?_); rintro e w3 ⟨fb2, rfl, h1, rfl⟩; have H2 := Lib.hid h1; clear h1 F2; cases fb2)
  · first | (go_ret; exact HNO.out _ (HT.out _ HB2.out)) | exact HNO.out _ (HT.out _ HB2.out)
  have G2 := Lib.hid (H2.out (by trivial))
  clear H2
  go_wp2
  have HB3 := HB2
  clear HB2
  go_loopw [3, 4] (fun s i wr => ∃ k z : Nat, k ≤ n ∧ i = .int .i64 k ∧ s = .int .i64 z ∧ z ≤ 6000 ∧ Hid (sumF (fl.take k) = z) ∧ Hid (Below w1.heap.size w1 wr)) (fun _ i _ => n - (intOf i).toNat)
  case atStart => exact ⟨0, 0, by omega, rfl, rfl, by omega, Lib.hid rfl, HB3⟩
  case round =>
    obtain ⟨k, z, hk, rfl, rfl, hz, HK, HB2⟩ := hrel
    clear x5 x6 x7 x8 x9 x10
    obtain ⟨x5, -⟩ := XS.out _ HB2.out
    by_cases hlt : k < n
    · obtain ⟨rfl, hbw⟩ := hfa (by omega)
      obtain ⟨y, hy⟩ : ∃ y, fl[k]? = some y := ⟨_, List.getElem?_eq_getElem (by rw [HN.out]; exact hlt)⟩
      have c5 := HC.out k y hy
      have hzz := HSZ.out y (List.mem_of_getElem? hy)
      unfold maxLen at hzz
      obtain ⟨X, hX⟩ : ∃ X : ByteArray, (⟨y.pt.toArray⟩ : ByteArray) = X := ⟨_, rfl⟩
      obtain ⟨Y, hY⟩ : ∃ Y : ByteArray, (⟨y.tx.toArray⟩ : ByteArray) = Y := ⟨_, rfl⟩
      have sX : X.size = y.pt.length := by rw [← hX, sizeOf, bytesOf]
      have sY : Y.size = y.tx.length := by rw [← hY, sizeOf, bytesOf]
      have zX : X.size ≤ 9223372036854775807 := by omega
      have zY : Y.size ≤ 9223372036854775807 := by omega
      have q0 := ((HT.out _ HB2.out).cell (p := ⟨fb, fo + k * 7, none⟩) hbw).trans c5.1
      have q5 := ((HT.out _ HB2.out).cell (p := ⟨fb, fo + k * 7 + 5, none⟩) hbw).trans c5.2
      rw [hX] at q0
      rw [hY] at q5
      have HK2 : Hid (sumF (fl.take (k + 1)) = z + (min X.size 6000 + min Y.size 6000)) := Lib.hid (by rw [sumF_take hy, HK.out, sX, sY])
      clear c5 hX hY hy hzz sX sY HK
      have e1 : IntKind.i64.wrap (min (X.size : Int) 6000 + min (Y.size : Int) 6000) = min (X.size : Int) 6000 + min (Y.size : Int) 6000 := IntWalk.i64_in _ (by omega)
      have e2 : IntKind.i64.wrap ((z : Int) + (min (X.size : Int) 6000 + min (Y.size : Int) 6000)) = (z : Int) + (min (X.size : Int) 6000 + min (Y.size : Int) 6000) := IntWalk.i64_in _ (by omega)
      have i0 : (0 : Int) ≤ (k : Int) := by omega
      have i1 : (k : Int) < (n : Int) := by omega
      have hs := And.intro x5 (And.intro q0 (And.intro q5 HB2.out))
      go_wp2
      have BE := fun (V : World) (h : V.cell? ⟨w.heap.size, 5, none⟩ = some (.slice (some ⟨fb, fo, none⟩) n fc) ∧ V.cell? ⟨fb, fo + k * 7, none⟩ = some (.string X) ∧ V.cell? ⟨fb, fo + k * 7 + 5, none⟩ = some (.string Y) ∧ Below w1.heap.size w1 V) => AtF.be (w := w1) (l := [(⟨w.heap.size, 5, none⟩, .slice (some ⟨fb, fo, none⟩) n fc), (⟨fb, fo + k * 7, none⟩, .string X), (⟨fb, fo + k * 7 + 5, none⟩, .string Y)]) h
      refine wp_region_held_drew (S := (fun V => V.cell? ⟨w.heap.size, 5, none⟩ = some (.slice (some ⟨fb, fo, none⟩) n fc) ∧ V.cell? ⟨fb, fo + k * 7, none⟩ = some (.string X) ∧ V.cell? ⟨fb, fo + k * 7 + 5, none⟩ = some (.string Y) ∧ Below w1.heap.size w1 V)) (by kernel_rfl) ?_ (fun hHeld => ?_)
      · (try dsimp only); (first | assumption | exact hs | exact AtF.dr (w := w1) (l := [(⟨w.heap.size, 5, none⟩, .slice (some ⟨fb, fo, none⟩) n fc), (⟨fb, fo + k * 7, none⟩, .string X), (⟨fb, fo + k * 7 + 5, none⟩, .string Y)]) hs | exact AtF.dr (w := w1) (l := [(⟨w.heap.size, 5, none⟩, .slice (some ⟨fb, fo, none⟩) n fc), (⟨fb, fo + k * 7, none⟩, .string X), (⟨fb, fo + k * 7 + 5, none⟩, .string Y)]) (by assumption) | exact AtF.on (w := w1) (l := [(⟨w.heap.size, 5, none⟩, .slice (some ⟨fb, fo, none⟩) n fc), (⟨fb, fo + k * 7, none⟩, .string X), (⟨fb, fo + k * 7 + 5, none⟩, .string Y)]) (by assumption) (by assumption) | exact AtF.al (w := w1) (l := [(⟨w.heap.size, 5, none⟩, .slice (some ⟨fb, fo, none⟩) n fc), (⟨fb, fo + k * 7, none⟩, .string X), (⟨fb, fo + k * 7 + 5, none⟩, .string Y)]) (by assumption) _ | exact AtF.ald (w := w1) (l := [(⟨w.heap.size, 5, none⟩, .slice (some ⟨fb, fo, none⟩) n fc), (⟨fb, fo + k * 7, none⟩, .string X), (⟨fb, fo + k * 7 + 5, none⟩, .string Y)]) (by assumption) _ | exact AtF.al (w := w1) (l := [(⟨w.heap.size, 5, none⟩, .slice (some ⟨fb, fo, none⟩) n fc), (⟨fb, fo + k * 7, none⟩, .string X), (⟨fb, fo + k * 7 + 5, none⟩, .string Y)]) hs _ | exact AtF.ald (w := w1) (l := [(⟨w.heap.size, 5, none⟩, .slice (some ⟨fb, fo, none⟩) n fc), (⟨fb, fo + k * 7, none⟩, .string X), (⟨fb, fo + k * 7 + 5, none⟩, .string Y)]) hs _)
      refine heldY 0 39 ?_ _ rfl rfl (by kernel_rfl) (by kernel_rfl) (by kernel_rfl) (fun _ _ _ h => h) rfl (by assumption) ?_ ?_
      rotate_left
      · (intro w hSw; (try dsimp only at hSw); go_simp; (try with_reducible rfl))
      try simp only [List.setIfInBounds_toArray, List.set_cons_zero, List.set_cons_succ]
      refine heldY 1 40 ?_ _ rfl rfl (by kernel_rfl) (by kernel_rfl) (by kernel_rfl) (fun _ _ _ h => h) rfl (by assumption) ?_ ?_
      rotate_left
      · (intro w hSw; (try dsimp only at hSw); go_simp; (try with_reducible rfl))
      try simp only [List.setIfInBounds_toArray, List.set_cons_zero, List.set_cons_succ]
      refine heldY 2 41 ?_ _ rfl rfl (by kernel_rfl) (by kernel_rfl) (by kernel_rfl) (fun _ _ _ h => h) rfl (by assumption) ?_ ?_
      rotate_left
      · (intro w hSw; (try dsimp only at hSw); go_simp; (try with_reducible rfl))
      try simp only [List.setIfInBounds_toArray, List.set_cons_zero, List.set_cons_succ]
      refine heldY 3 42 ?_ _ rfl rfl (by kernel_rfl) (by kernel_rfl) (by kernel_rfl) (fun _ _ _ h => h) rfl (by assumption) ?_ ?_
      rotate_left
      · (intro w hSw; (try dsimp only at hSw); go_simp; (try with_reducible rfl))
      try simp only [List.setIfInBounds_toArray, List.set_cons_zero, List.set_cons_succ]
      refine heldY 4 43 ?_ _ rfl rfl (by kernel_rfl) (by kernel_rfl) (by kernel_rfl) (fun _ _ _ h => h) rfl (by assumption) ?_ ?_
      rotate_left
      · (intro w hSw; (try dsimp only at hSw); go_simp; (try with_reducible rfl))
      try simp only [List.setIfInBounds_toArray, List.set_cons_zero, List.set_cons_succ]
      refine heldY 5 44 ?_ _ rfl rfl (by kernel_rfl) (by kernel_rfl) (by kernel_rfl) (fun _ _ _ h => h) rfl (by assumption) ?_ ?_
      rotate_left
      · (intro w hSw; (try dsimp only at hSw); go_simp; (try with_reducible rfl))
      try simp only [List.setIfInBounds_toArray, List.set_cons_zero, List.set_cons_succ]
      refine heldY 6 45 ?_ _ rfl rfl (by kernel_rfl) (by kernel_rfl) (by kernel_rfl) (fun _ _ _ h => h) rfl (by assumption) ?_ ?_
      rotate_left
      · (intro w hSw; (try dsimp only at hSw); go_simp; (try with_reducible rfl))
      try simp only [List.setIfInBounds_toArray, List.set_cons_zero, List.set_cons_succ]
      refine heldY 7 46 ?_ _ rfl rfl (by kernel_rfl) (by kernel_rfl) (by kernel_rfl) (fun _ _ _ h => h) rfl (by assumption) ?_ ?_
      rotate_left
      · (intro w hSw; (try dsimp only at hSw); go_simp; (try with_reducible rfl))
      try simp only [List.setIfInBounds_toArray, List.set_cons_zero, List.set_cons_succ]
      refine heldY 8 47 ?_ _ rfl rfl (by kernel_rfl) (by kernel_rfl) (by kernel_rfl) (fun _ _ _ h => h) rfl (by assumption) ?_ ?_
      rotate_left
      · (intro w hSw; (try dsimp only at hSw); go_simp; (try with_reducible rfl))
      try simp only [List.setIfInBounds_toArray, List.set_cons_zero, List.set_cons_succ]
      refine heldY 9 48 ?_ _ rfl rfl (by kernel_rfl) (by kernel_rfl) (by kernel_rfl) (fun _ _ _ h => h) rfl (by assumption) ?_ ?_
      rotate_left
      · (intro w hSw; (try dsimp only at hSw); go_simp; (try with_reducible rfl))
      try simp only [List.setIfInBounds_toArray, List.set_cons_zero, List.set_cons_succ]
      refine heldY 10 49 ?_ _ rfl rfl (by kernel_rfl) (by kernel_rfl) (by kernel_rfl) (fun _ _ _ h => h) rfl (by assumption) ?_ ?_
      rotate_left
      · (intro w hSw; (try dsimp only at hSw); go_simp; (try with_reducible rfl))
      try simp only [List.setIfInBounds_toArray, List.set_cons_zero, List.set_cons_succ]
      refine heldY 11 50 ?_ _ rfl rfl (by kernel_rfl) (by kernel_rfl) (by kernel_rfl) (fun _ _ _ h => h) rfl (by assumption) ?_ ?_
      rotate_left
      · (intro w hSw; (try dsimp only at hSw); go_simp; (try with_reducible rfl))
      try simp only [List.setIfInBounds_toArray, List.set_cons_zero, List.set_cons_succ]
      refine heldY 12 51 ?_ _ rfl rfl (by kernel_rfl) (by kernel_rfl) (by kernel_rfl) (fun _ _ _ h => h) rfl (by assumption) ?_ ?_
      rotate_left
      · (intro w hSw; (try dsimp only at hSw); go_simp; (try with_reducible rfl))
      try simp only [List.setIfInBounds_toArray, List.set_cons_zero, List.set_cons_succ]
      refine heldY 13 52 ?_ _ rfl rfl (by kernel_rfl) (by kernel_rfl) (by kernel_rfl) (fun _ _ _ h => h) rfl (by assumption) ?_ ?_
      rotate_left
      · (intro w hSw; (try dsimp only at hSw); go_simp; (try with_reducible rfl))
      try simp only [List.setIfInBounds_toArray, List.set_cons_zero, List.set_cons_succ]
      refine heldY 14 53 ?_ _ rfl rfl (by kernel_rfl) (by kernel_rfl) (by kernel_rfl) (fun _ _ _ h => h) rfl (by assumption) ?_ ?_
      rotate_left
      · (intro w hSw; (try dsimp only at hSw); go_simp; (try with_reducible rfl))
      try simp only [List.setIfInBounds_toArray, List.set_cons_zero, List.set_cons_succ]
      refine heldY 15 54 ?_ _ rfl rfl (by kernel_rfl) (by kernel_rfl) (by kernel_rfl) (fun _ _ _ h => h) rfl (by assumption) ?_ ?_
      rotate_left
      · (intro w hSw; (try dsimp only at hSw); go_simp; (try with_reducible rfl))
      try simp only [List.setIfInBounds_toArray, List.set_cons_zero, List.set_cons_succ]
      refine heldY 16 55 ?_ _ rfl rfl (by kernel_rfl) (by kernel_rfl) (by kernel_rfl) (fun _ _ _ h => h) rfl (by assumption) ?_ ?_
      rotate_left
      · (intro w hSw; (try dsimp only at hSw); go_simp; (try with_reducible rfl))
      try simp only [List.setIfInBounds_toArray, List.set_cons_zero, List.set_cons_succ]
      refine heldY 17 56 ?_ _ rfl rfl (by kernel_rfl) (by kernel_rfl) (by kernel_rfl) (fun _ _ _ h => h) rfl (by assumption) ?_ ?_
      rotate_left
      · (intro w hSw; (try dsimp only at hSw); go_simp; (try with_reducible rfl))
      try simp only [List.setIfInBounds_toArray, List.set_cons_zero, List.set_cons_succ]
      refine heldY 18 57 ?_ _ rfl rfl (by kernel_rfl) (by kernel_rfl) (by kernel_rfl) (fun _ _ _ h => h) rfl (by assumption) ?_ ?_
      rotate_left
      · (intro w hSw; (try dsimp only at hSw); go_simp; (try with_reducible rfl))
      try simp only [List.setIfInBounds_toArray, List.set_cons_zero, List.set_cons_succ]
      refine heldY 19 3 ?_ _ rfl rfl (by kernel_rfl) (by kernel_rfl) (by kernel_rfl) (fun _ _ _ h => h) rfl (by assumption) ?_ ?_
      rotate_left
      · (intro w hSw; (try dsimp only at hSw); go_simp; (try with_reducible rfl))
      try simp only [List.setIfInBounds_toArray, List.set_cons_zero, List.set_cons_succ]
      refine wpAnyH_done (by kernel_rfl) ?_ _
      have HW := Lib.hid (BE _ hHeld)
      clear hHeld e1 e2
      by_cases hr : z + (min X.size 6000 + min Y.size 6000) ≤ 6000
      · have hr2 : ¬ (6000 : Int) < ↑z + (min (↑X.size) 6000 + min (↑Y.size) 6000) := by omega
        go_wp2
        go_roundw
        case rel => exact ⟨k + 1, z + (min X.size 6000 + min Y.size 6000), by omega, by go_num, by congr 1; omega, hr, HK2, HW⟩
        case measure => simp [intOf]; omega
      · have hr2 : (6000 : Int) < ↑z + (min (↑X.size) 6000 + min (↑Y.size) 6000) := by omega
        have HX := Lib.hid (HNO.out _ (HT.out _ HW.out))
        go_wp2
        first | (go_ret; exact HX.out) | exact HX.out
    · have hkn : k = n := by omega
      subst hkn
      have G3 : Hid (sumF fl ≤ 6000) := Lib.hid (by have := HK.out; rw [← HN.out, List.take_length] at this; omega)
      clear HK
      go_wp2
      go_loopw [5] (fun i wr => ∃ k : Nat, k ≤ 4 ∧ i = .int .i64 k ∧ Hid ((0 < k → Q0) ∧ (1 < k → Q1) ∧ (2 < k → Q2) ∧ (3 < k → Q3)) ∧ Hid (Below w1.heap.size w1 wr)) (fun i _ => 4 - (intOf i).toNat)
      case atStart => exact ⟨0, by omega, rfl, Lib.hid ⟨fun h => by omega, fun h => by omega, fun h => by omega, fun h => by omega⟩, HB2⟩
      case round =>
        obtain ⟨j, hj, rfl, HQ, HB⟩ := hrel
        clear x5
        obtain ⟨x5, x6, x7, x8, x9, x10⟩ := XS.out _ HB.out
        obtain rfl | rfl | rfl | rfl | rfl : j = 0 ∨ j = 1 ∨ j = 2 ∨ j = 3 ∨ j = 4 := by omega
        · have FA := FA0.out _ (HT.out _ HB.out)
          go_wp2_with (go_at_call 36; (with_reducible refine FA.mono ?_); rintro e w6 ⟨⟨fb3, rfl, h1⟩, h2⟩; have H3 := Lib.hid h1; have HB4 := Lib.hid (HB.out.trans (h2.mono HB.out.size)); clear h1 h2 FA; cases fb3)
          · first | (go_ret; exact HNO.out _ (HT.out _ HB4.out)) | exact HNO.out _ (HT.out _ HB4.out)
          · go_roundw
            case rel => exact ⟨1, by omega, by go_num, Lib.hid ⟨fun _ => H3.out (by trivial), fun h => by omega, fun h => by omega, fun h => by omega⟩, HB4⟩
            case measure => simp [intOf]
        · have FA := FA1.out _ (HT.out _ HB.out)
          go_wp2_with (go_at_call 36; (with_reducible refine FA.mono ?_); rintro e w6 ⟨⟨fb3, rfl, h1⟩, h2⟩; have H3 := Lib.hid h1; have HB4 := Lib.hid (HB.out.trans (h2.mono HB.out.size)); clear h1 h2 FA; cases fb3)
          · first | (go_ret; exact HNO.out _ (HT.out _ HB4.out)) | exact HNO.out _ (HT.out _ HB4.out)
          · go_roundw
            case rel => exact ⟨2, by omega, by go_num, Lib.hid ⟨fun _ => HQ.out.1 (by omega), fun _ => H3.out (by trivial), fun h => by omega, fun h => by omega⟩, HB4⟩
            case measure => simp [intOf]
        · have FA := FA2.out _ (HT.out _ HB.out)
          go_wp2_with (go_at_call 36; (with_reducible refine FA.mono ?_); rintro e w6 ⟨⟨fb3, rfl, h1⟩, h2⟩; have H3 := Lib.hid h1; have HB4 := Lib.hid (HB.out.trans (h2.mono HB.out.size)); clear h1 h2 FA; cases fb3)
          · first | (go_ret; exact HNO.out _ (HT.out _ HB4.out)) | exact HNO.out _ (HT.out _ HB4.out)
          · go_roundw
            case rel => exact ⟨3, by omega, by go_num, Lib.hid ⟨fun _ => HQ.out.1 (by omega), fun _ => HQ.out.2.1 (by omega), fun _ => H3.out (by trivial), fun h => by omega⟩, HB4⟩
            case measure => simp [intOf]
        · have FA := FA3.out _ (HT.out _ HB.out)
          go_wp2_with (go_at_call 36; (with_reducible refine FA.mono ?_); rintro e w6 ⟨⟨fb3, rfl, h1⟩, h2⟩; have H3 := Lib.hid h1; have HB4 := Lib.hid (HB.out.trans (h2.mono HB.out.size)); clear h1 h2 FA; cases fb3)
          · first | (go_ret; exact HNO.out _ (HT.out _ HB4.out)) | exact HNO.out _ (HT.out _ HB4.out)
          · go_roundw
            case rel => exact ⟨4, by omega, by go_num, Lib.hid ⟨fun _ => HQ.out.1 (by omega), fun _ => HQ.out.2.1 (by omega), fun _ => HQ.out.2.2.1 (by omega), fun _ => H3.out (by trivial)⟩, HB4⟩
            case measure => simp [intOf]
        · have HP := Lib.hid (HYES.out _ (FG.out (by omega) G1.out G2.out G3.out (HQ.out.1 (by omega)) (HQ.out.2.1 (by omega)) (HQ.out.2.2.1 (by omega)) (HQ.out.2.2.2 (by omega))) (HT.out _ HB.out))
          go_wp2
          first | (go_ret; exact HP.out) | exact HP.out
end Go.Proofs.YtkcamfcjkjiijaaGreatDoor
