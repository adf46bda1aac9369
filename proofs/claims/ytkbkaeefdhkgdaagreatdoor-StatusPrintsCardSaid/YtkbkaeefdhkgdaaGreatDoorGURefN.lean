import Derived.Test.YtkbkaeefdhkgdaaGreatDoorGURightA
import Derived.Test.YtkbkaeefdhkgdaaGreatDoorGBRefAll
set_option maxRecDepth 100000
set_option maxHeartbeats 32000000
namespace Go.Proofs.YtkbkaeefdhkgdaaGreatDoor
section
open Go.RowKit
structure FitU (x : Uv) : Prop where
 nm : x.nm.length ≤ maxLen
 vr : x.vr.length ≤ maxLen
 dn : x.dp.length ≤ maxLen
 dp : ∀ g ∈ x.dp, BigQ g.1 ∧ g.1.length ≤ maxLen
 cl : x.cn.length ≤ maxLen
 cq : BigQ x.cn
 rl : x.rp.length ≤ maxLen
 rp : ∀ s ∈ x.rp, s.length ≤ maxLen
 fl : x.cf.length ≤ maxLen
 cf : ∀ c ∈ x.cf, c.1.length ≤ maxLen ∧ c.2.length ≤ maxLen
 pl : x.pd.length ≤ maxLen
 pd : ∀ s ∈ x.pd, s.length ≤ maxLen
 al : x.aw.length ≤ maxLen
 aw : ∀ s ∈ x.aw, s.length ≤ maxLen
structure FewR (x : Uv) : Prop where
 nm : x.nm.length ≤ 4000
 vr : x.vr.length ≤ 4000
 dn : x.dp.length ≤ 70
 dp : ∀ g ∈ x.dp, g.1.length ≤ 70
 dt : (allE (fsts x.dp)).1.length ≤ 4000
 cl : x.cn.length ≤ 70
 cq : ∀ r ∈ x.cn, r.1.length ≤ 4000 ∧ r.2.2.length ≤ 4000
 rl : x.rp.length ≤ 70
 rp : ∀ s ∈ x.rp, s.length ≤ 4000
 fl : x.cf.length ≤ 70
 cf : ∀ c ∈ x.cf, c.1.length ≤ 4000 ∧ c.2.length ≤ 4000
 pl : x.pd.length ≤ 70
 pd : ∀ s ∈ x.pd, s.length ≤ 4000
 al : x.aw.length ≤ 70
 aw : ∀ s ∈ x.aw, s.length ≤ 4000
def FewU (l : List Uv) : Prop := l.length ≤ 70 ∧ ∀ x ∈ l, FewR x
theorem FewR.small {x : Uv} (h : FewR x) (f : FitU x) : SmallU x :=
 ⟨h.nm, h.vr, h.dn, fun g hg => ⟨(f.dp g hg).1, Nat.le_trans (h.dp g hg) (by decide)⟩, h.cl, f.cq, (Nat.le_trans h.rl (by decide)), h.rp, (Nat.le_trans h.fl (by decide)), h.cf, (Nat.le_trans h.pl (by decide)), h.pd, (Nat.le_trans h.al (by decide)), h.aw⟩
structure UptoU (x : Uv) (k : Nat) : Prop where
 dp : ∀ (j : Nat) g, j < k → x.dp[j]? = some g → g.1.length ≤ 70
 cq : ∀ (j : Nat) r, j < k → x.cn[j]? = some r → r.1.length ≤ 4000 ∧ r.2.2.length ≤ 4000
 rp : ∀ (j : Nat) s, j < k → x.rp[j]? = some s → s.length ≤ 4000
 cf : ∀ (j : Nat) c, j < k → x.cf[j]? = some c → c.1.length ≤ 4000 ∧ c.2.length ≤ 4000
 pd : ∀ (j : Nat) s, j < k → x.pd[j]? = some s → s.length ≤ 4000
 aw : ∀ (j : Nat) s, j < k → x.aw[j]? = some s → s.length ≤ 4000
theorem UptoU.zero (x : Uv) : UptoU x 0 := ⟨fun j _ h => by omega, fun j _ h => by omega, fun j _ h => by omega, fun j _ h => by omega, fun j _ h => by omega, fun j _ h => by omega⟩
theorem upto_next {α : Type} {l : List α} {P : α → Prop} {k : Nat} (h : ∀ (j : Nat) a, j < k → l[j]? = some a → P a) (hk : ∀ a, l[k]? = some a → P a) : ∀ (j : Nat) a, j < k + 1 → l[j]? = some a → P a := fun j a hj ha => by
 by_cases e : j = k
 ·
  subst e; exact hk a ha
 ·
  exact h j a (by omega) ha
theorem UptoU.next {x : Uv} {k : Nat} (h : UptoU x k) (h1 : ∀ g, x.dp[k]? = some g → g.1.length ≤ 70) (h2 : ∀ r, x.cn[k]? = some r → r.1.length ≤ 4000 ∧ r.2.2.length ≤ 4000) (h3 : ∀ s, x.rp[k]? = some s → s.length ≤ 4000) (h4 : ∀ c, x.cf[k]? = some c → c.1.length ≤ 4000 ∧ c.2.length ≤ 4000) (h5 : ∀ s, x.pd[k]? = some s → s.length ≤ 4000) (h6 : ∀ s, x.aw[k]? = some s → s.length ≤ 4000) : UptoU x (k + 1) :=
 ⟨upto_next h.dp h1, upto_next h.cq h2, upto_next h.rp h3, upto_next h.cf h4, upto_next h.pd h5, upto_next h.aw h6⟩
theorem upto_all {α : Type} {l : List α} {P : α → Prop} {k : Nat} (h : ∀ (j : Nat) a, j < k → l[j]? = some a → P a) (hk : l.length ≤ k) : ∀ a ∈ l, P a := fun a ha => by
 obtain ⟨i, hi⟩ := List.mem_iff_getElem?.1 ha
 exact h i a (by have := (List.getElem?_eq_some_iff.1 hi).1; omega) hi
theorem UptoU.few {x : Uv} (h : UptoU x 70) (h0 : x.nm.length ≤ 4000) (h1 : x.vr.length ≤ 4000) (hd : (allE (fsts x.dp)).1.length ≤ 4000) (h3 : x.dp.length ≤ 70) (h4 : x.cn.length ≤ 70) (h5 : x.rp.length ≤ 70) (h6 : x.cf.length ≤ 70) (h7 : x.pd.length ≤ 70) (h8 : x.aw.length ≤ 70) : FewR x :=
 ⟨h0, h1, h3, upto_all h.dp h3, hd, h4, upto_all h.cq h4, h5, upto_all h.rp h5, h6, upto_all h.cf h6, h7, upto_all h.pd h7, h8, upto_all h.aw h8⟩
end
section
open Go.RowKit
def namesB (l : List Bs) : Bool := l.all nameB && decide (l.length ≤ 64)
theorem namesB_no {l : List Bs} {i : Nat} {x : Bs} (hx : l[i]? = some x) (h : nameB x = false) : namesB l = false := by
 unfold namesB
 rw [List.all_eq_false.2 ⟨x, List.mem_of_getElem? hx, by rw [h]; simp⟩]; rfl
theorem namesB_yes {l : List Bs} (h : ∀ (j : Nat) x, l[j]? = some x → nameB x = true) : namesB l = decide (l.length ≤ 64) := by
 unfold namesB
 rw [List.all_eq_true.2 (fun x hx => by obtain ⟨j, hj⟩ := List.mem_iff_getElem?.1 hx; exact h j x hj)]; rfl
def RiseU (l : List Bs) : Prop := ∀ (i : Nat) x y, l[i]? = some x → l[i + 1]? = some y → x < y
open Classical in
noncomputable def riseB (l : List Bs) : Bool := decide (l.length ≤ 64 ∧ RiseU l)
open Classical in
theorem riseB_no {l : List Bs} {i : Nat} {x y : Bs} (hx : l[i]? = some x) (hy : l[i + 1]? = some y) (h : ¬ x < y) : riseB l = false := by
 unfold riseB
 exact decide_eq_false (fun g => h (g.2 i x y hx hy))
open Classical in
theorem riseB_yes {l : List Bs} (h : RiseU l) : riseB l = decide (l.length ≤ 64) := by
 unfold riseB
 by_cases g : l.length ≤ 64
 ·
  rw [decide_eq_true g]; exact decide_eq_true ⟨g, h⟩
 ·
  rw [decide_eq_false g]; exact decide_eq_false (fun q => g q.1)
theorem names_ref8 (v : Value) (l : List Bs) (hl : l.length ≤ 90000) (hs : ∀ x ∈ l, x.length ≤ 4000) (w : World) (h : HoldT w v l) : Calls Tryz.prog 59 #[v] w fun e w' => e = .returned (.bool (namesB l)) ∧ w = w' := by
 obtain ⟨a, c, b, o, rfl, hc, ha, hcell⟩ := h
 have HC := Lib.hid hcell
 have HS := Lib.hid hs
 have HNO : Hid (∀ (i : Nat) x, l[i]? = some x → nameB x = false → false = namesB l) := Lib.hid (fun i x hx g => (namesB_no hx g).symm)
 have HYES : Hid ((∀ (j : Nat) x, l[j]? = some x → nameB x = true) → decide ((l.length : Int) ≤ 64) = namesB l) := Lib.hid (fun g => by rw [namesB_yes g]; congr 1; apply propext; omega)
 generalize namesB l = Z at *
 obtain ⟨n, hN⟩ : ∃ n, l.length = n := ⟨_, rfl⟩
 rw [hN] at hc ha hl HYES ⊢
 have HN := Lib.hid hN
 clear hcell hN hs
 go_enter Tryz.func59, Tryz.ntmps59
 go_wp2
 go_loop [3] (fun i => ∃ k : Nat, k ≤ n ∧ i = .int .i64 k ∧ Hid (∀ (j : Nat) x, j < k → l[j]? = some x → nameB x = true)) (fun i => n - (intOf i).toNat)
 case atStart => exact ⟨0, by omega, rfl, Lib.hid (fun j y hj => by omega)⟩
 case round =>
  obtain ⟨k, hk, rfl, H⟩ := hrel
  by_cases hlt : k < n
  ·
   obtain ⟨rfl, hbw⟩ := ha (by omega)
   obtain ⟨x, hx⟩ : ∃ x, l[k]? = some x := ⟨_, List.getElem?_eq_getElem (by rw [HN.out]; exact hlt)⟩
   have c0 := HC.out k x hx
   have RA := fun W => name_ref (⟨x.toArray⟩ : ByteArray) (by rw [sizeOf, bytesOf]; exact HS.out x (List.mem_of_getElem? hx)) W
   rw [bytesOf] at RA
   have HX := Lib.hid hx
   clear hx
   cases hq : nameB x
   ·
    have HF := Lib.hid (HNO.out k x HX.out hq)
    simp only [hq] at RA
    clear hq H HNO HYES HC HS HX
    generalize (⟨x.toArray⟩ : ByteArray) = X at *
    go_wp2_with (go_at_call 58; (with_reducible refine (RA _).mono ?_); rintro e w3 ⟨rfl, rfl⟩)
    go_ret
    exact ⟨retb HF.out, rfl⟩
   ·
    have HK : Hid (∀ (j : Nat) u, j < k + 1 → l[j]? = some u → nameB u = true) := Lib.hid (fun j u hj hu => by
     by_cases e : j = k
     ·
      subst e; rw [HX.out] at hu; cases hu; exact hq
     ·
      exact H.out j u (by omega) hu)
    simp only [hq] at RA
    clear hq H HNO HC HS HX
    generalize (⟨x.toArray⟩ : ByteArray) = X at *
    go_wp2_with (go_at_call 58; (with_reducible refine (RA _).mono ?_); rintro e w3 ⟨rfl, rfl⟩)
    go_round
    case rel => exact ⟨k + 1, by omega, by go_num, HK⟩
    case measure => simp [intOf]; omega
  ·
   obtain rfl : k = n := by omega
   have HF := Lib.hid (HYES.out (fun j x hx => H.out j x (by have := (List.getElem?_eq_some_iff.1 hx).1; rw [HN.out] at this; exact this) hx))
   clear hlt H HNO HYES HC HS
   go_wp2
   go_ret
   exact ⟨retb HF.out, rfl⟩
theorem rising_ref8 (v : Value) (l : List Bs) (hl : l.length ≤ 90000) (w : World) (h : HoldT w v l) : Calls Tryz.prog 63 #[v] w fun e w' => e = .returned (.bool (riseB l)) ∧ ∃ q, w' = w.drewN q := by
 obtain ⟨a, c, b, o, rfl, hc, ha, hcell⟩ := h
 have HC := Lib.hid hcell
 have HNO : Hid (∀ (i : Nat) x y, l[i]? = some x → l[i + 1]? = some y → ¬ x < y → false = riseB l) := Lib.hid (fun i x y hx hy g => (riseB_no hx hy g).symm)
 have HYES : Hid (RiseU l → decide ((l.length : Int) ≤ 64) = riseB l) := Lib.hid (fun g => by rw [riseB_yes g]; congr 1; apply propext; omega)
 generalize riseB l = Z at *
 obtain ⟨n, hN⟩ : ∃ n, l.length = n := ⟨_, rfl⟩
 rw [hN] at hc ha hl HYES ⊢
 have HN := Lib.hid hN
 clear hcell hN
 go_enter Tryz.func63, Tryz.ntmps63
 go_wp2
 go_loopw [3] (fun i wr => ∃ k : Nat, 1 ≤ k ∧ k ≤ n + 1 ∧ i = .int .i64 k ∧ Hid (∀ (j : Nat) x y, j + 1 < k → l[j]? = some x → l[j + 1]? = some y → x < y) ∧ Hid (∃ q, wr = w.drewN q)) (fun i _ => n + 1 - (intOf i).toNat)
 case atStart => exact ⟨1, by omega, by omega, rfl, Lib.hid (fun j x y hj => by omega), Lib.hid ⟨0, rfl⟩⟩
 case round =>
  obtain ⟨k, hk1, hk, rfl, H, HQ⟩ := hrel
  by_cases hlt : k < n
  ·
   obtain ⟨rfl, hbw⟩ := ha (by omega)
   obtain ⟨x, hx⟩ : ∃ x, l[k - 1]? = some x := ⟨_, List.getElem?_eq_getElem (by rw [HN.out]; omega)⟩
   obtain ⟨y, hy⟩ : ∃ y, l[k]? = some y := ⟨_, List.getElem?_eq_getElem (by rw [HN.out]; omega)⟩
   obtain ⟨q, hw⟩ := HQ.out
   have c0 := HC.out (k - 1) x hx
   have c1 := HC.out k y hy
   rw [← World.cell?_drewN w q] at c0 c1
   rw [← hw] at c0 c1
   have HMM : Hid (∀ m', ∃ q, wr.drewN m' = w.drewN q) := Lib.hid (fun m' => ⟨q + m', by rw [hw, World.drewN_drewN]⟩)
   have hls := lessT (⟨x.toArray⟩ : ByteArray) (⟨y.toArray⟩ : ByteArray)
   rw [bytesOf, bytesOf] at hls
   have HX := Lib.hid (And.intro hx (show l[k - 1 + 1]? = some y by rw [show k - 1 + 1 = k by omega]; exact hy))
   clear hx hy hw HQ
   have i0 : (0 : Int) ≤ (k : Int) - 1 := by omega
   have i1 : (k : Int) - 1 < (n : Int) := by omega
   have i2 : ((k : Int) - 1).toNat = k - 1 := by omega
   have i3 : IntKind.i64.wrap ((k : Int) - 1) = (k : Int) - 1 := IntWalk.i64_in _ (by omega)
   have j0 : (0 : Int) ≤ (k : Int) := by omega
   have j1 : (k : Int) < (n : Int) := by omega
   by_cases hq : x < y
   ·
    have HK : Hid (∀ (j : Nat) u v, j + 1 < k + 1 → l[j]? = some u → l[j + 1]? = some v → u < v) := Lib.hid (fun j u v hj hu hv => by
     by_cases e : j + 1 = k
     ·
      obtain rfl : j = k - 1 := by omega
      rw [HX.out.1] at hu; rw [HX.out.2] at hv; cases hu; cases hv; exact hq
     ·
      exact H.out j u v (by omega) hu hv)
    rw [decide_eq_true hq] at hls
    clear hq H HNO HC HX
    generalize (⟨x.toArray⟩ : ByteArray) = X at *
    generalize (⟨y.toArray⟩ : ByteArray) = Y at *
    go_wp2
    go_quiet (fail)
    go_wp2
    go_roundw
    case rel => exact ⟨k + 1, by omega, by omega, by go_num, HK, Lib.hid (HMM.out _)⟩
    case measure => simp [intOf]; omega
   ·
    have HF := Lib.hid (HNO.out (k - 1) x y HX.out.1 HX.out.2 hq)
    rw [decide_eq_false hq] at hls
    clear hq H HNO HYES HC HX
    generalize (⟨x.toArray⟩ : ByteArray) = X at *
    generalize (⟨y.toArray⟩ : ByteArray) = Y at *
    go_wp2
    go_quiet (fail)
    go_wp2
    go_ret
    exact ⟨retb HF.out, HMM.out _⟩
  ·
   have HF := Lib.hid (HYES.out (fun j x y hx hy => H.out j x y (by have := (List.getElem?_eq_some_iff.1 hy).1; rw [HN.out] at this; omega) hx hy))
   clear H HNO HYES HC
   go_wp2
   go_ret
   exact ⟨retb HF.out, HQ.out⟩
end
section
open Go.RowKit
theorem allLong_ref (v : Value) (l : List Gv) (hl : l.length ≤ 500) (hs : ∀ x ∈ l, x.1.length ≤ maxLen) (hg : (fsts l).any longG = true) (w : World) (h : HoldGs w v l) : Calls Tryz.prog 14 #[v] w (TwoP (allE (fsts l)) w) := by
 have HE : Hid (∀ w', Below w.heap.size w w' → TwoP (allE (fsts l)) w (.returned (.tuple #[.string ⟨#[]⟩, .int .i64 22])) w') := Lib.hid (fun w' hb => ⟨by unfold allE; rw [if_pos (by rw [hg]; simp)], hb⟩)
 obtain ⟨a, c, b, o, rfl, hc, ha, hcell⟩ := h.parts
 have HC := Lib.hid hcell
 have HG := Lib.hid h
 have HS := Lib.hid hs
 obtain ⟨n, hN⟩ : ∃ n, l.length = n := ⟨_, rfl⟩
 rw [hN] at hc ha hl ⊢
 have HN := Lib.hid hN
 have HA := Lib.hid hg
 clear hcell hN h hs hg
 go_enter Tryz.func14, Tryz.ntmps14
 go_wp2
 go_loop [4] (fun i => ∃ k : Nat, k ≤ n ∧ i = .int .i64 k ∧ Hid (∀ (j : Nat) y, j < k → l[j]? = some y → longG y.1 = false)) (fun i => n - (intOf i).toNat)
 case atStart => exact ⟨0, by omega, rfl, Lib.hid (fun j y hj => by omega)⟩
 case round =>
  obtain ⟨k, hk, rfl, H⟩ := hrel
  by_cases hlt : k < n
  ·
   obtain ⟨rfl, hbw⟩ := ha (by omega)
   obtain ⟨⟨g0, sv⟩, hx⟩ : ∃ x, l[k]? = some x := ⟨_, List.getElem?_eq_getElem (by rw [HN.out]; exact hlt)⟩
   have hgx := HG.out.2 _ (List.mem_of_getElem? hx)
   have hsm := HS.out _ (List.mem_of_getElem? hx)
   have c0 := HC.out k _ hx
   dsimp only at c0 hgx hsm
   obtain ⟨sa, sc, -, -, hsv, -⟩ := hgx.parts
   subst hsv
   unfold maxLen at hsm
   by_cases h64 : 64 < g0.length
   ·
    generalize g0.length = gn at *
    clear hx hgx H
    go_wp2
    go_ret2
    exact HE.out _ (Below.refl _ _)
   ·
    have HX : Hid (∀ (j : Nat) y, j < k + 1 → l[j]? = some y → longG y.1 = false) := Lib.hid (fun j y hj hy => by
     by_cases e : j = k
     ·
      subst e
      rw [hx] at hy; cases hy
      unfold longG; exact decide_eq_false h64
     ·
      exact H.out j y (by omega) hy)
    generalize g0.length = gn at *
    clear hx hgx H
    go_wp2
    go_round
    case rel => exact ⟨k + 1, by omega, by go_num, HX⟩
    case measure => simp [intOf]; omega
  ·
   exfalso
   have HLG := long_miss (fun j y hy => H.out j y (by have := (List.getElem?_eq_some_iff.1 hy).1; rw [HN.out] at this; omega) hy)
   rw [HA.out] at HLG
   cases HLG
theorem allFit_ref (v : Value) (l : List Gv) (hl : l.length ≤ 500) (hs : ∀ x ∈ l, BigQ x.1 ∧ x.1.length ≤ maxLen) (w : World) (h : HoldGs w v l) : Calls Tryz.prog 14 #[v] w (TwoP (allE (fsts l)) w) := by
 by_cases hg : (fsts l).any longG = true
 ·
  exact allLong_ref v l hl (fun x hx => (hs x hx).2) hg w h
 ·
  refine allEBig_ref v l hl (fun x hx => ⟨(hs x hx).1, ?_⟩) w h
  have := List.any_eq_false.1 (Bool.eq_false_iff.2 hg) x.1 (List.mem_map.2 ⟨x, hx, rfl⟩)
  unfold longG at this
  have : ¬ 64 < x.1.length := by simpa using this
  omega
end
end Go.Proofs.YtkbkaeefdhkgdaaGreatDoor
