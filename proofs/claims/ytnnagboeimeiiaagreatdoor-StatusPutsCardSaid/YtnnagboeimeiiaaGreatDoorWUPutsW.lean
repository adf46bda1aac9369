import Derived.Test.YtnnagboeimeiiaaGreatDoorWURightsW
import Derived.Test.YtnnagboeimeiiaaGreatDoorWUSame
namespace Go.Proofs.YtnnagboeimeiiaaGreatDoor
open Go.RowKit
theorem put_atU (l : List Uv) (x : Uv) : ∃ k : Nat, idxU (putU l x) x.nm = k ∧ (putU l x)[k]? = some x := by
 have hp : ∀ (L : List Uv) (k : Nat), L[k]? = some x → (∀ (j : Nat) y, j < k → L[j]? = some y → nmIsU x.nm y = false) → idxU L x.nm = k := fun L k h1 h2 => idxK_hit h1 (by unfold nmIsU; exact decide_eq_true rfl) h2
 unfold putU
 cases hf : l.findIdx? (nmIsU x.nm) with
 | some k =>
   dsimp only
   obtain ⟨hk, h1, h2⟩ := List.findIdx?_eq_some_iff_getElem.1 hf
   have hg : (l.set k x)[k]? = some x := List.getElem?_set_self hk
   refine ⟨k, hp _ k hg (fun j y hj hy => ?_), hg⟩
   rw [List.getElem?_set_ne (by omega)] at hy
   obtain ⟨hj', rfl⟩ := List.getElem?_eq_some_iff.1 hy
   exact Bool.eq_false_iff.2 (h2 j hj)
 | none =>
   dsimp only
   have hc : cutUU l x.nm ≤ l.length := by
     unfold cutUU
     cases hg : l.findIdx? (nmOverU x.nm) with
     | none => exact Nat.le_refl _
     | some k0 => exact Nat.le_of_lt (List.findIdx?_eq_some_iff_getElem.1 hg).1
   generalize cutUU l x.nm = c at hc
   have hl : (l.take c).length = c := by rw [List.length_take]; omega
   have hg : (l.take c ++ x :: l.drop c)[c]? = some x := by rw [List.getElem?_append_right (by omega), hl, Nat.sub_self]; rfl
   refine ⟨c, hp _ c hg (fun j y hj hy => ?_), hg⟩
   rw [List.getElem?_append_left (by omega)] at hy
   exact List.findIdx?_eq_none_iff.1 hf y (List.mem_of_mem_take (List.mem_of_getElem? hy))
theorem hugeU {x : Uv} (h : FewR x) : NotHugeU x := ⟨by have := h.dn; omega, fun p hp => by have := h.dp p hp; omega, by have := h.cl; omega, by have := h.rl; omega, by have := h.fl; omega, by have := h.pl; omega, by have := h.al; omega⟩
set_option maxRecDepth 100000 in
set_option maxHeartbeats 4000000 in
theorem checkU_any (v : Value) (l : List Uv) (hl : l.length ≤ 90000) (hs : ∀ x ∈ l, SmallU x) (w : World) (h : HoldU w v l) (hL : LaidU w) (hE : LaidE w) : Calls Tryz.prog 11 #[v] w fun e w' => e = .returned (.int .i64 (kchkK rightU (fun x => x.nm) l)) ∧ Below w.heap.size w w' := by
 have C := kcheckU_any 16 #[] (enters_of Tryz.func16 (by kernel_rfl) rfl) rightU v l hl w h (fun x hx W hW => rightU_any x (hs x hx) W ((h.2 x hx).on hW) (hL.on hW) (hE.on hW))
 unfold keyFU at C
 obtain ⟨a, c, b, o, rfl, -⟩ := h.parts
 generalize kchkK rightU (fun x => x.nm) l = Z at *
 clear h hL hE hs
 go_enter Tryz.func11, Tryz.ntmps11
 go_wp2_with (go_at_call 35; (with_reducible refine C.mono ?_); rintro e w1 ⟨rfl, hb⟩; have HB := Lib.hid hb; clear hb)
 go_ret
 exact ⟨rfl, HB.out⟩
namespace UPutsW
set_option maxRecDepth 100000 in
set_option maxHeartbeats 32000000 in
theorem walk (v : Value) (l : List Uv) (hl : l.length ≤ maxLen) (hf : ∀ y ∈ l, FitU y) (x : Uv) (hx : FitU x) (p : ByteArray) (hp : p.size ≤ maxLen) (w : World) (hL : LaidU w) (hE : LaidE w) (h : HoldU w v l) (hi : InU w x) :
   Calls Tryz.prog 6 #[v, agZU x, .string p] w fun e w' => e = .returned (.bool true) ∧ Below w.heap.size w w' := by
 have B1 := (Below.refl w.heap.size w).alloc (Nat.le_refl _) (.cells #[.string (⟨x.nm.toArray⟩ : ByteArray), .string (⟨x.vr.toArray⟩ : ByteArray), .int .i64 x.st, x.dv, x.cv, x.rv, x.fv, x.pv, x.av] 43)
 have FW := fun W (hb : Below w.heap.size w W) => fewU_any v l hl hf W (h.on hb)
 have FX := fun W (hb : Below w.heap.size w W) => fewU_any (.slice (some ⟨W.heap.size, 0, none⟩) 1 1) [x] (by simp [maxLen]) (fun y hy => by simp at hy; subst hy; exact hx) _ (holdU_one W x (hi.on hb))
 have AW := fun W (hb : Below w.heap.size w W) => awake8 W (hL.on hb)
 have P1 := fun (g : l.length ≤ 70) W (hb : Below w.heap.size w W) => putU_any v l (by omega) x W (h.on hb) (hi.on hb)
 have P2 := fun (g : l.length ≤ 70) W (hb : Below w.heap.size w W) => putU_ref v l (by omega) x W (h.on hb) (hi.on hb)
 have D1 := fun (g : l.length ≤ 70) W (hb : Below w.heap.size w W) => dropU_any v l (by omega) p W (h.on hb)
 have D2 := fun (g : l.length ≤ 70) W (hb : Below w.heap.size w W) => dropU_ref v l (by omega) p W (h.on hb)
 have F1 := fun (g : l.length ≤ 70) W (hb : Below w.heap.size w W) => findU_any v l (by omega) p W (h.on hb)
 have F2 := fun (g : l.length ≤ 70) W (hb : Below w.heap.size w W) => findU_ref v l (by omega) p W (h.on hb)
 have al : ∀ (L : List Uv) (k : Nat) a b, L[k]? = some a → L[k]? = some b → AlikeU a b := fun L k a b h1 h2 => by rw [h1] at h2; cases h2; exact AlikeU.refl _
 have S1 := fun (g : FewU l) (g2 : FewR x) u1 u2 W h1 h2 => sameU_ref u1 u2 (putU l x) (putU l x) rfl (al _) (by have := putU_len l x; have := g.1; omega) (fun a ha => (putU_mem ha).elim (fun q => hugeU (g.2 a q)) (fun q => by rw [q]; exact hugeU g2)) W h1 h2
 have S2 := fun (g : FewU l) u1 u2 W h1 h2 => sameU_ref u1 u2 (dropU l p.data.toList) (dropU l p.data.toList) rfl (al _) (by have := dropU_len l p.data.toList; have := g.1; omega) (fun a ha => hugeU (g.2 a (dropU_mem ha))) W h1 h2
 have F3 := fun (g : l.length ≤ 70) u W h1 => findU_any u (putU l x) (by have := putU_len l x; omega) (⟨x.nm.toArray⟩ : ByteArray) W h1
 have F4 := fun (g : l.length ≤ 70) u W h1 => findU_any u (dropU l p.data.toList) (by have := dropU_len l p.data.toList; omega) p W h1
 have SO := fun (g2 : FewR x) W (hb : Below w.heap.size w W) => sameOneU_ref x x (hugeU g2) (AlikeU.refl x) W (hi.on hb) (hi.on hb)
 have RX := fun (g2 : FewR x) W (hb : Below w.heap.size w W) => rightU_any x (g2.small hx) W (hi.on hb) (hL.on hb) (hE.on hb)
 have K1 := fun (g : FewU l) W (hb : Below w.heap.size w W) => checkU_any v l (by have := g.1; omega) (fun y hy => (g.2 y hy).small (hf y hy)) W (h.on hb) (hL.on hb) (hE.on hb)
 have K2 := fun (g : FewU l) (g2 : FewR x) u W (hb : Below w.heap.size w W) h1 => checkU_any u (putU l x) (by have := putU_len l x; have := g.1; omega) (fun y hy => (putU_mem hy).elim (fun q => (g.2 y q).small (hf y q)) (fun q => by rw [q]; exact g2.small hx)) W h1 (hL.on hb) (hE.on hb)
 have K3 := fun (g : FewU l) u W (hb : Below w.heap.size w W) h1 => checkU_any u (dropU l p.data.toList) (by have := dropU_len l p.data.toList; have := g.1; omega) (fun y hy => (g.2 y (dropU_mem hy)).small (hf y (dropU_mem hy))) W h1 (hL.on hb) (hE.on hb)
 obtain ⟨kk, hkk, hat⟩ := put_atU l x
 have hdf := drop_findU l p.data.toList
 simp only [hkk] at F3
 rw [hdf] at F4
 have HKK := Lib.hid hat
 have HPN : Hid (kk < (putU l x).length) := Lib.hid (List.getElem?_eq_some_iff.1 hat).1
 have HPK : Hid (kchkK rightU (fun x => x.nm) l = 0 → rightU x = true → (putU l x).length ≤ 64 → kchkK rightU (fun x => x.nm) (putU l x) = 0) := Lib.hid (fun a b c => put_okU a b c)
 have HDK : Hid (kchkK rightU (fun x => x.nm) l = 0 → kchkK rightU (fun x => x.nm) (dropU l p.data.toList) = 0) := Lib.hid (fun a => drop_okU _ a)
 have HPL : Hid ((putU l x).length ≤ l.length + 1) := Lib.hid (putU_len l x)
 have HG1 : Hid (FewU l → l.length ≤ 70) := Lib.hid (fun g => g.1)
 have HG2 : Hid (FewU [x] → FewR x) := Lib.hid (fun g => g.2 x (by simp))
 obtain ⟨a3, n3, m3, q3⟩ := formU3 hi
 obtain ⟨a4, n4, m4, q4⟩ := formU4 hi
 obtain ⟨a5, n5, m5, q5⟩ := formU5 hi
 obtain ⟨a6, n6, m6, q6⟩ := formU6 hi
 obtain ⟨a7, n7, m7, q7⟩ := formU7 hi
 obtain ⟨a8, n8, m8, q8⟩ := formU8 hi
 obtain ⟨va, vc, hv⟩ : ∃ a c, v = .slice a l.length c := by obtain ⟨a, c, b, o, e, _⟩ := h.parts; exact ⟨a, c, e⟩
 have HCE : Hid (∀ W u, HoldU W u (putU l x) → ∃ pa pc pb po, u = .slice pa (putU l x).length pc ∧ (pa = some ⟨pb, po, none⟩ ∧ pb < W.heap.size) ∧ W.cell? ⟨pb, po + kk * 9, none⟩ = some (.string (⟨x.nm.toArray⟩ : ByteArray)) ∧ W.cell? ⟨pb, po + kk * 9 + 1, none⟩ = some (.string (⟨x.vr.toArray⟩ : ByteArray)) ∧ W.cell? ⟨pb, po + kk * 9 + 2, none⟩ = some (.int .i64 x.st) ∧ W.cell? ⟨pb, po + kk * 9 + 3, none⟩ = some (.slice a3 n3 m3) ∧ W.cell? ⟨pb, po + kk * 9 + 4, none⟩ = some (.slice a4 n4 m4) ∧ W.cell? ⟨pb, po + kk * 9 + 5, none⟩ = some (.slice a5 n5 m5) ∧ W.cell? ⟨pb, po + kk * 9 + 6, none⟩ = some (.slice a6 n6 m6) ∧ W.cell? ⟨pb, po + kk * 9 + 7, none⟩ = some (.slice a7 n7 m7) ∧ W.cell? ⟨pb, po + kk * 9 + 8, none⟩ = some (.slice a8 n8 m8)) := Lib.hid (fun W u hu => by
   obtain ⟨pa, pc, pb, po, e, -, ha, hcell⟩ := hu.parts
   have := hcell kk x HKK.out
   simp only [q3, q4, q5, q6, q7, q8] at this
   exact ⟨pa, pc, pb, po, e, ha (by have := HPN.out; omega), this⟩)
 unfold FewUP at FW FX
 unfold agU at RX
 unfold agZU at P1 P2 SO ⊢
 simp only [q3, q4, q5, q6, q7, q8] at P1 P2 FX B1 SO RX ⊢
 subst hv
 obtain ⟨X0, hX0⟩ : ∃ q : ByteArray, (⟨x.nm.toArray⟩ : ByteArray) = q := ⟨_, rfl⟩
 obtain ⟨X1, hX1⟩ : ∃ q : ByteArray, (⟨x.vr.toArray⟩ : ByteArray) = q := ⟨_, rfl⟩
 obtain ⟨st, hst⟩ : ∃ q : Int, x.st = q := ⟨_, rfl⟩
 simp only [hX0, hX1, hst] at P1 P2 FX B1 SO RX F3 HCE ⊢
 obtain ⟨x0, x1, x2, x3, x4, x5, x6, x7, x8⟩ := boxV9 w (.string X0) (.string X1) (.int .i64 st) (.slice a3 n3 m3) (.slice a4 n4 m4) (.slice a5 n5 m5) (.slice a6 n6 m6) (.slice a7 n7 m7) (.slice a8 n8 m8) 43
 have l0 := World.block_lt_of_cell? _ _ x0
 have HBX : Hid (∀ W, Below (w.alloc (.cells #[.string X0, .string X1, .int .i64 st, .slice a3 n3 m3, .slice a4 n4 m4, .slice a5 n5 m5, .slice a6 n6 m6, .slice a7 n7 m7, .slice a8 n8 m8] 43)).heap.size (w.alloc (.cells #[.string X0, .string X1, .int .i64 st, .slice a3 n3 m3, .slice a4 n4 m4, .slice a5 n5 m5, .slice a6 n6 m6, .slice a7 n7 m7, .slice a8 n8 m8] 43)) W → W.cell? ⟨w.heap.size, 0, none⟩ = some (.string X0) ∧ W.cell? ⟨w.heap.size, 1, none⟩ = some (.string X1) ∧ W.cell? ⟨w.heap.size, 2, none⟩ = some (.int .i64 st) ∧ W.cell? ⟨w.heap.size, 3, none⟩ = some (.slice a3 n3 m3) ∧ W.cell? ⟨w.heap.size, 4, none⟩ = some (.slice a4 n4 m4) ∧ W.cell? ⟨w.heap.size, 5, none⟩ = some (.slice a5 n5 m5) ∧ W.cell? ⟨w.heap.size, 6, none⟩ = some (.slice a6 n6 m6) ∧ W.cell? ⟨w.heap.size, 7, none⟩ = some (.slice a7 n7 m7) ∧ W.cell? ⟨w.heap.size, 8, none⟩ = some (.slice a8 n8 m8)) := Lib.hid (fun W hW => by
   have p := fun i => hW.cell (p := ⟨w.heap.size, i, none⟩) l0
   exact ⟨(p 0).trans x0, (p 1).trans x1, (p 2).trans x2, (p 3).trans x3, (p 4).trans x4, (p 5).trans x5, (p 6).trans x6, (p 7).trans x7, (p 8).trans x8⟩)
 have HB1 := Lib.hid B1
 have HZ1 := Lib.hid (Below.refl (w.alloc (.cells #[.string X0, .string X1, .int .i64 st, .slice a3 n3 m3, .slice a4 n4 m4, .slice a5 n5 m5, .slice a6 n6 m6, .slice a7 n7 m7, .slice a8 n8 m8] 43)).heap.size (w.alloc (.cells #[.string X0, .string X1, .int .i64 st, .slice a3 n3 m3, .slice a4 n4 m4, .slice a5 n5 m5, .slice a6 n6 m6, .slice a7 n7 m7, .slice a8 n8 m8] 43)))
 unfold maxLen at hp
 obtain ⟨n, hN⟩ : ∃ n, l.length = n := ⟨_, rfl⟩
 obtain ⟨PL, hPL⟩ : ∃ q, putU l x = q := ⟨_, rfl⟩
 obtain ⟨DL, hDL⟩ : ∃ q, dropU l p.data.toList = q := ⟨_, rfl⟩
 obtain ⟨zz, hzz⟩ : ∃ q, idxU l p.data.toList = q := ⟨_, rfl⟩
 simp only [hzz] at F1 F2
 simp only [hPL] at F3 S1 K2 P1 P2 HKK HPN HPK HPL HCE
 simp only [hDL] at F4 S2 K3 D1 D2 HDK
 obtain ⟨c1, hc1⟩ : ∃ q, kchkK rightU (fun x => x.nm) l = q := ⟨_, rfl⟩
 obtain ⟨c2, hc2⟩ : ∃ q, kchkK rightU (fun x => x.nm) PL = q := ⟨_, rfl⟩
 obtain ⟨c3, hc3⟩ : ∃ q, kchkK rightU (fun x => x.nm) DL = q := ⟨_, rfl⟩
 obtain ⟨rq, hrq⟩ : ∃ q, rightU x = q := ⟨_, rfl⟩
 simp only [hc1] at K1 HPK HDK
 simp only [hc2] at K2 HPK
 simp only [hc3] at K3 HDK
 simp only [hrq] at RX HPK
 simp only [hN] at HG1 FW P1 P2 D1 D2 F1 F2 F3 F4 K1 HPL
 rw [hN]
 obtain ⟨pn, hpn⟩ : ∃ q, PL.length = q := ⟨_, rfl⟩
 simp only [hpn] at HPN HPK HPL HCE
 have e0 : (zz != zz) = false := by simp
 clear B1 hL hE h hi hl hf hx hat hdf hkk q3 q4 q5 q6 q7 q8 hX0 hX1 hst hN hPL hDL hzz hc1 hc2 hc3 hrq hpn l0 al x0 x1 x2 x3 x4 x5 x6 x7 x8
 go_enter Tryz.func6, Tryz.ntmps6
 go_wp2_with (go_at_call 7; (with_reducible refine (FW _ HB1.out).mono ?_); rintro e w2 ⟨fb, rfl, hfb, hb⟩; have HF2 := Lib.hid hfb; have HB2 := Lib.hid (HB1.out.trans (hb.mono HB1.out.size)); have HZ2 := Lib.hid (HZ1.out.trans (hb.mono HZ1.out.size)); clear hb hfb; refine Hid.out ?_)
 refine Lib.hid ?_
 clear FW HB1 HZ1
 cases fb
 · go_wp2_with (go_at_call 8; (with_reducible refine (AW _ HB2.out).mono ?_); rintro e w4 ⟨rfl, hb⟩; have HB4 := Lib.hid (HB2.out.trans (hb.mono HB2.out.size)); clear hb)
   go_ret
   exact ⟨rfl, HB4.out⟩
 have FL := Lib.hid (HF2.out rfl)
 have g7 := Lib.hid (HG1.out FL.out)
 have P1 := P1 g7.out
 have P2 := P2 g7.out
 have D1 := D1 g7.out
 have D2 := D2 g7.out
 have F1 := F1 g7.out
 have F2 := F2 g7.out
 have F3 := F3 g7.out
 have F4 := F4 g7.out
 have S1 := S1 FL.out
 have S2 := S2 FL.out
 have K1 := K1 FL.out
 have K2 := K2 FL.out
 have K3 := K3 FL.out
 have hpl : pn ≤ 71 := by have := HPL.out; have := g7.out; omega
 clear HF2 FL HG1 g7 HPL
 obtain ⟨x0, x1, x2, x3, x4, x5, x6, x7, x8⟩ := HBX.out _ HZ2.out
 have hB3 := (Below.refl w2.heap.size w2).alloc (Nat.le_refl _) (.cells #[.string X0, .string X1, .int .i64 st, .slice a3 n3 m3, .slice a4 n4 m4, .slice a5 n5 m5, .slice a6 n6 m6, .slice a7 n7 m7, .slice a8 n8 m8] 43)
 have HB3 := Lib.hid (HB2.out.trans (hB3.mono HB2.out.size))
 have HZ3 := Lib.hid (HZ2.out.trans (hB3.mono HZ2.out.size))
 clear hB3
 go_wp2_with (go_at_call 7; (with_reducible refine (FX _ HB2.out).mono ?_); rintro e w3 ⟨fb, rfl, hfb, hb⟩; have HF4 := Lib.hid hfb; have HB4 := Lib.hid (HB3.out.trans (hb.mono HB3.out.size)); have HZ4 := Lib.hid (HZ3.out.trans (hb.mono HZ3.out.size)); clear hb hfb; refine Hid.out ?_)
 refine Lib.hid ?_
 clear FX HB3 HB2 HZ3 HZ2 x0 x1 x2 x3 x4 x5 x6 x7 x8
 cases fb
 · go_wp2_with (go_at_call 8; (with_reducible refine (AW _ HB4.out).mono ?_); rintro e w4 ⟨rfl, hb⟩; have HB5 := Lib.hid (HB4.out.trans (hb.mono HB4.out.size)); clear hb)
   go_ret
   exact ⟨rfl, HB5.out⟩
 have FO := Lib.hid (HG2.out (HF4.out rfl))
 have S1 := S1 FO.out
 have SO := SO FO.out
 have RX := RX FO.out
 have K2 := K2 FO.out
 clear HF4 HG2 FO
 by_cases hp5 : 500 < p.size
 · go_wp2_with (go_at_call 8; (with_reducible refine (AW _ HB4.out).mono ?_); rintro e w4 ⟨rfl, hb⟩; have HB5 := Lib.hid (HB4.out.trans (hb.mono HB4.out.size)); clear hb)
   go_ret
   exact ⟨rfl, HB5.out⟩
 obtain ⟨x0, x1, x2, x3, x4, x5, x6, x7, x8⟩ := HBX.out _ HZ4.out
 go_upto_region 4 with (first
   | (go_at_call 20; (with_reducible refine (P1 _ HB4.out).mono ?_); rintro e w5 ⟨v5, rfl, h5, hb⟩; have HP5 := Lib.hid h5; have HB5 := Lib.hid (HB4.out.trans (hb.mono HB4.out.size)); have HZ5 := Lib.hid (HZ4.out.trans (hb.mono HZ4.out.size)); clear h5 hb P1)
   | (go_at_call 21; (with_reducible refine (D1 _ HB5.out).mono ?_); rintro e w6 ⟨v6, rfl, h6, hb⟩; have HD6 := Lib.hid h6; have HP6 := Lib.hid (HoldU.on HP5.out hb); have HB6 := Lib.hid (HB5.out.trans (hb.mono HB5.out.size)); have HZ6 := Lib.hid (HZ5.out.trans (hb.mono HZ5.out.size)); clear h6 hb D1))
 clear x0 x1 x2 x3 x4 x5 x6 x7 x8 HB4 HZ4 HP5 HB5 HZ5
 obtain ⟨x0, x1, x2, x3, x4, x5, x6, x7, x8⟩ := HBX.out _ HZ6.out
 obtain ⟨pa, pc, pb, po, rfl, ⟨rfl, hpb⟩, -⟩ := HCE.out _ _ HP6.out
 obtain ⟨da, dn, dc, hv6⟩ : ∃ a n c, v6 = .slice a n c := by obtain ⟨a, c, b, o, e, _⟩ := HD6.out.parts; exact ⟨_, _, _, e⟩
 subst hv6
 go_upto_region 7 with (first
   | (go_at_call 22; (with_reducible refine (P2 _ HB6.out).mono ?_); rintro e w7 ⟨v7, rfl, h7, hb⟩; have HQ7 := Lib.hid h7; have HP7 := Lib.hid (HoldU.on HP6.out hb); have HD7 := Lib.hid (HoldU.on HD6.out hb); have HB7 := Lib.hid (HB6.out.trans (hb.mono HB6.out.size)); have HZ7 := Lib.hid (HZ6.out.trans (hb.mono HZ6.out.size)); clear h7 hb P2)
   | (go_at_call 14; (with_reducible refine (S1 _ _ _ HP7.out HQ7.out).mono ?_); rintro e w8 ⟨rfl, hb⟩; have HP8 := Lib.hid (HoldU.on HP7.out hb); have HD8 := Lib.hid (HoldU.on HD7.out hb); have HB8 := Lib.hid (HB7.out.trans (hb.mono HB7.out.size)); have HZ8 := Lib.hid (HZ7.out.trans (hb.mono HZ7.out.size)); clear hb S1)
   | (go_at_call 23; (with_reducible refine (D2 _ HB8.out).mono ?_); rintro e w9 ⟨v9, rfl, h9, hb⟩; have HQ9 := Lib.hid h9; have HP9 := Lib.hid (HoldU.on HP8.out hb); have HD9 := Lib.hid (HoldU.on HD8.out hb); have HB9 := Lib.hid (HB8.out.trans (hb.mono HB8.out.size)); have HZ9 := Lib.hid (HZ8.out.trans (hb.mono HZ8.out.size)); clear h9 hb D2)
   | (go_at_call 14; (with_reducible refine (S2 _ _ _ HD9.out HQ9.out).mono ?_); rintro e wa ⟨rfl, hb⟩; have HPa := Lib.hid (HoldU.on HP9.out hb); have HDa := Lib.hid (HoldU.on HD9.out hb); have HBa := Lib.hid (HB9.out.trans (hb.mono HB9.out.size)); have HZa := Lib.hid (HZ9.out.trans (hb.mono HZ9.out.size)); clear hb S2)
   | (go_at_call 24; (with_reducible refine (F1 _ HBa.out).mono ?_); rintro e wb ⟨rfl, hb⟩; have HPb := Lib.hid (HoldU.on HPa.out hb); have HDb := Lib.hid (HoldU.on HDa.out hb); have HBb := Lib.hid (HBa.out.trans (hb.mono HBa.out.size)); have HZb := Lib.hid (HZa.out.trans (hb.mono HZa.out.size)); clear hb F1)
   | (go_at_call 25; (with_reducible refine (F2 _ HBb.out).mono ?_); rintro e wc ⟨rfl, rfl⟩; obtain ⟨x0, x1, x2, x3, x4, x5, x6, x7, x8⟩ := HBX.out _ HZb.out; clear F2)
   | (go_at_call 24; (with_reducible refine (F3 _ _ HPb.out).mono ?_); rintro e wd ⟨rfl, hb⟩; have HPd := Lib.hid (HoldU.on HPb.out hb); have HDd := Lib.hid (HoldU.on HDb.out hb); have HBd := Lib.hid (HBb.out.trans (hb.mono HBb.out.size)); have HZd := Lib.hid (HZb.out.trans (hb.mono HZb.out.size)); clear hb F3))
 clear x0 x1 x2 x3 x4 x5 x6 x7 x8
 obtain ⟨x0, x1, x2, x3, x4, x5, x6, x7, x8⟩ := HBX.out _ HZd.out
 obtain ⟨pa', pc', pb', po', e, ⟨he, hpb'⟩, d0, d1, d2, d3, d4, d5, d6, d7, d8⟩ := HCE.out _ _ HPd.out
 cases e
 cases he
 have hszd := HBd.out.size
 have hs := And.intro x0 (And.intro x1 (And.intro x2 (And.intro x3 (And.intro x4 (And.intro x5 (And.intro x6 (And.intro x7 (And.intro x8 (And.intro d0 (And.intro d1 (And.intro d2 (And.intro d3 (And.intro d4 (And.intro d5 (And.intro d6 (And.intro d7 (And.intro d8 (Below.refl wd.heap.size wd))))))))))))))))))
 have i0 : (0 : Int) ≤ (kk : Int) := by omega
 have i1 : (kk : Int) < (pn : Int) := by have := HPN.out; omega
 have j0 : decide ((kk : Int) < 0) = false := decide_eq_false (by omega)
 have j1 : decide (pn ≤ kk) = false := decide_eq_false (by have := HPN.out; omega)
 clear x0 x1 x2 x3 x4 x5 x6 x7 x8 d0 d1 d2 d3 d4 d5 d6 d7 d8 HCE HPN HB6 HZ6 HP6 HD6 HQ7 HP7 HD7 HB7 HZ7 HP8 HD8 HB8 HZ8 HQ9 HP9 HD9 HB9 HZ9 HPa HDa HBa HZa HPb HDb HBb HZb hpb'
 have KQ := Lib.hid (atK wd [(⟨w.heap.size, 0, none⟩, .string X0), (⟨w.heap.size, 1, none⟩, .string X1), (⟨w.heap.size, 2, none⟩, .int .i64 st), (⟨w.heap.size, 3, none⟩, .slice a3 n3 m3), (⟨w.heap.size, 4, none⟩, .slice a4 n4 m4), (⟨w.heap.size, 5, none⟩, .slice a5 n5 m5), (⟨w.heap.size, 6, none⟩, .slice a6 n6 m6), (⟨w.heap.size, 7, none⟩, .slice a7 n7 m7), (⟨w.heap.size, 8, none⟩, .slice a8 n8 m8), (⟨pb, po + kk * 9, none⟩, .string X0), (⟨pb, po + kk * 9 + 1, none⟩, .string X1), (⟨pb, po + kk * 9 + 2, none⟩, .int .i64 st), (⟨pb, po + kk * 9 + 3, none⟩, .slice a3 n3 m3), (⟨pb, po + kk * 9 + 4, none⟩, .slice a4 n4 m4), (⟨pb, po + kk * 9 + 5, none⟩, .slice a5 n5 m5), (⟨pb, po + kk * 9 + 6, none⟩, .slice a6 n6 m6), (⟨pb, po + kk * 9 + 7, none⟩, .slice a7 n7 m7), (⟨pb, po + kk * 9 + 8, none⟩, .slice a8 n8 m8)])
 have BE := fun (V : World) (h : V.cell? ⟨w.heap.size, 0, none⟩ = some (.string X0) ∧ V.cell? ⟨w.heap.size, 1, none⟩ = some (.string X1) ∧ V.cell? ⟨w.heap.size, 2, none⟩ = some (.int .i64 st) ∧ V.cell? ⟨w.heap.size, 3, none⟩ = some (.slice a3 n3 m3) ∧ V.cell? ⟨w.heap.size, 4, none⟩ = some (.slice a4 n4 m4) ∧ V.cell? ⟨w.heap.size, 5, none⟩ = some (.slice a5 n5 m5) ∧ V.cell? ⟨w.heap.size, 6, none⟩ = some (.slice a6 n6 m6) ∧ V.cell? ⟨w.heap.size, 7, none⟩ = some (.slice a7 n7 m7) ∧ V.cell? ⟨w.heap.size, 8, none⟩ = some (.slice a8 n8 m8) ∧ V.cell? ⟨pb, po + kk * 9, none⟩ = some (.string X0) ∧ V.cell? ⟨pb, po + kk * 9 + 1, none⟩ = some (.string X1) ∧ V.cell? ⟨pb, po + kk * 9 + 2, none⟩ = some (.int .i64 st) ∧ V.cell? ⟨pb, po + kk * 9 + 3, none⟩ = some (.slice a3 n3 m3) ∧ V.cell? ⟨pb, po + kk * 9 + 4, none⟩ = some (.slice a4 n4 m4) ∧ V.cell? ⟨pb, po + kk * 9 + 5, none⟩ = some (.slice a5 n5 m5) ∧ V.cell? ⟨pb, po + kk * 9 + 6, none⟩ = some (.slice a6 n6 m6) ∧ V.cell? ⟨pb, po + kk * 9 + 7, none⟩ = some (.slice a7 n7 m7) ∧ V.cell? ⟨pb, po + kk * 9 + 8, none⟩ = some (.slice a8 n8 m8) ∧ Below wd.heap.size wd V) => AtF.be (w := wd) (l := [(⟨w.heap.size, 0, none⟩, .string X0), (⟨w.heap.size, 1, none⟩, .string X1), (⟨w.heap.size, 2, none⟩, .int .i64 st), (⟨w.heap.size, 3, none⟩, .slice a3 n3 m3), (⟨w.heap.size, 4, none⟩, .slice a4 n4 m4), (⟨w.heap.size, 5, none⟩, .slice a5 n5 m5), (⟨w.heap.size, 6, none⟩, .slice a6 n6 m6), (⟨w.heap.size, 7, none⟩, .slice a7 n7 m7), (⟨w.heap.size, 8, none⟩, .slice a8 n8 m8), (⟨pb, po + kk * 9, none⟩, .string X0), (⟨pb, po + kk * 9 + 1, none⟩, .string X1), (⟨pb, po + kk * 9 + 2, none⟩, .int .i64 st), (⟨pb, po + kk * 9 + 3, none⟩, .slice a3 n3 m3), (⟨pb, po + kk * 9 + 4, none⟩, .slice a4 n4 m4), (⟨pb, po + kk * 9 + 5, none⟩, .slice a5 n5 m5), (⟨pb, po + kk * 9 + 6, none⟩, .slice a6 n6 m6), (⟨pb, po + kk * 9 + 7, none⟩, .slice a7 n7 m7), (⟨pb, po + kk * 9 + 8, none⟩, .slice a8 n8 m8)]) h
 refine wp_region_held_drew (S := (fun V => V.cell? ⟨w.heap.size, 0, none⟩ = some (.string X0) ∧ V.cell? ⟨w.heap.size, 1, none⟩ = some (.string X1) ∧ V.cell? ⟨w.heap.size, 2, none⟩ = some (.int .i64 st) ∧ V.cell? ⟨w.heap.size, 3, none⟩ = some (.slice a3 n3 m3) ∧ V.cell? ⟨w.heap.size, 4, none⟩ = some (.slice a4 n4 m4) ∧ V.cell? ⟨w.heap.size, 5, none⟩ = some (.slice a5 n5 m5) ∧ V.cell? ⟨w.heap.size, 6, none⟩ = some (.slice a6 n6 m6) ∧ V.cell? ⟨w.heap.size, 7, none⟩ = some (.slice a7 n7 m7) ∧ V.cell? ⟨w.heap.size, 8, none⟩ = some (.slice a8 n8 m8) ∧ V.cell? ⟨pb, po + kk * 9, none⟩ = some (.string X0) ∧ V.cell? ⟨pb, po + kk * 9 + 1, none⟩ = some (.string X1) ∧ V.cell? ⟨pb, po + kk * 9 + 2, none⟩ = some (.int .i64 st) ∧ V.cell? ⟨pb, po + kk * 9 + 3, none⟩ = some (.slice a3 n3 m3) ∧ V.cell? ⟨pb, po + kk * 9 + 4, none⟩ = some (.slice a4 n4 m4) ∧ V.cell? ⟨pb, po + kk * 9 + 5, none⟩ = some (.slice a5 n5 m5) ∧ V.cell? ⟨pb, po + kk * 9 + 6, none⟩ = some (.slice a6 n6 m6) ∧ V.cell? ⟨pb, po + kk * 9 + 7, none⟩ = some (.slice a7 n7 m7) ∧ V.cell? ⟨pb, po + kk * 9 + 8, none⟩ = some (.slice a8 n8 m8) ∧ Below wd.heap.size wd V)) (by kernel_rfl) ?_ (fun hHeld => ?_)
 · (try dsimp only); (first | assumption | exact hs | exact KQ.out.dr _ hs | exact KQ.out.dr _ (by assumption) | exact KQ.out.on _ _ (by assumption) (by assumption) | exact KQ.out.al _ _ (by assumption) | exact KQ.out.ald _ _ (by assumption) | exact KQ.out.al _ _ hs | exact KQ.out.ald _ _ hs)
 refine heldY 0 58 ?_ _ rfl rfl (by kernel_rfl) (by kernel_rfl) (by kernel_rfl) (fun _ _ _ h => h) rfl (by assumption) ?_ ?_
 rotate_left
 · (intro w hSw; (try dsimp only at hSw); go_simp; (try with_reducible rfl))
 try simp only [List.setIfInBounds_toArray, List.set_cons_zero, List.set_cons_succ]
 refine heldY 1 59 ?_ _ rfl rfl (by kernel_rfl) (by kernel_rfl) (by kernel_rfl) (fun _ _ _ h => h) rfl (by assumption) ?_ ?_
 rotate_left
 · (intro w hSw; (try dsimp only at hSw); go_simp; (try with_reducible rfl))
 try simp only [List.setIfInBounds_toArray, List.set_cons_zero, List.set_cons_succ]
 refine heldY 2 60 ?_ _ rfl rfl (by kernel_rfl) (by kernel_rfl) (by kernel_rfl) (fun _ _ _ h => h) rfl (by assumption) ?_ ?_
 rotate_left
 · (intro w hSw; (try dsimp only at hSw); go_simp; (try with_reducible rfl))
 try simp only [List.setIfInBounds_toArray, List.set_cons_zero, List.set_cons_succ]
 refine heldY 3 61 ?_ _ rfl rfl (by kernel_rfl) (by kernel_rfl) (by kernel_rfl) (fun _ _ _ h => h) rfl (by assumption) ?_ ?_
 rotate_left
 · (intro w hSw; (try dsimp only at hSw); go_simp; (try with_reducible rfl))
 try simp only [List.setIfInBounds_toArray, List.set_cons_zero, List.set_cons_succ]
 refine heldY 4 62 ?_ _ rfl rfl (by kernel_rfl) (by kernel_rfl) (by kernel_rfl) (fun _ _ _ h => h) rfl (by assumption) ?_ ?_
 rotate_left
 · (intro w hSw; (try dsimp only at hSw); go_simp; (try with_reducible rfl))
 try simp only [List.setIfInBounds_toArray, List.set_cons_zero, List.set_cons_succ]
 refine heldY 5 63 ?_ _ rfl rfl (by kernel_rfl) (by kernel_rfl) (by kernel_rfl) (fun _ _ _ h => h) rfl (by assumption) ?_ ?_
 rotate_left
 · (intro w hSw; (try dsimp only at hSw); go_simp; (try with_reducible rfl))
 try simp only [List.setIfInBounds_toArray, List.set_cons_zero, List.set_cons_succ]
 refine heldY 6 64 ?_ _ rfl rfl (by kernel_rfl) (by kernel_rfl) (by kernel_rfl) (fun _ _ _ h => h) rfl (by assumption) ?_ ?_
 rotate_left
 · (intro w hSw; (try dsimp only at hSw); go_simp; (try with_reducible rfl))
 try simp only [List.setIfInBounds_toArray, List.set_cons_zero, List.set_cons_succ]
 refine heldY 7 65 ?_ _ rfl rfl (by kernel_rfl) (by kernel_rfl) (by kernel_rfl) (fun _ _ _ h => h) rfl (by assumption) ?_ ?_
 rotate_left
 · (intro w hSw; (try dsimp only at hSw); go_simp; (try with_reducible rfl))
 try simp only [List.setIfInBounds_toArray, List.set_cons_zero, List.set_cons_succ]
 refine heldY 8 66 ?_ _ rfl rfl (by kernel_rfl) (by kernel_rfl) (by kernel_rfl) (fun _ _ _ h => h) rfl (by assumption) ?_ ?_
 rotate_left
 · (intro w hSw; (try dsimp only at hSw); go_simp; (try with_reducible rfl))
 try simp only [List.setIfInBounds_toArray, List.set_cons_zero, List.set_cons_succ]
 refine heldY 9 67 ?_ _ rfl rfl (by kernel_rfl) (by kernel_rfl) (by kernel_rfl) (fun _ _ _ h => h) rfl (by assumption) ?_ ?_
 rotate_left
 · (intro w hSw; (try dsimp only at hSw); go_simp; (try with_reducible rfl))
 try simp only [List.setIfInBounds_toArray, List.set_cons_zero, List.set_cons_succ]
 refine heldY 10 68 ?_ _ rfl rfl (by kernel_rfl) (by kernel_rfl) (by kernel_rfl) (fun _ _ _ h => h) rfl (by assumption) ?_ ?_
 rotate_left
 · (intro w hSw; (try dsimp only at hSw); go_simp; (try with_reducible rfl))
 try simp only [List.setIfInBounds_toArray, List.set_cons_zero, List.set_cons_succ]
 refine heldY 11 69 ?_ _ rfl rfl (by kernel_rfl) (by kernel_rfl) (by kernel_rfl) (fun _ _ _ h => h) rfl (by assumption) ?_ ?_
 rotate_left
 · (intro w hSw; (try dsimp only at hSw); go_simp; (try with_reducible rfl))
 try simp only [List.setIfInBounds_toArray, List.set_cons_zero, List.set_cons_succ]
 refine heldY 12 70 ?_ _ rfl rfl (by kernel_rfl) (by kernel_rfl) (by kernel_rfl) (fun _ _ _ h => h) rfl (by assumption) ?_ ?_
 rotate_left
 · (intro w hSw; (try dsimp only at hSw); go_simp; (try with_reducible rfl))
 try simp only [List.setIfInBounds_toArray, List.set_cons_zero, List.set_cons_succ]
 refine heldY 13 71 ?_ _ rfl rfl (by kernel_rfl) (by kernel_rfl) (by kernel_rfl) (fun _ _ _ h => h) rfl (by assumption) ?_ ?_
 rotate_left
 · (intro w hSw; (try dsimp only at hSw); go_simp; (try with_reducible rfl))
 try simp only [List.setIfInBounds_toArray, List.set_cons_zero, List.set_cons_succ]
 refine wpAnyH_ready (rs := [14]) (by kernel_rfl) (by simp) ?_
 refine AllReadyH.cons rfl (fun K hK => ?_) AllReadyH.nil
 go_simp
 (first | (go_at_call 26; (with_reducible refine (SO _ (HBd.out.trans ((BE _ (by assumption)).mono hszd))).mono ?_); rintro e w3 ⟨rfl, hb⟩) | (go_at_call 24; (with_reducible refine (F4 _ _ (HoldU.on HDd.out (BE _ (by assumption)))).mono ?_); rintro e w3 ⟨rfl, hb⟩))
 refine hK.out _ _ ?_ (fun hHeld => ?_)
 · (try dsimp only); (first | assumption | exact hs | exact KQ.out.dr _ hs | exact KQ.out.dr _ (by assumption) | exact KQ.out.on _ _ (by assumption) (by assumption) | exact KQ.out.al _ _ (by assumption) | exact KQ.out.ald _ _ (by assumption) | exact KQ.out.al _ _ hs | exact KQ.out.ald _ _ hs)
 clear hK K
 try simp only [Act.put, List.setIfInBounds_toArray, List.set_cons_zero, List.set_cons_succ]
 refine heldY 15 73 ?_ _ rfl rfl (by kernel_rfl) (by kernel_rfl) (by kernel_rfl) (fun _ _ _ h => h) rfl (by assumption) ?_ ?_
 rotate_left
 · (intro w hSw; (try dsimp only at hSw); go_simp; (try with_reducible rfl))
 try simp only [List.setIfInBounds_toArray, List.set_cons_zero, List.set_cons_succ]
 refine heldY 16 74 ?_ _ rfl rfl (by kernel_rfl) (by kernel_rfl) (by kernel_rfl) (fun _ _ _ h => h) rfl (by assumption) ?_ ?_
 rotate_left
 · (intro w hSw; (try dsimp only at hSw); go_simp; (try with_reducible rfl))
 try simp only [List.setIfInBounds_toArray, List.set_cons_zero, List.set_cons_succ]
 refine heldY 17 75 ?_ _ rfl rfl (by kernel_rfl) (by kernel_rfl) (by kernel_rfl) (fun _ _ _ h => h) rfl (by assumption) ?_ ?_
 rotate_left
 · (intro w hSw; (try dsimp only at hSw); go_simp; (try with_reducible rfl))
 try simp only [List.setIfInBounds_toArray, List.set_cons_zero, List.set_cons_succ]
 refine heldY 18 76 ?_ _ rfl rfl (by kernel_rfl) (by kernel_rfl) (by kernel_rfl) (fun _ _ _ h => h) rfl (by assumption) ?_ ?_
 rotate_left
 · (intro w hSw; (try dsimp only at hSw); go_simp; (try with_reducible rfl))
 try simp only [List.setIfInBounds_toArray, List.set_cons_zero, List.set_cons_succ]
 refine heldY 19 77 ?_ _ rfl rfl (by kernel_rfl) (by kernel_rfl) (by kernel_rfl) (fun _ _ _ h => h) rfl (by assumption) ?_ ?_
 rotate_left
 · (intro w hSw; (try dsimp only at hSw); go_simp; (try with_reducible rfl))
 try simp only [List.setIfInBounds_toArray, List.set_cons_zero, List.set_cons_succ]
 refine wpAnyH_ready (rs := [20]) (by kernel_rfl) (by simp) ?_
 refine AllReadyH.cons rfl (fun K hK => ?_) AllReadyH.nil
 go_simp
 (first | (go_at_call 26; (with_reducible refine (SO _ (HBd.out.trans ((BE _ (by assumption)).mono hszd))).mono ?_); rintro e w3 ⟨rfl, hb⟩) | (go_at_call 24; (with_reducible refine (F4 _ _ (HoldU.on HDd.out (BE _ (by assumption)))).mono ?_); rintro e w3 ⟨rfl, hb⟩))
 refine hK.out _ _ ?_ (fun hHeld => ?_)
 · (try dsimp only); (first | assumption | exact hs | exact KQ.out.dr _ hs | exact KQ.out.dr _ (by assumption) | exact KQ.out.on _ _ (by assumption) (by assumption) | exact KQ.out.al _ _ (by assumption) | exact KQ.out.ald _ _ (by assumption) | exact KQ.out.al _ _ hs | exact KQ.out.ald _ _ hs)
 clear hK K
 try simp only [Act.put, List.setIfInBounds_toArray, List.set_cons_zero, List.set_cons_succ]
 refine heldY 21 79 ?_ _ rfl rfl (by kernel_rfl) (by kernel_rfl) (by kernel_rfl) (fun _ _ _ h => h) rfl (by assumption) ?_ ?_
 rotate_left
 · (intro w hSw; (try dsimp only at hSw); go_simp; (try with_reducible rfl))
 try simp only [List.setIfInBounds_toArray, List.set_cons_zero, List.set_cons_succ]
 refine heldY 22 80 ?_ _ rfl rfl (by kernel_rfl) (by kernel_rfl) (by kernel_rfl) (fun _ _ _ h => h) rfl (by assumption) ?_ ?_
 rotate_left
 · (intro w hSw; (try dsimp only at hSw); go_simp; (try with_reducible rfl))
 try simp only [List.setIfInBounds_toArray, List.set_cons_zero, List.set_cons_succ]
 refine wpAnyH_done (by kernel_rfl) ?_ _
 have hBB := BE _ hHeld
 have HBe := Lib.hid (HBd.out.trans (hBB.mono hszd))
 have HPe := Lib.hid (HoldU.on HPd.out hBB)
 have HDe := Lib.hid (HoldU.on HDd.out hBB)
 have HZe := Lib.hid (HZd.out.trans (hBB.mono HZd.out.size))
 clear hHeld hBB BE hs SO F4 HPd HDd HBd HZd i0 i1 j0 j1
 by_cases h1 : c1 = 0
 case neg =>
   have hk1 : (c1 != 0) = true := by rw [bne_iff_ne]; exact h1
   clear h1 HPK HDK K2 K3 RX
   go_wp2_with (first
     | (go_at_call 11; (with_reducible refine (K1 _ HBe.out).mono ?_); rintro e wf ⟨rfl, hb⟩; have HBf := Lib.hid (HBe.out.trans (hb.mono HBe.out.size)); clear hb)
     | (go_at_call 8; (with_reducible refine (AW _ HBf.out).mono ?_); rintro e wh ⟨rfl, hb⟩; have HBh := Lib.hid (HBf.out.trans (hb.mono HBf.out.size)); clear hb))
   go_ret
   exact ⟨rfl, HBh.out⟩
 subst h1
 cases rq
 · clear HPK HDK K2 K3
   go_wp2_with (first
     | (go_at_call 11; (with_reducible refine (K1 _ HBe.out).mono ?_); rintro e wf ⟨rfl, hb⟩; have HBf := Lib.hid (HBe.out.trans (hb.mono HBe.out.size)); have HZf := Lib.hid (HZe.out.trans (hb.mono HZe.out.size)); clear hb; obtain ⟨x0, x1, x2, x3, x4, x5, x6, x7, x8⟩ := HBX.out _ HZf.out)
     | (go_at_call 16; (with_reducible refine (RX _ HBf.out).mono ?_); rintro e wg ⟨rfl, hb⟩; have HBg := Lib.hid (HBf.out.trans (hb.mono HBf.out.size)); clear hb)
     | (go_at_call 8; (with_reducible refine (AW _ HBg.out).mono ?_); rintro e wh ⟨rfl, hb⟩; have HBh := Lib.hid (HBg.out.trans (hb.mono HBg.out.size)); clear hb))
   go_ret
   exact ⟨rfl, HBh.out⟩
 by_cases h64 : 64 < pn
 · clear HPK HDK K2 K3
   go_wp2_with (first
     | (go_at_call 11; (with_reducible refine (K1 _ HBe.out).mono ?_); rintro e wf ⟨rfl, hb⟩; have HBf := Lib.hid (HBe.out.trans (hb.mono HBe.out.size)); have HZf := Lib.hid (HZe.out.trans (hb.mono HZe.out.size)); clear hb; obtain ⟨x0, x1, x2, x3, x4, x5, x6, x7, x8⟩ := HBX.out _ HZf.out)
     | (go_at_call 16; (with_reducible refine (RX _ HBf.out).mono ?_); rintro e wg ⟨rfl, hb⟩; have HBg := Lib.hid (HBf.out.trans (hb.mono HBf.out.size)); clear hb)
     | (go_at_call 8; (with_reducible refine (AW _ HBg.out).mono ?_); rintro e wh ⟨rfl, hb⟩; have HBh := Lib.hid (HBg.out.trans (hb.mono HBg.out.size)); clear hb))
   go_ret
   exact ⟨rfl, HBh.out⟩
 obtain rfl : c2 = 0 := HPK.out rfl rfl (by omega)
 obtain rfl : c3 = 0 := HDK.out rfl
 clear HPK HDK
 go_wp2_with (first
   | (go_at_call 11; (with_reducible refine (K3 _ _ HBi.out HDi.out).mono ?_); rintro e wj ⟨rfl, hb⟩; have HBj := Lib.hid (HBi.out.trans (hb.mono HBi.out.size)); clear hb)
   | (go_at_call 11; (with_reducible refine (K2 _ _ HBg.out HPg.out).mono ?_); rintro e wi ⟨rfl, hb⟩; have HBi := Lib.hid (HBg.out.trans (hb.mono HBg.out.size)); have HDi := Lib.hid (HoldU.on HDg.out hb); clear hb)
   | (go_at_call 11; (with_reducible refine (K1 _ HBe.out).mono ?_); rintro e wf ⟨rfl, hb⟩; have HBf := Lib.hid (HBe.out.trans (hb.mono HBe.out.size)); have HZf := Lib.hid (HZe.out.trans (hb.mono HZe.out.size)); have HPf := Lib.hid (HoldU.on HPe.out hb); have HDf := Lib.hid (HoldU.on HDe.out hb); clear hb; obtain ⟨x0, x1, x2, x3, x4, x5, x6, x7, x8⟩ := HBX.out _ HZf.out)
   | (go_at_call 16; (with_reducible refine (RX _ HBf.out).mono ?_); rintro e wg ⟨rfl, hb⟩; have HBg := Lib.hid (HBf.out.trans (hb.mono HBf.out.size)); have HPg := Lib.hid (HoldU.on HPf.out hb); have HDg := Lib.hid (HoldU.on HDf.out hb); clear hb)
   | (go_at_call 8; (with_reducible refine (AW _ HBj.out).mono ?_); rintro e wh ⟨rfl, hb⟩; have HBh := Lib.hid (HBj.out.trans (hb.mono HBj.out.size)); clear hb))
 go_ret
 exact ⟨rfl, HBh.out⟩
end UPutsW
end Go.Proofs.YtnnagboeimeiiaaGreatDoor
