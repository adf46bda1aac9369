import Derived.Test.YtkbkaeefdhkgdaaGreatDoorGURefC
import Derived.Test.YtkbkaeefdhkgdaaGreatDoorGUPrintA
set_option maxRecDepth 100000
set_option maxHeartbeats 32000000
namespace Go.Proofs.YtkbkaeefdhkgdaaGreatDoor
open Go.RowKit
theorem ow_eq {w : World} {B : Nat} {v : Value} {a b : List Fld} (e : a = b) (h : OwnF w B v a) : OwnF w B v b := by rw [← e]; exact h
theorem more_ref (N T : ByteArray) {B : Nat} {w : World} {va : Option Addr} {vn vc : Nat} {fs : List Fld} (hst : fs.length ≤ 20) (hB : B ≤ w.heap.size) (h : OwnF w B (.slice va vn vc) fs) : Calls Tryz.prog 18 #[.slice va vn vc, .string N, .string T] w fun e w' => ∃ a n c, e = .returned (.slice a n c) ∧ OwnF w' B (.slice a n c) (addF fs (N.data.toList, T.data.toList)) ∧ Below B w w' := by
 unfold addF
 by_cases hT : T.data.toList = []
 ·
  have e : T = (⟨#[]⟩ : ByteArray) := strOf hT
  subst e
  have HH := Lib.hid h
  clear h
  go_enter Tryz.func18, Tryz.ntmps18
  go_wp2
  go_ret
  exact ⟨_, _, _, rfl, HH.out, Below.refl _ _⟩
 ·
  have hte : (T.toList == []) = false := by rw [eqTL]; exact decide_eq_false hT
  obtain ⟨_, _, e, -⟩ := h.shape
  simp only [Value.slice.injEq] at e
  obtain ⟨-, hn, -⟩ := e
  have HO3 : Hid (World.ownsRow w B 79 2 (.slice va vn vc) fs.length (fcells fs)) := Lib.hid h
  have HAPP : Hid (∀ v' w3, w3.ownsRow B 79 2 v' (fs.length + 1) (fcells fs ++ [.string N, .string T]) → OwnF w3 B v' (fs ++ [(N.data.toList, T.data.toList)])) := Lib.hid (fun v' w3 h => OwnF.app (f := (N.data.toList, T.data.toList)) rfl rfl h)
  generalize fcells fs = T0 at *
  obtain ⟨i0, hi, hz0, hz1, hz2'⟩ := info_parts infoF
  have HN := Lib.hid hn
  clear h hn
  go_enter Tryz.func18, Tryz.ntmps18
  go_wp2_with (at_builtin; refine wpList_append_own _ rfl _ _ 51 rfl B 79 i0 _ 2 32 Tryz.underlying51 hi hz0 hz1 hz2' rfl (by decide) _ _ _ rfl (World.ownsRow.alloc HO3.out _) ⟨w.heap.size, 0, none⟩ 1 1 [.string N, .string T] rfl rfl (news2 _ _ _ rfl) (one2 _ _) (by unfold maxLen; omega) (by omega) (by simp; omega) ?_)
  intro v' w4 hown' hgrow _
  have HO4 := Lib.hid (HAPP.out _ _ hown')
  have HB4 : Hid (Below B w w4) := Lib.hid (((Below.refl B w).alloc hB _).grown hgrow (by simp; omega) (fun j hj => (World.ownsRow.lt HO3.out j hj).1))
  obtain ⟨a', c', e', -⟩ := HO4.out.shape
  subst e'
  clear hown' hgrow
  go_wp2
  go_ret
  exact ⟨_, _, _, rfl, (by have := HO4.out; rw [List.length_append] at this; exact this), HB4.out⟩
theorem print8_ref (v : Value) (l : List Uv) (hl : l.length ≤ 90000) (hsm : ∀ x ∈ l, SmallU x) (hsp : kchkK rightU (fun x => x.nm) l = 0 → Small (l.map fieldsU) 90000) (w : World) (h : HoldU w v l) : Calls Tryz.prog 8 #[v] w fun e w' => e = .returned (.tuple #[.string (bsT (printUE l).1), .int .i64 (printUE l).2]) ∧ Below w.heap.size w w' := by
 have CK := check8_ref v l hl hsm w h
 by_cases hz : kchkK rightU (fun x => x.nm) l = 0
 case neg =>
  have e : printUE l = ([], kchkK rightU (fun x => x.nm) l) := by unfold printUE; rw [if_neg hz]
  rw [e]
  generalize kchkK rightU (fun x => x.nm) l = Z at *
  obtain ⟨a, c, b, o, rfl, -⟩ := h.parts
  have hz1 : ¬ (Z = 0) := hz
  clear hsm hsp h e
  go_enter Tryz.func8, Tryz.ntmps8
  go_wp2_with (go_at_call 10; (with_reducible refine CK.mono ?_); rintro e w1 ⟨rfl, hb⟩; have HB1 := Lib.hid hb; clear hb)
  go_ret2
  exact ⟨rfl, HB1.out⟩
 have SM := hsp hz
 have h64 : l.length ≤ 64 := by
  rcases kchkK_ways rightU (fun x => x.nm) l with g | g
  ·
   exact g.2.1
  ·
   rw [hz] at g; rcases g.1 with g | g <;> cases g
 rw [hz] at CK
 have hfl : ∀ x : Uv, (fieldsU x).length ≤ 9 := fun x => by
  unfold fieldsU fieldsL
  refine Nat.le_trans (addF_len _ _) ?_
  refine Nat.succ_le_succ (Nat.le_trans (addF_len _ _) ?_)
  refine Nat.succ_le_succ (Nat.le_trans (addF_len _ _) ?_)
  refine Nat.succ_le_succ (Nat.le_trans (addF_len _ _) ?_)
  refine Nat.succ_le_succ (Nat.le_trans (addF_len _ _) ?_)
  refine Nat.succ_le_succ (Nat.le_trans (addF_len _ _) ?_)
  refine Nat.succ_le_succ (Nat.le_trans (addF_len _ _) ?_)
  refine Nat.succ_le_succ (Nat.le_trans (addF_len _ _) ?_)
  refine Nat.succ_le_succ (Nat.le_trans (addF_len _ _) ?_)
  simp
 have PR := fun u W (hh : HoldRR 2 W u ((l.map fieldsU).map (·.map rowF))) => print_ref u (l.map fieldsU) (by rw [List.length_map]; omega) (fun st hst => by obtain ⟨x, -, rfl⟩ := List.mem_map.1 hst; have := hfl x; omega) (fun st hst f hf => by have := SM.fs st hst f hf; omega) (by have := SM.pr; omega) W hh
 unfold PrintPost at PR
 have HPE : Hid (printUE l = (if (printE (l.map fieldsU)).2 = 0 then ((printE (l.map fieldsU)).1, 0) else ([], 1))) := Lib.hid (by unfold printUE; rw [if_pos hz])
 rw [HPE.out]
 generalize (printE (l.map fieldsU)).2 = pz at *
 obtain ⟨PT, hPT⟩ : ∃ q, bsT (printE (l.map fieldsU)).1 = q := ⟨_, rfl⟩
 have HPT := Lib.hid hPT
 have HRES : Hid (∀ w', Below w.heap.size w w' → (pz = 0 → Ending.returned (.tuple #[.string PT, .int .i64 0]) = Ending.returned (.tuple #[.string (bsT (if pz = 0 then ((printE (l.map fieldsU)).1, (0 : Int)) else ([], 1)).1), .int .i64 (if pz = 0 then ((printE (l.map fieldsU)).1, (0 : Int)) else ([], 1)).2])) ∧ (pz ≠ 0 → Ending.returned (.tuple #[.string ⟨#[]⟩, .int .i64 1]) = Ending.returned (.tuple #[.string (bsT (if pz = 0 then ((printE (l.map fieldsU)).1, (0 : Int)) else ([], 1)).1), .int .i64 (if pz = 0 then ((printE (l.map fieldsU)).1, (0 : Int)) else ([], 1)).2]))) := Lib.hid (fun w' _ => ⟨fun g => by rw [if_pos g, ← HPT.out], fun g => by rw [if_neg g]⟩)
 obtain ⟨RE, hRE⟩ : ∃ q, Ending.returned (.tuple #[.string (bsT (if pz = 0 then ((printE (l.map fieldsU)).1, (0 : Int)) else ([], 1)).1), .int .i64 (if pz = 0 then ((printE (l.map fieldsU)).1, (0 : Int)) else ([], 1)).2]) = q := ⟨_, rfl⟩
 rw [hRE] at HRES ⊢
 simp only [hPT] at PR
 have HIN := Lib.hid h.2
 have HSM := Lib.hid hsm
 obtain ⟨a, c, b, o, rfl, hc, ha, hcell⟩ := h.parts
 obtain ⟨i0, hi, hz0, hz1, hz2'⟩ := info_parts infoSF
 have HC := Lib.hid hcell
 obtain ⟨n, hN⟩ : ∃ n, l.length = n := ⟨_, rfl⟩
 rw [hN] at CK hc ha hl h64 ⊢
 have HN := Lib.hid hN
 clear hcell hN h hsm hsp SM hz HPE HPT hPT hRE hfl
 go_enter Tryz.func8, Tryz.ntmps8
 go_wp2_with (go_at_call 10; (with_reducible refine CK.mono ?_); rintro e w1 ⟨rfl, hb⟩; have HB1 := Lib.hid hb; clear hb)
 clear CK
 go_loopw [5, 6] (fun u i wr => ∃ (k : Nat) (L : List Fv), k ≤ n ∧ i = .int .i64 k ∧ L.length = k ∧ Hid (L.map (·.1) = (l.take k).map fieldsU) ∧ Hid (OwnFs wr w.heap.size u L) ∧ Hid (Below w.heap.size w wr)) (fun _ i _ => n - (intOf i).toNat)
 case atStart => exact ⟨0, [], by omega, rfl, rfl, Lib.hid rfl, Lib.hid (OwnFs.nil _ _), HB1⟩
 case round =>
  obtain ⟨k, L, hk, rfl, hLk, HF, HO, HB⟩ := hrel
  have hsz := HB.out.size
  by_cases hlt : k < n
  ·
   obtain ⟨rfl, hbw⟩ := ha (by omega)
   obtain ⟨x, hx⟩ : ∃ x, l[k]? = some x := ⟨_, List.getElem?_eq_getElem (by rw [HN.out]; exact hlt)⟩
   have hxm := List.mem_of_getElem? hx
   obtain ⟨x0, x1, x2, x3, x4, x5, x6, x7, x8⟩ := HC.out k _ hx
   rw [← HB.out.cell (p := ⟨b, o + k * 9, none⟩) hbw] at x0
   rw [← HB.out.cell (p := ⟨b, o + k * 9 + 1, none⟩) hbw] at x1
   rw [← HB.out.cell (p := ⟨b, o + k * 9 + 2, none⟩) hbw] at x2
   rw [← HB.out.cell (p := ⟨b, o + k * 9 + 3, none⟩) hbw] at x3
   rw [← HB.out.cell (p := ⟨b, o + k * 9 + 4, none⟩) hbw] at x4
   rw [← HB.out.cell (p := ⟨b, o + k * 9 + 5, none⟩) hbw] at x5
   rw [← HB.out.cell (p := ⟨b, o + k * 9 + 6, none⟩) hbw] at x6
   rw [← HB.out.cell (p := ⟨b, o + k * 9 + 7, none⟩) hbw] at x7
   rw [← HB.out.cell (p := ⟨b, o + k * 9 + 8, none⟩) hbw] at x8
   obtain ⟨a3, n3, m3, q3⟩ := formU3 (HIN.out x hxm)
   obtain ⟨a4, n4, m4, q4⟩ := formU4 (HIN.out x hxm)
   obtain ⟨a5, n5, m5, q5⟩ := formU5 (HIN.out x hxm)
   obtain ⟨a6, n6, m6, q6⟩ := formU6 (HIN.out x hxm)
   obtain ⟨a7, n7, m7, q7⟩ := formU7 (HIN.out x hxm)
   obtain ⟨a8, n8, m8, q8⟩ := formU8 (HIN.out x hxm)
   have HIX : InU wr x := (HIN.out x hxm).on HB.out
   obtain ⟨h3, h4, h5, h6, h7, h8⟩ := HIX
   obtain ⟨k1, k2, k3, k4, k5, k6, k7, k8, k9, k10, k11, k12, k13, k14⟩ := HSM.out x hxm
   have HF2 : Hid (∀ sv : Value, (L ++ [(fieldsU x, sv)]).map (·.1) = (l.take (k + 1)).map fieldsU) := Lib.hid (fun sv => by
    rw [List.take_add_one, hx, List.map_append, List.map_append, HF.out]; rfl)
   have HFU : Hid (fieldsU x = fieldsL (⟨x.nm.toArray⟩ : ByteArray).data.toList (⟨x.vr.toArray⟩ : ByteArray).data.toList x.st (allE (fsts x.dp)).1 (listE x.cn).1 x.rp x.cf x.pd x.aw) := Lib.hid (by unfold fieldsU; rw [bytesOf, bytesOf])
   rw [q3] at x3 h3
   rw [q4] at x4 h4
   rw [q5] at x5 h5
   rw [q6] at x6 h6
   rw [q7] at x7 h7
   rw [q8] at x8 h8
   have hl3 : x.dp.length ≤ 500 := by omega
   have hl4 : x.cn.length ≤ 500 := by omega
   have hl5 : x.rp.length ≤ 90000 := by omega
   have hl7 : x.pd.length ≤ 90000 := by omega
   have hl8 : x.aw.length ≤ 90000 := by omega
   have HK10 := Lib.hid k10
   have hl6 : x.cf.length ≤ 4000 := by omega
   generalize hFX : fieldsU x = FX at *
   generalize (⟨x.nm.toArray⟩ : ByteArray) = X at *
   generalize (⟨x.vr.toArray⟩ : ByteArray) = Y at *
   generalize x.st = st at *
   generalize x.dp = dp at *
   generalize x.cn = cn at *
   generalize x.rp = rp at *
   generalize x.cf = cf at *
   generalize x.pd = pd at *
   generalize x.aw = aw at *
   have hlt9 : wr.heap.size < (wr.alloc (.cells #[.string X, .string Y, .int .i64 st, .slice a3 n3 m3, .slice a4 n4 m4, .slice a5 n5 m5, .slice a6 n6 m6, .slice a7 n7 m7, .slice a8 n8 m8] 43)).heap.size := by simp
   have B3 := (Below.refl wr.heap.size wr).alloc (Nat.le_refl _) (.cells #[.string X, .string Y, .int .i64 st, .slice a3 n3 m3, .slice a4 n4 m4, .slice a5 n5 m5, .slice a6 n6 m6, .slice a7 n7 m7, .slice a8 n8 m8] 43)
   have HW3 : Hid (∀ W, Below (wr.alloc (.cells #[.string X, .string Y, .int .i64 st, .slice a3 n3 m3, .slice a4 n4 m4, .slice a5 n5 m5, .slice a6 n6 m6, .slice a7 n7 m7, .slice a8 n8 m8] 43)).heap.size (wr.alloc (.cells #[.string X, .string Y, .int .i64 st, .slice a3 n3 m3, .slice a4 n4 m4, .slice a5 n5 m5, .slice a6 n6 m6, .slice a7 n7 m7, .slice a8 n8 m8] 43)) W → W.cell? ⟨wr.heap.size, 0, none⟩ = some (.string X) ∧ W.cell? ⟨wr.heap.size, 1, none⟩ = some (.string Y) ∧ W.cell? ⟨wr.heap.size, 2, none⟩ = some (.int .i64 st) ∧ W.cell? ⟨wr.heap.size, 3, none⟩ = some (.slice a3 n3 m3) ∧ W.cell? ⟨wr.heap.size, 4, none⟩ = some (.slice a4 n4 m4) ∧ W.cell? ⟨wr.heap.size, 5, none⟩ = some (.slice a5 n5 m5) ∧ W.cell? ⟨wr.heap.size, 6, none⟩ = some (.slice a6 n6 m6) ∧ W.cell? ⟨wr.heap.size, 7, none⟩ = some (.slice a7 n7 m7) ∧ W.cell? ⟨wr.heap.size, 8, none⟩ = some (.slice a8 n8 m8)) := Lib.hid (fun W hW => by
    obtain ⟨y0, y1, y2, y3, y4, y5, y6, y7, y8⟩ := boxV9 wr (.string X) (.string Y) (.int .i64 st) (.slice a3 n3 m3) (.slice a4 n4 m4) (.slice a5 n5 m5) (.slice a6 n6 m6) (.slice a7 n7 m7) (.slice a8 n8 m8) 43
    exact ⟨(hW.cell (p := ⟨wr.heap.size, 0, none⟩) hlt9).trans y0, (hW.cell (p := ⟨wr.heap.size, 1, none⟩) hlt9).trans y1, (hW.cell (p := ⟨wr.heap.size, 2, none⟩) hlt9).trans y2, (hW.cell (p := ⟨wr.heap.size, 3, none⟩) hlt9).trans y3, (hW.cell (p := ⟨wr.heap.size, 4, none⟩) hlt9).trans y4, (hW.cell (p := ⟨wr.heap.size, 5, none⟩) hlt9).trans y5, (hW.cell (p := ⟨wr.heap.size, 6, none⟩) hlt9).trans y6, (hW.cell (p := ⟨wr.heap.size, 7, none⟩) hlt9).trans y7, (hW.cell (p := ⟨wr.heap.size, 8, none⟩) hlt9).trans y8⟩)
   have y0_0 := (HW3.out _ (Below.refl _ _)).1
   have HB0 := Lib.hid (Below.refl (wr.alloc (.cells #[.string X, .string Y, .int .i64 st, .slice a3 n3 m3, .slice a4 n4 m4, .slice a5 n5 m5, .slice a6 n6 m6, .slice a7 n7 m7, .slice a8 n8 m8] 43)).heap.size (wr.alloc (.cells #[.string X, .string Y, .int .i64 st, .slice a3 n3 m3, .slice a4 n4 m4, .slice a5 n5 m5, .slice a6 n6 m6, .slice a7 n7 m7, .slice a8 n8 m8] 43)))
   have HM0 := Lib.hid (OwnF.nil (wr.alloc (.cells #[.string X, .string Y, .int .i64 st, .slice a3 n3 m3, .slice a4 n4 m4, .slice a5 n5 m5, .slice a6 n6 m6, .slice a7 n7 m7, .slice a8 n8 m8] 43)) (wr.alloc (.cells #[.string X, .string Y, .int .i64 st, .slice a3 n3 m3, .slice a4 n4 m4, .slice a5 n5 m5, .slice a6 n6 m6, .slice a7 n7 m7, .slice a8 n8 m8] 43)).heap.size)
   have ALL := fun W (hb : Below wr.heap.size wr W) => allEBig_ref (.slice a3 n3 m3) dp hl3 k4 W (HoldGs.on h3 hb)
   have LST := fun W (hb : Below wr.heap.size wr W) => listEBig_ref (.slice a4 n4 m4) cn hl4 k6 W (HoldV.on h4 hb)
   have WD := fun W => word_ref st W
   have J5 := fun W (hb : Below wr.heap.size wr W) => join6_any ⟨#[32]⟩ (by decide) (.slice a5 n5 m5) rp hl5 (fun p hp => Nat.le_trans (k8 p hp) (by decide)) W (h5.on hb)
   have J7 := fun W (hb : Below wr.heap.size wr W) => join6_any ⟨#[32]⟩ (by decide) (.slice a7 n7 m7) pd hl7 (fun p hp => Nat.le_trans (k12 p hp) (by decide)) W (h7.on hb)
   have J8 := fun W (hb : Below wr.heap.size wr W) => join6_any ⟨#[32]⟩ (by decide) (.slice a8 n8 m8) aw hl8 (fun p hp => Nat.le_trans (k14 p hp) (by decide)) W (h8.on hb)
   unfold TwoP at ALL LST
   rw [show (ByteArray.mk #[32]).data.toList = [32] from rfl] at J5 J7 J8
   obtain ⟨T1, hT1⟩ : ∃ T, bsT (wordU st) = T := ⟨_, rfl⟩
   obtain ⟨T3, hT3⟩ : ∃ T, bsT (allE (fsts dp)).1 = T := ⟨_, rfl⟩
   obtain ⟨T4, hT4⟩ : ∃ T, bsT (listE cn).1 = T := ⟨_, rfl⟩
   obtain ⟨T5, hT5⟩ : ∃ T, bsT (Lib.join rp [32]) = T := ⟨_, rfl⟩
   obtain ⟨T7, hT7⟩ : ∃ T, bsT (Lib.join pd [32]) = T := ⟨_, rfl⟩
   obtain ⟨T8, hT8⟩ : ∃ T, bsT (Lib.join aw [32]) = T := ⟨_, rfl⟩
   generalize (allE (fsts dp)).2 = e3 at *
   generalize (listE cn).2 = e4 at *
   simp only [hT3] at ALL
   simp only [hT4] at LST
   simp only [hT1] at WD
   simp only [hT5] at J5
   simp only [hT7] at J7
   simp only [hT8] at J8
   have HT : Hid (wordU st = T1.data.toList ∧ (allE (fsts dp)).1 = T3.data.toList ∧ (listE cn).1 = T4.data.toList ∧ Lib.join rp [32] = T5.data.toList ∧ Lib.join pd [32] = T7.data.toList ∧ Lib.join aw [32] = T8.data.toList) := Lib.hid ⟨by rw [← hT1], by rw [← hT3], by rw [← hT4], by rw [← hT5], by rw [← hT7], by rw [← hT8]⟩
   have HBA := Lib.hid B3
   obtain ⟨cb0, cc, cb, co, he6, hc6, ha6, hcell6⟩ := HoldW2.parts h6
   simp only [Value.slice.injEq] at he6
   obtain ⟨rfl, hn6, rfl⟩ := he6
   have HN6 := Lib.hid hn6
   have hn6b : n6 ≤ 4000 := by omega
   have HC6 := Lib.hid hcell6
   clear hx hxm q3 q4 q5 q6 q7 q8 HF hT1 hT3 hT4 hT5 hT7 hT8 h3 h4 h5 h6 h7 h8 k1 k2 k3 k4 k5 k6 k7 k8 k9 k10 k11 k12 k13 k14 hl3 hl4 hl5 hl7 hl8 B3 hcell6 hn6 hFX
   go_wp2_with (first
    | (go_at_call 18; (with_reducible refine (more_ref ⟨#[82, 101, 112, 108, 97, 99, 101, 115]⟩ T5 (by omega) HB7.out.size HM7.out).mono ?_); rintro e wg8 ⟨v6a, v6n, v6c, rfl, ho, hb⟩; obtain ⟨s6, hs6⟩ : ∃ s, addF s5 ([82, 101, 112, 108, 97, 99, 101, 115], T5.data.toList) = s := ⟨_, rfl⟩; have l6 : s6.length ≤ 6 := (by rw [← hs6]; have := addF_len s5 ([82, 101, 112, 108, 97, 99, 101, 115], T5.data.toList); first | omega | (simp at this; omega)); have HS6 := Lib.hid hs6; have HM8 := Lib.hid (ow_eq hs6 ho); have HB8 := Lib.hid (HB7.out.trans hb); have y8_6 := (HW3.out _ HB8.out).2.2.2.2.2.2.1; clear ho hb hs6)
    | (go_at_call 21; (with_reducible refine (J5 _ (HBA.out.trans (HB7.out.mono (Nat.le_of_lt hlt9)))).mono ?_); rintro e wq ⟨rfl, hw⟩; subst hw)
    | (go_at_call 18; (with_reducible refine (more_ref ⟨#[67, 111, 110, 102, 108, 105, 99, 116, 115]⟩ T4 (by omega) HB6.out.size HM6.out).mono ?_); rintro e wg7 ⟨v5a, v5n, v5c, rfl, ho, hb⟩; obtain ⟨s5, hs5⟩ : ∃ s, addF s4 ([67, 111, 110, 102, 108, 105, 99, 116, 115], T4.data.toList) = s := ⟨_, rfl⟩; have l5 : s5.length ≤ 5 := (by rw [← hs5]; have := addF_len s4 ([67, 111, 110, 102, 108, 105, 99, 116, 115], T4.data.toList); first | omega | (simp at this; omega)); have HS5 := Lib.hid hs5; have HM7 := Lib.hid (ow_eq hs5 ho); have HB7 := Lib.hid (HB6.out.trans hb); have y7_5 := (HW3.out _ HB7.out).2.2.2.2.2.1; clear ho hb hs5)
    | (go_at_call 20; (with_reducible refine (LST _ (HBA.out.trans (HB5.out.mono (Nat.le_of_lt hlt9)))).mono ?_); rintro e wg6 ⟨rfl, hb⟩; have HB6 := Lib.hid (HB5.out.trans (hb.mono HB5.out.size)); have HM6 := Lib.hid (OwnF.onU HM5.out hb); clear hb)
    | (go_at_call 18; (with_reducible refine (more_ref ⟨#[68, 101, 112, 101, 110, 100, 115]⟩ T3 (by omega) HB4.out.size HM4.out).mono ?_); rintro e wg5 ⟨v4a, v4n, v4c, rfl, ho, hb⟩; obtain ⟨s4, hs4⟩ : ∃ s, addF s3 ([68, 101, 112, 101, 110, 100, 115], T3.data.toList) = s := ⟨_, rfl⟩; have l4 : s4.length ≤ 4 := (by rw [← hs4]; have := addF_len s3 ([68, 101, 112, 101, 110, 100, 115], T3.data.toList); first | omega | (simp at this; omega)); have HS4 := Lib.hid hs4; have HM5 := Lib.hid (ow_eq hs4 ho); have HB5 := Lib.hid (HB4.out.trans hb); have y5_4 := (HW3.out _ HB5.out).2.2.2.2.1; clear ho hb hs4)
    | (go_at_call 14; (with_reducible refine (ALL _ (HBA.out.trans (HB3.out.mono (Nat.le_of_lt hlt9)))).mono ?_); rintro e wg4 ⟨rfl, hb⟩; have HB4 := Lib.hid (HB3.out.trans (hb.mono HB3.out.size)); have HM4 := Lib.hid (OwnF.onU HM3.out hb); clear hb)
    | (go_at_call 18; (with_reducible refine (more_ref ⟨#[86, 101, 114, 115, 105, 111, 110]⟩ Y (by omega) HB2.out.size HM2.out).mono ?_); rintro e wg3 ⟨v3a, v3n, v3c, rfl, ho, hb⟩; obtain ⟨s3, hs3⟩ : ∃ s, addF s2 ([86, 101, 114, 115, 105, 111, 110], Y.data.toList) = s := ⟨_, rfl⟩; have l3 : s3.length ≤ 3 := (by rw [← hs3]; have := addF_len s2 ([86, 101, 114, 115, 105, 111, 110], Y.data.toList); first | omega | (simp at this; omega)); have HS3 := Lib.hid hs3; have HM3 := Lib.hid (ow_eq hs3 ho); have HB3 := Lib.hid (HB2.out.trans hb); have y3_3 := (HW3.out _ HB3.out).2.2.2.1; clear ho hb hs3)
    | (go_at_call 18; (with_reducible refine (more_ref ⟨#[83, 116, 97, 116, 117, 115]⟩ T1 (by omega) HB1.out.size HM1.out).mono ?_); rintro e wg2 ⟨v2a, v2n, v2c, rfl, ho, hb⟩; obtain ⟨s2, hs2⟩ : ∃ s, addF s1 ([83, 116, 97, 116, 117, 115], T1.data.toList) = s := ⟨_, rfl⟩; have l2 : s2.length ≤ 2 := (by rw [← hs2]; have := addF_len s1 ([83, 116, 97, 116, 117, 115], T1.data.toList); first | omega | (simp at this; omega)); have HS2 := Lib.hid hs2; have HM2 := Lib.hid (ow_eq hs2 ho); have HB2 := Lib.hid (HB1.out.trans hb); have y2_1 := (HW3.out _ HB2.out).2.1; clear ho hb hs2)
    | (go_at_call 19; (with_reducible refine (WD _).mono ?_); rintro e wq ⟨rfl, hw⟩; subst hw)
    | (go_at_call 18; (with_reducible refine (more_ref ⟨#[80, 97, 99, 107, 97, 103, 101]⟩ X (by simp) HB0.out.size HM0.out).mono ?_); rintro e wg1 ⟨v1a, v1n, v1c, rfl, ho, hb⟩; obtain ⟨s1, hs1⟩ : ∃ s, addF ([] : List Fld) ([80, 97, 99, 107, 97, 103, 101], X.data.toList) = s := ⟨_, rfl⟩; have l1 : s1.length ≤ 1 := (by rw [← hs1]; have := addF_len ([] : List Fld) ([80, 97, 99, 107, 97, 103, 101], X.data.toList); first | omega | (simp at this; omega)); have HS1 := Lib.hid hs1; have HM1 := Lib.hid (ow_eq hs1 ho); have HB1 := Lib.hid (HB0.out.trans hb); have y1_2 := (HW3.out _ HB1.out).2.2.1; clear ho hb hs1))
   obtain ⟨ww, hww⟩ : ∃ ww, ww = wr := ⟨_, rfl⟩
   subst hww
   go_loopw [13, 14] (fun q j wi => ∃ (jj : Nat) (Q : ByteArray), jj ≤ n6 ∧ j = .int .i64 jj ∧ q = .string Q ∧ Hid (Q.data.toList = cfText (cf.take jj)) ∧ Hid (Below wg8.heap.size wg8 wi)) (fun _ j _ => n6 - (intOf j).toNat)
   case atStart => exact ⟨0, ⟨#[]⟩, by omega, rfl, rfl, Lib.hid rfl, Lib.hid (Below.refl _ _)⟩
   case round =>
    obtain ⟨jj, Q, hjj, rfl, rfl, HQ, HBI⟩ := hrel
    have y9_6 := (HW3.out _ (HB8.out.trans (HBI.out.mono HB8.out.size))).2.2.2.2.2.2.1
    by_cases hjn : jj < n6
    ·
     obtain ⟨rfl, hcb⟩ := ha6 (by have := HN6.out; omega)
     obtain ⟨⟨P, S⟩, hps⟩ : ∃ x, cf[jj]? = some x := ⟨_, List.getElem?_eq_getElem (by have := HN6.out; omega)⟩
     obtain ⟨z0, z1⟩ := HC6.out jj _ hps
     dsimp only at z0 z1
     have HBJ : Hid (Below ww.heap.size ww wr) := Lib.hid (HBA.out.trans ((HB8.out.trans (HBI.out.mono HB8.out.size)).mono (Nat.le_of_lt hlt9)))
     rw [← HBJ.out.cell (p := ⟨cb, co + jj * 2, none⟩) hcb] at z0
     rw [← HBJ.out.cell (p := ⟨cb, co + jj * 2 + 1, none⟩) hcb] at z1
     obtain ⟨PB, hPB⟩ : ∃ q : ByteArray, (⟨P.toArray⟩ : ByteArray) = q := ⟨_, rfl⟩
     obtain ⟨SB, hSB⟩ : ∃ q : ByteArray, (⟨S.toArray⟩ : ByteArray) = q := ⟨_, rfl⟩
     have HTK : Hid ((Q ++ (ByteArray.mk #[10]) ++ PB ++ (ByteArray.mk #[32]) ++ SB).data.toList = cfText (cf.take (jj + 1))) := Lib.hid (by
      rw [cfText_take hps]
      simp only [ByteArray.data_append, Array.toList_append]
      rw [← hPB, ← hSB, HQ.out]; simp)
     rw [hPB] at z0
     rw [hSB] at z1
     have zQ : Q.size ≤ 40000000 := by
      have e1 := cfText_len (cf.take jj) (fun y hy => HK10.out y (List.mem_of_mem_take hy))
      have e2 : (cf.take jj).length ≤ cf.length := by rw [List.length_take]; omega
      rw [sizeOf, HQ.out]; omega
     have zP : PB.size ≤ 4000 := by rw [← hPB, sizeOf, bytesOf]; exact (HK10.out _ (List.mem_of_getElem? hps)).1
     have zS : SB.size ≤ 4000 := by rw [← hSB, sizeOf, bytesOf]; exact (HK10.out _ (List.mem_of_getElem? hps)).2
     have b1 : ¬ (9223372036854775807 < Q.size + 1) := by omega
     have b2 : ¬ (9223372036854775807 < Q.size + 1 + PB.size) := by omega
     have b3 : ¬ (9223372036854775807 < Q.size + 1 + PB.size + 1) := by omega
     have b4 : ¬ (9223372036854775807 < Q.size + 1 + PB.size + 1 + SB.size) := by omega
     have hs := And.intro y9_6 (And.intro z0 (And.intro z1 HBI.out))
     have j0 : (0 : Int) ≤ (jj : Int) := by omega
     have j1 : (jj : Int) < (n6 : Int) := by omega
     clear hps hPB hSB z0 z1 y9_6 HBJ HQ
     go_wp2
     have KQ := Lib.hid (atK wg8 [(⟨ww.heap.size, 6, none⟩, .slice (some ⟨cb, co, none⟩) n6 m6), (⟨cb, co + jj * 2, none⟩, .string PB), (⟨cb, co + jj * 2 + 1, none⟩, .string SB)])
     have BE := fun (V : World) (h : V.cell? ⟨ww.heap.size, 6, none⟩ = some (.slice (some ⟨cb, co, none⟩) n6 m6) ∧ V.cell? ⟨cb, co + jj * 2, none⟩ = some (.string PB) ∧ V.cell? ⟨cb, co + jj * 2 + 1, none⟩ = some (.string SB) ∧ Below wg8.heap.size wg8 V) => AtF.be (w := wg8) (l := [(⟨ww.heap.size, 6, none⟩, .slice (some ⟨cb, co, none⟩) n6 m6), (⟨cb, co + jj * 2, none⟩, .string PB), (⟨cb, co + jj * 2 + 1, none⟩, .string SB)]) h
     refine wp_region_held_drew (S := (fun V => V.cell? ⟨ww.heap.size, 6, none⟩ = some (.slice (some ⟨cb, co, none⟩) n6 m6) ∧ V.cell? ⟨cb, co + jj * 2, none⟩ = some (.string PB) ∧ V.cell? ⟨cb, co + jj * 2 + 1, none⟩ = some (.string SB) ∧ Below wg8.heap.size wg8 V)) (by kernel_rfl) ?_ (fun hHeld => ?_)
     ·
      (try dsimp only); (first | assumption | exact hs | exact KQ.out.dr _ hs | exact KQ.out.dr _ (by assumption) | exact KQ.out.on _ _ (by assumption) (by assumption) | exact KQ.out.al _ _ (by assumption) | exact KQ.out.ald _ _ (by assumption) | exact KQ.out.al _ _ hs | exact KQ.out.ald _ _ hs)
     refine heldY 0 75 ?_ _ rfl rfl (by kernel_rfl) (by kernel_rfl) (by kernel_rfl) (fun _ _ _ h => h) rfl (by assumption) ?_ ?_
     rotate_left
     ·
      (intro w hSw; (try dsimp only at hSw); go_simp; (try with_reducible rfl))
     try simp only [SL]
     refine heldY 1 76 ?_ _ rfl rfl (by kernel_rfl) (by kernel_rfl) (by kernel_rfl) (fun _ _ _ h => h) rfl (by assumption) ?_ ?_
     rotate_left
     ·
      (intro w hSw; (try dsimp only at hSw); go_simp; (try with_reducible rfl))
     try simp only [SL]
     refine heldY 2 77 ?_ _ rfl rfl (by kernel_rfl) (by kernel_rfl) (by kernel_rfl) (fun _ _ _ h => h) rfl (by assumption) ?_ ?_
     rotate_left
     ·
      (intro w hSw; (try dsimp only at hSw); go_simp; (try with_reducible rfl))
     try simp only [SL]
     refine heldY 3 78 ?_ _ rfl rfl (by kernel_rfl) (by kernel_rfl) (by kernel_rfl) (fun _ _ _ h => h) rfl (by assumption) ?_ ?_
     rotate_left
     ·
      (intro w hSw; (try dsimp only at hSw); go_simp; (try with_reducible rfl))
     try simp only [SL]
     refine heldY 4 79 ?_ _ rfl rfl (by kernel_rfl) (by kernel_rfl) (by kernel_rfl) (fun _ _ _ h => h) rfl (by assumption) ?_ ?_
     rotate_left
     ·
      (intro w hSw; (try dsimp only at hSw); go_simp; (try with_reducible rfl))
     try simp only [SL]
     refine heldY 5 80 ?_ _ rfl rfl (by kernel_rfl) (by kernel_rfl) (by kernel_rfl) (fun _ _ _ h => h) rfl (by assumption) ?_ ?_
     rotate_left
     ·
      (intro w hSw; (try dsimp only at hSw); go_simp; (try with_reducible rfl))
     try simp only [SL]
     refine heldY 6 81 ?_ _ rfl rfl (by kernel_rfl) (by kernel_rfl) (by kernel_rfl) (fun _ _ _ h => h) rfl (by assumption) ?_ ?_
     rotate_left
     ·
      (intro w hSw; (try dsimp only at hSw); go_simp; (try with_reducible rfl))
     try simp only [SL]
     refine heldY 7 82 ?_ _ rfl rfl (by kernel_rfl) (by kernel_rfl) (by kernel_rfl) (fun _ _ _ h => h) rfl (by assumption) ?_ ?_
     rotate_left
     ·
      (intro w hSw; (try dsimp only at hSw); go_simp; (try with_reducible rfl))
     try simp only [SL]
     refine heldY 8 83 ?_ _ rfl rfl (by kernel_rfl) (by kernel_rfl) (by kernel_rfl) (fun _ _ _ h => h) rfl (by assumption) ?_ ?_
     rotate_left
     ·
      (intro w hSw; (try dsimp only at hSw); go_simp; (try with_reducible rfl))
     try simp only [SL]
     refine heldY 9 84 ?_ _ rfl rfl (by kernel_rfl) (by kernel_rfl) (by kernel_rfl) (fun _ _ _ h => h) rfl (by assumption) ?_ ?_
     rotate_left
     ·
      (intro w hSw; (try dsimp only at hSw); go_simp; (try with_reducible rfl))
     try simp only [SL]
     refine heldY 10 85 ?_ _ rfl rfl (by kernel_rfl) (by kernel_rfl) (by kernel_rfl) (fun _ _ _ h => h) rfl (by assumption) ?_ ?_
     rotate_left
     ·
      (intro w hSw; (try dsimp only at hSw); go_simp; (try with_reducible rfl))
     try simp only [SL]
     refine heldY 11 86 ?_ _ rfl rfl (by kernel_rfl) (by kernel_rfl) (by kernel_rfl) (fun _ _ _ h => h) rfl (by assumption) ?_ ?_
     rotate_left
     ·
      (intro w hSw; (try dsimp only at hSw); go_simp; (try with_reducible rfl))
     try simp only [SL]
     refine heldY 12 87 ?_ _ rfl rfl (by kernel_rfl) (by kernel_rfl) (by kernel_rfl) (fun _ _ _ h => h) rfl (by assumption) ?_ ?_
     rotate_left
     ·
      (intro w hSw; (try dsimp only at hSw); go_simp; (try with_reducible rfl))
     try simp only [SL]
     refine heldY 13 88 ?_ _ rfl rfl (by kernel_rfl) (by kernel_rfl) (by kernel_rfl) (fun _ _ _ h => h) rfl (by assumption) ?_ ?_
     rotate_left
     ·
      (intro w hSw; (try dsimp only at hSw); go_simp; (try with_reducible rfl))
     try simp only [SL]
     refine heldY 14 89 ?_ _ rfl rfl (by kernel_rfl) (by kernel_rfl) (by kernel_rfl) (fun _ _ _ h => h) rfl (by assumption) ?_ ?_
     rotate_left
     ·
      (intro w hSw; (try dsimp only at hSw); go_simp; (try with_reducible rfl))
     try simp only [SL]
     refine heldY 15 90 ?_ _ rfl rfl (by kernel_rfl) (by kernel_rfl) (by kernel_rfl) (fun _ _ _ h => h) rfl (by assumption) ?_ ?_
     rotate_left
     ·
      (intro w hSw; (try dsimp only at hSw); go_simp; (try with_reducible rfl))
     try simp only [SL]
     refine heldY 16 91 ?_ _ rfl rfl (by kernel_rfl) (by kernel_rfl) (by kernel_rfl) (fun _ _ _ h => h) rfl (by assumption) ?_ ?_
     rotate_left
     ·
      (intro w hSw; (try dsimp only at hSw); go_simp; (try with_reducible rfl))
     try simp only [SL]
     refine heldY 17 13 ?_ _ rfl rfl (by kernel_rfl) (by kernel_rfl) (by kernel_rfl) (fun _ _ _ h => h) rfl (by assumption) ?_ ?_
     rotate_left
     ·
      (intro w hSw; (try dsimp only at hSw); go_simp; (try with_reducible rfl))
     try simp only [SL]
     refine wpAnyH_done (by kernel_rfl) ?_ _
     have HW9 := Lib.hid (BE _ hHeld)
     clear hHeld hs BE
     go_wp2
     go_roundw
     case rel => exact ⟨jj + 1, _, by omega, by go_num, rfl, HTK, HW9⟩
     case measure => simp [intOf]; omega
    ·
     obtain rfl : jj = n6 := by omega
     have HT6 : Hid (cfText cf = Q.data.toList) := Lib.hid (by rw [HQ.out, List.take_of_length_le (by have := HN6.out; omega)])
     have HB9 := Lib.hid (HB8.out.trans (HBI.out.mono HB8.out.size))
     have HM9 := Lib.hid (OwnF.onU HM8.out HBI.out)
     clear HQ HBI hjj hjn
     go_wp2_with (first
      | (at_builtin; refine wpList_append_own _ rfl _ _ 50 rfl w.heap.size 51 i0 (.slice none 0 0) 1 24 Tryz.underlying50 hi hz0 hz1 hz2' rfl (by decide) _ _ _ rfl (World.ownsRow.alloc HOS.out.1.2 _) ⟨wg12.heap.size, 0, none⟩ 1 1 [.slice v9a v9n v9c] rfl rfl (news1 _ _ rfl) (one1 _ _ _) ?c3 ?c4 ?c5 ?_)
      | (go_at_call 18; (with_reducible refine (more_ref ⟨#[84, 114, 105, 103, 103, 101, 114, 115, 45, 65, 119, 97, 105, 116, 101, 100]⟩ T8 (by omega) HB11.out.size HM11.out).mono ?_); rintro e wg12 ⟨v9a, v9n, v9c, rfl, ho, hb⟩; obtain ⟨s9, hs9⟩ : ∃ s, addF s8 ([84, 114, 105, 103, 103, 101, 114, 115, 45, 65, 119, 97, 105, 116, 101, 100], T8.data.toList) = s := ⟨_, rfl⟩; have l9 : s9.length ≤ 9 := (by rw [← hs9]; have := addF_len s8 ([84, 114, 105, 103, 103, 101, 114, 115, 45, 65, 119, 97, 105, 116, 101, 100], T8.data.toList); first | omega | (simp at this; omega)); have HS9 := Lib.hid hs9; have HM12 := Lib.hid (ow_eq hs9 ho); have HB12 := Lib.hid (HB11.out.trans hb); clear ho hb hs9; have HOS := Lib.hid (HO.out.on (HBA.out.trans (HB12.out.mono (Nat.le_of_lt hlt9)))); have HMS := Lib.hid (OwnF.mono HM12.out (Nat.le_trans hsz (Nat.le_of_lt hlt9))))
      | (go_at_call 21; (with_reducible refine (J8 _ (HBA.out.trans (HB11.out.mono (Nat.le_of_lt hlt9)))).mono ?_); rintro e wq ⟨rfl, hw⟩; subst hw)
      | (go_at_call 18; (with_reducible refine (more_ref ⟨#[84, 114, 105, 103, 103, 101, 114, 115, 45, 80, 101, 110, 100, 105, 110, 103]⟩ T7 (by omega) HB10.out.size HM10.out).mono ?_); rintro e wg11 ⟨v8a, v8n, v8c, rfl, ho, hb⟩; obtain ⟨s8, hs8⟩ : ∃ s, addF s7 ([84, 114, 105, 103, 103, 101, 114, 115, 45, 80, 101, 110, 100, 105, 110, 103], T7.data.toList) = s := ⟨_, rfl⟩; have l8 : s8.length ≤ 8 := (by rw [← hs8]; have := addF_len s7 ([84, 114, 105, 103, 103, 101, 114, 115, 45, 80, 101, 110, 100, 105, 110, 103], T7.data.toList); first | omega | (simp at this; omega)); have HS8 := Lib.hid hs8; have HM11 := Lib.hid (ow_eq hs8 ho); have HB11 := Lib.hid (HB10.out.trans hb); have y11_8 := (HW3.out _ HB11.out).2.2.2.2.2.2.2.2; clear ho hb hs8)
      | (go_at_call 21; (with_reducible refine (J7 _ (HBA.out.trans (HB10.out.mono (Nat.le_of_lt hlt9)))).mono ?_); rintro e wq ⟨rfl, hw⟩; subst hw)
      | (go_at_call 18; (with_reducible refine (more_ref ⟨#[67, 111, 110, 102, 102, 105, 108, 101, 115]⟩ Q (by omega) HB9.out.size HM9.out).mono ?_); rintro e wg10 ⟨v7a, v7n, v7c, rfl, ho, hb⟩; obtain ⟨s7, hs7⟩ : ∃ s, addF s6 ([67, 111, 110, 102, 102, 105, 108, 101, 115], Q.data.toList) = s := ⟨_, rfl⟩; have l7 : s7.length ≤ 7 := (by rw [← hs7]; have := addF_len s6 ([67, 111, 110, 102, 102, 105, 108, 101, 115], Q.data.toList); first | omega | (simp at this; omega)); have HS7 := Lib.hid hs7; have HM10 := Lib.hid (ow_eq hs7 ho); have HB10 := Lib.hid (HB9.out.trans hb); have y10_7 := (HW3.out _ HB10.out).2.2.2.2.2.2.2.1; clear ho hb hs7))
     case c3 => unfold maxLen; simp; omega
     case c4 => simp; omega
     case c5 => have := hsz; have := hlt9; have := HB12.out.size; simp; omega
     intro v' w4 hown' hgrow _
     have HBT := Lib.hid (HB.out.trans ((HBA.out.trans (HB12.out.mono (Nat.le_of_lt hlt9))).mono hsz))
     have HS : Hid (FX = s9) := Lib.hid (by rw [HFU.out]; unfold fieldsL; rw [HT.out.1, HT.out.2.1, HT.out.2.2.1, HT.out.2.2.2.1, HT6.out, HT.out.2.2.2.2.1, HT.out.2.2.2.2.2, HS1.out, HS2.out, HS3.out, HS4.out, HS5.out, HS6.out, HS7.out, HS8.out, HS9.out])
     have HO4 : Hid (OwnFs w4 w.heap.size v' (L ++ [(s9, .slice v9a v9n v9c)])) := Lib.hid (OwnFs.app HOS.out HMS.out (by rw [hLk]; simpa using hown') hgrow)
     have HB4 : Hid (Below w.heap.size w w4) := Lib.hid (OwnV.below HBT.out HOS.out.1 hgrow (Nat.le_refl _) HBT.out.size)
     have HF3 : Hid ((L ++ [(s9, Value.slice v9a v9n v9c)]).map (·.1) = (l.take (k + 1)).map fieldsU) := Lib.hid (by rw [← HS.out]; exact HF2.out (.slice v9a v9n v9c))
     have HL3 : Hid ((L ++ [(s9, Value.slice v9a v9n v9c)]).length = k + 1) := Lib.hid (by rw [List.length_append, hLk]; rfl)
     clear hown' hgrow
     go_wp2
     go_roundw
     case rel => exact ⟨k + 1, _, by omega, by go_num, HL3.out, HF3, HO4, HB4⟩
     case measure => simp [intOf]; omega
  ·
   obtain rfl : k = n := by omega
   have hfe := HO.out.holds
   rw [show (L.map fun x => x.1.map rowF) = (L.map (·.1)).map (·.map rowF) by rw [List.map_map]; rfl, HF.out, List.take_of_length_le (by rw [HN.out]; omega)] at hfe
   have PP := PR _ wr hfe
   obtain ⟨ua, uc, -, -, hu, -⟩ := HO.out.holds
   rw [List.length_map, hLk] at hu
   subst hu
   clear hlt hfe PR HF HO
   by_cases hp : pz = 0
   ·
    have G := Lib.hid ((HRES.out w (Below.refl _ _)).1 hp)
    subst hp
    clear HRES
    go_wp2_with (go_at_call 22; (with_reducible refine PP.mono ?_); rintro e w5 ⟨rfl, hb⟩; have HB5 := Lib.hid (HB.out.trans (hb.mono HB.out.size)); clear hb)
    go_ret2
    exact ⟨G.out, HB5.out⟩
   ·
    have G := Lib.hid ((HRES.out w (Below.refl _ _)).2 hp)
    have hp1 : ¬ (pz = 0) := hp
    clear HRES
    go_wp2_with (go_at_call 22; (with_reducible refine PP.mono ?_); rintro e w5 ⟨rfl, hb⟩; have HB5 := Lib.hid (HB.out.trans (hb.mono HB.out.size)); clear hb)
    go_ret2
    exact ⟨G.out, HB5.out⟩
end Go.Proofs.YtkbkaeefdhkgdaaGreatDoor
