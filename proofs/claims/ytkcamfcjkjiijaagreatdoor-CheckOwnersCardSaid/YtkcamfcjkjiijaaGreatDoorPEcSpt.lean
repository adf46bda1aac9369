/-
  check.spots: the set of all places of paths of lists, with the lists' names; nothing old turns.
-/
import Derived.Test.YtkcamfcjkjiijaaGreatDoorPEcOwnM
import Derived.Deep.RegionLaw
import Derived.Deep.AppendLies
import Derived.Maps.Own
namespace Go.Proofs.YtkcamfcjkjiijaaGreatDoor
open Go.RowKit Go.WideMaps Go.Maps Go.Shelf
theorem spots_lenB (ds : List Dv) (L : List Lp) (h : ∀ p ∈ L, p.1.2.length ≤ 90000) : (spotsL ds L).length ≤ L.length * 90000 := by
  induction L with
  | nil => simp [spotsL]
  | cons x l ih =>
    have := ih (fun y hy => h y (List.mem_cons_of_mem _ hy))
    unfold spotsL at this ⊢
    rw [List.flatMap_cons, List.length_append, List.length_cons]
    have h2 : (spotsOf ds x).length ≤ 90000 := by unfold spotsOf; rw [List.length_map]; exact h x List.mem_cons_self
    omega
set_option maxRecDepth 100000 in
set_option maxHeartbeats 16000000 in
theorem spots_any (x : Stv) (hf : FitSt x) (hd : x.ds.length ≤ 90000) (hl : x.ls.length ≤ 90000) (hp : ∀ p ∈ x.ls, p.1.2.length ≤ 90000) (w : World) (hx : InSt w x) :
    Calls Tryz.prog 51 #[agS x] w fun e w' => ∃ B q, e = .returned (.map (some B)) ∧ w.heap.size ≤ B ∧ w'.ownsMap Tryz.prog 90 unitElem B q (setSp (spotsL x.ds x.ls)) ∧ Below w.heap.size w w' := by
  have b1 := (Below.refl w.heap.size w).alloc (Nat.le_refl _) (.cells #[x.rv, x.dv, x.ov, x.av, x.iv, x.fv, x.lv] 30)
  have c7 : Cell7 w.heap.size (w.alloc (.cells #[x.rv, x.dv, x.ov, x.av, x.iv, x.fv, x.lv] 30)) x := by
    have k := fun i v h => boxV7 w x.rv x.dv x.ov x.av x.iv x.fv x.lv 30 i v h
    exact ⟨k 0 _ rfl, k 1 _ rfl, k 2 _ rfl, k 3 _ rfl, k 4 _ rfl, k 5 _ rfl, k 6 _ rfl⟩
  obtain ⟨w1, hw1⟩ : ∃ w1, w.alloc (.cells #[x.rv, x.dv, x.ov, x.av, x.iv, x.fv, x.lv] 30) = w1 := ⟨_, rfl⟩
  have hz1 : w1.heap.size = w.heap.size + 1 := by rw [← hw1]; simp
  rw [hw1] at b1 c7
  have C7 : Hid (∀ W, Below w1.heap.size w1 W → Cell7 w.heap.size W x) := Lib.hid (fun W hb => c7.on hb)
  have TR : Hid (∀ W (q r : ByteArray), Below w1.heap.size w1 W → Calls Tryz.prog 30 #[x.dv, .string q, .string r] W (ToPost x.ds q.data.toList r.data.toList W)) := Lib.hid (fun W q r hb => true_any x.dv x.ds hd q r W (hx.on (b1.trans (hb.mono b1.size))).ds)
  obtain ⟨hin, a, c, b, o, hlv', hc, ha, hcell⟩ := (hx.on b1).ls
  have HI := Lib.hid hin
  have HC := Lib.hid hcell
  have HP := Lib.hid hp
  have HFI := Lib.hid hf
  obtain ⟨⟨⟨ra, rc, -, -, hrv, -⟩, -⟩, ⟨oa, on, oc, hov⟩, ⟨aa, an, ac, hav⟩, ⟨ia, im, ic, hiv⟩, ⟨fa, fn, fc, hfv⟩, ⟨da, dn, dc, hdv⟩, -⟩ := inS7_of hx
  have HGD : Hid (∀ p ∈ x.ls, ∀ y ∈ spotsOf x.ds p, GoodSp y) := Lib.hid (fun p hp y hy => spots_good hf (l := [p]) (fun q hq => by simp at hq; subst hq; exact hp) y (by unfold spotsL; simpa using hy))
  have HSL : Hid (∀ k, (spotsL x.ds (x.ls.take k)).length ≤ 90000 * 90000) := Lib.hid (fun k => Nat.le_trans (spots_lenB x.ds _ (fun p h => hp p (List.mem_of_mem_take h))) (Nat.mul_le_mul_right _ (by rw [List.length_take]; omega)))
  have HB1 := Lib.hid b1
  have HW1 := Lib.hid hw1
  have HZ1 := Lib.hid hz1
  obtain ⟨n, hN⟩ : ∃ n, x.ls.length = n := ⟨_, rfl⟩
  rw [hN] at hlv' hc ha hl
  have HN := Lib.hid hN
  have HFE : Hid (spotsL x.ds (x.ls.take n) = spotsL x.ds x.ls) := Lib.hid (by rw [List.take_of_length_le (by omega)])
  have hmm := @run_makeMap Tryz.prog
  clear hcell hin hN hx b1 hw1 hz1 hd c7 hp hf
  obtain ⟨rs, ds, ls, rv, dv, ov, av, iv, fv, lv⟩ := x
  unfold agS
  unfold Cell7 at C7
  dsimp only at *
  subst hrv hov hav hiv hfv hdv hlv'
  simp only [List.length_map] at *
  generalize rs.length = rn at *
  obtain ⟨SL, hSL⟩ : ∃ SL : Nat → List Sp, (fun k => spotsL ds (ls.take k)) = SL := ⟨_, rfl⟩
  have HNX : Hid (∀ k p, ls[k]? = some p → SL (k + 1) = SL k ++ spotsOf ds p) := Lib.hid (fun k p h => by rw [← hSL]; exact spots_take h)
  have HS0 : Hid (SL 0 = []) := Lib.hid (by rw [← hSL]; rfl)
  have HSL2 : Hid (∀ k, (SL k).length ≤ 90000 * 90000) := Lib.hid (fun k => by rw [← hSL]; exact HSL.out k)
  have HFE2 : Hid (SL n = spotsL ds ls) := Lib.hid (by rw [← hSL]; exact HFE.out)
  clear HSL HFE hSL
  go_enter Tryz.func51, Tryz.ntmps51
  have hw1 := HW1.out
  have e7 := C7.out w1 (Below.refl _ _)
  have HM0 : Hid ((w1.alloc (.map #[] 0)).ownsMap Tryz.prog 90 unitElem w1.heap.size (SL 0).length (setSp (SL 0))) := Lib.hid (by rw [HS0.out]; exact World.ownsMap_made _ _ _ _)
  have HBm := Lib.hid ((Below.refl w1.heap.size w1).alloc (Nat.le_refl _) (.map #[] 0))
  have em := C7.out _ HBm.out
  obtain ⟨B, hB⟩ : ∃ B, w1.heap.size = B := ⟨_, rfl⟩
  go_wp2
  rw [hB] at HM0
  have HBB := Lib.hid hB
  clear hmm e7 em hw1
  go_loopw [12] (fun i wr => ∃ k : Nat, k ≤ n ∧ i = .int .i64 k ∧ Hid (wr.ownsMap Tryz.prog 90 unitElem B (SL k).length (setSp (SL k))) ∧ Hid (Below w1.heap.size w1 wr)) (fun i _ => n - (intOf i).toNat)
  case atStart => exact ⟨0, by omega, rfl, HM0, HBm⟩
  case round =>
    obtain ⟨k, hk, rfl, HM, HB⟩ := hrel
    have hsz := HB.out.size
    by_cases hlt : k < n
    · obtain ⟨rfl, hbw⟩ := ha (by omega)
      obtain ⟨p, hpx⟩ : ∃ p, ls[k]? = some p := ⟨_, List.getElem?_eq_getElem (by rw [HN.out]; exact hlt)⟩
      obtain ⟨c0, c1⟩ := HC.out k p hpx
      have hpm := List.mem_of_getElem? hpx
      have HPI := HI.out p hpm
      have hpn := HP.out p hpm
      have HGO := Lib.hid (HGD.out p hpm)
      have hnx := HNX.out k p hpx
      have hskl := HSL2.out k
      rw [← HB.out.cell (p := ⟨b, o + k * 2, none⟩) hbw] at c0
      rw [← HB.out.cell (p := ⟨b, o + k * 2 + 1, none⟩) hbw] at c1
      obtain ⟨pa, pc, pb, po, hu, hpc, hpa, hpcell⟩ := HPI
      have HPC := Lib.hid hpcell
      have HPA := Lib.hid hpa
      rw [hu] at c1
      obtain ⟨X, hX⟩ : ∃ X : ByteArray, bsT p.1.1 = X := ⟨_, rfl⟩
      have hXL : X.data.toList = p.1.1 := by rw [← hX]
      rw [hX] at c0
      obtain ⟨m, hM⟩ : ∃ m, p.1.2.length = m := ⟨_, rfl⟩
      rw [hM] at hpc hpn c1
      rw [hM] at HPA
      have HMM := Lib.hid hM
      obtain ⟨x0, x1⟩ := boxV2U wr (.string X) (.slice pa m pc) 63
      have HBx := Lib.hid (HB.out.alloc hsz (.cells #[.string X, .slice pa m pc] 63))
      have HMx := Lib.hid (HM.out.alloc (.cells #[.string X, .slice pa m pc] 63))
      obtain ⟨wx, hwx⟩ : ∃ wx, wr.alloc (.cells #[.string X, .slice pa m pc] 63) = wx := ⟨_, rfl⟩
      rw [hwx] at x0 x1 HBx HMx
      have HPX : Hid (∀ W, Below w1.heap.size w1 W → ∀ j q, p.1.2[j]? = some q → W.cell? ⟨pb, po + j, none⟩ = some (.string (⟨q.toArray⟩ : ByteArray))) := Lib.hid (fun W hb j q hq => by
        have hlt2 : pb < w1.heap.size := (HPA.out (by have := (List.getElem?_eq_some_iff.1 hq).1; have := HMM.out; omega)).2
        exact (hb.cell (p := ⟨pb, po + j, none⟩) hlt2).trans (HPC.out j q hq))
      have hBo : B < wr.heap.size := HM.out.lt
      have HX0 := Lib.hid x0
      have HSP : Hid (∀ j q, p.1.2[j]? = some q → (spotsOf ds p).take (j + 1) = (spotsOf ds p).take j ++ [(toD ds q p.1.1, p.1.1)] ∧ GoodSp (toD ds q p.1.1, p.1.1)) := Lib.hid (fun j q hq => ⟨spots_take1 hq, HGO.out _ (by unfold spotsOf; exact List.mem_map.2 ⟨q, List.mem_of_getElem? hq, rfl⟩)⟩)
      have HSE : Hid ((spotsOf ds p).take m = spotsOf ds p) := Lib.hid (List.take_of_length_le (by unfold spotsOf; rw [List.length_map, HMM.out]; exact Nat.le_refl _))
      have HSN : Hid (SL (k + 1) = SL k ++ spotsOf ds p) := Lib.hid hnx
      obtain ⟨SO, hSO⟩ : ∃ SO : Nat → List Sp, (fun j => (spotsOf ds p).take j) = SO := ⟨_, rfl⟩
      have HSP2 : Hid (∀ j q, p.1.2[j]? = some q → SO (j + 1) = SO j ++ [(toD ds q p.1.1, p.1.1)] ∧ GoodSp (toD ds q p.1.1, p.1.1)) := Lib.hid (fun j q hq => by rw [← hSO]; exact HSP.out j q hq)
      have HSE2 : Hid (SL (k + 1) = SL k ++ SO m) := Lib.hid (by rw [HSN.out, ← hSO]; exact congrArg _ HSE.out.symm)
      have HS02 : Hid (SO 0 = []) := Lib.hid (by rw [← hSO]; simp)
      have HSOL : Hid (∀ j, (SO j).length ≤ 90000) := Lib.hid (fun j => by rw [← hSO]; show ((spotsOf ds p).take j).length ≤ 90000; rw [List.length_take]; unfold spotsOf; rw [List.length_map]; have := HMM.out; omega)
      have HXL := Lib.hid (And.intro hX hXL)
      have HWX := Lib.hid hwx
      have HMx : Hid (wx.ownsMap Tryz.prog 90 unitElem B (SL k ++ SO 0).length (setSp (SL k ++ SO 0))) := Lib.hid (by rw [HS02.out, List.append_nil]; exact HMx.out)
      have e7 := C7.out wr HB.out
      obtain ⟨wo, rfl⟩ : ∃ wo : World, wo = wr := ⟨_, rfl⟩
      clear hpcell hpa hu hX hXL hpx hpm hnx HSP HSE HSN hSO HGO hM HM hwx x1
      go_wp2
      have hwx2 := HWX.out
      go_wp2
      clear hwx2 c0 c1 x0 e7
      go_loopw [19] (fun i wr => ∃ j : Nat, j ≤ m ∧ i = .int .i64 j ∧ Hid (wr.ownsMap Tryz.prog 90 unitElem B (SL k ++ SO j).length (setSp (SL k ++ SO j))) ∧ Hid (wr.cell? ⟨wo.heap.size, 0, none⟩ = some (.string X)) ∧ Hid (Below w1.heap.size w1 wr)) (fun i _ => m - (intOf i).toNat)
      case atStart => exact ⟨0, by omega, rfl, by rw [HWX.out]; exact HMx, by rw [HWX.out]; exact HX0, by rw [HWX.out]; exact HBx⟩
      case round =>
        obtain ⟨j, hj, rfl, HM, HX3, HB3⟩ := hrel
        have hsz3 := HB3.out.size
        have hBlt := HM.out.lt
        by_cases hlt2 : j < m
        · obtain ⟨rfl, hpb⟩ := HPA.out (by omega)
          obtain ⟨q, hq⟩ : ∃ q, p.1.2[j]? = some q := ⟨_, List.getElem?_eq_getElem (by rw [HMM.out]; exact hlt2)⟩
          have cq := HPX.out wr HB3.out j q hq
          have x3 := HX3.out
          have hB13 : Below w1.heap.size w1 wr := HB3.out
          have e3 := C7.out wr hB13
          obtain ⟨d0, d1, d2, d3, d4, d5, d6⟩ := e3
          obtain ⟨hs1, hgood⟩ := HSP2.out j q hq
          have HKEY := litS_is hgood
          have HPUT : Hid (∀ W : World, W.ownsMap Tryz.prog 90 unitElem B ((SL k ++ SO j).length + 1) ((setSp (SL k ++ SO j)).put (litSp (toD ds q p.1.1, p.1.1)) (.agg [])) → W.ownsMap Tryz.prog 90 unitElem B (SL k ++ SO (j + 1)).length (setSp (SL k ++ SO (j + 1)))) := Lib.hid (fun W h => by
            rw [hs1, ← List.append_assoc, setSp_snoc, List.length_append (bs := [_])]; exact h)
          have hln : (SL k ++ SO j).length ≤ 90000 * 90000 + 90000 := by rw [List.length_append]; have := HSOL.out j; omega
          obtain ⟨Y, hY⟩ : ∃ Y : ByteArray, (⟨q.toArray⟩ : ByteArray) = Y := ⟨_, rfl⟩
          have hYL : Y.data.toList = q := by rw [← hY]
          rw [hY] at cq
          have hbd := (Below.refl wr.heap.size wr).drew
          have T1 := TR.out wr.drew Y X (hB13.drew)
          unfold ToPost at T1
          rw [hYL, HXL.out.2] at T1
          unfold valSp at HKEY
          dsimp only at HKEY
          rw [show (⟨p.1.1.toArray⟩ : ByteArray) = X from HXL.out.1] at HKEY
          obtain ⟨Z, hZ⟩ : ∃ Z : ByteArray, bsA (toD ds q p.1.1) = Z := ⟨_, rfl⟩
          rw [show (⟨(toD ds q p.1.1).toArray⟩ : ByteArray) = Z from hZ] at HKEY
          rw [hZ] at T1
          have HKY := Lib.hid HKEY
          have x3d : wr.drew.cell? ⟨wo.heap.size, 0, none⟩ = _ := x3
          have d1d : wr.drew.cell? ⟨w.heap.size, 1, none⟩ = _ := d1
          obtain ⟨kl, hkl⟩ : ∃ kl, litSp (toD ds q p.1.1, p.1.1) = kl := ⟨_, rfl⟩
          rw [hkl] at HKY HPUT
          obtain ⟨DD, hDD⟩ : ∃ D, setSp (SL k ++ SO j) = D := ⟨_, rfl⟩
          obtain ⟨LN, hLN⟩ : ∃ D, (SL k ++ SO j).length = D := ⟨_, rfl⟩
          rw [hDD, hLN] at HPUT HM
          rw [hLN] at hln
          have j0 : (0 : Int) ≤ (j : Int) := by omega
          have j1 : (j : Int) < (m : Int) := by omega
          have hxw : wo.heap.size < wr.heap.size := World.block_lt_of_cell? wr _ x3
          have hww : w.heap.size < wr.heap.size := World.block_lt_of_cell? wr _ d1
          clear hs1 hgood HKEY hY hYL hZ hkl hDD hLN hq hB13 d0 d2 d3 d4 d5 d6
          have HALL : Hid (∀ w4, Below wr.heap.size wr w4 → ∃ w8, (Instr.mapUpdate 85 (.map (some B)) (.agg #[.string Z, .string X]) (.agg #[])).run Tryz.prog w4 = .ok () w8 ∧ Hid (w8.ownsMap Tryz.prog 90 unitElem B (SL k ++ SO (j + 1)).length (setSp (SL k ++ SO (j + 1)))) ∧ Hid (w8.cell? ⟨wo.heap.size, 0, none⟩ = some (.string X)) ∧ Hid (Below w1.heap.size w1 w8)) := Lib.hid (fun w4 hbb => by
            have hM4 := World.ownsMap.kept HM.out (grownV hbb) (by simp)
            obtain ⟨w8, hrun8, hm8, hg8⟩ := World.ownsMap.update hM4 lawSp Tryz.underlying85 (by unfold maxLen; omega) HKY.out (val := .agg #[]) unitElem_mk
            have hs4 := hbb.size
            refine ⟨w8, hrun8, Lib.hid (HPUT.out _ hm8), Lib.hid ?_, Lib.hid ?_⟩
            · exact (hg8.cell_far ⟨wo.heap.size, 0, none⟩ (show wo.heap.size < w4.heap.size by omega) (by intro e; have e2 : wo.heap.size = B := Option.some.inj e; omega)).trans ((hbb.cell (p := ⟨wo.heap.size, 0, none⟩) hxw).trans x3)
            · exact (HB3.out.trans (hbb.mono HB3.out.size)).grown hg8 (Nat.le_trans HB3.out.size hbb.size) (fun k hk => by cases hk; rw [HBB.out]; exact Nat.le_refl _))
          clear HPUT HKY HM
          go_wp2
          go_region_with (go_at_call 30; (with_reducible refine T1.mono ?_); rintro e w4 ⟨rfl, hb⟩; have hbb := hbd.trans (hb.mono hbd.size); have x4 := (hbb.cell (p := ⟨wo.heap.size, 0, none⟩) hxw).trans x3; have d4 := (hbb.cell (p := ⟨w.heap.size, 1, none⟩) hww).trans d1; obtain ⟨w8, hrun8, HM8, HX8, HB8⟩ := HALL.out _ hbb; clear hb hbb)
          all_goals
            go_wp2
            go_roundw
            case rel => exact ⟨j + 1, by omega, by go_num, HM8, HX8, HB8⟩
            case measure => simp [intOf]; omega
        · obtain rfl : j = m := by omega
          have HM9 : Hid (wr.ownsMap Tryz.prog 90 unitElem B (SL (k + 1)).length (setSp (SL (k + 1)))) := Lib.hid (by rw [HSE2.out]; exact HM.out)
          have HB9 : Hid (Below w1.heap.size w1 wr) := HB3
          clear hlt2 HM
          go_wp2
          go_roundw
          case rel => exact ⟨k + 1, by omega, by go_num, HM9, HB9⟩
          case measure => simp [intOf]; omega
    · obtain rfl : k = n := by omega
      have HR := Lib.hid (show wr.ownsMap Tryz.prog 90 unitElem B (SL k).length (setSp (spotsL ds ls)) from by rw [← HFE2.out]; exact HM.out)
      have HBR := Lib.hid (HB1.out.trans (HB.out.mono HB1.out.size))
      have HBW : Hid (w.heap.size ≤ B) := Lib.hid (by have := HBB.out; have := HZ1.out; omega)
      clear hlt HM
      go_wp2
      first | (go_ret; exact ⟨B, _, rfl, HBW.out, HR.out, HBR.out⟩) | exact ⟨B, _, rfl, HBW.out, HR.out, HBR.out⟩
end Go.Proofs.YtkcamfcjkjiijaaGreatDoor
