/-
  The reference's Taken: whether something of another name is at a place; nothing old turns.
-/
import Derived.Test.YtkcamfcjkjiijaaGreatDoorPEcTkn
import Derived.Test.YtkcamfcjkjiijaaGreatDoorPEcShr
import Derived.Test.YtkcamfcjkjiijaaGreatDoorPEcLost
namespace Go.Proofs.YtkcamfcjkjiijaaGreatDoor
open Go.RowKit Go.Shelf
set_option maxRecDepth 100000 in
set_option maxHeartbeats 16000000 in
theorem taken_ref (x : Stv) (hd : x.ds.length ≤ 90000) (hl : x.ls.length ≤ 90000) (hp : ∀ p ∈ x.ls, p.1.2.length ≤ 90000) (ats but : ByteArray) (w : World) (hx : InSt w x) :
    Calls Tryz.prog 22 #[agS x, .string ats, .string but] w fun e w' => e = .returned (.bool (x.ls.any (takB x.ds ats.data.toList but.data.toList))) ∧ Below w.heap.size w w' := by
  have b1 := (Below.refl w.heap.size w).alloc (Nat.le_refl _) (.cells #[x.rv, x.dv, x.ov, x.av, x.iv, x.fv, x.lv] 30)
  have c7 : Cell7 w.heap.size (w.alloc (.cells #[x.rv, x.dv, x.ov, x.av, x.iv, x.fv, x.lv] 30)) x := by
    have k := fun i v h => boxV7 w x.rv x.dv x.ov x.av x.iv x.fv x.lv 30 i v h
    exact ⟨k 0 _ rfl, k 1 _ rfl, k 2 _ rfl, k 3 _ rfl, k 4 _ rfl, k 5 _ rfl, k 6 _ rfl⟩
  obtain ⟨w2, hw2⟩ : ∃ w2, w.alloc (.cells #[x.rv, x.dv, x.ov, x.av, x.iv, x.fv, x.lv] 30) = w2 := ⟨_, rfl⟩
  have hz2 : w2.heap.size = w.heap.size + 1 := by rw [← hw2]; simp
  rw [hw2] at b1 c7
  have C7 : Hid (∀ W, Below w2.heap.size w2 W → Cell7 w.heap.size W x) := Lib.hid (fun W hb => c7.on hb)
  have LO : Hid (∀ W (nm : ByteArray) (pv u : Value) (ps ats : List Bs), Below w2.heap.size w2 W → ps.length ≤ 90000 → ats.length ≤ 90000 → HoldT W pv ps → HoldT W u ats → Calls Tryz.prog 50 #[agS x, .agg #[.string nm, pv], u] W fun e w' => ∃ r, e = .returned r ∧ OwnT w' W.heap.size r (locL x.ds nm.data.toList ps ats) ∧ Below W.heap.size W w') := Lib.hid (fun W nm pv u ps ats hb h1 h0 h2 h3 => shared_ref x hd nm pv ps h1 u ats h0 W (hx.on (b1.trans (hb.mono b1.size))) h2 h3)
  obtain ⟨hin, a, c, b, o, hlv', hc, ha, hcell⟩ := (hx.on b1).ls
  have HI := Lib.hid hin
  have HC := Lib.hid hcell
  have HP := Lib.hid hp
  obtain ⟨⟨⟨ra, rc, -, -, hrv, -⟩, -⟩, ⟨oa, on, oc, hov⟩, ⟨aa, an, ac, hav⟩, ⟨ia, im, ic, hiv⟩, ⟨fa, fn, fc, hfv⟩, ⟨da, dn, dc, hdv⟩, -⟩ := inS7_of hx
  have HB2 := Lib.hid b1
  have HW2 := Lib.hid hw2
  obtain ⟨n, hN⟩ : ∃ n, x.ls.length = n := ⟨_, rfl⟩
  rw [hN] at hlv' hc ha hl
  have HN := Lib.hid hN
  obtain ⟨RES, hRES⟩ : ∃ q, x.ls.any (takB x.ds ats.data.toList but.data.toList) = q := ⟨_, rfl⟩
  rw [hRES]
  have HYES : Hid (∀ p ∈ x.ls, takB x.ds ats.data.toList but.data.toList p = true → true = RES) := Lib.hid (fun p h g => by rw [← hRES]; exact (List.any_eq_true.2 ⟨p, h, g⟩).symm)
  have HNO : Hid ((∀ (j : Nat) p, j < n → x.ls[j]? = some p → takB x.ds ats.data.toList but.data.toList p = false) → false = RES) := Lib.hid (fun h => by
    rw [← hRES]
    symm
    rw [List.any_eq_false]
    intro p hp
    obtain ⟨j, hj⟩ := List.mem_iff_getElem?.1 hp
    rw [h j p (by rw [← hN]; exact (List.getElem?_eq_some_iff.1 hj).1) hj]; simp)
  clear hcell hin hN hx b1 hw2 hd c7 hp hRES
  obtain ⟨rs, ds, ls, rv, dv, ov, av, iv, fv, lv⟩ := x
  unfold agS
  unfold agS at LO
  unfold Cell7 at C7
  dsimp only at *
  subst hrv hov hav hiv hfv hdv hlv'
  simp only [List.length_map] at *
  generalize rs.length = rn at *
  go_enter Tryz.func22, Tryz.ntmps22
  have hw2 := HW2.out
  go_wp2
  clear hw2
  go_loopw [7] (fun i wr => ∃ (k : Nat), k ≤ n ∧ i = .int .i64 k ∧ Hid (∀ (j : Nat) p, j < k → ls[j]? = some p → takB ds ats.data.toList but.data.toList p = false) ∧ Hid (Below w2.heap.size w2 wr)) (fun i _ => n - (intOf i).toNat)
  case atStart => exact ⟨0, by omega, rfl, Lib.hid (fun j p h => by omega), Lib.hid (Below.refl _ _)⟩
  case round =>
    obtain ⟨k, hk, rfl, HF, HB⟩ := hrel
    have hsz := HB.out.size
    obtain ⟨d0, d1, d2, d3, d4, d5, d6⟩ := C7.out wr HB.out
    by_cases hlt : k < n
    · obtain ⟨rfl, hbw⟩ := ha (by omega)
      obtain ⟨p, hpx⟩ : ∃ p, ls[k]? = some p := ⟨_, List.getElem?_eq_getElem (by rw [HN.out]; exact hlt)⟩
      obtain ⟨c0, c1⟩ := HC.out k p hpx
      have hpm := List.mem_of_getElem? hpx
      have HPI := HI.out p hpm
      have hpn := HP.out p hpm
      rw [← HB.out.cell (p := ⟨b, o + k * 2, none⟩) hbw] at c0
      rw [← HB.out.cell (p := ⟨b, o + k * 2 + 1, none⟩) hbw] at c1
      obtain ⟨pa, pn, pc, hu⟩ := HoldT.form2 HPI
      rw [hu] at c1
      obtain ⟨X, hX⟩ : ∃ X : ByteArray, bsT p.1.1 = X := ⟨_, rfl⟩
      have hXL : X.data.toList = p.1.1 := by rw [← hX]
      rw [hX] at c0
      obtain ⟨LL, hLL⟩ : ∃ q, locL ds p.1.1 p.1.2 [ats.data.toList] = q := ⟨_, rfl⟩
      have hbd := ((Below.refl wr.heap.size wr).alloc (Nat.le_refl _) (.cells #[.string ats] 9)).drew
      have LOW : Hid (Calls Tryz.prog 50 #[.agg #[.slice ra rn rc, .slice da dn dc, .slice oa on oc, .slice aa an ac, .slice ia im ic, .slice fa fn fc, .slice (some ⟨b, o, none⟩) n c], .agg #[.string X, .slice pa pn pc], .slice (some ⟨wr.heap.size, 0, none⟩) 1 1] (wr.alloc (.cells #[.string ats] 9)).drew fun e w' => (∃ a2 c2, e = .returned (.slice a2 LL.length c2)) ∧ Below (wr.alloc (.cells #[.string ats] 9)).drew.heap.size (wr.alloc (.cells #[.string ats] 9)).drew w') := Lib.hid (by
        have hbq := HB.out.trans (hbd.mono hsz)
        have := LO.out (wr.alloc (.cells #[.string ats] 9)).drew X (.slice pa pn pc) (.slice (some ⟨wr.heap.size, 0, none⟩) 1 1) p.1.2 [ats.data.toList] hbq hpn (by simp) (by rw [← hu]; exact HPI.on hbq) ⟨some ⟨wr.heap.size, 0, none⟩, 1, wr.heap.size, 0, rfl, Nat.le_refl _, fun _ => ⟨rfl, by simp⟩, fun j l hj => by
          match j, hj with
          | 0, hj => cases hj; exact boxV1C wr (.string ats) 9
          | j + 1, hj => simp at hj⟩
        rw [hXL, hLL] at this
        refine this.mono (fun e w' h => ?_)
        obtain ⟨r, h1, h2, h3⟩ := h
        obtain ⟨a9, n9, c9, hr, hrl⟩ := ownT_len h2
        subst hr hrl
        exact ⟨⟨a9, c9, h1⟩, h3⟩)
      have he := eqT X but
      rw [hXL] at he
      have htk : takB ds ats.data.toList but.data.toList p = (!decide (p.1.1 = but.data.toList) && decide (0 < LL.length)) := by unfold takB; rw [hLL]
      obtain ⟨q2, hq2⟩ : ∃ q, decide (p.1.1 = but.data.toList) = q := ⟨_, rfl⟩
      rw [hq2] at he htk
      have HNX : Hid (takB ds ats.data.toList but.data.toList p = false → ∀ (j : Nat) q, j < k + 1 → ls[j]? = some q → takB ds ats.data.toList but.data.toList q = false) := Lib.hid (fun h j q hj hq => by
        rcases Nat.lt_or_ge j k with g | g
        · exact HF.out j q g hq
        · obtain rfl : j = k := by omega
          rw [hpx] at hq
          obtain rfl := Option.some.inj hq
          exact h)
      have HY1 := Lib.hid (HYES.out p hpm)
      rw [htk] at HNX HY1
      have i0' : (0 : Int) ≤ (k : Int) := by omega
      have i1' : (k : Int) < (n : Int) := by omega
      have hs := And.intro d0 (And.intro d1 (And.intro d2 (And.intro d3 (And.intro d4 (And.intro d5 (And.intro d6 (And.intro c0 (And.intro c1 (Below.refl wr.heap.size wr)))))))))
      clear htk hq2 hu hX hXL hpx hpm hLL hpn HPI HF
      go_wp2
      cases q2
      rotate_left
      · have hdum : True := trivial
        have BE := fun (V : World) (h : V.cell? ⟨w.heap.size, 0, none⟩ = some (.slice ra rn rc) ∧ V.cell? ⟨w.heap.size, 1, none⟩ = some (.slice da dn dc) ∧ V.cell? ⟨w.heap.size, 2, none⟩ = some (.slice oa on oc) ∧ V.cell? ⟨w.heap.size, 3, none⟩ = some (.slice aa an ac) ∧ V.cell? ⟨w.heap.size, 4, none⟩ = some (.slice ia im ic) ∧ V.cell? ⟨w.heap.size, 5, none⟩ = some (.slice fa fn fc) ∧ V.cell? ⟨w.heap.size, 6, none⟩ = some (.slice (some ⟨b, o, none⟩) n c) ∧ V.cell? ⟨b, o + k * 2, none⟩ = some (.string X) ∧ V.cell? ⟨b, o + k * 2 + 1, none⟩ = some (.slice pa pn pc) ∧ Below wr.heap.size wr V) => AtF.be (w := wr) (l := [(⟨w.heap.size, 0, none⟩, .slice ra rn rc), (⟨w.heap.size, 1, none⟩, .slice da dn dc), (⟨w.heap.size, 2, none⟩, .slice oa on oc), (⟨w.heap.size, 3, none⟩, .slice aa an ac), (⟨w.heap.size, 4, none⟩, .slice ia im ic), (⟨w.heap.size, 5, none⟩, .slice fa fn fc), (⟨w.heap.size, 6, none⟩, .slice (some ⟨b, o, none⟩) n c), (⟨b, o + k * 2, none⟩, .string X), (⟨b, o + k * 2 + 1, none⟩, .slice pa pn pc)]) h
        refine wp_region_held_drew (S := (fun V => V.cell? ⟨w.heap.size, 0, none⟩ = some (.slice ra rn rc) ∧ V.cell? ⟨w.heap.size, 1, none⟩ = some (.slice da dn dc) ∧ V.cell? ⟨w.heap.size, 2, none⟩ = some (.slice oa on oc) ∧ V.cell? ⟨w.heap.size, 3, none⟩ = some (.slice aa an ac) ∧ V.cell? ⟨w.heap.size, 4, none⟩ = some (.slice ia im ic) ∧ V.cell? ⟨w.heap.size, 5, none⟩ = some (.slice fa fn fc) ∧ V.cell? ⟨w.heap.size, 6, none⟩ = some (.slice (some ⟨b, o, none⟩) n c) ∧ V.cell? ⟨b, o + k * 2, none⟩ = some (.string X) ∧ V.cell? ⟨b, o + k * 2 + 1, none⟩ = some (.slice pa pn pc) ∧ Below wr.heap.size wr V)) (by kernel_rfl) ?_ (fun hHeld => ?_)
        · (try dsimp only); (first | assumption | exact hs | exact AtF.dr (w := wr) (l := [(⟨w.heap.size, 0, none⟩, .slice ra rn rc), (⟨w.heap.size, 1, none⟩, .slice da dn dc), (⟨w.heap.size, 2, none⟩, .slice oa on oc), (⟨w.heap.size, 3, none⟩, .slice aa an ac), (⟨w.heap.size, 4, none⟩, .slice ia im ic), (⟨w.heap.size, 5, none⟩, .slice fa fn fc), (⟨w.heap.size, 6, none⟩, .slice (some ⟨b, o, none⟩) n c), (⟨b, o + k * 2, none⟩, .string X), (⟨b, o + k * 2 + 1, none⟩, .slice pa pn pc)]) hs | exact AtF.dr (w := wr) (l := [(⟨w.heap.size, 0, none⟩, .slice ra rn rc), (⟨w.heap.size, 1, none⟩, .slice da dn dc), (⟨w.heap.size, 2, none⟩, .slice oa on oc), (⟨w.heap.size, 3, none⟩, .slice aa an ac), (⟨w.heap.size, 4, none⟩, .slice ia im ic), (⟨w.heap.size, 5, none⟩, .slice fa fn fc), (⟨w.heap.size, 6, none⟩, .slice (some ⟨b, o, none⟩) n c), (⟨b, o + k * 2, none⟩, .string X), (⟨b, o + k * 2 + 1, none⟩, .slice pa pn pc)]) (by assumption) | exact AtF.on (w := wr) (l := [(⟨w.heap.size, 0, none⟩, .slice ra rn rc), (⟨w.heap.size, 1, none⟩, .slice da dn dc), (⟨w.heap.size, 2, none⟩, .slice oa on oc), (⟨w.heap.size, 3, none⟩, .slice aa an ac), (⟨w.heap.size, 4, none⟩, .slice ia im ic), (⟨w.heap.size, 5, none⟩, .slice fa fn fc), (⟨w.heap.size, 6, none⟩, .slice (some ⟨b, o, none⟩) n c), (⟨b, o + k * 2, none⟩, .string X), (⟨b, o + k * 2 + 1, none⟩, .slice pa pn pc)]) (by assumption) (by assumption) | exact AtF.al (w := wr) (l := [(⟨w.heap.size, 0, none⟩, .slice ra rn rc), (⟨w.heap.size, 1, none⟩, .slice da dn dc), (⟨w.heap.size, 2, none⟩, .slice oa on oc), (⟨w.heap.size, 3, none⟩, .slice aa an ac), (⟨w.heap.size, 4, none⟩, .slice ia im ic), (⟨w.heap.size, 5, none⟩, .slice fa fn fc), (⟨w.heap.size, 6, none⟩, .slice (some ⟨b, o, none⟩) n c), (⟨b, o + k * 2, none⟩, .string X), (⟨b, o + k * 2 + 1, none⟩, .slice pa pn pc)]) (by assumption) _ | exact AtF.ald (w := wr) (l := [(⟨w.heap.size, 0, none⟩, .slice ra rn rc), (⟨w.heap.size, 1, none⟩, .slice da dn dc), (⟨w.heap.size, 2, none⟩, .slice oa on oc), (⟨w.heap.size, 3, none⟩, .slice aa an ac), (⟨w.heap.size, 4, none⟩, .slice ia im ic), (⟨w.heap.size, 5, none⟩, .slice fa fn fc), (⟨w.heap.size, 6, none⟩, .slice (some ⟨b, o, none⟩) n c), (⟨b, o + k * 2, none⟩, .string X), (⟨b, o + k * 2 + 1, none⟩, .slice pa pn pc)]) (by assumption) _ | exact AtF.al (w := wr) (l := [(⟨w.heap.size, 0, none⟩, .slice ra rn rc), (⟨w.heap.size, 1, none⟩, .slice da dn dc), (⟨w.heap.size, 2, none⟩, .slice oa on oc), (⟨w.heap.size, 3, none⟩, .slice aa an ac), (⟨w.heap.size, 4, none⟩, .slice ia im ic), (⟨w.heap.size, 5, none⟩, .slice fa fn fc), (⟨w.heap.size, 6, none⟩, .slice (some ⟨b, o, none⟩) n c), (⟨b, o + k * 2, none⟩, .string X), (⟨b, o + k * 2 + 1, none⟩, .slice pa pn pc)]) hs _ | exact AtF.ald (w := wr) (l := [(⟨w.heap.size, 0, none⟩, .slice ra rn rc), (⟨w.heap.size, 1, none⟩, .slice da dn dc), (⟨w.heap.size, 2, none⟩, .slice oa on oc), (⟨w.heap.size, 3, none⟩, .slice aa an ac), (⟨w.heap.size, 4, none⟩, .slice ia im ic), (⟨w.heap.size, 5, none⟩, .slice fa fn fc), (⟨w.heap.size, 6, none⟩, .slice (some ⟨b, o, none⟩) n c), (⟨b, o + k * 2, none⟩, .string X), (⟨b, o + k * 2 + 1, none⟩, .slice pa pn pc)]) hs _)
        refine heldY 0 15 ?_ _ rfl rfl (by kernel_rfl) (by kernel_rfl) (by kernel_rfl) (fun _ _ _ h => h) rfl (by assumption) ?_ ?_
        rotate_left
        · (intro w hSw; (try dsimp only at hSw); go_simp; (try with_reducible rfl))
        try simp only [List.setIfInBounds_toArray, List.set_cons_zero, List.set_cons_succ]
        refine heldY 1 16 ?_ _ rfl rfl (by kernel_rfl) (by kernel_rfl) (by kernel_rfl) (fun _ _ _ h => h) rfl (by assumption) ?_ ?_
        rotate_left
        · (intro w hSw; (try dsimp only at hSw); go_simp; (try with_reducible rfl))
        try simp only [List.setIfInBounds_toArray, List.set_cons_zero, List.set_cons_succ]
        refine heldY 2 17 ?_ _ rfl rfl (by kernel_rfl) (by kernel_rfl) (by kernel_rfl) (fun _ _ _ h => h) rfl (by assumption) ?_ ?_
        rotate_left
        · (intro w hSw; (try dsimp only at hSw); go_simp; (try with_reducible rfl))
        try simp only [List.setIfInBounds_toArray, List.set_cons_zero, List.set_cons_succ]
        refine heldY 3 18 ?_ _ rfl rfl (by kernel_rfl) (by kernel_rfl) (by kernel_rfl) (fun _ _ _ h => h) rfl (by assumption) ?_ ?_
        rotate_left
        · (intro w hSw; (try dsimp only at hSw); go_simp; (try with_reducible rfl))
        try simp only [List.setIfInBounds_toArray, List.set_cons_zero, List.set_cons_succ]
        refine heldY 4 19 ?_ _ rfl rfl (by kernel_rfl) (by kernel_rfl) (by kernel_rfl) (fun _ _ _ h => h) rfl (by assumption) ?_ ?_
        rotate_left
        · (intro w hSw; (try dsimp only at hSw); go_simp; (try with_reducible rfl))
        try simp only [List.setIfInBounds_toArray, List.set_cons_zero, List.set_cons_succ]
        refine heldY 5 20 ?_ _ rfl rfl (by kernel_rfl) (by kernel_rfl) (by kernel_rfl) (fun _ _ _ h => h) rfl (by assumption) ?_ ?_
        rotate_left
        · (intro w hSw; (try dsimp only at hSw); go_simp; (try with_reducible rfl))
        try simp only [List.setIfInBounds_toArray, List.set_cons_zero, List.set_cons_succ]
        refine heldY 6 21 ?_ _ rfl rfl (by kernel_rfl) (by kernel_rfl) (by kernel_rfl) (fun _ _ _ h => h) rfl (by assumption) ?_ ?_
        rotate_left
        · (intro w hSw; (try dsimp only at hSw); go_simp; (try with_reducible rfl))
        try simp only [List.setIfInBounds_toArray, List.set_cons_zero, List.set_cons_succ]
        refine heldY 7 22 ?_ _ rfl rfl (by kernel_rfl) (by kernel_rfl) (by kernel_rfl) (fun _ _ _ h => h) rfl (by assumption) ?_ ?_
        rotate_left
        · (intro w hSw; (try dsimp only at hSw); go_simp; (try with_reducible rfl))
        try simp only [List.setIfInBounds_toArray, List.set_cons_zero, List.set_cons_succ]
        refine heldY 8 23 ?_ _ rfl rfl (by kernel_rfl) (by kernel_rfl) (by kernel_rfl) (fun _ _ _ h => h) rfl (by assumption) ?_ ?_
        rotate_left
        · (intro w hSw; (try dsimp only at hSw); go_simp; (try with_reducible rfl))
        try simp only [List.setIfInBounds_toArray, List.set_cons_zero, List.set_cons_succ]
        refine heldNo 9 24 rfl (by kernel_rfl) (by kernel_rfl) (by kernel_rfl) (fun _ _ _ h => h) rfl (by assumption) ?_
        try simp only [List.setIfInBounds_toArray, List.set_cons_zero, List.set_cons_succ]
        refine heldNo 10 25 rfl (by kernel_rfl) (by kernel_rfl) (by kernel_rfl) (fun _ _ _ h => h) rfl (by assumption) ?_
        try simp only [List.setIfInBounds_toArray, List.set_cons_zero, List.set_cons_succ]
        refine heldNo 11 26 rfl (by kernel_rfl) (by kernel_rfl) (by kernel_rfl) (fun _ _ _ h => h) rfl (by assumption) ?_
        try simp only [List.setIfInBounds_toArray, List.set_cons_zero, List.set_cons_succ]
        refine heldNo 12 27 rfl (by kernel_rfl) (by kernel_rfl) (by kernel_rfl) (fun _ _ _ h => h) rfl (by assumption) ?_
        try simp only [List.setIfInBounds_toArray, List.set_cons_zero, List.set_cons_succ]
        refine heldNo 13 28 rfl (by kernel_rfl) (by kernel_rfl) (by kernel_rfl) (fun _ _ _ h => h) rfl (by assumption) ?_
        try simp only [List.setIfInBounds_toArray, List.set_cons_zero, List.set_cons_succ]
        refine heldNo 14 29 rfl (by kernel_rfl) (by kernel_rfl) (by kernel_rfl) (fun _ _ _ h => h) rfl (by assumption) ?_
        try simp only [List.setIfInBounds_toArray, List.set_cons_zero, List.set_cons_succ]
        refine heldNo 15 30 rfl (by kernel_rfl) (by kernel_rfl) (by kernel_rfl) (fun _ _ _ h => h) rfl (by assumption) ?_
        try simp only [List.setIfInBounds_toArray, List.set_cons_zero, List.set_cons_succ]
        refine heldNo 16 31 rfl (by kernel_rfl) (by kernel_rfl) (by kernel_rfl) (fun _ _ _ h => h) rfl (by assumption) ?_
        try simp only [List.setIfInBounds_toArray, List.set_cons_zero, List.set_cons_succ]
        refine heldNo 17 32 rfl (by kernel_rfl) (by kernel_rfl) (by kernel_rfl) (fun _ _ _ h => h) rfl (by assumption) ?_
        try simp only [List.setIfInBounds_toArray, List.set_cons_zero, List.set_cons_succ]
        refine heldNo 18 33 rfl (by kernel_rfl) (by kernel_rfl) (by kernel_rfl) (fun _ _ _ h => h) rfl (by assumption) ?_
        try simp only [List.setIfInBounds_toArray, List.set_cons_zero, List.set_cons_succ]
        refine heldNo 19 34 rfl (by kernel_rfl) (by kernel_rfl) (by kernel_rfl) (fun _ _ _ h => h) rfl (by assumption) ?_
        try simp only [List.setIfInBounds_toArray, List.set_cons_zero, List.set_cons_succ]
        refine heldY 20 35 ?_ _ rfl rfl (by kernel_rfl) (by kernel_rfl) (by kernel_rfl) (fun _ _ _ h => h) rfl (by assumption) ?_ ?_
        rotate_left
        · (intro w hSw; (try dsimp only at hSw); go_simp; (try with_reducible rfl))
        try simp only [List.setIfInBounds_toArray, List.set_cons_zero, List.set_cons_succ]
        refine wpAnyH_done (by kernel_rfl) ?_ _
        have HBB := Lib.hid (HB.out.trans ((BE _ hHeld).mono HB.out.size))
        clear hHeld hs
        go_wp2
        go_roundw
        case rel => exact ⟨k + 1, by omega, by go_num, Lib.hid (HNX.out (by simp)), HBB⟩
        case measure => simp [intOf]; omega
      have BE := fun (V : World) (h : V.cell? ⟨w.heap.size, 0, none⟩ = some (.slice ra rn rc) ∧ V.cell? ⟨w.heap.size, 1, none⟩ = some (.slice da dn dc) ∧ V.cell? ⟨w.heap.size, 2, none⟩ = some (.slice oa on oc) ∧ V.cell? ⟨w.heap.size, 3, none⟩ = some (.slice aa an ac) ∧ V.cell? ⟨w.heap.size, 4, none⟩ = some (.slice ia im ic) ∧ V.cell? ⟨w.heap.size, 5, none⟩ = some (.slice fa fn fc) ∧ V.cell? ⟨w.heap.size, 6, none⟩ = some (.slice (some ⟨b, o, none⟩) n c) ∧ V.cell? ⟨b, o + k * 2, none⟩ = some (.string X) ∧ V.cell? ⟨b, o + k * 2 + 1, none⟩ = some (.slice pa pn pc) ∧ Below wr.heap.size wr V) => AtF.be (w := wr) (l := [(⟨w.heap.size, 0, none⟩, .slice ra rn rc), (⟨w.heap.size, 1, none⟩, .slice da dn dc), (⟨w.heap.size, 2, none⟩, .slice oa on oc), (⟨w.heap.size, 3, none⟩, .slice aa an ac), (⟨w.heap.size, 4, none⟩, .slice ia im ic), (⟨w.heap.size, 5, none⟩, .slice fa fn fc), (⟨w.heap.size, 6, none⟩, .slice (some ⟨b, o, none⟩) n c), (⟨b, o + k * 2, none⟩, .string X), (⟨b, o + k * 2 + 1, none⟩, .slice pa pn pc)]) h
      refine wp_region_held_drew (S := (fun V => V.cell? ⟨w.heap.size, 0, none⟩ = some (.slice ra rn rc) ∧ V.cell? ⟨w.heap.size, 1, none⟩ = some (.slice da dn dc) ∧ V.cell? ⟨w.heap.size, 2, none⟩ = some (.slice oa on oc) ∧ V.cell? ⟨w.heap.size, 3, none⟩ = some (.slice aa an ac) ∧ V.cell? ⟨w.heap.size, 4, none⟩ = some (.slice ia im ic) ∧ V.cell? ⟨w.heap.size, 5, none⟩ = some (.slice fa fn fc) ∧ V.cell? ⟨w.heap.size, 6, none⟩ = some (.slice (some ⟨b, o, none⟩) n c) ∧ V.cell? ⟨b, o + k * 2, none⟩ = some (.string X) ∧ V.cell? ⟨b, o + k * 2 + 1, none⟩ = some (.slice pa pn pc) ∧ Below wr.heap.size wr V)) (by kernel_rfl) ?_ (fun hHeld => ?_)
      · (try dsimp only); (first | assumption | exact hs | exact AtF.dr (w := wr) (l := [(⟨w.heap.size, 0, none⟩, .slice ra rn rc), (⟨w.heap.size, 1, none⟩, .slice da dn dc), (⟨w.heap.size, 2, none⟩, .slice oa on oc), (⟨w.heap.size, 3, none⟩, .slice aa an ac), (⟨w.heap.size, 4, none⟩, .slice ia im ic), (⟨w.heap.size, 5, none⟩, .slice fa fn fc), (⟨w.heap.size, 6, none⟩, .slice (some ⟨b, o, none⟩) n c), (⟨b, o + k * 2, none⟩, .string X), (⟨b, o + k * 2 + 1, none⟩, .slice pa pn pc)]) hs | exact AtF.dr (w := wr) (l := [(⟨w.heap.size, 0, none⟩, .slice ra rn rc), (⟨w.heap.size, 1, none⟩, .slice da dn dc), (⟨w.heap.size, 2, none⟩, .slice oa on oc), (⟨w.heap.size, 3, none⟩, .slice aa an ac), (⟨w.heap.size, 4, none⟩, .slice ia im ic), (⟨w.heap.size, 5, none⟩, .slice fa fn fc), (⟨w.heap.size, 6, none⟩, .slice (some ⟨b, o, none⟩) n c), (⟨b, o + k * 2, none⟩, .string X), (⟨b, o + k * 2 + 1, none⟩, .slice pa pn pc)]) (by assumption) | exact AtF.on (w := wr) (l := [(⟨w.heap.size, 0, none⟩, .slice ra rn rc), (⟨w.heap.size, 1, none⟩, .slice da dn dc), (⟨w.heap.size, 2, none⟩, .slice oa on oc), (⟨w.heap.size, 3, none⟩, .slice aa an ac), (⟨w.heap.size, 4, none⟩, .slice ia im ic), (⟨w.heap.size, 5, none⟩, .slice fa fn fc), (⟨w.heap.size, 6, none⟩, .slice (some ⟨b, o, none⟩) n c), (⟨b, o + k * 2, none⟩, .string X), (⟨b, o + k * 2 + 1, none⟩, .slice pa pn pc)]) (by assumption) (by assumption) | exact AtF.al (w := wr) (l := [(⟨w.heap.size, 0, none⟩, .slice ra rn rc), (⟨w.heap.size, 1, none⟩, .slice da dn dc), (⟨w.heap.size, 2, none⟩, .slice oa on oc), (⟨w.heap.size, 3, none⟩, .slice aa an ac), (⟨w.heap.size, 4, none⟩, .slice ia im ic), (⟨w.heap.size, 5, none⟩, .slice fa fn fc), (⟨w.heap.size, 6, none⟩, .slice (some ⟨b, o, none⟩) n c), (⟨b, o + k * 2, none⟩, .string X), (⟨b, o + k * 2 + 1, none⟩, .slice pa pn pc)]) (by assumption) _ | exact AtF.ald (w := wr) (l := [(⟨w.heap.size, 0, none⟩, .slice ra rn rc), (⟨w.heap.size, 1, none⟩, .slice da dn dc), (⟨w.heap.size, 2, none⟩, .slice oa on oc), (⟨w.heap.size, 3, none⟩, .slice aa an ac), (⟨w.heap.size, 4, none⟩, .slice ia im ic), (⟨w.heap.size, 5, none⟩, .slice fa fn fc), (⟨w.heap.size, 6, none⟩, .slice (some ⟨b, o, none⟩) n c), (⟨b, o + k * 2, none⟩, .string X), (⟨b, o + k * 2 + 1, none⟩, .slice pa pn pc)]) (by assumption) _ | exact AtF.al (w := wr) (l := [(⟨w.heap.size, 0, none⟩, .slice ra rn rc), (⟨w.heap.size, 1, none⟩, .slice da dn dc), (⟨w.heap.size, 2, none⟩, .slice oa on oc), (⟨w.heap.size, 3, none⟩, .slice aa an ac), (⟨w.heap.size, 4, none⟩, .slice ia im ic), (⟨w.heap.size, 5, none⟩, .slice fa fn fc), (⟨w.heap.size, 6, none⟩, .slice (some ⟨b, o, none⟩) n c), (⟨b, o + k * 2, none⟩, .string X), (⟨b, o + k * 2 + 1, none⟩, .slice pa pn pc)]) hs _ | exact AtF.ald (w := wr) (l := [(⟨w.heap.size, 0, none⟩, .slice ra rn rc), (⟨w.heap.size, 1, none⟩, .slice da dn dc), (⟨w.heap.size, 2, none⟩, .slice oa on oc), (⟨w.heap.size, 3, none⟩, .slice aa an ac), (⟨w.heap.size, 4, none⟩, .slice ia im ic), (⟨w.heap.size, 5, none⟩, .slice fa fn fc), (⟨w.heap.size, 6, none⟩, .slice (some ⟨b, o, none⟩) n c), (⟨b, o + k * 2, none⟩, .string X), (⟨b, o + k * 2 + 1, none⟩, .slice pa pn pc)]) hs _)
      refine heldY 0 15 ?_ _ rfl rfl (by kernel_rfl) (by kernel_rfl) (by kernel_rfl) (fun _ _ _ h => h) rfl (by assumption) ?_ ?_
      rotate_left
      · (intro w hSw; (try dsimp only at hSw); go_simp; (try with_reducible rfl))
      try simp only [List.setIfInBounds_toArray, List.set_cons_zero, List.set_cons_succ]
      refine heldY 1 16 ?_ _ rfl rfl (by kernel_rfl) (by kernel_rfl) (by kernel_rfl) (fun _ _ _ h => h) rfl (by assumption) ?_ ?_
      rotate_left
      · (intro w hSw; (try dsimp only at hSw); go_simp; (try with_reducible rfl))
      try simp only [List.setIfInBounds_toArray, List.set_cons_zero, List.set_cons_succ]
      refine heldY 2 17 ?_ _ rfl rfl (by kernel_rfl) (by kernel_rfl) (by kernel_rfl) (fun _ _ _ h => h) rfl (by assumption) ?_ ?_
      rotate_left
      · (intro w hSw; (try dsimp only at hSw); go_simp; (try with_reducible rfl))
      try simp only [List.setIfInBounds_toArray, List.set_cons_zero, List.set_cons_succ]
      refine heldY 3 18 ?_ _ rfl rfl (by kernel_rfl) (by kernel_rfl) (by kernel_rfl) (fun _ _ _ h => h) rfl (by assumption) ?_ ?_
      rotate_left
      · (intro w hSw; (try dsimp only at hSw); go_simp; (try with_reducible rfl))
      try simp only [List.setIfInBounds_toArray, List.set_cons_zero, List.set_cons_succ]
      refine heldY 4 19 ?_ _ rfl rfl (by kernel_rfl) (by kernel_rfl) (by kernel_rfl) (fun _ _ _ h => h) rfl (by assumption) ?_ ?_
      rotate_left
      · (intro w hSw; (try dsimp only at hSw); go_simp; (try with_reducible rfl))
      try simp only [List.setIfInBounds_toArray, List.set_cons_zero, List.set_cons_succ]
      refine heldY 5 20 ?_ _ rfl rfl (by kernel_rfl) (by kernel_rfl) (by kernel_rfl) (fun _ _ _ h => h) rfl (by assumption) ?_ ?_
      rotate_left
      · (intro w hSw; (try dsimp only at hSw); go_simp; (try with_reducible rfl))
      try simp only [List.setIfInBounds_toArray, List.set_cons_zero, List.set_cons_succ]
      refine heldY 6 21 ?_ _ rfl rfl (by kernel_rfl) (by kernel_rfl) (by kernel_rfl) (fun _ _ _ h => h) rfl (by assumption) ?_ ?_
      rotate_left
      · (intro w hSw; (try dsimp only at hSw); go_simp; (try with_reducible rfl))
      try simp only [List.setIfInBounds_toArray, List.set_cons_zero, List.set_cons_succ]
      refine heldY 7 22 ?_ _ rfl rfl (by kernel_rfl) (by kernel_rfl) (by kernel_rfl) (fun _ _ _ h => h) rfl (by assumption) ?_ ?_
      rotate_left
      · (intro w hSw; (try dsimp only at hSw); go_simp; (try with_reducible rfl))
      try simp only [List.setIfInBounds_toArray, List.set_cons_zero, List.set_cons_succ]
      refine heldY 8 23 ?_ _ rfl rfl (by kernel_rfl) (by kernel_rfl) (by kernel_rfl) (fun _ _ _ h => h) rfl (by assumption) ?_ ?_
      rotate_left
      · (intro w hSw; (try dsimp only at hSw); go_simp; (try with_reducible rfl))
      try simp only [List.setIfInBounds_toArray, List.set_cons_zero, List.set_cons_succ]
      refine heldY 9 24 ?_ _ rfl rfl (by kernel_rfl) (by kernel_rfl) (by kernel_rfl) (fun _ _ _ h => h) rfl (by assumption) ?_ ?_
      rotate_left
      · (intro w hSw; (try dsimp only at hSw); go_simp; (try with_reducible rfl))
      try simp only [List.setIfInBounds_toArray, List.set_cons_zero, List.set_cons_succ]
      refine heldY 10 25 ?_ _ rfl rfl (by kernel_rfl) (by kernel_rfl) (by kernel_rfl) (fun _ _ _ h => h) rfl (by assumption) ?_ ?_
      rotate_left
      · (intro w hSw; (try dsimp only at hSw); go_simp; (try with_reducible rfl))
      try simp only [List.setIfInBounds_toArray, List.set_cons_zero, List.set_cons_succ]
      refine heldY 11 26 ?_ _ rfl rfl (by kernel_rfl) (by kernel_rfl) (by kernel_rfl) (fun _ _ _ h => h) rfl (by assumption) ?_ ?_
      rotate_left
      · (intro w hSw; (try dsimp only at hSw); go_simp; (try with_reducible rfl))
      try simp only [List.setIfInBounds_toArray, List.set_cons_zero, List.set_cons_succ]
      refine heldY 12 27 ?_ _ rfl rfl (by kernel_rfl) (by kernel_rfl) (by kernel_rfl) (fun _ _ _ h => h) rfl (by assumption) ?_ ?_
      rotate_left
      · (intro w hSw; (try dsimp only at hSw); go_simp; (try with_reducible rfl))
      try simp only [List.setIfInBounds_toArray, List.set_cons_zero, List.set_cons_succ]
      refine heldY 13 28 ?_ _ rfl rfl (by kernel_rfl) (by kernel_rfl) (by kernel_rfl) (fun _ _ _ h => h) rfl (by assumption) ?_ ?_
      rotate_left
      · (intro w hSw; (try dsimp only at hSw); go_simp; (try with_reducible rfl))
      try simp only [List.setIfInBounds_toArray, List.set_cons_zero, List.set_cons_succ]
      refine heldY 14 29 ?_ _ rfl rfl (by kernel_rfl) (by kernel_rfl) (by kernel_rfl) (fun _ _ _ h => h) rfl (by assumption) ?_ ?_
      rotate_left
      · (intro w hSw; (try dsimp only at hSw); go_simp; (try with_reducible rfl))
      try simp only [List.setIfInBounds_toArray, List.set_cons_zero, List.set_cons_succ]
      refine heldY 15 30 ?_ _ rfl rfl (by kernel_rfl) (by kernel_rfl) (by kernel_rfl) (fun _ _ _ h => h) rfl (by assumption) ?_ ?_
      rotate_left
      · (intro w hSw; (try dsimp only at hSw); go_simp; (try with_reducible rfl))
      try simp only [List.setIfInBounds_toArray, List.set_cons_zero, List.set_cons_succ]
      refine wpAnyH_ready (rs := [16]) (by kernel_rfl) (by simp) ?_
      refine AllReadyH.cons rfl (fun K hK => ?_) AllReadyH.nil
      go_simp
      refine hK.out _ _ ?_ (fun hHeld => ?_)
      · (try dsimp only); (first | assumption | exact hs | exact AtF.dr (w := wr) (l := [(⟨w.heap.size, 0, none⟩, .slice ra rn rc), (⟨w.heap.size, 1, none⟩, .slice da dn dc), (⟨w.heap.size, 2, none⟩, .slice oa on oc), (⟨w.heap.size, 3, none⟩, .slice aa an ac), (⟨w.heap.size, 4, none⟩, .slice ia im ic), (⟨w.heap.size, 5, none⟩, .slice fa fn fc), (⟨w.heap.size, 6, none⟩, .slice (some ⟨b, o, none⟩) n c), (⟨b, o + k * 2, none⟩, .string X), (⟨b, o + k * 2 + 1, none⟩, .slice pa pn pc)]) hs | exact AtF.dr (w := wr) (l := [(⟨w.heap.size, 0, none⟩, .slice ra rn rc), (⟨w.heap.size, 1, none⟩, .slice da dn dc), (⟨w.heap.size, 2, none⟩, .slice oa on oc), (⟨w.heap.size, 3, none⟩, .slice aa an ac), (⟨w.heap.size, 4, none⟩, .slice ia im ic), (⟨w.heap.size, 5, none⟩, .slice fa fn fc), (⟨w.heap.size, 6, none⟩, .slice (some ⟨b, o, none⟩) n c), (⟨b, o + k * 2, none⟩, .string X), (⟨b, o + k * 2 + 1, none⟩, .slice pa pn pc)]) (by assumption) | exact AtF.on (w := wr) (l := [(⟨w.heap.size, 0, none⟩, .slice ra rn rc), (⟨w.heap.size, 1, none⟩, .slice da dn dc), (⟨w.heap.size, 2, none⟩, .slice oa on oc), (⟨w.heap.size, 3, none⟩, .slice aa an ac), (⟨w.heap.size, 4, none⟩, .slice ia im ic), (⟨w.heap.size, 5, none⟩, .slice fa fn fc), (⟨w.heap.size, 6, none⟩, .slice (some ⟨b, o, none⟩) n c), (⟨b, o + k * 2, none⟩, .string X), (⟨b, o + k * 2 + 1, none⟩, .slice pa pn pc)]) (by assumption) (by assumption) | exact AtF.al (w := wr) (l := [(⟨w.heap.size, 0, none⟩, .slice ra rn rc), (⟨w.heap.size, 1, none⟩, .slice da dn dc), (⟨w.heap.size, 2, none⟩, .slice oa on oc), (⟨w.heap.size, 3, none⟩, .slice aa an ac), (⟨w.heap.size, 4, none⟩, .slice ia im ic), (⟨w.heap.size, 5, none⟩, .slice fa fn fc), (⟨w.heap.size, 6, none⟩, .slice (some ⟨b, o, none⟩) n c), (⟨b, o + k * 2, none⟩, .string X), (⟨b, o + k * 2 + 1, none⟩, .slice pa pn pc)]) (by assumption) _ | exact AtF.ald (w := wr) (l := [(⟨w.heap.size, 0, none⟩, .slice ra rn rc), (⟨w.heap.size, 1, none⟩, .slice da dn dc), (⟨w.heap.size, 2, none⟩, .slice oa on oc), (⟨w.heap.size, 3, none⟩, .slice aa an ac), (⟨w.heap.size, 4, none⟩, .slice ia im ic), (⟨w.heap.size, 5, none⟩, .slice fa fn fc), (⟨w.heap.size, 6, none⟩, .slice (some ⟨b, o, none⟩) n c), (⟨b, o + k * 2, none⟩, .string X), (⟨b, o + k * 2 + 1, none⟩, .slice pa pn pc)]) (by assumption) _ | exact AtF.al (w := wr) (l := [(⟨w.heap.size, 0, none⟩, .slice ra rn rc), (⟨w.heap.size, 1, none⟩, .slice da dn dc), (⟨w.heap.size, 2, none⟩, .slice oa on oc), (⟨w.heap.size, 3, none⟩, .slice aa an ac), (⟨w.heap.size, 4, none⟩, .slice ia im ic), (⟨w.heap.size, 5, none⟩, .slice fa fn fc), (⟨w.heap.size, 6, none⟩, .slice (some ⟨b, o, none⟩) n c), (⟨b, o + k * 2, none⟩, .string X), (⟨b, o + k * 2 + 1, none⟩, .slice pa pn pc)]) hs _ | exact AtF.ald (w := wr) (l := [(⟨w.heap.size, 0, none⟩, .slice ra rn rc), (⟨w.heap.size, 1, none⟩, .slice da dn dc), (⟨w.heap.size, 2, none⟩, .slice oa on oc), (⟨w.heap.size, 3, none⟩, .slice aa an ac), (⟨w.heap.size, 4, none⟩, .slice ia im ic), (⟨w.heap.size, 5, none⟩, .slice fa fn fc), (⟨w.heap.size, 6, none⟩, .slice (some ⟨b, o, none⟩) n c), (⟨b, o + k * 2, none⟩, .string X), (⟨b, o + k * 2 + 1, none⟩, .slice pa pn pc)]) hs _)
      clear hK K
      try simp only [Act.put, List.setIfInBounds_toArray, List.set_cons_zero, List.set_cons_succ]
      refine wpAnyH_ready (rs := [17]) (by kernel_rfl) (by simp) ?_
      refine AllReadyH.cons rfl (fun K hK => ?_) AllReadyH.nil
      go_simp
      (go_at_call 50; (with_reducible refine LOW.out.mono ?_); rintro e w4 ⟨⟨a4, c4, rfl⟩, hb⟩)
      refine hK.out _ _ ?_ (fun hHeld => ?_)
      · (try dsimp only); (first | assumption | exact hs | exact AtF.dr (w := wr) (l := [(⟨w.heap.size, 0, none⟩, .slice ra rn rc), (⟨w.heap.size, 1, none⟩, .slice da dn dc), (⟨w.heap.size, 2, none⟩, .slice oa on oc), (⟨w.heap.size, 3, none⟩, .slice aa an ac), (⟨w.heap.size, 4, none⟩, .slice ia im ic), (⟨w.heap.size, 5, none⟩, .slice fa fn fc), (⟨w.heap.size, 6, none⟩, .slice (some ⟨b, o, none⟩) n c), (⟨b, o + k * 2, none⟩, .string X), (⟨b, o + k * 2 + 1, none⟩, .slice pa pn pc)]) hs | exact AtF.dr (w := wr) (l := [(⟨w.heap.size, 0, none⟩, .slice ra rn rc), (⟨w.heap.size, 1, none⟩, .slice da dn dc), (⟨w.heap.size, 2, none⟩, .slice oa on oc), (⟨w.heap.size, 3, none⟩, .slice aa an ac), (⟨w.heap.size, 4, none⟩, .slice ia im ic), (⟨w.heap.size, 5, none⟩, .slice fa fn fc), (⟨w.heap.size, 6, none⟩, .slice (some ⟨b, o, none⟩) n c), (⟨b, o + k * 2, none⟩, .string X), (⟨b, o + k * 2 + 1, none⟩, .slice pa pn pc)]) (by assumption) | exact AtF.on (w := wr) (l := [(⟨w.heap.size, 0, none⟩, .slice ra rn rc), (⟨w.heap.size, 1, none⟩, .slice da dn dc), (⟨w.heap.size, 2, none⟩, .slice oa on oc), (⟨w.heap.size, 3, none⟩, .slice aa an ac), (⟨w.heap.size, 4, none⟩, .slice ia im ic), (⟨w.heap.size, 5, none⟩, .slice fa fn fc), (⟨w.heap.size, 6, none⟩, .slice (some ⟨b, o, none⟩) n c), (⟨b, o + k * 2, none⟩, .string X), (⟨b, o + k * 2 + 1, none⟩, .slice pa pn pc)]) (by assumption) (by assumption) | exact AtF.al (w := wr) (l := [(⟨w.heap.size, 0, none⟩, .slice ra rn rc), (⟨w.heap.size, 1, none⟩, .slice da dn dc), (⟨w.heap.size, 2, none⟩, .slice oa on oc), (⟨w.heap.size, 3, none⟩, .slice aa an ac), (⟨w.heap.size, 4, none⟩, .slice ia im ic), (⟨w.heap.size, 5, none⟩, .slice fa fn fc), (⟨w.heap.size, 6, none⟩, .slice (some ⟨b, o, none⟩) n c), (⟨b, o + k * 2, none⟩, .string X), (⟨b, o + k * 2 + 1, none⟩, .slice pa pn pc)]) (by assumption) _ | exact AtF.ald (w := wr) (l := [(⟨w.heap.size, 0, none⟩, .slice ra rn rc), (⟨w.heap.size, 1, none⟩, .slice da dn dc), (⟨w.heap.size, 2, none⟩, .slice oa on oc), (⟨w.heap.size, 3, none⟩, .slice aa an ac), (⟨w.heap.size, 4, none⟩, .slice ia im ic), (⟨w.heap.size, 5, none⟩, .slice fa fn fc), (⟨w.heap.size, 6, none⟩, .slice (some ⟨b, o, none⟩) n c), (⟨b, o + k * 2, none⟩, .string X), (⟨b, o + k * 2 + 1, none⟩, .slice pa pn pc)]) (by assumption) _ | exact AtF.al (w := wr) (l := [(⟨w.heap.size, 0, none⟩, .slice ra rn rc), (⟨w.heap.size, 1, none⟩, .slice da dn dc), (⟨w.heap.size, 2, none⟩, .slice oa on oc), (⟨w.heap.size, 3, none⟩, .slice aa an ac), (⟨w.heap.size, 4, none⟩, .slice ia im ic), (⟨w.heap.size, 5, none⟩, .slice fa fn fc), (⟨w.heap.size, 6, none⟩, .slice (some ⟨b, o, none⟩) n c), (⟨b, o + k * 2, none⟩, .string X), (⟨b, o + k * 2 + 1, none⟩, .slice pa pn pc)]) hs _ | exact AtF.ald (w := wr) (l := [(⟨w.heap.size, 0, none⟩, .slice ra rn rc), (⟨w.heap.size, 1, none⟩, .slice da dn dc), (⟨w.heap.size, 2, none⟩, .slice oa on oc), (⟨w.heap.size, 3, none⟩, .slice aa an ac), (⟨w.heap.size, 4, none⟩, .slice ia im ic), (⟨w.heap.size, 5, none⟩, .slice fa fn fc), (⟨w.heap.size, 6, none⟩, .slice (some ⟨b, o, none⟩) n c), (⟨b, o + k * 2, none⟩, .string X), (⟨b, o + k * 2 + 1, none⟩, .slice pa pn pc)]) hs _)
      clear hK K
      try simp only [Act.put, List.setIfInBounds_toArray, List.set_cons_zero, List.set_cons_succ]
      refine heldY 18 33 ?_ _ rfl rfl (by kernel_rfl) (by kernel_rfl) (by kernel_rfl) (fun _ _ _ h => h) rfl (by assumption) ?_ ?_
      rotate_left
      · (intro w hSw; (try dsimp only at hSw); go_simp; (try with_reducible rfl))
      try simp only [List.setIfInBounds_toArray, List.set_cons_zero, List.set_cons_succ]
      refine heldY 19 34 ?_ _ rfl rfl (by kernel_rfl) (by kernel_rfl) (by kernel_rfl) (fun _ _ _ h => h) rfl (by assumption) ?_ ?_
      rotate_left
      · (intro w hSw; (try dsimp only at hSw); go_simp; (try with_reducible rfl))
      try simp only [List.setIfInBounds_toArray, List.set_cons_zero, List.set_cons_succ]
      refine heldY 20 35 ?_ _ rfl rfl (by kernel_rfl) (by kernel_rfl) (by kernel_rfl) (fun _ _ _ h => h) rfl (by assumption) ?_ ?_
      rotate_left
      · (intro w hSw; (try dsimp only at hSw); go_simp; (try with_reducible rfl))
      try simp only [List.setIfInBounds_toArray, List.set_cons_zero, List.set_cons_succ]
      refine wpAnyH_done (by kernel_rfl) ?_ _
      have HBB := Lib.hid (HB.out.trans ((BE _ hHeld).mono HB.out.size))
      clear hHeld hs d0 d1 d2 d3 d4 d5 d6 c0 c1
      by_cases h0 : 0 < LL.length
      · have HR := Lib.hid (HY1.out (by simp [h0]))
        have HBR := Lib.hid (HB2.out.trans (HBB.out.mono HB2.out.size))
        go_wp2
        first | (go_ret; exact ⟨by rw [← HR.out]; rfl, HBR.out⟩) | exact ⟨by rw [← HR.out]; rfl, HBR.out⟩
      · have h00 : LL.length = 0 := by omega
        rw [h00]
        go_wp2
        go_roundw
        case rel => exact ⟨k + 1, by omega, by go_num, Lib.hid (HNX.out (by simp [h00])), HBB⟩
        case measure => simp [intOf]; omega
    · have hkn : k = n := by omega
      subst hkn
      have HR := Lib.hid (HNO.out HF.out)
      have HBR := Lib.hid (HB2.out.trans (HB.out.mono HB2.out.size))
      clear hlt
      go_wp2
      first | (go_ret; exact ⟨by rw [← HR.out]; rfl, HBR.out⟩) | exact ⟨by rw [← HR.out]; rfl, HBR.out⟩
end Go.Proofs.YtkcamfcjkjiijaaGreatDoor
