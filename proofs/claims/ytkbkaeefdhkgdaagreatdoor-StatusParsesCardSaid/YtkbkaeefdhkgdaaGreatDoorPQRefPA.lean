import Derived.Test.YtkbkaeefdhkgdaaGreatDoorPQRefLong
set_option maxRecDepth 100000
set_option maxHeartbeats 32000000
namespace Go.Proofs.YtkbkaeefdhkgdaaGreatDoor
open Go.RowKit
theorem trimLB_ref (p : Bs) (hp : p.length ≤ 100000) (w : World) : Calls Tryz.prog 79 #[.string ⟨p.toArray⟩, .bool true] w fun e w' => e = .returned (.string ⟨(trimL p).toArray⟩) ∧ w = w' := by
 refine (trimL_ref ⟨p.toArray⟩ (by rw [sizeOf, bytesOf]; exact hp) w).mono fun e w' h => ?_
 obtain ⟨T, rfl, hT, hw⟩ := h
 refine ⟨?_, hw⟩
 rw [bytesOf] at hT
 rw [← hT]
theorem trimRB_ref (p : Bs) (hp : p.length ≤ 100000) (w : World) : Calls Tryz.prog 79 #[.string ⟨p.toArray⟩, .bool false] w fun e w' => e = .returned (.string ⟨(trimR p).toArray⟩) ∧ w = w' := by
 refine (trimR_ref ⟨p.toArray⟩ (by rw [sizeOf, bytesOf]; exact hp) w).mono fun e w' h => ?_
 obtain ⟨T, rfl, hT, hw⟩ := h
 refine ⟨?_, hw⟩
 rw [bytesOf] at hT
 rw [← hT]
def refX (q : Bs) : Option Rl := parseR (trimR (trimL q))
theorem refG_def (p : Bs) : refG p = (spl 124 (trimL p)).mapM refX := rfl
def PostPA (o : Option (List (List Rl))) (w : World) (e : Ending) (w' : World) : Prop := (match o with
 | some l => ∃ v L, e = .returned (.tuple #[v, .bool true]) ∧ fsts L = l ∧ OwnGs w' w.heap.size v L
 | none => e = .returned (.tuple #[.slice none 0 0, .bool false])) ∧ Below w.heap.size w w'
theorem parseAll_ref (s : ByteArray) (hs : s.size ≤ 3000) (w : World) : Calls Tryz.prog 33 #[.string s] w (PostPA (parseA s.data.toList) w) := by
 have he := emptyT s
 by_cases h0 : s.size = 0
 ·
  have hn : s.data.toList = [] := List.eq_nil_of_length_eq_zero (by rw [← sizeOf]; exact h0)
  rw [decide_eq_true h0] at he
  have HP : Hid (∀ w', Below w.heap.size w w' → PostPA (parseA s.data.toList) w (.returned (.tuple #[.slice none 0 0, .bool true])) w') := Lib.hid (fun w' hb => by rw [hn]; exact ⟨⟨_, [], rfl, rfl, OwnGs.nil _ _⟩, hb⟩)
  clear h0 hn hs
  go_enter Tryz.func33, Tryz.ntmps33
  go_wp2
  go_ret2
  exact HP.out _ (Below.refl _ _)
 have hn : s.data.toList ≠ [] := fun e => h0 (by rw [sizeOf, e]; rfl)
 rw [decide_eq_false h0] at he
 obtain ⟨i0, hi, hz0, hz1, hz2'⟩ := info_parts infoQ
 obtain ⟨j0, hj, hy0, hy1, hy2'⟩ := info_parts infoSl
 have C : ∀ w, Calls Tryz.prog 36 #[.string s, .int .u8 44] w fun e w' => ∃ v, e = .returned v ∧ OwnT w' w.heap.size v (spl 44 s.data.toList) ∧ Below w.heap.size w w' := fun w => split_ref6 s (by omega) 44 w
 have hpc : ∀ p ∈ spl 44 s.data.toList, p.length ≤ 3000 := fun p hp => by have := spl_piece 44 s.data.toList p hp; rw [← sizeOf] at this; omega
 have hln := spl_len 44 s.data.toList
 rw [← sizeOf] at hln
 have HRS : Hid (parseA s.data.toList = match (spl 44 s.data.toList).mapM refG with | none => none | some l => if allE l = (s.data.toList, 0) then some l else none) := Lib.hid (by rw [← refP_eq]; unfold refP; rw [if_neg hn]; rfl)
 have HSM : Hid (∀ l, (spl 44 s.data.toList).mapM refG = some l → l.length ≤ 3001 ∧ ∀ g ∈ l, SmallQ g ∧ g.length ≤ 3001) := Lib.hid (fun l hl => by
  have := read_small (s := s.data.toList) hl
  rw [← sizeOf] at this
  refine ⟨by omega, fun g hg => ⟨fun x hx => ?_, ?_⟩⟩
  ·
   have := (this.2 g hg).2 x hx; omega
  ·
   have := (this.2 g hg).1; omega)
 obtain ⟨ps, hps⟩ : ∃ ps, spl 44 s.data.toList = ps := ⟨_, rfl⟩
 rw [hps] at C hpc hln HRS HSM
 have HPC := Lib.hid hpc
 obtain ⟨m, hm⟩ : ∃ m, ps.length = m := ⟨_, rfl⟩
 rw [hm] at hln
 have HM := Lib.hid hm
 obtain ⟨R, hR⟩ : ∃ R, ps.mapM refG = R := ⟨_, rfl⟩
 have HR0 : Hid (restM refG [] (ps.drop 0) = R) := Lib.hid (by unfold restM; rw [List.drop_zero, hR]; cases R <;> simp)
 rw [hR] at HRS HSM
 obtain ⟨P, hP⟩ : ∃ P, parseA s.data.toList = P := ⟨_, rfl⟩
 rw [hP] at HRS ⊢
 have HYES : Hid (∀ (l : List Gv) v w', R = some (fsts l) → allE (fsts l) = (s.data.toList, 0) → OwnGs w' w.heap.size v l → Below w.heap.size w w' → PostPA P w (.returned (.tuple #[v, .bool true])) w') := Lib.hid (fun l v w' h1 h2 h3 h4 => by
  have e := HRS.out; rw [h1] at e; dsimp only at e; rw [if_pos h2] at e
  rw [e]; exact ⟨⟨v, l, rfl, rfl, h3⟩, h4⟩)
 have HNOT : Hid (∀ (l : List Gv) w', R = some (fsts l) → allE (fsts l) ≠ (s.data.toList, 0) → Below w.heap.size w w' → PostPA P w (.returned (.tuple #[.slice none 0 0, .bool false])) w') := Lib.hid (fun l w' h1 h2 h4 => by
  have e := HRS.out; rw [h1] at e; dsimp only at e; rw [if_neg h2] at e
  rw [e]; exact ⟨rfl, h4⟩)
 have HNO : Hid (R = none → ∀ w', Below w.heap.size w w' → PostPA P w (.returned (.tuple #[.slice none 0 0, .bool false])) w') := Lib.hid (fun h1 w' h4 => by
  have e := HRS.out; rw [h1] at e; dsimp only at e
  rw [e]; exact ⟨rfl, h4⟩)
 clear hps hpc hm hR hP hn h0 HRS
 go_enter Tryz.func33, Tryz.ntmps33
 go_wp2_with (go_at_call 36; (with_reducible refine (C _).mono ?_); rintro e w1 ⟨v1, rfl, ho, hb⟩; obtain ⟨al, cl, bl, ol, rfl, hcl, hal, hlc⟩ := ho.holds; have HLC := Lib.hid hlc; have HB1 := Lib.hid hb; rw [HM.out]; rw [HM.out] at hcl hal; clear ho hlc hb C)
 have hsz1 := HB1.out.size
 go_loopw [4, 6] (fun u i wr => ∃ (k : Nat) (xs : List Gv), k ≤ m ∧ i = .int .i64 k ∧ Hid (xs.length = k) ∧ Hid (restM refG (fsts xs) (ps.drop k) = R) ∧ Hid (OwnGs wr w1.heap.size u xs) ∧ Hid (Below w1.heap.size w1 wr)) (fun _ i _ => m - (intOf i).toNat)
 case atStart => exact ⟨0, [], by omega, rfl, Lib.hid rfl, HR0, Lib.hid (OwnGs.nil _ _), Lib.hid (Below.refl _ _)⟩
 case round =>
  clear HR0
  obtain ⟨k, xs, hk, rfl, HXL, HR, HO, HBX⟩ := hrel
  obtain ⟨wo, rfl⟩ : ∃ wo : World, wo = wr := ⟨_, rfl⟩
  have HB := Lib.hid (HB1.out.trans (HBX.out.mono hsz1))
  have hsz := HB.out.size
  have hszx := HBX.out.size
  by_cases hlt : k < m
  ·
   obtain ⟨rfl, hbw⟩ := hal (by omega)
   obtain ⟨p, hpk⟩ : ∃ p, ps[k]? = some p := ⟨_, List.getElem?_eq_getElem (by rw [HM.out]; exact hlt)⟩
   have c0 := HLC.out k p hpk
   rw [← HBX.out.cell (p := ⟨bl, ol + k, none⟩) hbw] at c0
   have hpl := HPC.out p (List.mem_of_getElem? hpk)
   have hdr := drop_atQ hpk
   have TL := trimLB_ref p (by omega)
   have htl := trimL_len p
   have SP : ∀ w, Calls Tryz.prog 36 #[.string ⟨(trimL p).toArray⟩, .int .u8 124] w fun e w' => ∃ v, e = .returned v ∧ OwnT w' w.heap.size v (spl 124 (trimL p)) ∧ Below w.heap.size w w' := fun w => by
    have := split_ref6 ⟨(trimL p).toArray⟩ (by rw [sizeOf, bytesOf]; omega) 124 w
    rw [bytesOf] at this; exact this
   have hqc : ∀ q ∈ spl 124 (trimL p), q.length ≤ 3000 := fun q hq => by have := spl_piece 124 (trimL p) q hq; omega
   have hql := spl_len 124 (trimL p)
   have hqm : (spl 124 (trimL p)).length ≤ 3001 := by omega
   obtain ⟨RG, hRG⟩ : ∃ RG, refG p = RG := ⟨_, rfl⟩
   have hRG' := hRG
   rw [refG_def] at hRG'
   obtain ⟨qs, hqs⟩ : ∃ qs, spl 124 (trimL p) = qs := ⟨_, rfl⟩
   rw [hqs] at SP hqc hqm hRG'
   have HQC := Lib.hid hqc
   obtain ⟨mm, hmm⟩ : ∃ mm, qs.length = mm := ⟨_, rfl⟩
   rw [hmm] at hqm
   have HMM := Lib.hid hmm
   have HRG0 : Hid (restM refX [] (qs.drop 0) = RG) := Lib.hid (by unfold restM; rw [List.drop_zero, hRG']; cases RG <;> simp)
   have HBAD : Hid (RG = none → R = none) := Lib.hid (fun e => by have := HR.out; rw [hdr, restM_bad (by rw [hRG, e])] at this; exact this.symm)
   have HGO : Hid (∀ ys sv, RG = some ys → restM refG (fsts (xs ++ [(ys, sv)])) (ps.drop (k + 1)) = R) := Lib.hid (fun ys sv e => by have := HR.out; rw [hdr, restM_step (by rw [hRG, e])] at this; rw [show fsts (xs ++ [(ys, sv)]) = fsts xs ++ [ys] by simp [fsts]]; exact this)
   generalize (⟨p.toArray⟩ : ByteArray) = P0 at *
   generalize (⟨(trimL p).toArray⟩ : ByteArray) = P1 at *
   clear hqs hqc hmm hRG hRG' hql htl hpk hpl hdr HR
   go_wp2_with (first
    | (go_at_call 79; (with_reducible refine (TL _).mono ?_); rintro e w3 ⟨rfl, hw3⟩; subst hw3)
    | (go_at_call 36; (with_reducible refine (SP _).mono ?_); rintro e w4 ⟨v4, rfl, ho, hb⟩; obtain ⟨aq, cq, bq, oq, rfl, hcq, haq, hlq⟩ := ho.holds; have HLQ := Lib.hid hlq; have HB4 := Lib.hid hb; rw [HMM.out]; rw [HMM.out] at hcq haq; clear ho hlq hb SP))
   have hsz4 := HB4.out.size
   have hszo : wo.heap.size ≤ w4.heap.size := hsz4
   go_loopw [7, 9] (fun u i wr => ∃ (j : Nat) (ys : List Rl), j ≤ mm ∧ i = .int .i64 j ∧ Hid (ys.length = j) ∧ Hid (restM refX ys (qs.drop j) = RG) ∧ Hid (OwnQ wr w4.heap.size u ys) ∧ Hid (Below w4.heap.size w4 wr)) (fun _ i _ => mm - (intOf i).toNat)
   case atStart => exact ⟨0, [], by omega, rfl, Lib.hid rfl, HRG0, Lib.hid (OwnV.nil _ _ _ _), Lib.hid (Below.refl _ _)⟩
   case round =>
    clear HRG0
    obtain ⟨j, ys, hjm, rfl, HYL, HRX, HOY, HBY⟩ := hrel
    have HB4Y := Lib.hid (HB4.out.trans (HBY.out.mono hsz4))
    have HB1Y := Lib.hid (HBX.out.trans (HB4Y.out.mono hszx))
    have HBW := Lib.hid (HB.out.trans (HB4Y.out.mono hsz))
    have hszy := HBY.out.size
    have hszw := HBW.out.size
    by_cases hjt : j < mm
    ·
     obtain ⟨rfl, hbq⟩ := haq (by omega)
     obtain ⟨q, hqj⟩ : ∃ q, qs[j]? = some q := ⟨_, List.getElem?_eq_getElem (by rw [HMM.out]; exact hjt)⟩
     have c1 := HLQ.out j q hqj
     rw [← HBY.out.cell (p := ⟨bq, oq + j, none⟩) hbq] at c1
     have hql := HQC.out q (List.mem_of_getElem? hqj)
     have hl1 := trimL_len q
     have hl2 := trimR_len (trimL q)
     have TL := trimLB_ref q (by omega)
     have TR := trimRB_ref (trimL q) (by omega)
     have PA := fun W => parse_ref7 ⟨(trimR (trimL q)).toArray⟩ (by rw [sizeOf, bytesOf]; omega) W
     unfold ParsePost7 at PA
     rw [bytesOf] at PA
     have hdr := drop_atQ hqj
     generalize (⟨q.toArray⟩ : ByteArray) = Q0 at *
     generalize (⟨(trimL q).toArray⟩ : ByteArray) = Q1 at *
     cases hq : parseR (trimR (trimL q)) with
     | none =>
      have G := Lib.hid (HNO.out (HBAD.out (by have := HRX.out; rw [hdr, restM_bad (show refX q = none from hq)] at this; exact this.symm)))
      rw [hq] at PA
      unfold parsedR relV at PA
      dsimp only at PA
      generalize (⟨(trimR (trimL q)).toArray⟩ : ByteArray) = Q2 at *
      clear hqj hql hdr hq HRX HOY HYES HNO HNOT HBAD HGO HSM hi hz0 hz1 hz2' hj hy0 hy1 hy2' hl1 hl2
      go_wp2_with (first
       | (go_at_call 79; (with_reducible first | refine (TL _).mono ?_ | refine (TR _).mono ?_); rintro e w5 ⟨rfl, hw5⟩; subst hw5)
       | (go_at_call 80; (with_reducible refine (PA _).mono ?_); rintro e w6 ⟨rfl, hb⟩; have HB6 := Lib.hid (HBW.out.trans (hb.mono hszw)); clear hb PA))
      go_ret2
      exact G.out _ (HB6.out.alloc HB6.out.size _)
     | some x =>
      obtain ⟨x0, x1, x2⟩ := x
      have HR2 : Hid (restM refX (ys ++ [(x0, x1, x2)]) (qs.drop (j + 1)) = RG) := Lib.hid (by have := HRX.out; rw [hdr, restM_step (show refX q = some (x0, x1, x2) from hq)] at this; exact this)
      rw [hq] at PA
      unfold parsedR relV at PA
      dsimp only at PA
      have HXX : Hid ((⟨x0.toArray⟩ : ByteArray).data.toList = x0 ∧ (⟨x1.toArray⟩ : ByteArray).data.toList = x1 ∧ (⟨x2.toArray⟩ : ByteArray).data.toList = x2) := Lib.hid ⟨by simp, by simp, by simp⟩
      have hxl : (ys ++ [(x0, x1, x2)]).length = j + 1 := by rw [List.length_append, HYL.out]; rfl
      have HXL2 := Lib.hid hxl
      generalize (⟨(trimR (trimL q)).toArray⟩ : ByteArray) = Q2 at *
      generalize (⟨x0.toArray⟩ : ByteArray) = X0 at *
      generalize (⟨x1.toArray⟩ : ByteArray) = X1 at *
      generalize (⟨x2.toArray⟩ : ByteArray) = X2 at *
      clear hqj hql hdr hq HRX HYES HNO HNOT HBAD HGO HSM hxl hl1 hl2
      go_wp2_with (first
       | (go_at_call 79; (with_reducible first | refine (TL _).mono ?_ | refine (TR _).mono ?_); rintro e w5 ⟨rfl, hw5⟩; subst hw5)
       | (go_at_call 80; (with_reducible refine (PA _).mono ?_); rintro e w6 ⟨rfl, hb⟩; have HBY6 := Lib.hid (HBY.out.trans (hb.mono hszy)); have HO6 := Lib.hid (OwnV.on HOY.out hb); have hz6 := HBY6.out.size; clear hb PA HOY)
       | (at_builtin; refine wpList_append_own _ rfl _ _ 39 rfl w4.heap.size 46 i0 _ 3 48 Tryz.underlying39 hi hz0 hz1 hz2' rfl (by decide) _ _ _ rfl (World.ownsRow.alloc (World.ownsRow.alloc HO6.out.2 _) _) ⟨w6.heap.size + 1, 0, none⟩ 1 1 [.string X0, .string X1, .string X2] rfl rfl ?c1 ?c2 ?c3 ?c4 ?c5 ?_))
      case c1 =>
       intro j u hj
       match j, hj with
       | 0, hj => simp at hj; subst hj; simp [Addr.add]
       | 1, hj => simp at hj; subst hj; simp [Addr.add]
       | 2, hj => simp at hj; subst hj; simp [Addr.add]
      case c2 => intro u hu; simp at hu; rcases hu with rfl | rfl | rfl <;> rfl
      case c3 => rw [List.length_map, HYL.out]; unfold maxLen; omega
      case c4 => rw [List.length_map, HYL.out]; omega
      case c5 => have := HBY6.out.size; simp; omega
      intro v' w7 hown' hgrow _
      have hO := HO6.out.on ((Below.refl w6.heap.size w6).alloc (Nat.le_refl _) (.cells #[.string X0, .string X1, .string X2] 46))
      have HO7 : Hid (OwnQ w7 w4.heap.size v' (ys ++ [(x0, x1, x2)])) := Lib.hid (OwnQ.app (x := (x0, x1, x2)) HXX.out.1 HXX.out.2.1 HXX.out.2.2 (by simpa using hown'))
      have HB7 : Hid (Below w4.heap.size w4 w7) := Lib.hid (OwnV.below (HBY6.out.alloc HBY6.out.size _) hO hgrow (Nat.le_refl _) (by have := HBY6.out.size; simp; omega))
      clear hown' hgrow hO
      go_wp2
      go_roundw
      case rel => exact ⟨j + 1, _, by omega, by go_num, HXL2, HR2, HO7, HB7⟩
      case measure => simp [intOf]; omega
    ·
     obtain rfl : j = mm := by omega
     have hRG : RG = some ys := by have := HRX.out; rw [List.drop_of_length_le (by rw [HMM.out]; omega), restM_nil] at this; exact this.symm
     obtain ⟨ga, gc, hv⟩ := OwnV.form HOY.out
     rw [List.length_map, HYL.out] at hv
     subst hv
     have HR2 := Lib.hid (HGO.out ys (.slice ga j gc) hRG)
     have HN4 := Lib.hid (OwnV.mono HOY.out (show w1.heap.size ≤ w4.heap.size by omega))
     have HO4 := Lib.hid (OwnGs.on (OwnGs.on HO.out HB4.out) HBY.out)
     have hxl : (xs ++ [(ys, Value.slice ga j gc)]).length = k + 1 := by rw [List.length_append, HXL.out]; rfl
     have HXL5 := Lib.hid hxl
     obtain ⟨wz, rfl⟩ : ∃ wz : World, wz = wr := ⟨_, rfl⟩
     clear hRG HRX HGO HBAD HYES HNOT HNO HSM hjt hxl
     go_wp2_with (at_builtin; refine wpList_append_own _ rfl _ _ 38 rfl w1.heap.size 39 j0 _ 1 24 Tryz.underlying38 hj hy0 hy1 hy2' rfl (by decide) _ _ _ rfl (World.ownsRow.alloc HO4.out.1.2 _) ⟨wz.heap.size, 0, none⟩ 1 1 [.slice ga j gc] rfl rfl ?c1 ?c2 ?c3 ?c4 ?c5 ?_)
     case c1 =>
      intro j u hj
      match j, hj with
      | 0, hj => simp at hj; subst hj; simp [Addr.add]
     case c2 => intro u hu; simp at hu; subst hu; rfl
     case c3 => rw [List.length_map, HXL.out]; unfold maxLen; omega
     case c4 => rw [List.length_map, HXL.out]; omega
     case c5 => have := HB1Y.out.size; simp; omega
     intro v' w5 hown' hgrow _
     have HO5 : Hid (OwnGs w5 w1.heap.size v' (xs ++ [(ys, .slice ga j gc)])) := Lib.hid (OwnGs.app HO4.out HN4.out (by simpa using hown') hgrow)
     have HB5 : Hid (Below w1.heap.size w1 w5) := Lib.hid (OwnV.below HB1Y.out HO4.out.1 hgrow (Nat.le_refl _) HB1Y.out.size)
     clear hown' hgrow
     go_wp2
     go_roundw
     case rel => exact ⟨k + 1, _, by omega, by go_num, HXL5, HR2, HO5, HB5⟩
     case measure => simp [intOf]; omega
  ·
   obtain rfl : k = m := by omega
   have hRS : R = some (fsts xs) := by have := HR.out; rw [List.drop_of_length_le (by rw [HM.out]; omega), restM_nil] at this; exact this.symm
   have hsm := HSM.out _ hRS
   obtain ⟨ga, gc, hv⟩ := OwnV.form HO.out.1
   rw [List.length_map, HXL.out] at hv
   subst hv
   have AW := allW_ref _ xs (by rw [HXL.out]; omega) (fun x hx => by
    have := hsm.2 x.1 (List.mem_map_of_mem hx)
    exact ⟨this.1, by omega⟩) wo (OwnGs.holds HO.out)
   unfold TwoP at AW
   have HYE := Lib.hid (fun w' (h2 : allE (fsts xs) = (s.data.toList, 0)) (hb : Below wo.heap.size wo w') => HYES.out xs (.slice ga k gc) w' hRS h2 (OwnGs.mono (OwnGs.on HO.out hb) hsz1) (HB.out.trans (hb.mono hsz)))
   have HNE := Lib.hid (fun w' (h2 : allE (fsts xs) ≠ (s.data.toList, 0)) (hb : Below wo.heap.size wo w') => HNOT.out xs w' hRS h2 (HB.out.trans (hb.mono hsz)))
   obtain ⟨t, z, htz⟩ : ∃ t z, allE (fsts xs) = (t, z) := ⟨_, _, rfl⟩
   rw [htz] at AW HYE HNE
   dsimp only at AW
   have q1 := eqT (bsT t) s
   rw [bytesOf] at q1
   clear HYES HNOT HNO HSM hRS hsm HR HO HXL htz hlt
   by_cases hz : z = 0
   ·
    subst hz
    by_cases ht : t = s.data.toList
    ·
     have G := Lib.hid (fun w' hb => HYE.out w' (by rw [ht]) hb)
     rw [decide_eq_true ht] at q1
     generalize bsT t = T at *
     clear ht HYE HNE
     go_wp2_with (go_at_call 14; (with_reducible refine AW.mono ?_); rintro e w5 ⟨rfl, hb⟩; have HB5 := Lib.hid hb; clear hb AW)
     go_ret2
     exact G.out _ HB5.out
    ·
     have G := Lib.hid (fun w' hb => HNE.out w' (fun e => ht (by simpa using e)) hb)
     rw [decide_eq_false ht] at q1
     generalize bsT t = T at *
     clear ht HYE HNE
     go_wp2_with (go_at_call 14; (with_reducible refine AW.mono ?_); rintro e w5 ⟨rfl, hb⟩; have HB5 := Lib.hid hb; clear hb AW)
     go_ret2
     exact G.out _ HB5.out
   ·
    have G := Lib.hid (fun w' hb => HNE.out w' (fun e => hz (by have := congrArg Prod.snd e; simpa using this)) hb)
    have hz1 : (z == 0) = false := by rw [beq_eq_false_iff_ne]; exact hz
    generalize bsT t = T at *
    clear HYE HNE
    go_wp2_with (go_at_call 14; (with_reducible refine AW.mono ?_); rintro e w5 ⟨rfl, hb⟩; have HB5 := Lib.hid hb; clear hb AW)
    go_ret2
    exact G.out _ HB5.out
end Go.Proofs.YtkbkaeefdhkgdaaGreatDoor
