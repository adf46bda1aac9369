import Derived.Test.YtkbkaeefdhkgdaaGreatDoorPPClean
set_option maxRecDepth 100000
set_option maxHeartbeats 32000000
namespace Go.Proofs.YtkbkaeefdhkgdaaGreatDoor
open Go.RowKit Go.Sort
theorem jn_take (ls : List Bs) (k : Nat) (h : k < ls.length) : jn (ls.take (k + 1)) = jn (ls.take k) ++ 47 :: ls[k] := by
 rw [List.take_add_one, List.getElem?_eq_getElem h, jn_append]; simp [jn]
theorem joined_ref (v : Value) (ls : List Bs) (hn : (jn ls).length ≤ 5000) (w : World) (h : Holds' w v ls) :
  Calls Tryz.prog 144 #[v] w fun e w' => e = .returned (.string ⟨(joined ls).toArray⟩) ∧ w = w' := by
 have hll := len_le_jn ls
 obtain ⟨a, c, b, o, rfl, hc, ha, hcell⟩ := h
 by_cases h0 : ls.length = 0
 ·
  have e0 : ls = [] := List.eq_nil_of_length_eq_zero h0
  subst e0
  clear ha hcell hc hn hll
  go_enter Tryz.func144, Tryz.ntmps144
  go_wp2
  go_ret
  exact ⟨rfl, rfl⟩
 ·
  obtain ⟨rfl, hbw⟩ := ha (by omega)
  have hj : joined ls = jn ls := by rw [joined, if_neg (by rintro rfl; exact h0 rfl)]
  rw [hj]
  obtain ⟨J, HJ⟩ : ∃ J, Hid (ByteArray.mk (jn ls).toArray = J) := ⟨_, rfl⟩
  rw [HJ.out]
  generalize hN : ls.length = n at *
  have hn0 : ((n : Int) == 0) = false := by simp [h0]
  clear ha hj
  go_enter Tryz.func144, Tryz.ntmps144
  go_wp2
  go_loop [3, 4] (fun u i => ∃ (k : Nat) (S : ByteArray), k ≤ n ∧ i = .int .i64 k ∧ u = .string S ∧ S.size ≤ 5000 ∧ Hid (S.data.toList = jn (ls.take k))) (fun _ i => n - (intOf i).toNat)
  case atStart => exact ⟨0, ⟨#[]⟩, Nat.zero_le _, rfl, rfl, Nat.zero_le _, Lib.hid rfl⟩
  case round =>
   obtain ⟨k, S, hk, rfl, rfl, hS, H⟩ := hrel
   by_cases hlt : k < n
   ·
    obtain ⟨x, hx, hcx⟩ : ∃ x : ByteArray, x.data.toList = ls[k] ∧ w.cell? ⟨b, o + k, none⟩ = some (.string x) := ⟨⟨(ls[k]).toArray⟩, by simp, hcell k _ (List.getElem?_eq_getElem (by omega))⟩
    have h1 : (S ++ ByteArray.mk #[47]).size = S.size + 1 := by rw [ByteArray.size_append]; rfl
    have hxs : x.size ≤ 5000 := by have := mem_len (List.getElem_mem (l := ls) (n := k) (by omega)); have h3 := Lib.size_eq x; rw [hx] at h3; omega
    have hby : (S ++ ByteArray.mk #[47] ++ x).data.toList = jn (ls.take (k + 1)) := by rw [app_bytes, app_bytes, jn_take ls k (by omega), H.out, hx]; simp
    have hsz : (S ++ ByteArray.mk #[47] ++ x).size ≤ 5000 := by
     have h2 := jn_sub (List.take_sublist (k + 1) ls)
     rw [Lib.size_eq, hby]; omega
    have HH := Lib.hid (And.intro hby hsz)
    clear hby hsz hx hcell
    go_wp2
    go_round
    case rel => exact ⟨k + 1, S ++ ByteArray.mk #[47] ++ x, by omega, by go_num, rfl, HH.out.2, Lib.hid HH.out.1⟩
    case measure => simp [intOf]; omega
   ·
    obtain rfl : k = n := by omega
    have HE : Hid (S = J) := Lib.hid (by rw [← HJ.out]; exact str_of (by rw [H.out, List.take_of_length_le (by omega)]))
    clear hlt
    go_wp2
    go_ret
    exact ⟨by rw [HE.out]; rfl, rfl⟩
theorem head_yes {s : ByteArray} (h : 0 < s.size) (h47 : s[0] = 47) : s.data.toList.head? = some 47 := by
 have := drop_cons s 0 h
 rw [List.drop_zero] at this
 rw [this, h47]; rfl
theorem head_no {s : ByteArray} (h : 0 < s.size) (h47 : ¬ s[0] = 47) : ¬ s.data.toList.head? = some 47 := by
 have := drop_cons s 0 h
 rw [List.drop_zero] at this
 rw [this]; simpa using h47
theorem head_nil {s : ByteArray} (h : s.size = 0) : ¬ s.data.toList.head? = some 47 := by
 have hl := Lib.size_eq s
 have : s.data.toList = [] := List.eq_nil_of_length_eq_zero (by omega)
 rw [this]; simp
theorem ne47 {x : UInt8} (h : ¬ x = 47) : ((x.toNat : Int) != 47) = true := by rw [bne_iff_ne]; exact not47 h
theorem not_ne47 {x : UInt8} (h : x = 47) : ((x.toNat : Int) != 47) = false := by rw [h]; rfl
theorem clean_ref (s : ByteArray) (hs : s.size ≤ 4000) (w : World) :
  Calls Tryz.prog 112 #[.string s] w fun e w' => e = .returned (cleanV s.data.toList) ∧ Below w.heap.size w w' := by
 obtain ⟨V, HV⟩ : ∃ V, Hid (cleanV s.data.toList = V) := ⟨_, rfl⟩
 rw [HV.out]
 by_cases h0 : 0 < s.size
 ·
  have hc0 := s[0].toNat_lt
  have hz0' : ((s.size : Int) == 0) = false := beq_eq_false_iff_ne.2 (by omega)
  by_cases h47 : s[0] = 47
  ·
   have hb := not_ne47 h47
   have HH := Lib.hid (head_yes h0 h47)
   obtain ⟨i0, hi, hz0, hz1, hz2⟩ := info_parts infoS
   have C3 := fun w => parts_ref s (by omega) w
   have hjl : (jn (resolve (parts s.data.toList))).length ≤ 4001 := by
    have h1 := jn_sub (resolve_sub (parts s.data.toList))
    have h2 := jn_parts s.data.toList
    have h3 := Lib.size_eq s
    omega
   have hpl : (parts s.data.toList).length ≤ 5000 := by
    have h2 := parts_len s.data.toList
    have h3 := Lib.size_eq s
    omega
   obtain ⟨F, hF, hFb⟩ : ∃ F : ByteArray, F = ⟨(joined (resolve (parts s.data.toList))).toArray⟩ ∧ F.data.toList = joined (resolve (parts s.data.toList)) := ⟨_, rfl, by simp⟩
   have hFs : F.size = (joined (resolve (parts s.data.toList))).length := by rw [Lib.size_eq, hFb]
   have hFl : F.size ≤ 4001 := by
    have e2 := clean_len s.data.toList
    have h3 := Lib.size_eq s
    omega
   have C4 := fun v w h => joined_ref v (resolve (parts s.data.toList)) (by omega) w h
   simp only [← hF] at C4
   have HB : Hid (s.data.toList.all okb = false → V = .tuple #[.string ⟨#[]⟩, .int .i64 1]) := Lib.hid (fun h => HV.out.symm.trans (cleanV_bad (fun h' => by rw [h'.2] at h; cases h)))
   have HL : Hid (s.data.toList.all okb = true → 200 < F.size → V = .tuple #[.string ⟨#[]⟩, .int .i64 8]) := Lib.hid (fun h h2 => HV.out.symm.trans (cleanV_long ⟨HH.out, h⟩ (by omega)))
   have HK : Hid (s.data.toList.all okb = true → ¬ 200 < F.size → V = .tuple #[.string F, .int .i64 0]) := Lib.hid (fun h h2 => HV.out.symm.trans (cleanV_ok ⟨HH.out, h⟩ (by omega) hFb))
   obtain ⟨ps, hps⟩ : ∃ ps, ps = parts s.data.toList := ⟨_, rfl⟩
   simp only [← hps] at C3 C4 hpl hjl
   obtain ⟨rs, HRS⟩ : ∃ rs, Hid (resolve ps = rs) := ⟨_, rfl⟩
   simp only [HRS.out] at C4 hjl
   have HC4 := Lib.hid C4
   clear C4 hF hFb hFs h47 HH hps HV hjl
   go_enter Tryz.func112, Tryz.ntmps112
   go_wp2
   go_loop [4] (fun i => ∃ k : Nat, k ≤ s.size ∧ i = .int .i64 k ∧ Hid ((s.data.toList.take k).all okb = true)) (fun i => s.size - (intOf i).toNat)
   case atStart => exact ⟨0, by omega, rfl, Lib.hid (by simp)⟩
   case round =>
    obtain ⟨k, hk, rfl, H⟩ := hrel
    by_cases hlt : k < s.size
    ·
     have hc := s[k].toNat_lt
     by_cases h1 : s[k].toNat < 33
     ·
      have HR := Lib.hid (HB.out (all_stop hlt (by unfold okb; rw [decide_eq_false (by omega)]; rfl)))
      clear C3
      go_wp2
      go_ret2
      exact ⟨ret_val HR.out.symm, Below.refl _ _⟩
     ·
      by_cases h2 : 126 < s[k].toNat
      ·
       have HR := Lib.hid (HB.out (all_stop hlt (by unfold okb; rw [decide_eq_false (p := s[k].toNat ≤ 126) (by omega)]; simp)))
       clear C3
       go_wp2
       go_ret2
       exact ⟨ret_val HR.out.symm, Below.refl _ _⟩
      ·
       have HN : Hid ((s.data.toList.take (k + 1)).all okb = true) := Lib.hid (all_next hlt H.out (by unfold okb; rw [decide_eq_true (by omega), decide_eq_true (by omega)]; rfl))
       clear C3
       go_wp2
       go_round
       case rel => exact ⟨k + 1, by omega, by go_num, HN⟩
       case measure => simp [intOf]; omega
    ·
     obtain rfl : k = s.size := by omega
     have HA := Lib.hid (all_done H.out)
     clear hlt H hk
     go_wp2_with (go_at_call 143; refine (C3 _).mono ?_; rintro e w1 ⟨v1, rfl, ho, hb⟩; obtain ⟨a, c, b, o, rfl, hc, ha, hcell⟩ := ho.holds; have HB1 := Lib.hid hb; clear ho hb; refine Hid.out ?_)
     have hsz1 := HB1.out.size
     generalize hN : ps.length = n at *
     clear C3
     refine Lib.hid ?_
     go_wp2
     go_loopw [6, 7] (fun u i wr => ∃ k : Nat, k ≤ n ∧ i = .int .i64 k ∧ OwnS wr w1.heap.size u ((ps.take k).foldl rstep []) ∧ Below w1.heap.size w1 wr) (fun _ i _ => n - (intOf i).toNat)
     case atStart => exact ⟨0, Nat.zero_le _, rfl, OwnS.nil _ _, Below.refl _ _⟩
     case round =>
      obtain ⟨k, hk, rfl, hown, hnx⟩ := hrel
      by_cases hlt : k < n
      ·
       obtain ⟨rfl, hbw⟩ := ha (by omega)
       obtain ⟨x, hx, hcx⟩ : ∃ x : ByteArray, x.data.toList = ps[k] ∧ wr.cell? ⟨b, o + k, none⟩ = some (.string x) := ⟨⟨(ps[k]).toArray⟩, by simp, (hnx.cell (p := ⟨b, o + k, none⟩) hbw).trans (hcell k _ (List.getElem?_eq_getElem (by omega)))⟩
       have hle := foldl_len ps k
       have hnxt := foldl_take ps k (by omega)
       have hsz := hnx.size
       by_cases hp : x.data.toList = [46, 46]
       ·
        have e : (ps.take (k + 1)).foldl rstep [] = ((ps.take k).foldl rstep []).dropLast := by rw [hnxt, rstep, if_pos (by rw [← hx]; exact hp)]
        have ht : (x.toList == [46, 46]) = true := by rw [ByteArray.toList_eq, hp]; rfl
        have HE := Lib.hid e
        clear e hp hx hnxt hcell ha
        generalize (ps.take k).foldl rstep [] = out at *
        rcases Nat.eq_zero_or_pos out.length with h0 | h0
        ·
         have e0 : out = [] := List.eq_nil_of_length_eq_zero h0
         subst e0
         obtain ⟨a', c', b', o', rfl, hc', ha', hcell'⟩ := hown.holds
         have HO := Lib.hid hown
         have HX := Lib.hid hnx
         clear hown hnx ha' hcell'
         go_wp2
         go_roundw
         case rel => exact ⟨k + 1, by omega, by go_num, by rw [HE.out]; exact HO.out, HX.out⟩
         case measure => simp [intOf]; omega
        ·
         obtain ⟨a', c', b', o', rfl, hc', ha', hcell'⟩ := hown.holds
         obtain ⟨rfl, hb'⟩ := ha' h0
         have HO := Lib.hid (hown.cut h0)
         have HX := Lib.hid hnx
         clear hown hnx ha' hcell'
         generalize hL : out.length = L at *
         go_wp2
         go_roundw
         case rel => exact ⟨k + 1, by omega, by go_num, by rw [HE.out]; exact HO.out, HX.out⟩
         case measure => simp [intOf]; omega
       ·
        have ht : (x.toList == [46, 46]) = false := by rw [ByteArray.toList_eq]; simpa using hp
        by_cases hp1 : x.data.toList = [46]
        ·
         have e : (ps.take (k + 1)).foldl rstep [] = (ps.take k).foldl rstep [] := by rw [hnxt, rstep, if_neg (by rw [← hx]; exact hp), if_pos (by rw [← hx]; exact hp1)]
         have ht1 : (x.toList == [46]) = true := by rw [ByteArray.toList_eq, hp1]; rfl
         have HE := Lib.hid e
         have HO := Lib.hid hown
         have HX := Lib.hid hnx
         clear e hp hp1 hx hnxt hcell ha hown hnx
         go_wp2
         go_roundw
         case rel => exact ⟨k + 1, by omega, by go_num, by rw [HE.out]; exact HO.out, HX.out⟩
         case measure => simp [intOf]; omega
        ·
         have e : (ps.take (k + 1)).foldl rstep [] = (ps.take k).foldl rstep [] ++ [ps[k]] := by rw [hnxt, rstep, if_neg (by rw [← hx]; exact hp), if_neg (by rw [← hx]; exact hp1)]
         have ht1 : (x.toList == [46]) = false := by rw [ByteArray.toList_eq]; simpa using hp1
         have HE := Lib.hid (And.intro e hx)
         have HO := Lib.hid hown
         have HX := Lib.hid hnx
         clear e hp hp1 hx hnxt hcell ha hown hnx
         generalize (ps.take k).foldl rstep [] = out at *
         go_wp2_with (at_builtin; refine wpList_append_own _ rfl _ _ 40 rfl w1.heap.size 9 i0 (.string ⟨#[]⟩) 1 16 Tryz.underlying40 hi hz0 hz1 hz2 rfl (by decide) _ _ _ rfl (World.ownsRow.alloc HO.out _) ⟨wr.heap.size, 0, none⟩ 1 1 [.string x] rfl rfl ?c1 ?c2 ?c3 ?c4 ?c5 ?_)
         case c1 =>
          intro j u hj
          match j, hj with
          | 0, hj => simp at hj; subst hj; simp [Addr.add]
         case c2 => intro u hu; simp at hu; subst hu; rfl
         case c3 => unfold maxLen; omega
         case c4 => omega
         case c5 => simp; omega
         ·
          intro v' w2 hown' hgrow _
          have HO' : Hid (OwnS w2 w1.heap.size v' ((ps.take (k + 1)).foldl rstep [])) := Lib.hid (by rw [HE.out.1]; exact OwnS.app HE.out.2 hown')
          have HB' : Hid (Below w1.heap.size w1 w2) := Lib.hid (below_grown HX.out HO.out hgrow (Nat.le_refl _) hsz)
          clear hown' hgrow
          go_wp2
          go_roundw
          case rel => exact ⟨k + 1, by omega, by go_num, HO'.out, HB'.out⟩
          case measure => simp [intOf]; omega
      ·
       obtain rfl : k = n := by omega
       rw [List.take_of_length_le (by omega)] at hown
       have hown' : OwnS wr w1.heap.size _ (resolve ps) := hown
       rw [HRS.out] at hown'
       have C4 := HC4.out _ wr hown'.holds
       have HX := Lib.hid hnx
       clear hown hown' hnx hlt ha hcell
       by_cases hF : 200 < F.size
       ·
        have HR := Lib.hid (HL.out HA.out hF)
        go_wp2_with (go_at_call 144; refine C4.mono ?_; rintro e w3 ⟨rfl, rfl⟩)
        go_ret2
        exact ⟨ret_val HR.out.symm, HB1.out.trans (HX.out.mono hsz1)⟩
       ·
        have HR := Lib.hid (HK.out HA.out hF)
        go_wp2_with (go_at_call 144; refine C4.mono ?_; rintro e w3 ⟨rfl, rfl⟩)
        go_ret2
        exact ⟨ret_val HR.out.symm, HB1.out.trans (HX.out.mono hsz1)⟩
  ·
   have hb := ne47 h47
   have HR : Hid (V = _) := Lib.hid (HV.out.symm.trans (cleanV_bad (fun h => head_no h0 h47 h.1)))
   clear h47
   go_enter Tryz.func112, Tryz.ntmps112
   go_wp2
   go_ret2
   exact ⟨ret_val HR.out.symm, Below.refl _ _⟩
 ·
  have hz : s.size = 0 := by omega
  have HR : Hid (V = _) := Lib.hid (HV.out.symm.trans (cleanV_bad (fun h => head_nil hz h.1)))
  go_enter Tryz.func112, Tryz.ntmps112
  go_wp2
  go_ret2
  exact ⟨ret_val HR.out.symm, Below.refl _ _⟩
theorem right_ref (s : ByteArray) (hs : s.size ≤ 4000) (w : World) :
  Calls Tryz.prog 61 #[.string s] w fun e w' => e = .returned (.bool (right s.data.toList)) ∧ Below w.heap.size w w' := by
 obtain ⟨B, HB⟩ : ∃ B, Hid (right s.data.toList = B) := ⟨_, rfl⟩
 rw [HB.out]
 have C := clean_ref s hs w
 obtain ⟨F, n, hV, hF, hn⟩ : ∃ (F : ByteArray) (n : Int), cleanV s.data.toList = .tuple #[.string F, .int .i64 n] ∧ F.data.toList = (cleanE s.data.toList).1 ∧ n = (cleanE s.data.toList).2 := ⟨⟨(cleanE s.data.toList).1.toArray⟩, _, rfl, by simp, rfl⟩
 rw [hV] at C
 have hB : (decide (n = 0) && decide (F.data.toList = s.data.toList)) = B := by
  rw [← HB.out, right, hF, hn, Bool.eq_iff_iff]
  simp only [Bool.and_eq_true, decide_eq_true_eq]
  constructor
  ·
   rintro ⟨h1, h2⟩; exact Prod.ext h2 h1
  ·
   intro h; rw [h]; exact ⟨rfl, rfl⟩
 have HE := Lib.hid hB
 clear hB hV hF HB
 by_cases h0 : n = 0
 ·
  subst h0
  clear hn
  go_enter Tryz.func61, Tryz.ntmps61
  go_wp2_with (go_at_call 112; refine C.mono ?_; rintro e w1 ⟨rfl, hb⟩; have HB := Lib.hid hb; clear hb)
  go_ret
  exact ⟨ret_bool (by rw [← HE.out, ByteArray.toList_eq, ByteArray.toList_eq, Bool.eq_iff_iff]; simp), HB.out⟩
 ·
  have h0' : (n == 0) = false := by simpa using h0
  clear hn
  go_enter Tryz.func61, Tryz.ntmps61
  go_wp2_with (go_at_call 112; refine C.mono ?_; rintro e w1 ⟨rfl, hb⟩; have HB := Lib.hid hb; clear hb)
  go_ret
  exact ⟨ret_bool (by rw [← HE.out, decide_eq_false h0]; rfl), HB.out⟩
end Go.Proofs.YtkbkaeefdhkgdaaGreatDoor
