import Derived.Test.YtkbkaeefdhkgdaaGreatDoorPPName
set_option maxRecDepth 100000
set_option maxHeartbeats 32000000
namespace Go.Proofs.YtkbkaeefdhkgdaaGreatDoor
section
open Go.RowKit Go.Sort
structure LaidP (w : World) : Prop where
 mx : ∃ m, w.cell? ⟨1, 0, none⟩ = some (.int .i64 m)
 lt : 1 < w.heap.size
theorem LaidP.on {w w' : World} (h : LaidP w) (hb : Below w.heap.size w w') : LaidP w' :=
 ⟨h.mx.imp fun _ hm => (hb.cell (p := ⟨1, 0, none⟩) h.lt).trans hm, Nat.lt_of_lt_of_le h.lt hb.size⟩
theorem parts_of (s : ByteArray) : ((Lib.splitB ⟨#[47]⟩ 0 (Lib.countB s ⟨#[47]⟩) s).map (·.data.toList)).filter (fun l => decide (l ≠ [])) = parts s.data.toList := by
 rw [Lib.splitB_data]
 exact parts_split _
theorem parts_any (s : ByteArray) (hs : s.size ≤ 4000) (w : World) (h : LaidP w) :
  Calls Tryz.prog 190 #[.string s] w fun e w' => ∃ v, e = .returned v ∧ OwnS w' w.heap.size v (parts s.data.toList) ∧ Below w.heap.size w w' := by
 obtain ⟨m, hm⟩ := h.mx
 have C1 := Tryz.strings_Split s ⟨#[47]⟩ m w (by omega) hm (by decide)
 have hl := Lib.splitB_all ⟨#[47]⟩ (by decide) 0 _ s rfl
 have hcl := Lib.countB_le ⟨#[47]⟩ (by decide) s.size s (Nat.le_refl _)
 have hmade := OwnS.made w (Lib.splitB ⟨#[47]⟩ 0 (Lib.countB s ⟨#[47]⟩) s) (by rw [hl]; unfold maxLen; omega)
 have C2 := sel_empty _ _ (by rw [List.length_map, hl]; omega) _ hmade.holds
 rw [parts_of, hl] at C2
 have hb1 : Below w.heap.size w (w.alloc (.cells ((Lib.splitB ⟨#[47]⟩ 0 (Lib.countB s ⟨#[47]⟩) s).map Value.string).toArray 9)) := (Below.refl _ _).alloc (Nat.le_refl _) _
 generalize parts s.data.toList = ps at *
 generalize Lib.countB s ⟨#[47]⟩ + 1 = n at *
 clear hl hcl hmade hm
 generalize w.alloc (.cells ((Lib.splitB ⟨#[47]⟩ 0 (Lib.countB s ⟨#[47]⟩) s).map Value.string).toArray 9) = w1 at *
 have HB := Lib.hid hb1
 clear hb1
 go_enter Tryz.func190, Tryz.ntmps190
 go_wp2_with (first | (go_at_call 122; refine C1.mono ?_; rintro e w2 ⟨rfl, rfl⟩) | (go_at_call 205; refine C2.mono ?_; rintro e w3 ⟨v, rfl, ho, hb⟩; have HO := Lib.hid ho; have HB2 := Lib.hid hb; clear ho hb))
 go_ret
 exact ⟨_, rfl, HO.out.mono HB.out.size, HB.out.trans (HB2.out.mono HB.out.size)⟩
theorem foldl_take (ls : List Bs) (k : Nat) (h : k < ls.length) : (ls.take (k + 1)).foldl rstep [] = rstep ((ls.take k).foldl rstep []) ls[k] := by
 rw [List.take_add_one, List.getElem?_eq_getElem h, List.foldl_append]; rfl
theorem foldl_len (ls : List Bs) (k : Nat) : ((ls.take k).foldl rstep []).length ≤ k := by
 have h1 := (foldl_sub (ls.take k) [] [] (List.Sublist.refl _)).length_le
 rw [List.nil_append, List.length_take] at h1
 omega
theorem resolved_any (v : Value) (ls : List Bs) (hn : ls.length ≤ 5000) (w : World) (h : Holds' w v ls) :
  Calls Tryz.prog 189 #[v] w fun e w' => ∃ v', e = .returned v' ∧ OwnS w' w.heap.size v' (resolve ls) ∧ Below w.heap.size w w' := by
 obtain ⟨i0, hi, hz0, hz1, hz2⟩ := info_parts infoS
 have C1 := sel_dot v ls hn w h
 have hres : (ls.filter (fun l => decide (l ≠ [46]))).foldl rstep [] = resolve ls := foldl_filter ls []
 have hlen : (ls.filter (fun l => decide (l ≠ [46]))).length ≤ 5000 := Nat.le_trans (List.length_filter_le _ _) hn
 have hnd : ∀ l ∈ ls.filter (fun l => decide (l ≠ [46])), l ≠ [46] := fun l hl => by simpa using (List.mem_filter.1 hl).2
 generalize ls.filter (fun l => decide (l ≠ [46])) = fs at *
 generalize resolve ls = rs at *
 clear h hn
 go_enter Tryz.func189, Tryz.ntmps189
 go_wp2_with (go_at_call 205; refine C1.mono ?_; rintro e w1 ⟨v1, rfl, ho, hb⟩; obtain ⟨a, c, b, o, rfl, hc, ha, hcell⟩ := ho.holds; have HB1 := Lib.hid hb; clear ho hb; refine Hid.out ?_)
 have hsz1 := HB1.out.size
 generalize hN : fs.length = n at *
 refine Lib.hid ?_
 go_wp2
 go_loopw [3, 9] (fun u i wr => ∃ k : Nat, k ≤ n ∧ i = .int .i64 k ∧ OwnS wr w1.heap.size u ((fs.take k).foldl rstep []) ∧ Below w1.heap.size w1 wr) (fun _ i _ => n - (intOf i).toNat)
 case atStart => exact ⟨0, Nat.zero_le _, rfl, OwnS.nil _ _, Below.refl _ _⟩
 case round =>
  obtain ⟨k, hk, rfl, hown, hnx⟩ := hrel
  by_cases hlt : k < n
  ·
   obtain ⟨rfl, hbw⟩ := ha (by omega)
   obtain ⟨x, hx, hcx⟩ : ∃ x : ByteArray, x.data.toList = fs[k] ∧ wr.cell? ⟨b, o + k, none⟩ = some (.string x) := ⟨⟨(fs[k]).toArray⟩, by simp, (hnx.cell (p := ⟨b, o + k, none⟩) hbw).trans (hcell k _ (List.getElem?_eq_getElem (by omega)))⟩
   have hle := foldl_len fs k
   have hnxt := foldl_take fs k (by omega)
   have hdot := hnd fs[k] (List.getElem_mem _)
   have hsz := hnx.size
   by_cases hp : x.data.toList = [46, 46]
   ·
    have e : (fs.take (k + 1)).foldl rstep [] = ((fs.take k).foldl rstep []).dropLast := by rw [hnxt, rstep, if_pos (by rw [← hx]; exact hp)]
    have ht : (x.toList == [46, 46]) = true := by rw [ByteArray.toList_eq, hp]; rfl
    have HE := Lib.hid e
    clear e hp hx hdot hnxt hcell hnd ha
    generalize (fs.take k).foldl rstep [] = out at *
    rcases Nat.eq_zero_or_pos out.length with h0 | h0
    ·
     have e0 : out = [] := List.eq_nil_of_length_eq_zero h0
     subst e0
     obtain ⟨a', c', b', o', rfl, hc', ha', hcell'⟩ := hown.holds
     have HO := Lib.hid hown
     have HX := Lib.hid hnx
     clear hown hnx ha' hcell'
     go_wp2
     go_roundw
     case rel => exact ⟨k + 1, by omega, by go_num, by rw [HE.out]; exact HO.out, HX.out⟩
     case measure => simp [intOf]; omega
    ·
     obtain ⟨a', c', b', o', rfl, hc', ha', hcell'⟩ := hown.holds
     obtain ⟨rfl, hb'⟩ := ha' h0
     have HO := Lib.hid (hown.cut h0)
     have HX := Lib.hid hnx
     clear hown hnx ha' hcell'
     generalize hL : out.length = L at *
     go_wp2
     go_roundw
     case rel => exact ⟨k + 1, by omega, by go_num, by rw [HE.out]; exact HO.out, HX.out⟩
     case measure => simp [intOf]; omega
   ·
    have e : (fs.take (k + 1)).foldl rstep [] = (fs.take k).foldl rstep [] ++ [fs[k]] := by rw [hnxt, rstep, if_neg (by rw [← hx]; exact hp), if_neg hdot]
    have ht : (x.toList == [46, 46]) = false := by rw [ByteArray.toList_eq]; simpa using hp
    have HE := Lib.hid (And.intro e hx)
    have HO := Lib.hid hown
    have HX := Lib.hid hnx
    clear e hp hx hdot hnxt hcell hnd ha hown hnx
    generalize (fs.take k).foldl rstep [] = out at *
    go_wp2_with (at_builtin; refine wpList_append_own _ rfl _ _ 40 rfl w1.heap.size 9 i0 (.string ⟨#[]⟩) 1 16 Tryz.underlying40 hi hz0 hz1 hz2 rfl (by decide) _ _ _ rfl (World.ownsRow.alloc HO.out _) ⟨wr.heap.size, 0, none⟩ 1 1 [.string x] rfl rfl ?c1 ?c2 ?c3 ?c4 ?c5 ?_)
    case c1 =>
     intro j u hj
     match j, hj with
     | 0, hj => simp at hj; subst hj; simp [Addr.add]
    case c2 => intro u hu; simp at hu; subst hu; rfl
    case c3 => unfold maxLen; omega
    case c4 => omega
    case c5 => simp; omega
    ·
     intro v' w2 hown' hgrow _
     have HO' : Hid (OwnS w2 w1.heap.size v' ((fs.take (k + 1)).foldl rstep [])) := Lib.hid (by rw [HE.out.1]; exact OwnS.app HE.out.2 hown')
     have HB' : Hid (Below w1.heap.size w1 w2) := Lib.hid (below_grown HX.out HO.out hgrow (Nat.le_refl _) hsz)
     clear hown' hgrow
     go_wp2
     go_roundw
     case rel => exact ⟨k + 1, by omega, by go_num, HO'.out, HB'.out⟩
     case measure => simp [intOf]; omega
  ·
   obtain rfl : k = n := by omega
   rw [List.take_of_length_le (by omega), hres] at hown
   have HO := Lib.hid hown
   have HX := Lib.hid hnx
   clear hown hnx hlt ha hcell hres
   go_wp2
   go_ret
   exact ⟨_, rfl, HO.out.mono hsz1, HB1.out.trans (HX.out.mono hsz1)⟩
end
section
open Go.RowKit Go.Sort
theorem joinL_any (v : Value) (ls : List Bs) (hn : (jn ls).length ≤ 5000) (w : World) (h : Holds' w v ls) :
  Calls Tryz.prog 43 #[v, .string ⟨#[47]⟩] w fun e w' => e = .returned (.string ⟨(Lib.join ls [47]).toArray⟩) ∧ Below w.heap.size w w' := by
 have hl := len_le_jn ls
 obtain ⟨a, c, b, o, rfl, hc, ha, hcell⟩ := h
 rcases Nat.eq_zero_or_pos ls.length with h0 | h0
 ·
  have e0 : ls = [] := List.eq_nil_of_length_eq_zero h0
  subst e0
  exact (Tryz.strings_Join_none a c ⟨#[47]⟩ w).mono fun e w' ⟨he, hw⟩ => by subst hw; exact ⟨he, Below.refl _ _⟩
 ·
  obtain ⟨rfl, hb⟩ := ha h0
  have hm : (ls.map fun l => ByteArray.mk l.toArray).map (·.data.toList) = ls := by simp [Function.comp_def]
  have hj : (Lib.join ls [47]).length ≤ 5000 := by
   have := joined_join ls
   have e2 := congrArg List.length this
   rw [joined, if_neg (by rintro rfl; simp at h0)] at e2
   simp at e2; omega
  have := Tryz.strings_Join b o c (ls.map fun l => ByteArray.mk l.toArray) ⟨#[47]⟩ w (fun j x hx => by
   rw [List.getElem?_map] at hx
   cases hg : ls[j]? with
   | none => rw [hg] at hx; cases hx
   | some l => rw [hg] at hx; obtain rfl := Option.some.inj hx; exact hcell j l hg) hb (by rw [List.length_map]; omega) (by rw [List.length_map]; exact hc) (by rw [hm]; show (Lib.join ls [47]).length ≤ _; omega)
  rw [hm, List.length_map] at this
  exact this
theorem pre_head (l : Bs) : Lib.hasPrefix l [47] = decide (l.head? = some 47) := by
 cases l with
 | nil => rfl
 | cons c l => 
  by_cases h : c = 47
  ·
   subst h; simp [Lib.hasPrefix, List.isPrefixOf]
  ·
   have : ((47 : UInt8) == c) = false := by simp; exact fun e => h e.symm
   simp [Lib.hasPrefix, List.isPrefixOf, this, h]
def cleanV (l : Bs) : Value := .tuple #[.string ⟨(cleanE l).1.toArray⟩, .int .i64 (cleanE l).2]
theorem cleanV_bad {l : Bs} (h : ¬ (l.head? = some 47 ∧ l.all okb = true)) : cleanV l = .tuple #[.string ⟨#[]⟩, .int .i64 1] := by unfold cleanV cleanE; rw [if_neg h]
theorem cleanV_long {l : Bs} (h : l.head? = some 47 ∧ l.all okb = true) (h2 : 200 < (joined (resolve (parts l))).length) : cleanV l = .tuple #[.string ⟨#[]⟩, .int .i64 8] := by unfold cleanV cleanE; rw [if_pos h, if_pos h2]
theorem cleanV_ok {l : Bs} {F : ByteArray} (h : l.head? = some 47 ∧ l.all okb = true) (h2 : ¬ 200 < (joined (resolve (parts l))).length) (hF : F.data.toList = joined (resolve (parts l))) : cleanV l = .tuple #[.string F, .int .i64 0] := by
 unfold cleanV cleanE; rw [if_pos h, if_neg h2, str_of hF]
theorem ret_val {a b : Value} (h : a = b) : Ending.returned a = Ending.returned b := congrArg Ending.returned h
theorem clean_any (s : ByteArray) (hs : s.size ≤ 4000) (w : World) (h : LaidP w) :
  Calls Tryz.prog 171 #[.string s] w fun e w' => e = .returned (cleanV s.data.toList) ∧ Below w.heap.size w w' := by
 obtain ⟨V, HV⟩ : ∃ V, Hid (cleanV s.data.toList = V) := ⟨_, rfl⟩
 rw [HV.out]
 have C1 := fun w => Tryz.strings_HasPrefix s ⟨#[47]⟩ w
 have hp : Lib.hasPrefix s.data.toList (ByteArray.mk #[47]).data.toList = decide (s.data.toList.head? = some 47) := pre_head _
 simp only [hp] at C1
 clear hp
 have C2 := fun w => printable_any s (by omega) w
 by_cases hh : s.data.toList.head? = some 47
 ·
  simp only [decide_eq_true hh] at C1
  by_cases ha : s.data.toList.all okb = true
  ·
   have hc := And.intro hh ha
   simp only [ha] at C2
   have C3 := parts_any s (by omega) w h
   have hjl : (jn (resolve (parts s.data.toList))).length ≤ 4001 := by
    have h1 := jn_sub (resolve_sub (parts s.data.toList))
    have h2 := jn_parts s.data.toList
    have h3 := Lib.size_eq s
    omega
   have hpl : (parts s.data.toList).length ≤ 5000 := by
    have h2 := parts_len s.data.toList
    have h3 := Lib.size_eq s
    omega
   obtain ⟨R, hR, hRb⟩ : ∃ R : ByteArray, R = ⟨(Lib.join (resolve (parts s.data.toList)) [47]).toArray⟩ ∧ R.data.toList = Lib.join (resolve (parts s.data.toList)) [47] := ⟨_, rfl, by simp⟩
   have hF : (ByteArray.mk #[47] ++ R).data.toList = joined (resolve (parts s.data.toList)) := by rw [← joined_join, ← hRb]; simp
   have hFs : (ByteArray.mk #[47] ++ R).size = (joined (resolve (parts s.data.toList))).length := by rw [Lib.size_eq, hF]
   have hRs : R.size ≤ 4001 := by
    have e1 : (ByteArray.mk #[47] ++ R).size = 1 + R.size := by rw [ByteArray.size_append]; rfl
    have e2 := clean_len s.data.toList
    have h3 := Lib.size_eq s
    omega
   have C4 := fun v w h => joinL_any v (resolve (parts s.data.toList)) (by omega) w h
   simp only [← hR] at C4
   have C5 := fun v w h => resolved_any v (parts s.data.toList) hpl w h
   have h1s : (ByteArray.mk #[47]).size = 1 := rfl
   by_cases hN : 200 < (joined (resolve (parts s.data.toList))).length
   ·
    have HR : Hid (V = _) := Lib.hid (HV.out.symm.trans (cleanV_long hc hN))
    generalize (joined (resolve (parts s.data.toList))).length = N at *
    generalize parts s.data.toList = ps at *
    have HC4 := Lib.hid C4
    have HC5 := Lib.hid C5
    clear hc hh ha h hF hRb hR C4 C5 hjl hpl
    go_enter Tryz.func171, Tryz.ntmps171
    go_wp2_with (first | (go_at_call 114; refine (C1 _).mono ?_; rintro e w1 ⟨rfl, rfl⟩) | (go_at_call 188; refine (C2 _).mono ?_; rintro e w1 ⟨rfl, rfl⟩) | (go_at_call 190; refine C3.mono ?_; rintro e w2 ⟨v2, rfl, ho2, hb2⟩; have P5 := HC5.out v2 w2 ho2.holds; have HB2 := Lib.hid hb2; clear ho2 hb2) | (go_at_call 189; refine P5.mono ?_; rintro e w3 ⟨v3, rfl, ho3, hb3⟩; have P4 := HC4.out v3 w3 ho3.holds; have HB3 := Lib.hid hb3; clear ho3 hb3) | (go_at_call 43; refine P4.mono ?_; rintro e w4 ⟨rfl, hb4⟩; have HB4 := Lib.hid hb4; clear hb4))
    go_ret2
    have hb12 := HB2.out.trans (HB3.out.mono HB2.out.size)
    exact ⟨ret_val HR.out.symm, hb12.trans (HB4.out.mono hb12.size)⟩
   ·
    have HR : Hid (V = _) := Lib.hid (HV.out.symm.trans (cleanV_ok hc hN hF))
    generalize (joined (resolve (parts s.data.toList))).length = N at *
    generalize parts s.data.toList = ps at *
    have HC4 := Lib.hid C4
    have HC5 := Lib.hid C5
    clear hc hh ha h hF hRb hR C4 C5 hjl hpl
    go_enter Tryz.func171, Tryz.ntmps171
    go_wp2_with (first | (go_at_call 114; refine (C1 _).mono ?_; rintro e w1 ⟨rfl, rfl⟩) | (go_at_call 188; refine (C2 _).mono ?_; rintro e w1 ⟨rfl, rfl⟩) | (go_at_call 190; refine C3.mono ?_; rintro e w2 ⟨v2, rfl, ho2, hb2⟩; have P5 := HC5.out v2 w2 ho2.holds; have HB2 := Lib.hid hb2; clear ho2 hb2) | (go_at_call 189; refine P5.mono ?_; rintro e w3 ⟨v3, rfl, ho3, hb3⟩; have P4 := HC4.out v3 w3 ho3.holds; have HB3 := Lib.hid hb3; clear ho3 hb3) | (go_at_call 43; refine P4.mono ?_; rintro e w4 ⟨rfl, hb4⟩; have HB4 := Lib.hid hb4; clear hb4))
    go_ret2
    have hb12 := HB2.out.trans (HB3.out.mono HB2.out.size)
    exact ⟨ret_val HR.out.symm, hb12.trans (HB4.out.mono hb12.size)⟩
  ·
   have HR : Hid (V = _) := Lib.hid (HV.out.symm.trans (cleanV_bad (fun h => ha h.2)))
   have ha' : s.data.toList.all okb = false := by simpa using ha
   simp only [ha'] at C2
   clear ha ha' hh h
   go_enter Tryz.func171, Tryz.ntmps171
   go_wp2_with (first | (go_at_call 114; refine (C1 _).mono ?_; rintro e w1 ⟨rfl, rfl⟩) | (go_at_call 188; refine (C2 _).mono ?_; rintro e w1 ⟨rfl, rfl⟩))
   go_ret2
   exact ⟨ret_val HR.out.symm, Below.refl _ _⟩
 ·
  have HR : Hid (V = _) := Lib.hid (HV.out.symm.trans (cleanV_bad (fun h => hh h.1)))
  simp only [decide_eq_false hh] at C1
  clear hh h
  go_enter Tryz.func171, Tryz.ntmps171
  go_wp2_with (go_at_call 114; refine (C1 _).mono ?_; rintro e w1 ⟨rfl, rfl⟩)
  go_ret2
  exact ⟨ret_val HR.out.symm, Below.refl _ _⟩
theorem right_any (s : ByteArray) (hs : s.size ≤ 4000) (w : World) (h : LaidP w) :
  Calls Tryz.prog 142 #[.string s] w fun e w' => e = .returned (.bool (right s.data.toList)) ∧ Below w.heap.size w w' := by
 obtain ⟨B, HB⟩ : ∃ B, Hid (right s.data.toList = B) := ⟨_, rfl⟩
 rw [HB.out]
 have C := clean_any s hs w h
 obtain ⟨F, n, hV, hF, hn⟩ : ∃ (F : ByteArray) (n : Int), cleanV s.data.toList = .tuple #[.string F, .int .i64 n] ∧ F.data.toList = (cleanE s.data.toList).1 ∧ n = (cleanE s.data.toList).2 := ⟨⟨(cleanE s.data.toList).1.toArray⟩, _, rfl, by simp, rfl⟩
 rw [hV] at C
 have hB : (decide (n = 0) && decide (F.data.toList = s.data.toList)) = B := by
  rw [← HB.out, right, hF, hn, Bool.eq_iff_iff]
  simp only [Bool.and_eq_true, decide_eq_true_eq]
  constructor
  ·
   rintro ⟨h1, h2⟩; exact Prod.ext h2 h1
  ·
   intro h; rw [h]; exact ⟨rfl, rfl⟩
 have HE := Lib.hid hB
 clear hB hV hF h HB
 by_cases h0 : n = 0
 ·
  subst h0
  clear hn
  go_enter Tryz.func142, Tryz.ntmps142
  go_wp2_with (go_at_call 171; refine C.mono ?_; rintro e w1 ⟨rfl, hb⟩; have HB := Lib.hid hb; clear hb)
  go_ret
  exact ⟨ret_bool (by rw [← HE.out, ByteArray.toList_eq, ByteArray.toList_eq, Bool.eq_iff_iff]; simp), HB.out⟩
 ·
  have h0' : (n == 0) = false := by simpa using h0
  clear hn
  go_enter Tryz.func142, Tryz.ntmps142
  go_wp2_with (go_at_call 171; refine C.mono ?_; rintro e w1 ⟨rfl, hb⟩; have HB := Lib.hid hb; clear hb)
  go_ret
  exact ⟨ret_bool (by rw [← HE.out, decide_eq_false h0]; rfl), HB.out⟩
end
section
open Go.RowKit Go.Sort
theorem drop_cons (s : ByteArray) (k : Nat) (h : k < s.size) : s.data.toList.drop k = s[k] :: s.data.toList.drop (k + 1) := by
 have hl := Lib.size_eq s
 exact List.drop_eq_getElem_cons (by omega)
theorem ext_one (s : ByteArray) (k : Nat) (h : k < s.size) : (s.extract k (k + 1)).data.toList = [s[k]] ∧ (s.extract k (k + 1)).size = 1 := by
 have hl := Lib.size_eq s
 have e : (s.extract k (k + 1)).data.toList = [s[k]] := by
  rw [Lib.extract_data]
  have := drop_cons s k h
  simp only [this, Nat.add_sub_cancel_left, List.take_succ_cons, List.take_zero]
 exact ⟨e, by rw [Lib.size_eq, e]; rfl⟩
theorem app_bytes (U V : ByteArray) : (U ++ V).data.toList = U.data.toList ++ V.data.toList := by simp
theorem empty_yes {U : ByteArray} (h : U.data.toList = []) : U.toList.isEmpty = true := by rw [ByteArray.toList_eq, h]; rfl
theorem empty_no {U : ByteArray} (h : U.data.toList ≠ []) : U.toList.isEmpty = false := by rw [ByteArray.toList_eq]; simpa using h
theorem parts_ref (s : ByteArray) (hs : s.size ≤ 4000) (w : World) :
  Calls Tryz.prog 143 #[.string s] w fun e w' => ∃ v, e = .returned v ∧ OwnS w' w.heap.size v (parts s.data.toList) ∧ Below w.heap.size w w' := by
 obtain ⟨i0, hi, hz0, hz1, hz2⟩ := info_parts infoS
 obtain ⟨PS, HPS⟩ : ∃ PS, Hid (parts s.data.toList = PS) := ⟨_, rfl⟩
 rw [HPS.out]
 go_enter Tryz.func143, Tryz.ntmps143
 go_wp2
 go_loopw [3, 4, 5] (fun o u i wr => ∃ (k : Nat) (done : List Bs) (U : ByteArray), k ≤ s.size ∧ i = .int .i64 k ∧ u = .string U ∧ U.size ≤ k ∧ done.length ≤ k ∧ Hid (OwnS wr w.heap.size o done ∧ Below w.heap.size w wr ∧ done ++ parts0 U.data.toList (s.data.toList.drop k) = PS)) (fun _ _ i _ => s.size - (intOf i).toNat)
 case atStart => exact ⟨0, [], ⟨#[]⟩, Nat.zero_le _, rfl, rfl, Nat.le_refl _, Nat.le_refl _, Lib.hid ⟨OwnS.nil _ _, Below.refl _ _, by rw [← HPS.out]; rfl⟩⟩
 case round =>
  obtain ⟨k, done, U, hk, rfl, rfl, hU, hd, H⟩ := hrel
  have hsz := H.out.2.1.size
  by_cases hlt : k < s.size
  ·
   have hc := s[k].toNat_lt
   have hdr := drop_cons s k hlt
   by_cases h47 : s[k] = 47
   ·
    have hb := is47 h47
    by_cases hu : U.data.toList = []
    ·
     have hue := empty_yes hu
     have HE : Hid (done ++ parts0 [] (s.data.toList.drop (k + 1)) = PS) := Lib.hid (by rw [← H.out.2.2, hdr, parts0, if_pos h47, if_pos hu])
     clear hdr h47 hu
     go_wp2
     go_roundw
     case rel => exact ⟨k + 1, done, ⟨#[]⟩, by omega, by go_num, rfl, Nat.zero_le _, by omega, Lib.hid ⟨H.out.1, H.out.2.1, HE.out⟩⟩
     case measure => simp [intOf]; omega
    ·
     have hue := empty_no hu
     have HE : Hid ((done ++ [U.data.toList]) ++ parts0 [] (s.data.toList.drop (k + 1)) = PS) := Lib.hid (by rw [← H.out.2.2, hdr, parts0, if_pos h47, if_neg hu]; simp)
     clear hdr h47 hu
     go_wp2_with (at_builtin; refine wpList_append_own _ rfl _ _ 40 rfl w.heap.size 9 i0 (.string ⟨#[]⟩) 1 16 Tryz.underlying40 hi hz0 hz1 hz2 rfl (by decide) _ _ _ rfl (World.ownsRow.alloc H.out.1 _) ⟨wr.heap.size, 0, none⟩ 1 1 [.string U] rfl rfl ?c1 ?c2 ?c3 ?c4 ?c5 ?_)
     case c1 =>
      intro j u hj
      match j, hj with
      | 0, hj => simp at hj; subst hj; simp [Addr.add]
     case c2 => intro u hu; simp at hu; subst hu; rfl
     case c3 => unfold maxLen; omega
     case c4 => omega
     case c5 => simp; omega
     ·
      intro v' w2 hown' hgrow _
      have HO' : Hid (OwnS w2 w.heap.size v' (done ++ [U.data.toList])) := Lib.hid (OwnS.app rfl hown')
      have HB' : Hid (Below w.heap.size w w2) := Lib.hid (below_grown H.out.2.1 H.out.1 hgrow (Nat.le_refl _) hsz)
      clear hown' hgrow
      go_wp2
      go_roundw
      case rel => exact ⟨k + 1, done ++ [U.data.toList], ⟨#[]⟩, by omega, by go_num, rfl, Nat.zero_le _, by simp; omega, Lib.hid ⟨HO'.out, HB'.out, HE.out⟩⟩
      case measure => simp [intOf]; omega
   ·
    have hb := not47 h47
    obtain ⟨he1, he2⟩ := ext_one s k hlt
    have HE : Hid (done ++ parts0 (U ++ s.extract k (k + 1)).data.toList (s.data.toList.drop (k + 1)) = PS) := Lib.hid (by rw [← H.out.2.2, hdr, parts0, if_neg h47, app_bytes, he1])
    have hsz2 : (U ++ s.extract k (k + 1)).size = U.size + 1 := by rw [ByteArray.size_append, he2]
    clear hdr h47 he1
    go_wp2
    go_roundw
    case rel => exact ⟨k + 1, done, U ++ s.extract k (k + 1), by omega, by go_num, rfl, by omega, by omega, Lib.hid ⟨H.out.1, H.out.2.1, HE.out⟩⟩
    case measure => simp [intOf]; omega
  ·
   obtain rfl : k = s.size := by omega
   have hdr : s.data.toList.drop s.size = [] := List.drop_eq_nil_of_le (by rw [← Lib.size_eq]; exact Nat.le_refl _)
   by_cases hu : U.data.toList = []
   ·
    have hue := empty_yes hu
    have HE : Hid (done = PS) := Lib.hid (by rw [← H.out.2.2, hdr, parts0, if_pos hu]; simp)
    clear hdr hu hlt
    go_wp2
    go_ret
    exact ⟨_, rfl, by rw [← HE.out]; exact H.out.1, H.out.2.1⟩
   ·
    have hue := empty_no hu
    have HE : Hid (done ++ [U.data.toList] = PS) := Lib.hid (by rw [← H.out.2.2, hdr, parts0, if_neg hu])
    clear hdr hu hlt
    go_wp2_with (at_builtin; refine wpList_append_own _ rfl _ _ 40 rfl w.heap.size 9 i0 (.string ⟨#[]⟩) 1 16 Tryz.underlying40 hi hz0 hz1 hz2 rfl (by decide) _ _ _ rfl (World.ownsRow.alloc H.out.1 _) ⟨wr.heap.size, 0, none⟩ 1 1 [.string U] rfl rfl ?d1 ?d2 ?d3 ?d4 ?d5 ?_)
    case d1 =>
     intro j u hj
     match j, hj with
     | 0, hj => simp at hj; subst hj; simp [Addr.add]
    case d2 => intro u hu; simp at hu; subst hu; rfl
    case d3 => unfold maxLen; omega
    case d4 => omega
    case d5 => simp; omega
    ·
     intro v' w2 hown' hgrow _
     have HO' : Hid (OwnS w2 w.heap.size v' (done ++ [U.data.toList])) := Lib.hid (OwnS.app rfl hown')
     have HB' : Hid (Below w.heap.size w w2) := Lib.hid (below_grown H.out.2.1 H.out.1 hgrow (Nat.le_refl _) hsz)
     clear hown' hgrow
     go_wp2
     go_ret
     exact ⟨_, rfl, by rw [← HE.out]; exact HO'.out, HB'.out⟩
end
end Go.Proofs.YtkbkaeefdhkgdaaGreatDoor
