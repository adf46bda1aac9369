/-
  path.Parts and path.resolved: a text's parts, and what is left of a list of parts; nothing old turns. Condition of Parts: the library's MaxLen holds some int.
-/
import Derived.Test.YtkcamfcjkjiijaaGreatDoorGPList
namespace Go.Proofs.YtkcamfcjkjiijaaGreatDoor
open Go.RowKit Go.Sort
theorem take_filter (ls : List Bs) (p : Bs → Bool) (k : Nat) (h : k < ls.length) : (ls.take (k + 1)).filter p = (ls.take k).filter p ++ (if p ls[k] then [ls[k]] else []) := by
  rw [List.take_add_one, List.getElem?_eq_getElem h, List.filter_append]
  congr 1
  by_cases hp : p ls[k] <;> simp [hp]
theorem filter_len (ls : List Bs) (p : Bs → Bool) (k : Nat) : ((ls.take k).filter p).length ≤ k := Nat.le_trans (List.length_filter_le _ _) (List.length_take_le _ _)
set_option maxHeartbeats 1600000 in
theorem sel_empty (v : Value) (ls : List Bs) (hn : ls.length ≤ 5000) (w : World) (h : Holds' w v ls) :
    Calls Tryz.prog 146 #[v, .func (.func 149) #[] #[]] w fun e w' => ∃ v', e = .returned v' ∧ OwnS w' w.heap.size v' (ls.filter (fun l => decide (l ≠ []))) ∧ Below w.heap.size w w' := by
  obtain ⟨i0, hi, hz0, hz1, hz2⟩ := info_parts infoS
  obtain ⟨a, c, b, o, rfl, hc, ha, hcell⟩ := h
  generalize hN : ls.length = n at *
  generalize hP : (fun l : Bs => decide (l ≠ [])) = P at *
  have C := fun x w => nonempty_any x w
  go_enter Tryz.func146, Tryz.ntmps146
  go_wp2
  go_loopw [5, 10] (fun u i wr => ∃ k : Nat, k ≤ n ∧ i = .int .i64 k ∧ OwnS wr w.heap.size u ((ls.take k).filter P) ∧ Below w.heap.size w wr) (fun _ i _ => n - (intOf i).toNat)
  case atStart => exact ⟨0, Nat.zero_le _, rfl, by simpa using OwnS.nil _ _, Below.refl _ _⟩
  case round =>
    obtain ⟨k, hk, rfl, hown, hnx⟩ := hrel
    by_cases hlt : k < n
    · obtain ⟨rfl, hbw⟩ := ha (by omega)
      obtain ⟨x, hx, hcx⟩ : ∃ x : ByteArray, x.data.toList = ls[k] ∧ wr.cell? ⟨b, o + k, none⟩ = some (.string x) := ⟨⟨(ls[k]).toArray⟩, by simp, (hnx.cell (p := ⟨b, o + k, none⟩) hbw).trans (hcell k _ (List.getElem?_eq_getElem (by omega)))⟩
      have hlen := filter_len ls P k
      have hnxt := take_filter ls P k (by omega)
      have hpk : P ls[k] = decide (x.data.toList ≠ []) := by rw [← hP, hx]
      have HS := Lib.hid (And.intro hnxt (And.intro hpk hx))
      have HO := Lib.hid hown
      have HX := Lib.hid hnx
      have hsz := hnx.size
      have Cx := C x
      clear hnxt hpk hx hown hnx hcell ha C
      by_cases hp : x.data.toList ≠ []
      · simp only [decide_eq_true hp] at Cx
        have e := HS.out.1
        rw [HS.out.2.1, decide_eq_true hp, if_pos rfl] at e
        have HE := Lib.hid e
        clear e hp
        go_wp2_with (first
          | (go_at_call 149; refine (Cx _).mono ?_; rintro e w1 ⟨rfl, rfl⟩)
          | (at_builtin; refine wpList_append_own _ rfl _ _ 33 rfl w.heap.size 9 i0 (.string ⟨#[]⟩) 1 16 Tryz.underlying33 hi hz0 hz1 hz2 rfl (by decide) _ _ _ rfl (World.ownsRow.alloc HO.out _) ⟨wr.heap.size, 0, none⟩ 1 1 [.string x] rfl rfl ?c1 ?c2 ?c3 ?c4 ?c5 ?_))
        case c1 =>
          intro j u hj
          match j, hj with
          | 0, hj => simp at hj; subst hj; simp [Addr.add]
        case c2 => intro u hu; simp at hu; subst hu; rfl
        case c3 => unfold maxLen; omega
        case c4 => omega
        case c5 => simp; omega
        · intro v' w1 hown' hgrow _
          have HO' : Hid (OwnS w1 w.heap.size v' ((ls.take (k + 1)).filter P)) := Lib.hid (by rw [HE.out]; exact OwnS.app HS.out.2.2 hown')
          have HB' : Hid (Below w.heap.size w w1) := Lib.hid (below_grown HX.out HO.out hgrow (Nat.le_refl _) hsz)
          clear hown' hgrow
          go_wp2
          go_roundw
          case rel => exact ⟨k + 1, by omega, by go_num, HO'.out, HB'.out⟩
          case measure => simp [intOf]; omega
      · simp only [decide_eq_false hp] at Cx
        have e := HS.out.1
        rw [HS.out.2.1, decide_eq_false hp, if_neg (by simp), List.append_nil] at e
        have HE := Lib.hid e
        clear e hp
        go_wp2_with (go_at_call 149; refine (Cx _).mono ?_; rintro e w1 ⟨rfl, rfl⟩)
        go_roundw
        case rel => exact ⟨k + 1, by omega, by go_num, by rw [HE.out]; exact HO.out, HX.out⟩
        case measure => simp [intOf]; omega
    · obtain rfl : k = n := by omega
      rw [List.take_of_length_le (by omega)] at hown
      have HO := Lib.hid hown
      have HX := Lib.hid hnx
      clear hown hnx hlt ha hcell C
      go_wp2
      go_ret
      exact ⟨_, rfl, HO.out, HX.out⟩
set_option maxHeartbeats 1600000 in
theorem sel_dot (v : Value) (ls : List Bs) (hn : ls.length ≤ 5000) (w : World) (h : Holds' w v ls) :
    Calls Tryz.prog 146 #[v, .func (.func 147) #[] #[]] w fun e w' => ∃ v', e = .returned v' ∧ OwnS w' w.heap.size v' (ls.filter (fun l => decide (l ≠ [46]))) ∧ Below w.heap.size w w' := by
  obtain ⟨i0, hi, hz0, hz1, hz2⟩ := info_parts infoS
  obtain ⟨a, c, b, o, rfl, hc, ha, hcell⟩ := h
  generalize hN : ls.length = n at *
  generalize hP : (fun l : Bs => decide (l ≠ [46])) = P at *
  have C := fun x w => nodot_any x w
  go_enter Tryz.func146, Tryz.ntmps146
  go_wp2
  go_loopw [5, 10] (fun u i wr => ∃ k : Nat, k ≤ n ∧ i = .int .i64 k ∧ OwnS wr w.heap.size u ((ls.take k).filter P) ∧ Below w.heap.size w wr) (fun _ i _ => n - (intOf i).toNat)
  case atStart => exact ⟨0, Nat.zero_le _, rfl, by simpa using OwnS.nil _ _, Below.refl _ _⟩
  case round =>
    obtain ⟨k, hk, rfl, hown, hnx⟩ := hrel
    by_cases hlt : k < n
    · obtain ⟨rfl, hbw⟩ := ha (by omega)
      obtain ⟨x, hx, hcx⟩ : ∃ x : ByteArray, x.data.toList = ls[k] ∧ wr.cell? ⟨b, o + k, none⟩ = some (.string x) := ⟨⟨(ls[k]).toArray⟩, by simp, (hnx.cell (p := ⟨b, o + k, none⟩) hbw).trans (hcell k _ (List.getElem?_eq_getElem (by omega)))⟩
      have hlen := filter_len ls P k
      have hnxt := take_filter ls P k (by omega)
      have hpk : P ls[k] = decide (x.data.toList ≠ [46]) := by rw [← hP, hx]
      have HS := Lib.hid (And.intro hnxt (And.intro hpk hx))
      have HO := Lib.hid hown
      have HX := Lib.hid hnx
      have hsz := hnx.size
      have Cx := C x
      clear hnxt hpk hx hown hnx hcell ha C
      by_cases hp : x.data.toList ≠ [46]
      · simp only [decide_eq_true hp] at Cx
        have e := HS.out.1
        rw [HS.out.2.1, decide_eq_true hp, if_pos rfl] at e
        have HE := Lib.hid e
        clear e hp
        go_wp2_with (first
          | (go_at_call 147; refine (Cx _).mono ?_; rintro e w1 ⟨rfl, rfl⟩)
          | (at_builtin; refine wpList_append_own _ rfl _ _ 33 rfl w.heap.size 9 i0 (.string ⟨#[]⟩) 1 16 Tryz.underlying33 hi hz0 hz1 hz2 rfl (by decide) _ _ _ rfl (World.ownsRow.alloc HO.out _) ⟨wr.heap.size, 0, none⟩ 1 1 [.string x] rfl rfl ?c1 ?c2 ?c3 ?c4 ?c5 ?_))
        case c1 =>
          intro j u hj
          match j, hj with
          | 0, hj => simp at hj; subst hj; simp [Addr.add]
        case c2 => intro u hu; simp at hu; subst hu; rfl
        case c3 => unfold maxLen; omega
        case c4 => omega
        case c5 => simp; omega
        · intro v' w1 hown' hgrow _
          have HO' : Hid (OwnS w1 w.heap.size v' ((ls.take (k + 1)).filter P)) := Lib.hid (by rw [HE.out]; exact OwnS.app HS.out.2.2 hown')
          have HB' : Hid (Below w.heap.size w w1) := Lib.hid (below_grown HX.out HO.out hgrow (Nat.le_refl _) hsz)
          clear hown' hgrow
          go_wp2
          go_roundw
          case rel => exact ⟨k + 1, by omega, by go_num, HO'.out, HB'.out⟩
          case measure => simp [intOf]; omega
      · simp only [decide_eq_false hp] at Cx
        have e := HS.out.1
        rw [HS.out.2.1, decide_eq_false hp, if_neg (by simp), List.append_nil] at e
        have HE := Lib.hid e
        clear e hp
        go_wp2_with (go_at_call 147; refine (Cx _).mono ?_; rintro e w1 ⟨rfl, rfl⟩)
        go_roundw
        case rel => exact ⟨k + 1, by omega, by go_num, by rw [HE.out]; exact HO.out, HX.out⟩
        case measure => simp [intOf]; omega
    · obtain rfl : k = n := by omega
      rw [List.take_of_length_le (by omega)] at hown
      have HO := Lib.hid hown
      have HX := Lib.hid hnx
      clear hown hnx hlt ha hcell C
      go_wp2
      go_ret
      exact ⟨_, rfl, HO.out, HX.out⟩
end Go.Proofs.YtkcamfcjkjiijaaGreatDoor
namespace Go.Proofs.YtkcamfcjkjiijaaGreatDoor
open Go.RowKit Go.Sort
/-- The library's MaxLen holds some int. -/
structure LaidP (w : World) : Prop where
  mx : ∃ m, w.cell? ⟨0, 0, none⟩ = some (.int .i64 m)
  lt : 0 < w.heap.size
theorem LaidP.on {w w' : World} (h : LaidP w) (hb : Below w.heap.size w w') : LaidP w' :=
  ⟨h.mx.imp fun _ hm => (hb.cell (p := ⟨0, 0, none⟩) h.lt).trans hm, Nat.lt_of_lt_of_le h.lt hb.size⟩
theorem parts_of (s : ByteArray) : ((Lib.splitB ⟨#[47]⟩ 0 (Lib.countB s ⟨#[47]⟩) s).map (·.data.toList)).filter (fun l => decide (l ≠ [])) = parts s.data.toList := by
  rw [Lib.splitB_data]
  exact parts_split _
theorem parts_any (s : ByteArray) (hs : s.size ≤ 4000) (w : World) (h : LaidP w) :
    Calls Tryz.prog 126 #[.string s] w fun e w' => ∃ v, e = .returned v ∧ OwnS w' w.heap.size v (parts s.data.toList) ∧ Below w.heap.size w w' := by
  obtain ⟨m, hm⟩ := h.mx
  have C1 := Tryz.strings_Split s ⟨#[47]⟩ m w (by omega) hm (by decide)
  have hl := Lib.splitB_all ⟨#[47]⟩ (by decide) 0 _ s rfl
  have hcl := Lib.countB_le ⟨#[47]⟩ (by decide) s.size s (Nat.le_refl _)
  have hmade := OwnS.made w (Lib.splitB ⟨#[47]⟩ 0 (Lib.countB s ⟨#[47]⟩) s) (by rw [hl]; unfold maxLen; omega)
  have C2 := sel_empty _ _ (by rw [List.length_map, hl]; omega) _ hmade.holds
  rw [parts_of, hl] at C2
  have hb1 : Below w.heap.size w (w.alloc (.cells ((Lib.splitB ⟨#[47]⟩ 0 (Lib.countB s ⟨#[47]⟩) s).map Value.string).toArray 9)) := (Below.refl _ _).alloc (Nat.le_refl _) _
  generalize parts s.data.toList = ps at *
  generalize Lib.countB s ⟨#[47]⟩ + 1 = n at *
  clear hl hcl hmade hm
  generalize w.alloc (.cells ((Lib.splitB ⟨#[47]⟩ 0 (Lib.countB s ⟨#[47]⟩) s).map Value.string).toArray 9) = w1 at *
  have HB := Lib.hid hb1
  clear hb1
  go_enter Tryz.func126, Tryz.ntmps126
  go_wp2_with (first | (go_at_call 148; refine C1.mono ?_; rintro e w2 ⟨rfl, rfl⟩) | (go_at_call 146; refine C2.mono ?_; rintro e w3 ⟨v, rfl, ho, hb⟩; have HO := Lib.hid ho; have HB2 := Lib.hid hb; clear ho hb))
  go_ret
  exact ⟨_, rfl, HO.out.mono HB.out.size, HB.out.trans (HB2.out.mono HB.out.size)⟩
theorem foldl_take (ls : List Bs) (k : Nat) (h : k < ls.length) : (ls.take (k + 1)).foldl rstep [] = rstep ((ls.take k).foldl rstep []) ls[k] := by
  rw [List.take_add_one, List.getElem?_eq_getElem h, List.foldl_append]; rfl
theorem foldl_len (ls : List Bs) (k : Nat) : ((ls.take k).foldl rstep []).length ≤ k := by
  have h1 := (foldl_sub (ls.take k) [] [] (List.Sublist.refl _)).length_le
  rw [List.nil_append, List.length_take] at h1
  omega
set_option maxHeartbeats 1600000 in
theorem resolved_any (v : Value) (ls : List Bs) (hn : ls.length ≤ 5000) (w : World) (h : Holds' w v ls) :
    Calls Tryz.prog 125 #[v] w fun e w' => ∃ v', e = .returned v' ∧ OwnS w' w.heap.size v' (resolve ls) ∧ Below w.heap.size w w' := by
  obtain ⟨i0, hi, hz0, hz1, hz2⟩ := info_parts infoS
  have C1 := sel_dot v ls hn w h
  have hres : (ls.filter (fun l => decide (l ≠ [46]))).foldl rstep [] = resolve ls := foldl_filter ls []
  have hlen : (ls.filter (fun l => decide (l ≠ [46]))).length ≤ 5000 := Nat.le_trans (List.length_filter_le _ _) hn
  have hnd : ∀ l ∈ ls.filter (fun l => decide (l ≠ [46])), l ≠ [46] := fun l hl => by simpa using (List.mem_filter.1 hl).2
  generalize ls.filter (fun l => decide (l ≠ [46])) = fs at *
  generalize resolve ls = rs at *
  clear h hn
  go_enter Tryz.func125, Tryz.ntmps125
  go_wp2_with (go_at_call 146; refine C1.mono ?_; rintro e w1 ⟨v1, rfl, ho, hb⟩; obtain ⟨a, c, b, o, rfl, hc, ha, hcell⟩ := ho.holds; have HB1 := Lib.hid hb; clear ho hb; refine Hid.out ?_)
  have hsz1 := HB1.out.size
  generalize hN : fs.length = n at *
  refine Lib.hid ?_
  go_wp2
  go_loopw [3, 9] (fun u i wr => ∃ k : Nat, k ≤ n ∧ i = .int .i64 k ∧ OwnS wr w1.heap.size u ((fs.take k).foldl rstep []) ∧ Below w1.heap.size w1 wr) (fun _ i _ => n - (intOf i).toNat)
  case atStart => exact ⟨0, Nat.zero_le _, rfl, OwnS.nil _ _, Below.refl _ _⟩
  case round =>
    obtain ⟨k, hk, rfl, hown, hnx⟩ := hrel
    by_cases hlt : k < n
    · obtain ⟨rfl, hbw⟩ := ha (by omega)
      obtain ⟨x, hx, hcx⟩ : ∃ x : ByteArray, x.data.toList = fs[k] ∧ wr.cell? ⟨b, o + k, none⟩ = some (.string x) := ⟨⟨(fs[k]).toArray⟩, by simp, (hnx.cell (p := ⟨b, o + k, none⟩) hbw).trans (hcell k _ (List.getElem?_eq_getElem (by omega)))⟩
      have hle := foldl_len fs k
      have hnxt := foldl_take fs k (by omega)
      have hdot := hnd fs[k] (List.getElem_mem _)
      have hsz := hnx.size
      by_cases hp : x.data.toList = [46, 46]
      · have e : (fs.take (k + 1)).foldl rstep [] = ((fs.take k).foldl rstep []).dropLast := by rw [hnxt, rstep, if_pos (by rw [← hx]; exact hp)]
        have ht : (x.toList == [46, 46]) = true := by rw [ByteArray.toList_eq, hp]; rfl
        have HE := Lib.hid e
        clear e hp hx hdot hnxt hcell hnd ha
        generalize (fs.take k).foldl rstep [] = out at *
        rcases Nat.eq_zero_or_pos out.length with h0 | h0
        · have e0 : out = [] := List.eq_nil_of_length_eq_zero h0
          subst e0
          obtain ⟨a', c', b', o', rfl, hc', ha', hcell'⟩ := hown.holds
          have HO := Lib.hid hown
          have HX := Lib.hid hnx
          clear hown hnx ha' hcell'
          go_wp2
          go_roundw
          case rel => exact ⟨k + 1, by omega, by go_num, by rw [HE.out]; exact HO.out, HX.out⟩
          case measure => simp [intOf]; omega
        · obtain ⟨a', c', b', o', rfl, hc', ha', hcell'⟩ := hown.holds
          obtain ⟨rfl, hb'⟩ := ha' h0
          have HO := Lib.hid (hown.cut h0)
          have HX := Lib.hid hnx
          clear hown hnx ha' hcell'
          generalize hL : out.length = L at *
          go_wp2
          go_roundw
          case rel => exact ⟨k + 1, by omega, by go_num, by rw [HE.out]; exact HO.out, HX.out⟩
          case measure => simp [intOf]; omega
      · have e : (fs.take (k + 1)).foldl rstep [] = (fs.take k).foldl rstep [] ++ [fs[k]] := by rw [hnxt, rstep, if_neg (by rw [← hx]; exact hp), if_neg hdot]
        have ht : (x.toList == [46, 46]) = false := by rw [ByteArray.toList_eq]; simpa using hp
        have HE := Lib.hid (And.intro e hx)
        have HO := Lib.hid hown
        have HX := Lib.hid hnx
        clear e hp hx hdot hnxt hcell hnd ha hown hnx
        generalize (fs.take k).foldl rstep [] = out at *
        go_wp2_with (at_builtin; refine wpList_append_own _ rfl _ _ 33 rfl w1.heap.size 9 i0 (.string ⟨#[]⟩) 1 16 Tryz.underlying33 hi hz0 hz1 hz2 rfl (by decide) _ _ _ rfl (World.ownsRow.alloc HO.out _) ⟨wr.heap.size, 0, none⟩ 1 1 [.string x] rfl rfl ?c1 ?c2 ?c3 ?c4 ?c5 ?_)
        case c1 =>
          intro j u hj
          match j, hj with
          | 0, hj => simp at hj; subst hj; simp [Addr.add]
        case c2 => intro u hu; simp at hu; subst hu; rfl
        case c3 => unfold maxLen; omega
        case c4 => omega
        case c5 => simp; omega
        · intro v' w2 hown' hgrow _
          have HO' : Hid (OwnS w2 w1.heap.size v' ((fs.take (k + 1)).foldl rstep [])) := Lib.hid (by rw [HE.out.1]; exact OwnS.app HE.out.2 hown')
          have HB' : Hid (Below w1.heap.size w1 w2) := Lib.hid (below_grown HX.out HO.out hgrow (Nat.le_refl _) hsz)
          clear hown' hgrow
          go_wp2
          go_roundw
          case rel => exact ⟨k + 1, by omega, by go_num, HO'.out, HB'.out⟩
          case measure => simp [intOf]; omega
    · obtain rfl : k = n := by omega
      rw [List.take_of_length_le (by omega), hres] at hown
      have HO := Lib.hid hown
      have HX := Lib.hid hnx
      clear hown hnx hlt ha hcell hres
      go_wp2
      go_ret
      exact ⟨_, rfl, HO.out.mono hsz1, HB1.out.trans (HX.out.mono hsz1)⟩
end Go.Proofs.YtkcamfcjkjiijaaGreatDoor
