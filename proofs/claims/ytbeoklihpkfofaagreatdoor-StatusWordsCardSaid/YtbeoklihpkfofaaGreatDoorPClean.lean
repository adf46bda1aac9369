/-
  Lists of texts in memory: what a slice of texts that was made by the call, or that came in, holds; how it is carried. path's selected: what is kept of a list of texts, in a slice of the call's own; nothing old turns. path.Parts and path.resolved: a text's parts, and what is left of a list of parts; nothing old turns. Condition of Parts: the library's MaxLen holds some int. path.Clean and Right: a text of at most 2000 bytes in its one form, or its error; nothing old turns. Condition: LaidP.
-/
import Derived.Test.YtbeoklihpkfofaaGreatDoorPNameRef
import Derived.OwnWalk
namespace Go.Proofs.YtbeoklihpkfofaaGreatDoor
open Go.RowKit Go.Sort
theorem infoS : (Tryz.prog.info? 9).map (fun i => (i.zero, i.size, i.bytes)) = some (some (.string ⟨#[]⟩), 1, 16) := by kernel_rfl
/-- The slice value v holds the texts ls, wherever it lies. -/
def Holds' (w : World) (v : Value) (ls : List Bs) : Prop :=
  ∃ (a : Option Addr) (c b o : Nat), v = .slice a ls.length c ∧ ls.length ≤ c ∧ (0 < ls.length → a = some ⟨b, o, none⟩ ∧ b < w.heap.size) ∧ ∀ (j : Nat) l, ls[j]? = some l → w.cell? ⟨b, o + j, none⟩ = some (.string ⟨l.toArray⟩)
theorem Holds'.on {w w' : World} {v : Value} {ls : List Bs} (h : Holds' w v ls) (hb : Below w.heap.size w w') : Holds' w' v ls := by
  obtain ⟨a, c, b, o, rfl, hc, ha, hcell⟩ := h
  refine ⟨a, c, b, o, rfl, hc, fun h0 => ⟨(ha h0).1, Nat.lt_of_lt_of_le (ha h0).2 hb.size⟩, fun j l hj => ?_⟩
  have h0 : 0 < ls.length := by
    have := (List.getElem?_eq_some_iff.1 hj).1; omega
  rw [hb.cell (ha h0).2]
  exact hcell j l hj
abbrev strs (ls : List Bs) : List Value := ls.map fun l => Value.string ⟨l.toArray⟩
/-- The slice value v owns the texts ls (in blocks from base on). -/
def OwnS (w : World) (base : Nat) (v : Value) (ls : List Bs) : Prop := w.ownsRow base 9 1 v ls.length (strs ls)
theorem OwnS.nil (w : World) (base : Nat) : OwnS w base (.slice none 0 0) [] := World.ownsRow_nil _ _ _ _
theorem OwnS.holds {w : World} {base : Nat} {v : Value} {ls : List Bs} (h : OwnS w base v ls) : Holds' w v ls := by
  rcases h.2 with ⟨rfl, h0⟩ | ⟨g, cap, cur, rfl, hb, hg, hn, hm, hs, ht⟩
  · have : ls = [] := List.eq_nil_of_length_eq_zero h0
    subst this
    exact ⟨none, 0, 0, 0, rfl, Nat.le_refl _, fun h => absurd h (by simp), fun j l hj => by simp at hj⟩
  · refine ⟨some ⟨g, 0, none⟩, cap, g, 0, rfl, hn, fun _ => ⟨rfl, (Array.getElem?_eq_some_iff.1 hg).1⟩, fun j l hj => ?_⟩
    have hj' := (List.getElem?_eq_some_iff.1 hj).1
    have e1 : (cur.toList.take (ls.length * 1))[j]? = (strs ls)[j]? := by rw [ht]
    rw [List.getElem?_take, if_pos (by omega), Array.getElem?_toList, List.getElem?_map, hj] at e1
    rw [Nat.zero_add, cell_of_row w g j cur 9 (0, 0) hg, e1]
    rfl
theorem OwnS.mono {w : World} {base base' : Nat} {v : Value} {ls : List Bs} (h : OwnS w base v ls) (hb : base' ≤ base) : OwnS w base' v ls := by
  refine ⟨h.1, ?_⟩
  rcases h.2 with hn | ⟨g, cap, cur, hv, hb', rest⟩
  · exact .inl hn
  · exact .inr ⟨g, cap, cur, hv, by omega, rest⟩
/-- Cut at its end. -/
theorem OwnS.cut {w : World} {base : Nat} {a : Option Addr} {c n : Nat} {ls : List Bs} (h : OwnS w base (.slice a n c) ls) (hl : 0 < ls.length) : OwnS w base (.slice a (n - 1) c) ls.dropLast := by
  rcases h.2 with ⟨_, h0⟩ | ⟨g, cap, cur, hv, hb, hg, hn, hm, hs, ht⟩
  · omega
  · simp only [Value.slice.injEq] at hv
    obtain ⟨rfl, rfl, rfl⟩ := hv
    refine ⟨by simp [strs], .inr ⟨g, c, cur, by rw [List.length_dropLast], hb, hg, by rw [List.length_dropLast]; omega, hm, hs, ?_⟩⟩
    rw [List.length_dropLast]
    have : cur.toList.take ((ls.length - 1) * 1) = (cur.toList.take (ls.length * 1)).take (ls.length - 1) := by rw [List.take_take]; congr 1; omega
    rw [this, ht, strs, strs, List.dropLast_eq_take, List.map_take]
/-- A slice that the library laid in a new block. -/
theorem OwnS.made (w : World) (xs : List ByteArray) (hn : xs.length ≤ maxLen) : OwnS (w.alloc (.cells (xs.map Value.string).toArray 9)) w.heap.size (.slice (some ⟨w.heap.size, 0, none⟩) xs.length xs.length) (xs.map (·.data.toList)) := by
  refine ⟨by simp [strs], .inr ⟨w.heap.size, xs.length, (xs.map Value.string).toArray, by simp, Nat.le_refl _, heap_alloc_new w _, by simp, hn, by simp, ?_⟩⟩
  rw [List.length_map, Nat.mul_one, List.take_of_length_le (by simp)]
  simp [strs]
theorem OwnS.app {w' : World} {base : Nat} {v' : Value} {ls : List Bs} {x : ByteArray} {l : Bs} (hx : x.data.toList = l) (h : w'.ownsRow base 9 1 v' (ls.length + 1) (strs ls ++ [.string x])) : OwnS w' base v' (ls ++ [l]) := by
  have e : strs (ls ++ [l]) = strs ls ++ [.string x] := by simp [strs, str_of hx]
  unfold OwnS
  rw [e, List.length_append]
  exact h
/-- Of a slice whose block the row turned: everything below base stays. -/
theorem below_grown {B : Nat} {w0 w w' : World} {o : Obj} {base : Nat} {v : Value} {ls : List Bs} (h : Below B w0 w) (hown : OwnS w base v ls) (hg : (w.alloc o).grownBy w' v.ownBlock) (hB : B ≤ base) (hBw : B ≤ w.heap.size) : Below B w0 w' :=
  (h.alloc hBw o).grown hg (by simp; omega) (fun k hk => by have := (hown.lt k hk).1; omega)
end Go.Proofs.YtbeoklihpkfofaaGreatDoor
namespace Go.Proofs.YtbeoklihpkfofaaGreatDoor
open Go.RowKit Go.Sort
theorem take_filter (ls : List Bs) (p : Bs → Bool) (k : Nat) (h : k < ls.length) : (ls.take (k + 1)).filter p = (ls.take k).filter p ++ (if p ls[k] then [ls[k]] else []) := by
  rw [List.take_add_one, List.getElem?_eq_getElem h, List.filter_append]
  congr 1
  by_cases hp : p ls[k] <;> simp [hp]
theorem filter_len (ls : List Bs) (p : Bs → Bool) (k : Nat) : ((ls.take k).filter p).length ≤ k := Nat.le_trans (List.length_filter_le _ _) (List.length_take_le _ _)
set_option maxHeartbeats 1600000 in
theorem sel_empty (v : Value) (ls : List Bs) (hn : ls.length ≤ 5000) (w : World) (h : Holds' w v ls) :
    Calls Tryz.prog 161 #[v, .func (.func 163) #[] #[]] w fun e w' => ∃ v', e = .returned v' ∧ OwnS w' w.heap.size v' (ls.filter (fun l => decide (l ≠ []))) ∧ Below w.heap.size w w' := by
  obtain ⟨i0, hi, hz0, hz1, hz2⟩ := info_parts infoS
  obtain ⟨a, c, b, o, rfl, hc, ha, hcell⟩ := h
  generalize hN : ls.length = n at *
  generalize hP : (fun l : Bs => decide (l ≠ [])) = P at *
  have C := fun x w => nonempty_any x w
  go_enter Tryz.func161, Tryz.ntmps161
  go_wp2
  go_loopw [5, 10] (fun u i wr => ∃ k : Nat, k ≤ n ∧ i = .int .i64 k ∧ OwnS wr w.heap.size u ((ls.take k).filter P) ∧ Below w.heap.size w wr) (fun _ i _ => n - (intOf i).toNat)
  case atStart => exact ⟨0, Nat.zero_le _, rfl, by simpa using OwnS.nil _ _, Below.refl _ _⟩
  case round =>
    obtain ⟨k, hk, rfl, hown, hnx⟩ := hrel
    by_cases hlt : k < n
    · obtain ⟨rfl, hbw⟩ := ha (by omega)
      obtain ⟨x, hx, hcx⟩ : ∃ x : ByteArray, x.data.toList = ls[k] ∧ wr.cell? ⟨b, o + k, none⟩ = some (.string x) := ⟨⟨(ls[k]).toArray⟩, by simp, (hnx.cell (p := ⟨b, o + k, none⟩) hbw).trans (hcell k _ (List.getElem?_eq_getElem (by omega)))⟩
      have hlen := filter_len ls P k
      have hnxt := take_filter ls P k (by omega)
      have hpk : P ls[k] = decide (x.data.toList ≠ []) := by rw [← hP, hx]
      have HS := Lib.hid (And.intro hnxt (And.intro hpk hx))
      have HO := Lib.hid hown
      have HX := Lib.hid hnx
      have hsz := hnx.size
      have Cx := C x
      clear hnxt hpk hx hown hnx hcell ha C
      by_cases hp : x.data.toList ≠ []
      · simp only [decide_eq_true hp] at Cx
        have e := HS.out.1
        rw [HS.out.2.1, decide_eq_true hp, if_pos rfl] at e
        have HE := Lib.hid e
        clear e hp
        go_wp2_with (first
          | (go_at_call 163; refine (Cx _).mono ?_; rintro e w1 ⟨rfl, rfl⟩)
          | (at_builtin; refine wpList_append_own _ rfl _ _ 29 rfl w.heap.size 9 i0 (.string ⟨#[]⟩) 1 16 Tryz.underlying29 hi hz0 hz1 hz2 rfl (by decide) _ _ _ rfl (World.ownsRow.alloc HO.out _) ⟨wr.heap.size, 0, none⟩ 1 1 [.string x] rfl rfl ?c1 ?c2 ?c3 ?c4 ?c5 ?_))
        case c1 =>
          intro j u hj
          match j, hj with
          | 0, hj => simp at hj; subst hj; simp [Addr.add]
        case c2 => intro u hu; simp at hu; subst hu; rfl
        case c3 => unfold maxLen; omega
        case c4 => omega
        case c5 => simp; omega
        · intro v' w1 hown' hgrow _
          have HO' : Hid (OwnS w1 w.heap.size v' ((ls.take (k + 1)).filter P)) := Lib.hid (by rw [HE.out]; exact OwnS.app HS.out.2.2 hown')
          have HB' : Hid (Below w.heap.size w w1) := Lib.hid (below_grown HX.out HO.out hgrow (Nat.le_refl _) hsz)
          clear hown' hgrow
          go_wp2
          go_roundw
          case rel => exact ⟨k + 1, by omega, by go_num, HO'.out, HB'.out⟩
          case measure => simp [intOf]; omega
      · simp only [decide_eq_false hp] at Cx
        have e := HS.out.1
        rw [HS.out.2.1, decide_eq_false hp, if_neg (by simp), List.append_nil] at e
        have HE := Lib.hid e
        clear e hp
        go_wp2_with (go_at_call 163; refine (Cx _).mono ?_; rintro e w1 ⟨rfl, rfl⟩)
        go_roundw
        case rel => exact ⟨k + 1, by omega, by go_num, by rw [HE.out]; exact HO.out, HX.out⟩
        case measure => simp [intOf]; omega
    · obtain rfl : k = n := by omega
      rw [List.take_of_length_le (by omega)] at hown
      have HO := Lib.hid hown
      have HX := Lib.hid hnx
      clear hown hnx hlt ha hcell C
      go_wp2
      go_ret
      exact ⟨_, rfl, HO.out, HX.out⟩
set_option maxHeartbeats 1600000 in
theorem sel_dot (v : Value) (ls : List Bs) (hn : ls.length ≤ 5000) (w : World) (h : Holds' w v ls) :
    Calls Tryz.prog 161 #[v, .func (.func 162) #[] #[]] w fun e w' => ∃ v', e = .returned v' ∧ OwnS w' w.heap.size v' (ls.filter (fun l => decide (l ≠ [46]))) ∧ Below w.heap.size w w' := by
  obtain ⟨i0, hi, hz0, hz1, hz2⟩ := info_parts infoS
  obtain ⟨a, c, b, o, rfl, hc, ha, hcell⟩ := h
  generalize hN : ls.length = n at *
  generalize hP : (fun l : Bs => decide (l ≠ [46])) = P at *
  have C := fun x w => nodot_any x w
  go_enter Tryz.func161, Tryz.ntmps161
  go_wp2
  go_loopw [5, 10] (fun u i wr => ∃ k : Nat, k ≤ n ∧ i = .int .i64 k ∧ OwnS wr w.heap.size u ((ls.take k).filter P) ∧ Below w.heap.size w wr) (fun _ i _ => n - (intOf i).toNat)
  case atStart => exact ⟨0, Nat.zero_le _, rfl, by simpa using OwnS.nil _ _, Below.refl _ _⟩
  case round =>
    obtain ⟨k, hk, rfl, hown, hnx⟩ := hrel
    by_cases hlt : k < n
    · obtain ⟨rfl, hbw⟩ := ha (by omega)
      obtain ⟨x, hx, hcx⟩ : ∃ x : ByteArray, x.data.toList = ls[k] ∧ wr.cell? ⟨b, o + k, none⟩ = some (.string x) := ⟨⟨(ls[k]).toArray⟩, by simp, (hnx.cell (p := ⟨b, o + k, none⟩) hbw).trans (hcell k _ (List.getElem?_eq_getElem (by omega)))⟩
      have hlen := filter_len ls P k
      have hnxt := take_filter ls P k (by omega)
      have hpk : P ls[k] = decide (x.data.toList ≠ [46]) := by rw [← hP, hx]
      have HS := Lib.hid (And.intro hnxt (And.intro hpk hx))
      have HO := Lib.hid hown
      have HX := Lib.hid hnx
      have hsz := hnx.size
      have Cx := C x
      clear hnxt hpk hx hown hnx hcell ha C
      by_cases hp : x.data.toList ≠ [46]
      · simp only [decide_eq_true hp] at Cx
        have e := HS.out.1
        rw [HS.out.2.1, decide_eq_true hp, if_pos rfl] at e
        have HE := Lib.hid e
        clear e hp
        go_wp2_with (first
          | (go_at_call 162; refine (Cx _).mono ?_; rintro e w1 ⟨rfl, rfl⟩)
          | (at_builtin; refine wpList_append_own _ rfl _ _ 29 rfl w.heap.size 9 i0 (.string ⟨#[]⟩) 1 16 Tryz.underlying29 hi hz0 hz1 hz2 rfl (by decide) _ _ _ rfl (World.ownsRow.alloc HO.out _) ⟨wr.heap.size, 0, none⟩ 1 1 [.string x] rfl rfl ?c1 ?c2 ?c3 ?c4 ?c5 ?_))
        case c1 =>
          intro j u hj
          match j, hj with
          | 0, hj => simp at hj; subst hj; simp [Addr.add]
        case c2 => intro u hu; simp at hu; subst hu; rfl
        case c3 => unfold maxLen; omega
        case c4 => omega
        case c5 => simp; omega
        · intro v' w1 hown' hgrow _
          have HO' : Hid (OwnS w1 w.heap.size v' ((ls.take (k + 1)).filter P)) := Lib.hid (by rw [HE.out]; exact OwnS.app HS.out.2.2 hown')
          have HB' : Hid (Below w.heap.size w w1) := Lib.hid (below_grown HX.out HO.out hgrow (Nat.le_refl _) hsz)
          clear hown' hgrow
          go_wp2
          go_roundw
          case rel => exact ⟨k + 1, by omega, by go_num, HO'.out, HB'.out⟩
          case measure => simp [intOf]; omega
      · simp only [decide_eq_false hp] at Cx
        have e := HS.out.1
        rw [HS.out.2.1, decide_eq_false hp, if_neg (by simp), List.append_nil] at e
        have HE := Lib.hid e
        clear e hp
        go_wp2_with (go_at_call 162; refine (Cx _).mono ?_; rintro e w1 ⟨rfl, rfl⟩)
        go_roundw
        case rel => exact ⟨k + 1, by omega, by go_num, by rw [HE.out]; exact HO.out, HX.out⟩
        case measure => simp [intOf]; omega
    · obtain rfl : k = n := by omega
      rw [List.take_of_length_le (by omega)] at hown
      have HO := Lib.hid hown
      have HX := Lib.hid hnx
      clear hown hnx hlt ha hcell C
      go_wp2
      go_ret
      exact ⟨_, rfl, HO.out, HX.out⟩
end Go.Proofs.YtbeoklihpkfofaaGreatDoor
namespace Go.Proofs.YtbeoklihpkfofaaGreatDoor
open Go.RowKit Go.Sort
/-- The library's MaxLen holds some int. -/
structure LaidP (w : World) : Prop where
  mx : ∃ m, w.cell? ⟨1, 0, none⟩ = some (.int .i64 m)
  lt : 1 < w.heap.size
theorem LaidP.on {w w' : World} (h : LaidP w) (hb : Below w.heap.size w w') : LaidP w' :=
  ⟨h.mx.imp fun _ hm => (hb.cell (p := ⟨1, 0, none⟩) h.lt).trans hm, Nat.lt_of_lt_of_le h.lt hb.size⟩
theorem parts_of (s : ByteArray) : ((Lib.splitB ⟨#[47]⟩ 0 (Lib.countB s ⟨#[47]⟩) s).map (·.data.toList)).filter (fun l => decide (l ≠ [])) = parts s.data.toList := by
  rw [Lib.splitB_data]
  exact parts_split _
theorem parts_any (s : ByteArray) (hs : s.size ≤ 4000) (w : World) (h : LaidP w) :
    Calls Tryz.prog 120 #[.string s] w fun e w' => ∃ v, e = .returned v ∧ OwnS w' w.heap.size v (parts s.data.toList) ∧ Below w.heap.size w w' := by
  obtain ⟨m, hm⟩ := h.mx
  have C1 := Tryz.strings_Split s ⟨#[47]⟩ m w (by omega) hm (by decide)
  have hl := Lib.splitB_all ⟨#[47]⟩ (by decide) 0 _ s rfl
  have hcl := Lib.countB_le ⟨#[47]⟩ (by decide) s.size s (Nat.le_refl _)
  have hmade := OwnS.made w (Lib.splitB ⟨#[47]⟩ 0 (Lib.countB s ⟨#[47]⟩) s) (by rw [hl]; unfold maxLen; omega)
  have C2 := sel_empty _ _ (by rw [List.length_map, hl]; omega) _ hmade.holds
  rw [parts_of, hl] at C2
  have hb1 : Below w.heap.size w (w.alloc (.cells ((Lib.splitB ⟨#[47]⟩ 0 (Lib.countB s ⟨#[47]⟩) s).map Value.string).toArray 9)) := (Below.refl _ _).alloc (Nat.le_refl _) _
  generalize parts s.data.toList = ps at *
  generalize Lib.countB s ⟨#[47]⟩ + 1 = n at *
  clear hl hcl hmade hm
  generalize w.alloc (.cells ((Lib.splitB ⟨#[47]⟩ 0 (Lib.countB s ⟨#[47]⟩) s).map Value.string).toArray 9) = w1 at *
  have HB := Lib.hid hb1
  clear hb1
  go_enter Tryz.func120, Tryz.ntmps120
  go_wp2_with (first | (go_at_call 158; refine C1.mono ?_; rintro e w2 ⟨rfl, rfl⟩) | (go_at_call 161; refine C2.mono ?_; rintro e w3 ⟨v, rfl, ho, hb⟩; have HO := Lib.hid ho; have HB2 := Lib.hid hb; clear ho hb))
  go_ret
  exact ⟨_, rfl, HO.out.mono HB.out.size, HB.out.trans (HB2.out.mono HB.out.size)⟩
theorem foldl_take (ls : List Bs) (k : Nat) (h : k < ls.length) : (ls.take (k + 1)).foldl rstep [] = rstep ((ls.take k).foldl rstep []) ls[k] := by
  rw [List.take_add_one, List.getElem?_eq_getElem h, List.foldl_append]; rfl
theorem foldl_len (ls : List Bs) (k : Nat) : ((ls.take k).foldl rstep []).length ≤ k := by
  have h1 := (foldl_sub (ls.take k) [] [] (List.Sublist.refl _)).length_le
  rw [List.nil_append, List.length_take] at h1
  omega
set_option maxHeartbeats 1600000 in
theorem resolved_any (v : Value) (ls : List Bs) (hn : ls.length ≤ 5000) (w : World) (h : Holds' w v ls) :
    Calls Tryz.prog 119 #[v] w fun e w' => ∃ v', e = .returned v' ∧ OwnS w' w.heap.size v' (resolve ls) ∧ Below w.heap.size w w' := by
  obtain ⟨i0, hi, hz0, hz1, hz2⟩ := info_parts infoS
  have C1 := sel_dot v ls hn w h
  have hres : (ls.filter (fun l => decide (l ≠ [46]))).foldl rstep [] = resolve ls := foldl_filter ls []
  have hlen : (ls.filter (fun l => decide (l ≠ [46]))).length ≤ 5000 := Nat.le_trans (List.length_filter_le _ _) hn
  have hnd : ∀ l ∈ ls.filter (fun l => decide (l ≠ [46])), l ≠ [46] := fun l hl => by simpa using (List.mem_filter.1 hl).2
  generalize ls.filter (fun l => decide (l ≠ [46])) = fs at *
  generalize resolve ls = rs at *
  clear h hn
  go_enter Tryz.func119, Tryz.ntmps119
  go_wp2_with (go_at_call 161; refine C1.mono ?_; rintro e w1 ⟨v1, rfl, ho, hb⟩; obtain ⟨a, c, b, o, rfl, hc, ha, hcell⟩ := ho.holds; have HB1 := Lib.hid hb; clear ho hb; refine Hid.out ?_)
  have hsz1 := HB1.out.size
  generalize hN : fs.length = n at *
  refine Lib.hid ?_
  go_wp2
  go_loopw [3, 9] (fun u i wr => ∃ k : Nat, k ≤ n ∧ i = .int .i64 k ∧ OwnS wr w1.heap.size u ((fs.take k).foldl rstep []) ∧ Below w1.heap.size w1 wr) (fun _ i _ => n - (intOf i).toNat)
  case atStart => exact ⟨0, Nat.zero_le _, rfl, OwnS.nil _ _, Below.refl _ _⟩
  case round =>
    obtain ⟨k, hk, rfl, hown, hnx⟩ := hrel
    by_cases hlt : k < n
    · obtain ⟨rfl, hbw⟩ := ha (by omega)
      obtain ⟨x, hx, hcx⟩ : ∃ x : ByteArray, x.data.toList = fs[k] ∧ wr.cell? ⟨b, o + k, none⟩ = some (.string x) := ⟨⟨(fs[k]).toArray⟩, by simp, (hnx.cell (p := ⟨b, o + k, none⟩) hbw).trans (hcell k _ (List.getElem?_eq_getElem (by omega)))⟩
      have hle := foldl_len fs k
      have hnxt := foldl_take fs k (by omega)
      have hdot := hnd fs[k] (List.getElem_mem _)
      have hsz := hnx.size
      by_cases hp : x.data.toList = [46, 46]
      · have e : (fs.take (k + 1)).foldl rstep [] = ((fs.take k).foldl rstep []).dropLast := by rw [hnxt, rstep, if_pos (by rw [← hx]; exact hp)]
        have ht : (x.toList == [46, 46]) = true := by rw [ByteArray.toList_eq, hp]; rfl
        have HE := Lib.hid e
        clear e hp hx hdot hnxt hcell hnd ha
        generalize (fs.take k).foldl rstep [] = out at *
        rcases Nat.eq_zero_or_pos out.length with h0 | h0
        · have e0 : out = [] := List.eq_nil_of_length_eq_zero h0
          subst e0
          obtain ⟨a', c', b', o', rfl, hc', ha', hcell'⟩ := hown.holds
          have HO := Lib.hid hown
          have HX := Lib.hid hnx
          clear hown hnx ha' hcell'
          go_wp2
          go_roundw
          case rel => exact ⟨k + 1, by omega, by go_num, by rw [HE.out]; exact HO.out, HX.out⟩
          case measure => simp [intOf]; omega
        · obtain ⟨a', c', b', o', rfl, hc', ha', hcell'⟩ := hown.holds
          obtain ⟨rfl, hb'⟩ := ha' h0
          have HO := Lib.hid (hown.cut h0)
          have HX := Lib.hid hnx
          clear hown hnx ha' hcell'
          generalize hL : out.length = L at *
          go_wp2
          go_roundw
          case rel => exact ⟨k + 1, by omega, by go_num, by rw [HE.out]; exact HO.out, HX.out⟩
          case measure => simp [intOf]; omega
      · have e : (fs.take (k + 1)).foldl rstep [] = (fs.take k).foldl rstep [] ++ [fs[k]] := by rw [hnxt, rstep, if_neg (by rw [← hx]; exact hp), if_neg hdot]
        have ht : (x.toList == [46, 46]) = false := by rw [ByteArray.toList_eq]; simpa using hp
        have HE := Lib.hid (And.intro e hx)
        have HO := Lib.hid hown
        have HX := Lib.hid hnx
        clear e hp hx hdot hnxt hcell hnd ha hown hnx
        generalize (fs.take k).foldl rstep [] = out at *
        go_wp2_with (at_builtin; refine wpList_append_own _ rfl _ _ 29 rfl w1.heap.size 9 i0 (.string ⟨#[]⟩) 1 16 Tryz.underlying29 hi hz0 hz1 hz2 rfl (by decide) _ _ _ rfl (World.ownsRow.alloc HO.out _) ⟨wr.heap.size, 0, none⟩ 1 1 [.string x] rfl rfl ?c1 ?c2 ?c3 ?c4 ?c5 ?_)
        case c1 =>
          intro j u hj
          match j, hj with
          | 0, hj => simp at hj; subst hj; simp [Addr.add]
        case c2 => intro u hu; simp at hu; subst hu; rfl
        case c3 => unfold maxLen; omega
        case c4 => omega
        case c5 => simp; omega
        · intro v' w2 hown' hgrow _
          have HO' : Hid (OwnS w2 w1.heap.size v' ((fs.take (k + 1)).foldl rstep [])) := Lib.hid (by rw [HE.out.1]; exact OwnS.app HE.out.2 hown')
          have HB' : Hid (Below w1.heap.size w1 w2) := Lib.hid (below_grown HX.out HO.out hgrow (Nat.le_refl _) hsz)
          clear hown' hgrow
          go_wp2
          go_roundw
          case rel => exact ⟨k + 1, by omega, by go_num, HO'.out, HB'.out⟩
          case measure => simp [intOf]; omega
    · obtain rfl : k = n := by omega
      rw [List.take_of_length_le (by omega), hres] at hown
      have HO := Lib.hid hown
      have HX := Lib.hid hnx
      clear hown hnx hlt ha hcell hres
      go_wp2
      go_ret
      exact ⟨_, rfl, HO.out.mono hsz1, HB1.out.trans (HX.out.mono hsz1)⟩
end Go.Proofs.YtbeoklihpkfofaaGreatDoor
namespace Go.Proofs.YtbeoklihpkfofaaGreatDoor
open Go.RowKit Go.Sort
theorem joinL_any (v : Value) (ls : List Bs) (hn : (jn ls).length ≤ 5000) (w : World) (h : Holds' w v ls) :
    Calls Tryz.prog 95 #[v, .string ⟨#[47]⟩] w fun e w' => e = .returned (.string ⟨(Lib.join ls [47]).toArray⟩) ∧ Below w.heap.size w w' := by
  have hl := len_le_jn ls
  obtain ⟨a, c, b, o, rfl, hc, ha, hcell⟩ := h
  rcases Nat.eq_zero_or_pos ls.length with h0 | h0
  · have e0 : ls = [] := List.eq_nil_of_length_eq_zero h0
    subst e0
    exact (Tryz.strings_Join_none a c ⟨#[47]⟩ w).mono fun e w' ⟨he, hw⟩ => by subst hw; exact ⟨he, Below.refl _ _⟩
  · obtain ⟨rfl, hb⟩ := ha h0
    have hm : (ls.map fun l => ByteArray.mk l.toArray).map (·.data.toList) = ls := by simp [Function.comp_def]
    have hj : (Lib.join ls [47]).length ≤ 5000 := by
      have := joined_join ls
      have e2 := congrArg List.length this
      rw [joined, if_neg (by rintro rfl; simp at h0)] at e2
      simp at e2; omega
    have := Tryz.strings_Join b o c (ls.map fun l => ByteArray.mk l.toArray) ⟨#[47]⟩ w (fun j x hx => by
      rw [List.getElem?_map] at hx
      cases hg : ls[j]? with
      | none => rw [hg] at hx; cases hx
      | some l => rw [hg] at hx; obtain rfl := Option.some.inj hx; exact hcell j l hg) hb (by rw [List.length_map]; omega) (by rw [List.length_map]; exact hc) (by rw [hm]; show (Lib.join ls [47]).length ≤ _; omega)
    rw [hm, List.length_map] at this
    exact this
theorem pre_head (l : Bs) : Lib.hasPrefix l [47] = decide (l.head? = some 47) := by
  cases l with
  | nil => rfl
  | cons c l => 
    by_cases h : c = 47
    · subst h; simp [Lib.hasPrefix, List.isPrefixOf]
    · have : ((47 : UInt8) == c) = false := by simp; exact fun e => h e.symm
      simp [Lib.hasPrefix, List.isPrefixOf, this, h]
def cleanV (l : Bs) : Value := .tuple #[.string ⟨(cleanE l).1.toArray⟩, .int .i64 (cleanE l).2]
theorem cleanV_bad {l : Bs} (h : ¬ (l.head? = some 47 ∧ l.all okb = true)) : cleanV l = .tuple #[.string ⟨#[]⟩, .int .i64 1] := by unfold cleanV cleanE; rw [if_neg h]
theorem cleanV_long {l : Bs} (h : l.head? = some 47 ∧ l.all okb = true) (h2 : 200 < (joined (resolve (parts l))).length) : cleanV l = .tuple #[.string ⟨#[]⟩, .int .i64 8] := by unfold cleanV cleanE; rw [if_pos h, if_pos h2]
theorem cleanV_ok {l : Bs} {F : ByteArray} (h : l.head? = some 47 ∧ l.all okb = true) (h2 : ¬ 200 < (joined (resolve (parts l))).length) (hF : F.data.toList = joined (resolve (parts l))) : cleanV l = .tuple #[.string F, .int .i64 0] := by
  unfold cleanV cleanE; rw [if_pos h, if_neg h2, str_of hF]
theorem ret_val {a b : Value} (h : a = b) : Ending.returned a = Ending.returned b := congrArg Ending.returned h
set_option maxHeartbeats 1600000 in
theorem clean_any (s : ByteArray) (hs : s.size ≤ 4000) (w : World) (h : LaidP w) :
    Calls Tryz.prog 71 #[.string s] w fun e w' => e = .returned (cleanV s.data.toList) ∧ Below w.heap.size w w' := by
  obtain ⟨V, HV⟩ : ∃ V, Hid (cleanV s.data.toList = V) := ⟨_, rfl⟩
  rw [HV.out]
  have C1 := fun w => Tryz.strings_HasPrefix s ⟨#[47]⟩ w
  have hp : Lib.hasPrefix s.data.toList (ByteArray.mk #[47]).data.toList = decide (s.data.toList.head? = some 47) := pre_head _
  simp only [hp] at C1
  clear hp
  have C2 := fun w => printable_any s (by omega) w
  by_cases hh : s.data.toList.head? = some 47
  · simp only [decide_eq_true hh] at C1
    by_cases ha : s.data.toList.all okb = true
    · have hc := And.intro hh ha
      simp only [ha] at C2
      have C3 := parts_any s (by omega) w h
      have hjl : (jn (resolve (parts s.data.toList))).length ≤ 4001 := by
        have h1 := jn_sub (resolve_sub (parts s.data.toList))
        have h2 := jn_parts s.data.toList
        have h3 := Lib.size_eq s
        omega
      have hpl : (parts s.data.toList).length ≤ 5000 := by
        have h2 := parts_len s.data.toList
        have h3 := Lib.size_eq s
        omega
      obtain ⟨R, hR, hRb⟩ : ∃ R : ByteArray, R = ⟨(Lib.join (resolve (parts s.data.toList)) [47]).toArray⟩ ∧ R.data.toList = Lib.join (resolve (parts s.data.toList)) [47] := ⟨_, rfl, by simp⟩
      have hF : (ByteArray.mk #[47] ++ R).data.toList = joined (resolve (parts s.data.toList)) := by rw [← joined_join, ← hRb]; simp
      have hFs : (ByteArray.mk #[47] ++ R).size = (joined (resolve (parts s.data.toList))).length := by rw [Lib.size_eq, hF]
      have hRs : R.size ≤ 4001 := by
        have e1 : (ByteArray.mk #[47] ++ R).size = 1 + R.size := by rw [ByteArray.size_append]; rfl
        have e2 := clean_len s.data.toList
        have h3 := Lib.size_eq s
        omega
      have C4 := fun v w h => joinL_any v (resolve (parts s.data.toList)) (by omega) w h
      simp only [← hR] at C4
      have C5 := fun v w h => resolved_any v (parts s.data.toList) hpl w h
      have h1s : (ByteArray.mk #[47]).size = 1 := rfl
      by_cases hN : 200 < (joined (resolve (parts s.data.toList))).length
      · have HR : Hid (V = _) := Lib.hid (HV.out.symm.trans (cleanV_long hc hN))
        generalize (joined (resolve (parts s.data.toList))).length = N at *
        generalize parts s.data.toList = ps at *
        have HC4 := Lib.hid C4
        have HC5 := Lib.hid C5
        clear hc hh ha h hF hRb hR C4 C5 hjl hpl
        go_enter Tryz.func71, Tryz.ntmps71
        go_wp2_with (first | (go_at_call 117; refine (C1 _).mono ?_; rintro e w1 ⟨rfl, rfl⟩) | (go_at_call 118; refine (C2 _).mono ?_; rintro e w1 ⟨rfl, rfl⟩) | (go_at_call 120; refine C3.mono ?_; rintro e w2 ⟨v2, rfl, ho2, hb2⟩; have P5 := HC5.out v2 w2 ho2.holds; have HB2 := Lib.hid hb2; clear ho2 hb2) | (go_at_call 119; refine P5.mono ?_; rintro e w3 ⟨v3, rfl, ho3, hb3⟩; have P4 := HC4.out v3 w3 ho3.holds; have HB3 := Lib.hid hb3; clear ho3 hb3) | (go_at_call 95; refine P4.mono ?_; rintro e w4 ⟨rfl, hb4⟩; have HB4 := Lib.hid hb4; clear hb4))
        go_ret2
        have hb12 := HB2.out.trans (HB3.out.mono HB2.out.size)
        exact ⟨ret_val HR.out.symm, hb12.trans (HB4.out.mono hb12.size)⟩
      · have HR : Hid (V = _) := Lib.hid (HV.out.symm.trans (cleanV_ok hc hN hF))
        generalize (joined (resolve (parts s.data.toList))).length = N at *
        generalize parts s.data.toList = ps at *
        have HC4 := Lib.hid C4
        have HC5 := Lib.hid C5
        clear hc hh ha h hF hRb hR C4 C5 hjl hpl
        go_enter Tryz.func71, Tryz.ntmps71
        go_wp2_with (first | (go_at_call 117; refine (C1 _).mono ?_; rintro e w1 ⟨rfl, rfl⟩) | (go_at_call 118; refine (C2 _).mono ?_; rintro e w1 ⟨rfl, rfl⟩) | (go_at_call 120; refine C3.mono ?_; rintro e w2 ⟨v2, rfl, ho2, hb2⟩; have P5 := HC5.out v2 w2 ho2.holds; have HB2 := Lib.hid hb2; clear ho2 hb2) | (go_at_call 119; refine P5.mono ?_; rintro e w3 ⟨v3, rfl, ho3, hb3⟩; have P4 := HC4.out v3 w3 ho3.holds; have HB3 := Lib.hid hb3; clear ho3 hb3) | (go_at_call 95; refine P4.mono ?_; rintro e w4 ⟨rfl, hb4⟩; have HB4 := Lib.hid hb4; clear hb4))
        go_ret2
        have hb12 := HB2.out.trans (HB3.out.mono HB2.out.size)
        exact ⟨ret_val HR.out.symm, hb12.trans (HB4.out.mono hb12.size)⟩
    · have HR : Hid (V = _) := Lib.hid (HV.out.symm.trans (cleanV_bad (fun h => ha h.2)))
      have ha' : s.data.toList.all okb = false := by simpa using ha
      simp only [ha'] at C2
      clear ha ha' hh h
      go_enter Tryz.func71, Tryz.ntmps71
      go_wp2_with (first | (go_at_call 117; refine (C1 _).mono ?_; rintro e w1 ⟨rfl, rfl⟩) | (go_at_call 118; refine (C2 _).mono ?_; rintro e w1 ⟨rfl, rfl⟩))
      go_ret2
      exact ⟨ret_val HR.out.symm, Below.refl _ _⟩
  · have HR : Hid (V = _) := Lib.hid (HV.out.symm.trans (cleanV_bad (fun h => hh h.1)))
    simp only [decide_eq_false hh] at C1
    clear hh h
    go_enter Tryz.func71, Tryz.ntmps71
    go_wp2_with (go_at_call 117; refine (C1 _).mono ?_; rintro e w1 ⟨rfl, rfl⟩)
    go_ret2
    exact ⟨ret_val HR.out.symm, Below.refl _ _⟩
set_option maxHeartbeats 1000000 in
theorem right_any (s : ByteArray) (hs : s.size ≤ 4000) (w : World) (h : LaidP w) :
    Calls Tryz.prog 35 #[.string s] w fun e w' => e = .returned (.bool (right s.data.toList)) ∧ Below w.heap.size w w' := by
  obtain ⟨B, HB⟩ : ∃ B, Hid (right s.data.toList = B) := ⟨_, rfl⟩
  rw [HB.out]
  have C := clean_any s hs w h
  obtain ⟨F, n, hV, hF, hn⟩ : ∃ (F : ByteArray) (n : Int), cleanV s.data.toList = .tuple #[.string F, .int .i64 n] ∧ F.data.toList = (cleanE s.data.toList).1 ∧ n = (cleanE s.data.toList).2 := ⟨⟨(cleanE s.data.toList).1.toArray⟩, _, rfl, by simp, rfl⟩
  rw [hV] at C
  have hB : (decide (n = 0) && decide (F.data.toList = s.data.toList)) = B := by
    rw [← HB.out, right, hF, hn, Bool.eq_iff_iff]
    simp only [Bool.and_eq_true, decide_eq_true_eq]
    constructor
    · rintro ⟨h1, h2⟩; exact Prod.ext h2 h1
    · intro h; rw [h]; exact ⟨rfl, rfl⟩
  have HE := Lib.hid hB
  clear hB hV hF h HB
  by_cases h0 : n = 0
  · subst h0
    clear hn
    go_enter Tryz.func35, Tryz.ntmps35
    go_wp2_with (go_at_call 71; refine C.mono ?_; rintro e w1 ⟨rfl, hb⟩; have HB := Lib.hid hb; clear hb)
    go_ret
    exact ⟨ret_bool (by rw [← HE.out, ByteArray.toList_eq, ByteArray.toList_eq, Bool.eq_iff_iff]; simp), HB.out⟩
  · have h0' : (n == 0) = false := by simpa using h0
    clear hn
    go_enter Tryz.func35, Tryz.ntmps35
    go_wp2_with (go_at_call 71; refine C.mono ?_; rintro e w1 ⟨rfl, hb⟩; have HB := Lib.hid hb; clear hb)
    go_ret
    exact ⟨ret_bool (by rw [← HE.out, decide_eq_false h0]; rfl), HB.out⟩
end Go.Proofs.YtbeoklihpkfofaaGreatDoor
