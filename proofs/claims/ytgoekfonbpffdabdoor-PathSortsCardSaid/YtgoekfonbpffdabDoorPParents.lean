/-
  path.Parents, the reference's Parents and Same: what each returns; nothing old turns.
-/
import Derived.Test.YtgoekfonbpffdabDoorPCleanRef
namespace Go.Proofs.YtgoekfonbpffdabDoor
open Go.RowKit Go.Sort
/-- The directories above: of each beginning of the parts. -/
def above (ps : List Bs) (n : Nat) : List Bs := (List.range n).map fun i => joined (ps.take i)
theorem above_next (ps : List Bs) (k : Nat) : above ps (k + 1) = above ps k ++ [joined (ps.take k)] := by simp [above, List.range_succ]
theorem above_len (ps : List Bs) (k : Nat) : (above ps k).length = k := by simp [above]
theorem joined_size (ps : List Bs) : (joined ps).length ≤ (jn ps).length + 1 := by unfold joined; split <;> simp
theorem Holds'.cut {w : World} {a : Option Addr} {c n : Nat} {ls : List Bs} (h : Holds' w (.slice a n c) ls) (k : Nat) (hk : k ≤ n) : Holds' w (.slice a k c) (ls.take k) := by
  obtain ⟨a', c', b, o, e, hc, ha, hcell⟩ := h
  simp only [Value.slice.injEq] at e
  obtain ⟨rfl, rfl, rfl⟩ := e
  have hl : (ls.take k).length = k := by rw [List.length_take]; omega
  refine ⟨a, c, b, o, by rw [hl], by omega, fun h0 => ha (by omega), fun j l hj => ?_⟩
  rw [List.getElem?_take] at hj
  split at hj
  · exact hcell j l hj
  · cases hj
set_option maxRecDepth 100000 in
set_option maxHeartbeats 1600000 in
theorem parents_any (s : ByteArray) (hs : s.size ≤ 1000) (w : World) (h : LaidP w) :
    Calls Tryd.prog 20 #[.string s] w fun e w' => ∃ v, e = .returned v ∧ OwnS w' w.heap.size v (above (parts s.data.toList) (parts s.data.toList).length) ∧ Below w.heap.size w w' := by
  obtain ⟨i0, hi, hz0, hz1, hz2⟩ := info_parts infoS
  have C1 := parts_any s (by omega) w h
  have hjl : (jn (parts s.data.toList)).length ≤ 1001 := by
    have h2 := jn_parts s.data.toList
    have h3 := Lib.size_eq s
    omega
  have hpl := len_le_jn (parts s.data.toList)
  have hg : ∀ p ∈ parts s.data.toList, good p := fun p hp => (parts_good _ p hp).1
  generalize parts s.data.toList = ps at *
  have HG := Lib.hid hg
  clear h hg
  go_enter Tryd.func20, Tryd.ntmps20
  go_wp2_with (go_at_call 22; refine C1.mono ?_; rintro e w1 ⟨v1, rfl, ho, hb⟩; obtain ⟨a, c, b, o, rfl, hc, ha, hcell⟩ := ho.holds; have HB1 := Lib.hid hb; clear ho hb; refine Hid.out ?_)
  have hsz1 := HB1.out.size
  generalize hN : ps.length = n at *
  clear C1
  refine Lib.hid ?_
  go_wp2
  go_loopw [3, 4, 10] (fun u d i wr => ∃ (k : Nat) (D : ByteArray), k ≤ n ∧ i = .int .i64 k ∧ d = .string D ∧ D.size ≤ 1002 ∧ Hid (D.data.toList = joined (ps.take k)) ∧ OwnS wr w1.heap.size u (above ps k) ∧ Below w1.heap.size w1 wr) (fun _ _ i _ => n - (intOf i).toNat)
  case atStart => exact ⟨0, ⟨#[47]⟩, Nat.zero_le _, rfl, rfl, by decide, Lib.hid rfl, OwnS.nil _ _, Below.refl _ _⟩
  case round =>
    obtain ⟨k, D, hk, rfl, rfl, hD, HD, hown, hnx⟩ := hrel
    by_cases hlt : k < n
    · obtain ⟨rfl, hbw⟩ := ha (by omega)
      obtain ⟨x, hx, hcx⟩ : ∃ x : ByteArray, x.data.toList = ps[k] ∧ wr.cell? ⟨b, o + k, none⟩ = some (.string x) := ⟨⟨(ps[k]).toArray⟩, by simp, (hnx.cell (p := ⟨b, o + k, none⟩) hbw).trans (hcell k _ (List.getElem?_eq_getElem (by omega)))⟩
      have hsz := hnx.size
      have hlen := above_len ps k
      have hxs : x.size ≤ 1001 := by have := mem_len (List.getElem_mem (l := ps) (n := k) (by omega)); have h3 := Lib.size_eq x; rw [hx] at h3; omega
      have C2 := fun w => join_any D x (by omega) (by omega) w
      obtain ⟨E, hE, hEb⟩ : ∃ E : ByteArray, E = ⟨(ended D.data.toList ++ x.data.toList).toArray⟩ ∧ E.data.toList = joined (ps.take (k + 1)) := by
        refine ⟨_, rfl, ?_⟩
        show (ended D.data.toList ++ x.data.toList) = _
        rw [HD.out, hx, joined_next _ _ (fun q hq => HG.out q (List.mem_of_mem_take hq)), List.take_add_one, List.getElem?_eq_getElem (by omega)]
        rfl
      simp only [← hE] at C2
      have hEs : E.size ≤ 1002 := by
        have h1 := joined_size (ps.take (k + 1))
        have h2 := jn_sub (List.take_sublist (k + 1) ps)
        rw [Lib.size_eq, hEb]; omega
      have HE := Lib.hid hEb
      have HO := Lib.hid hown
      have HX := Lib.hid hnx
      clear hE hEb hx hcell ha hown hnx
      go_wp2_with (first
        | (at_builtin; refine wpList_append_own _ rfl _ _ 33 rfl w1.heap.size 9 i0 (.string ⟨#[]⟩) 1 16 Tryd.underlying33 hi hz0 hz1 hz2 rfl (by decide) _ _ _ rfl (World.ownsRow.alloc HO.out _) ⟨wr.heap.size, 0, none⟩ 1 1 [.string D] rfl rfl ?c1 ?c2 ?c3 ?c4 ?c5 ?_))
      case c1 =>
        intro j u hj
        match j, hj with
        | 0, hj => simp at hj; subst hj; simp [Addr.add]
      case c2 => intro u hu; simp at hu; subst hu; rfl
      case c3 => unfold maxLen; omega
      case c4 => omega
      case c5 => simp; omega
      · intro v' w2 hown' hgrow _
        have HO' : Hid (OwnS w2 w1.heap.size v' (above ps (k + 1))) := Lib.hid (by rw [above_next]; exact OwnS.app HD.out (by rw [above_len]; exact hown'))
        have HB' : Hid (Below w1.heap.size w1 w2) := Lib.hid (below_grown HX.out HO.out hgrow (Nat.le_refl _) hsz)
        clear hown' hgrow
        go_wp2_with (go_at_call 18; refine (C2 _).mono ?_; rintro e w3 ⟨rfl, rfl⟩)
        go_roundw
        case rel => exact ⟨k + 1, E, by omega, by go_num, rfl, hEs, HE, HO'.out, HB'.out⟩
        case measure => simp [intOf]; omega
    · obtain rfl : k = n := by omega
      have HO := Lib.hid hown
      have HX := Lib.hid hnx
      clear hown hnx hlt ha hcell
      go_wp2
      go_ret
      exact ⟨_, rfl, by rw [hN]; exact HO.out.mono hsz1, HB1.out.trans (HX.out.mono hsz1)⟩
set_option maxRecDepth 100000 in
set_option maxHeartbeats 1600000 in
theorem parents_ref (s : ByteArray) (hs : s.size ≤ 1000) (w : World) :
    Calls Tryd.prog 24 #[.string s] w fun e w' => ∃ v, e = .returned v ∧ OwnS w' w.heap.size v (above (parts s.data.toList) (parts s.data.toList).length) ∧ Below w.heap.size w w' := by
  obtain ⟨i0, hi, hz0, hz1, hz2⟩ := info_parts infoS
  have C1 := parts_ref s (by omega) w
  have hjl : (jn (parts s.data.toList)).length ≤ 1001 := by
    have h2 := jn_parts s.data.toList
    have h3 := Lib.size_eq s
    omega
  have hpl := len_le_jn (parts s.data.toList)
  generalize parts s.data.toList = ps at *
  go_enter Tryd.func24, Tryd.ntmps24
  go_wp2_with (go_at_call 23; refine C1.mono ?_; rintro e w1 ⟨v1, rfl, ho, hb⟩; have HH := Lib.hid ho.holds; obtain ⟨a, c, b, o, rfl, hc, ha, hcell⟩ := ho.holds; have HB1 := Lib.hid hb; clear ho hb hcell; refine Hid.out ?_)
  have hsz1 := HB1.out.size
  generalize hN : ps.length = n at *
  clear C1
  refine Lib.hid ?_
  go_wp2
  go_loopw [4, 5] (fun u i wr => ∃ k : Nat, k ≤ n ∧ i = .int .i64 k ∧ OwnS wr w1.heap.size u (above ps k) ∧ Below w1.heap.size w1 wr) (fun _ i _ => n - (intOf i).toNat)
  case atStart => exact ⟨0, Nat.zero_le _, rfl, OwnS.nil _ _, Below.refl _ _⟩
  case round =>
    obtain ⟨k, hk, rfl, hown, hnx⟩ := hrel
    by_cases hlt : k < n
    · obtain ⟨rfl, hbw⟩ := ha (by omega)
      have hsz := hnx.size
      have hlen := above_len ps k
      have HK := Lib.hid ((HH.out.cut k (by omega)).on hnx)
      have C2 := joined_ref _ (ps.take k) (by have := jn_sub (List.take_sublist k ps); omega) wr HK.out
      obtain ⟨D, hD, HD⟩ : ∃ D : ByteArray, D = ⟨(joined (ps.take k)).toArray⟩ ∧ Hid (D.data.toList = joined (ps.take k)) := ⟨_, rfl, Lib.hid (by simp)⟩
      rw [← hD] at C2
      have HO := Lib.hid hown
      have HX := Lib.hid hnx
      clear hD ha hown hnx HK
      go_wp2_with (first
        | (go_at_call 26; refine C2.mono ?_; rintro e w3 ⟨rfl, rfl⟩)
        | (at_builtin; refine wpList_append_own _ rfl _ _ 33 rfl w1.heap.size 9 i0 (.string ⟨#[]⟩) 1 16 Tryd.underlying33 hi hz0 hz1 hz2 rfl (by decide) _ _ _ rfl (World.ownsRow.alloc HO.out _) ⟨wr.heap.size, 0, none⟩ 1 1 [.string D] rfl rfl ?c1 ?c2 ?c3 ?c4 ?c5 ?_))
      case c1 =>
        intro j u hj
        match j, hj with
        | 0, hj => simp at hj; subst hj; simp [Addr.add]
      case c2 => intro u hu; simp at hu; subst hu; rfl
      case c3 => unfold maxLen; omega
      case c4 => omega
      case c5 => simp; omega
      · intro v' w2 hown' hgrow _
        have HO' : Hid (OwnS w2 w1.heap.size v' (above ps (k + 1))) := Lib.hid (by rw [above_next]; exact OwnS.app HD.out (by rw [above_len]; exact hown'))
        have HB' : Hid (Below w1.heap.size w1 w2) := Lib.hid (below_grown HX.out HO.out hgrow (Nat.le_refl _) hsz)
        clear hown' hgrow
        go_wp2
        go_roundw
        case rel => exact ⟨k + 1, by omega, by go_num, HO'.out, HB'.out⟩
        case measure => simp [intOf]; omega
    · obtain rfl : k = n := by omega
      have HO := Lib.hid hown
      have HX := Lib.hid hnx
      clear hown hnx hlt ha
      go_wp2
      go_ret
      exact ⟨_, rfl, by rw [hN]; exact HO.out.mono hsz1, HB1.out.trans (HX.out.mono hsz1)⟩
set_option maxHeartbeats 1600000 in
theorem same_yes (v u : Value) (ls : List Bs) (hn : ls.length ≤ 5000) (w : World) (h : Holds' w v ls) (h2 : Holds' w u ls) :
    Calls Tryd.prog 21 #[v, u] w fun e w' => e = .returned (.bool true) ∧ Below w.heap.size w w' := by
  obtain ⟨a, c, b, o, rfl, hc, ha, hcell⟩ := h
  obtain ⟨a', c', b', o', rfl, hc', ha', hcell'⟩ := h2
  generalize hN : ls.length = n at *
  go_enter Tryd.func21, Tryd.ntmps21
  go_wp2
  go_loopw [5] (fun i wr => ∃ k : Nat, k ≤ n ∧ i = .int .i64 k ∧ Below w.heap.size w wr) (fun i _ => n - (intOf i).toNat)
  case atStart => exact ⟨0, Nat.zero_le _, rfl, Below.refl _ _⟩
  case round =>
    obtain ⟨k, hk, rfl, hnx⟩ := hrel
    by_cases hlt : k < n
    · obtain ⟨rfl, hbw⟩ := ha (by omega)
      obtain ⟨rfl, hbw'⟩ := ha' (by omega)
      have hcx := (hnx.cell (p := ⟨b, o + k, none⟩) hbw).trans (hcell k _ (List.getElem?_eq_getElem (by omega)))
      have hcx' := (hnx.cell (p := ⟨b', o' + k, none⟩) hbw').trans (hcell' k _ (List.getElem?_eq_getElem (by omega)))
      generalize ByteArray.mk (ls[k]).toArray = x at hcx hcx'
      have HX := Lib.hid hnx
      clear hcell hcell' ha ha' hnx
      go_wp2
      go_region
      all_goals (try go_wp2)
      go_roundw
      case rel => exact ⟨k + 1, by omega, by go_num, HX.out.drew⟩
      case measure => simp [intOf]; omega
    · obtain rfl : k = n := by omega
      have HX := Lib.hid hnx
      clear hnx hlt ha ha' hcell hcell'
      go_wp2
      go_ret
      exact ⟨rfl, HX.out⟩
end Go.Proofs.YtgoekfonbpffdabDoor
