/-
  path.Sorted: a list's texts rising, each once, in a slice of the call's own; nothing old turns.
-/
import Derived.Test.YtnfhccnicojdcaaGreatDoorPSortMath
import Derived.Test.YtnfhccnicojdcaaGreatDoorPResolved
import Derived.WalkLawsBesides
import Derived.Sort.OwnSorted
import Derived.Lib.OwnBridge
import Derived.Laws.AppendOwnNone
namespace Go.Proofs.YtnfhccnicojdcaaGreatDoor
open Go.RowKit Go.Sort
/-- A nil slice has no room. -/
def Bare (v : Value) : Prop := ∀ n c, v = .slice none n c → n = 0 ∧ c = 0
theorem OwnS.bare {w : World} {base : Nat} {v : Value} {ls : List Bs} (h : OwnS w base v ls) : Bare v := by
  rcases h.2 with ⟨rfl, _⟩ | ⟨g, cap, cur, rfl, _⟩
  · intro n c e; cases e; exact ⟨rfl, rfl⟩
  · intro n c e; cases e
theorem sorted_end {w w1 : World} {g cap nn q : Nat} {os : Array Obj} {ls : List Bs} (hown : OwnS w1 w.heap.size (.slice (some ⟨g, 0, none⟩) ls.length cap) ls) (hbel : Below w.heap.size w w1) (hbg : w.heap.size ≤ g) :
    OwnS (putRow encStr (Sort.ahead (grow (putRow encStr (Sort.ahead w1 nn) g 0 (ls.mergeSort fun x y => decide (x ≤ y)).toArray) os) q) g 0 (Lib.compact (ls.mergeSort fun x y => decide (x ≤ y)) ++ List.replicate ((ls.mergeSort fun x y => decide (x ≤ y)).length - (Lib.compact (ls.mergeSort fun x y => decide (x ≤ y))).length) []).toArray) w.heap.size
      (.slice (some ⟨g, 0, none⟩) (Lib.compact (ls.mergeSort fun x y => decide (x ≤ y))).length cap) (srt ls) ∧
    Below w.heap.size w (putRow encStr (Sort.ahead (grow (putRow encStr (Sort.ahead w1 nn) g 0 (ls.mergeSort fun x y => decide (x ≤ y)).toArray) os) q) g 0 (Lib.compact (ls.mergeSort fun x y => decide (x ≤ y)) ++ List.replicate ((ls.mergeSort fun x y => decide (x ≤ y)).length - (Lib.compact (ls.mergeSort fun x y => decide (x ≤ y))).length) []).toArray) := by
  have hl2 : (ls.mergeSort fun x y => decide (x ≤ y)).length = ls.length := List.length_mergeSort ls
  have hle := Lib.compact_length_le (ls.mergeSort fun x y => decide (x ≤ y))
  rcases hown.2 with ⟨h0, _⟩ | ⟨g', cap', cur, hv, hbase, hb, h1, h2, h3, h4⟩
  · cases h0
  cases hv
  have hs := ownsRow_sorted (n := nn) (os := os) (ts := ls.mergeSort fun x y => decide (x ≤ y)) hl2 hbase hb h1 h2 h3
  have hc := Lib.ownsRow_putRow (q := q) (k := (Lib.compact (ls.mergeSort fun x y => decide (x ≤ y))).length) (ys := Lib.compact (ls.mergeSort fun x y => decide (x ≤ y)) ++ List.replicate ((ls.mergeSort fun x y => decide (x ≤ y)).length - (Lib.compact (ls.mergeSort fun x y => decide (x ≤ y))).length) []) hs (by simp; omega) (by omega)
  rw [List.take_left] at hc
  exact ⟨hc, Lib.below_putRow (hbel.grown (grownBy_sorted _) hbel.size (fun j hj => by cases hj; exact hbase)) hbg⟩
set_option maxRecDepth 100000 in
set_option maxHeartbeats 2000000 in
theorem sorted_nil (a : Option Addr) (c : Nat) (hb : Bare (.slice a 0 c)) (w : World) :
    Calls Tryz.prog 106 #[.slice a 0 c] w fun e w' => ∃ v', e = .returned v' ∧ OwnS w' w.heap.size v' (srt []) ∧ Below w.heap.size w w' := by
  obtain ⟨i0, hi, hz0, hz1, hz2⟩ := info_parts infoS
  have C1 := fun a c w => Tryz.slices_Sort_string_none a c w
  have C2 := fun a c w => Tryz.slices_Compact_string_empty a c w
  rw [srt_nil]
  cases a with
  | none =>
    obtain ⟨_, rfl⟩ := hb 0 c rfl
    clear hb
    go_enter Tryz.func106, Tryz.ntmps106
    go_wp2_with (first
      | (at_builtin; refine wpList_append_own_none rfl _ _ 30 rfl w.heap.size 9 i0 1 Tryz.underlying30 hi _ 0 [] rfl (World.ownsRow_nil _ _ _ _) rfl ?_)
      | (go_at_call 133; refine (C1 _ _ _).mono ?_; rintro e w1 ⟨rfl, rfl⟩)
      | (go_at_call 134; refine (C2 _ _ _).mono ?_; rintro e w1 ⟨rfl, rfl⟩))
    go_ret
    exact ⟨_, rfl, OwnS.nil _ _, Below.refl _ _⟩
  | some ad =>
    clear hb
    go_enter Tryz.func106, Tryz.ntmps106
    go_wp2_with (first
      | (at_builtin; refine wpList_append_own _ rfl _ _ 30 rfl w.heap.size 9 i0 (.string ⟨#[]⟩) 1 16 Tryz.underlying30 hi hz0 hz1 hz2 rfl (by decide) _ 0 [] rfl (World.ownsRow_nil _ _ _ _) ad 0 c [] rfl rfl (fun j u hj => by cases hj) (fun u hu => by cases hu) (by decide) (by decide) (Nat.le_refl _) ?_; intro v' w1 hown hgrow hnil; obtain rfl := hnil.2 ⟨rfl, rfl⟩; have HB := Lib.hid ((Below.refl w.heap.size w).grown hgrow (Nat.le_refl _) (fun k hk => by cases hk)); clear hown hgrow hnil)
      | (go_at_call 133; refine (C1 _ _ _).mono ?_; rintro e w1 ⟨rfl, rfl⟩)
      | (go_at_call 134; refine (C2 _ _ _).mono ?_; rintro e w1 ⟨rfl, rfl⟩))
    go_ret
    exact ⟨_, rfl, OwnS.nil _ _, HB.out⟩
set_option maxRecDepth 100000 in
set_option maxHeartbeats 2000000 in
theorem sorted_some (v : Value) (ls : List Bs) (h0 : 0 < ls.length) (hn : ls.length ≤ 5000) (w : World) (h : Holds' w v ls) :
    Calls Tryz.prog 106 #[v] w fun e w' => ∃ v', e = .returned v' ∧ OwnS w' w.heap.size v' (srt ls) ∧ Below w.heap.size w w' := by
  obtain ⟨i0, hi, hz0, hz1, hz2⟩ := info_parts infoS
  obtain ⟨a, c, b, o, rfl, hc, ha, hcell⟩ := h
  obtain ⟨rfl, hbw⟩ := ha h0
  have hne : ¬ (ls.length = 0) := by omega
  have HC := Lib.hid hcell
  have HN := Lib.hid hne
  have HL : Hid ((strs ls).length = ls.length * 1) := Lib.hid (by simp [strs])
  clear ha hcell hne
  go_enter Tryz.func106, Tryz.ntmps106
  go_wp2_with (at_builtin; refine wpList_append_own _ rfl _ _ 30 rfl w.heap.size 9 i0 (.string ⟨#[]⟩) 1 16 Tryz.underlying30 hi hz0 hz1 hz2 rfl (by decide) _ 0 [] rfl (World.ownsRow_nil _ _ _ _) ⟨b, o, none⟩ ls.length c (strs ls) rfl HL.out ?c1 ?c2 ?c3 ?c4 (Nat.le_refl _) ?_)
  case c1 =>
    intro j u hj
    rw [List.getElem?_map] at hj
    cases hl : ls[j]? with
    | none => rw [hl] at hj; cases hj
    | some l =>
      rw [hl] at hj
      obtain rfl := Option.some.inj hj
      have := HC.out j l hl
      by_cases hj0 : j = 0
      · subst hj0; simpa [Addr.add] using this
      · simpa [Addr.add, hj0] using this
  case c2 =>
    intro u hu
    obtain ⟨l, _, rfl⟩ := List.mem_map.1 hu
    rfl
  case c3 => unfold maxLen; omega
  case c4 => omega
  · intro v' w1 hown hgrow hnil
    have hO : OwnS w1 w.heap.size v' ls := hown
    have hB := (Below.refl w.heap.size w).grown hgrow (Nat.le_refl _) (fun k hk => by cases hk)
    obtain ⟨g, cap, rfl, hbg, hgl, hncap, hcm, hlen, hH⟩ := Lib.holds_of_ownsRow (enc := encStr) (zs := ls) hown (fun e => HN.out (by rw [hnil.1 e]; rfl))
    have C1 := Tryz.slices_Sort_string g 0 cap ls w1 hH hgl (by omega)
    have HH := Lib.hid hH
    have HO := Lib.hid hO
    have HB := Lib.hid hB
    have hl2 : (ls.mergeSort fun x y => decide (x ≤ y)).length = ls.length := List.length_mergeSort ls
    have HL2 := Lib.hid hl2
    have hl3 : (ls.mergeSort fun x y => decide (x ≤ y)).length ≤ 5000 := by omega
    have hl4 : (ls.mergeSort fun x y => decide (x ≤ y)).length ≤ cap := by omega
    clear hown hgrow hnil hO hB hH hlen hl2
    go_wp2_with (go_at_call 133; refine C1.mono ?_; rintro e w2 ⟨rfl, nn, os, rfl⟩; refine Hid.out ?_)
    have hH2 : Holds encStr (grow (putRow encStr (Sort.ahead w1 nn) g 0 (ls.mergeSort fun x y => decide (x ≤ y)).toArray) os) g 0 (ls.mergeSort fun x y => decide (x ≤ y)).toArray :=
      holds_grow encStr _ os g 0 _ (by simpa [putRow, mapBlock, Sort.ahead] using hgl) (holds_putRow encStr _ g 0 _ _ (holds_ahead encStr w1 nn g 0 _ HH.out) (by simp))
    have C2 := Tryz.slices_Compact_string g 0 cap (ls.mergeSort fun x y => decide (x ≤ y)) _ hH2 (by omega) hl4
    rw [HL2.out] at C2
    clear C1 hH2
    refine Lib.hid ?_
    go_wp2_with (go_at_call 134; refine C2.mono ?_; rintro e w3 ⟨rfl, q, rfl⟩)
    go_ret
    have E := sorted_end (nn := nn) (q := q) (os := os) HO.out HB.out hbg
    rw [HL2.out] at E
    exact ⟨_, rfl, E.1, E.2⟩
theorem sorted_any (v : Value) (ls : List Bs) (hn : ls.length ≤ 5000) (hb : Bare v) (w : World) (h : Holds' w v ls) :
    Calls Tryz.prog 106 #[v] w fun e w' => ∃ v', e = .returned v' ∧ OwnS w' w.heap.size v' (srt ls) ∧ Below w.heap.size w w' := by
  by_cases h0 : 0 < ls.length
  · exact sorted_some v ls h0 hn w h
  · have e : ls = [] := List.eq_nil_of_length_eq_zero (by omega)
    subst e
    obtain ⟨a, c, b, o, rfl, _⟩ := h
    exact sorted_nil a c hb w
end Go.Proofs.YtnfhccnicojdcaaGreatDoor
