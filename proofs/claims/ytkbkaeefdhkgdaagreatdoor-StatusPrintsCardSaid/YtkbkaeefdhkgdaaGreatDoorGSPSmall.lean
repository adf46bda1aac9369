import Derived.Test.YtkbkaeefdhkgdaaGreatDoorGSPRead
import Derived.Deep.AppendLies
set_option maxRecDepth 100000
set_option maxHeartbeats 32000000
namespace Go.Proofs.YtkbkaeefdhkgdaaGreatDoor
section
open Go.RowKit
theorem tw_of {α : Type} (p : α → Bool) : ∀ (l : List α) (n : Nat), n ≤ l.length → (∀ j x, j < n → l[j]? = some x → p x = true) → (∀ x, l[n]? = some x → p x = false) → l.takeWhile p = l.take n ∧ l.dropWhile p = l.drop n
 | [], n, h, _, _ => by simp
 | a :: l, 0, _, _, h2 => by
  have := h2 a rfl
  rw [List.takeWhile_cons, List.dropWhile_cons, this]; simp
 | a :: l, n + 1, h, h1, h2 => by
  have h0 := h1 0 a (by omega) rfl
  obtain ⟨e1, e2⟩ := tw_of p l n (by simpa using h) (fun j x hj hx => h1 (j + 1) x (by omega) (by simpa using hx)) (fun x hx => h2 x (by simpa using hx))
  rw [List.takeWhile_cons, List.dropWhile_cons, if_pos h0, if_pos h0, e1, e2]; simp
theorem HoldT.part {W : World} {b o : Nat} {ls : List Bs} {a : Option Addr} (hc : ∀ (j : Nat) (l : Bs), ls[j]? = some l → W.cell? ⟨b, o + j, none⟩ = some (.string ⟨l.toArray⟩)) (hb : b < W.heap.size) (k n c : Nat) (hn : n ≤ c) (hm : k + n ≤ ls.length) (ha : 0 < n → a = some ⟨b, o + k, none⟩) : HoldT W (.slice a n c) ((ls.drop k).take n) := by
 have hl : ((ls.drop k).take n).length = n := by rw [List.length_take, List.length_drop]; omega
 refine ⟨a, c, b, o + k, by rw [hl], by rw [hl]; exact hn, fun h => ⟨ha (by rw [hl] at h; exact h), hb⟩, fun j l hj => ?_⟩
 have hjn : j < n := by have := (List.getElem?_eq_some_iff.1 hj).1; rw [hl] at this; exact this
 rw [List.getElem?_take, if_pos hjn, List.getElem?_drop] at hj
 rw [Nat.add_assoc]; exact hc _ l hj
theorem OwnF.on {w w' : World} {base : Nat} {v : Value} {st : List Fld} (h : OwnF w base v st) (hb : Below w.heap.size w w') : OwnF w' base v st := World.ownsRow.kept h (grown_below hb) (by cases v.ownBlock <;> simp)
theorem slice_eq {a : Option Addr} {n1 n2 c1 c2 : Nat} (h1 : n1 = n2) (h2 : c1 = c2) : Value.slice a n1 c1 = .slice a n2 c2 := by rw [h1, h2]
def FieldsPost (ls : List Bs) (w : World) (e : Ending) (w' : World) : Prop := ∃ v, e = .returned v ∧ OwnF w' w.heap.size v (readFlds ls) ∧ Below w.heap.size w w'
def Blank (ls : List Bs) (k e : Nat) : Prop := ∀ j x, 1 ≤ j → j < e → ls[k + j]? = some x → hbB x = true
theorem Blank.next {ls : List Bs} {k e : Nat} {x : Bs} (h : Blank ls k e) (hx : ls[k + e]? = some x) (hb : hbB x = true) : Blank ls k (e + 1) := fun j y h1 h2 hy => by
 rcases Nat.lt_or_ge j e with h3 | h3
 ·
  exact h j y h1 h3 hy
 ·
  obtain rfl : j = e := by omega
  rw [hx] at hy; cases hy; exact hb
theorem fields_step {ls : List Bs} {k e : Nat} {p : Bs} (hp : ls[k]? = some p) (h1 : 1 ≤ e) (he : k + e ≤ ls.length) (h : Blank ls k e) (hx : ∀ x, ls[k + e]? = some x → hbB x = false) : readFlds (ls.drop k) = readFld p ((ls.drop (k + 1)).take (e - 1)) :: readFlds (ls.drop (k + e)) := by
 have hk := (List.getElem?_eq_some_iff.1 hp).1
 have hpk := (List.getElem?_eq_some_iff.1 hp).2
 obtain ⟨t1, t2⟩ := tw_of hbB (ls.drop (k + 1)) (e - 1) (by rw [List.length_drop]; omega) (fun j x hj hx' => h (j + 1) x (by omega) (by omega) (by rw [List.getElem?_drop] at hx'; rw [← hx']; congr 1; omega)) (fun x hx' => hx x (by rw [List.getElem?_drop] at hx'; rw [← hx']; congr 1; omega))
 rw [List.drop_eq_getElem_cons hk, hpk, readFlds_cons, t1, t2, List.drop_drop]
 congr 3; omega
theorem pre_blank (l : Bs) : Lib.hasPrefix l [32] = hbB l := by
 rw [pre32]; unfold hbB
 cases h : l.head? with
 | none => simp
 | some c => by_cases e : c = 32 <;> simp [e]
theorem readFields_any (v : Value) (ls : List Bs) (hm : ls.length ≤ 90000) (hml : ∀ p ∈ ls, p.length ≤ 90000) (w : World) (h : HoldT w v ls) :
  Calls Tryz.prog 66 #[v] w (FieldsPost ls w) := by
 have HP : ∀ (s : ByteArray) w, Calls Tryz.prog 114 #[.string s, .string ⟨#[32]⟩] w fun e w' => e = .returned (.bool (hbB s.data.toList)) ∧ w = w' := fun s w => (Tryz.strings_HasPrefix s ⟨#[32]⟩ w).mono fun e w' hp => by
  have e2 : Lib.hasPrefix s.data.toList (ByteArray.mk #[32]).data.toList = hbB s.data.toList := pre_blank _
  rw [e2] at hp
  exact ⟨hp.1, hp.2.symm⟩
 obtain ⟨i0, hi, hz0, hz1, hz2⟩ := info_parts infoF
 obtain ⟨a, c, b, o, rfl, hc, ha, hcell⟩ := h
 have HCL := Lib.hid hcell
 have HM := Lib.hid hml
 obtain ⟨m, hN⟩ : ∃ m, ls.length = m := ⟨_, rfl⟩
 rw [hN] at hc ha hm ⊢
 have HN := Lib.hid hN
 clear hcell hml hN
 go_enter Tryz.func66, Tryz.ntmps66
 go_wp2
 go_loopw [0, 3, 4] (fun r u _ wr => ∃ (k : Nat) (a : Option Addr) (out : List Fld), k ≤ m ∧ r = .slice a (m - k) (c - k) ∧ (k < m → a = some ⟨b, o + k, none⟩ ∧ b < w.heap.size) ∧ out.length ≤ k ∧ Hid (readFlds ls = out ++ readFlds (ls.drop k)) ∧ Hid (OwnF wr w.heap.size u out) ∧ Hid (Below w.heap.size w wr)) (fun r _ _ _ => match r with | .slice _ n _ => n | _ => 0)
 case atStart => exact ⟨0, a, [], by omega, rfl, ha, Nat.le_refl _, Lib.hid rfl, Lib.hid (OwnF.nil _ _), Lib.hid (Below.refl _ _)⟩
 case round =>
  obtain ⟨k, a, out, hk, rfl, ha, hol, HF, HO, HB⟩ := hrel
  by_cases hlt : k < m
  ·
   obtain ⟨rfl, hbw⟩ := ha hlt
   obtain ⟨n, hn⟩ : ∃ n, m - k = n := ⟨_, rfl⟩
   obtain ⟨cc, hcc⟩ : ∃ cc, c - k = cc := ⟨_, rfl⟩
   rw [hn, hcc]
   have hkn : k + n = m := by omega
   have hck : c = k + cc := by omega
   have hnc : n ≤ cc := by omega
   have hg : 0 < n := by omega
   have hcell : ∀ (j : Nat) (l : Bs), ls[j]? = some l → wr.cell? ⟨b, o + j, none⟩ = some (.string ⟨l.toArray⟩) := fun j l hj => (HB.out.cell (p := ⟨b, o + j, none⟩) hbw).trans (HCL.out j l hj)
   obtain ⟨p, hp⟩ : ∃ p, ls[k]? = some p := ⟨_, List.getElem?_eq_getElem (by rw [HN.out]; exact hlt)⟩
   obtain ⟨P, hP⟩ : ∃ P : ByteArray, P.data.toList = p := ⟨⟨p.toArray⟩, by simp⟩
   have hc0 : wr.cell? ⟨b, o + k, none⟩ = some (.string P) := by rw [strOf hP]; exact hcell k p hp
   have HCL2 := Lib.hid hcell
   have HPP := Lib.hid hp
   have HP2 := Lib.hid hP
   obtain ⟨wo, rfl⟩ : ∃ wo : World, wo = wr := ⟨_, rfl⟩
   have hsz := HB.out.size
   clear hcell hp hP ha hlt hn hcc
   go_wp2
   go_loopw [4] (fun e wr => ∃ j : Nat, e = .int .i64 j ∧ 1 ≤ j ∧ j ≤ n ∧ Hid (Blank ls k j) ∧ Hid (wr = wo)) (fun e _ => n - (intOf e).toNat)
   case atStart => exact ⟨1, rfl, Nat.le_refl _, hg, Lib.hid (fun j x h1 h2 => by omega), Lib.hid rfl⟩
   case round =>
    obtain ⟨j, rfl, h1, hjn, HBL, HW⟩ := hrel
    obtain rfl := HW.out
    clear HW
    by_cases hA : ∃ x, ls[k + j]? = some x ∧ hbB x = true
    ·
     obtain ⟨x, hx, hbx⟩ := hA
     have hj : j < n := by have := (List.getElem?_eq_some_iff.1 hx).1; rw [HN.out] at this; omega
     obtain ⟨X, hX⟩ : ∃ X : ByteArray, X.data.toList = x := ⟨⟨x.toArray⟩, by simp⟩
     have hcx : wr.cell? ⟨b, o + k + j, none⟩ = some (.string X) := by rw [Nat.add_assoc, strOf hX]; exact HCL2.out (k + j) x hx
     have HNX := Lib.hid (HBL.out.next hx hbx)
     have H1 := fun w => HP X w
     rw [hX, hbx] at H1
     clear hx hbx hX
     go_wp2_with (go_at_call 114; (with_reducible refine (H1 _).mono ?_); rintro e w1 ⟨rfl, rfl⟩)
     go_roundw
     case rel => exact ⟨j + 1, by go_num, by omega, by omega, HNX, (by first | exact Lib.hid rfl | exact Lib.hid trivial)⟩
     case measure => simp [intOf]; omega
    ·
     have HST := Lib.hid (fields_step HPP.out h1 (by rw [HN.out]; omega) HBL.out (fun x hx => by
      cases g : hbB x
      ·
       rfl
      ·
       exact absurd ⟨x, hx, g⟩ hA))
     have hml : ((ls.drop (k + 1)).take (j - 1)).length = j - 1 := by rw [List.length_take, List.length_drop, HN.out]; omega
     obtain ⟨X, hX⟩ : ∃ X : ByteArray, X.data.toList = (readFld p ((ls.drop (k + 1)).take (j - 1))).1 := ⟨⟨((readFld p ((ls.drop (k + 1)).take (j - 1))).1).toArray⟩, by simp⟩
     obtain ⟨Y, hY⟩ : ∃ Y : ByteArray, Y.data.toList = (readFld p ((ls.drop (k + 1)).take (j - 1))).2 := ⟨⟨((readFld p ((ls.drop (k + 1)).take (j - 1))).2).toArray⟩, by simp⟩
     have HXY := Lib.hid (And.intro hX hY)
     have RF : ∀ W (a : Option Addr), (0 < j - 1 → a = some ⟨b, o + k + 1, none⟩) → Below wr.heap.size wr W → Calls Tryz.prog 115 #[.string P, .slice a (j - 1) (cc - 1)] W fun e w' => e = .returned (.agg #[.string X, .string Y]) ∧ Below W.heap.size W w' := fun W a ha hW => by
      have hbW : b < wr.heap.size := by omega
      have := readField_any P (.slice a (j - 1) (cc - 1)) ((ls.drop (k + 1)).take (j - 1)) (by rw [sizeOf, HP2.out]; exact HM.out p (List.mem_of_getElem? HPP.out)) (by rw [hml]; omega)
       (fun q hq => HM.out q (List.mem_of_mem_drop (List.mem_of_mem_take hq)))
       (fun q hq => by
        obtain ⟨t, ht, rfl⟩ := List.getElem_of_mem hq
        have ht2 : ls[k + (t + 1)]? = some ((ls.drop (k + 1)).take (j - 1))[t] := by
         rw [← List.getElem?_eq_getElem ht, List.getElem?_take, if_pos (by rw [hml] at ht; exact ht), List.getElem?_drop]; congr 1; omega
        have := HBL.out (t + 1) _ (by omega) (by rw [hml] at ht; omega) ht2
        unfold hbB at this
        simpa using this) W (HoldT.part (fun i l hi => (hW.cell (p := ⟨b, o + i, none⟩) hbW).trans (HCL2.out i l hi)) (by have := hW.size; omega) (k + 1) (j - 1) (cc - 1) (by omega) (by rw [HN.out]; omega) (fun h => ha h))
      rw [HP2.out] at this
      unfold ReadPost fldV at this
      rw [← hX, ← hY, ← strOf (x := X) rfl, ← strOf (x := Y) rfl] at this
      exact this
     have HRF := Lib.hid RF
     have HNF : Hid (readFlds ls = (out ++ [(X.data.toList, Y.data.toList)]) ++ readFlds (ls.drop (k + j))) := Lib.hid (by rw [HF.out, HST.out, hX, hY]; simp)
     clear hml hX hY RF HST
     have hkey : j = n ∨ (j < n ∧ ∃ Z : ByteArray, hbB Z.data.toList = false ∧ wr.cell? ⟨b, o + k + j, none⟩ = some (.string Z)) := by
      rcases Nat.lt_or_ge j n with hj | hj
      ·
       refine .inr ⟨hj, ?_⟩
       obtain ⟨x, hx⟩ : ∃ x, ls[k + j]? = some x := ⟨_, List.getElem?_eq_getElem (by rw [HN.out]; omega)⟩
       refine ⟨⟨x.toArray⟩, ?_, by rw [Nat.add_assoc]; exact HCL2.out (k + j) x hx⟩
       cases g : hbB x
       ·
        rfl
       ·
        exact absurd ⟨x, hx, g⟩ hA
      ·
       exact .inl (by omega)
     clear hA
     rcases hkey with rfl | ⟨hj, Z, hz, hcz⟩
     case' inl => go_wp2
     case' inr =>
      have H1 := fun w => HP Z w
      rw [hz] at H1
      clear hz
      go_wp2_with (go_at_call 114; (with_reducible refine (H1 _).mono ?_); rintro e w1 ⟨rfl, rfl⟩)
     all_goals
      obtain ⟨ol, hol2⟩ : ∃ ol, out.length = ol := ⟨_, rfl⟩
      have HOL := Lib.hid hol2
      rw [hol2] at hol
      clear hol2
      have hjc : j ≤ cc := by omega
      have h1i : (1 : Int) ≤ (j : Int) := by omega
      have hcd : wr.drew.cell? ⟨b, o + k, none⟩ = some (.string P) := hc0
      go_region_law (first
       | (refine step_append_lies _ rfl _ _ 51 rfl w.heap.size 79 i0 (.agg #[.string ⟨#[]⟩, .string ⟨#[]⟩]) 2 32 Tryz.underlying51 hi hz0 hz1 hz2 rfl (by decide) _ _ _ rfl (World.ownsRow.alloc HO1.out _) ⟨w1.heap.size, 0, none⟩ 1 1 [.string X, .string Y] rfl rfl (news2 X Y _ rfl) (one2 X Y) (by decide) (by rw [HOL.out]; unfold maxLen; omega) (by rw [HOL.out]; omega) (by simp; omega) _ rfl ?_; intro g cap w2 hown' hgrow _ _; have HO2 := Lib.hid (OwnF.app (f := (X.data.toList, Y.data.toList)) rfl rfl hown'); have HB2 := Lib.hid (below_row (HB.out.trans (HB1.out.mono hsz)) HO1.out hgrow (Nat.le_refl _) (by omega)); clear hown' hgrow; rw [HOL.out])
       | (go_simp; go_at_call 115; refine (HRF.out _ _ (by intro h; first | rfl | exact if_neg (by omega)) (Below.refl _ _).drew).mono ?_; rintro e w1 ⟨rfl, hb⟩; have HB1 : Hid (Below wr.heap.size wr w1) := Lib.hid ((Below.refl _ _).drew.trans hb); have hsz1 := HB1.out.size; have HO1 := Lib.hid (HO.out.on HB1.out); clear hb))
      have HO3 := HO2.out
      rw [HOL.out] at HO3
      have HO4 := Lib.hid HO3
      have hlo : (out ++ [(X.data.toList, Y.data.toList)]).length ≤ k + j := by rw [List.length_append, HOL.out]; show ol + 1 ≤ k + j; omega
      clear HO3
      go_wp2
      go_roundw
      case' rel => refine ⟨k + j, _, out ++ [(X.data.toList, Y.data.toList)], by omega, slice_eq (by omega) (by omega), (fun h => ⟨by first | exact absurd h (by omega) | exact (by rw [← Nat.add_assoc]; exact if_neg (by omega)) | (rw [← Nat.add_assoc]), hbw⟩), hlo, HNF, HO4, HB2⟩
      case' measure => (simp; try omega)
  ·
   obtain rfl : k = m := by omega
   have HE : Hid (readFlds ls = out) := Lib.hid (by rw [HF.out, List.drop_eq_nil_of_le (by rw [HN.out]; omega), readFlds_nil, List.append_nil])
   rw [Nat.sub_self]
   clear HF
   go_wp2
   go_ret
   exact ⟨_, rfl, by rw [HE.out]; exact HO.out, HB.out⟩
end
section
open Go.RowKit
def IdxE (ls : List Bs) (e : Ending) : Prop := (∃ k : Nat, e = .returned (.int .i64 k) ∧ k < ls.length ∧ ls.all neB = false ∧ ls.takeWhile neB = ls.take k ∧ ls.dropWhile neB = ls.drop k) ∨ (e = .returned (.int .i64 (-1)) ∧ ls.all neB = true)
theorem idx_at {ls : List Bs} {k : Nat} (hk : ls[k]? = some []) (h : ∀ j x, j < k → ls[j]? = some x → neB x = true) : IdxE ls (.returned (.int .i64 k)) := by
 have hl := (List.getElem?_eq_some_iff.1 hk).1
 obtain ⟨t1, t2⟩ := tw_of neB ls k (by omega) h (fun x hx => by rw [hk] at hx; cases hx; rfl)
 refine .inl ⟨k, rfl, hl, ?_, t1, t2⟩
 cases g : ls.all neB
 ·
  rfl
 ·
  have := List.all_eq_true.1 g [] (List.mem_of_getElem? hk)
  exact absurd this (by decide)
theorem idx_none {ls : List Bs} (h : ∀ j x, j < ls.length → ls[j]? = some x → neB x = true) : IdxE ls (.returned (.int .i64 (-1))) := by
 refine .inr ⟨rfl, List.all_eq_true.2 fun x hx => ?_⟩
 obtain ⟨j, hj, rfl⟩ := List.getElem_of_mem hx
 exact h j _ hj (List.getElem?_eq_getElem hj)
theorem ne_of {x : ByteArray} (h : x.size ≠ 0) : neB x.data.toList = true := by
 unfold neB
 cases g : x.data.toList with
 | nil => exact absurd (by rw [sizeOf, g]; rfl) h
 | cons _ _ => rfl
theorem index_any (v : Value) (ls : List Bs) (hm : ls.length ≤ 90000) (w : World) (h : HoldT w v ls) :
  Calls Tryz.prog 65 #[v, .string ⟨#[]⟩] w fun e w' => IdxE ls e ∧ w = w' := by
 obtain ⟨a, c, b, o, rfl, hc, ha, hcell⟩ := h
 have HCL := Lib.hid hcell
 obtain ⟨m, hN⟩ : ∃ m, ls.length = m := ⟨_, rfl⟩
 rw [hN] at hc ha hm ⊢
 have HN := Lib.hid hN
 clear hcell hN
 go_enter Tryz.func65, Tryz.ntmps65
 go_wp2
 go_loopw [8] (fun i wr => ∃ k : Nat, k ≤ m ∧ i = .int .i64 k ∧ Hid (∀ j x, j < k → ls[j]? = some x → neB x = true) ∧ Hid (w = wr)) (fun i _ => m - (intOf i).toNat)
 case atStart => exact ⟨0, by omega, rfl, Lib.hid (fun j x h => by omega), Lib.hid rfl⟩
 case round =>
  obtain ⟨k, hk, rfl, HA, HW⟩ := hrel
  obtain rfl := HW.out
  by_cases hlt : k < m
  ·
   obtain ⟨rfl, hbw⟩ := ha (by omega)
   obtain ⟨x, hx⟩ : ∃ x, ls[k]? = some x := ⟨_, List.getElem?_eq_getElem (by rw [HN.out]; exact hlt)⟩
   obtain ⟨X, hX⟩ : ∃ X : ByteArray, X.data.toList = x := ⟨⟨x.toArray⟩, by simp⟩
   have hcx : w.cell? ⟨b, o + k, none⟩ = some (.string X) := by rw [strOf hX]; exact HCL.out k x hx
   have he := emptyT X
   by_cases h0 : X.size = 0
   ·
    rw [decide_eq_true h0] at he
    have hxn : x = [] := by rw [← hX]; exact List.eq_nil_of_length_eq_zero (by rw [← sizeOf]; exact h0)
    have HR := Lib.hid (idx_at (by rw [hx, hxn]) HA.out)
    clear hx hX h0 hxn HA
    go_wp2
    go_ret
    exact ⟨HR.out, rfl⟩
   ·
    rw [decide_eq_false h0] at he
    have HNX : Hid (∀ j y, j < k + 1 → ls[j]? = some y → neB y = true) := Lib.hid (fun j y hj hy => by
     rcases Nat.lt_or_ge j k with h3 | h3
     ·
      exact HA.out j y h3 hy
     ·
      obtain rfl : j = k := by omega
      rw [hx] at hy; cases hy; rw [← hX]; exact ne_of h0)
    clear hx hX h0 HA
    go_wp2
    go_roundw
    case rel => exact ⟨k + 1, by omega, by go_num, HNX, (by first | exact Lib.hid rfl | exact Lib.hid trivial)⟩
    case measure => simp [intOf]; omega
  ·
   obtain rfl : k = m := by omega
   have HR := Lib.hid (idx_none (ls := ls) (fun j x hj => HA.out j x (by rw [HN.out] at hj; exact hj)))
   clear HA
   go_wp2
   go_ret
   exact ⟨HR.out, rfl⟩
end
section
open Go.RowKit
theorem joinC_tails : ∀ (t : Bs) (ms : List Bs), (joinC 10 (t :: ms.map List.tail)).length ≤ t.length + lenS ms
 | t, [] => by simp [joinC, lenS]
 | t, m :: ms => by
  have ih := joinC_tails m.tail ms
  rw [List.map_cons, joinC, List.length_append, List.length_cons]
  have h1 : m.tail.length ≤ m.length := by simp
  have h2 : lenS (m :: ms) = m.length + 1 + lenS ms := by simp [lenS]
  omega
theorem trim1_len (x : Bs) : (trim1 x).length ≤ x.length := by
 unfold trim1
 split
 ·
  rw [List.length_tail]; omega
 ·
  exact Nat.le_refl _
theorem dropW_nil {α : Type} (p : α → Bool) : ∀ l : List α, l.dropWhile p = [] → l.all p = true
 | [], _ => rfl
 | a :: l, h => by
  rw [List.dropWhile_cons] at h
  split at h
  ·
   rename_i ha
   rw [List.all_cons, ha, dropW_nil p l h]; rfl
  ·
   cases h
theorem readFld_len (p : Bs) (ms : List Bs) : wF (readFld p ms) ≤ 3 * lenS (p :: ms) := by
 have h1 := joinC_tails (trim1 (p.drop (colonAt p + 1))) ms
 have h2 : (trim1 (p.drop (colonAt p + 1))).length ≤ (p.drop (colonAt p + 1)).length := trim1_len _
 have h3 : (p.take (colonAt p)).length + (p.drop (colonAt p + 1)).length ≤ p.length := by rw [List.length_take, List.length_drop]; omega
 have h4 : lenS (p :: ms) = p.length + 1 + lenS ms := by simp [lenS]
 unfold wF readFld
 show (p.take (colonAt p)).length + 3 * (joinC 10 (trim1 (p.drop (colonAt p + 1)) :: ms.map List.tail)).length + 3 ≤ _
 omega
theorem lenS_app (a b : List Bs) : lenS (a ++ b) = lenS a + lenS b := by simp [lenS]
theorem readFlds_len : ∀ (n : Nat) (ls : List Bs), ls.length ≤ n → wFs (readFlds ls) ≤ 3 * lenS ls
 | _, [], _ => by rw [readFlds_nil]; simp [wFs]
 | 0, _ :: _, h => by simp at h
 | n + 1, p :: ps, h => by
  have hd := dropW_le hbB ps
  rw [List.length_cons] at h
  have ih := readFlds_len n (ps.dropWhile hbB) (by omega)
  have h1 := readFld_len p (ps.takeWhile hbB)
  have h2 := lenS_app (ps.takeWhile hbB) (ps.dropWhile hbB)
  rw [List.takeWhile_append_dropWhile] at h2
  have h3 : ∀ q : List Bs, lenS (p :: q) = p.length + 1 + lenS q := fun q => by simp [lenS]
  rw [readFlds_cons]
  have h4 : wFs (readFld p (ps.takeWhile hbB) :: readFlds (ps.dropWhile hbB)) = wF (readFld p (ps.takeWhile hbB)) + wFs (readFlds (ps.dropWhile hbB)) := by simp only [wFs, List.map_cons, List.sum_cons]
  rw [h3] at h1 ⊢
  omega
theorem lenS_pos {ls : List Bs} (h : ls ≠ []) : 1 ≤ lenS ls := by
 cases ls with
 | nil => exact absurd rfl h
 | cons p ps => simp only [lenS, List.map_cons, List.sum_cons]; omega
theorem readSs_len : ∀ (n : Nat) (ls : List Bs), ls.length ≤ n → wS (readSs ls) ≤ 4 * lenS ls
 | _, [], _ => by rw [readSs_nil]; simp [wS]
 | 0, _ :: _, h => by simp at h
 | n + 1, p :: ps, h => by
  have hp := lenS_pos (ls := p :: ps) (by simp)
  cases ha : (p :: ps).all neB with
  | true =>
   have h1 := readFlds_len _ (p :: ps) (Nat.le_refl _)
   rw [readSs_last (by simp) ha]
   show ([readFlds (p :: ps)].map fun st => wFs st + 1).sum ≤ _
   rw [List.map_cons, List.map_nil, List.sum_cons, List.sum_nil]
   omega
  | false =>
   have hd := dropN_lt (p :: ps) (by simp)
   have ih := readSs_len n (((p :: ps).dropWhile neB).drop 1) (by omega)
   have h1 := readFlds_len _ ((p :: ps).takeWhile neB) (Nat.le_refl _)
   have h2 := lenS_app ((p :: ps).takeWhile neB) ((p :: ps).dropWhile neB)
   rw [List.takeWhile_append_dropWhile] at h2
   have h3 : lenS (((p :: ps).dropWhile neB).drop 1) + 1 ≤ lenS ((p :: ps).dropWhile neB) := by
    cases hq : (p :: ps).dropWhile neB with
    | nil =>
     have h9 := dropW_nil neB _ hq
     rw [ha] at h9; cases h9
    | cons x xs => simp only [List.drop_succ_cons, List.drop_zero, lenS, List.map_cons, List.sum_cons]; omega
   rw [readSs_cut ha]
   have h4 : wS (readFlds ((p :: ps).takeWhile neB) :: readSs (((p :: ps).dropWhile neB).drop 1)) = wFs (readFlds ((p :: ps).takeWhile neB)) + 1 + wS (readSs (((p :: ps).dropWhile neB).drop 1)) := by simp only [wS, List.map_cons, List.sum_cons]
   omega
theorem readSs_small {s : Bs} {ls : List Bs} (h : linesO s = some ls) : Small (readSs ls) (4 * (s.length + 1)) := by
 unfold linesO at h
 split at h
 ·
  cases h
  refine small_of ?_
  have h1 := readSs_len _ (spl 10 s).dropLast (Nat.le_refl _)
  have h2 := drop_sum (spl 10 s)
  rw [spl_sum] at h2
  omega
 ·
  cases h
end
end Go.Proofs.YtkbkaeefdhkgdaaGreatDoor
