/-
  The reference's All of groups: what it returns; nothing old turns. The reference's SameList, Same of equal lists, Ones, List: what each returns; nothing old turns. The reference's Ones and List: what each returns; nothing old turns.
-/
import Derived.Test.YtnnagboeimeiiaaGreatDoorSURec
import Derived.Test.YtnnagboeimeiiaaGreatDoorSVOrder
import Derived.Laws.StructEq
import Derived.Deep.QuietTactic
import Derived.BigQuiet
import Derived.Deep.RegionHeld3
namespace Go.Proofs.YtnnagboeimeiiaaGreatDoor
open Go.RowKit
theorem long_miss {l : List Gv} (h : ∀ (j : Nat) y, l[j]? = some y → longG y.1 = false) : (fsts l).any longG = false := by
  rw [List.any_eq_false]
  intro g hg
  obtain ⟨x, hx, rfl⟩ := List.mem_map.1 hg
  obtain ⟨j, hj⟩ := List.mem_iff_getElem?.1 hx
  rw [h j x hj]; simp
theorem long_hit {l : List Gv} {k : Nat} {x : Gv} (h : l[k]? = some x) (hb : longG x.1 = true) : (fsts l).any longG = true := List.any_eq_true.2 ⟨x.1, List.mem_map_of_mem (List.mem_of_getElem? h), hb⟩
theorem all_takeQ {g : List Rl} (h : ∀ (j : Nat) y, g[j]? = some y → rightR y = true) : g.all rightR = true := by
  rw [List.all_eq_true]
  intro y hy
  obtain ⟨j, hj⟩ := List.mem_iff_getElem?.1 hy
  exact h j y hj
theorem all_badQ {g : List Rl} {k : Nat} {x : Rl} (h : g[k]? = some x) (hr : rightR x = false) : g.all rightR = false := by
  rw [List.all_eq_false]
  exact ⟨x, List.mem_of_getElem? h, by rw [hr]; simp⟩
theorem OwnT.formQ {w : World} {B : Nat} {v : Value} {ls : List Bs} (h : OwnT w B v ls) : ∃ a c, v = .slice a ls.length c := by
  obtain ⟨a, c, b, o, e, _⟩ := h.holds; exact ⟨a, c, e⟩
theorem OwnT.onQ {w w' : World} {B : Nat} {v : Value} {ls : List Bs} (h : OwnT w B v ls) (hb : Below w.heap.size w w') : OwnT w' B v ls := World.ownsRow.kept h (grownV hb) (by cases v.ownBlock <;> simp)
end Go.Proofs.YtnnagboeimeiiaaGreatDoor
namespace Go.Proofs.YtnnagboeimeiiaaGreatDoor
open Go.RowKit
end Go.Proofs.YtnnagboeimeiiaaGreatDoor
namespace Go.Proofs.YtnnagboeimeiiaaGreatDoor
open Go.RowKit
theorem OwnQ.lit (w : World) (B : Nat) (P Q Z : ByteArray) (hB : B ≤ w.heap.size) : OwnQ (w.alloc (.cells #[.string P, .string Q, .string Z] 53)) B (.slice (some ⟨w.heap.size, 0, none⟩) 1 1) [(P.data.toList, Q.data.toList, Z.data.toList)] :=
  ⟨cellsQ_len _, rfl, .inr ⟨w.heap.size, 1, #[.string P, .string Q, .string Z], rfl, hB, heap_alloc_new w _, Nat.le_refl _, by decide, rfl, by simp⟩⟩
abbrev onesL (l : List Rl) : List (List Rl) := l.map fun x => [x]
theorem ones_all (l : List Rl) : allE (onesL l) = listE l := by
  unfold allE listE
  have h1 : (onesL l).any longG = false := by
    rw [List.any_eq_false]
    intro g hg
    obtain ⟨x, _, rfl⟩ := List.mem_map.1 hg
    simp [longG]
  have h2 : (onesL l).any badG = !l.all rightR := by
    rw [List.any_map, List.not_all_eq_any_not]
    congr 1
    funext x
    simp [badG]
  have h3 : textA (onesL l) = textQ l := by
    unfold textA textQ
    rw [List.map_map]
    congr 1
    apply List.map_congr_left
    intro x _
    exact Lib.join_one (textR x) sepG
  rw [h1, h2, h3, Bool.or_false, List.length_map]
  by_cases g : 64 < l.length
  · rw [if_pos (by simpa using g), if_pos g]
  · rw [if_neg (by simpa using g), if_neg g]
    cases l.all rightR <;> simp
set_option maxRecDepth 100000 in
set_option maxHeartbeats 8000000 in
theorem ones_ref (v : Value) (l : List Rl) (hl : l.length ≤ 90000) (w : World) (h : HoldQ w v l) : Calls Tryz.prog 76 #[v] w fun e w' => (∃ a c L, e = .returned (.slice a l.length c) ∧ fsts L = onesL l ∧ OwnGs w' w.heap.size (.slice a l.length c) L) ∧ Below w.heap.size w w' := by
  obtain ⟨i0, hi, hz0, hz1, hz2'⟩ := info_parts infoSl
  obtain ⟨a, c, b, o, rfl, hc, ha, hcell⟩ := h.parts
  have HC := Lib.hid hcell
  have HP : Hid (∀ v' L W, fsts L = onesL l → OwnGs W w.heap.size v' L → ∃ a c L, v' = .slice a l.length c ∧ fsts L = onesL l ∧ OwnGs W w.heap.size (.slice a l.length c) L) := Lib.hid (fun v' L W h1 h2 => by
    obtain ⟨a, c, e⟩ := OwnV.form h2.1
    have hlen : L.length = l.length := by have := congrArg List.length h1; simpa [fsts, onesL] using this
    rw [List.length_map, hlen] at e
    subst e
    exact ⟨a, c, L, rfl, h1, h2⟩)
  obtain ⟨n, hN⟩ : ∃ n, l.length = n := ⟨_, rfl⟩
  rw [hN] at hc ha hl HP ⊢
  have HN := Lib.hid hN
  clear hcell hN h
  go_enter Tryz.func76, Tryz.ntmps76
  go_wp2
  go_loopw [3, 4] (fun u i wr => ∃ (k : Nat) (L : List Gv), k ≤ n ∧ i = .int .i64 k ∧ L.length = k ∧ Hid (fsts L = onesL (l.take k)) ∧ Hid (OwnGs wr w.heap.size u L) ∧ Hid (Below w.heap.size w wr)) (fun _ i _ => n - (intOf i).toNat)
  case atStart => exact ⟨0, [], by omega, rfl, rfl, Lib.hid rfl, Lib.hid (OwnGs.nil _ _), Lib.hid (Below.refl _ _)⟩
  case round =>
    obtain ⟨k, L, hk, rfl, hLk, HF, HO, HB⟩ := hrel
    have hsz := HB.out.size
    by_cases hlt : k < n
    · obtain ⟨rfl, hbw⟩ := ha (by omega)
      obtain ⟨⟨p, q, z⟩, hx⟩ : ∃ x, l[k]? = some x := ⟨_, List.getElem?_eq_getElem (by rw [HN.out]; exact hlt)⟩
      obtain ⟨c0, c1, c2⟩ := HC.out k _ hx
      dsimp only at c0 c1 c2
      rw [← HB.out.cell (p := ⟨b, o + k * 3, none⟩) hbw] at c0
      rw [← HB.out.cell (p := ⟨b, o + k * 3 + 1, none⟩) hbw] at c1
      rw [← HB.out.cell (p := ⟨b, o + k * 3 + 2, none⟩) hbw] at c2
      have HF2 : Hid (∀ sv, fsts (L ++ [([(p, q, z)], sv)]) = onesL (l.take (k + 1))) := Lib.hid (fun sv => by
        rw [take_snocQ hx]; simp only [fsts, onesL, List.map_append, List.map_cons, List.map_nil] at *; rw [HF.out])
      have HLT := Lib.hid (OwnQ.lit wr w.heap.size (bsT p) (bsT q) (bsT z) hsz)
      rw [bytesOf, bytesOf, bytesOf] at HLT
      generalize bsT p = P at *
      generalize bsT q = Q at *
      generalize bsT z = Z at *
      have b1 := (Below.refl wr.heap.size wr).alloc (Nat.le_refl _) (.cells #[.string P, .string Q, .string Z] 53)
      have HO1 := Lib.hid (HO.out.on b1)
      have HB1 := Lib.hid (HB.out.trans (b1.mono hsz))
      clear hx b1 HF
      go_wp2_with (at_builtin; refine wpList_append_own _ rfl _ _ 38 rfl w.heap.size 39 i0 _ 1 24 Tryz.underlying38 hi hz0 hz1 hz2' rfl (by decide) _ _ _ rfl (World.ownsRow.alloc HO1.out.1.2 _) ⟨wr.heap.size + 1, 0, none⟩ 1 1 [.slice (some ⟨wr.heap.size, 0, none⟩) 1 1] rfl rfl ?c1 ?c2 ?c3 ?c4 ?c5 ?_)
      case c2 => rfl
      case c3 => unfold maxLen; omega
      case c4 => omega
      case c5 => omega
      intro v' w3 hown' hgrow _
      have HO3 : Hid (OwnGs w3 w.heap.size v' (L ++ [([(p, q, z)], .slice (some ⟨wr.heap.size, 0, none⟩) 1 1)])) := Lib.hid (OwnGs.app HO1.out HLT.out (by rw [hLk]; simpa using hown') hgrow)
      have HB3 : Hid (Below w.heap.size w w3) := Lib.hid (OwnV.below HB1.out HO1.out.1 hgrow (Nat.le_refl _) HB1.out.size)
      have HF3 := Lib.hid (HF2.out (.slice (some ⟨wr.heap.size, 0, none⟩) 1 1))
      have hl3 : (L ++ [([(p, q, z)], Value.slice (some ⟨wr.heap.size, 0, none⟩) 1 1)]).length = k + 1 := by rw [List.length_append, hLk]; rfl
      have HL3 := Lib.hid hl3
      clear hown' hgrow hl3
      go_wp2
      go_roundw
      case rel => exact ⟨k + 1, _, by omega, by go_num, HL3.out, HF3, HO3, HB3⟩
      case measure => simp [intOf]; omega
    · obtain rfl : k = n := by omega
      have hfe : fsts L = onesL l := by rw [HF.out, List.take_of_length_le (by rw [HN.out]; omega)]
      have G := Lib.hid (HP.out _ _ _ hfe HO.out)
      clear hlt hfe
      go_wp2
      obtain ⟨a', c', L', hv, h1, h2⟩ := G.out
      subst hv
      have H1 := Lib.hid h1
      have H2 := Lib.hid h2
      clear h1 h2 G
      go_ret
      exact ⟨⟨_, _, L', rfl, H1.out, H2.out⟩, HB.out⟩
end Go.Proofs.YtnnagboeimeiiaaGreatDoor
