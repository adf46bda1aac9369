/-
  Lists of relations as texts: joined, groupText; what each returns; nothing old turns.
-/
import Derived.Test.YtpkdnohaefkfgaaGreatDoorGBRight
import Derived.Test.YtpkdnohaefkfgaaGreatDoorGQHold
import Derived.Test.YtpkdnohaefkfgaaGreatDoorGShelf
namespace Go.Proofs.YtpkdnohaefkfgaaGreatDoor
open Go.RowKit
theorem joinM_len (sep : Bs) (N : Nat) : ∀ (l : List Bs), (∀ p ∈ l, p.length ≤ N) → (Lib.join l sep).length ≤ l.length * (N + sep.length)
  | [], _ => by simp [Lib.join, List.intercalate]
  | [p], h => by have := h p (by simp); rw [Lib.join_one]; simp; omega
  | p :: q :: ps, h => by
    have h1 := joinM_len sep N (q :: ps) (fun x hx => h x (List.mem_cons_of_mem _ hx))
    have h2 := h p (by simp)
    rw [join_two, List.length_append, List.length_append, List.length_cons (a := p), Nat.add_mul]
    omega
theorem joinM_any (sep : ByteArray) (hsep : sep.size ≤ 10) (v : Value) (ls : List Bs) (hl : ls.length ≤ 90000) (hs : ∀ p ∈ ls, p.length ≤ 10000000) (w : World) (h : HoldT w v ls) :
    Calls Tryz.prog 90 #[v, .string sep] w fun e w' => e = .returned (.string (bsT (Lib.join ls sep.data.toList))) ∧ Below w.heap.size w w' := by
  obtain ⟨a, c, b, o, rfl, hc, ha, hcell⟩ := h
  by_cases h0 : ls = []
  · subst h0
    exact (Tryz.strings_Join_none a c sep w).mono (fun _ _ hp => ⟨hp.1, by rw [hp.2]; exact Below.refl _ _⟩)
  have h1 : 0 < ls.length := List.length_pos_iff.2 h0
  obtain ⟨rfl, hb⟩ := ha h1
  have hm : (ls.map fun l => ByteArray.mk l.toArray).map (fun x => x.data.toList) = ls := by
    rw [List.map_map]; conv => rhs; rw [← List.map_id ls]
    exact List.map_congr_left (fun l _ => by simp)
  have hj := joinM_len sep.data.toList 10000000 ls hs
  rw [← sizeOf] at hj
  have hjj : ls.length * (10000000 + sep.size) ≤ 90000 * 10000010 := Nat.mul_le_mul hl (by omega)
  have := Tryz.strings_Join b o c (ls.map fun l => ByteArray.mk l.toArray) sep w (fun j x hx => by
    rw [List.getElem?_map] at hx
    cases hg : ls[j]? with
    | none => rw [hg] at hx; cases hx
    | some l => rw [hg] at hx; obtain rfl := Option.some.inj hx; exact hcell j l hg) hb (by rw [List.length_map]; omega) (by rw [List.length_map]; exact hc) (by rw [hm]; omega)
  rw [hm, List.length_map] at this
  exact this
theorem map_snocQ {α β : Type} (f : α → β) {l : List α} {k : Nat} {x : α} (h : l[k]? = some x) : (l.take (k + 1)).map f = (l.take k).map f ++ [f x] := by
  rw [List.take_add_one, h, List.map_append]; rfl
/-- Small: each part of at most 4000 bytes. -/
def SmallQ (l : List Rl) : Prop := ∀ x ∈ l, x.1.length ≤ 4000 ∧ x.2.1.length ≤ 4000 ∧ x.2.2.length ≤ 4000
theorem textR_len {x : Rl} (h : x.1.length ≤ 4000 ∧ x.2.1.length ≤ 4000 ∧ x.2.2.length ≤ 4000) : (textR x).length ≤ 12004 := by
  unfold textR
  split
  · omega
  · simp; omega
theorem textG_len {g : List Rl} (h : SmallQ g) (hl : g.length ≤ 500) : (textG g).length ≤ 7000000 := by
  have := joinM_len sepG 12004 (g.map textR) (fun p hp => by obtain ⟨x, hx, rfl⟩ := List.mem_map.1 hp; exact textR_len (h x hx))
  rw [List.length_map] at this
  have h2 : g.length * (12004 + sepG.length) ≤ 500 * 12007 := Nat.mul_le_mul_right _ hl
  unfold textG; omega
set_option maxRecDepth 100000 in
set_option maxHeartbeats 8000000 in
theorem joinedR_any (sep : ByteArray) (hsep : sep.size ≤ 10) (v : Value) (l : List Rl) (hl : l.length ≤ 90000) (hs : SmallQ l) (w : World) (h : HoldQ w v l) :
    Calls Tryz.prog 69 #[v, .string sep, .func (.func 70) #[] #[]] w fun e w' => e = .returned (.string (bsT (Lib.join (l.map textR) sep.data.toList))) ∧ Below w.heap.size w w' := by
  obtain ⟨a, c, b, o, rfl, hc, ha, hcell⟩ := h.parts
  obtain ⟨i0, hi, hz0, hz1, hz2'⟩ := info_parts infoT
  have HC := Lib.hid hcell
  have HS := Lib.hid hs
  have HSEP := Lib.hid hsep
  have EN : ∀ args w, (callFunc 70 args).run Tryz.prog w = .ok (.enter 70 args) w := enters_of Tryz.func70 (by kernel_rfl) rfl
  obtain ⟨R, hR⟩ : ∃ R, bsT (Lib.join (l.map textR) sep.data.toList) = R := ⟨_, rfl⟩
  rw [hR]
  have HR := Lib.hid hR
  obtain ⟨n, hN⟩ : ∃ n, l.length = n := ⟨_, rfl⟩
  rw [hN] at hc ha hl ⊢
  have HN := Lib.hid hN
  clear hcell hN h hs hsep hR
  go_enter Tryz.func69, Tryz.ntmps69
  go_wp2
  go_loopw [7, 12] (fun u i wr => ∃ k : Nat, k ≤ n ∧ i = .int .i64 k ∧ Hid (OwnT wr w.heap.size u ((l.take k).map textR)) ∧ Hid (Below w.heap.size w wr)) (fun _ i _ => n - (intOf i).toNat)
  case atStart => exact ⟨0, by omega, rfl, Lib.hid (OwnT.nil _ _), Lib.hid (Below.refl _ _)⟩
  case round =>
    obtain ⟨k, hk, rfl, HO, HB⟩ := hrel
    have hsz := HB.out.size
    by_cases hlt : k < n
    · obtain ⟨rfl, hbw⟩ := ha (by omega)
      obtain ⟨⟨p, q, z⟩, hx⟩ : ∃ x, l[k]? = some x := ⟨_, List.getElem?_eq_getElem (by rw [HN.out]; exact hlt)⟩
      obtain ⟨c0, c1, c2⟩ := HC.out k _ hx
      have hsm := HS.out _ (List.mem_of_getElem? hx)
      dsimp only at c0 c1 c2 hsm
      rw [← HB.out.cell (p := ⟨b, o + k * 3, none⟩) hbw] at c0
      rw [← HB.out.cell (p := ⟨b, o + k * 3 + 1, none⟩) hbw] at c1
      rw [← HB.out.cell (p := ⟨b, o + k * 3 + 2, none⟩) hbw] at c2
      have TX := fun W => textR_any (bsT p) (bsT q) (bsT z) (by rw [sizeOf, bytesOf]; omega) (by rw [sizeOf, bytesOf]; omega) (by rw [sizeOf, bytesOf]; omega) W
      rw [bytesOf, bytesOf, bytesOf] at TX
      have HSN := Lib.hid (map_snocQ textR hx)
      obtain ⟨T, hT⟩ : ∃ T : ByteArray, (⟨(textR (p, q, z)).toArray⟩ : ByteArray) = T := ⟨_, rfl⟩
      have HT : Hid (T.data.toList = textR (p, q, z)) := Lib.hid (by rw [← hT])
      rw [hT] at TX
      have hlen : ((l.take k).map textR).length = k := by rw [List.length_map, List.length_take, HN.out]; omega
      obtain ⟨L, hL⟩ : ∃ L, (l.take k).map textR = L := ⟨_, rfl⟩
      rw [hL] at HO hlen HSN
      have HLEN := Lib.hid hlen
      generalize bsT p = P at *
      generalize bsT q = Q at *
      generalize bsT z = Z at *
      have B0 := (Below.refl wr.heap.size wr).alloc (Nat.le_refl _) (.cells #[.string P, .string Q, .string Z] 41)
      have HB0 := Lib.hid (HB.out.trans (B0.mono hsz))
      have HO0 : Hid (OwnT (wr.alloc (.cells #[.string P, .string Q, .string Z] 41)) w.heap.size u7 L) := Lib.hid (World.ownsRow.alloc HO.out _)
      clear hx hT hlen hsm B0 HO HB hL
      go_wp2_with (first
        | (go_at_fn 70; (with_reducible refine (TX _).mono ?_); rintro e w2 ⟨rfl, hb⟩; have HB2 := Lib.hid (HB0.out.trans (hb.mono HB0.out.size)); have HO2 : Hid (OwnT w2 w.heap.size u7 L) := Lib.hid (World.ownsRow.kept HO0.out (grownV hb) (by cases u7.ownBlock <;> simp)); have hz2 := HB2.out.size; clear hb TX)
        | (at_builtin; refine wpList_append_own _ rfl _ _ 29 rfl w.heap.size 9 i0 _ 1 16 Tryz.underlying29 hi hz0 hz1 hz2' rfl (by decide) _ _ _ rfl (World.ownsRow.alloc HO2.out _) ⟨w2.heap.size, 0, none⟩ 1 1 [.string T] rfl rfl (by intro j u hj; match j, hj with | 0, hj => simp at hj; subst hj; simp [Addr.add]) (by intro u hu; simp at hu; subst hu; rfl) (by rw [HLEN.out]; unfold maxLen; omega) (by rw [HLEN.out]; omega) (by simp; omega) ?_))
      intro v' w3 hown' hgrow _
      have HO3 : Hid (OwnT w3 w.heap.size v' ((l.take (k + 1)).map textR)) := Lib.hid (by rw [HSN.out]; exact OwnT.app HT.out hown')
      have HB3 : Hid (Below w.heap.size w w3) := Lib.hid (belowG HB2.out HO2.out hgrow (Nat.le_refl _) hz2)
      clear hown' hgrow
      go_wp2
      go_roundw
      case rel => exact ⟨k + 1, by omega, by go_num, HO3, HB3⟩
      case measure => simp [intOf]; omega
    · obtain rfl : k = n := by omega
      have HE : Hid ((l.take k).map textR = l.map textR) := Lib.hid (by rw [List.take_of_length_le (by rw [HN.out]; omega)])
      have JN := joinM_any sep HSEP.out _ _ (by rw [List.length_map, List.length_take]; omega) (fun p hp => by
        obtain ⟨x, hx, rfl⟩ := List.mem_map.1 hp
        have := textR_len (HS.out x (List.mem_of_mem_take hx)); omega) wr HO.out.holds
      rw [HE.out, HR.out] at JN
      clear hlt
      go_wp2_with (go_at_call 90; (with_reducible refine JN.mono ?_); rintro e w2 ⟨rfl, hb⟩; have HB2 := Lib.hid (HB.out.trans (hb.mono hsz)); clear hb)
      go_ret
      exact ⟨rfl, HB2.out⟩
end Go.Proofs.YtpkdnohaefkfgaaGreatDoor
