/-
  The reference's Check of alternatives: what it returns; nothing old turns. The walk of AltsChecks: for every list of alternatives it returns true; nothing old turns. Condition: LaidZ.
-/
import Derived.Test.YtnfhccnicojdcaaGreatDoorZChk
import Derived.Test.YtnfhccnicojdcaaGreatDoorZRefR1
import Derived.Test.YtnfhccnicojdcaaGreatDoorPHas
import Derived.Maps.AppendAt
import Derived.Test.YtnfhccnicojdcaaGreatDoorZAwake
import Derived.Test.YtnfhccnicojdcaaGreatDoorZFew
namespace Go.Proofs.YtnfhccnicojdcaaGreatDoor
open Go.RowKit
def ApartV (u v : Value) : Prop := ∀ g, u.ownBlock = some g → v.ownBlock ≠ some g
theorem ApartV.symm {u v : Value} (h : ApartV u v) : ApartV v u := fun g hg e => h g e hg
theorem ApartV.hne {u v : Value} (h : ApartV u v) : v.ownBlock = none ∨ v.ownBlock ≠ u.ownBlock := by
  cases hv : v.ownBlock with
  | none => exact .inl rfl
  | some g => exact .inr (fun e => h g e.symm hv)
theorem ApartV.step {w : World} {u u' v : Value} {base : Nat} {l : List Bs} (h : ApartV u v) (hv : OwnT w base v l) (hl : u'.ownBlock = u.ownBlock ∨ u'.ownBlock = some w.heap.size) : ApartV u' v := fun g hg e => by
  rcases hl with hl | hl
  · exact h g (by rw [← hl]; exact hg) e
  · rw [hl] at hg; cases hg
    have := (World.ownsRow.lt hv _ e).2
    omega
theorem txts_len (l : List Bs) : (txts l).length = l.length := by unfold txts; rw [List.length_map]
theorem flat_take {l : List Av} {k : Nat} {x : Av} (hx : l[k]? = some x) (f : Av → List Bs) : (l.take (k + 1)).flatMap f = (l.take k).flatMap f ++ f x := by
  rw [List.take_add_one, hx, List.flatMap_append]; simp
theorem flat_few (f : Av → List Bs) : ∀ (l : List Av), (∀ x ∈ l, (f x).length ≤ 65) → (l.flatMap f).length ≤ l.length * 65
  | [], _ => by simp
  | x :: l, h => by
    have := flat_few f l (fun y hy => h y (List.mem_cons_of_mem _ hy))
    have := h x List.mem_cons_self
    rw [List.flatMap_cons, List.length_append, List.length_cons]; omega
theorem OwnT.txtsAt {w : World} {base : Nat} {v : Value} {l : List Bs} (h : OwnT w base v l) (h0 : 0 < l.length) : ∃ g c, v = .slice (some ⟨g, 0, none⟩) l.length c ∧ ∀ (j : Nat) u, (txts l)[j]? = some u → w.cell? ((⟨g, 0, none⟩ : Addr).add j) = some u := by
  have h' := h
  rcases h.2 with ⟨hv, h1⟩ | ⟨g, cap, cur, hv, _⟩
  · omega
  · exact ⟨g, cap, hv, fun j u hj => World.ownsRow.cells h' (by rw [hv]; rfl) j u hj⟩
theorem OwnT.appT {w' : World} {base : Nat} {v' : Value} {l r : List Bs} (h : w'.ownsRow base 9 1 v' (l.length + r.length) (txts l ++ txts r)) : OwnT w' base v' (l ++ r) := by
  unfold OwnT
  rw [List.length_append, show txts (l ++ r) = txts l ++ txts r by unfold txts; rw [List.map_append]]; exact h
theorem OwnT.bare {w : World} {base : Nat} {v : Value} {l : List Bs} (h : OwnT w base v l) : Bare v := by
  rcases h.2 with ⟨rfl, h0⟩ | ⟨g, cap, cur, rfl, _⟩
  · intro n c e; simp only [Value.slice.injEq] at e; omega
  · intro n c e; simp at e
set_option maxRecDepth 100000 in
set_option maxHeartbeats 32000000 in
theorem checkA_ref (v : Value) (l : List Av) (hl : l.length ≤ 90000) (hsm : ∀ x ∈ l, SmA x) (w : World) (h : HoldA w v l) : Calls Tryz.prog 17 #[v] w fun e w' => e = .returned (.int .i64 (chkA l)) ∧ Below w.heap.size w w' := by
  have HRR := Lib.hid (fun x (hx : x ∈ l) W (hb : Below w.heap.size w W) => rightA_ref x (hsm x hx) W ((h.2 x hx).on hb))
  have HLK := Lib.hid (fun x (hx : x ∈ l) W (hb : Below w.heap.size w W) => links_ref x (hsm x hx).sl W ((h.2 x hx).on hb))
  have HNK := Lib.hid (fun x (hx : x ∈ l) W (hb : Below w.heap.size w W) => names_ref x (hsm x hx).sl W ((h.2 x hx).on hb))
  have HIN := Lib.hid h.2
  obtain ⟨i0, hi, hz0, hz1, hz2'⟩ := info_parts infoS
  obtain ⟨Z, HZ⟩ : ∃ Z, Hid (chkA l = Z) := ⟨_, rfl⟩
  rw [HZ.out]
  obtain ⟨a, c, b, o, rfl, hc, ha, hcell⟩ := h.parts
  have HC := Lib.hid hcell
  by_cases h64 : 64 < l.length
  · have HF : Hid ((22 : Int) = Z) := Lib.hid (by rw [← HZ.out, chkA_long h64])
    generalize l.length = n at *
    clear hcell h hsm
    go_enter Tryz.func17, Tryz.ntmps17
    go_wp2
    go_ret
    exact ⟨reti HF.out, Below.refl _ _⟩
  have HBAD : Hid (∀ (i : Nat) x, l[i]? = some x → ¬ stepK rightA (fun x => x.nm) l i x → (1 : Int) = Z) := Lib.hid (fun i x hx g => by rw [← HZ.out, chkA_no h64 (fun q => g (q.1 i x hx))])
  have HDUP : Hid (¬ ((l.flatMap linksA).Nodup ∧ (l.flatMap namesA).Nodup) → (1 : Int) = Z) := Lib.hid (fun g => by rw [← HZ.out, chkA_no h64 (fun q => g ((occs_nodup l).1 q.2))])
  have HOK : Hid (StepsA l → (l.flatMap linksA).Nodup → (l.flatMap namesA).Nodup → (0 : Int) = Z) := Lib.hid (fun g g1 g2 => by rw [← HZ.out, chkA_ok h64 g ((occs_nodup l).2 ⟨g1, g2⟩)])
  clear HZ
  have HSL : Hid (∀ k, (∀ (j : Nat) x, j < k → l[j]? = some x → stepK rightA (fun x => x.nm) l j x) → (∀ x ∈ l.take k, (linksA x).length ≤ 65) ∧ (∀ x ∈ l.take k, (namesA x).length ≤ 65)) := Lib.hid (fun k g => by
    have key : ∀ x ∈ l.take k, x.sl.length ≤ 64 := fun x hx => by
      obtain ⟨j, hj⟩ := List.mem_iff_getElem?.1 hx
      have hjk : j < k := by have := (List.getElem?_eq_some_iff.1 hj).1; rw [List.length_take] at this; omega
      rw [List.getElem?_take_of_lt hjk] at hj
      exact (rightA_good (g j x hjk hj).1).sl.few
    exact ⟨fun x hx => by rw [linksA_len]; have := key x hx; omega, fun x hx => by rw [namesA_len]; have := key x hx; omega⟩)
  obtain ⟨n, hN⟩ : ∃ n, l.length = n := ⟨_, rfl⟩
  rw [hN] at hc ha hl h64 ⊢
  have HN := Lib.hid hN
  have HLN : Hid (∀ k, (∀ (j : Nat) x, j < k → l[j]? = some x → stepK rightA (fun x => x.nm) l j x) → ((l.take k).flatMap linksA).length ≤ 4160 ∧ ((l.take k).flatMap namesA).length ≤ 4160) := Lib.hid (fun k g => by
    obtain ⟨h1, h2⟩ := HSL.out k g
    have e1 := flat_few linksA (l.take k) h1
    have e2 := flat_few namesA (l.take k) h2
    have e3 : (l.take k).length ≤ 64 := by rw [List.length_take, hN]; omega
    have e4 := Nat.mul_le_mul_right 65 e3
    omega)
  have HSO := Lib.hid (fun W v (ls : List Bs) (hn : ls.length ≤ 4160) (hv : HoldT W v ls) => sorted_ref v ls (by omega) W hv)
  clear hcell hN h hsm HSL
  go_enter Tryz.func17, Tryz.ntmps17
  go_wp2
  go_loopw [3, 4, 5] (fun u q i wr => ∃ k : Nat, k ≤ n ∧ i = .int .i64 k ∧ Hid (∀ (j : Nat) x, j < k → l[j]? = some x → stepK rightA (fun x => x.nm) l j x) ∧ Hid (OwnT wr w.heap.size u ((l.take k).flatMap linksA)) ∧ Hid (OwnT wr w.heap.size q ((l.take k).flatMap namesA)) ∧ Hid (ApartV u q) ∧ Hid (Below w.heap.size w wr)) (fun _ _ i _ => n - (intOf i).toNat)
  case atStart => exact ⟨0, by omega, rfl, Lib.hid (fun j y hj => by omega), Lib.hid (OwnT.nil _ _), Lib.hid (OwnT.nil _ _), Lib.hid (fun g hg => by simp [Value.ownBlock] at hg), Lib.hid (Below.refl _ _)⟩
  case round =>
    obtain ⟨k, hk, rfl, H, HU, HQ, HA, HB⟩ := hrel
    by_cases hlt : k < n
    · obtain ⟨rfl, hbw⟩ := ha (by omega)
      obtain ⟨x, hx⟩ : ∃ x, l[k]? = some x := ⟨_, List.getElem?_eq_getElem (by rw [HN.out]; exact hlt)⟩
      have hxm := List.mem_of_getElem? hx
      have RR := HRR.out x hxm
      have LK := HLK.out x hxm
      have NK := HNK.out x hxm
      obtain ⟨a4, n4, m4, hf4⟩ := formAs (HIN.out x hxm)
      obtain ⟨a5, n5, m5, hf5⟩ := formAc (HIN.out x hxm)
      obtain ⟨c0, c1, c2, c3, c4, c5⟩ := HC.out k x hx
      rw [← HB.out.cell (p := ⟨b, o + k * 6, none⟩) hbw] at c0
      rw [← HB.out.cell (p := ⟨b, o + k * 6 + 1, none⟩) hbw] at c1
      rw [← HB.out.cell (p := ⟨b, o + k * 6 + 2, none⟩) hbw] at c2
      rw [← HB.out.cell (p := ⟨b, o + k * 6 + 3, none⟩) hbw] at c3
      rw [← HB.out.cell (p := ⟨b, o + k * 6 + 4, none⟩) hbw] at c4
      rw [← HB.out.cell (p := ⟨b, o + k * 6 + 5, none⟩) hbw] at c5
      have HX := Lib.hid hx
      unfold agZA at RR LK NK
      rw [hf4] at c4
      rw [hf5] at c5
      simp only [hf4, hf5] at RR LK NK
      clear hf4 hf5 hx hxm
      cases hq : rightA x
      · have HF := Lib.hid (HBAD.out k x HX.out (fun g => by rw [g.1] at hq; cases hq))
        simp only [hq] at RR
        clear hq H HBAD HOK HX HC HRR HLK HNK HIN LK NK HDUP HLN HSO HU HQ HA
        generalize (⟨x.nm.toArray⟩ : ByteArray) = X0 at *
        generalize (⟨x.lk.toArray⟩ : ByteArray) = X1 at *
        generalize (⟨x.cr.toArray⟩ : ByteArray) = X3 at *
        generalize x.mn = z2 at *
        have hs := And.intro c0 (And.intro c1 (And.intro c2 (And.intro c3 (And.intro c4 (And.intro c5 HB.out)))))
        have j0 : (0 : Int) ≤ (k : Int) := by omega
        have j1 : (k : Int) < (n : Int) := by omega
        go_wp2
        have BE := fun (V : World) (h : V.cell? ⟨b, o + k * 6, none⟩ = some (.string X0) ∧ V.cell? ⟨b, o + k * 6 + 1, none⟩ = some (.string X1) ∧ V.cell? ⟨b, o + k * 6 + 2, none⟩ = some (.bool z2) ∧ V.cell? ⟨b, o + k * 6 + 3, none⟩ = some (.string X3) ∧ V.cell? ⟨b, o + k * 6 + 4, none⟩ = some (.slice a4 n4 m4) ∧ V.cell? ⟨b, o + k * 6 + 5, none⟩ = some (.slice a5 n5 m5) ∧ Below w.heap.size w V) => AtF.be (w := w) (l := [(⟨b, o + k * 6, none⟩, .string X0), (⟨b, o + k * 6 + 1, none⟩, .string X1), (⟨b, o + k * 6 + 2, none⟩, .bool z2), (⟨b, o + k * 6 + 3, none⟩, .string X3), (⟨b, o + k * 6 + 4, none⟩, .slice a4 n4 m4), (⟨b, o + k * 6 + 5, none⟩, .slice a5 n5 m5)]) h
        refine wp_region_held_drew (S := (fun V => V.cell? ⟨b, o + k * 6, none⟩ = some (.string X0) ∧ V.cell? ⟨b, o + k * 6 + 1, none⟩ = some (.string X1) ∧ V.cell? ⟨b, o + k * 6 + 2, none⟩ = some (.bool z2) ∧ V.cell? ⟨b, o + k * 6 + 3, none⟩ = some (.string X3) ∧ V.cell? ⟨b, o + k * 6 + 4, none⟩ = some (.slice a4 n4 m4) ∧ V.cell? ⟨b, o + k * 6 + 5, none⟩ = some (.slice a5 n5 m5) ∧ Below w.heap.size w V)) (by kernel_rfl) ?_ (fun hHeld => ?_)
        · (try dsimp only); (first | assumption | exact hs | exact AtF.dr (w := w) (l := [(⟨b, o + k * 6, none⟩, .string X0), (⟨b, o + k * 6 + 1, none⟩, .string X1), (⟨b, o + k * 6 + 2, none⟩, .bool z2), (⟨b, o + k * 6 + 3, none⟩, .string X3), (⟨b, o + k * 6 + 4, none⟩, .slice a4 n4 m4), (⟨b, o + k * 6 + 5, none⟩, .slice a5 n5 m5)]) hs | exact AtF.dr (w := w) (l := [(⟨b, o + k * 6, none⟩, .string X0), (⟨b, o + k * 6 + 1, none⟩, .string X1), (⟨b, o + k * 6 + 2, none⟩, .bool z2), (⟨b, o + k * 6 + 3, none⟩, .string X3), (⟨b, o + k * 6 + 4, none⟩, .slice a4 n4 m4), (⟨b, o + k * 6 + 5, none⟩, .slice a5 n5 m5)]) (by assumption) | exact AtF.on (w := w) (l := [(⟨b, o + k * 6, none⟩, .string X0), (⟨b, o + k * 6 + 1, none⟩, .string X1), (⟨b, o + k * 6 + 2, none⟩, .bool z2), (⟨b, o + k * 6 + 3, none⟩, .string X3), (⟨b, o + k * 6 + 4, none⟩, .slice a4 n4 m4), (⟨b, o + k * 6 + 5, none⟩, .slice a5 n5 m5)]) (by assumption) (by assumption) | exact AtF.al (w := w) (l := [(⟨b, o + k * 6, none⟩, .string X0), (⟨b, o + k * 6 + 1, none⟩, .string X1), (⟨b, o + k * 6 + 2, none⟩, .bool z2), (⟨b, o + k * 6 + 3, none⟩, .string X3), (⟨b, o + k * 6 + 4, none⟩, .slice a4 n4 m4), (⟨b, o + k * 6 + 5, none⟩, .slice a5 n5 m5)]) (by assumption) _ | exact AtF.ald (w := w) (l := [(⟨b, o + k * 6, none⟩, .string X0), (⟨b, o + k * 6 + 1, none⟩, .string X1), (⟨b, o + k * 6 + 2, none⟩, .bool z2), (⟨b, o + k * 6 + 3, none⟩, .string X3), (⟨b, o + k * 6 + 4, none⟩, .slice a4 n4 m4), (⟨b, o + k * 6 + 5, none⟩, .slice a5 n5 m5)]) (by assumption) _ | exact AtF.al (w := w) (l := [(⟨b, o + k * 6, none⟩, .string X0), (⟨b, o + k * 6 + 1, none⟩, .string X1), (⟨b, o + k * 6 + 2, none⟩, .bool z2), (⟨b, o + k * 6 + 3, none⟩, .string X3), (⟨b, o + k * 6 + 4, none⟩, .slice a4 n4 m4), (⟨b, o + k * 6 + 5, none⟩, .slice a5 n5 m5)]) hs _ | exact AtF.ald (w := w) (l := [(⟨b, o + k * 6, none⟩, .string X0), (⟨b, o + k * 6 + 1, none⟩, .string X1), (⟨b, o + k * 6 + 2, none⟩, .bool z2), (⟨b, o + k * 6 + 3, none⟩, .string X3), (⟨b, o + k * 6 + 4, none⟩, .slice a4 n4 m4), (⟨b, o + k * 6 + 5, none⟩, .slice a5 n5 m5)]) hs _)
        refine heldY 0 15 ?_ _ rfl rfl (by kernel_rfl) (by kernel_rfl) (by kernel_rfl) (fun _ _ _ h => h) rfl (by assumption) ?_ ?_
        rotate_left
        · (intro w hSw; (try dsimp only at hSw); go_simp; (try with_reducible rfl))
        try simp only [List.setIfInBounds_toArray, List.set_cons_zero, List.set_cons_succ]
        refine heldY 1 16 ?_ _ rfl rfl (by kernel_rfl) (by kernel_rfl) (by kernel_rfl) (fun _ _ _ h => h) rfl (by assumption) ?_ ?_
        rotate_left
        · (intro w hSw; (try dsimp only at hSw); go_simp; (try with_reducible rfl))
        try simp only [List.setIfInBounds_toArray, List.set_cons_zero, List.set_cons_succ]
        refine heldY 2 17 ?_ _ rfl rfl (by kernel_rfl) (by kernel_rfl) (by kernel_rfl) (fun _ _ _ h => h) rfl (by assumption) ?_ ?_
        rotate_left
        · (intro w hSw; (try dsimp only at hSw); go_simp; (try with_reducible rfl))
        try simp only [List.setIfInBounds_toArray, List.set_cons_zero, List.set_cons_succ]
        refine heldY 3 18 ?_ _ rfl rfl (by kernel_rfl) (by kernel_rfl) (by kernel_rfl) (fun _ _ _ h => h) rfl (by assumption) ?_ ?_
        rotate_left
        · (intro w hSw; (try dsimp only at hSw); go_simp; (try with_reducible rfl))
        try simp only [List.setIfInBounds_toArray, List.set_cons_zero, List.set_cons_succ]
        refine wpAnyH_ready (rs := [4]) (by kernel_rfl) (by simp) ?_
        refine AllReadyH.cons rfl (fun K hK => ?_) AllReadyH.nil
        go_simp
        (go_at_call 43; (with_reducible refine (RR _ (BE _ (by assumption))).mono ?_); rintro e w3 ⟨rfl, hb⟩)
        refine hK.out _ _ ?_ (fun hHeld => ?_)
        · (try dsimp only); (first | assumption | exact hs | exact AtF.dr (w := w) (l := [(⟨b, o + k * 6, none⟩, .string X0), (⟨b, o + k * 6 + 1, none⟩, .string X1), (⟨b, o + k * 6 + 2, none⟩, .bool z2), (⟨b, o + k * 6 + 3, none⟩, .string X3), (⟨b, o + k * 6 + 4, none⟩, .slice a4 n4 m4), (⟨b, o + k * 6 + 5, none⟩, .slice a5 n5 m5)]) hs | exact AtF.dr (w := w) (l := [(⟨b, o + k * 6, none⟩, .string X0), (⟨b, o + k * 6 + 1, none⟩, .string X1), (⟨b, o + k * 6 + 2, none⟩, .bool z2), (⟨b, o + k * 6 + 3, none⟩, .string X3), (⟨b, o + k * 6 + 4, none⟩, .slice a4 n4 m4), (⟨b, o + k * 6 + 5, none⟩, .slice a5 n5 m5)]) (by assumption) | exact AtF.on (w := w) (l := [(⟨b, o + k * 6, none⟩, .string X0), (⟨b, o + k * 6 + 1, none⟩, .string X1), (⟨b, o + k * 6 + 2, none⟩, .bool z2), (⟨b, o + k * 6 + 3, none⟩, .string X3), (⟨b, o + k * 6 + 4, none⟩, .slice a4 n4 m4), (⟨b, o + k * 6 + 5, none⟩, .slice a5 n5 m5)]) (by assumption) (by assumption) | exact AtF.al (w := w) (l := [(⟨b, o + k * 6, none⟩, .string X0), (⟨b, o + k * 6 + 1, none⟩, .string X1), (⟨b, o + k * 6 + 2, none⟩, .bool z2), (⟨b, o + k * 6 + 3, none⟩, .string X3), (⟨b, o + k * 6 + 4, none⟩, .slice a4 n4 m4), (⟨b, o + k * 6 + 5, none⟩, .slice a5 n5 m5)]) (by assumption) _ | exact AtF.ald (w := w) (l := [(⟨b, o + k * 6, none⟩, .string X0), (⟨b, o + k * 6 + 1, none⟩, .string X1), (⟨b, o + k * 6 + 2, none⟩, .bool z2), (⟨b, o + k * 6 + 3, none⟩, .string X3), (⟨b, o + k * 6 + 4, none⟩, .slice a4 n4 m4), (⟨b, o + k * 6 + 5, none⟩, .slice a5 n5 m5)]) (by assumption) _ | exact AtF.al (w := w) (l := [(⟨b, o + k * 6, none⟩, .string X0), (⟨b, o + k * 6 + 1, none⟩, .string X1), (⟨b, o + k * 6 + 2, none⟩, .bool z2), (⟨b, o + k * 6 + 3, none⟩, .string X3), (⟨b, o + k * 6 + 4, none⟩, .slice a4 n4 m4), (⟨b, o + k * 6 + 5, none⟩, .slice a5 n5 m5)]) hs _ | exact AtF.ald (w := w) (l := [(⟨b, o + k * 6, none⟩, .string X0), (⟨b, o + k * 6 + 1, none⟩, .string X1), (⟨b, o + k * 6 + 2, none⟩, .bool z2), (⟨b, o + k * 6 + 3, none⟩, .string X3), (⟨b, o + k * 6 + 4, none⟩, .slice a4 n4 m4), (⟨b, o + k * 6 + 5, none⟩, .slice a5 n5 m5)]) hs _)
        clear hK K
        try simp only [Act.put, List.setIfInBounds_toArray, List.set_cons_zero, List.set_cons_succ]
        refine heldY 5 20 ?_ _ rfl rfl (by kernel_rfl) (by kernel_rfl) (by kernel_rfl) (fun _ _ _ h => h) rfl (by assumption) ?_ ?_
        rotate_left
        · (intro w hSw; (try dsimp only at hSw); go_simp; (try with_reducible rfl))
        try simp only [List.setIfInBounds_toArray, List.set_cons_zero, List.set_cons_succ]
        refine heldY 6 21 ?_ _ rfl rfl (by kernel_rfl) (by kernel_rfl) (by kernel_rfl) (fun _ _ _ h => h) rfl (by assumption) ?_ ?_
        rotate_left
        · (intro w hSw; (try dsimp only at hSw); go_simp; (try with_reducible rfl))
        try simp only [List.setIfInBounds_toArray, List.set_cons_zero, List.set_cons_succ]
        refine heldNo 7 22 rfl (by kernel_rfl) (by kernel_rfl) (by kernel_rfl) (fun _ _ _ h => h) rfl (by assumption) ?_
        try simp only [List.setIfInBounds_toArray, List.set_cons_zero, List.set_cons_succ]
        refine heldNo 8 23 rfl (by kernel_rfl) (by kernel_rfl) (by kernel_rfl) (fun _ _ _ h => h) rfl (by assumption) ?_
        try simp only [List.setIfInBounds_toArray, List.set_cons_zero, List.set_cons_succ]
        refine heldNo 9 24 rfl (by kernel_rfl) (by kernel_rfl) (by kernel_rfl) (fun _ _ _ h => h) rfl (by assumption) ?_
        try simp only [List.setIfInBounds_toArray, List.set_cons_zero, List.set_cons_succ]
        refine heldNo 10 25 rfl (by kernel_rfl) (by kernel_rfl) (by kernel_rfl) (fun _ _ _ h => h) rfl (by assumption) ?_
        try simp only [List.setIfInBounds_toArray, List.set_cons_zero, List.set_cons_succ]
        refine heldNo 11 26 rfl (by kernel_rfl) (by kernel_rfl) (by kernel_rfl) (fun _ _ _ h => h) rfl (by assumption) ?_
        try simp only [List.setIfInBounds_toArray, List.set_cons_zero, List.set_cons_succ]
        refine heldNo 12 27 rfl (by kernel_rfl) (by kernel_rfl) (by kernel_rfl) (fun _ _ _ h => h) rfl (by assumption) ?_
        try simp only [List.setIfInBounds_toArray, List.set_cons_zero, List.set_cons_succ]
        refine heldNo 13 28 rfl (by kernel_rfl) (by kernel_rfl) (by kernel_rfl) (fun _ _ _ h => h) rfl (by assumption) ?_
        try simp only [List.setIfInBounds_toArray, List.set_cons_zero, List.set_cons_succ]
        refine heldNo 14 29 rfl (by kernel_rfl) (by kernel_rfl) (by kernel_rfl) (fun _ _ _ h => h) rfl (by assumption) ?_
        try simp only [List.setIfInBounds_toArray, List.set_cons_zero, List.set_cons_succ]
        refine heldNo 15 30 rfl (by kernel_rfl) (by kernel_rfl) (by kernel_rfl) (fun _ _ _ h => h) rfl (by assumption) ?_
        try simp only [List.setIfInBounds_toArray, List.set_cons_zero, List.set_cons_succ]
        refine heldNo 16 31 rfl (by kernel_rfl) (by kernel_rfl) (by kernel_rfl) (fun _ _ _ h => h) rfl (by assumption) ?_
        try simp only [List.setIfInBounds_toArray, List.set_cons_zero, List.set_cons_succ]
        refine heldNo 17 32 rfl (by kernel_rfl) (by kernel_rfl) (by kernel_rfl) (fun _ _ _ h => h) rfl (by assumption) ?_
        try simp only [List.setIfInBounds_toArray, List.set_cons_zero, List.set_cons_succ]
        refine heldNo 18 33 rfl (by kernel_rfl) (by kernel_rfl) (by kernel_rfl) (fun _ _ _ h => h) rfl (by assumption) ?_
        try simp only [List.setIfInBounds_toArray, List.set_cons_zero, List.set_cons_succ]
        refine heldNo 19 34 rfl (by kernel_rfl) (by kernel_rfl) (by kernel_rfl) (fun _ _ _ h => h) rfl (by assumption) ?_
        try simp only [List.setIfInBounds_toArray, List.set_cons_zero, List.set_cons_succ]
        refine heldNo 20 35 rfl (by kernel_rfl) (by kernel_rfl) (by kernel_rfl) (fun _ _ _ h => h) rfl (by assumption) ?_
        try simp only [List.setIfInBounds_toArray, List.set_cons_zero, List.set_cons_succ]
        refine heldNo 21 36 rfl (by kernel_rfl) (by kernel_rfl) (by kernel_rfl) (fun _ _ _ h => h) rfl (by assumption) ?_
        try simp only [List.setIfInBounds_toArray, List.set_cons_zero, List.set_cons_succ]
        refine heldNo 22 37 rfl (by kernel_rfl) (by kernel_rfl) (by kernel_rfl) (fun _ _ _ h => h) rfl (by assumption) ?_
        try simp only [List.setIfInBounds_toArray, List.set_cons_zero, List.set_cons_succ]
        refine heldY 23 38 ?_ _ rfl rfl (by kernel_rfl) (by kernel_rfl) (by kernel_rfl) (fun _ _ _ h => h) rfl (by assumption) ?_ ?_
        rotate_left
        · (intro w hSw; (try dsimp only at hSw); go_simp; (try with_reducible rfl))
        try simp only [List.setIfInBounds_toArray, List.set_cons_zero, List.set_cons_succ]
        refine wpAnyH_done (by kernel_rfl) ?_ _
        have HW3 := Lib.hid (BE _ hHeld)
        clear hHeld
        go_wp2
        go_ret
        exact ⟨reti HF.out, HW3.out⟩
      · simp only [hq] at RR
        have HST : Hid ((0 < k → ∀ y, l[k - 1]? = some y → y.nm < x.nm) → ∀ (j : Nat) u, j < k + 1 → l[j]? = some u → stepK rightA (fun x => x.nm) l j u) := Lib.hid (fun g j u hj hu => by
          by_cases ej : j = k
          · subst ej
            rw [HX.out] at hu; cases hu
            exact ⟨hq, fun y h1 h2 => g h1 y h2⟩
          · exact H.out j u (by omega) hu)
        have HNX1 := Lib.hid (flat_take HX.out linksA)
        have HNX2 := Lib.hid (flat_take HX.out namesA)
        have hll : (linksA x).length = x.sl.length + 1 := linksA_len x
        have hnl : (namesA x).length = x.sl.length + 1 := namesA_len x
        have hsl : x.sl.length ≤ 64 := (rightA_good hq).sl.few
        have hfew := HLN.out k H.out
        obtain ⟨PL, hPL⟩ : ∃ q, (l.take k).flatMap linksA = q := ⟨_, rfl⟩
        obtain ⟨PN, hPN⟩ : ∃ q, (l.take k).flatMap namesA = q := ⟨_, rfl⟩
        obtain ⟨LX, hLX⟩ : ∃ q, linksA x = q := ⟨_, rfl⟩
        obtain ⟨NX, hNX⟩ : ∃ q, namesA x = q := ⟨_, rfl⟩
        rw [hPL] at HU HNX1 hfew
        rw [hPN] at HQ HNX2 hfew
        rw [hLX] at HNX1 hll
        rw [hNX] at HNX2 hnl
        simp only [hLX] at LK
        simp only [hNX] at NK
        generalize x.sl.length = sn at *
        have HQQ := Lib.hid hq
        obtain ⟨X0, hX0⟩ : ∃ q : ByteArray, (⟨x.nm.toArray⟩ : ByteArray) = q := ⟨_, rfl⟩
        have HXX : Hid (X0.data.toList = x.nm) := Lib.hid (by rw [← hX0])
        simp only [hX0] at RR LK NK
        rw [hX0] at c0
        have HXB : Hid (∀ y, l[k - 1]? = some y → 0 < k → decide (y.nm < x.nm) = false → (1 : Int) = Z) := Lib.hid (fun y hy h0 g => HBAD.out k x HX.out (fun q => by have := q.2 y h0 hy; simp only at this; rw [decide_eq_true this] at g; cases g))
        clear hq hX0 hPL hPN hLX hNX
        generalize (⟨x.lk.toArray⟩ : ByteArray) = X1 at *
        generalize (⟨x.cr.toArray⟩ : ByteArray) = X3 at *
        generalize x.mn = z2 at *
        have hsz := HB.out.size
        have j0 : (0 : Int) ≤ (k : Int) := by omega
        have j1 : (k : Int) < (n : Int) := by omega
        have HCW := Lib.hid (And.intro ((HB.out.cell (p := ⟨b, o + k * 6, none⟩) hbw).symm.trans c0) (And.intro ((HB.out.cell (p := ⟨b, o + k * 6 + 1, none⟩) hbw).symm.trans c1) (And.intro ((HB.out.cell (p := ⟨b, o + k * 6 + 2, none⟩) hbw).symm.trans c2) (And.intro ((HB.out.cell (p := ⟨b, o + k * 6 + 3, none⟩) hbw).symm.trans c3) (And.intro ((HB.out.cell (p := ⟨b, o + k * 6 + 4, none⟩) hbw).symm.trans c4) ((HB.out.cell (p := ⟨b, o + k * 6 + 5, none⟩) hbw).symm.trans c5))))))
        obtain ⟨w0, HW0⟩ : ∃ w0, Hid (w0 = wr) := ⟨wr, Lib.hid rfl⟩
        have hB0 : Below w0.heap.size w0 wr := by rw [HW0.out]; exact Below.refl _ _
        have HU0 : Hid (OwnT w0 w.heap.size u3 PL) := Lib.hid (by rw [HW0.out]; exact HU.out)
        have HQ0 : Hid (OwnT w0 w.heap.size u4 PN) := Lib.hid (by rw [HW0.out]; exact HQ.out)
        have HBB : Hid (Below w.heap.size w w0) := Lib.hid (by rw [HW0.out]; exact HB.out)
        have hsz0 := HBB.out.size
        clear HU HQ HW0
        by_cases hk0 : 0 < k
        · obtain ⟨y, hy⟩ : ∃ y, l[k - 1]? = some y := ⟨_, List.getElem?_eq_getElem (by rw [HN.out]; omega)⟩
          obtain ⟨e0, -, -, -, -, -⟩ := HC.out (k - 1) y hy
          rw [← HB.out.cell (p := ⟨b, o + (k - 1) * 6, none⟩) hbw] at e0
          have hls := lessT (⟨y.nm.toArray⟩ : ByteArray) X0
          rw [bytesOf, HXX.out] at hls
          have HBAD2 := Lib.hid (HXB.out y hy hk0)
          have HST2 : Hid (decide (y.nm < x.nm) = true → ∀ (j : Nat) u, j < k + 1 → l[j]? = some u → stepK rightA (fun x => x.nm) l j u) := Lib.hid (fun g => HST.out (fun _ y' hy' => by rw [hy] at hy'; cases hy'; exact of_decide_eq_true g))
          generalize decide (y.nm < x.nm) = q at *
          generalize (⟨y.nm.toArray⟩ : ByteArray) = Y0 at *
          have hd : decide ((0 : Int) < (k : Int)) = true := decide_eq_true (by omega)
          have hk1 : (1 : Int) ≤ (k : Int) := by omega
          have hs := And.intro e0 (And.intro c0 (And.intro c1 (And.intro c2 (And.intro c3 (And.intro c4 (And.intro c5 hB0))))))
          have i0' : (0 : Int) ≤ (k : Int) - 1 := by omega
          have i1 : (k : Int) - 1 < (n : Int) := by omega
          have i2 : ((k : Int) - 1).toNat = k - 1 := by omega
          have i3 : IntKind.i64.wrap ((k : Int) - 1) = (k : Int) - 1 := IntWalk.i64_in _ (by omega)
          clear HBAD HRR HLK HNK HIN HDUP HSO hy HXB HST c0 c1 c2 c3 c4 c5 e0 HB hB0
          go_wp2
          have BE := fun (V : World) (h : V.cell? ⟨b, o + (k - 1) * 6, none⟩ = some (.string Y0) ∧ V.cell? ⟨b, o + k * 6, none⟩ = some (.string X0) ∧ V.cell? ⟨b, o + k * 6 + 1, none⟩ = some (.string X1) ∧ V.cell? ⟨b, o + k * 6 + 2, none⟩ = some (.bool z2) ∧ V.cell? ⟨b, o + k * 6 + 3, none⟩ = some (.string X3) ∧ V.cell? ⟨b, o + k * 6 + 4, none⟩ = some (.slice a4 n4 m4) ∧ V.cell? ⟨b, o + k * 6 + 5, none⟩ = some (.slice a5 n5 m5) ∧ Below w0.heap.size w0 V) => AtF.be (w := w0) (l := [(⟨b, o + (k - 1) * 6, none⟩, .string Y0), (⟨b, o + k * 6, none⟩, .string X0), (⟨b, o + k * 6 + 1, none⟩, .string X1), (⟨b, o + k * 6 + 2, none⟩, .bool z2), (⟨b, o + k * 6 + 3, none⟩, .string X3), (⟨b, o + k * 6 + 4, none⟩, .slice a4 n4 m4), (⟨b, o + k * 6 + 5, none⟩, .slice a5 n5 m5)]) h
          refine wp_region_held_drew (S := (fun V => V.cell? ⟨b, o + (k - 1) * 6, none⟩ = some (.string Y0) ∧ V.cell? ⟨b, o + k * 6, none⟩ = some (.string X0) ∧ V.cell? ⟨b, o + k * 6 + 1, none⟩ = some (.string X1) ∧ V.cell? ⟨b, o + k * 6 + 2, none⟩ = some (.bool z2) ∧ V.cell? ⟨b, o + k * 6 + 3, none⟩ = some (.string X3) ∧ V.cell? ⟨b, o + k * 6 + 4, none⟩ = some (.slice a4 n4 m4) ∧ V.cell? ⟨b, o + k * 6 + 5, none⟩ = some (.slice a5 n5 m5) ∧ Below w0.heap.size w0 V)) (by kernel_rfl) ?_ (fun hHeld => ?_)
          · (try dsimp only); (first | assumption | exact hs | exact AtF.dr (w := w0) (l := [(⟨b, o + (k - 1) * 6, none⟩, .string Y0), (⟨b, o + k * 6, none⟩, .string X0), (⟨b, o + k * 6 + 1, none⟩, .string X1), (⟨b, o + k * 6 + 2, none⟩, .bool z2), (⟨b, o + k * 6 + 3, none⟩, .string X3), (⟨b, o + k * 6 + 4, none⟩, .slice a4 n4 m4), (⟨b, o + k * 6 + 5, none⟩, .slice a5 n5 m5)]) hs | exact AtF.dr (w := w0) (l := [(⟨b, o + (k - 1) * 6, none⟩, .string Y0), (⟨b, o + k * 6, none⟩, .string X0), (⟨b, o + k * 6 + 1, none⟩, .string X1), (⟨b, o + k * 6 + 2, none⟩, .bool z2), (⟨b, o + k * 6 + 3, none⟩, .string X3), (⟨b, o + k * 6 + 4, none⟩, .slice a4 n4 m4), (⟨b, o + k * 6 + 5, none⟩, .slice a5 n5 m5)]) (by assumption) | exact AtF.on (w := w0) (l := [(⟨b, o + (k - 1) * 6, none⟩, .string Y0), (⟨b, o + k * 6, none⟩, .string X0), (⟨b, o + k * 6 + 1, none⟩, .string X1), (⟨b, o + k * 6 + 2, none⟩, .bool z2), (⟨b, o + k * 6 + 3, none⟩, .string X3), (⟨b, o + k * 6 + 4, none⟩, .slice a4 n4 m4), (⟨b, o + k * 6 + 5, none⟩, .slice a5 n5 m5)]) (by assumption) (by assumption) | exact AtF.al (w := w0) (l := [(⟨b, o + (k - 1) * 6, none⟩, .string Y0), (⟨b, o + k * 6, none⟩, .string X0), (⟨b, o + k * 6 + 1, none⟩, .string X1), (⟨b, o + k * 6 + 2, none⟩, .bool z2), (⟨b, o + k * 6 + 3, none⟩, .string X3), (⟨b, o + k * 6 + 4, none⟩, .slice a4 n4 m4), (⟨b, o + k * 6 + 5, none⟩, .slice a5 n5 m5)]) (by assumption) _ | exact AtF.ald (w := w0) (l := [(⟨b, o + (k - 1) * 6, none⟩, .string Y0), (⟨b, o + k * 6, none⟩, .string X0), (⟨b, o + k * 6 + 1, none⟩, .string X1), (⟨b, o + k * 6 + 2, none⟩, .bool z2), (⟨b, o + k * 6 + 3, none⟩, .string X3), (⟨b, o + k * 6 + 4, none⟩, .slice a4 n4 m4), (⟨b, o + k * 6 + 5, none⟩, .slice a5 n5 m5)]) (by assumption) _ | exact AtF.al (w := w0) (l := [(⟨b, o + (k - 1) * 6, none⟩, .string Y0), (⟨b, o + k * 6, none⟩, .string X0), (⟨b, o + k * 6 + 1, none⟩, .string X1), (⟨b, o + k * 6 + 2, none⟩, .bool z2), (⟨b, o + k * 6 + 3, none⟩, .string X3), (⟨b, o + k * 6 + 4, none⟩, .slice a4 n4 m4), (⟨b, o + k * 6 + 5, none⟩, .slice a5 n5 m5)]) hs _ | exact AtF.ald (w := w0) (l := [(⟨b, o + (k - 1) * 6, none⟩, .string Y0), (⟨b, o + k * 6, none⟩, .string X0), (⟨b, o + k * 6 + 1, none⟩, .string X1), (⟨b, o + k * 6 + 2, none⟩, .bool z2), (⟨b, o + k * 6 + 3, none⟩, .string X3), (⟨b, o + k * 6 + 4, none⟩, .slice a4 n4 m4), (⟨b, o + k * 6 + 5, none⟩, .slice a5 n5 m5)]) hs _)
          refine heldY 0 15 ?_ _ rfl rfl (by kernel_rfl) (by kernel_rfl) (by kernel_rfl) (fun _ _ _ h => h) rfl (by assumption) ?_ ?_
          rotate_left
          · (intro w hSw; (try dsimp only at hSw); go_simp; (try with_reducible rfl))
          try simp only [List.setIfInBounds_toArray, List.set_cons_zero, List.set_cons_succ]
          refine heldY 1 16 ?_ _ rfl rfl (by kernel_rfl) (by kernel_rfl) (by kernel_rfl) (fun _ _ _ h => h) rfl (by assumption) ?_ ?_
          rotate_left
          · (intro w hSw; (try dsimp only at hSw); go_simp; (try with_reducible rfl))
          try simp only [List.setIfInBounds_toArray, List.set_cons_zero, List.set_cons_succ]
          refine heldY 2 17 ?_ _ rfl rfl (by kernel_rfl) (by kernel_rfl) (by kernel_rfl) (fun _ _ _ h => h) rfl (by assumption) ?_ ?_
          rotate_left
          · (intro w hSw; (try dsimp only at hSw); go_simp; (try with_reducible rfl))
          try simp only [List.setIfInBounds_toArray, List.set_cons_zero, List.set_cons_succ]
          refine heldY 3 18 ?_ _ rfl rfl (by kernel_rfl) (by kernel_rfl) (by kernel_rfl) (fun _ _ _ h => h) rfl (by assumption) ?_ ?_
          rotate_left
          · (intro w hSw; (try dsimp only at hSw); go_simp; (try with_reducible rfl))
          try simp only [List.setIfInBounds_toArray, List.set_cons_zero, List.set_cons_succ]
          refine wpAnyH_ready (rs := [4]) (by kernel_rfl) (by simp) ?_
          refine AllReadyH.cons rfl (fun K hK => ?_) AllReadyH.nil
          go_simp
          (go_at_call 43; (with_reducible refine (RR _ (HBB.out.trans ((BE _ (by assumption)).mono hsz0))).mono ?_); rintro e w3 ⟨rfl, hb⟩)
          refine hK.out _ _ ?_ (fun hHeld => ?_)
          · (try dsimp only); (first | assumption | exact hs | exact AtF.dr (w := w0) (l := [(⟨b, o + (k - 1) * 6, none⟩, .string Y0), (⟨b, o + k * 6, none⟩, .string X0), (⟨b, o + k * 6 + 1, none⟩, .string X1), (⟨b, o + k * 6 + 2, none⟩, .bool z2), (⟨b, o + k * 6 + 3, none⟩, .string X3), (⟨b, o + k * 6 + 4, none⟩, .slice a4 n4 m4), (⟨b, o + k * 6 + 5, none⟩, .slice a5 n5 m5)]) hs | exact AtF.dr (w := w0) (l := [(⟨b, o + (k - 1) * 6, none⟩, .string Y0), (⟨b, o + k * 6, none⟩, .string X0), (⟨b, o + k * 6 + 1, none⟩, .string X1), (⟨b, o + k * 6 + 2, none⟩, .bool z2), (⟨b, o + k * 6 + 3, none⟩, .string X3), (⟨b, o + k * 6 + 4, none⟩, .slice a4 n4 m4), (⟨b, o + k * 6 + 5, none⟩, .slice a5 n5 m5)]) (by assumption) | exact AtF.on (w := w0) (l := [(⟨b, o + (k - 1) * 6, none⟩, .string Y0), (⟨b, o + k * 6, none⟩, .string X0), (⟨b, o + k * 6 + 1, none⟩, .string X1), (⟨b, o + k * 6 + 2, none⟩, .bool z2), (⟨b, o + k * 6 + 3, none⟩, .string X3), (⟨b, o + k * 6 + 4, none⟩, .slice a4 n4 m4), (⟨b, o + k * 6 + 5, none⟩, .slice a5 n5 m5)]) (by assumption) (by assumption) | exact AtF.al (w := w0) (l := [(⟨b, o + (k - 1) * 6, none⟩, .string Y0), (⟨b, o + k * 6, none⟩, .string X0), (⟨b, o + k * 6 + 1, none⟩, .string X1), (⟨b, o + k * 6 + 2, none⟩, .bool z2), (⟨b, o + k * 6 + 3, none⟩, .string X3), (⟨b, o + k * 6 + 4, none⟩, .slice a4 n4 m4), (⟨b, o + k * 6 + 5, none⟩, .slice a5 n5 m5)]) (by assumption) _ | exact AtF.ald (w := w0) (l := [(⟨b, o + (k - 1) * 6, none⟩, .string Y0), (⟨b, o + k * 6, none⟩, .string X0), (⟨b, o + k * 6 + 1, none⟩, .string X1), (⟨b, o + k * 6 + 2, none⟩, .bool z2), (⟨b, o + k * 6 + 3, none⟩, .string X3), (⟨b, o + k * 6 + 4, none⟩, .slice a4 n4 m4), (⟨b, o + k * 6 + 5, none⟩, .slice a5 n5 m5)]) (by assumption) _ | exact AtF.al (w := w0) (l := [(⟨b, o + (k - 1) * 6, none⟩, .string Y0), (⟨b, o + k * 6, none⟩, .string X0), (⟨b, o + k * 6 + 1, none⟩, .string X1), (⟨b, o + k * 6 + 2, none⟩, .bool z2), (⟨b, o + k * 6 + 3, none⟩, .string X3), (⟨b, o + k * 6 + 4, none⟩, .slice a4 n4 m4), (⟨b, o + k * 6 + 5, none⟩, .slice a5 n5 m5)]) hs _ | exact AtF.ald (w := w0) (l := [(⟨b, o + (k - 1) * 6, none⟩, .string Y0), (⟨b, o + k * 6, none⟩, .string X0), (⟨b, o + k * 6 + 1, none⟩, .string X1), (⟨b, o + k * 6 + 2, none⟩, .bool z2), (⟨b, o + k * 6 + 3, none⟩, .string X3), (⟨b, o + k * 6 + 4, none⟩, .slice a4 n4 m4), (⟨b, o + k * 6 + 5, none⟩, .slice a5 n5 m5)]) hs _)
          clear hK K
          try simp only [Act.put, List.setIfInBounds_toArray, List.set_cons_zero, List.set_cons_succ]
          refine heldY 5 20 ?_ _ rfl rfl (by kernel_rfl) (by kernel_rfl) (by kernel_rfl) (fun _ _ _ h => h) rfl (by assumption) ?_ ?_
          rotate_left
          · (intro w hSw; (try dsimp only at hSw); go_simp; (try with_reducible rfl))
          try simp only [List.setIfInBounds_toArray, List.set_cons_zero, List.set_cons_succ]
          refine heldY 6 21 ?_ _ rfl rfl (by kernel_rfl) (by kernel_rfl) (by kernel_rfl) (fun _ _ _ h => h) rfl (by assumption) ?_ ?_
          rotate_left
          · (intro w hSw; (try dsimp only at hSw); go_simp; (try with_reducible rfl))
          try simp only [List.setIfInBounds_toArray, List.set_cons_zero, List.set_cons_succ]
          refine heldY 7 22 ?_ _ rfl rfl (by kernel_rfl) (by kernel_rfl) (by kernel_rfl) (fun _ _ _ h => h) rfl (by assumption) ?_ ?_
          rotate_left
          · (intro w hSw; (try dsimp only at hSw); go_simp; (try with_reducible rfl))
          try simp only [List.setIfInBounds_toArray, List.set_cons_zero, List.set_cons_succ]
          refine heldY 8 23 ?_ _ rfl rfl (by kernel_rfl) (by kernel_rfl) (by kernel_rfl) (fun _ _ _ h => h) rfl (by assumption) ?_ ?_
          rotate_left
          · (intro w hSw; (try dsimp only at hSw); go_simp; (try with_reducible rfl))
          try simp only [List.setIfInBounds_toArray, List.set_cons_zero, List.set_cons_succ]
          refine heldY 9 24 ?_ _ rfl rfl (by kernel_rfl) (by kernel_rfl) (by kernel_rfl) (fun _ _ _ h => h) rfl (by assumption) ?_ ?_
          rotate_left
          · (intro w hSw; (try dsimp only at hSw); go_simp; (try with_reducible rfl))
          try simp only [List.setIfInBounds_toArray, List.set_cons_zero, List.set_cons_succ]
          refine heldY 10 25 ?_ _ rfl rfl (by kernel_rfl) (by kernel_rfl) (by kernel_rfl) (fun _ _ _ h => h) rfl (by assumption) ?_ ?_
          rotate_left
          · (intro w hSw; (try dsimp only at hSw); go_simp; (try with_reducible rfl))
          try simp only [List.setIfInBounds_toArray, List.set_cons_zero, List.set_cons_succ]
          refine heldY 11 26 ?_ _ rfl rfl (by kernel_rfl) (by kernel_rfl) (by kernel_rfl) (fun _ _ _ h => h) rfl (by assumption) ?_ ?_
          rotate_left
          · (intro w hSw; (try dsimp only at hSw); go_simp; (try with_reducible rfl))
          try simp only [List.setIfInBounds_toArray, List.set_cons_zero, List.set_cons_succ]
          refine heldY 12 27 ?_ _ rfl rfl (by kernel_rfl) (by kernel_rfl) (by kernel_rfl) (fun _ _ _ h => h) rfl (by assumption) ?_ ?_
          rotate_left
          · (intro w hSw; (try dsimp only at hSw); go_simp; (try with_reducible rfl))
          try simp only [List.setIfInBounds_toArray, List.set_cons_zero, List.set_cons_succ]
          refine heldY 13 28 ?_ _ rfl rfl (by kernel_rfl) (by kernel_rfl) (by kernel_rfl) (fun _ _ _ h => h) rfl (by assumption) ?_ ?_
          rotate_left
          · (intro w hSw; (try dsimp only at hSw); go_simp; (try with_reducible rfl))
          try simp only [List.setIfInBounds_toArray, List.set_cons_zero, List.set_cons_succ]
          refine heldY 14 29 ?_ _ rfl rfl (by kernel_rfl) (by kernel_rfl) (by kernel_rfl) (fun _ _ _ h => h) rfl (by assumption) ?_ ?_
          rotate_left
          · (intro w hSw; (try dsimp only at hSw); go_simp; (try with_reducible rfl))
          try simp only [List.setIfInBounds_toArray, List.set_cons_zero, List.set_cons_succ]
          refine heldY 15 30 ?_ _ rfl rfl (by kernel_rfl) (by kernel_rfl) (by kernel_rfl) (fun _ _ _ h => h) rfl (by assumption) ?_ ?_
          rotate_left
          · (intro w hSw; (try dsimp only at hSw); go_simp; (try with_reducible rfl))
          try simp only [List.setIfInBounds_toArray, List.set_cons_zero, List.set_cons_succ]
          refine heldY 16 31 ?_ _ rfl rfl (by kernel_rfl) (by kernel_rfl) (by kernel_rfl) (fun _ _ _ h => h) rfl (by assumption) ?_ ?_
          rotate_left
          · (intro w hSw; (try dsimp only at hSw); go_simp; (try with_reducible rfl))
          try simp only [List.setIfInBounds_toArray, List.set_cons_zero, List.set_cons_succ]
          refine heldY 17 32 ?_ _ rfl rfl (by kernel_rfl) (by kernel_rfl) (by kernel_rfl) (fun _ _ _ h => h) rfl (by assumption) ?_ ?_
          rotate_left
          · (intro w hSw; (try dsimp only at hSw); go_simp; (try with_reducible rfl))
          try simp only [List.setIfInBounds_toArray, List.set_cons_zero, List.set_cons_succ]
          refine heldY 18 33 ?_ _ rfl rfl (by kernel_rfl) (by kernel_rfl) (by kernel_rfl) (fun _ _ _ h => h) rfl (by assumption) ?_ ?_
          rotate_left
          · (intro w hSw; (try dsimp only at hSw); go_simp; (try with_reducible rfl))
          try simp only [List.setIfInBounds_toArray, List.set_cons_zero, List.set_cons_succ]
          refine heldY 19 34 ?_ _ rfl rfl (by kernel_rfl) (by kernel_rfl) (by kernel_rfl) (fun _ _ _ h => h) rfl (by assumption) ?_ ?_
          rotate_left
          · (intro w hSw; (try dsimp only at hSw); go_simp; (try with_reducible rfl))
          try simp only [List.setIfInBounds_toArray, List.set_cons_zero, List.set_cons_succ]
          refine heldY 20 35 ?_ _ rfl rfl (by kernel_rfl) (by kernel_rfl) (by kernel_rfl) (fun _ _ _ h => h) rfl (by assumption) ?_ ?_
          rotate_left
          · (intro w hSw; (try dsimp only at hSw); go_simp; (try with_reducible rfl))
          try simp only [List.setIfInBounds_toArray, List.set_cons_zero, List.set_cons_succ]
          refine heldY 21 36 ?_ _ rfl rfl (by kernel_rfl) (by kernel_rfl) (by kernel_rfl) (fun _ _ _ h => h) rfl (by assumption) ?_ ?_
          rotate_left
          · (intro w hSw; (try dsimp only at hSw); go_simp; (try with_reducible rfl))
          try simp only [List.setIfInBounds_toArray, List.set_cons_zero, List.set_cons_succ]
          refine heldY 22 37 ?_ _ rfl rfl (by kernel_rfl) (by kernel_rfl) (by kernel_rfl) (fun _ _ _ h => h) rfl (by assumption) ?_ ?_
          rotate_left
          · (intro w hSw; (try dsimp only at hSw); go_simp; (try with_reducible rfl))
          try simp only [List.setIfInBounds_toArray, List.set_cons_zero, List.set_cons_succ]
          refine heldY 23 38 ?_ _ rfl rfl (by kernel_rfl) (by kernel_rfl) (by kernel_rfl) (fun _ _ _ h => h) rfl (by assumption) ?_ ?_
          rotate_left
          · (intro w hSw; (try dsimp only at hSw); go_simp; (try with_reducible rfl))
          try simp only [List.setIfInBounds_toArray, List.set_cons_zero, List.set_cons_succ]
          refine wpAnyH_done (by kernel_rfl) ?_ _
          clear hs
          obtain ⟨e0, c0, c1, c2, c3, c4, c5, hB3⟩ := hHeld
          clear e0
          cases q
          · have HF := Lib.hid (HBAD2.out rfl)
            have HB3 := Lib.hid (HBB.out.trans (hB3.mono hsz0))
            clear HBAD2 HST2
            go_wp2
            go_ret
            exact ⟨reti HF.out, HB3.out⟩
          · have HK := Lib.hid (HST2.out rfl)
            clear HBAD2 HST2 i2 i3
            have HB3 := Lib.hid (HBB.out.trans (hB3.mono hsz0))
            have HU3 := Lib.hid (OwnT.onB HU0.out hB3)
            have HQ3 := Lib.hid (OwnT.onB HQ0.out hB3)
            have hsz3 := HB3.out.size
            clear hB3 HBB HU0 HQ0
            go_wp2_with (go_at_call 15; (with_reducible refine (LK _ HB3.out).mono ?_); rintro e w4 ⟨lv, rfl, hlv, hb⟩; have HL4 := Lib.hid hlv; have HB4 := Lib.hid (HB3.out.trans (hb.mono hsz3)); have HU4 := Lib.hid (OwnT.onB HU3.out hb); have HQ4 := Lib.hid (OwnT.onB HQ3.out hb); clear hlv hb; refine Hid.out ?_)
            obtain ⟨lg, lc, hlv, hlc⟩ := OwnT.txtsAt HL4.out (by omega)
            subst hlv
            have HLC := Lib.hid hlc
            have hsz4 := HB4.out.size
            clear hlc LK HL4 HB3 HU3 HQ3 c0 c1 c2 c3 c4 c5
            refine Lib.hid ?_
            go_wp2_with (at_builtin; refine wpList_append_own_at _ rfl _ _ 30 rfl w.heap.size 9 i0 (.string ⟨#[]⟩) 1 16 Tryz.underlying30 hi hz0 hz1 hz2' rfl (by decide) _ _ _ rfl HU4.out _ _ _ _ rfl (by rw [txts_len, Nat.mul_one]) HLC.out (fun u hu => by obtain ⟨q, -, rfl⟩ := List.mem_map.1 hu; rfl) (by unfold maxLen; omega) (by omega) (by omega) ?_)
            intro v5 w5 hown hgrow _ hloc
            have HU5 : Hid (OwnT w5 w.heap.size v5 (PL ++ LX)) := Lib.hid (OwnT.appT (by rw [hll]; exact hown))
            have HQ5 : Hid (OwnT w5 w.heap.size u4 PN) := Lib.hid (World.ownsRow.kept HQ4.out hgrow (HA.out.hne))
            have HA5 : Hid (ApartV v5 u4) := Lib.hid (ApartV.step HA.out HQ4.out hloc)
            have HB5 : Hid (Below w.heap.size w w5) := Lib.hid (HB4.out.grown hgrow hsz4 (fun k hk => (World.ownsRow.lt HU4.out k hk).1))
            have hsz5 := HB5.out.size
            clear hown hgrow hloc HLC HU4 HQ4 HB4 HA
            obtain ⟨c0, c1, c2, c3, c4, c5⟩ := HCW.out
            rw [← HB5.out.cell (p := ⟨b, o + k * 6, none⟩) hbw] at c0
            rw [← HB5.out.cell (p := ⟨b, o + k * 6 + 1, none⟩) hbw] at c1
            rw [← HB5.out.cell (p := ⟨b, o + k * 6 + 2, none⟩) hbw] at c2
            rw [← HB5.out.cell (p := ⟨b, o + k * 6 + 3, none⟩) hbw] at c3
            rw [← HB5.out.cell (p := ⟨b, o + k * 6 + 4, none⟩) hbw] at c4
            rw [← HB5.out.cell (p := ⟨b, o + k * 6 + 5, none⟩) hbw] at c5
            go_wp2_with (go_at_call 44; (with_reducible refine (NK _ HB5.out).mono ?_); rintro e w6 ⟨nv, rfl, hnv, hb⟩; have HN6 := Lib.hid hnv; have HB6 := Lib.hid (HB5.out.trans (hb.mono hsz5)); have HU6 := Lib.hid (OwnT.onB HU5.out hb); have HQ6 := Lib.hid (OwnT.onB HQ5.out hb); clear hnv hb; refine Hid.out ?_)
            obtain ⟨ng, nc, hnv, hnc⟩ := OwnT.txtsAt HN6.out (by omega)
            subst hnv
            have HNC := Lib.hid hnc
            have hsz6 := HB6.out.size
            clear hnc NK HN6 HB5 HU5 HQ5 c0 c1 c2 c3 c4 c5
            refine Lib.hid ?_
            go_wp2_with (at_builtin; refine wpList_append_own_at _ rfl _ _ 30 rfl w.heap.size 9 i0 (.string ⟨#[]⟩) 1 16 Tryz.underlying30 hi hz0 hz1 hz2' rfl (by decide) _ _ _ rfl HQ6.out _ _ _ _ rfl (by rw [txts_len, Nat.mul_one]) HNC.out (fun u hu => by obtain ⟨q, -, rfl⟩ := List.mem_map.1 hu; rfl) (by unfold maxLen; omega) (by omega) (by omega) ?_)
            intro v7 w7 hown hgrow _ hloc
            have HQ7 : Hid (OwnT w7 w.heap.size v7 ((l.take (k + 1)).flatMap namesA)) := Lib.hid (by rw [HNX2.out]; exact OwnT.appT (by rw [hnl]; exact hown))
            have HU7 : Hid (OwnT w7 w.heap.size v5 ((l.take (k + 1)).flatMap linksA)) := Lib.hid (by rw [HNX1.out]; exact World.ownsRow.kept HU6.out hgrow (HA5.out.symm.hne))
            have HA7 : Hid (ApartV v5 v7) := Lib.hid (ApartV.symm (ApartV.step HA5.out.symm HU6.out hloc))
            have HB7 : Hid (Below w.heap.size w w7) := Lib.hid (HB6.out.grown hgrow hsz6 (fun k hk => (World.ownsRow.lt HQ6.out k hk).1))
            clear hown hgrow hloc
            go_wp2
            go_roundw
            case rel => exact ⟨k + 1, by omega, by go_num, HK, HU7, HQ7, HA7, HB7⟩
            case measure => simp [intOf]; omega
        · have HST2 : Hid (∀ (j : Nat) u, j < k + 1 → l[j]? = some u → stepK rightA (fun x => x.nm) l j u) := Lib.hid (HST.out (fun g => absurd g hk0))
          have hd : decide ((0 : Int) < (k : Int)) = false := decide_eq_false (by omega)
          have hs := And.intro c0 (And.intro c1 (And.intro c2 (And.intro c3 (And.intro c4 (And.intro c5 hB0)))))
          clear HBAD HRR HLK HNK HIN HDUP HSO HXB HST c0 c1 c2 c3 c4 c5 HB hB0
          go_wp2
          have BE := fun (V : World) (h : V.cell? ⟨b, o + k * 6, none⟩ = some (.string X0) ∧ V.cell? ⟨b, o + k * 6 + 1, none⟩ = some (.string X1) ∧ V.cell? ⟨b, o + k * 6 + 2, none⟩ = some (.bool z2) ∧ V.cell? ⟨b, o + k * 6 + 3, none⟩ = some (.string X3) ∧ V.cell? ⟨b, o + k * 6 + 4, none⟩ = some (.slice a4 n4 m4) ∧ V.cell? ⟨b, o + k * 6 + 5, none⟩ = some (.slice a5 n5 m5) ∧ Below w0.heap.size w0 V) => AtF.be (w := w0) (l := [(⟨b, o + k * 6, none⟩, .string X0), (⟨b, o + k * 6 + 1, none⟩, .string X1), (⟨b, o + k * 6 + 2, none⟩, .bool z2), (⟨b, o + k * 6 + 3, none⟩, .string X3), (⟨b, o + k * 6 + 4, none⟩, .slice a4 n4 m4), (⟨b, o + k * 6 + 5, none⟩, .slice a5 n5 m5)]) h
          refine wp_region_held_drew (S := (fun V => V.cell? ⟨b, o + k * 6, none⟩ = some (.string X0) ∧ V.cell? ⟨b, o + k * 6 + 1, none⟩ = some (.string X1) ∧ V.cell? ⟨b, o + k * 6 + 2, none⟩ = some (.bool z2) ∧ V.cell? ⟨b, o + k * 6 + 3, none⟩ = some (.string X3) ∧ V.cell? ⟨b, o + k * 6 + 4, none⟩ = some (.slice a4 n4 m4) ∧ V.cell? ⟨b, o + k * 6 + 5, none⟩ = some (.slice a5 n5 m5) ∧ Below w0.heap.size w0 V)) (by kernel_rfl) ?_ (fun hHeld => ?_)
          · (try dsimp only); (first | assumption | exact hs | exact AtF.dr (w := w0) (l := [(⟨b, o + k * 6, none⟩, .string X0), (⟨b, o + k * 6 + 1, none⟩, .string X1), (⟨b, o + k * 6 + 2, none⟩, .bool z2), (⟨b, o + k * 6 + 3, none⟩, .string X3), (⟨b, o + k * 6 + 4, none⟩, .slice a4 n4 m4), (⟨b, o + k * 6 + 5, none⟩, .slice a5 n5 m5)]) hs | exact AtF.dr (w := w0) (l := [(⟨b, o + k * 6, none⟩, .string X0), (⟨b, o + k * 6 + 1, none⟩, .string X1), (⟨b, o + k * 6 + 2, none⟩, .bool z2), (⟨b, o + k * 6 + 3, none⟩, .string X3), (⟨b, o + k * 6 + 4, none⟩, .slice a4 n4 m4), (⟨b, o + k * 6 + 5, none⟩, .slice a5 n5 m5)]) (by assumption) | exact AtF.on (w := w0) (l := [(⟨b, o + k * 6, none⟩, .string X0), (⟨b, o + k * 6 + 1, none⟩, .string X1), (⟨b, o + k * 6 + 2, none⟩, .bool z2), (⟨b, o + k * 6 + 3, none⟩, .string X3), (⟨b, o + k * 6 + 4, none⟩, .slice a4 n4 m4), (⟨b, o + k * 6 + 5, none⟩, .slice a5 n5 m5)]) (by assumption) (by assumption) | exact AtF.al (w := w0) (l := [(⟨b, o + k * 6, none⟩, .string X0), (⟨b, o + k * 6 + 1, none⟩, .string X1), (⟨b, o + k * 6 + 2, none⟩, .bool z2), (⟨b, o + k * 6 + 3, none⟩, .string X3), (⟨b, o + k * 6 + 4, none⟩, .slice a4 n4 m4), (⟨b, o + k * 6 + 5, none⟩, .slice a5 n5 m5)]) (by assumption) _ | exact AtF.ald (w := w0) (l := [(⟨b, o + k * 6, none⟩, .string X0), (⟨b, o + k * 6 + 1, none⟩, .string X1), (⟨b, o + k * 6 + 2, none⟩, .bool z2), (⟨b, o + k * 6 + 3, none⟩, .string X3), (⟨b, o + k * 6 + 4, none⟩, .slice a4 n4 m4), (⟨b, o + k * 6 + 5, none⟩, .slice a5 n5 m5)]) (by assumption) _ | exact AtF.al (w := w0) (l := [(⟨b, o + k * 6, none⟩, .string X0), (⟨b, o + k * 6 + 1, none⟩, .string X1), (⟨b, o + k * 6 + 2, none⟩, .bool z2), (⟨b, o + k * 6 + 3, none⟩, .string X3), (⟨b, o + k * 6 + 4, none⟩, .slice a4 n4 m4), (⟨b, o + k * 6 + 5, none⟩, .slice a5 n5 m5)]) hs _ | exact AtF.ald (w := w0) (l := [(⟨b, o + k * 6, none⟩, .string X0), (⟨b, o + k * 6 + 1, none⟩, .string X1), (⟨b, o + k * 6 + 2, none⟩, .bool z2), (⟨b, o + k * 6 + 3, none⟩, .string X3), (⟨b, o + k * 6 + 4, none⟩, .slice a4 n4 m4), (⟨b, o + k * 6 + 5, none⟩, .slice a5 n5 m5)]) hs _)
          refine heldY 0 15 ?_ _ rfl rfl (by kernel_rfl) (by kernel_rfl) (by kernel_rfl) (fun _ _ _ h => h) rfl (by assumption) ?_ ?_
          rotate_left
          · (intro w hSw; (try dsimp only at hSw); go_simp; (try with_reducible rfl))
          try simp only [List.setIfInBounds_toArray, List.set_cons_zero, List.set_cons_succ]
          refine heldY 1 16 ?_ _ rfl rfl (by kernel_rfl) (by kernel_rfl) (by kernel_rfl) (fun _ _ _ h => h) rfl (by assumption) ?_ ?_
          rotate_left
          · (intro w hSw; (try dsimp only at hSw); go_simp; (try with_reducible rfl))
          try simp only [List.setIfInBounds_toArray, List.set_cons_zero, List.set_cons_succ]
          refine heldY 2 17 ?_ _ rfl rfl (by kernel_rfl) (by kernel_rfl) (by kernel_rfl) (fun _ _ _ h => h) rfl (by assumption) ?_ ?_
          rotate_left
          · (intro w hSw; (try dsimp only at hSw); go_simp; (try with_reducible rfl))
          try simp only [List.setIfInBounds_toArray, List.set_cons_zero, List.set_cons_succ]
          refine heldY 3 18 ?_ _ rfl rfl (by kernel_rfl) (by kernel_rfl) (by kernel_rfl) (fun _ _ _ h => h) rfl (by assumption) ?_ ?_
          rotate_left
          · (intro w hSw; (try dsimp only at hSw); go_simp; (try with_reducible rfl))
          try simp only [List.setIfInBounds_toArray, List.set_cons_zero, List.set_cons_succ]
          refine wpAnyH_ready (rs := [4]) (by kernel_rfl) (by simp) ?_
          refine AllReadyH.cons rfl (fun K hK => ?_) AllReadyH.nil
          go_simp
          (go_at_call 43; (with_reducible refine (RR _ (HBB.out.trans ((BE _ (by assumption)).mono hsz0))).mono ?_); rintro e w3 ⟨rfl, hb⟩)
          refine hK.out _ _ ?_ (fun hHeld => ?_)
          · (try dsimp only); (first | assumption | exact hs | exact AtF.dr (w := w0) (l := [(⟨b, o + k * 6, none⟩, .string X0), (⟨b, o + k * 6 + 1, none⟩, .string X1), (⟨b, o + k * 6 + 2, none⟩, .bool z2), (⟨b, o + k * 6 + 3, none⟩, .string X3), (⟨b, o + k * 6 + 4, none⟩, .slice a4 n4 m4), (⟨b, o + k * 6 + 5, none⟩, .slice a5 n5 m5)]) hs | exact AtF.dr (w := w0) (l := [(⟨b, o + k * 6, none⟩, .string X0), (⟨b, o + k * 6 + 1, none⟩, .string X1), (⟨b, o + k * 6 + 2, none⟩, .bool z2), (⟨b, o + k * 6 + 3, none⟩, .string X3), (⟨b, o + k * 6 + 4, none⟩, .slice a4 n4 m4), (⟨b, o + k * 6 + 5, none⟩, .slice a5 n5 m5)]) (by assumption) | exact AtF.on (w := w0) (l := [(⟨b, o + k * 6, none⟩, .string X0), (⟨b, o + k * 6 + 1, none⟩, .string X1), (⟨b, o + k * 6 + 2, none⟩, .bool z2), (⟨b, o + k * 6 + 3, none⟩, .string X3), (⟨b, o + k * 6 + 4, none⟩, .slice a4 n4 m4), (⟨b, o + k * 6 + 5, none⟩, .slice a5 n5 m5)]) (by assumption) (by assumption) | exact AtF.al (w := w0) (l := [(⟨b, o + k * 6, none⟩, .string X0), (⟨b, o + k * 6 + 1, none⟩, .string X1), (⟨b, o + k * 6 + 2, none⟩, .bool z2), (⟨b, o + k * 6 + 3, none⟩, .string X3), (⟨b, o + k * 6 + 4, none⟩, .slice a4 n4 m4), (⟨b, o + k * 6 + 5, none⟩, .slice a5 n5 m5)]) (by assumption) _ | exact AtF.ald (w := w0) (l := [(⟨b, o + k * 6, none⟩, .string X0), (⟨b, o + k * 6 + 1, none⟩, .string X1), (⟨b, o + k * 6 + 2, none⟩, .bool z2), (⟨b, o + k * 6 + 3, none⟩, .string X3), (⟨b, o + k * 6 + 4, none⟩, .slice a4 n4 m4), (⟨b, o + k * 6 + 5, none⟩, .slice a5 n5 m5)]) (by assumption) _ | exact AtF.al (w := w0) (l := [(⟨b, o + k * 6, none⟩, .string X0), (⟨b, o + k * 6 + 1, none⟩, .string X1), (⟨b, o + k * 6 + 2, none⟩, .bool z2), (⟨b, o + k * 6 + 3, none⟩, .string X3), (⟨b, o + k * 6 + 4, none⟩, .slice a4 n4 m4), (⟨b, o + k * 6 + 5, none⟩, .slice a5 n5 m5)]) hs _ | exact AtF.ald (w := w0) (l := [(⟨b, o + k * 6, none⟩, .string X0), (⟨b, o + k * 6 + 1, none⟩, .string X1), (⟨b, o + k * 6 + 2, none⟩, .bool z2), (⟨b, o + k * 6 + 3, none⟩, .string X3), (⟨b, o + k * 6 + 4, none⟩, .slice a4 n4 m4), (⟨b, o + k * 6 + 5, none⟩, .slice a5 n5 m5)]) hs _)
          clear hK K
          try simp only [Act.put, List.setIfInBounds_toArray, List.set_cons_zero, List.set_cons_succ]
          refine heldY 5 20 ?_ _ rfl rfl (by kernel_rfl) (by kernel_rfl) (by kernel_rfl) (fun _ _ _ h => h) rfl (by assumption) ?_ ?_
          rotate_left
          · (intro w hSw; (try dsimp only at hSw); go_simp; (try with_reducible rfl))
          try simp only [List.setIfInBounds_toArray, List.set_cons_zero, List.set_cons_succ]
          refine heldY 6 21 ?_ _ rfl rfl (by kernel_rfl) (by kernel_rfl) (by kernel_rfl) (fun _ _ _ h => h) rfl (by assumption) ?_ ?_
          rotate_left
          · (intro w hSw; (try dsimp only at hSw); go_simp; (try with_reducible rfl))
          try simp only [List.setIfInBounds_toArray, List.set_cons_zero, List.set_cons_succ]
          refine heldY 7 22 ?_ _ rfl rfl (by kernel_rfl) (by kernel_rfl) (by kernel_rfl) (fun _ _ _ h => h) rfl (by assumption) ?_ ?_
          rotate_left
          · (intro w hSw; (try dsimp only at hSw); go_simp; (try with_reducible rfl))
          try simp only [List.setIfInBounds_toArray, List.set_cons_zero, List.set_cons_succ]
          refine heldY 8 23 ?_ _ rfl rfl (by kernel_rfl) (by kernel_rfl) (by kernel_rfl) (fun _ _ _ h => h) rfl (by assumption) ?_ ?_
          rotate_left
          · (intro w hSw; (try dsimp only at hSw); go_simp; (try with_reducible rfl))
          try simp only [List.setIfInBounds_toArray, List.set_cons_zero, List.set_cons_succ]
          refine heldY 9 24 ?_ _ rfl rfl (by kernel_rfl) (by kernel_rfl) (by kernel_rfl) (fun _ _ _ h => h) rfl (by assumption) ?_ ?_
          rotate_left
          · (intro w hSw; (try dsimp only at hSw); go_simp; (try with_reducible rfl))
          try simp only [List.setIfInBounds_toArray, List.set_cons_zero, List.set_cons_succ]
          refine heldNo 10 25 rfl (by kernel_rfl) (by kernel_rfl) (by kernel_rfl) (fun _ _ _ h => h) rfl (by assumption) ?_
          try simp only [List.setIfInBounds_toArray, List.set_cons_zero, List.set_cons_succ]
          refine heldNo 11 26 rfl (by kernel_rfl) (by kernel_rfl) (by kernel_rfl) (fun _ _ _ h => h) rfl (by assumption) ?_
          try simp only [List.setIfInBounds_toArray, List.set_cons_zero, List.set_cons_succ]
          refine heldNo 12 27 rfl (by kernel_rfl) (by kernel_rfl) (by kernel_rfl) (fun _ _ _ h => h) rfl (by assumption) ?_
          try simp only [List.setIfInBounds_toArray, List.set_cons_zero, List.set_cons_succ]
          refine heldNo 13 28 rfl (by kernel_rfl) (by kernel_rfl) (by kernel_rfl) (fun _ _ _ h => h) rfl (by assumption) ?_
          try simp only [List.setIfInBounds_toArray, List.set_cons_zero, List.set_cons_succ]
          refine heldNo 14 29 rfl (by kernel_rfl) (by kernel_rfl) (by kernel_rfl) (fun _ _ _ h => h) rfl (by assumption) ?_
          try simp only [List.setIfInBounds_toArray, List.set_cons_zero, List.set_cons_succ]
          refine heldNo 15 30 rfl (by kernel_rfl) (by kernel_rfl) (by kernel_rfl) (fun _ _ _ h => h) rfl (by assumption) ?_
          try simp only [List.setIfInBounds_toArray, List.set_cons_zero, List.set_cons_succ]
          refine heldNo 16 31 rfl (by kernel_rfl) (by kernel_rfl) (by kernel_rfl) (fun _ _ _ h => h) rfl (by assumption) ?_
          try simp only [List.setIfInBounds_toArray, List.set_cons_zero, List.set_cons_succ]
          refine heldNo 17 32 rfl (by kernel_rfl) (by kernel_rfl) (by kernel_rfl) (fun _ _ _ h => h) rfl (by assumption) ?_
          try simp only [List.setIfInBounds_toArray, List.set_cons_zero, List.set_cons_succ]
          refine heldNo 18 33 rfl (by kernel_rfl) (by kernel_rfl) (by kernel_rfl) (fun _ _ _ h => h) rfl (by assumption) ?_
          try simp only [List.setIfInBounds_toArray, List.set_cons_zero, List.set_cons_succ]
          refine heldNo 19 34 rfl (by kernel_rfl) (by kernel_rfl) (by kernel_rfl) (fun _ _ _ h => h) rfl (by assumption) ?_
          try simp only [List.setIfInBounds_toArray, List.set_cons_zero, List.set_cons_succ]
          refine heldNo 20 35 rfl (by kernel_rfl) (by kernel_rfl) (by kernel_rfl) (fun _ _ _ h => h) rfl (by assumption) ?_
          try simp only [List.setIfInBounds_toArray, List.set_cons_zero, List.set_cons_succ]
          refine heldNo 21 36 rfl (by kernel_rfl) (by kernel_rfl) (by kernel_rfl) (fun _ _ _ h => h) rfl (by assumption) ?_
          try simp only [List.setIfInBounds_toArray, List.set_cons_zero, List.set_cons_succ]
          refine heldY 22 37 ?_ _ rfl rfl (by kernel_rfl) (by kernel_rfl) (by kernel_rfl) (fun _ _ _ h => h) rfl (by assumption) ?_ ?_
          rotate_left
          · (intro w hSw; (try dsimp only at hSw); go_simp; (try with_reducible rfl))
          try simp only [List.setIfInBounds_toArray, List.set_cons_zero, List.set_cons_succ]
          refine heldY 23 38 ?_ _ rfl rfl (by kernel_rfl) (by kernel_rfl) (by kernel_rfl) (fun _ _ _ h => h) rfl (by assumption) ?_ ?_
          rotate_left
          · (intro w hSw; (try dsimp only at hSw); go_simp; (try with_reducible rfl))
          try simp only [List.setIfInBounds_toArray, List.set_cons_zero, List.set_cons_succ]
          refine wpAnyH_done (by kernel_rfl) ?_ _
          clear hs
          obtain ⟨c0, c1, c2, c3, c4, c5, hB3⟩ := hHeld
          have HK := HST2
          clear HST2
          have HB3 := Lib.hid (HBB.out.trans (hB3.mono hsz0))
          have HU3 := Lib.hid (OwnT.onB HU0.out hB3)
          have HQ3 := Lib.hid (OwnT.onB HQ0.out hB3)
          have hsz3 := HB3.out.size
          clear hB3 HBB HU0 HQ0
          go_wp2_with (go_at_call 15; (with_reducible refine (LK _ HB3.out).mono ?_); rintro e w4 ⟨lv, rfl, hlv, hb⟩; have HL4 := Lib.hid hlv; have HB4 := Lib.hid (HB3.out.trans (hb.mono hsz3)); have HU4 := Lib.hid (OwnT.onB HU3.out hb); have HQ4 := Lib.hid (OwnT.onB HQ3.out hb); clear hlv hb; refine Hid.out ?_)
          obtain ⟨lg, lc, hlv, hlc⟩ := OwnT.txtsAt HL4.out (by omega)
          subst hlv
          have HLC := Lib.hid hlc
          have hsz4 := HB4.out.size
          clear hlc LK HL4 HB3 HU3 HQ3 c0 c1 c2 c3 c4 c5
          refine Lib.hid ?_
          go_wp2_with (at_builtin; refine wpList_append_own_at _ rfl _ _ 30 rfl w.heap.size 9 i0 (.string ⟨#[]⟩) 1 16 Tryz.underlying30 hi hz0 hz1 hz2' rfl (by decide) _ _ _ rfl HU4.out _ _ _ _ rfl (by rw [txts_len, Nat.mul_one]) HLC.out (fun u hu => by obtain ⟨q, -, rfl⟩ := List.mem_map.1 hu; rfl) (by unfold maxLen; omega) (by omega) (by omega) ?_)
          intro v5 w5 hown hgrow _ hloc
          have HU5 : Hid (OwnT w5 w.heap.size v5 (PL ++ LX)) := Lib.hid (OwnT.appT (by rw [hll]; exact hown))
          have HQ5 : Hid (OwnT w5 w.heap.size u4 PN) := Lib.hid (World.ownsRow.kept HQ4.out hgrow (HA.out.hne))
          have HA5 : Hid (ApartV v5 u4) := Lib.hid (ApartV.step HA.out HQ4.out hloc)
          have HB5 : Hid (Below w.heap.size w w5) := Lib.hid (HB4.out.grown hgrow hsz4 (fun k hk => (World.ownsRow.lt HU4.out k hk).1))
          have hsz5 := HB5.out.size
          clear hown hgrow hloc HLC HU4 HQ4 HB4 HA
          obtain ⟨c0, c1, c2, c3, c4, c5⟩ := HCW.out
          rw [← HB5.out.cell (p := ⟨b, o + k * 6, none⟩) hbw] at c0
          rw [← HB5.out.cell (p := ⟨b, o + k * 6 + 1, none⟩) hbw] at c1
          rw [← HB5.out.cell (p := ⟨b, o + k * 6 + 2, none⟩) hbw] at c2
          rw [← HB5.out.cell (p := ⟨b, o + k * 6 + 3, none⟩) hbw] at c3
          rw [← HB5.out.cell (p := ⟨b, o + k * 6 + 4, none⟩) hbw] at c4
          rw [← HB5.out.cell (p := ⟨b, o + k * 6 + 5, none⟩) hbw] at c5
          go_wp2_with (go_at_call 44; (with_reducible refine (NK _ HB5.out).mono ?_); rintro e w6 ⟨nv, rfl, hnv, hb⟩; have HN6 := Lib.hid hnv; have HB6 := Lib.hid (HB5.out.trans (hb.mono hsz5)); have HU6 := Lib.hid (OwnT.onB HU5.out hb); have HQ6 := Lib.hid (OwnT.onB HQ5.out hb); clear hnv hb; refine Hid.out ?_)
          obtain ⟨ng, nc, hnv, hnc⟩ := OwnT.txtsAt HN6.out (by omega)
          subst hnv
          have HNC := Lib.hid hnc
          have hsz6 := HB6.out.size
          clear hnc NK HN6 HB5 HU5 HQ5 c0 c1 c2 c3 c4 c5
          refine Lib.hid ?_
          go_wp2_with (at_builtin; refine wpList_append_own_at _ rfl _ _ 30 rfl w.heap.size 9 i0 (.string ⟨#[]⟩) 1 16 Tryz.underlying30 hi hz0 hz1 hz2' rfl (by decide) _ _ _ rfl HQ6.out _ _ _ _ rfl (by rw [txts_len, Nat.mul_one]) HNC.out (fun u hu => by obtain ⟨q, -, rfl⟩ := List.mem_map.1 hu; rfl) (by unfold maxLen; omega) (by omega) (by omega) ?_)
          intro v7 w7 hown hgrow _ hloc
          have HQ7 : Hid (OwnT w7 w.heap.size v7 ((l.take (k + 1)).flatMap namesA)) := Lib.hid (by rw [HNX2.out]; exact OwnT.appT (by rw [hnl]; exact hown))
          have HU7 : Hid (OwnT w7 w.heap.size v5 ((l.take (k + 1)).flatMap linksA)) := Lib.hid (by rw [HNX1.out]; exact World.ownsRow.kept HU6.out hgrow (HA5.out.symm.hne))
          have HA7 : Hid (ApartV v5 v7) := Lib.hid (ApartV.symm (ApartV.step HA5.out.symm HU6.out hloc))
          have HB7 : Hid (Below w.heap.size w w7) := Lib.hid (HB6.out.grown hgrow hsz6 (fun k hk => (World.ownsRow.lt HQ6.out k hk).1))
          clear hown hgrow hloc
          go_wp2
          go_roundw
          case rel => exact ⟨k + 1, by omega, by go_num, HK, HU7, HQ7, HA7, HB7⟩
          case measure => simp [intOf]; omega
    · obtain rfl : k = n := by omega
      have hfew := HLN.out k H.out
      have HFS : Hid (StepsA l) := Lib.hid (fun i x hx => H.out i x (by have := (List.getElem?_eq_some_iff.1 hx).1; rw [HN.out] at this; exact this) hx)
      have e : l.take k = l := List.take_of_length_le (by rw [HN.out]; omega)
      rw [e] at HU HQ hfew
      obtain ⟨PL, hPL⟩ : ∃ q, l.flatMap linksA = q := ⟨_, rfl⟩
      obtain ⟨PN, hPN⟩ : ∃ q, l.flatMap namesA = q := ⟨_, rfl⟩
      rw [hPL] at HU HDUP HOK hfew
      rw [hPN] at HQ HDUP HOK hfew
      have SU := fun W (hb : Below wr.heap.size wr W) => HSO.out W u3 PL hfew.1 ((OwnT.holds HU.out).on hb)
      have SQ := fun W (hb : Below wr.heap.size wr W) => HSO.out W u4 PN hfew.2 ((OwnT.holds HQ.out).on hb)
      obtain ⟨ua, uc, hu⟩ : ∃ a c, u3 = .slice a PL.length c := by obtain ⟨a, c, b, o, e, _⟩ := OwnT.holds HU.out; exact ⟨a, c, e⟩
      obtain ⟨qa, qc, hq⟩ : ∃ a c, u4 = .slice a PN.length c := by obtain ⟨a, c, b, o, e, _⟩ := OwnT.holds HQ.out; exact ⟨a, c, e⟩
      subst hu hq
      have hsu := srt_nodup PL
      have hsq := srt_nodup PN
      have HSV : Hid (∀ (W : World) (v : Value) (ls : List Bs) (B : Nat), OwnS W B v (srt ls) → ∃ a c, v = .slice a (srt ls).length c) := Lib.hid (fun W v ls B h => by
        obtain ⟨a, c, b, o, e, _⟩ := OwnT.holds (show OwnT W B v (srt ls) from h); exact ⟨a, c, e⟩)
      obtain ⟨su, hsu2⟩ : ∃ q, (srt PL).length = q := ⟨_, rfl⟩
      obtain ⟨sq, hsq2⟩ : ∃ q, (srt PN).length = q := ⟨_, rfl⟩
      have HSU : Hid (∀ (W : World) (v : Value) (B : Nat), OwnS W B v (srt PL) → ∃ a c, v = .slice a su c) := Lib.hid (fun W v B h => by rw [← hsu2]; exact HSV.out W v PL B h)
      have HSQ : Hid (∀ (W : World) (v : Value) (B : Nat), OwnS W B v (srt PN) → ∃ a c, v = .slice a sq c) := Lib.hid (fun W v B h => by rw [← hsq2]; exact HSV.out W v PN B h)
      rw [hsu2] at hsu
      rw [hsq2] at hsq
      generalize PL.length = ul at *
      generalize PN.length = ql at *
      clear hlt H HU HQ HA HRR HLK HNK HSO HC HIN HBAD HLN e hPL hPN hsu2 hsq2 HSV
      by_cases g1 : su = ul
      · have hn1 := hsu.1 g1
        subst g1
        by_cases g2 : sq = ql
        · have hn2 := hsq.1 g2
          subst g2
          have HF := Lib.hid (HOK.out HFS.out hn1 hn2)
          clear hsu hsq hn1 hn2 HOK HDUP HFS
          go_wp2_with (first
            | (go_at_call 45; (with_reducible refine (SU _ (Below.refl _ _)).mono ?_); rintro e w5 ⟨v5, rfl, ho, hb⟩; obtain ⟨a5, c5, e5⟩ := HSU.out _ _ _ ho; subst e5; have HX5 := Lib.hid hb; have HB5 := Lib.hid (HB.out.trans (hb.mono HB.out.size)); clear ho hb)
            | (go_at_call 45; (with_reducible refine (SQ _ HX5.out).mono ?_); rintro e w6 ⟨v6, rfl, ho, hb⟩; obtain ⟨a6, c6, e6⟩ := HSQ.out _ _ _ ho; subst e6; have HB6 := Lib.hid (HB5.out.trans (hb.mono HB5.out.size)); clear ho hb))
          go_ret
          exact ⟨reti HF.out, HB6.out⟩
        · have hn2 : ¬ PN.Nodup := fun g => g2 (hsq.2 g)
          have HF := Lib.hid (HDUP.out (fun g => hn2 g.2))
          have g3 : ¬ ((sq : Int) = (ql : Int)) := by omega
          clear hsu hsq hn1 hn2 HOK HDUP HFS
          go_wp2_with (first
            | (go_at_call 45; (with_reducible refine (SU _ (Below.refl _ _)).mono ?_); rintro e w5 ⟨v5, rfl, ho, hb⟩; obtain ⟨a5, c5, e5⟩ := HSU.out _ _ _ ho; subst e5; have HX5 := Lib.hid hb; have HB5 := Lib.hid (HB.out.trans (hb.mono HB.out.size)); clear ho hb)
            | (go_at_call 45; (with_reducible refine (SQ _ HX5.out).mono ?_); rintro e w6 ⟨v6, rfl, ho, hb⟩; obtain ⟨a6, c6, e6⟩ := HSQ.out _ _ _ ho; subst e6; have HB6 := Lib.hid (HB5.out.trans (hb.mono HB5.out.size)); clear ho hb))
          go_ret
          exact ⟨reti HF.out, HB6.out⟩
      · have hn1 : ¬ PL.Nodup := fun g => g1 (hsu.2 g)
        have HF := Lib.hid (HDUP.out (fun g => hn1 g.1))
        have g3 : ¬ ((su : Int) = (ul : Int)) := by omega
        clear hsu hsq hn1 HOK HDUP HFS
        go_wp2_with (go_at_call 45; (with_reducible refine (SU _ (Below.refl _ _)).mono ?_); rintro e w5 ⟨v5, rfl, ho, hb⟩; obtain ⟨a5, c5, e5⟩ := HSU.out _ _ _ ho; subst e5; have HB5 := Lib.hid (HB.out.trans (hb.mono HB.out.size)); clear ho hb)
        go_ret
        exact ⟨reti HF.out, HB5.out⟩
end Go.Proofs.YtnfhccnicojdcaaGreatDoor
namespace Go.Proofs.YtnfhccnicojdcaaGreatDoor.altsChecksw
open Go.RowKit
set_option maxRecDepth 100000 in
set_option maxHeartbeats 16000000 in
theorem walk (v : Value) (l : List Av) (hl : l.length ≤ maxLen) (hf : ∀ y ∈ l, FitA y) (w : World) (hL : LaidZ w) (h : HoldA w v l) :
    Calls Tryz.prog 4 #[v] w fun e w' => e = .returned (.bool true) ∧ Below w.heap.size w w' := by
  have FW := fewA_any v l hl hf w h
  have AW := fun W (hb : Below w.heap.size w W) => awake11 W (hL.on hb)
  have CA := fun (g : FewA l) W (hb : Below w.heap.size w W) => checkA_any v l (by have := g.1; omega) (fun x hx => (g.2 x hx).sm) W (hL.p.on hb) (h.on hb)
  have CR := fun (g : FewA l) W (hb : Below w.heap.size w W) => checkA_ref v l (by have := g.1; omega) (fun x hx => (g.2 x hx).sm) W (h.on hb)
  have HLK := Lib.hid (fun (g : FewA l) x (hx : x ∈ l) W (hb : Below w.heap.size w W) => links_any x (by have := (g.2 x hx).sl; omega) W ((h.2 x hx).on hb))
  have HRK := Lib.hid (fun (g : FewA l) x (hx : x ∈ l) W (hb : Below w.heap.size w W) => links_ref x (by have := (g.2 x hx).sl; omega) W ((h.2 x hx).on hb))
  have HSM := Lib.hid (fun (g : FewA l) x (hx : x ∈ l) u v W h1 h2 => same2_below u v (linksA x) (by rw [linksA_len]; have := (g.2 x hx).sl; omega) W h1 h2)
  have HG1 : Hid (FewA l → l.length ≤ 70) := Lib.hid (fun g => g.1)
  have HIN := Lib.hid h.2
  unfold FewAP at FW
  obtain ⟨a, c, b, o, rfl, hc, ha, hcell⟩ := h.parts
  have HC := Lib.hid hcell
  obtain ⟨n, hN⟩ : ∃ n, l.length = n := ⟨_, rfl⟩
  obtain ⟨zz, hzz⟩ : ∃ q, chkA l = q := ⟨_, rfl⟩
  simp only [hzz] at CA CR
  rw [hN] at hc ha hl FW CA CR HG1 ⊢
  have HN := Lib.hid hN
  clear hcell hN h hf hL hzz hl
  go_enter Tryz.func4, Tryz.ntmps4
  go_wp2_with (go_at_call 9; (with_reducible refine FW.mono ?_); rintro e w2 ⟨fb, rfl, hfb, hb⟩; have HF2 := Lib.hid hfb; have HB2 := Lib.hid hb; clear hb hfb; refine Hid.out ?_)
  clear FW
  refine Lib.hid ?_
  cases fb
  · go_wp2_with (go_at_call 10; (with_reducible refine (AW _ HB2.out).mono ?_); rintro e w4 ⟨rfl, hb⟩; have HB4 := Lib.hid (HB2.out.trans (hb.mono HB2.out.size)); clear hb)
    go_ret
    exact ⟨rfl, HB4.out⟩
  have FL := Lib.hid (HF2.out rfl)
  have CA := CA FL.out
  have CR := CR FL.out
  have HLK := Lib.hid (HLK.out FL.out)
  have HRK := Lib.hid (HRK.out FL.out)
  have HSM := Lib.hid (HSM.out FL.out)
  have h70 := HG1.out FL.out
  clear HF2 HG1
  go_wp2
  go_loopw [3] (fun i wr => ∃ k : Nat, k ≤ n ∧ i = .int .i64 k ∧ Hid (Below w.heap.size w wr)) (fun i _ => n - (intOf i).toNat)
  case atStart => exact ⟨0, by omega, rfl, HB2⟩
  case round =>
    obtain ⟨k, hk, rfl, HB⟩ := hrel
    by_cases hlt : k < n
    · obtain ⟨rfl, hbw⟩ := ha (by omega)
      obtain ⟨x, hx⟩ : ∃ x, l[k]? = some x := ⟨_, List.getElem?_eq_getElem (by rw [HN.out]; exact hlt)⟩
      have hxm := List.mem_of_getElem? hx
      have LK := HLK.out x hxm
      have RK := HRK.out x hxm
      have SM := HSM.out x hxm
      obtain ⟨a4, n4, m4, hf4⟩ := formAs (HIN.out x hxm)
      obtain ⟨a5, n5, m5, hf5⟩ := formAc (HIN.out x hxm)
      obtain ⟨c0, c1, c2, c3, c4, c5⟩ := HC.out k x hx
      rw [← HB.out.cell (p := ⟨b, o + k * 6, none⟩) hbw] at c0
      rw [← HB.out.cell (p := ⟨b, o + k * 6 + 1, none⟩) hbw] at c1
      rw [← HB.out.cell (p := ⟨b, o + k * 6 + 2, none⟩) hbw] at c2
      rw [← HB.out.cell (p := ⟨b, o + k * 6 + 3, none⟩) hbw] at c3
      rw [← HB.out.cell (p := ⟨b, o + k * 6 + 4, none⟩) hbw] at c4
      rw [← HB.out.cell (p := ⟨b, o + k * 6 + 5, none⟩) hbw] at c5
      unfold agZA at LK RK
      rw [hf4] at c4
      rw [hf5] at c5
      simp only [hf4, hf5] at LK RK
      obtain ⟨LX, hLX⟩ : ∃ q, linksA x = q := ⟨_, rfl⟩
      simp only [hLX] at LK RK SM
      clear hf4 hf5 hx hxm hLX HLK HRK HSM HC HIN CA CR
      generalize (⟨x.nm.toArray⟩ : ByteArray) = X0 at *
      generalize (⟨x.lk.toArray⟩ : ByteArray) = X1 at *
      generalize (⟨x.cr.toArray⟩ : ByteArray) = X3 at *
      generalize x.mn = z2 at *
      have j0 : (0 : Int) ≤ (k : Int) := by omega
      have j1 : (k : Int) < (n : Int) := by omega
      have hs := And.intro c0 (And.intro c1 (And.intro c2 (And.intro c3 (And.intro c4 (And.intro c5 HB.out)))))
      clear c0 c1 c2 c3 c4 c5
      go_wp2
      have BE := fun (V : World) (h : V.cell? ⟨b, o + k * 6, none⟩ = some (.string X0) ∧ V.cell? ⟨b, o + k * 6 + 1, none⟩ = some (.string X1) ∧ V.cell? ⟨b, o + k * 6 + 2, none⟩ = some (.bool z2) ∧ V.cell? ⟨b, o + k * 6 + 3, none⟩ = some (.string X3) ∧ V.cell? ⟨b, o + k * 6 + 4, none⟩ = some (.slice a4 n4 m4) ∧ V.cell? ⟨b, o + k * 6 + 5, none⟩ = some (.slice a5 n5 m5) ∧ Below w.heap.size w V) => AtF.be (w := w) (l := [(⟨b, o + k * 6, none⟩, .string X0), (⟨b, o + k * 6 + 1, none⟩, .string X1), (⟨b, o + k * 6 + 2, none⟩, .bool z2), (⟨b, o + k * 6 + 3, none⟩, .string X3), (⟨b, o + k * 6 + 4, none⟩, .slice a4 n4 m4), (⟨b, o + k * 6 + 5, none⟩, .slice a5 n5 m5)]) h
      refine wp_region_held_drew (S := (fun V => V.cell? ⟨b, o + k * 6, none⟩ = some (.string X0) ∧ V.cell? ⟨b, o + k * 6 + 1, none⟩ = some (.string X1) ∧ V.cell? ⟨b, o + k * 6 + 2, none⟩ = some (.bool z2) ∧ V.cell? ⟨b, o + k * 6 + 3, none⟩ = some (.string X3) ∧ V.cell? ⟨b, o + k * 6 + 4, none⟩ = some (.slice a4 n4 m4) ∧ V.cell? ⟨b, o + k * 6 + 5, none⟩ = some (.slice a5 n5 m5) ∧ Below w.heap.size w V)) (by kernel_rfl) ?_ (fun hHeld => ?_)
      · (try dsimp only); (first | assumption | exact hs | exact AtF.dr (w := w) (l := [(⟨b, o + k * 6, none⟩, .string X0), (⟨b, o + k * 6 + 1, none⟩, .string X1), (⟨b, o + k * 6 + 2, none⟩, .bool z2), (⟨b, o + k * 6 + 3, none⟩, .string X3), (⟨b, o + k * 6 + 4, none⟩, .slice a4 n4 m4), (⟨b, o + k * 6 + 5, none⟩, .slice a5 n5 m5)]) hs | exact AtF.dr (w := w) (l := [(⟨b, o + k * 6, none⟩, .string X0), (⟨b, o + k * 6 + 1, none⟩, .string X1), (⟨b, o + k * 6 + 2, none⟩, .bool z2), (⟨b, o + k * 6 + 3, none⟩, .string X3), (⟨b, o + k * 6 + 4, none⟩, .slice a4 n4 m4), (⟨b, o + k * 6 + 5, none⟩, .slice a5 n5 m5)]) (by assumption) | exact AtF.on (w := w) (l := [(⟨b, o + k * 6, none⟩, .string X0), (⟨b, o + k * 6 + 1, none⟩, .string X1), (⟨b, o + k * 6 + 2, none⟩, .bool z2), (⟨b, o + k * 6 + 3, none⟩, .string X3), (⟨b, o + k * 6 + 4, none⟩, .slice a4 n4 m4), (⟨b, o + k * 6 + 5, none⟩, .slice a5 n5 m5)]) (by assumption) (by assumption) | exact AtF.al (w := w) (l := [(⟨b, o + k * 6, none⟩, .string X0), (⟨b, o + k * 6 + 1, none⟩, .string X1), (⟨b, o + k * 6 + 2, none⟩, .bool z2), (⟨b, o + k * 6 + 3, none⟩, .string X3), (⟨b, o + k * 6 + 4, none⟩, .slice a4 n4 m4), (⟨b, o + k * 6 + 5, none⟩, .slice a5 n5 m5)]) (by assumption) _ | exact AtF.ald (w := w) (l := [(⟨b, o + k * 6, none⟩, .string X0), (⟨b, o + k * 6 + 1, none⟩, .string X1), (⟨b, o + k * 6 + 2, none⟩, .bool z2), (⟨b, o + k * 6 + 3, none⟩, .string X3), (⟨b, o + k * 6 + 4, none⟩, .slice a4 n4 m4), (⟨b, o + k * 6 + 5, none⟩, .slice a5 n5 m5)]) (by assumption) _ | exact AtF.al (w := w) (l := [(⟨b, o + k * 6, none⟩, .string X0), (⟨b, o + k * 6 + 1, none⟩, .string X1), (⟨b, o + k * 6 + 2, none⟩, .bool z2), (⟨b, o + k * 6 + 3, none⟩, .string X3), (⟨b, o + k * 6 + 4, none⟩, .slice a4 n4 m4), (⟨b, o + k * 6 + 5, none⟩, .slice a5 n5 m5)]) hs _ | exact AtF.ald (w := w) (l := [(⟨b, o + k * 6, none⟩, .string X0), (⟨b, o + k * 6 + 1, none⟩, .string X1), (⟨b, o + k * 6 + 2, none⟩, .bool z2), (⟨b, o + k * 6 + 3, none⟩, .string X3), (⟨b, o + k * 6 + 4, none⟩, .slice a4 n4 m4), (⟨b, o + k * 6 + 5, none⟩, .slice a5 n5 m5)]) hs _)
      refine heldY 0 14 ?_ _ rfl rfl (by kernel_rfl) (by kernel_rfl) (by kernel_rfl) (fun _ _ _ h => h) rfl (by assumption) ?_ ?_
      rotate_left
      · (intro w hSw; (try dsimp only at hSw); go_simp; (try with_reducible rfl))
      try simp only [List.setIfInBounds_toArray, List.set_cons_zero, List.set_cons_succ]
      refine heldY 1 15 ?_ _ rfl rfl (by kernel_rfl) (by kernel_rfl) (by kernel_rfl) (fun _ _ _ h => h) rfl (by assumption) ?_ ?_
      rotate_left
      · (intro w hSw; (try dsimp only at hSw); go_simp; (try with_reducible rfl))
      try simp only [List.setIfInBounds_toArray, List.set_cons_zero, List.set_cons_succ]
      refine heldY 2 16 ?_ _ rfl rfl (by kernel_rfl) (by kernel_rfl) (by kernel_rfl) (fun _ _ _ h => h) rfl (by assumption) ?_ ?_
      rotate_left
      · (intro w hSw; (try dsimp only at hSw); go_simp; (try with_reducible rfl))
      try simp only [List.setIfInBounds_toArray, List.set_cons_zero, List.set_cons_succ]
      refine heldY 3 17 ?_ _ rfl rfl (by kernel_rfl) (by kernel_rfl) (by kernel_rfl) (fun _ _ _ h => h) rfl (by assumption) ?_ ?_
      rotate_left
      · (intro w hSw; (try dsimp only at hSw); go_simp; (try with_reducible rfl))
      try simp only [List.setIfInBounds_toArray, List.set_cons_zero, List.set_cons_succ]
      refine heldY 5 19 ?_ _ rfl rfl (by kernel_rfl) (by kernel_rfl) (by kernel_rfl) (fun _ _ _ h => h) rfl (by assumption) ?_ ?_
      rotate_left
      · (intro w hSw; (try dsimp only at hSw); go_simp; (try with_reducible rfl))
      try simp only [List.setIfInBounds_toArray, List.set_cons_zero, List.set_cons_succ]
      refine heldY 6 20 ?_ _ rfl rfl (by kernel_rfl) (by kernel_rfl) (by kernel_rfl) (fun _ _ _ h => h) rfl (by assumption) ?_ ?_
      rotate_left
      · (intro w hSw; (try dsimp only at hSw); go_simp; (try with_reducible rfl))
      try simp only [List.setIfInBounds_toArray, List.set_cons_zero, List.set_cons_succ]
      refine heldY 7 21 ?_ _ rfl rfl (by kernel_rfl) (by kernel_rfl) (by kernel_rfl) (fun _ _ _ h => h) rfl (by assumption) ?_ ?_
      rotate_left
      · (intro w hSw; (try dsimp only at hSw); go_simp; (try with_reducible rfl))
      try simp only [List.setIfInBounds_toArray, List.set_cons_zero, List.set_cons_succ]
      refine heldY 8 22 ?_ _ rfl rfl (by kernel_rfl) (by kernel_rfl) (by kernel_rfl) (fun _ _ _ h => h) rfl (by assumption) ?_ ?_
      rotate_left
      · (intro w hSw; (try dsimp only at hSw); go_simp; (try with_reducible rfl))
      try simp only [List.setIfInBounds_toArray, List.set_cons_zero, List.set_cons_succ]
      refine wpAnyH_ready (rs := [4]) (by kernel_rfl) (by simp) ?_
      refine AllReadyH.cons rfl (fun K hK => ?_) AllReadyH.nil
      go_simp
      (first | (go_at_call 14; (with_reducible refine (LK _ (BE _ (by assumption))).mono ?_); rintro e w3 ⟨lv, rfl, hlv, hb⟩; have HL3 := Lib.hid hlv.holds) | (go_at_call 15; (with_reducible refine (RK _ (BE _ (by assumption))).mono ?_); rintro e w4 ⟨rv, rfl, hrv, hb⟩; have HL4 := Lib.hid (HoldT.on HL3.out hb); have HR4 := Lib.hid hrv.holds) | (go_at_call 13; (with_reducible refine (SM _ _ _ HL4.out HR4.out).mono ?_); rintro e w5 ⟨rfl, hb⟩))
      refine hK.out _ _ ?_ (fun hHeld => ?_)
      · (try dsimp only); (first | assumption | exact hs | exact AtF.dr (w := w) (l := [(⟨b, o + k * 6, none⟩, .string X0), (⟨b, o + k * 6 + 1, none⟩, .string X1), (⟨b, o + k * 6 + 2, none⟩, .bool z2), (⟨b, o + k * 6 + 3, none⟩, .string X3), (⟨b, o + k * 6 + 4, none⟩, .slice a4 n4 m4), (⟨b, o + k * 6 + 5, none⟩, .slice a5 n5 m5)]) hs | exact AtF.dr (w := w) (l := [(⟨b, o + k * 6, none⟩, .string X0), (⟨b, o + k * 6 + 1, none⟩, .string X1), (⟨b, o + k * 6 + 2, none⟩, .bool z2), (⟨b, o + k * 6 + 3, none⟩, .string X3), (⟨b, o + k * 6 + 4, none⟩, .slice a4 n4 m4), (⟨b, o + k * 6 + 5, none⟩, .slice a5 n5 m5)]) (by assumption) | exact AtF.on (w := w) (l := [(⟨b, o + k * 6, none⟩, .string X0), (⟨b, o + k * 6 + 1, none⟩, .string X1), (⟨b, o + k * 6 + 2, none⟩, .bool z2), (⟨b, o + k * 6 + 3, none⟩, .string X3), (⟨b, o + k * 6 + 4, none⟩, .slice a4 n4 m4), (⟨b, o + k * 6 + 5, none⟩, .slice a5 n5 m5)]) (by assumption) (by assumption) | exact AtF.al (w := w) (l := [(⟨b, o + k * 6, none⟩, .string X0), (⟨b, o + k * 6 + 1, none⟩, .string X1), (⟨b, o + k * 6 + 2, none⟩, .bool z2), (⟨b, o + k * 6 + 3, none⟩, .string X3), (⟨b, o + k * 6 + 4, none⟩, .slice a4 n4 m4), (⟨b, o + k * 6 + 5, none⟩, .slice a5 n5 m5)]) (by assumption) _ | exact AtF.ald (w := w) (l := [(⟨b, o + k * 6, none⟩, .string X0), (⟨b, o + k * 6 + 1, none⟩, .string X1), (⟨b, o + k * 6 + 2, none⟩, .bool z2), (⟨b, o + k * 6 + 3, none⟩, .string X3), (⟨b, o + k * 6 + 4, none⟩, .slice a4 n4 m4), (⟨b, o + k * 6 + 5, none⟩, .slice a5 n5 m5)]) (by assumption) _ | exact AtF.al (w := w) (l := [(⟨b, o + k * 6, none⟩, .string X0), (⟨b, o + k * 6 + 1, none⟩, .string X1), (⟨b, o + k * 6 + 2, none⟩, .bool z2), (⟨b, o + k * 6 + 3, none⟩, .string X3), (⟨b, o + k * 6 + 4, none⟩, .slice a4 n4 m4), (⟨b, o + k * 6 + 5, none⟩, .slice a5 n5 m5)]) hs _ | exact AtF.ald (w := w) (l := [(⟨b, o + k * 6, none⟩, .string X0), (⟨b, o + k * 6 + 1, none⟩, .string X1), (⟨b, o + k * 6 + 2, none⟩, .bool z2), (⟨b, o + k * 6 + 3, none⟩, .string X3), (⟨b, o + k * 6 + 4, none⟩, .slice a4 n4 m4), (⟨b, o + k * 6 + 5, none⟩, .slice a5 n5 m5)]) hs _)
      clear hK K
      try simp only [Act.put, List.setIfInBounds_toArray, List.set_cons_zero, List.set_cons_succ]
      refine wpAnyH_ready (rs := [9]) (by kernel_rfl) (by simp) ?_
      refine AllReadyH.cons rfl (fun K hK => ?_) AllReadyH.nil
      go_simp
      (first | (go_at_call 14; (with_reducible refine (LK _ (BE _ (by assumption))).mono ?_); rintro e w3 ⟨lv, rfl, hlv, hb⟩; have HL3 := Lib.hid hlv.holds) | (go_at_call 15; (with_reducible refine (RK _ (BE _ (by assumption))).mono ?_); rintro e w4 ⟨rv, rfl, hrv, hb⟩; have HL4 := Lib.hid (HoldT.on HL3.out hb); have HR4 := Lib.hid hrv.holds) | (go_at_call 13; (with_reducible refine (SM _ _ _ HL4.out HR4.out).mono ?_); rintro e w5 ⟨rfl, hb⟩))
      refine hK.out _ _ ?_ (fun hHeld => ?_)
      · (try dsimp only); (first | assumption | exact hs | exact AtF.dr (w := w) (l := [(⟨b, o + k * 6, none⟩, .string X0), (⟨b, o + k * 6 + 1, none⟩, .string X1), (⟨b, o + k * 6 + 2, none⟩, .bool z2), (⟨b, o + k * 6 + 3, none⟩, .string X3), (⟨b, o + k * 6 + 4, none⟩, .slice a4 n4 m4), (⟨b, o + k * 6 + 5, none⟩, .slice a5 n5 m5)]) hs | exact AtF.dr (w := w) (l := [(⟨b, o + k * 6, none⟩, .string X0), (⟨b, o + k * 6 + 1, none⟩, .string X1), (⟨b, o + k * 6 + 2, none⟩, .bool z2), (⟨b, o + k * 6 + 3, none⟩, .string X3), (⟨b, o + k * 6 + 4, none⟩, .slice a4 n4 m4), (⟨b, o + k * 6 + 5, none⟩, .slice a5 n5 m5)]) (by assumption) | exact AtF.on (w := w) (l := [(⟨b, o + k * 6, none⟩, .string X0), (⟨b, o + k * 6 + 1, none⟩, .string X1), (⟨b, o + k * 6 + 2, none⟩, .bool z2), (⟨b, o + k * 6 + 3, none⟩, .string X3), (⟨b, o + k * 6 + 4, none⟩, .slice a4 n4 m4), (⟨b, o + k * 6 + 5, none⟩, .slice a5 n5 m5)]) (by assumption) (by assumption) | exact AtF.al (w := w) (l := [(⟨b, o + k * 6, none⟩, .string X0), (⟨b, o + k * 6 + 1, none⟩, .string X1), (⟨b, o + k * 6 + 2, none⟩, .bool z2), (⟨b, o + k * 6 + 3, none⟩, .string X3), (⟨b, o + k * 6 + 4, none⟩, .slice a4 n4 m4), (⟨b, o + k * 6 + 5, none⟩, .slice a5 n5 m5)]) (by assumption) _ | exact AtF.ald (w := w) (l := [(⟨b, o + k * 6, none⟩, .string X0), (⟨b, o + k * 6 + 1, none⟩, .string X1), (⟨b, o + k * 6 + 2, none⟩, .bool z2), (⟨b, o + k * 6 + 3, none⟩, .string X3), (⟨b, o + k * 6 + 4, none⟩, .slice a4 n4 m4), (⟨b, o + k * 6 + 5, none⟩, .slice a5 n5 m5)]) (by assumption) _ | exact AtF.al (w := w) (l := [(⟨b, o + k * 6, none⟩, .string X0), (⟨b, o + k * 6 + 1, none⟩, .string X1), (⟨b, o + k * 6 + 2, none⟩, .bool z2), (⟨b, o + k * 6 + 3, none⟩, .string X3), (⟨b, o + k * 6 + 4, none⟩, .slice a4 n4 m4), (⟨b, o + k * 6 + 5, none⟩, .slice a5 n5 m5)]) hs _ | exact AtF.ald (w := w) (l := [(⟨b, o + k * 6, none⟩, .string X0), (⟨b, o + k * 6 + 1, none⟩, .string X1), (⟨b, o + k * 6 + 2, none⟩, .bool z2), (⟨b, o + k * 6 + 3, none⟩, .string X3), (⟨b, o + k * 6 + 4, none⟩, .slice a4 n4 m4), (⟨b, o + k * 6 + 5, none⟩, .slice a5 n5 m5)]) hs _)
      clear hK K
      try simp only [Act.put, List.setIfInBounds_toArray, List.set_cons_zero, List.set_cons_succ]
      refine wpAnyH_ready (rs := [10]) (by kernel_rfl) (by simp) ?_
      refine AllReadyH.cons rfl (fun K hK => ?_) AllReadyH.nil
      go_simp
      (first | (go_at_call 14; (with_reducible refine (LK _ (BE _ (by assumption))).mono ?_); rintro e w3 ⟨lv, rfl, hlv, hb⟩; have HL3 := Lib.hid hlv.holds) | (go_at_call 15; (with_reducible refine (RK _ (BE _ (by assumption))).mono ?_); rintro e w4 ⟨rv, rfl, hrv, hb⟩; have HL4 := Lib.hid (HoldT.on HL3.out hb); have HR4 := Lib.hid hrv.holds) | (go_at_call 13; (with_reducible refine (SM _ _ _ HL4.out HR4.out).mono ?_); rintro e w5 ⟨rfl, hb⟩))
      refine hK.out _ _ ?_ (fun hHeld => ?_)
      · (try dsimp only); (first | assumption | exact hs | exact AtF.dr (w := w) (l := [(⟨b, o + k * 6, none⟩, .string X0), (⟨b, o + k * 6 + 1, none⟩, .string X1), (⟨b, o + k * 6 + 2, none⟩, .bool z2), (⟨b, o + k * 6 + 3, none⟩, .string X3), (⟨b, o + k * 6 + 4, none⟩, .slice a4 n4 m4), (⟨b, o + k * 6 + 5, none⟩, .slice a5 n5 m5)]) hs | exact AtF.dr (w := w) (l := [(⟨b, o + k * 6, none⟩, .string X0), (⟨b, o + k * 6 + 1, none⟩, .string X1), (⟨b, o + k * 6 + 2, none⟩, .bool z2), (⟨b, o + k * 6 + 3, none⟩, .string X3), (⟨b, o + k * 6 + 4, none⟩, .slice a4 n4 m4), (⟨b, o + k * 6 + 5, none⟩, .slice a5 n5 m5)]) (by assumption) | exact AtF.on (w := w) (l := [(⟨b, o + k * 6, none⟩, .string X0), (⟨b, o + k * 6 + 1, none⟩, .string X1), (⟨b, o + k * 6 + 2, none⟩, .bool z2), (⟨b, o + k * 6 + 3, none⟩, .string X3), (⟨b, o + k * 6 + 4, none⟩, .slice a4 n4 m4), (⟨b, o + k * 6 + 5, none⟩, .slice a5 n5 m5)]) (by assumption) (by assumption) | exact AtF.al (w := w) (l := [(⟨b, o + k * 6, none⟩, .string X0), (⟨b, o + k * 6 + 1, none⟩, .string X1), (⟨b, o + k * 6 + 2, none⟩, .bool z2), (⟨b, o + k * 6 + 3, none⟩, .string X3), (⟨b, o + k * 6 + 4, none⟩, .slice a4 n4 m4), (⟨b, o + k * 6 + 5, none⟩, .slice a5 n5 m5)]) (by assumption) _ | exact AtF.ald (w := w) (l := [(⟨b, o + k * 6, none⟩, .string X0), (⟨b, o + k * 6 + 1, none⟩, .string X1), (⟨b, o + k * 6 + 2, none⟩, .bool z2), (⟨b, o + k * 6 + 3, none⟩, .string X3), (⟨b, o + k * 6 + 4, none⟩, .slice a4 n4 m4), (⟨b, o + k * 6 + 5, none⟩, .slice a5 n5 m5)]) (by assumption) _ | exact AtF.al (w := w) (l := [(⟨b, o + k * 6, none⟩, .string X0), (⟨b, o + k * 6 + 1, none⟩, .string X1), (⟨b, o + k * 6 + 2, none⟩, .bool z2), (⟨b, o + k * 6 + 3, none⟩, .string X3), (⟨b, o + k * 6 + 4, none⟩, .slice a4 n4 m4), (⟨b, o + k * 6 + 5, none⟩, .slice a5 n5 m5)]) hs _ | exact AtF.ald (w := w) (l := [(⟨b, o + k * 6, none⟩, .string X0), (⟨b, o + k * 6 + 1, none⟩, .string X1), (⟨b, o + k * 6 + 2, none⟩, .bool z2), (⟨b, o + k * 6 + 3, none⟩, .string X3), (⟨b, o + k * 6 + 4, none⟩, .slice a4 n4 m4), (⟨b, o + k * 6 + 5, none⟩, .slice a5 n5 m5)]) hs _)
      clear hK K
      try simp only [Act.put, List.setIfInBounds_toArray, List.set_cons_zero, List.set_cons_succ]
      refine heldY 11 25 ?_ _ rfl rfl (by kernel_rfl) (by kernel_rfl) (by kernel_rfl) (fun _ _ _ h => h) rfl (by assumption) ?_ ?_
      rotate_left
      · (intro w hSw; (try dsimp only at hSw); go_simp; (try with_reducible rfl))
      try simp only [List.setIfInBounds_toArray, List.set_cons_zero, List.set_cons_succ]
      refine wpAnyH_done (by kernel_rfl) ?_ _
      have HW3 := Lib.hid (BE _ hHeld)
      clear hHeld
      go_wp2
      go_roundw
      case rel => exact ⟨k + 1, by omega, by go_num, HW3⟩
      case measure => simp [intOf]; omega
    · obtain rfl : k = n := by omega
      clear hlt HLK HRK HSM HC HIN
      go_wp2_with (first
        | (go_at_call 16; (with_reducible refine (CA _ HB.out).mono ?_); rintro e w5 ⟨rfl, hb⟩; have HB5 := Lib.hid (HB.out.trans (hb.mono HB.out.size)); clear hb)
        | (go_at_call 17; (with_reducible refine (CR _ HB5.out).mono ?_); rintro e w6 ⟨rfl, hb⟩; have HB6 := Lib.hid (HB5.out.trans (hb.mono HB5.out.size)); clear hb)
        | (go_at_call 10; (with_reducible refine (AW _ HB6.out).mono ?_); rintro e w7 ⟨rfl, hb⟩; have HB7 := Lib.hid (HB6.out.trans (hb.mono HB6.out.size)); clear hb))
      go_ret
      exact ⟨rfl, HB7.out⟩
end Go.Proofs.YtnfhccnicojdcaaGreatDoor.altsChecksw
