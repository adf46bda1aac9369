/-
  The program's PrintFired: what it returns; nothing old turns. Condition: LaidP.
-/
import Derived.Test.YtceohgjfjndcmaaGreatDoorGCheckF
import Derived.Test.YtceohgjfjndcmaaGreatDoorTBld
import Derived.Shelf.Strings.MapGrows
namespace Go.Proofs.YtceohgjfjndcmaaGreatDoor
open Go.RowKit Go.Shelf
theorem join_isC (c : UInt8) : ∀ (l : List Bs), Lib.join l [c] = joinC c l
  | [] => rfl
  | [p] => by simp [Lib.join, joinC, List.intercalate]
  | p :: q :: ps => by
    have := join_isC c (q :: ps)
    unfold Lib.join List.intercalate at this ⊢
    rw [joinC, ← this, List.intersperse_cons_cons]
    simp
theorem joinC_len2 (c : UInt8) (N : Nat) : ∀ (l : List Bs), (∀ p ∈ l, p.length ≤ N) → (joinC c l).length ≤ l.length * (N + 1)
  | [], _ => by simp [joinC]
  | [p], h => by have := h p (by simp); simp [joinC]; omega
  | p :: q :: ps, h => by
    have h1 := joinC_len2 c N (q :: ps) (fun x hx => h x (List.mem_cons_of_mem _ hx))
    have h2 := h p (by simp)
    rw [joinC, List.length_append, List.length_cons, List.length_cons (a := p), Nat.add_mul]
    omega
theorem joinB_any (v : Value) (ls : List Bs) (h0 : 0 < ls.length) (hl : ls.length ≤ 90000) (hs : ∀ p ∈ ls, p.length ≤ 4000) (w : World) (h : HoldT w v ls) :
    Calls Tryz.prog 42 #[v, .string ⟨#[32]⟩] w fun e w' => e = .returned (.string ⟨(joinC 32 ls).toArray⟩) ∧ Below w.heap.size w w' := by
  obtain ⟨a, c, b, o, rfl, hc, ha, hcell⟩ := h
  obtain ⟨rfl, hb⟩ := ha h0
  have hm : (ls.map fun l => ByteArray.mk l.toArray).map (fun x => x.data.toList) = ls := by
    rw [List.map_map]; conv => rhs; rw [← List.map_id ls]
    exact List.map_congr_left (fun l _ => by simp)
  have hj := joinC_len2 32 4000 ls hs
  have hjj : ls.length * 4001 ≤ 90000 * 4001 := Nat.mul_le_mul_right _ hl
  have := Tryz.strings_Join b o c (ls.map fun l => ByteArray.mk l.toArray) ⟨#[32]⟩ w (fun j x hx => by
    rw [List.getElem?_map] at hx
    cases hg : ls[j]? with
    | none => rw [hg] at hx; cases hx
    | some l => rw [hg] at hx; obtain rfl := Option.some.inj hx; exact hcell j l hg) hb (by rw [List.length_map]; omega) (by rw [List.length_map]; exact hc) (by rw [hm]; show (Lib.join ls [32]).length ≤ _; rw [join_isC]; omega)
  rw [hm, List.length_map, show (ByteArray.mk #[32]).data.toList = [32] from rfl, join_isC] at this
  exact this
theorem name_len {s : Bs} (h : nameB s = true) : s.length ≤ 60 := by
  unfold nameB at h
  simp only [Bool.and_eq_true, decide_eq_true_eq] at h
  exact h.1.1.2
theorem trig_len {s : Bs} (h : trigB s = true) : s.length ≤ 200 := by
  unfold trigB at h
  rcases Bool.or_eq_true_iff.1 h with h | h
  · have := name_len h; omega
  · exact (right_parts h).2.2.2.2
theorem byF_small {l : List Bs} (h : chkG nameB l = 0) : (byF l).length ≤ 64 ∧ 0 < (byF l).length ∧ ∀ p ∈ byF l, p.length ≤ 60 := by
  have h1 := (chkG_zero h).1
  have hp := List.length_pos_iff.2 (byF_ne l)
  refine ⟨?_, hp, fun p hp => ?_⟩
  · unfold byF; split
    · simp
    · exact h1
  · unfold byF at hp
    split at hp
    · simp at hp; subst hp; simp
    · exact name_len (by_names h p hp)
theorem lineF_len {x : Fr} (h : rightF x = true) : x.1.length ≤ 200 ∧ (joinC 32 (byF x.2)).length ≤ 3904 := by
  obtain ⟨h1, h2⟩ := rightF_parts h
  obtain ⟨g1, _, g3⟩ := byF_small h2
  have := joinC_len2 32 60 _ g3
  have h3 : (byF x.2).length * 61 ≤ 64 * 61 := Nat.mul_le_mul_right _ g1
  exact ⟨trig_len h1, by omega⟩
theorem textF_drop {l : List Fr} {k : Nat} {x : Fr} (h : l[k]? = some x) : textF (l.drop k) = (lineF x ++ [10]) ++ textF (l.drop (k + 1)) := by
  obtain ⟨hk, e⟩ := List.getElem?_eq_some_iff.1 h
  rw [List.drop_eq_getElem_cons hk, e]
  unfold textF ended10; rw [List.map_cons, List.flatMap_cons]
theorem textF_len : ∀ {l : List Fr}, (∀ x ∈ l, rightF x = true) → (textF l).length ≤ 4110 * l.length
  | [], _ => by simp [textF, ended10]
  | x :: l, h => by
    have h1 := lineF_len (h x (by simp))
    have h2 := textF_len (l := l) (fun y hy => h y (by simp [hy]))
    have e : textF (x :: l) = (lineF x ++ [10]) ++ textF l := rfl
    rw [e, List.length_append, List.length_append, List.length_cons]
    unfold lineF
    simp only [List.length_append, List.length_cons, List.length_nil]; omega
theorem lineF_text (X J : ByteArray) (x : Fr) (hX : X.data.toList = x.1) (hJ : J.data.toList = joinC 32 (byF x.2)) : (X ++ ⟨#[32]⟩ ++ J ++ ⟨#[10]⟩ : ByteArray).data.toList = lineF x ++ [10] := by
  unfold lineF
  rw [← hX, ← hJ]; simp
theorem bld_dr {B b : Nat} {l : Bs} {W : World} (h : Bld B b l W) : Bld B b l W.drew := h
theorem hold45 (W : World) : HoldT (W.alloc (.cells #[.string ⟨#[45]⟩] 9)) (.slice (some ⟨W.heap.size, 0, none⟩) 1 1) [[45]] := by
  refine ⟨some ⟨W.heap.size, 0, none⟩, 1, W.heap.size, 0, rfl, Nat.le_refl _, fun _ => ⟨rfl, by simp⟩, fun j l hj => ?_⟩
  match j, hj with
  | 0, hj => simp at hj; subst hj; exact boxV1 W _ _
def PrPostF (l : List Fr) (w : World) (e : Ending) (w' : World) : Prop := e = .returned (.tuple #[.string (bsT (printFr l).1), .int .i64 (printFr l).2]) ∧ Below w.heap.size w w'
set_option maxRecDepth 100000 in
set_option maxHeartbeats 16000000 in
theorem printF_any (v : Value) (L : List Fp) (hl : L.length ≤ 90000) (hs : SmallF L) (w : World) (hL : LaidP w) (h : HoldF w v L) : Calls Tryz.prog 16 #[v] w (PrPostF (L.map (·.1)) w) := by
  have CK := chkF_any v L hl hs w hL h
  obtain ⟨l, hLl⟩ : ∃ l, L.map (·.1) = l := ⟨_, rfl⟩
  have HLL := Lib.hid hLl
  rw [hLl] at CK ⊢
  by_cases hz : chkF l = 0
  case neg =>
    have HP : Hid (∀ w', Below w.heap.size w w' → PrPostF l w (.returned (.tuple #[.string ⟨#[]⟩, .int .i64 (chkF l)])) w') := Lib.hid (fun w' hb => ⟨by rw [printFr_no hz], hb⟩)
    obtain ⟨a, c, b, o, rfl, -⟩ := h.parts
    have hzz : chkF l = 22 ∨ chkF l = 1 := by rcases chkF_ways l with g | g | g <;> simp_all
    generalize chkF l = z at *
    clear h hs hLl
    generalize L.length = n at *
    rcases hzz with rfl | rfl
    all_goals
      clear hz
      go_enter Tryz.func16, Tryz.ntmps16
      go_wp2_with (go_at_call 18; refine CK.mono ?_; rintro e w1 ⟨rfl, hb⟩; have HB := Lib.hid hb; clear hb)
      go_ret2
      exact HP.out _ HB.out
  have HP : Hid (∀ (S : ByteArray) w', S.data.toList = textF l → Below w.heap.size w w' → PrPostF l w (.returned (.tuple #[.string S, .int .i64 0])) w') := Lib.hid (fun S w' hS hb => ⟨by rw [printFr_ok hz]; show _ = Ending.returned (Value.tuple #[.string (bsT (textF l)), .int .i64 0]); rw [← hS, show bsT S.data.toList = S from (strOf (x := S) rfl).symm], hb⟩)
  rw [hz] at CK
  have hri := (chkF_zero hz).2.right
  have hlen := textF_len hri
  have h64 := (chkF_zero hz).1
  have hin := h.1
  obtain ⟨a, c, b, o, rfl, hc, ha, hcell⟩ := h.parts
  have HC := Lib.hid hcell
  have HI := Lib.hid hin
  have HRI : Hid (∀ (i : Nat) p, L[i]? = some p → rightF p.1 = true ∧ l[i]? = some p.1) := Lib.hid (fun i p hp => by
    have h1 : l[i]? = some p.1 := by rw [← hLl, List.getElem?_map, hp]; rfl
    exact ⟨hri _ (List.mem_of_getElem? h1), h1⟩)
  obtain ⟨n, hN⟩ : ∃ n, L.length = n := ⟨_, rfl⟩
  have hln : l.length = n := by rw [← hLl, List.length_map, hN]
  rw [hln] at hlen h64
  rw [hN] at hc ha hl CK ⊢
  have HN := Lib.hid hN
  have HLN := Lib.hid hln
  clear hcell hN h hs hz hL hin hri hln hLl
  go_enter Tryz.func16, Tryz.ntmps16
  go_wp2_with (go_at_call 18; refine CK.mono ?_; rintro e w1 ⟨rfl, hb⟩; have HB1 := Lib.hid hb; have hs1 := hb.size; clear hb)
  clear CK
  have HB2 : Hid (Below w.heap.size w (w1.alloc (.cells #[.pointer none, .slice none 0 0] tB))) := Lib.hid (HB1.out.alloc hs1 _)
  have HD0 := Lib.hid (bld_new w.heap.size w1 hs1)
  obtain ⟨bb, hbb⟩ : ∃ bb, bb = w1.heap.size := ⟨_, rfl⟩
  rw [← hbb] at HD0 ⊢
  have HEB := Lib.hid hbb
  clear hbb
  go_loopw [16] (fun i wr => ∃ (k : Nat) (out : Bs), k ≤ n ∧ i = .int .i64 k ∧ Hid (out ++ textF (l.drop k) = textF l) ∧ Hid (Bld w.heap.size bb out wr) ∧ bb < wr.heap.size ∧ Hid (Below w.heap.size w wr)) (fun i _ => n - (intOf i).toNat)
  case atStart => exact ⟨0, [], by omega, rfl, Lib.hid rfl, HD0, by rw [HEB.out]; simp, HB2⟩
  case round =>
    obtain ⟨k, out, hk, rfl, HO, HD, hbw2, HB⟩ := hrel
    have hsz := HB.out.size
    have hol : out.length ≤ 4110 * n := by
      have := congrArg List.length HO.out
      rw [List.length_append] at this; omega
    by_cases hlt : k < n
    · obtain ⟨rfl, hbw⟩ := ha (by omega)
      obtain ⟨p, hp⟩ : ∃ p, L[k]? = some p := ⟨_, List.getElem?_eq_getElem (by rw [HN.out]; exact hlt)⟩
      obtain ⟨c0, c1⟩ := HC.out k p hp
      rw [← HB.out.cell (p := ⟨b, o + k * 2, none⟩) hbw] at c0
      rw [← HB.out.cell (p := ⟨b, o + k * 2 + 1, none⟩) hbw] at c1
      obtain ⟨hr, hx⟩ := HRI.out k p hp
      have HH := Lib.hid ((HI.out p (List.mem_of_getElem? hp)).on HB.out)
      obtain ⟨ua, uc, hu⟩ := HoldT.form HH.out
      obtain ⟨g1, g2⟩ := lineF_len hr
      obtain ⟨f1, f2, f3⟩ := byF_small (rightF_parts hr).2
      obtain ⟨X, hX⟩ : ∃ X, X = bsT p.1.1 := ⟨_, rfl⟩
      have hXs : X.size ≤ 200 := by rw [hX, sizeOf, bytesOf]; omega
      obtain ⟨J, hJ⟩ : ∃ J : ByteArray, J = ⟨(joinC 32 (byF p.1.2)).toArray⟩ := ⟨_, rfl⟩
      have hJs : J.size ≤ 3904 := by rw [hJ, sizeOf, bytesOf]; omega
      have HO2 : Hid (out ++ (X ++ ⟨#[32]⟩ ++ J ++ ⟨#[10]⟩ : ByteArray).data.toList ++ textF (l.drop (k + 1)) = textF l) := Lib.hid (by
        rw [lineF_text X J p.1 (by rw [hX, bytesOf]) (by rw [hJ, bytesOf]), List.append_assoc, ← textF_drop hx, HO.out])
      have JN : ∀ v W, HoldT W v (byF p.1.2) → Calls Tryz.prog 42 #[v, .string ⟨#[32]⟩] W fun e w' => e = .returned (.string J) ∧ Below W.heap.size W w' := fun v W h => by
        rw [hJ]; exact joinB_any v _ f2 (by omega) (fun q hq => Nat.le_trans (f3 q hq) (by omega)) W h
      rw [← hX] at c0
      rw [hu] at c1 HH
      have h1s : ∀ x, (ByteArray.mk #[x]).size = 1 := fun _ => rfl
      obtain ⟨x0, x1⟩ := boxV2 wr (.string X) (.slice ua p.1.2.length uc) 74
      have hbx : (wr.alloc (.cells #[.string X, .slice ua p.1.2.length uc] 74)).heap[wr.heap.size]? = some (.cells #[.string X, .slice ua p.1.2.length uc] 74 (0, 0)) := heap_alloc_new wr _
      have HB0 := Lib.hid (HB.out.alloc hsz (.cells #[.string X, .slice ua p.1.2.length uc] 74))
      have HD2 := Lib.hid (HD.out.alloc (.cells #[.string X, .slice ua p.1.2.length uc] 74))
      have HH2 := Lib.hid (HH.out.on ((Below.refl wr.heap.size wr).alloc (Nat.le_refl _) (.cells #[.string X, .slice ua p.1.2.length uc] 74)))
      have HBX := Lib.hid hbx
      have hz2 : (wr.alloc (.cells #[.string X, .slice ua p.1.2.length uc] 74)).heap.size = wr.heap.size + 1 := World.size_alloc _ _
      have HZ2 := Lib.hid hz2
      have HBY : Hid (∀ W v, (p.1.2 = [] → HoldT W v [[45]]) → (p.1.2 ≠ [] → HoldT W v p.1.2) → HoldT W v (byF p.1.2)) := Lib.hid (fun W v h1 h2 => by
        unfold byF
        by_cases g : p.1.2 = []
        · rw [if_pos g]; exact h1 g
        · rw [if_neg g]; exact h2 g)
      have hne : wr.heap.size ≠ bb := by omega
      obtain ⟨m, hm⟩ : ∃ m, p.1.2.length = m := ⟨_, rfl⟩
      have HM := Lib.hid hm
      rw [hm] at x0 x1 c1 HBX HB0 HD2 HH2 HZ2
      clear hX hJ hx hp HO HC HI HD hbx HRI hr hu g1 g2 f1 f2 f3 HH hz2
      have q1 : ¬ 9223372036854775807 < X.size + 1 := by omega
      have q2 : ¬ 9223372036854775807 < X.size + 1 + J.size := by omega
      have q3 : ¬ 9223372036854775807 < X.size + 1 + J.size + 1 := by omega
      have WS := fun (V : World) (h : Bld w.heap.size bb out V) (hV : w.heap.size ≤ V.heap.size) => wstr_any w.heap.size bb out (X ++ ⟨#[32]⟩ ++ J ++ ⟨#[10]⟩) V h (by omega) (by simp only [ByteArray.size_append, h1s]; omega) hV
      have HAF : Hid (∀ V V' : World, Below (wr.alloc (.cells #[.string X, .slice ua m uc] 74)).heap.size (wr.alloc (.cells #[.string X, .slice ua m uc] 74)) V → Oth bb V V' → V'.cell? ⟨wr.heap.size, 0, none⟩ = some (.string X)) := Lib.hid (fun V V' hb ho => by
        have h1 := (hb.block wr.heap.size (by rw [HZ2.out]; omega)).trans HBX.out
        exact cell_heap (heap_oth h1 ho hne (by decide)) rfl)
      by_cases h0 : m = 0
      · have he : p.1.2 = [] := List.eq_nil_of_length_eq_zero (by rw [HM.out, h0])
        have HHY := Lib.hid (HBY.out _ _ (fun _ => hold45 (wr.alloc (.cells #[.string X, .slice ua m uc] 74))) (fun g => absurd he g))
        rw [HZ2.out] at HHY
        have hA := (Below.refl (wr.alloc (.cells #[.string X, .slice ua m uc] 74)).heap.size (wr.alloc (.cells #[.string X, .slice ua m uc] 74))).alloc (Nat.le_refl _) (.cells #[.string ⟨#[45]⟩] 9)
        have HA := Lib.hid hA
        have y0 := (hA.cell (p := ⟨wr.heap.size, 0, none⟩) (by show wr.heap.size < _; rw [HZ2.out]; omega)).trans x0
        have HHB := Lib.hid (HB0.out.trans (hA.mono HB0.out.size))
        have HBD := Lib.hid (Lib.IsBuilderF.below HD2.out hA)
        subst h0
        clear he hA HBY x0
        go_wp2
        generalize (wr.alloc (.cells #[.string X, .slice ua 0 uc] 74)).alloc (.cells #[.string ⟨#[45]⟩] 9) = W3 at *
        have hs := And.intro y0 HHB.out
        clear x1 y0
        have BE := fun (V : World) (h : V.cell? ⟨wr.heap.size, 0, none⟩ = some (.string X) ∧ Below w.heap.size w V) => AtF.be (w := w) (l := [(⟨wr.heap.size, 0, none⟩, .string X)]) h
        refine wp_region_held_drew (S := (fun V => V.cell? ⟨wr.heap.size, 0, none⟩ = some (.string X) ∧ Below w.heap.size w V)) (by kernel_rfl) ?_ (fun hHeld => ?_)
        · (try dsimp only); (first | assumption | exact hs | exact AtF.dr (w := w) (l := [(⟨wr.heap.size, 0, none⟩, .string X)]) hs | exact AtF.dr (w := w) (l := [(⟨wr.heap.size, 0, none⟩, .string X)]) (by assumption) | exact AtF.on (w := w) (l := [(⟨wr.heap.size, 0, none⟩, .string X)]) (by assumption) (by assumption) | exact AtF.al (w := w) (l := [(⟨wr.heap.size, 0, none⟩, .string X)]) (by assumption) _ | exact AtF.ald (w := w) (l := [(⟨wr.heap.size, 0, none⟩, .string X)]) (by assumption) _ | exact AtF.al (w := w) (l := [(⟨wr.heap.size, 0, none⟩, .string X)]) hs _ | exact AtF.ald (w := w) (l := [(⟨wr.heap.size, 0, none⟩, .string X)]) hs _)
        refine heldY 0 26 ?_ _ rfl rfl (by kernel_rfl) (by kernel_rfl) (by kernel_rfl) (fun _ _ _ h => h) rfl (by assumption) ?_ ?_
        rotate_left
        · (intro w hSw; (try dsimp only at hSw); go_simp; (try with_reducible rfl))
        simp only [List.setIfInBounds_toArray, List.set_cons_zero, List.set_cons_succ]
        refine heldY 1 27 ?_ _ rfl rfl (by kernel_rfl) (by kernel_rfl) (by kernel_rfl) (fun _ _ _ h => h) rfl (by assumption) ?_ ?_
        rotate_left
        · (intro w hSw; (try dsimp only at hSw); go_simp; (try with_reducible rfl))
        simp only [List.setIfInBounds_toArray, List.set_cons_zero, List.set_cons_succ]
        refine heldY 2 28 ?_ _ rfl rfl (by kernel_rfl) (by kernel_rfl) (by kernel_rfl) (fun _ _ _ h => h) rfl (by assumption) ?_ ?_
        rotate_left
        · (intro w hSw; (try dsimp only at hSw); go_simp; (try with_reducible rfl))
        simp only [List.setIfInBounds_toArray, List.set_cons_zero, List.set_cons_succ]
        refine heldY 3 29 ?_ _ rfl rfl (by kernel_rfl) (by kernel_rfl) (by kernel_rfl) (fun _ _ _ h => h) rfl (by assumption) ?_ ?_
        rotate_left
        · (intro w hSw; (try dsimp only at hSw); go_simp; (try with_reducible rfl))
        simp only [List.setIfInBounds_toArray, List.set_cons_zero, List.set_cons_succ]
        refine wpAnyH_ready (rs := [4]) (by kernel_rfl) (by simp) ?_
        refine AllReadyH.cons rfl (fun K hK => ?_) AllReadyH.nil
        go_simp
        first | (go_at_call 42; (with_reducible refine (JN _ _ (HHY.out.on (Below.refl _ _).drew)).mono ?_); rintro e w3 ⟨rfl, hb⟩; have HBD3 := Lib.hid (Lib.IsBuilderF.below (bld_dr HBD.out) hb); have HA3 := Lib.hid (HA.out.drew.trans (hb.mono HA.out.size)); have HB3 := Lib.hid (HHB.out.drew.trans (hb.mono HHB.out.size))) | (go_at_call 33; (with_reducible refine (WS _ HBD3.out HB3.out.size).mono ?_); rintro e w4 ⟨v4, rfl, hd4, hb4, ho4⟩; have HD4 := Lib.hid hd4; have HB4 := Lib.hid (HB3.out.trans hb4); have hz4 := hb4.size; have hz3 := HA3.out.size; have hS4 := And.intro (HAF.out _ _ HA3.out ho4) HB4.out)
        refine hK.out _ _ ?_ (fun hHeld => ?_)
        · (try dsimp only); (first | assumption | exact hs | exact AtF.dr (w := w) (l := [(⟨wr.heap.size, 0, none⟩, .string X)]) hs | exact AtF.dr (w := w) (l := [(⟨wr.heap.size, 0, none⟩, .string X)]) (by assumption) | exact AtF.on (w := w) (l := [(⟨wr.heap.size, 0, none⟩, .string X)]) (by assumption) (by assumption) | exact AtF.al (w := w) (l := [(⟨wr.heap.size, 0, none⟩, .string X)]) (by assumption) _ | exact AtF.ald (w := w) (l := [(⟨wr.heap.size, 0, none⟩, .string X)]) (by assumption) _ | exact AtF.al (w := w) (l := [(⟨wr.heap.size, 0, none⟩, .string X)]) hs _ | exact AtF.ald (w := w) (l := [(⟨wr.heap.size, 0, none⟩, .string X)]) hs _)
        clear hK K
        try simp only [Act.put, List.setIfInBounds_toArray, List.set_cons_zero, List.set_cons_succ]
        refine heldY 5 31 ?_ _ rfl rfl (by kernel_rfl) (by kernel_rfl) (by kernel_rfl) (fun _ _ _ h => h) rfl (by assumption) ?_ ?_
        rotate_left
        · (intro w hSw; (try dsimp only at hSw); go_simp; (try with_reducible rfl))
        simp only [List.setIfInBounds_toArray, List.set_cons_zero, List.set_cons_succ]
        refine heldY 6 32 ?_ _ rfl rfl (by kernel_rfl) (by kernel_rfl) (by kernel_rfl) (fun _ _ _ h => h) rfl (by assumption) ?_ ?_
        rotate_left
        · (intro w hSw; (try dsimp only at hSw); go_simp; (try with_reducible rfl))
        simp only [List.setIfInBounds_toArray, List.set_cons_zero, List.set_cons_succ]
        refine wpAnyH_ready (rs := [7]) (by kernel_rfl) (by simp) ?_
        refine AllReadyH.cons rfl (fun K hK => ?_) AllReadyH.nil
        go_simp
        first | (go_at_call 42; (with_reducible refine (JN _ _ (HHY.out.on (Below.refl _ _).drew)).mono ?_); rintro e w3 ⟨rfl, hb⟩; have HBD3 := Lib.hid (Lib.IsBuilderF.below (bld_dr HBD.out) hb); have HA3 := Lib.hid (HA.out.drew.trans (hb.mono HA.out.size)); have HB3 := Lib.hid (HHB.out.drew.trans (hb.mono HHB.out.size))) | (go_at_call 33; (with_reducible refine (WS _ HBD3.out HB3.out.size).mono ?_); rintro e w4 ⟨v4, rfl, hd4, hb4, ho4⟩; have HD4 := Lib.hid hd4; have HB4 := Lib.hid (HB3.out.trans hb4); have hz4 := hb4.size; have hz3 := HA3.out.size; have hS4 := And.intro (HAF.out _ _ HA3.out ho4) HB4.out)
        refine hK.out _ _ ?_ (fun hHeld => ?_)
        · (try dsimp only); (first | assumption | exact hs | exact AtF.dr (w := w) (l := [(⟨wr.heap.size, 0, none⟩, .string X)]) hs | exact AtF.dr (w := w) (l := [(⟨wr.heap.size, 0, none⟩, .string X)]) (by assumption) | exact AtF.on (w := w) (l := [(⟨wr.heap.size, 0, none⟩, .string X)]) (by assumption) (by assumption) | exact AtF.al (w := w) (l := [(⟨wr.heap.size, 0, none⟩, .string X)]) (by assumption) _ | exact AtF.ald (w := w) (l := [(⟨wr.heap.size, 0, none⟩, .string X)]) (by assumption) _ | exact AtF.al (w := w) (l := [(⟨wr.heap.size, 0, none⟩, .string X)]) hs _ | exact AtF.ald (w := w) (l := [(⟨wr.heap.size, 0, none⟩, .string X)]) hs _)
        clear hK K
        try simp only [Act.put, List.setIfInBounds_toArray, List.set_cons_zero, List.set_cons_succ]
        refine wpAnyH_done (by kernel_rfl) ?_ _
        have HW3 := Lib.hid (BE _ hHeld)
        clear hHeld hS4 hd4 hb4 ho4 HAF
        have hz5 : bb < w4.heap.size := by have := HZ2.out; omega
        clear hz4 hz3
        go_wp2
        go_roundw
        case rel => exact ⟨k + 1, _, by omega, by go_num, HO2, HD4, hz5, HW3⟩
        case measure => simp [intOf]; omega
      · have hne2 : p.1.2 ≠ [] := fun g => h0 (by rw [← HM.out, g]; rfl)
        have HHY := Lib.hid (HBY.out _ _ (fun g => absurd g hne2) (fun _ => HH2.out))
        have HA := Lib.hid (Below.refl (wr.alloc (.cells #[.string X, .slice ua m uc] 74)).heap.size (wr.alloc (.cells #[.string X, .slice ua m uc] 74)))
        have h0i : ((m : Int) == 0) = false := by rw [beq_eq_false_iff_ne]; omega
        clear hne2 HBY
        go_wp2
        generalize wr.alloc (.cells #[.string X, .slice ua m uc] 74) = W3 at *
        have hs := And.intro x0 HB0.out
        clear x1 x0
        have BE := fun (V : World) (h : V.cell? ⟨wr.heap.size, 0, none⟩ = some (.string X) ∧ Below w.heap.size w V) => AtF.be (w := w) (l := [(⟨wr.heap.size, 0, none⟩, .string X)]) h
        refine wp_region_held_drew (S := (fun V => V.cell? ⟨wr.heap.size, 0, none⟩ = some (.string X) ∧ Below w.heap.size w V)) (by kernel_rfl) ?_ (fun hHeld => ?_)
        · (try dsimp only); (first | assumption | exact hs | exact AtF.dr (w := w) (l := [(⟨wr.heap.size, 0, none⟩, .string X)]) hs | exact AtF.dr (w := w) (l := [(⟨wr.heap.size, 0, none⟩, .string X)]) (by assumption) | exact AtF.on (w := w) (l := [(⟨wr.heap.size, 0, none⟩, .string X)]) (by assumption) (by assumption) | exact AtF.al (w := w) (l := [(⟨wr.heap.size, 0, none⟩, .string X)]) (by assumption) _ | exact AtF.ald (w := w) (l := [(⟨wr.heap.size, 0, none⟩, .string X)]) (by assumption) _ | exact AtF.al (w := w) (l := [(⟨wr.heap.size, 0, none⟩, .string X)]) hs _ | exact AtF.ald (w := w) (l := [(⟨wr.heap.size, 0, none⟩, .string X)]) hs _)
        refine heldY 0 26 ?_ _ rfl rfl (by kernel_rfl) (by kernel_rfl) (by kernel_rfl) (fun _ _ _ h => h) rfl (by assumption) ?_ ?_
        rotate_left
        · (intro w hSw; (try dsimp only at hSw); go_simp; (try with_reducible rfl))
        simp only [List.setIfInBounds_toArray, List.set_cons_zero, List.set_cons_succ]
        refine heldY 1 27 ?_ _ rfl rfl (by kernel_rfl) (by kernel_rfl) (by kernel_rfl) (fun _ _ _ h => h) rfl (by assumption) ?_ ?_
        rotate_left
        · (intro w hSw; (try dsimp only at hSw); go_simp; (try with_reducible rfl))
        simp only [List.setIfInBounds_toArray, List.set_cons_zero, List.set_cons_succ]
        refine heldY 2 28 ?_ _ rfl rfl (by kernel_rfl) (by kernel_rfl) (by kernel_rfl) (fun _ _ _ h => h) rfl (by assumption) ?_ ?_
        rotate_left
        · (intro w hSw; (try dsimp only at hSw); go_simp; (try with_reducible rfl))
        simp only [List.setIfInBounds_toArray, List.set_cons_zero, List.set_cons_succ]
        refine heldY 3 29 ?_ _ rfl rfl (by kernel_rfl) (by kernel_rfl) (by kernel_rfl) (fun _ _ _ h => h) rfl (by assumption) ?_ ?_
        rotate_left
        · (intro w hSw; (try dsimp only at hSw); go_simp; (try with_reducible rfl))
        simp only [List.setIfInBounds_toArray, List.set_cons_zero, List.set_cons_succ]
        refine wpAnyH_ready (rs := [4]) (by kernel_rfl) (by simp) ?_
        refine AllReadyH.cons rfl (fun K hK => ?_) AllReadyH.nil
        go_simp
        first | (go_at_call 42; (with_reducible refine (JN _ _ (HHY.out.on (Below.refl _ _).drew)).mono ?_); rintro e w3 ⟨rfl, hb⟩; have HBD3 := Lib.hid (Lib.IsBuilderF.below (bld_dr HD2.out) hb); have HA3 := Lib.hid (HA.out.drew.trans (hb.mono HA.out.size)); have HB3 := Lib.hid (HB0.out.drew.trans (hb.mono HB0.out.size))) | (go_at_call 33; (with_reducible refine (WS _ HBD3.out HB3.out.size).mono ?_); rintro e w4 ⟨v4, rfl, hd4, hb4, ho4⟩; have HD4 := Lib.hid hd4; have HB4 := Lib.hid (HB3.out.trans hb4); have hz4 := hb4.size; have hz3 := HA3.out.size; have hS4 := And.intro (HAF.out _ _ HA3.out ho4) HB4.out)
        refine hK.out _ _ ?_ (fun hHeld => ?_)
        · (try dsimp only); (first | assumption | exact hs | exact AtF.dr (w := w) (l := [(⟨wr.heap.size, 0, none⟩, .string X)]) hs | exact AtF.dr (w := w) (l := [(⟨wr.heap.size, 0, none⟩, .string X)]) (by assumption) | exact AtF.on (w := w) (l := [(⟨wr.heap.size, 0, none⟩, .string X)]) (by assumption) (by assumption) | exact AtF.al (w := w) (l := [(⟨wr.heap.size, 0, none⟩, .string X)]) (by assumption) _ | exact AtF.ald (w := w) (l := [(⟨wr.heap.size, 0, none⟩, .string X)]) (by assumption) _ | exact AtF.al (w := w) (l := [(⟨wr.heap.size, 0, none⟩, .string X)]) hs _ | exact AtF.ald (w := w) (l := [(⟨wr.heap.size, 0, none⟩, .string X)]) hs _)
        clear hK K
        try simp only [Act.put, List.setIfInBounds_toArray, List.set_cons_zero, List.set_cons_succ]
        refine heldY 5 31 ?_ _ rfl rfl (by kernel_rfl) (by kernel_rfl) (by kernel_rfl) (fun _ _ _ h => h) rfl (by assumption) ?_ ?_
        rotate_left
        · (intro w hSw; (try dsimp only at hSw); go_simp; (try with_reducible rfl))
        simp only [List.setIfInBounds_toArray, List.set_cons_zero, List.set_cons_succ]
        refine heldY 6 32 ?_ _ rfl rfl (by kernel_rfl) (by kernel_rfl) (by kernel_rfl) (fun _ _ _ h => h) rfl (by assumption) ?_ ?_
        rotate_left
        · (intro w hSw; (try dsimp only at hSw); go_simp; (try with_reducible rfl))
        simp only [List.setIfInBounds_toArray, List.set_cons_zero, List.set_cons_succ]
        refine wpAnyH_ready (rs := [7]) (by kernel_rfl) (by simp) ?_
        refine AllReadyH.cons rfl (fun K hK => ?_) AllReadyH.nil
        go_simp
        first | (go_at_call 42; (with_reducible refine (JN _ _ (HHY.out.on (Below.refl _ _).drew)).mono ?_); rintro e w3 ⟨rfl, hb⟩; have HBD3 := Lib.hid (Lib.IsBuilderF.below (bld_dr HD2.out) hb); have HA3 := Lib.hid (HA.out.drew.trans (hb.mono HA.out.size)); have HB3 := Lib.hid (HB0.out.drew.trans (hb.mono HB0.out.size))) | (go_at_call 33; (with_reducible refine (WS _ HBD3.out HB3.out.size).mono ?_); rintro e w4 ⟨v4, rfl, hd4, hb4, ho4⟩; have HD4 := Lib.hid hd4; have HB4 := Lib.hid (HB3.out.trans hb4); have hz4 := hb4.size; have hz3 := HA3.out.size; have hS4 := And.intro (HAF.out _ _ HA3.out ho4) HB4.out)
        refine hK.out _ _ ?_ (fun hHeld => ?_)
        · (try dsimp only); (first | assumption | exact hs | exact AtF.dr (w := w) (l := [(⟨wr.heap.size, 0, none⟩, .string X)]) hs | exact AtF.dr (w := w) (l := [(⟨wr.heap.size, 0, none⟩, .string X)]) (by assumption) | exact AtF.on (w := w) (l := [(⟨wr.heap.size, 0, none⟩, .string X)]) (by assumption) (by assumption) | exact AtF.al (w := w) (l := [(⟨wr.heap.size, 0, none⟩, .string X)]) (by assumption) _ | exact AtF.ald (w := w) (l := [(⟨wr.heap.size, 0, none⟩, .string X)]) (by assumption) _ | exact AtF.al (w := w) (l := [(⟨wr.heap.size, 0, none⟩, .string X)]) hs _ | exact AtF.ald (w := w) (l := [(⟨wr.heap.size, 0, none⟩, .string X)]) hs _)
        clear hK K
        try simp only [Act.put, List.setIfInBounds_toArray, List.set_cons_zero, List.set_cons_succ]
        refine wpAnyH_done (by kernel_rfl) ?_ _
        have HW3 := Lib.hid (BE _ hHeld)
        clear hHeld hS4 hd4 hb4 ho4 HAF
        have hz5 : bb < w4.heap.size := by have := HZ2.out; omega
        clear hz4 hz3
        go_wp2
        go_roundw
        case rel => exact ⟨k + 1, _, by omega, by go_num, HO2, HD4, hz5, HW3⟩
        case measure => simp [intOf]; omega
    · obtain rfl : k = n := by omega
      have HE : Hid (out = textF l) := Lib.hid (by have := HO.out; rw [List.drop_of_length_le (by rw [HLN.out]; omega)] at this; simpa [textF, ended10] using this)
      have BS := bstr_any w.heap.size bb out wr HD.out hsz
      clear hlt HO
      go_wp2_with (go_at_call 34; refine BS.mono ?_; rintro e w3 ⟨rfl, hb3⟩; have HB3 := Lib.hid (HB.out.trans hb3); clear hb3)
      go_ret2
      exact HP.out _ _ (by rw [HE.out]) HB3.out
end Go.Proofs.YtceohgjfjndcmaaGreatDoor
