/-
  The law OrderEnough: true; nothing old turns. Conditions: LaidU, LaidE.
-/
import Derived.Test.YtpkdnohaefkfgaaGreatDoorGOdSame
import Derived.Test.YtpkdnohaefkfgaaGreatDoorGURightA
import Derived.Test.YtpkdnohaefkfgaaGreatDoorGUKey
import Derived.Test.YtpkdnohaefkfgaaGreatDoorGQRefLacks
import Derived.Test.YtpkdnohaefkfgaaGreatDoorGUFew
namespace Go.Proofs.YtpkdnohaefkfgaaGreatDoor
open Go.RowKit Go.Shelf
abbrev relB : Rl := ([98], [], [])
abbrev recA (i o : Value) : Uv := ⟨[97], [49], 3, [([relB], i)], [], [], [], [], [], o, .slice none 0 0, .slice none 0 0, .slice none 0 0, .slice none 0 0, .slice none 0 0⟩
abbrev recB : Uv := ⟨[98], [49], 3, [], [], [], [], [], [], .slice none 0 0, .slice none 0 0, .slice none 0 0, .slice none 0 0, .slice none 0 0, .slice none 0 0⟩
theorem kchk_nilO {α : Type} (rt : α → Bool) (key : α → Bs) : kchkK rt key [] = 0 := kchkK_ok (by simp) (fun i x h => by simp at h)
theorem rightO (dp : List Gv) (nm : Bs) (o : Value) (h1 : nameB nm = true) (h2 : (allE (fsts dp)).2 = 0) : rightU ⟨nm, [49], 3, dp, [], [], [], [], [], o, .slice none 0 0, .slice none 0 0, .slice none 0 0, .slice none 0 0, .slice none 0 0⟩ = true := by
  unfold rightU rlB
  simp only [Bool.and_eq_true, decide_eq_true_eq, beq_iff_eq, kchk_nilO, and_true]
  refine ⟨⟨⟨⟨h1, by decide +kernel⟩, by decide +kernel⟩, h2, by decide +kernel⟩, by decide +kernel⟩
theorem rightsO (i o : Value) : ∀ x ∈ [recA i o, recB], rightU x = true := fun x hx => by
  simp only [List.mem_cons, List.not_mem_nil, or_false] at hx
  rcases hx with rfl | rfl
  · exact rightO _ _ _ (by decide +kernel) (show (allE [[relB]]).2 = 0 by decide +kernel)
  · exact rightO _ _ _ (by decide +kernel) (show (allE []).2 = 0 by decide +kernel)
theorem mayA1 (i o : Value) : mayB [] [] (recA i o) = false := by
  have h : (lackL [] 0 [[relB]]).length = 1 := by decide +kernel
  show (!decide (([97] : Bs) ∈ ([] : List Bs)) && openZ 3 && ((lackL [] 0 [[relB]]).length == 0)) = false
  rw [h]; rfl
theorem mayB1 : mayB [] [] recB = true := by
  have h : (lackL [] 0 []).length = 0 := by decide +kernel
  show (!decide (([98] : Bs) ∈ ([] : List Bs)) && openZ 3 && ((lackL [] 0 []).length == 0)) = true
  rw [h]; rfl
theorem mayA2 (i o : Value) : mayB [[98]] [([98], [], [49])] (recA i o) = true := by
  have h : (lackL [([98], [], [49])] 0 [[relB]]).length = 0 := by decide +kernel
  show (!decide (([97] : Bs) ∈ ([[98]] : List Bs)) && openZ 3 && ((lackL [([98], [], [49])] 0 [[relB]]).length == 0)) = true
  rw [h]; rfl
theorem planO (i o : Value) : PlanOf [recA i o, recB] [recB, recA i o] := by
  have ht : thereU [recA i o, recB] = [] := rfl
  have h1 : nextU [recA i o, recB] [] [] = some recB := by
    unfold nextU
    rw [List.find?_cons_of_neg (by rw [mayA1]; simp), List.find?_cons_of_pos mayB1]
  have h2 : nextU [recA i o, recB] [[98]] [([98], [], [49])] = some (recA i o) := by
    unfold nextU
    rw [List.find?_cons_of_pos (mayA2 i o)]
  refine ⟨fun k x hx => ?_, ?_⟩
  · match k, hx with
    | 0, hx => cases hx; unfold behindU; rw [ht]; exact h1
    | 1, hx => cases hx; unfold behindU; rw [ht]; exact h2
    | k + 2, hx => simp at hx
  · refine next_no (fun x hx => ?_)
    simp only [List.mem_cons, List.not_mem_nil, or_false] at hx
    rcases hx with rfl | rfl
    · unfold mayB; rw [show decide ((recA i o).nm ∈ nmsU [recB, recA i o]) = true from rfl]; rfl
    · unfold mayB; rw [show decide (recB.nm ∈ nmsU [recB, recA i o]) = true from rfl]; rfl
set_option maxRecDepth 100000 in
set_option maxHeartbeats 16000000 in
theorem awake31 (w : World) (hL : LaidV w) : Calls Tryz.prog 6 #[] w fun e w' => e = .returned (.bool true) ∧ Below w.heap.size w w' := by
  obtain ⟨c1, hc1⟩ : ∃ o : Obj, o = .cells #[.string ⟨#[98]⟩, .string ⟨#[]⟩, .string ⟨#[]⟩] 41 := ⟨_, rfl⟩
  obtain ⟨c2, hc2⟩ : ∃ o : Obj, o = .cells #[.slice (some ⟨w.heap.size, 0, none⟩) 1 1] 27 := ⟨_, rfl⟩
  obtain ⟨c3, hc3⟩ : ∃ o : Obj, o = .cells #[.string ⟨#[97]⟩, .string ⟨#[49]⟩, .int .i64 3, .slice (some ⟨w.heap.size + 1, 0, none⟩) 1 1, .slice none 0 0, .slice none 0 0, .slice none 0 0, .slice none 0 0, .slice none 0 0, .string ⟨#[98]⟩, .string ⟨#[49]⟩, .int .i64 3, .slice none 0 0, .slice none 0 0, .slice none 0 0, .slice none 0 0, .slice none 0 0, .slice none 0 0] 37 := ⟨_, rfl⟩
  have B3 := (((Below.refl w.heap.size w).alloc (Nat.le_refl _) c1).alloc (by simp) c2).alloc (by simp; omega) c3
  have r1 : (((w.alloc c1).alloc c2).alloc c3).heap[w.heap.size]? = some c1 := row_below (((Below.refl _ _).alloc (Nat.le_refl _) c2).alloc (by simp) c3) (w := w.alloc c1) Array.getElem?_push_size
  have r2 : (((w.alloc c1).alloc c2).alloc c3).heap[w.heap.size + 1]? = some c2 := row_below ((Below.refl _ _).alloc (Nat.le_refl _) c3) (w := (w.alloc c1).alloc c2) (by rw [← World.size_alloc w c1]; exact Array.getElem?_push_size)
  have r3 : (((w.alloc c1).alloc c2).alloc c3).heap[w.heap.size + 2]? = some c3 := by
    have := Array.getElem?_push_size (xs := ((w.alloc c1).alloc c2).heap) (x := c3)
    rw [World.size_alloc, World.size_alloc] at this
    exact this
  have hsz : (((w.alloc c1).alloc c2).alloc c3).heap.size = w.heap.size + 3 := by simp
  obtain ⟨W3, hW3⟩ : ∃ W3, ((w.alloc c1).alloc c2).alloc c3 = W3 := ⟨_, rfl⟩
  rw [hW3] at B3 r1 r2 r3 hsz
  subst hc1 hc2 hc3
  have HH : HoldU W3 (.slice (some ⟨w.heap.size + 2, 0, none⟩) 2 2) [recA (.slice (some ⟨w.heap.size, 0, none⟩) 1 1) (.slice (some ⟨w.heap.size + 1, 0, none⟩) 1 1), recB] := by
    have nilH : ∀ k : Nat, HoldV k W3 (.slice none 0 0) [] := fun k => ⟨_, _, 0, 0, rfl, Nat.zero_le _, fun h => absurd h (by simp), fun j l hj => by simp at hj⟩
    have nilT : HoldT W3 (.slice none 0 0) [] := ⟨_, _, 0, 0, rfl, Nat.zero_le _, fun h => absurd h (by simp), fun j l hj => by simp at hj⟩
    have hq : HoldQ W3 (.slice (some ⟨w.heap.size, 0, none⟩) 1 1) [relB] := ⟨some ⟨w.heap.size, 0, none⟩, 1, w.heap.size, 0, rfl, Nat.le_refl _, fun _ => ⟨rfl, by omega⟩, fun j r hj i y hi hy => by
      match j, hj with
      | 0, hj =>
        cases hj
        rw [show 0 + 0 * 3 + i = i from by omega]
        refine cell_heapN r1 ?_
        match i, hi, hy with
        | 0, _, hy | 1, _, hy | 2, _, hy => cases hy; rfl
      | j + 1, hj => simp at hj⟩
    have hg : HoldGs W3 (.slice (some ⟨w.heap.size + 1, 0, none⟩) 1 1) [([relB], .slice (some ⟨w.heap.size, 0, none⟩) 1 1)] := ⟨⟨some ⟨w.heap.size + 1, 0, none⟩, 1, w.heap.size + 1, 0, rfl, Nat.le_refl _, fun _ => ⟨rfl, by omega⟩, fun j r hj i y hi hy => by
      match j, hj with
      | 0, hj =>
        cases hj
        rw [show 0 + 0 * 1 + i = i from by omega]
        refine cell_heapN r2 ?_
        match i, hi, hy with
        | 0, _, hy => cases hy; rfl
      | j + 1, hj => simp at hj⟩, fun x hx => by
        simp only [List.mem_cons, List.not_mem_nil, or_false] at hx
        subst hx
        exact hq⟩
    refine ⟨⟨some ⟨w.heap.size + 2, 0, none⟩, 2, w.heap.size + 2, 0, rfl, Nat.le_refl _, fun _ => ⟨rfl, by omega⟩, fun j r hj i y hi hy => ?_⟩, fun x hx => ?_⟩
    · match j, hj with
      | 0, hj =>
        cases hj
        rw [show 0 + 0 * 9 + i = i from by omega]
        refine cell_heapN r3 ?_
        match i, hi, hy with
        | 0, _, hy | 1, _, hy | 2, _, hy | 3, _, hy | 4, _, hy | 5, _, hy | 6, _, hy | 7, _, hy | 8, _, hy => cases hy; rfl
      | 1, hj =>
        cases hj
        rw [show 0 + 1 * 9 + i = 9 + i from by omega]
        refine cell_heapN r3 ?_
        match i, hi, hy with
        | 0, _, hy | 1, _, hy | 2, _, hy | 3, _, hy | 4, _, hy | 5, _, hy | 6, _, hy | 7, _, hy | 8, _, hy => cases hy; rfl
      | j + 2, hj => simp at hj
    · simp only [List.mem_cons, List.not_mem_nil, or_false] at hx
      rcases hx with rfl | rfl
      · exact ⟨hg, nilH 3, nilT, nilH 2, nilT, nilT⟩
      · exact ⟨⟨nilH 1, fun x hx => by simp at hx⟩, nilH 3, nilT, nilH 2, nilT, nilT⟩
  have PL := fun W (hb : Below W3.heap.size W3 W) => plan_any _ _ (by simp) (rightsO _ _) W (HH.on hb) (hL.on (B3.trans (hb.mono B3.size)))
  have SK := fun W (hb : Below W3.heap.size W3 W) => stuck_any _ _ (by simp) (rightsO _ _) W (HH.on hb) (hL.on (B3.trans (hb.mono B3.size)))
  have PL2 : ∀ W, Below W3.heap.size W3 W → Calls Tryz.prog 8 #[.slice (some ⟨w.heap.size + 2, 0, none⟩) 2 2] W fun e w' => (∃ a n c, e = .returned (.slice a n c) ∧ HoldT w' (.slice a n c) [[98], [97]]) ∧ Below W.heap.size W w' := fun W hb => (PL W hb).mono fun e w' ⟨⟨xs, a, n, c, he, hp, ht⟩, hb⟩ => by
    have := plan_uniq hp (planO _ _)
    subst this
    exact ⟨⟨a, n, c, he, OwnT.holds ht⟩, hb⟩
  have SK2 : ∀ W, Below W3.heap.size W3 W → Calls Tryz.prog 9 #[.slice (some ⟨w.heap.size + 2, 0, none⟩) 2 2] W fun e w' => (∃ a c, e = .returned (.slice a 0 c)) ∧ Below W.heap.size W w' := fun W hb => (SK W hb).mono fun e w' ⟨⟨xs, a, n, c, he, hp, ht⟩, hb⟩ => by
    have := plan_uniq hp (planO _ _)
    subst this
    obtain ⟨a', c', -, -, e', -⟩ := OwnT.holds ht
    exact ⟨⟨a', c', by rw [he, e']; rfl⟩, hb⟩
  have OP := fun W => open_any 3 W
  have SA := fun (a : Option Addr) (n c : Nat) (W : World) (h1 : HoldT W (.slice a n c) [[98], [97]]) => same2_below (.slice a n c) (.slice (some ⟨W.heap.size, 0, none⟩) 2 2) [[98], [97]] (by simp) (W.alloc (.cells #[.string ⟨#[98]⟩, .string ⟨#[97]⟩] 9)) (h1.on ((Below.refl _ _).alloc (Nat.le_refl _) _)) ⟨some ⟨W.heap.size, 0, none⟩, 2, W.heap.size, 0, rfl, Nat.le_refl _, fun _ => ⟨rfl, by simp⟩, fun j l hj => by
    match j, hj with
    | 0, hj => cases hj; rw [show 0 + 0 = 0 from rfl, World.cell?_alloc_new]; rfl
    | 1, hj => cases hj; rw [show 0 + 1 = 1 from rfl, World.cell?_alloc_new]; rfl
    | j + 2, hj => simp at hj⟩
  have HB3 := Lib.hid B3
  have HW3 := Lib.hid hW3
  clear PL SK HH r1 r2 r3 hsz hL hW3 B3
  go_enter Tryz.func6, Tryz.ntmps6
  go_wp2_with (first
    | (go_at_call 8; rw [HW3.out]; (with_reducible refine (PL2 _ (Below.refl _ _)).mono ?_); rintro e w4 ⟨⟨a4, n4, m4, rfl, ht⟩, hb⟩; have HT4 := Lib.hid ht; have HB4 := Lib.hid hb; have S4 := Lib.hid (SA _ _ _ _ ht); clear ht hb)
    | (go_at_call 18; (with_reducible refine S4.out.mono ?_); rintro e w5 ⟨rfl, hb⟩; have HB5 := Lib.hid ((HB4.out.alloc HB4.out.size _).trans (hb.mono (HB4.out.alloc HB4.out.size _).size)); clear hb)
    | (go_at_call 9; (with_reducible refine (SK2 _ HB5.out).mono ?_); rintro e w6 ⟨⟨a6, m6, rfl⟩, hb⟩; have HB6 := Lib.hid (HB5.out.trans (hb.mono HB5.out.size)); clear hb)
    | (go_at_call 12; (with_reducible refine (OP _).mono ?_); rintro e wq ⟨rfl, rfl⟩))
  go_ret
  exact ⟨rfl, HB3.out.trans (HB6.out.mono HB3.out.size)⟩
end Go.Proofs.YtpkdnohaefkfgaaGreatDoor
namespace Go.Proofs.YtpkdnohaefkfgaaGreatDoor
open Go.RowKit
set_option maxRecDepth 100000 in
set_option maxHeartbeats 4000000 in
theorem checkU_any (v : Value) (l : List Uv) (hl : l.length ≤ 90000) (hs : ∀ x ∈ l, SmallU x) (w : World) (h : HoldU w v l) (hL : LaidU w) (hE : LaidE w) : Calls Tryz.prog 5 #[v] w fun e w' => e = .returned (.int .i64 (kchkK rightU (fun x => x.nm) l)) ∧ Below w.heap.size w w' := by
  have C := kcheckU_any 17 #[] (enters_of Tryz.func17 (by kernel_rfl) rfl) rightU v l hl w h (fun x hx W hW => rightU_any x (hs x hx) W ((h.2 x hx).on hW) (hL.on hW) (hE.on hW))
  unfold keyFU at C
  obtain ⟨a, c, b, o, rfl, -⟩ := h.parts
  generalize kchkK rightU (fun x => x.nm) l = Z at *
  clear h hL hE hs
  go_enter Tryz.func5, Tryz.ntmps5
  go_wp2_with (go_at_call 15; (with_reducible refine C.mono ?_); rintro e w1 ⟨rfl, hb⟩; have HB := Lib.hid hb; clear hb)
  go_ret
  exact ⟨rfl, HB.out⟩
end Go.Proofs.YtpkdnohaefkfgaaGreatDoor
namespace Go.Proofs.YtpkdnohaefkfgaaGreatDoor
open Go.RowKit Go.Shelf
theorem steps_rise {l : List Uv} (h : StepsK rightU (fun x => x.nm) l) : ∀ (d i : Nat) (x y : Uv), l[i]? = some x → l[i + d + 1]? = some y → x.nm < y.nm
  | 0, i, x, y, hx, hy => (h (i + 1) y hy).2 x (by omega) (by simpa using hx)
  | d + 1, i, x, y, hx, hy => by
    have hlt := (List.getElem?_eq_some_iff.1 hy).1
    have hz := List.getElem?_eq_getElem (l := l) (i := i + d + 1) (by omega)
    have h1 := steps_rise h d i x _ hx hz
    have h2 := (h (i + (d + 1) + 1) y hy).2 _ (by omega) (by rw [show i + (d + 1) + 1 - 1 = i + d + 1 by omega]; exact hz)
    exact List.lt_trans h1 h2
theorem names_nodup {l : List Uv} (h : kchkK rightU (fun x => x.nm) l = 0) : l.length ≤ 64 ∧ (∀ x ∈ l, rightU x = true) ∧ (nmsU l).Nodup := by
  rcases kchkK_ways rightU (fun x => x.nm) l with ⟨-, h1, h2⟩ | ⟨g, -⟩
  · refine ⟨h1, fun x hx => ?_, ?_⟩
    · obtain ⟨i, hi, rfl⟩ := List.mem_iff_getElem.1 hx
      exact (h2 i _ (List.getElem?_eq_getElem hi)).1
    · rw [List.nodup_iff_pairwise_ne, List.pairwise_iff_getElem]
      intro i j hi hj hij e
      simp only [List.length_map] at hi hj
      have := steps_rise h2 (j - i - 1) i _ _ (List.getElem?_eq_getElem hi) (by rw [show i + (j - i - 1) + 1 = j by omega]; exact List.getElem?_eq_getElem hj)
      simp only [List.getElem_map] at e
      rw [e] at this
      exact List.lt_irrefl _ this
  · rw [h] at g
    rcases g with g | g <;> cases g
/-- Where a record is. -/
structure AtM (l : List Uv) (x : Uv) (m : Nat) : Prop where
  lt : m < l.length
  at' : l[m]? = some x
  first : ∀ (j : Nat) y, j < m → l[j]? = some y → y.nm ≠ x.nm
theorem atM_of {l : List Uv} (hd : (nmsU l).Nodup) {x : Uv} (hx : x ∈ l) : ∃ m, AtM l x m := by
  obtain ⟨m, hm, rfl⟩ := List.mem_iff_getElem.1 hx
  refine ⟨m, hm, List.getElem?_eq_getElem hm, fun j y hj hy e => ?_⟩
  have hy2 := (List.getElem?_eq_some_iff.1 hy)
  have hp := List.pairwise_iff_getElem.1 hd j m (by simpa using hy2.1) (by simpa using hm) hj
  refine hp ?_
  rw [List.getElem_map, List.getElem_map, hy2.2]
  exact e
theorem plan_at {l xs : List Uv} (hd : (nmsU l).Nodup) (h : PlanTo l xs) {k : Nat} {x : Uv} (hk : xs[k]? = some x) : (∃ m, AtM l x m) ∧ x.nm ∉ nmsU (xs.take k) ∧ openZ x.st = true ∧ lackN (behindU l (xs.take k)) x = 0 := by
  obtain ⟨h1, h2⟩ := next_some (h k x hk)
  obtain ⟨g1, g2, g3⟩ := mayB_parts h2
  unfold enoughB at g3
  exact ⟨atM_of hd h1, g1, g2, by simpa using g3⟩
theorem holdT_cut {w : World} {a : Option Addr} {n c : Nat} {ls : List Bs} (h : HoldT w (.slice a n c) ls) (k : Nat) (hk : k ≤ n) : HoldT w (.slice a k c) (ls.take k) := by
  obtain ⟨a', c', b, o, e, hc, ha, hcell⟩ := h
  simp only [Value.slice.injEq] at e
  obtain ⟨rfl, rfl, rfl⟩ := e
  refine ⟨a, c, b, o, by rw [List.length_take]; congr 1; omega, by rw [List.length_take]; omega, fun h0 => ha (by rw [List.length_take] at h0; omega), fun j l hj => hcell j l ?_⟩
  rw [List.getElem?_take] at hj
  split at hj
  · exact hj
  · cases hj
theorem behind_take {l xs : List Uv} {k : Nat} {x : Uv} (h : xs[k]? = some x) : behindU l (xs.take (k + 1)) = behindU l (xs.take k) ++ [relU x] := by
  rw [List.take_add_one, h]
  exact behind_snoc _ _ _
theorem plan_take {l xs : List Uv} (h : PlanTo l xs) (k : Nat) : PlanTo l (xs.take k) := fun i x hx => by
  rw [List.getElem?_take] at hx
  split at hx
  · rename_i hi
    have := h i x hx
    rw [List.take_take, show min i k = i by omega]
    exact this
  · cases hx
/-- The reference's Lacks of a record's groups, as a number. -/
theorem lacks_rec (x : Uv) (hr : rightU x = true) (t : List Rl) (tv : Value) (ht : t.length ≤ 90000) (hst : SmallQ t) (w : World) (hx : InU w x) (h2 : HoldQ w tv t) : Calls Tryz.prog 13 #[x.dv, tv] w fun e w' => (∃ a c, e = .returned (.slice a (lackN t x) c)) ∧ Below w.heap.size w w' := by
  obtain ⟨sg, sl⟩ := small_right hr
  refine (lacks_ref x.dv tv x.dp (by omega) sg t ht hst w hx.dp h2).mono fun e w' ⟨r, he, ho, hb⟩ => ⟨?_, hb⟩
  obtain ⟨a, c, -, -, hv, -⟩ := ho.holds
  rw [List.length_map] at hv
  exact ⟨a, c, by rw [he, hv]; rfl⟩
end Go.Proofs.YtpkdnohaefkfgaaGreatDoor
