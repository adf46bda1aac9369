/-
  The reference's Name, Parse and Right, of texts of any size: what each returns; nothing old turns.
-/
import Derived.Test.YtkcamfcjkjiijaaGreatDoorGPName
import Derived.Test.YtkcamfcjkjiijaaGreatDoorGVPParse
import Derived.Test.YtkcamfcjkjiijaaGreatDoorGQHold
import Derived.Test.YtkcamfcjkjiijaaGreatDoorGVParse
import Derived.Test.YtkcamfcjkjiijaaGreatDoorGShelf
namespace Go.Proofs.YtkcamfcjkjiijaaGreatDoor
open Go.RowKit
end Go.Proofs.YtkcamfcjkjiijaaGreatDoor
namespace Go.Proofs.YtkcamfcjkjiijaaGreatDoor
open Go.RowKit
theorem box3 {A B : World} {b : Nat} {x y z : ByteArray} (h : A.cell? ⟨b, 0, none⟩ = some (.string x) ∧ A.cell? ⟨b, 1, none⟩ = some (.string y) ∧ A.cell? ⟨b, 2, none⟩ = some (.string z)) (hb : Below A.heap.size A B) : B.cell? ⟨b, 0, none⟩ = some (.string x) ∧ B.cell? ⟨b, 1, none⟩ = some (.string y) ∧ B.cell? ⟨b, 2, none⟩ = some (.string z) := by
  have hlt := World.block_lt_of_cell? A _ h.1
  have k := fun o => hb.cell (p := ⟨b, o, none⟩) hlt
  exact ⟨by rw [k]; exact h.1, by rw [k]; exact h.2.1, by rw [k]; exact h.2.2⟩
theorem box3New (A : World) (x y z : ByteArray) (t : TypeId) : (A.alloc (.cells #[.string x, .string y, .string z] t)).cell? ⟨A.heap.size, 0, none⟩ = some (.string x) ∧ (A.alloc (.cells #[.string x, .string y, .string z] t)).cell? ⟨A.heap.size, 1, none⟩ = some (.string y) ∧ (A.alloc (.cells #[.string x, .string y, .string z] t)).cell? ⟨A.heap.size, 2, none⟩ = some (.string z) := by
  simp [World.cell?_alloc_new]
/-- What Right looks at. -/
inductive RightTo (x : Rl) : Bool → Prop
  | name (h : nameB x.1 = false) : RightTo x false
  | bare (h : nameB x.1 = true) (h2 : x.2.1 = []) : RightTo x (decide (x.2.2 = []))
  | op (h : nameB x.1 = true) (h2 : x.2.1 ≠ []) : RightTo x (opB x.2.1 && decide ((parseE x.2.2).2 = 0))
theorem right_to (x : Rl) : RightTo x (rightR x) := by
  unfold rightR
  cases h : nameB x.1
  · exact .name h
  · by_cases h2 : x.2.1 = []
    · rw [if_pos h2]; exact .bare h h2
    · rw [if_neg h2]; exact .op h h2
end Go.Proofs.YtkcamfcjkjiijaaGreatDoor
namespace Go.Proofs.YtkcamfcjkjiijaaGreatDoor
open Go.RowKit
end Go.Proofs.YtkcamfcjkjiijaaGreatDoor
namespace Go.Proofs.YtkcamfcjkjiijaaGreatDoor
open Go.RowKit
end Go.Proofs.YtkcamfcjkjiijaaGreatDoor
namespace Go.Proofs.YtkcamfcjkjiijaaGreatDoor
open Go.RowKit
theorem joinM_len (sep : Bs) (N : Nat) : ∀ (l : List Bs), (∀ p ∈ l, p.length ≤ N) → (Lib.join l sep).length ≤ l.length * (N + sep.length)
  | [], _ => by simp [Lib.join, List.intercalate]
  | [p], h => by have := h p (by simp); rw [Lib.join_one]; simp; omega
  | p :: q :: ps, h => by
    have h1 := joinM_len sep N (q :: ps) (fun x hx => h x (List.mem_cons_of_mem _ hx))
    have h2 := h p (by simp)
    rw [join_two, List.length_append, List.length_append, List.length_cons (a := p), Nat.add_mul]
    omega
theorem map_snocQ {α β : Type} (f : α → β) {l : List α} {k : Nat} {x : α} (h : l[k]? = some x) : (l.take (k + 1)).map f = (l.take k).map f ++ [f x] := by
  rw [List.take_add_one, h, List.map_append]; rfl
/-- Small: each part of at most 4000 bytes. -/
def SmallQ (l : List Rl) : Prop := ∀ x ∈ l, x.1.length ≤ 4000 ∧ x.2.1.length ≤ 4000 ∧ x.2.2.length ≤ 4000
theorem textR_len {x : Rl} (h : x.1.length ≤ 4000 ∧ x.2.1.length ≤ 4000 ∧ x.2.2.length ≤ 4000) : (textR x).length ≤ 12004 := by
  unfold textR
  split
  · omega
  · simp; omega
theorem textG_len {g : List Rl} (h : SmallQ g) (hl : g.length ≤ 500) : (textG g).length ≤ 7000000 := by
  have := joinM_len sepG 12004 (g.map textR) (fun p hp => by obtain ⟨x, hx, rfl⟩ := List.mem_map.1 hp; exact textR_len (h x hx))
  rw [List.length_map] at this
  have h2 : g.length * (12004 + sepG.length) ≤ 500 * 12007 := Nat.mul_le_mul_right _ hl
  unfold textG; omega
end Go.Proofs.YtkcamfcjkjiijaaGreatDoor
namespace Go.Proofs.YtkcamfcjkjiijaaGreatDoor
open Go.RowKit
def TwoP (x : Bs × Int) (w : World) (e : Ending) (w' : World) : Prop := e = .returned (.tuple #[.string (bsT x.1), .int .i64 x.2]) ∧ Below w.heap.size w w'
end Go.Proofs.YtkcamfcjkjiijaaGreatDoor
namespace Go.Proofs.YtkcamfcjkjiijaaGreatDoor
open Go.RowKit
abbrev Gv := List Rl × Value
abbrev HoldGs (w : World) (v : Value) (L : List Gv) : Prop := HoldV 1 w v (L.map fun x => [x.2]) ∧ ∀ x ∈ L, HoldQ w x.2 x.1
theorem HoldGs.on {w w' : World} {v : Value} {L : List Gv} (h : HoldGs w v L) (hb : Below w.heap.size w w') : HoldGs w' v L := ⟨HoldV.on h.1 hb, fun x hx => HoldV.on (h.2 x hx) hb⟩
theorem HoldGs.parts {w : World} {v : Value} {l : List Gv} (h : HoldGs w v l) : ∃ (a : Option Addr) (c b o : Nat), v = .slice a l.length c ∧ l.length ≤ c ∧ (0 < l.length → a = some ⟨b, o, none⟩ ∧ b < w.heap.size) ∧
    ∀ (j : Nat) x, l[j]? = some x → w.cell? ⟨b, o + j, none⟩ = some x.2 := by
  obtain ⟨⟨a, c, b, o, e, hc, ha, hcell⟩, -⟩ := h
  rw [List.length_map] at e hc ha
  refine ⟨a, c, b, o, e, hc, ha, fun j x hx => ?_⟩
  have := hcell j [x.2] (by rw [List.getElem?_map, hx]; rfl) 0 _ (by omega) rfl
  simpa using this
end Go.Proofs.YtkcamfcjkjiijaaGreatDoor
namespace Go.Proofs.YtkcamfcjkjiijaaGreatDoor
open Go.RowKit
def SmallG (l : List Gv) : Prop := ∀ x ∈ l, SmallQ x.1 ∧ x.1.length ≤ 500
def longG (x : List Rl) : Bool := decide (64 < x.length)
def badG (x : List Rl) : Bool := decide (x.length = 0) || !x.all rightR
def allE (l : List (List Rl)) : Bs × Int := if decide (64 < l.length) || l.any longG then ([], 22) else if l.any badG then ([], 1) else (textA l, 0)
abbrev fsts (l : List Gv) : List (List Rl) := l.map (·.1)
theorem bad_hit {l : List Gv} {k : Nat} {x : Gv} (h : l[k]? = some x) (hb : badG x.1 = true) : (fsts l).any badG = true := List.any_eq_true.2 ⟨x.1, List.mem_map_of_mem (List.mem_of_getElem? h), hb⟩
theorem bad_miss {l : List Gv} (h : ∀ (j : Nat) y, l[j]? = some y → badG y.1 = false) : (fsts l).any badG = false := by
  rw [List.any_eq_false]
  intro g hg
  obtain ⟨x, hx, rfl⟩ := List.mem_map.1 hg
  obtain ⟨j, hj⟩ := List.mem_iff_getElem?.1 hx
  rw [h j x hj]; simp
end Go.Proofs.YtkcamfcjkjiijaaGreatDoor
namespace Go.Proofs.YtkcamfcjkjiijaaGreatDoor
open Go.RowKit
set_option maxHeartbeats 2000000 in
theorem nameBig_ref (s : ByteArray) (hs : s.size ≤ maxLen) (w : World) : Calls Tryz.prog 106 #[.string s] w fun e w' => e = .returned (.bool (nameB s.data.toList)) ∧ w = w' := by
  unfold maxLen at hs
  obtain ⟨B, HB⟩ : ∃ B, Hid (nameB s.data.toList = B) := ⟨_, rfl⟩
  rw [HB.out]
  go_enter Tryz.func106, Tryz.ntmps106
  go_wp2
  go_loop [3] (fun i => ∃ k : Nat, k ≤ s.size ∧ i = .int .i64 k ∧ Hid (NameTo s.data.toList k)) (fun i => s.size - (intOf i).toNat)
  case atStart => exact ⟨0, by omega, rfl, Lib.hid ⟨by simp, fun h => absurd h (by omega)⟩⟩
  case round =>
    obtain ⟨k, hk, rfl, H⟩ := hrel
    by_cases hlt : k < s.size
    · have hc := s[k].toNat_lt
      rcases cls s[k].toNat with h | h | h | h
      · have HN : Hid (NameTo s.data.toList (k + 1)) := Lib.hid (nameTo_next hlt H.out ((inB_iff _).2 (.inl ((alB_iff _).2 (.inl h)))) (fun _ => (alB_iff _).2 (.inl h)))
        obtain ⟨ha, hb⟩ := h
        go_wp2
        go_round
        case rel => exact ⟨k + 1, by omega, by go_num, HN⟩
        case measure => simp [intOf]; omega
      · have HN : Hid (NameTo s.data.toList (k + 1)) := Lib.hid (nameTo_next hlt H.out ((inB_iff _).2 (.inl ((alB_iff _).2 (.inr h)))) (fun _ => (alB_iff _).2 (.inr h)))
        obtain ⟨ha, hb⟩ := h
        go_wp2
        go_round
        case rel => exact ⟨k + 1, by omega, by go_num, HN⟩
        case measure => simp [intOf]; omega
      · have hm : markB s[k] = true := (markB_iff _).2 h
        have hna : ¬ alB s[k] = true := fun e => by have := (alB_iff _).1 e; omega
        by_cases hk0 : k = 0
        · have HR : Hid (false = B) := Lib.hid (by rw [← HB.out]; exact (name_bad0 (by omega) (by subst hk0; exact hna)).symm)
          have hkb : ((k : Int) == 0) = true := by simp [hk0]
          clear hm hna hk0
          rcases h with h | h | h
          all_goals
            go_wp2
            go_ret
            exact ⟨ret_bool HR.out, rfl⟩
        · have HN : Hid (NameTo s.data.toList (k + 1)) := Lib.hid (nameTo_next hlt H.out ((inB_iff _).2 (.inr hm)) (fun e => absurd e hk0))
          have hkb : ((k : Int) == 0) = false := by simp [hk0]
          clear hm hna
          rcases h with h | h | h
          all_goals
            go_wp2
            go_round
            case rel => exact ⟨k + 1, by omega, by go_num, HN⟩
            case measure => simp [intOf]; omega
      · have HR : Hid (false = B) := Lib.hid (by rw [← HB.out]; exact (name_bad hlt (inB_no (fun e => by have := (alB_iff _).1 e; omega) (fun e => by have := (markB_iff _).1 e; omega))).symm)
        rcases h with h | ⟨h, h'⟩ | ⟨h, h1, h2, h3⟩
        · go_wp2
          go_ret
          exact ⟨ret_bool HR.out, rfl⟩
        · go_wp2
          go_ret
          exact ⟨ret_bool HR.out, rfl⟩
        · have h1' : ((s[k].toNat : Int) == 43) = false := by simp; omega
          have h2' : ((s[k].toNat : Int) == 45) = false := by simp; omega
          have h3' : ((s[k].toNat : Int) == 46) = false := by simp; omega
          go_wp2
          go_ret
          exact ⟨ret_bool HR.out, rfl⟩
    · obtain rfl : k = s.size := by omega
      have HE := Lib.hid ((name_end H.out).symm.trans HB.out)
      clear hlt HB H
      by_cases h1 : 1 ≤ s.size
      · go_wp2
        go_ret
        exact ⟨ret_bool (by rw [← HE.out, decide_eq_true h1, Bool.true_and, Bool.eq_iff_iff]; simp only [decide_eq_true_eq]; omega), rfl⟩
      · go_wp2
        go_ret
        exact ⟨ret_bool (by rw [← HE.out, decide_eq_false h1]; simp), rfl⟩
set_option maxRecDepth 100000 in
set_option maxHeartbeats 8000000 in
theorem parseBig_ref (s : ByteArray) (hs : s.size ≤ maxLen) (w : World) : Calls Tryz.prog 107 #[.string s] w (ParsePost s.data.toList w) := by
  have hl := sizeOf s
  by_cases h4 : s.size ≤ 4000
  · exact parse_ref s h4 w
  have h80 : 80 < s.size := by omega
  · have HP : Hid (∀ e w', e = .returned (.tuple #[.agg #[.int .i64 0, .string ⟨#[]⟩, .string ⟨#[]⟩], .int .i64 8]) → Below w.heap.size w w' → ParsePost s.data.toList w e w') := Lib.hid (fun e w' h g => ⟨by rw [parseV_long (by omega)]; exact h, g⟩)
    clear hl
    unfold maxLen at hs
    go_enter Tryz.func107, Tryz.ntmps107
    go_wp2
    exact bodyPost_ret (v := .tuple #[.agg #[.int .i64 0, .string ⟨#[]⟩, .string ⟨#[]⟩], .int .i64 8]) (by simp [results, Tryz.results107, go_sem]) rfl (HP.out _ _ rfl ((((Below.refl _ _).alloc (Nat.le_refl _) _).alloc (by simp) _).alloc (by simp; omega) _))
set_option maxRecDepth 100000 in
set_option maxHeartbeats 8000000 in
theorem rightQBig_ref (n o v : ByteArray) (hn : n.size ≤ maxLen) (hv : v.size ≤ maxLen) (w : World) :
    Calls Tryz.prog 90 #[.agg #[.string n, .string o, .string v]] w fun e w' => e = .returned (.bool (rightR (n.data.toList, o.data.toList, v.data.toList))) ∧ Below w.heap.size w w' := by
  have NM := fun w => nameBig_ref n hn w
  have PV := fun w => parseBig_ref v hv w
  unfold ParsePost parseV verV at PV
  obtain ⟨R, hR⟩ : ∃ R, rightR (n.data.toList, o.data.toList, v.data.toList) = R := ⟨_, rfl⟩
  have hrt := right_to (n.data.toList, o.data.toList, v.data.toList)
  rw [hR] at hrt ⊢
  have hez := emptyT o
  have hev := emptyT v
  have e1 := eqTL o [60, 60]
  have e2 := eqTL o [60, 61]
  have e3 := eqTL o [61]
  have e4 := eqTL o [62, 61]
  have e5 := eqTL o [62, 62]
  have hal : ∀ (o : Obj), Below w.heap.size w (w.alloc o) := fun o => (Below.refl _ _).alloc (Nat.le_refl _) _
  have HAL := Lib.hid hal
  have hbn := box3New w n o v 75
  clear hR hal
  cases hrt with
  | name h =>
    simp only [] at h
    simp only [h] at NM
    clear e1 e2 e3 e4 e5 hez hev
    go_enter Tryz.func90, Tryz.ntmps90
    go_wp2_with (go_at_call 106; (with_reducible refine (NM _).mono ?_); rintro e w1 ⟨rfl, rfl⟩)
    go_ret
    exact ⟨rfl, HAL.out _⟩
  | bare h h2 =>
    simp only [] at h h2
    simp only [h] at NM
    have ho : o.size = 0 := by rw [sizeOf, h2]; rfl
    rw [decide_eq_true ho] at hez
    have hvv : decide (v.data.toList = []) = decide (v.size = 0) := by
      congr 1
      rw [sizeOf, List.length_eq_zero_iff]
    simp only [hvv]
    rw [← hev]
    clear e1 e2 e3 e4 e5 ho h h2 hev hvv
    go_enter Tryz.func90, Tryz.ntmps90
    go_wp2_with (go_at_call 106; (with_reducible refine (NM _).mono ?_); rintro e w1 ⟨rfl, rfl⟩)
    go_ret
    exact ⟨rfl, HAL.out _⟩
  | op h h2 =>
    simp only [] at h h2
    simp only [h] at NM
    have ho : ¬ o.size = 0 := fun e => h2 (List.eq_nil_of_length_eq_zero (by rw [← sizeOf]; exact e))
    rw [decide_eq_false ho] at hez
    obtain ⟨b1, b2, b3, b4, b5, g1, g2, g3, g4, g5, hop⟩ : ∃ b1 b2 b3 b4 b5, (o.toList == [60, 60]) = b1 ∧ (o.toList == [60, 61]) = b2 ∧ (o.toList == [61]) = b3 ∧ (o.toList == [62, 61]) = b4 ∧ (o.toList == [62, 62]) = b5 ∧ opB o.data.toList = ((((b1 || b2) || b3) || b4) || b5) := ⟨_, _, _, _, _, e1, e2, e3, e4, e5, rfl⟩
    have hways : (b1 = true) ∨ (b1 = false ∧ b2 = true) ∨ (b1 = false ∧ b2 = false ∧ b3 = true) ∨ (b1 = false ∧ b2 = false ∧ b3 = false ∧ b4 = true) ∨ (b1 = false ∧ b2 = false ∧ b3 = false ∧ b4 = false ∧ b5 = true) ∨ (b1 = false ∧ b2 = false ∧ b3 = false ∧ b4 = false ∧ b5 = false) := by
      cases b1 <;> cases b2 <;> cases b3 <;> cases b4 <;> cases b5 <;> simp
    obtain ⟨k, hk⟩ : ∃ k : Int, (parseE v.data.toList).2 = k := ⟨_, rfl⟩
    obtain ⟨z, hz⟩ : ∃ z : Int, (parseE v.data.toList).1.1 = z := ⟨_, rfl⟩
    obtain ⟨U, hU⟩ : ∃ U : ByteArray, (⟨((parseE v.data.toList).1.2.1).toArray⟩ : ByteArray) = U := ⟨_, rfl⟩
    obtain ⟨V, hV⟩ : ∃ V : ByteArray, (⟨((parseE v.data.toList).1.2.2).toArray⟩ : ByteArray) = V := ⟨_, rfl⟩
    simp only [hk, hz, hU, hV] at PV ⊢
    obtain ⟨kb, hkb⟩ : ∃ kb, (k == 0) = kb := ⟨_, rfl⟩
    have hkd : decide (k = 0) = kb := by rw [← hkb]; rfl
    rw [hkd]
    obtain ⟨p0, p1, p2⟩ := hbn
    have HBX := Lib.hid (And.intro p0 (And.intro p1 p2))
    clear e1 e2 e3 e4 e5 ho h h2 hev hk hz hU hV hkd
    rcases hways with rfl | ⟨rfl, rfl⟩ | ⟨rfl, rfl, rfl⟩ | ⟨rfl, rfl, rfl, rfl⟩ | ⟨rfl, rfl, rfl, rfl, rfl⟩ | ⟨rfl, rfl, rfl, rfl, rfl⟩
    all_goals
      simp only [Bool.true_or, Bool.or_true, Bool.or_false] at hop
      rw [hop]
      clear hop
      go_enter Tryz.func90, Tryz.ntmps90
      go_wp2_with (first
        | (go_at_call 106; (with_reducible refine (NM _).mono ?_); rintro e w1 ⟨rfl, rfl⟩)
        | (go_at_call 107; (with_reducible refine (PV _).mono ?_); rintro e w2 ⟨rfl, hb⟩; obtain ⟨q0, q1, q2⟩ := box3 HBX.out (hb.trans ((Below.refl _ w2).alloc hb.size (.cells #[.int .i64 z, .string U, .string V] 147))); have HB := Lib.hid (((HAL.out _).trans (hb.mono (HAL.out _).size)).alloc (Nat.le_trans (HAL.out _).size hb.size) (.cells #[.int .i64 z, .string U, .string V] 147)); clear hb))
      go_ret
      exact ⟨rfl, HB.out⟩
end Go.Proofs.YtkcamfcjkjiijaaGreatDoor
