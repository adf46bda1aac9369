/-
  Small functions of trigs: which text may be a trigger, which interest may be, how two stand; nothing old turns. Condition of the program's: LaidP.
-/
import Derived.Test.YtceohgjfjndcmaaGreatDoorGHold
import Derived.Test.YtceohgjfjndcmaaGreatDoorAtB
import Derived.Test.YtceohgjfjndcmaaGreatDoorPClean
import Derived.Test.YtceohgjfjndcmaaGreatDoorPCleanRef
import Derived.Test.YtceohgjfjndcmaaGreatDoorPNameRef
import Derived.IntWalk
import Derived.Laws.StructEq
namespace Go.Proofs.YtceohgjfjndcmaaGreatDoor
open Go.RowKit
set_option maxRecDepth 100000 in
theorem trig_any (s : ByteArray) (hs : s.size ≤ 4000) (w : World) (hL : LaidP w) :
    Calls Tryz.prog 68 #[.string s] w fun e w' => e = .returned (.bool (trigB s.data.toList)) ∧ Below w.heap.size w w' := by
  have NM := fun W => name_any s hs W
  have RA := right_any s hs w hL
  unfold trigB
  generalize right s.data.toList = q at *
  cases hn : nameB s.data.toList
  all_goals
    simp only [hn] at NM
    clear hn hL hs
    go_enter Tryz.func68, Tryz.ntmps68
    go_wp2_with (first
      | (go_at_call 69; refine (NM _).mono ?_; rintro e w1 ⟨rfl, rfl⟩)
      | (go_at_call 65; refine RA.mono ?_; rintro e w2 ⟨rfl, hb⟩; have HB := Lib.hid hb; clear hb))
    go_ret
    first | exact ⟨retb (by simp), HB.out⟩ | exact ⟨retb (by simp), Below.refl _ _⟩
set_option maxRecDepth 100000 in
theorem trig_ref (s : ByteArray) (hs : s.size ≤ 4000) (w : World) :
    Calls Tryz.prog 37 #[.string s] w fun e w' => e = .returned (.bool (trigB s.data.toList)) ∧ Below w.heap.size w w' := by
  have NM := fun W => name_ref s hs W
  have RA := right_ref s hs w
  unfold trigB
  generalize right s.data.toList = q at *
  cases hn : nameB s.data.toList
  all_goals
    simp only [hn] at NM
    clear hn hs
    go_enter Tryz.func37, Tryz.ntmps37
    go_wp2_with (first
      | (go_at_call 38; refine (NM _).mono ?_; rintro e w1 ⟨rfl, rfl⟩)
      | (go_at_call 72; refine RA.mono ?_; rintro e w2 ⟨rfl, hb⟩; have HB := Lib.hid hb; clear hb))
    go_ret
    first | exact ⟨retb (by simp), HB.out⟩ | exact ⟨retb (by simp), Below.refl _ _⟩
set_option maxRecDepth 100000 in
theorem rightI_any (x : It) (h1 : x.1.length ≤ 4000) (h2 : x.2.1.length ≤ 4000) (w : World) (hL : LaidP w) :
    Calls Tryz.prog 35 #[aggI x] w fun e w' => e = .returned (.bool (rightI x)) ∧ Below w.heap.size w w' := by
  have B0 := (Below.refl w.heap.size w).alloc (Nat.le_refl _) (.cells #[.string (bsT x.1), .string (bsT x.2.1), .bool x.2.2] 53)
  have TR := trig_any (bsT x.1) (by rw [sizeOf, bytesOf]; exact h1) _ (hL.on B0)
  have NM := fun W => name_any (bsT x.2.1) (by rw [sizeOf, bytesOf]; exact h2) W
  rw [bytesOf] at TR NM
  have HB0 := Lib.hid B0
  unfold rightI aggI
  generalize nameB x.2.1 = q at *
  generalize trigB x.1 = p at *
  generalize bsT x.1 = X at *
  generalize bsT x.2.1 = Y at *
  generalize x.2.2 = z at *
  obtain ⟨x0, x1, x2⟩ := boxV3 w (.string X) (.string Y) (.bool z) 53
  have l0 := World.block_lt_of_cell? _ _ x1
  have HXX := Lib.hid (fun W (hb : Below (w.alloc (.cells #[.string X, .string Y, .bool z] 53)).heap.size (w.alloc (.cells #[.string X, .string Y, .bool z] 53)) W) => (hb.cell (p := ⟨w.heap.size, 1, none⟩) l0).trans x1)
  clear B0 hL h1 h2 l0
  cases p
  all_goals
    go_enter Tryz.func35, Tryz.ntmps35
    go_wp2_with (first
      | (go_at_call 68; refine TR.mono ?_; rintro e w1 ⟨rfl, hb⟩; have HB := Lib.hid (HB0.out.trans (hb.mono HB0.out.size)); have y1 := HXX.out _ hb; clear hb)
      | (go_at_call 69; refine (NM _).mono ?_; rintro e w2 ⟨rfl, rfl⟩))
    go_ret
    exact ⟨retb (by simp), HB.out⟩
theorem nan_any (s : ByteArray) (w : World) : Calls Tryz.prog 97 #[.string s] w fun e w' => e = .returned (.bool false) ∧ w = w' := by
  have q0 := eqT s s
  rw [decide_eq_true rfl] at q0
  go_enter Tryz.func97, Tryz.ntmps97
  go_wp2
  go_ret
  exact ⟨rfl, rfl⟩
open Classical in
noncomputable def cmpT (a b : Bs) : Int := if a < b then -1 else if a = b then 0 else 1
theorem cmpT_ways (a b : Bs) : (cmpT a b = -1 ∧ a < b) ∨ (cmpT a b = 0 ∧ a = b) ∨ (cmpT a b = 1 ∧ ¬ a < b ∧ a ≠ b) := by
  unfold cmpT
  by_cases h : a < b
  · exact .inl ⟨if_pos h, h⟩
  · by_cases e : a = b
    · exact .inr (.inl ⟨by rw [if_neg h, if_pos e], e⟩)
    · exact .inr (.inr ⟨by rw [if_neg h, if_neg e], h, e⟩)
set_option maxRecDepth 100000 in
theorem cmp_any (a b : ByteArray) (w : World) : Calls Tryz.prog 71 #[.string a, .string b] w fun e w' => e = .returned (.int .i64 (cmpT a.data.toList b.data.toList)) ∧ w = w' := by
  have NA := fun s w => nan_any s w
  have h1 := lessT a b
  have h3 := eqT a b
  rcases cmpT_ways a.data.toList b.data.toList with ⟨e, h⟩ | ⟨e, h⟩ | ⟨e, h, g⟩
  · rw [e]
    rw [decide_eq_true h] at h1
    clear e h h3
    go_enter Tryz.func71, Tryz.ntmps71
    go_wp2_with (go_at_call 97; refine (NA _ _).mono ?_; rintro e w1 ⟨rfl, rfl⟩)
    go_ret
    exact ⟨rfl, rfl⟩
  · rw [e]
    rw [decide_eq_true h] at h3
    rw [decide_eq_false (by rw [h]; exact List.lt_irrefl _)] at h1
    clear e h
    go_enter Tryz.func71, Tryz.ntmps71
    go_wp2_with (go_at_call 97; refine (NA _ _).mono ?_; rintro e w1 ⟨rfl, rfl⟩)
    go_ret
    exact ⟨rfl, rfl⟩
  · rw [e]
    rw [decide_eq_false h] at h1
    rw [decide_eq_false g] at h3
    clear e h g
    go_enter Tryz.func71, Tryz.ntmps71
    go_wp2_with (go_at_call 97; refine (NA _ _).mono ?_; rintro e w1 ⟨rfl, rfl⟩)
    go_ret
    exact ⟨rfl, rfl⟩
def orI (a b : Int) : Int := if a ≠ 0 then a else b
/-- The first that isn't 0. -/
def orL : List Int → Int
  | [] => 0
  | x :: l => orI x (orL l)
theorem orL_zero {xs : List Int} {k : Nat} {x : Int} (h : xs[k]? = some x) : orL (xs.drop k) = if x ≠ 0 then x else orL (xs.drop (k + 1)) := by
  obtain ⟨hk, rfl⟩ := List.getElem?_eq_some_iff.1 h
  rw [List.drop_eq_getElem_cons hk]
  rfl
theorem orL_two (x y : Int) : orL [x, y] = orI x y := by
  unfold orL orL orL orI
  by_cases h : y = 0 <;> simp [h]
theorem or_any (b : Nat) (xs : List Int) (n : Nat) (hn : xs.length = n) (h10 : n ≤ 10) (w : World) (hcell : ∀ (j : Nat) x, xs[j]? = some x → w.cell? ⟨b, j, none⟩ = some (.int .i64 x)) :
    Calls Tryz.prog 70 #[.slice (some ⟨b, 0, none⟩) n n] w fun e w' => e = .returned (.int .i64 (orL xs)) ∧ w = w' := by
  have HC := Lib.hid hcell
  have HN := Lib.hid hn
  clear hcell hn
  go_enter Tryz.func70, Tryz.ntmps70
  go_wp2
  go_loop [8] (fun i => ∃ k : Nat, k ≤ n ∧ i = .int .i64 k ∧ Hid (orL xs = orL (xs.drop k))) (fun i => n - (intOf i).toNat)
  case atStart => exact ⟨0, by omega, rfl, Lib.hid (by simp)⟩
  case round =>
    obtain ⟨k, hk, rfl, H⟩ := hrel
    by_cases hlt : k < n
    · obtain ⟨x, hx⟩ : ∃ x, xs[k]? = some x := ⟨_, List.getElem?_eq_getElem (by rw [HN.out]; exact hlt)⟩
      have hc := HC.out k x hx
      have hz := orL_zero hx
      by_cases h0 : x = 0
      · have HZ : Hid (orL xs = orL (xs.drop (k + 1))) := Lib.hid (by rw [H.out, hz, if_neg (by omega)])
        subst h0
        clear hz hx
        go_wp2
        go_round
        case rel => exact ⟨k + 1, by omega, by go_num, HZ⟩
        case measure => simp [intOf]; omega
      · have HZ : Hid (x = orL xs) := Lib.hid (by rw [H.out, hz, if_pos h0])
        have h0' : (x != 0) = true := by simpa using h0
        clear hz hx h0
        go_wp2
        go_ret
        exact ⟨reti HZ.out, rfl⟩
    · have HZ : Hid (0 = orL xs) := Lib.hid (by rw [H.out, List.drop_eq_nil_of_le (by rw [HN.out]; omega)]; rfl)
      clear H
      go_wp2
      go_ret
      exact ⟨reti HZ.out, rfl⟩
theorem or2 (b : Nat) (z q : Int) (w : World) (h0 : w.cell? ⟨b, 0, none⟩ = some (.int .i64 z)) (h1 : w.cell? ⟨b, 1, none⟩ = some (.int .i64 q)) :
    Calls Tryz.prog 70 #[.slice (some ⟨b, 0, none⟩) 2 2] w fun e w' => e = .returned (.int .i64 (orI z q)) ∧ w = w' := by
  have := or_any b [z, q] 2 rfl (by decide) w (fun j x h => by
    match j, h with
    | 0, h => cases h; exact h0
    | 1, h => cases h; exact h1
    | j + 2, h => simp at h)
  rwa [orL_two] at this
noncomputable def cmpI (x y : It) : Int := orI (cmpT x.1 y.1) (cmpT x.2.1 y.2.1)
theorem cmpI_ways (x y : It) : (cmpI x y = -1 ∧ lessI x y) ∨ (cmpI x y = 0 ∧ ¬ lessI x y ∧ x.1 = y.1 ∧ x.2.1 = y.2.1) ∨ (cmpI x y = 1 ∧ ¬ lessI x y ∧ (x.1 ≠ y.1 ∨ x.2.1 ≠ y.2.1)) := by
  unfold cmpI orI lessI
  rcases cmpT_ways x.1 y.1 with ⟨e, h⟩ | ⟨e, h⟩ | ⟨e, h, g⟩
  · exact .inl ⟨by rw [e]; rfl, .inl h⟩
  · rw [e, h]
    rcases cmpT_ways x.2.1 y.2.1 with ⟨e2, h2⟩ | ⟨e2, h2⟩ | ⟨e2, h2, g2⟩
    · exact .inl ⟨by rw [e2]; rfl, .inr ⟨rfl, h2⟩⟩
    · exact .inr (.inl ⟨by rw [e2]; rfl, by rintro (q | ⟨_, q⟩); exact List.lt_irrefl _ q; rw [h2] at q; exact List.lt_irrefl _ q, rfl, h2⟩)
    · exact .inr (.inr ⟨by rw [e2]; rfl, by rintro (q | ⟨_, q⟩); exact List.lt_irrefl _ q; exact h2 q, .inr g2⟩)
  · exact .inr (.inr ⟨by rw [e]; rfl, by rintro (q | ⟨q, _⟩); exact h q; exact g q, .inl g⟩)
set_option maxRecDepth 100000 in
set_option maxHeartbeats 4000000 in
theorem compare_any (x y : It) (w : World) : Calls Tryz.prog 36 #[aggI x, aggI y] w fun e w' => e = .returned (.int .i64 (cmpI x y)) ∧ Below w.heap.size w w' := by
  have CA := fun w => cmp_any (bsT x.1) (bsT y.1) w
  have CB := fun w => cmp_any (bsT x.2.1) (bsT y.2.1) w
  rw [bytesOf, bytesOf] at CA CB
  have B0 := ((Below.refl w.heap.size w).alloc (Nat.le_refl _) (.cells #[.string (bsT x.1), .string (bsT x.2.1), .bool x.2.2] 53)).alloc (by simp) (.cells #[.string (bsT y.1), .string (bsT y.2.1), .bool y.2.2] 53)
  unfold cmpI aggI
  generalize cmpT x.1 y.1 = p at *
  generalize cmpT x.2.1 y.2.1 = q at *
  generalize bsT x.1 = X at *
  generalize bsT x.2.1 = Y at *
  generalize x.2.2 = z at *
  generalize bsT y.1 = X' at *
  generalize bsT y.2.1 = Y' at *
  generalize y.2.2 = z' at *
  obtain ⟨x0, x1, x2⟩ := boxV3 w (.string X) (.string Y) (.bool z) 53
  obtain ⟨y0, y1, y2⟩ := boxV3 (w.alloc (.cells #[.string X, .string Y, .bool z] 53)) (.string X') (.string Y') (.bool z') 53
  rw [World.size_alloc] at y0 y1 y2
  have hA := (Below.refl (w.alloc (.cells #[.string X, .string Y, .bool z] 53)).heap.size (w.alloc (.cells #[.string X, .string Y, .bool z] 53))).alloc (Nat.le_refl _) (.cells #[.string X', .string Y', .bool z'] 53)
  have l0 := World.block_lt_of_cell? _ _ x0
  have x0 := (hA.cell (p := ⟨w.heap.size, 0, none⟩) l0).trans x0
  have x1 := (hA.cell (p := ⟨w.heap.size, 1, none⟩) l0).trans x1
  have hs := And.intro x0 (And.intro x1 (And.intro y0 (And.intro y1 B0)))
  have HS := Lib.hid hs
  clear hA l0 x2 y2 hs x0 x1 y0 y1 B0
  go_enter Tryz.func36, Tryz.ntmps36
  go_wp2
  have hs := HS.out
  obtain ⟨W0, hW0⟩ : ∃ W0, W0 = (w.alloc (.cells #[.string X, .string Y, .bool z] 53)).alloc (.cells #[.string X', .string Y', .bool z'] 53) := ⟨_, rfl⟩
  rw [← hW0] at hs ⊢
  obtain ⟨b0, hb0⟩ : ∃ b0, b0 = w.heap.size := ⟨_, rfl⟩
  rw [← hb0] at hs ⊢
  clear hW0 HS
  rw [hb0] at hs
  rw [hb0]
  obtain ⟨x0, x1, y0, y1, hB⟩ := hs
  have hs := And.intro x0 (And.intro x1 (And.intro y0 (And.intro y1 hB)))
  clear hb0
  have BE := fun (V : World) (h : V.cell? ⟨w.heap.size, 0, none⟩ = some (.string X) ∧ V.cell? ⟨w.heap.size, 1, none⟩ = some (.string Y) ∧ V.cell? ⟨w.heap.size + 1, 0, none⟩ = some (.string X') ∧ V.cell? ⟨w.heap.size + 1, 1, none⟩ = some (.string Y') ∧ Below w.heap.size w V) => AtF.be (w := w) (l := [(⟨w.heap.size, 0, none⟩, .string X), (⟨w.heap.size, 1, none⟩, .string Y), (⟨w.heap.size + 1, 0, none⟩, .string X'), (⟨w.heap.size + 1, 1, none⟩, .string Y')]) h
  go_region_held3 (fun V => V.cell? ⟨w.heap.size, 0, none⟩ = some (.string X) ∧ V.cell? ⟨w.heap.size, 1, none⟩ = some (.string Y) ∧ V.cell? ⟨w.heap.size + 1, 0, none⟩ = some (.string X') ∧ V.cell? ⟨w.heap.size + 1, 1, none⟩ = some (.string Y') ∧ Below w.heap.size w V)
    (first | assumption | exact hs | exact AtF.dr (w := w) (l := [(⟨w.heap.size, 0, none⟩, .string X), (⟨w.heap.size, 1, none⟩, .string Y), (⟨w.heap.size + 1, 0, none⟩, .string X'), (⟨w.heap.size + 1, 1, none⟩, .string Y')]) hs | exact AtF.dr (w := w) (l := [(⟨w.heap.size, 0, none⟩, .string X), (⟨w.heap.size, 1, none⟩, .string Y), (⟨w.heap.size + 1, 0, none⟩, .string X'), (⟨w.heap.size + 1, 1, none⟩, .string Y')]) (by assumption) | exact AtF.on (w := w) (l := [(⟨w.heap.size, 0, none⟩, .string X), (⟨w.heap.size, 1, none⟩, .string Y), (⟨w.heap.size + 1, 0, none⟩, .string X'), (⟨w.heap.size + 1, 1, none⟩, .string Y')]) (by assumption) (by assumption) | exact AtF.al (w := w) (l := [(⟨w.heap.size, 0, none⟩, .string X), (⟨w.heap.size, 1, none⟩, .string Y), (⟨w.heap.size + 1, 0, none⟩, .string X'), (⟨w.heap.size + 1, 1, none⟩, .string Y')]) (by assumption) _ | exact AtF.ald (w := w) (l := [(⟨w.heap.size, 0, none⟩, .string X), (⟨w.heap.size, 1, none⟩, .string Y), (⟨w.heap.size + 1, 0, none⟩, .string X'), (⟨w.heap.size + 1, 1, none⟩, .string Y')]) (by assumption) _ | exact AtF.al (w := w) (l := [(⟨w.heap.size, 0, none⟩, .string X), (⟨w.heap.size, 1, none⟩, .string Y), (⟨w.heap.size + 1, 0, none⟩, .string X'), (⟨w.heap.size + 1, 1, none⟩, .string Y')]) hs _ | exact AtF.ald (w := w) (l := [(⟨w.heap.size, 0, none⟩, .string X), (⟨w.heap.size, 1, none⟩, .string Y), (⟨w.heap.size + 1, 0, none⟩, .string X'), (⟨w.heap.size + 1, 1, none⟩, .string Y')]) hs _)
    ((first | (go_at_call 71; first | ((with_reducible refine (CA _).mono ?_); rintro e w3 ⟨rfl, rfl⟩) | ((with_reducible refine (CB _).mono ?_); rintro e w3 ⟨rfl, rfl⟩)) | (go_at_call 70; refine (or2 _ p q _ (by simp [World.cell?_alloc_new]) (by simp [World.cell?_alloc_new])).mono ?_; rintro e w3 ⟨rfl, rfl⟩)))
  all_goals
    rename_i hHeld
    have HW3 := Lib.hid (BE _ hHeld)
    clear hHeld
    go_wp2
    go_ret
    exact ⟨rfl, HW3.out⟩
end Go.Proofs.YtceohgjfjndcmaaGreatDoor
