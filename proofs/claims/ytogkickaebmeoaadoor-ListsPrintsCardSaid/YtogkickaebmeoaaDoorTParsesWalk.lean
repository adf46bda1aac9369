/-
  The walk of ListsParses: for every two texts it returns true; nothing old turns. Condition: LaidP.
-/
import Derived.Test.YtogkickaebmeoaaDoorTAwake
namespace Go.Proofs.YtogkickaebmeoaaDoor.listsParsesw
open Go.RowKit
theorem parse_paths {n s : Bs} {x : Ls} (h : parse13 n s = some x) : linesO s = some x.2 := by
  unfold parse13 at h
  cases hl : linesO s with
  | none => rw [hl] at h; cases h
  | some ls =>
    rw [hl, Option.bind_some] at h
    split at h
    · cases h; rfl
    · cases h
theorem hold_nil (W : World) : HoldT W (.slice none 0 0) [] := ⟨none, 0, 0, 0, rfl, Nat.le_refl _, fun h => absurd h (by simp), fun j l hj => by simp at hj⟩
theorem part_len (s : Bs) : ∀ p ∈ spl 10 s, p.length ≤ s.length := spl_piece 10 s
theorem two_lists {W : World} {p q : Lp} (hp : HoldT W p.2 p.1.2) (hq : HoldT W q.2 q.1.2) : HoldL ((W.alloc (.cells #[.string (bsT p.1.1), p.2] 24)).alloc (.cells #[.string (bsT q.1.1), q.2] 24)) (.slice (some ⟨W.heap.size, 0, none⟩) 1 1) [p] ∧ HoldL ((W.alloc (.cells #[.string (bsT p.1.1), p.2] 24)).alloc (.cells #[.string (bsT q.1.1), q.2] 24)) (.slice (some ⟨W.heap.size + 1, 0, none⟩) 1 1) [q] ∧ Below W.heap.size W ((W.alloc (.cells #[.string (bsT p.1.1), p.2] 24)).alloc (.cells #[.string (bsT q.1.1), q.2] 24)) := by
  have b1 := (Below.refl W.heap.size W).alloc (Nat.le_refl _) (.cells #[.string (bsT p.1.1), p.2] 24)
  have b2 := (Below.refl (W.alloc (.cells #[.string (bsT p.1.1), p.2] 24)).heap.size (W.alloc (.cells #[.string (bsT p.1.1), p.2] 24))).alloc (Nat.le_refl _) (.cells #[.string (bsT q.1.1), q.2] 24)
  have x := (Box2.new W (.string (bsT p.1.1)) p.2 24).on b2
  have y := box2 (W.alloc (.cells #[.string (bsT p.1.1), p.2] 24)) (.string (bsT q.1.1)) q.2 24
  rw [World.size_alloc] at y
  exact ⟨hold1L x.c0 x.c1 ((hp.on b1).on b2), hold1L y.1 y.2 ((hq.on b1).on b2), b1.trans (b2.mono b1.size)⟩
set_option maxRecDepth 100000 in
set_option maxHeartbeats 8000000 in
theorem walk (N : ByteArray) (bN : N.size ≤ 9223372036854775807) (s : ByteArray) (bs : s.size ≤ 9223372036854775807) (w : World) (hL : LaidP w) :
    Calls Tryd.prog 4 #[.string N, .string s] w fun e' w' => e' = .returned (.bool true) ∧ Below w.heap.size w w' := by
  have AW := fun W (hb : Below w.heap.size w W) => awake13 W (hL.on hb)
  have HR := Lib.hid (Below.refl w.heap.size w)
  by_cases h3 : 3000 < s.size
  · clear hL
    go_enter Tryd.func4, Tryd.ntmps4
    go_wp2_with (go_at_call 9; refine (AW _ HR.out).mono ?_; rintro e w2 ⟨rfl, hb⟩)
    go_ret
    exact ⟨rfl, hb⟩
  by_cases hn3 : 300 < N.size
  · clear hL
    go_enter Tryd.func4, Tryd.ntmps4
    go_wp2_with (go_at_call 9; refine (AW _ HR.out).mono ?_; rintro e w2 ⟨rfl, hb⟩)
    go_ret
    exact ⟨rfl, hb⟩
  have hpl : ∀ p ∈ spl 10 s.data.toList, p.length ≤ 4000 := fun p hp => by have := part_len _ p hp; rw [← sizeOf] at this; omega
  have P1 := parse13_any N (by omega) s (by omega) hpl w hL
  have P2 := fun W => parse13_ref N (by omega) s (by omega) hpl W
  unfold Pa13 at P1
  unfold Rp13 at P2
  cases hp : parse13 N.data.toList s.data.toList with
  | none =>
    have HD1 : Hid (∀ (A : ByteArray) v z, (parse13 N.data.toList s.data.toList = none → z = (2 : Int) ∧ A = ⟨#[]⟩ ∧ v = Value.slice none 0 0) → z = 2 ∧ A = ⟨#[]⟩ ∧ v = Value.slice none 0 0) := Lib.hid (fun A v z h => h hp)
    have HD2 : Hid (∀ (A : ByteArray) v ok, (parse13 N.data.toList s.data.toList = none → ok = false ∧ A = ⟨#[]⟩ ∧ v = Value.slice none 0 0) → ok = false ∧ A = ⟨#[]⟩ ∧ v = Value.slice none 0 0) := Lib.hid (fun A v z h => h hp)
    have PR := fun W (hb : Below w.heap.size w W) => print13_any ⟨#[]⟩ (by decide) (.slice none 0 0) [] (by decide) (fun x hx => by simp at hx) W (hL.on hb) (hold_nil W)
    unfold Pr13 at PR
    rw [show print13 ((ByteArray.mk #[]).data.toList, []) = ([], 1) from print13_no (by unfold right13; rfl)] at PR
    have SA := fun u v W h1 h2 => same13_ref u v [(([], []), .slice none 0 0)] [(([], []), .slice none 0 0)] rfl (by simp) (fun p hp => by simp at hp; subst hp; simp) W h1 h2
    clear hp hpl hL
    go_enter Tryd.func4, Tryd.ntmps4
    go_wp2_with (first
      | (go_at_call 16; (with_reducible refine P1.mono ?_); rintro e w1 ⟨A1, v1, z1, rfl, -, hp, hb⟩; obtain ⟨rfl, rfl, rfl⟩ := HD1.out _ _ _ hp; have HB1 := Lib.hid hb; have HX1 := Lib.hid (Box2.new w1 (.string ⟨#[]⟩) (.slice none 0 0) 24); have HC1 := Lib.hid (hb.alloc hb.size (.cells #[.string ⟨#[]⟩, .slice none 0 0] 24)); clear hp hb P1)
      | (go_at_call 18; (with_reducible refine (P2 _).mono ?_); rintro e w2 ⟨A2, v2, z2, rfl, -, hp, hb⟩; obtain ⟨rfl, rfl, rfl⟩ := HD2.out _ _ _ hp; have HB2 := Lib.hid (HC1.out.trans (hb.mono HC1.out.size)); have hx := (HX1.out.on hb).on ((Below.refl w2.heap.size w2).alloc (Nat.le_refl _) (.cells #[.string ⟨#[]⟩, .slice none 0 0] 24)); have HXX := Lib.hid hx; obtain ⟨x0, x1, -⟩ := hx; obtain ⟨y0, y1⟩ := box2 w2 (.string ⟨#[]⟩) (.slice none 0 0) 24; have HC2 := Lib.hid (HB2.out.alloc HB2.out.size (.cells #[.string ⟨#[]⟩, .slice none 0 0] 24)); have h2 := two_lists (W := w2.alloc (.cells #[.string ⟨#[]⟩, .slice none 0 0] 24)) (p := (([], []), .slice none 0 0)) (q := (([], []), .slice none 0 0)) (hold_nil _) (hold_nil _); rw [World.size_alloc] at h2; have SA2 := SA _ _ _ h2.1 h2.2.1; have HT := Lib.hid h2.2.2; have HB3 := Lib.hid (HC2.out.trans (h2.2.2.mono (by have := HB2.out.size; omega))); clear hp hb P2 h2 SA)
      | (go_at_call 17; (with_reducible refine SA2.mono ?_); rintro e w3 ⟨rfl, hb⟩; have HB4 := Lib.hid (HB3.out.trans (hb.mono HB3.out.size)); have hx := (HXX.out.on (by rw [World.size_alloc]; exact HT.out)).on hb; obtain ⟨x0, x1, -⟩ := hx; have PR4 := PR _ HB4.out; clear hb SA2)
      | (go_at_call 10; (with_reducible refine PR4.mono ?_); rintro e w4 ⟨rfl, hb⟩; have HB5 := Lib.hid (HB4.out.trans (hb.mono HB4.out.size)); clear hb PR4)
      | (go_at_call 9; (with_reducible refine (AW _ HB5.out).mono ?_); rintro e w5 ⟨rfl, hb⟩; have HB9 := Lib.hid (HB5.out.trans (hb.mono HB5.out.size)); clear hb))
    go_ret
    exact ⟨rfl, HB9.out⟩
  | some x =>
    obtain ⟨hpr, hx1, hrt⟩ := text_parse13 hp
    have hlo := parse_paths hp
    obtain ⟨hl1, hl2⟩ := lines_len hlo
    rw [← sizeOf] at hl1
    have hsm : SmallP x.2 := fun p h => hpl p (hl2 p h)
    obtain ⟨xn, xp⟩ := x
    dsimp only at hx1 hlo hl1 hsm
    subst hx1
    have HD1 : Hid (∀ (A : ByteArray) v z (W : World), (∀ x, parse13 N.data.toList s.data.toList = some x → z = (0 : Int) ∧ A.data.toList = x.1 ∧ HoldT W v x.2) → z = 0 ∧ A = N ∧ HoldT W v xp) := Lib.hid (fun A v z W h => by
      obtain ⟨h1, h2, h3⟩ := h _ hp
      exact ⟨h1, by rw [strOf h2, ← strOf (x := N) rfl], h3⟩)
    have HD2 : Hid (∀ (A : ByteArray) v (ok : Bool) (W : World), (∀ x, parse13 N.data.toList s.data.toList = some x → ok = true ∧ A.data.toList = x.1 ∧ HoldT W v x.2) → ok = true ∧ A = N ∧ HoldT W v xp) := Lib.hid (fun A v z W h => by
      obtain ⟨h1, h2, h3⟩ := h _ hp
      exact ⟨h1, by rw [strOf h2, ← strOf (x := N) rfl], h3⟩)
    have PR := fun u W (hb : Below w.heap.size w W) h => print13_any N (by omega) u xp (by omega) hsm W (hL.on hb) h
    unfold Pr13 at PR
    rw [show print13 (N.data.toList, xp) = (s.data.toList, 0) from hpr] at PR
    rw [show bsT (s.data.toList, (0 : Int)).1 = s from (strOf (x := s) rfl).symm] at PR
    have hq := eqT s s
    rw [decide_eq_true rfl] at hq
    have hNb : bsT N.data.toList = N := (strOf (x := N) rfl).symm
    have SA := fun p1 p2 u v W h1 h2 => same13_ref u v [((N.data.toList, xp), p1)] [((N.data.toList, xp), p2)] rfl (by simp) (fun p hp => by simp at hp; subst hp; show xp.length ≤ 90000; omega) W h1 h2
    have TL := fun (W : World) (p1 p2 : Value) (h1 : HoldT W p1 xp) (h2 : HoldT W p2 xp) => two_lists (W := W) (p := ((N.data.toList, xp), p1)) (q := ((N.data.toList, xp), p2)) h1 h2
    dsimp only at TL
    rw [hNb] at TL
    clear hp hpl hL hpr hrt hlo hl1 hl2 hsm hNb
    go_enter Tryd.func4, Tryd.ntmps4
    go_wp2_with (first
      | (go_at_call 16; (with_reducible refine P1.mono ?_); rintro e w1 ⟨A1, v1, z1, rfl, hp, -, hb⟩; obtain ⟨rfl, e1, hv1⟩ := HD1.out _ _ _ _ hp; subst e1; obtain ⟨a1, n1, c1, rfl⟩ := HoldT.form hv1; have HV1 := Lib.hid (hv1.on ((Below.refl w1.heap.size w1).alloc (Nat.le_refl _) (.cells #[.string A1, .slice a1 n1 c1] 24))); have HB1 := Lib.hid hb; have HX1 := Lib.hid (Box2.new w1 (.string A1) (.slice a1 n1 c1) 24); have HC1 := Lib.hid (hb.alloc hb.size (.cells #[.string A1, .slice a1 n1 c1] 24)); clear hp hb hv1 P1)
      | (go_at_call 18; (with_reducible refine (P2 _).mono ?_); rintro e w2 ⟨A2, v2, z2, rfl, hp, -, hb⟩; obtain ⟨rfl, e2, hv2⟩ := HD2.out _ _ _ _ hp; subst e2; obtain ⟨a2, n2, c2, rfl⟩ := HoldT.form hv2; have hal := (Below.refl w2.heap.size w2).alloc (Nat.le_refl _) (.cells #[.string A2, .slice a2 n2 c2] 24); have hv1p := (HV1.out.on hb).on hal; have hv2p := hv2.on hal; have HV3 := Lib.hid hv1p; have HB2 := Lib.hid (HC1.out.trans (hb.mono HC1.out.size)); have hx := (HX1.out.on hb).on ((Below.refl w2.heap.size w2).alloc (Nat.le_refl _) (.cells #[.string A2, .slice a2 n2 c2] 24)); have HXX := Lib.hid hx; obtain ⟨x0, x1, -⟩ := hx; obtain ⟨y0, y1⟩ := box2 w2 (.string A2) (.slice a2 n2 c2) 24; have HC2 := Lib.hid (HB2.out.alloc HB2.out.size (.cells #[.string A2, .slice a2 n2 c2] 24)); have h2 := TL (w2.alloc (.cells #[.string A2, .slice a2 n2 c2] 24)) (.slice a1 n1 c1) (.slice a2 n2 c2) hv1p hv2p; rw [World.size_alloc] at h2; have SA2 := SA (.slice a1 n1 c1) (.slice a2 n2 c2) _ _ _ h2.1 h2.2.1; have HT := Lib.hid h2.2.2; have HB3 := Lib.hid (HC2.out.trans (h2.2.2.mono (by have := HB2.out.size; omega))); clear hp hb P2 h2 SA)
      | (go_at_call 17; (with_reducible refine SA2.mono ?_); rintro e w3 ⟨rfl, hb⟩; have HB4 := Lib.hid (HB3.out.trans (hb.mono HB3.out.size)); have hx := (HXX.out.on (by rw [World.size_alloc]; exact HT.out)).on hb; obtain ⟨x0, x1, -⟩ := hx; have PR4 := PR _ _ HB4.out ((HV3.out.on (by rw [World.size_alloc]; exact HT.out)).on hb); clear hb SA2)
      | (go_at_call 10; (with_reducible refine PR4.mono ?_); rintro e w4 ⟨rfl, hb⟩; have HB5 := Lib.hid (HB4.out.trans (hb.mono HB4.out.size)); clear hb PR4)
      | (go_at_call 9; (with_reducible refine (AW _ HB5.out).mono ?_); rintro e w5 ⟨rfl, hb⟩; have HB9 := Lib.hid (HB5.out.trans (hb.mono HB5.out.size)); clear hb))
    go_ret
    exact ⟨rfl, HB9.out⟩
end Go.Proofs.YtogkickaebmeoaaDoor.listsParsesw
