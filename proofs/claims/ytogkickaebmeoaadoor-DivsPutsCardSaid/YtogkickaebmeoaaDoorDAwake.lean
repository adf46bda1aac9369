/-
  cellarerlaw09's Few and awake: what each returns; nothing old turns. Condition of awake: LaidP.
-/
import Derived.Test.YtogkickaebmeoaaDoorDParse
namespace Go.Proofs.YtogkickaebmeoaaDoor
open Go.RowKit
def FewD (l : List Dv) : Prop := l.length ≤ 70 ∧ ∀ x ∈ l, x.1.length ≤ 300 ∧ x.2.1.length ≤ 300 ∧ x.2.2.length ≤ 300
theorem FewD.small {l : List Dv} (h : FewD l) : SmallD l := fun x hx => by have := h.2 x hx; omega
open Classical in
noncomputable def fewB (l : List Dv) : Bool := decide (FewD l)
open Classical in
theorem fewB_yes {l : List Dv} (h : FewD l) : fewB l = true := by unfold fewB; exact decide_eq_true h
open Classical in
theorem fewB_no {l : List Dv} (h : ¬ FewD l) : fewB l = false := by unfold fewB; exact decide_eq_false h
def FewPost (l : List Dv) (w : World) (e : Ending) (w' : World) : Prop := e = .returned (.bool (fewB l)) ∧ w = w'
set_option maxRecDepth 100000 in
set_option maxHeartbeats 8000000 in
theorem few_any (v : Value) (l : List Dv) (w : World) (hb : l.length ≤ maxLen) (hsz : ∀ x ∈ l, x.1.length ≤ maxLen ∧ x.2.1.length ≤ maxLen ∧ x.2.2.length ≤ maxLen) (h : HoldD w v l) : Calls Tryd.prog 31 #[v] w (FewPost l w) := by
  obtain ⟨a, c, b, o, rfl, hc, ha, hcell⟩ := h.parts
  have HC := Lib.hid hcell
  have HSZ := Lib.hid hsz
  have HF : Hid (¬ FewD l → FewPost l w (.returned (.bool false)) w) := Lib.hid (fun g => ⟨by rw [fewB_no g], rfl⟩)
  have HT : Hid (FewD l → FewPost l w (.returned (.bool true)) w) := Lib.hid (fun g => ⟨by rw [fewB_yes g], rfl⟩)
  obtain ⟨n, hN⟩ : ∃ n, l.length = n := ⟨_, rfl⟩
  rw [hN] at hc ha hb ⊢
  have HN := Lib.hid hN
  unfold maxLen at hb
  clear hcell hN h hsz
  by_cases h70 : 70 < n
  · have HF2 := Lib.hid (HF.out (fun g => by have := g.1; rw [HN.out] at this; omega))
    go_enter Tryd.func31, Tryd.ntmps31
    go_wp2
    go_ret
    exact HF2.out
  go_enter Tryd.func31, Tryd.ntmps31
  go_wp2
  go_loop [3] (fun i => ∃ k : Nat, k ≤ n ∧ i = .int .i64 k ∧ Hid (∀ (j : Nat) y, j < k → l[j]? = some y → y.1.length ≤ 300 ∧ y.2.1.length ≤ 300 ∧ y.2.2.length ≤ 300)) (fun i => n - (intOf i).toNat)
  case atStart => exact ⟨0, by omega, rfl, Lib.hid (fun j y hj => by omega)⟩
  case round =>
    obtain ⟨k, hk, rfl, H⟩ := hrel
    by_cases hlt : k < n
    · obtain ⟨rfl, hbw⟩ := ha (by omega)
      obtain ⟨x, hx⟩ : ∃ x, l[k]? = some x := ⟨_, List.getElem?_eq_getElem (by rw [HN.out]; exact hlt)⟩
      obtain ⟨c0, c1, c2⟩ := HC.out k x hx
      have hz := HSZ.out x (List.mem_of_getElem? hx)
      unfold maxLen at hz
      obtain ⟨X, hX⟩ : ∃ X, bsA x.1 = X := ⟨_, rfl⟩
      obtain ⟨Y, hY⟩ : ∃ Y, bsA x.2.1 = Y := ⟨_, rfl⟩
      obtain ⟨Z, hZ⟩ : ∃ Z, bsA x.2.2 = Z := ⟨_, rfl⟩
      have sX : X.size = x.1.length := by rw [← hX, sizeOf, bytesOf]
      have sY : Y.size = x.2.1.length := by rw [← hY, sizeOf, bytesOf]
      have sZ : Z.size = x.2.2.length := by rw [← hZ, sizeOf, bytesOf]
      rw [hX] at c0
      rw [hY] at c1
      rw [hZ] at c2
      have HK : Hid (X.size ≤ 300 → Y.size ≤ 300 → Z.size ≤ 300 → ∀ (j : Nat) y, j < k + 1 → l[j]? = some y → y.1.length ≤ 300 ∧ y.2.1.length ≤ 300 ∧ y.2.2.length ≤ 300) := Lib.hid (fun g1 g2 g3 j y hj hy => by
        by_cases e : j = k
        · subst e; rw [hx] at hy; cases hy; omega
        · exact H.out j y (by omega) hy)
      have HNO : Hid (¬ (X.size ≤ 300 ∧ Y.size ≤ 300 ∧ Z.size ≤ 300) → FewPost l w (.returned (.bool false)) w) := Lib.hid (fun g => HF.out (fun q => g (by have := q.2 x (List.mem_of_getElem? hx); omega)))
      have zX : X.size ≤ 9223372036854775807 := by omega
      have zY : Y.size ≤ 9223372036854775807 := by omega
      have zZ : Z.size ≤ 9223372036854775807 := by omega
      clear hX hY hZ sX sY sZ hz hx H
      by_cases g1 : 300 < X.size
      · have HN2 := Lib.hid (HNO.out (by omega))
        clear HNO HK
        go_wp2
        go_ret
        exact HN2.out
      by_cases g2 : 300 < Y.size
      · have HN2 := Lib.hid (HNO.out (by omega))
        clear HNO HK
        go_wp2
        go_ret
        exact HN2.out
      by_cases g3 : 300 < Z.size
      · have HN2 := Lib.hid (HNO.out (by omega))
        clear HNO HK
        go_wp2
        go_ret
        exact HN2.out
      have HK2 := Lib.hid (HK.out (by omega) (by omega) (by omega))
      clear HK HNO
      go_wp2
      go_round
      case rel => exact ⟨k + 1, by omega, by go_num, HK2⟩
      case measure => simp [intOf]; omega
    · obtain rfl : k = n := by omega
      have HR := Lib.hid (HT.out ⟨by rw [HN.out]; omega, fun y hy => by
        obtain ⟨j, hj⟩ := List.mem_iff_getElem?.1 hy
        exact H.out j y (by have := (List.getElem?_eq_some_iff.1 hj).1; rw [HN.out] at this; exact this) hj⟩)
      clear hlt H HT
      go_wp2
      go_ret
      exact HR.out
abbrev exD : List Dv := [([47, 97], [47, 98], [120])]
theorem exD_right : rightD ([47, 97], [47, 98], [120]) = true := by decide +kernel
theorem exD_check : checkD exD = 0 := by
  refine checkD_ok (by decide) (fun i x hx => ?_)
  obtain ⟨rfl, rfl⟩ : i = 0 ∧ x = ([47, 97], [47, 98], [120]) := by
    match i, hx with
    | 0, hx => exact ⟨rfl, by simpa using hx.symm⟩
    | i + 1, hx => simp at hx
  refine ⟨⟨exD_right, fun y h => absurd h (by omega)⟩, fun k y hy => ?_⟩
  match k, hy with
  | 0, hy =>
    obtain rfl : y = ([47, 97], [47, 98], [120]) := by simpa using hy.symm
    exact ⟨by decide, fun g => absurd rfl g⟩
  | k + 1, hy => simp at hy
theorem exD_print : printD exD = ([47, 97, 10, 47, 98, 10, 120, 10], 0) := printD_ok exD_check
theorem exD_parse : parseD [47, 97, 10, 47, 98, 10, 120, 10] = some exD := parse_textD exD_check
theorem exD_small : SmallD exD := fun x hx => by simp at hx; subst hx; decide
theorem exD_hold (w : World) : HoldD (w.alloc (.cells #[.string ⟨#[47, 97]⟩, .string ⟨#[47, 98]⟩, .string ⟨#[120]⟩] 54)) (.slice (some ⟨w.heap.size, 0, none⟩) 1 1) exD := by
  obtain ⟨x0, x1, x2⟩ := box3 w ⟨#[47, 97]⟩ ⟨#[47, 98]⟩ ⟨#[120]⟩ 54
  refine ⟨_, 1, w.heap.size, 0, rfl, by simp, fun _ => ⟨rfl, by simp⟩, fun j r hj i y hi hy => ?_⟩
  match j, hj with
  | 0, hj =>
    simp only [List.map_cons, List.map_nil, List.getElem?_cons_zero, Option.some.injEq] at hj
    subst hj
    match i, hi with
    | 0, _ => simp [rowD] at hy; subst hy; exact x0
    | 1, _ => simp [rowD] at hy; subst hy; exact x1
    | 2, _ => simp [rowD] at hy; subst hy; exact x2
  | j + 1, hj => simp at hj
theorem exD_cells {W : World} {b : Nat} (h : HoldD W (.slice (some ⟨b, 0, none⟩) 1 1) exD) : W.cell? ⟨b, 0, none⟩ = some (.string ⟨#[47, 97]⟩) ∧ W.cell? ⟨b, 1, none⟩ = some (.string ⟨#[47, 98]⟩) ∧ W.cell? ⟨b, 2, none⟩ = some (.string ⟨#[120]⟩) := by
  obtain ⟨a, c, b5, o5, e5, -, ha5, hcell5⟩ := HoldD.parts h
  simp only [Value.slice.injEq] at e5
  obtain ⟨rfl, -, -⟩ := e5
  have := (ha5 (by decide)).1
  simp only [Option.some.injEq, Addr.mk.injEq, and_true] at this
  obtain ⟨rfl, rfl⟩ := this
  have := hcell5 0 _ rfl
  simpa using this
set_option maxRecDepth 100000 in
set_option maxHeartbeats 8000000 in
theorem awake9 (w : World) (hL : LaidP w) : Calls Tryd.prog 32 #[] w fun e w' => e = .returned (.bool true) ∧ Below w.heap.size w w' := by
  have B0 := (Below.refl w.heap.size w).alloc (Nat.le_refl _) (.cells #[.string ⟨#[47, 97]⟩, .string ⟨#[47, 98]⟩, .string ⟨#[120]⟩] 54)
  have HB0 := Lib.hid B0
  have HH := Lib.hid (exD_hold w)
  have HL := Lib.hid hL
  have PR := fun W (hb : Below w.heap.size w W) (h : HoldD W (.slice (some ⟨w.heap.size, 0, none⟩) 1 1) exD) => print9_any _ exD (by decide) exD_small W (hL.on hb) h
  have PA := fun W (hb : Below w.heap.size w W) => parse9_any ⟨#[47, 97, 10, 47, 98, 10, 120, 10]⟩ (by decide) (by decide +kernel) W (hL.on hb)
  unfold PrPost at PR
  rw [exD_print] at PR
  have HPA : Hid (∀ v z (w' : World), (∀ l, parseD [47, 97, 10, 47, 98, 10, 120, 10] = some l → z = (0 : Int) ∧ HoldD w' v l) → z = 0 ∧ HoldD w' v exD) := Lib.hid (fun v z w' h => h _ exD_parse)
  have SA := fun u v W (h1 : HoldD W u exD) (h2 : HoldD W v exD) => same_ref9 u v exD (by decide) W h1 h2
  have T1 := fun W (h : HoldD W (.slice (some ⟨w.heap.size, 0, none⟩) 1 1) exD) => true_any _ exD (by decide) ⟨#[47, 97]⟩ ⟨#[]⟩ W h
  have T2 := fun W (h : HoldD W (.slice (some ⟨w.heap.size, 0, none⟩) 1 1) exD) => true_any _ exD (by decide) ⟨#[47, 97]⟩ ⟨#[120]⟩ W h
  have RI := fun W (hb : Below w.heap.size w W) => right9_any ⟨#[47, 97]⟩ ⟨#[47, 98]⟩ ⟨#[120]⟩ (by decide) (by decide) (by decide) W (hL.on hb)
  unfold ToPost at T1 T2
  rw [show toD exD (ByteArray.mk #[47, 97]).data.toList (ByteArray.mk #[]).data.toList = [47, 98] from by decide +kernel] at T1
  rw [show toD exD (ByteArray.mk #[47, 97]).data.toList (ByteArray.mk #[120]).data.toList = [47, 97] from by decide +kernel] at T2
  rw [show rightD ((ByteArray.mk #[47, 97]).data.toList, (ByteArray.mk #[47, 98]).data.toList, (ByteArray.mk #[120]).data.toList) = true from exD_right] at RI
  unfold aggD at RI
  clear B0 hL
  go_enter Tryd.func32, Tryd.ntmps32
  go_wp2_with (first
    | (go_at_call 65; (with_reducible refine (PR _ HB0.out HH.out).mono ?_); rintro e w1 ⟨rfl, hb⟩; have HB1 := Lib.hid (HB0.out.trans (hb.mono HB0.out.size)); have HH1 := Lib.hid (HoldR.on HH.out hb); clear hb PR)
    | (go_at_call 66; (with_reducible refine (PA _ HB1.out).mono ?_); rintro e w2 ⟨v2, z2, rfl, hp, -, hb⟩; obtain ⟨rfl, hv2⟩ := HPA.out _ _ _ hp; have HV2 := Lib.hid hv2; have HB2 := Lib.hid (HB1.out.trans (hb.mono HB1.out.size)); have HH2 := Lib.hid (HoldR.on HH1.out hb); clear hb hp hv2 PA)
    | (go_at_call 35; (with_reducible refine (SA _ _ _ HH2.out HV2.out).mono ?_); rintro e w3 ⟨rfl, q, rfl⟩; have HB3 := Lib.hid (belowQ HB2.out q); have HH3 := Lib.hid (HoldR.on HH2.out (belowQ (Below.refl _ _) q)); clear SA)
    | (go_at_call 67; first | ((with_reducible refine (T1 _ HH3.out).mono ?_); rintro e w4 ⟨rfl, hb⟩; have HB4 := Lib.hid (HB3.out.trans (hb.mono HB3.out.size)); have HH4 := Lib.hid (HoldR.on HH3.out hb); clear hb T1) | ((with_reducible refine (T2 _ HH4.out).mono ?_); rintro e w5 ⟨rfl, hb⟩; have HB5 := Lib.hid (HB4.out.trans (hb.mono HB4.out.size)); have HH5 := Lib.hid (HoldR.on HH4.out hb); obtain ⟨d0, d1, d2⟩ := exD_cells HH5.out; clear hb T2))
    | (go_at_call 40; (with_reducible refine (RI _ HB5.out).mono ?_); rintro e w6 ⟨rfl, hb⟩; have HB6 := Lib.hid (HB5.out.trans (hb.mono HB5.out.size)); clear hb RI))
  go_ret
  exact ⟨rfl, HB6.out⟩
end Go.Proofs.YtogkickaebmeoaaDoor
