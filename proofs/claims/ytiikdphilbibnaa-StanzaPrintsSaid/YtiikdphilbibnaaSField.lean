/-
  The reference's Field: what it returns; nothing old turns.
-/
import Derived.Test.YtiikdphilbibnaaSWords
import Derived.Test.YtiikdphilbibnaaVRefL
namespace Go.Proofs.Ytiikdphilbibnaa
open Go.RowKit
def lineAt (k : Nat) (p : Bs) : Bool := !(decide (k = 0) && decide (p.head? = some 32)) && endB p && !(decide (0 < k) && decide (p = []))
theorem linesB_at : ∀ (ls : List Bs), ls ≠ [] → (linesB ls = true ↔ ∀ (j : Nat) (h : j < ls.length), lineAt j ls[j] = true)
  | [], h => absurd rfl h
  | p :: ps, _ => by
    simp only [linesB, Bool.and_eq_true, Bool.not_eq_true', decide_eq_false_iff_not, List.all_eq_true, decide_eq_true_eq]
    constructor
    · rintro ⟨⟨h1, h2⟩, h3⟩ j hj
      cases j with
      | zero => simp [lineAt, h1, h2]
      | succ j =>
        have hj' : j < ps.length := by simpa using hj
        have := h3 ps[j] (List.getElem_mem hj')
        simp [lineAt, this.1]
        exact this.2
    · intro h
      have h0 := h 0 (by simp)
      simp [lineAt] at h0
      refine ⟨⟨h0.1, h0.2⟩, fun q hq => ?_⟩
      obtain ⟨j, hj, rfl⟩ := List.mem_iff_getElem.1 hq
      have := h (j + 1) (by simp; omega)
      simp [lineAt] at this
      exact ⟨this.1, this.2⟩
theorem linesB_no {ls : List Bs} (hne : ls ≠ []) {j : Nat} (h : j < ls.length) (g : lineAt j ls[j] = false) : linesB ls = false := by
  cases e : linesB ls
  · rfl
  · have := (linesB_at ls hne).1 e j h
    rw [g] at this; cases this
theorem lastB (x : ByteArray) (h2 : x.size - 1 < x.size) : x.data.toList.getLast? = some x[x.size - 1] := by
  have e := sizeOf x
  rw [List.getLast?_eq_getElem?, ← e, List.getElem?_eq_getElem (by rw [← e]; omega)]
  rfl
theorem headB0 (x : ByteArray) (h : 0 < x.size) : x.data.toList.head? = some x[0] := by
  have := dropC x 0 h
  rw [List.drop_zero] at this
  rw [this]; rfl
theorem field_is (n t : Bs) : fieldB (n, t) = (decide (1 ≤ n.length) && decide (n.length ≤ 60) && decide (t.length ≤ 65536) && headUp n && n.all nmB && t.all txB && linesB (spl 10 t)) := rfl
theorem not32 {x : UInt8} (h : ¬ x = 32) : ((x.toNat : Int) == 32) = false := by rw [beq_eq_false_iff_ne]; intro g; exact h (UInt8.toNat_inj.1 (by show x.toNat = 32; omega))
theorem yes32 {x : UInt8} (h : x = 32) : ((x.toNat : Int) == 32) = true := by rw [h]; rfl
set_option maxRecDepth 100000 in
set_option maxHeartbeats 16000000 in
theorem field_ref (n t : ByteArray) (hn : n.size ≤ 100000) (ht : t.size ≤ 100000) (w : World) :
    Calls Try.prog 8 #[.string n, .string t] w fun e w' => e = .returned (.bool (fieldB (n.data.toList, t.data.toList))) ∧ Below w.heap.size w w' := by
  obtain ⟨R, HR⟩ : ∃ R, Hid (fieldB (n.data.toList, t.data.toList) = R) := ⟨_, rfl⟩
  rw [HR.out]
  have HF := Lib.hid (field_is n.data.toList t.data.toList)
  have hln := sizeOf n
  have hlt := sizeOf t
  have bad : ∀ b : Bool, (b = false → (decide (1 ≤ n.data.toList.length) && decide (n.data.toList.length ≤ 60) && decide (t.data.toList.length ≤ 65536) && headUp n.data.toList && n.data.toList.all nmB && t.data.toList.all txB && linesB (spl 10 t.data.toList)) = false) → b = false → Hid (false = R) := fun b h hb => Lib.hid (by rw [← HR.out, HF.out, h hb])
  have B1 := Lib.hid (bad (decide (1 ≤ n.data.toList.length)) (fun h => by rw [h]; simp only [Bool.false_and]))
  have B2 := Lib.hid (bad (decide (n.data.toList.length ≤ 60)) (fun h => by rw [h]; simp only [Bool.false_and, Bool.and_false]))
  have B3 := Lib.hid (bad (decide (t.data.toList.length ≤ 65536)) (fun h => by rw [h]; simp only [Bool.false_and, Bool.and_false]))
  have B4 := Lib.hid (bad (headUp n.data.toList) (fun h => by rw [h]; simp only [Bool.false_and, Bool.and_false]))
  have B5 := Lib.hid (bad (n.data.toList.all nmB) (fun h => by rw [h]; simp only [Bool.false_and, Bool.and_false]))
  have B6 := Lib.hid (bad (t.data.toList.all txB) (fun h => by rw [h]; simp only [Bool.false_and, Bool.and_false]))
  have B7 := Lib.hid (bad (linesB (spl 10 t.data.toList)) (fun h => by rw [h]; simp only [Bool.and_false]))
  clear bad
  by_cases h1 : n.size < 1
  · have G := B1.out (decide_eq_false (by omega))
    clear HF B1 B2 B3 B4 B5 B6 B7 HR hln hlt
    go_enter Try.func8, Try.ntmps8
    go_wp2
    go_ret
    exact ⟨retb G.out, Below.refl _ _⟩
  by_cases h2 : 60 < n.size
  · have G := B2.out (decide_eq_false (by omega))
    clear HF B1 B2 B3 B4 B5 B6 B7 HR hln hlt
    go_enter Try.func8, Try.ntmps8
    go_wp2
    go_ret
    exact ⟨retb G.out, Below.refl _ _⟩
  by_cases h3 : 65536 < t.size
  · have G := B3.out (decide_eq_false (by omega))
    clear HF B1 B2 B3 B4 B5 B6 B7 HR hln hlt
    go_enter Try.func8, Try.ntmps8
    go_wp2
    go_ret
    exact ⟨retb G.out, Below.refl _ _⟩
  have hn0 : 0 < n.size := by omega
  have hhd : headUp n.data.toList = upB (n[0]'hn0) := by
    have := dropC n 0 hn0
    rw [List.drop_zero] at this
    rw [this]; rfl
  have hx := (n[0]'hn0).toNat_lt
  by_cases h4 : (n[0]'hn0).toNat < 65
  · have G := B4.out (by rw [hhd]; unfold upB; rw [decide_eq_false (by omega)]; rfl)
    clear HF B1 B2 B3 B4 B5 B6 B7 HR hln hlt hhd
    go_enter Try.func8, Try.ntmps8
    go_wp2
    go_ret
    exact ⟨retb G.out, Below.refl _ _⟩
  by_cases h5 : 90 < (n[0]'hn0).toNat
  · have G := B4.out (by rw [hhd]; unfold upB; rw [decide_eq_false (p := (n[0]'hn0).toNat ≤ 90) (by omega)]; simp)
    clear HF B1 B2 B3 B4 B5 B6 B7 HR hln hlt hhd
    go_enter Try.func8, Try.ntmps8
    go_wp2
    go_ret
    exact ⟨retb G.out, Below.refl _ _⟩
  have HG : Hid (n.data.toList.all nmB = true → t.data.toList.all txB = true → linesB (spl 10 t.data.toList) = true → true = R) := Lib.hid (fun g1 g2 g3 => by
    rw [← HR.out, HF.out, g1, g2, g3, hhd]
    have : upB (n[0]'hn0) = true := by unfold upB; rw [decide_eq_true (by omega), decide_eq_true (by omega)]; rfl
    rw [this, decide_eq_true (by omega), decide_eq_true (by omega), decide_eq_true (by omega)]; rfl)
  have C1 := fun c w => letter_ref c w
  have C2 := fun c w => digit_ref c w
  have C3 := fun w => split_ref6 t (by omega) 10 w
  clear HF B1 B2 B3 B4 HR hln hlt hhd
  go_enter Try.func8, Try.ntmps8
  go_wp2
  go_loop [5] (fun i => ∃ k : Nat, k ≤ n.size ∧ i = .int .i64 k ∧ Hid ((n.data.toList.take k).all nmB = true)) (fun i => n.size - (intOf i).toNat)
  case atStart => exact ⟨0, by omega, rfl, Lib.hid (by simp)⟩
  case round =>
    obtain ⟨k, hk, rfl, H⟩ := hrel
    by_cases hlt : k < n.size
    · have D1 := C1 n[k]
      have D2 := C2 n[k]
      have hxk := n[k].toNat_lt
      cases hd1 : ltB n[k]
      · cases hd2 : dgB n[k]
        · by_cases he : n[k].toNat = 45
          · have HN : Hid ((n.data.toList.take (k + 1)).all nmB = true) := Lib.hid (allNx hlt H.out (by unfold nmB; rw [decide_eq_true he]; simp))
            have e1 : ((n[k].toNat : Int) != 45) = false := by rw [he]; rfl
            rw [hd1] at D1
            rw [hd2] at D2
            clear hd1 hd2 he C3 HG B5 B6 B7 C1 C2
            go_wp2_with (first | (go_at_call 17; refine (D1 _).mono ?_; rintro e w1 ⟨rfl, rfl⟩) | (go_at_call 18; refine (D2 _).mono ?_; rintro e w1 ⟨rfl, rfl⟩))
            go_round
            case rel => exact ⟨k + 1, by omega, by go_num, HN⟩
            case measure => simp [intOf]; omega
          · have G := B5.out (allSt hlt (by unfold nmB; rw [hd1, hd2, decide_eq_false he]; rfl))
            have e1 : ((n[k].toNat : Int) != 45) = true := by rw [bne_iff_ne]; omega
            rw [hd1] at D1
            rw [hd2] at D2
            clear hd1 hd2 he C3 HG B5 B6 B7 C1 C2
            go_wp2_with (first | (go_at_call 17; refine (D1 _).mono ?_; rintro e w1 ⟨rfl, rfl⟩) | (go_at_call 18; refine (D2 _).mono ?_; rintro e w1 ⟨rfl, rfl⟩))
            go_ret
            exact ⟨retb G.out, Below.refl _ _⟩
        · have HN : Hid ((n.data.toList.take (k + 1)).all nmB = true) := Lib.hid (allNx hlt H.out (by unfold nmB; rw [hd2]; simp))
          rw [hd1] at D1
          rw [hd2] at D2
          clear hd1 hd2 C3 HG B5 B6 B7 C1 C2
          go_wp2_with (first | (go_at_call 17; refine (D1 _).mono ?_; rintro e w1 ⟨rfl, rfl⟩) | (go_at_call 18; refine (D2 _).mono ?_; rintro e w1 ⟨rfl, rfl⟩))
          go_round
          case rel => exact ⟨k + 1, by omega, by go_num, HN⟩
          case measure => simp [intOf]; omega
      · have HN : Hid ((n.data.toList.take (k + 1)).all nmB = true) := Lib.hid (allNx hlt H.out (by unfold nmB; rw [hd1]; simp))
        rw [hd1] at D1
        clear hd1 D2 C3 HG B5 B6 B7 C1 C2
        go_wp2_with (first | (go_at_call 17; refine (D1 _).mono ?_; rintro e w1 ⟨rfl, rfl⟩))
        go_round
        case rel => exact ⟨k + 1, by omega, by go_num, HN⟩
        case measure => simp [intOf]; omega
    · obtain rfl : k = n.size := by omega
      have HA := Lib.hid (allDn H.out)
      clear hlt C1 C2 H B5
      go_wp2
      go_loop [6] (fun i => ∃ k : Nat, k ≤ t.size ∧ i = .int .i64 k ∧ Hid ((t.data.toList.take k).all txB = true)) (fun i => t.size - (intOf i).toNat)
      case atStart => exact ⟨0, by omega, rfl, Lib.hid (by simp)⟩
      case round =>
        obtain ⟨k, hk, rfl, H⟩ := hrel
        by_cases hlt : k < t.size
        · have hxk := t[k].toNat_lt
          by_cases he : t[k].toNat = 10
          · have HN : Hid ((t.data.toList.take (k + 1)).all txB = true) := Lib.hid (allNx hlt H.out (by unfold txB; rw [decide_eq_true he]; rfl))
            have e1 : ((t[k].toNat : Int) != 10) = false := by rw [he]; rfl
            clear he C3 HG B6 B7
            go_wp2
            go_round
            case rel => exact ⟨k + 1, by omega, by go_num, HN⟩
            case measure => simp [intOf]; omega
          · have e1 : ((t[k].toNat : Int) != 10) = true := by rw [bne_iff_ne]; omega
            by_cases h32 : t[k].toNat < 32
            · have G := B6.out (allSt hlt (by unfold txB; rw [decide_eq_false he, decide_eq_false (p := 32 ≤ t[k].toNat) (by omega)]; rfl))
              clear he C3 HG B6 B7
              go_wp2
              go_ret
              exact ⟨retb G.out, Below.refl _ _⟩
            · by_cases h126 : 126 < t[k].toNat
              · have G := B6.out (allSt hlt (by unfold txB; rw [decide_eq_false he, decide_eq_false (p := t[k].toNat ≤ 126) (by omega)]; simp))
                clear he C3 HG B6 B7
                go_wp2
                go_ret
                exact ⟨retb G.out, Below.refl _ _⟩
              · have HN : Hid ((t.data.toList.take (k + 1)).all txB = true) := Lib.hid (allNx hlt H.out (by unfold txB; rw [decide_eq_true (p := 32 ≤ t[k].toNat) (by omega), decide_eq_true (p := t[k].toNat ≤ 126) (by omega)]; simp))
                clear he C3 HG B6 B7
                go_wp2
                go_round
                case rel => exact ⟨k + 1, by omega, by go_num, HN⟩
                case measure => simp [intOf]; omega
        · obtain rfl : k = t.size := by omega
          have HT := Lib.hid (HG.out HA.out (allDn H.out))
          clear hlt H HG HA B6
          have hne := spl_ne 10 t.data.toList
          have hlen := spl_len 10 t.data.toList
          rw [← sizeOf] at hlen
          have hsz : ∀ (x : ByteArray), x.data.toList ∈ spl 10 t.data.toList → x.size ≤ 100000 := fun x hx => by have := spl_piece 10 _ _ hx; rw [← sizeOf, ← sizeOf] at this; omega
          have HSZ := Lib.hid hsz
          have HNE := Lib.hid hne
          clear hsz hne
          generalize spl 10 t.data.toList = ls at *
          go_wp2_with (first | (go_at_call 19; refine (C3 _).mono ?_; rintro e w1 ⟨v1, rfl, ho, hb⟩; obtain ⟨a, c, b, o, rfl, hc, ha, hcell⟩ := ho.holds; have HB1 := Lib.hid hb; have HL := Lib.hid hcell; clear ho hb hcell C3; refine Hid.out ?_))
          refine Lib.hid ?_
          generalize hN : ls.length = m at *
          go_wp2
          go_loop [8] (fun i => ∃ k : Nat, k ≤ m ∧ i = .int .i64 k ∧ Hid (∀ (j : Nat) (h : j < ls.length), j < k → lineAt j ls[j] = true)) (fun i => m - (intOf i).toNat)
          case atStart => exact ⟨0, by omega, rfl, Lib.hid (fun j h g => by omega)⟩
          case round =>
            obtain ⟨k, hk, rfl, H⟩ := hrel
            by_cases hlt : k < m
            · obtain ⟨rfl, hbw⟩ := ha (by omega)
              obtain ⟨x, hx, hcx⟩ : ∃ x : ByteArray, x.data.toList = ls[k] ∧ w1.cell? ⟨b, o + k, none⟩ = some (.string x) := ⟨⟨(ls[k]).toArray⟩, by simp, HL.out k _ (List.getElem?_eq_getElem (by omega))⟩
              have hxs : x.size ≤ 100000 := HSZ.out x (by rw [hx]; exact List.getElem_mem _)
              have hxe := sizeOf x
              have good : lineAt k ls[k] = true → Hid (∀ (j : Nat) (h : j < ls.length), j < k + 1 → lineAt j ls[j] = true) := fun g => Lib.hid (fun j h hj => by
                by_cases e : j = k
                · subst e; exact g
                · exact H.out j h (by omega))
              have bad : lineAt k ls[k] = false → Hid (false = R) := fun g => B7.out (linesB_no HNE.out (by omega) g)
              rw [← hx] at good bad
              clear hx H
              by_cases h0 : x.size = 0
              · have hnil : x.data.toList = [] := List.eq_nil_of_length_eq_zero (by rw [← hxe]; exact h0)
                rw [hnil] at good bad
                have e3 : ((x.size : Int) == 0) = true := by simp [h0]
                by_cases hk0 : k = 0
                · subst hk0
                  simp only [Nat.add_zero] at hcx
                  have HN := good (by decide)
                  clear good bad hnil hxe
                  go_wp2
                  go_round
                  case rel => exact ⟨1, by omega, rfl, HN⟩
                  case measure => simp [intOf]; omega
                · have G := bad (by unfold lineAt; simp; exact fun _ => by omega)
                  have e4 : ((k : Int) == 0) = false := by rw [beq_eq_false_iff_ne]; omega
                  have e5 : 0 < k := by omega
                  clear good bad hnil hxe
                  go_wp2
                  go_ret
                  exact ⟨retb G.out, HB1.out⟩
              · have e0 : 0 < x.size := by omega
                have e1 : x.size - 1 < x.size := by omega
                have hl := lastB x e1
                have hh := headB0 x e0
                have hnn : x.data.toList ≠ [] := fun e => h0 (by rw [hxe, e]; rfl)
                have e3 : ((x.size : Int) == 0) = false := by rw [beq_eq_false_iff_ne]; omega
                have hb0 := (x[0]'e0).toNat_lt
                have hb1 := (x[x.size - 1]'e1).toNat_lt
                by_cases hk0 : k = 0
                · subst hk0
                  simp only [Nat.add_zero] at hcx
                  by_cases g0 : (x[0]'e0) = 32
                  · have G := bad (by unfold lineAt; rw [hh, g0]; simp)
                    have e6 := yes32 g0
                    clear good bad hl hh hnn hxe g0
                    go_wp2
                    go_ret
                    exact ⟨retb G.out, HB1.out⟩
                  · have e6 := not32 g0
                    by_cases g1 : (x[x.size - 1]'e1) = 32
                    · have G := bad (by unfold lineAt endB; rw [hl, g1]; simp)
                      have e7 := yes32 g1
                      clear good bad hl hh hnn hxe g0 g1
                      go_wp2
                      go_ret
                      exact ⟨retb G.out, HB1.out⟩
                    · have HN := good (by unfold lineAt endB; rw [hl, hh]; simp [g0, g1])
                      have e7 := not32 g1
                      clear good bad hl hh hnn hxe g0 g1
                      go_wp2
                      go_round
                      case rel => exact ⟨1, by omega, rfl, HN⟩
                      case measure => simp [intOf]; omega
                · have e4 : ((k : Int) == 0) = false := by rw [beq_eq_false_iff_ne]; omega
                  have e5 : 0 < k := by omega
                  by_cases g1 : (x[x.size - 1]'e1) = 32
                  · have G := bad (by unfold lineAt endB; rw [hl, g1]; simp)
                    have e7 := yes32 g1
                    clear good bad hl hh hnn hxe g1
                    go_wp2
                    go_ret
                    exact ⟨retb G.out, HB1.out⟩
                  · have HN := good (by unfold lineAt endB; rw [hl]; simp [g1, hk0, hnn])
                    have e7 := not32 g1
                    clear good bad hl hh hnn hxe g1
                    go_wp2
                    go_round
                    case rel => exact ⟨k + 1, by omega, by go_num, HN⟩
                    case measure => simp [intOf]; omega
            · obtain rfl : k = m := by omega
              have HR' : Hid (true = R) := Lib.hid (HT.out ((linesB_at ls HNE.out).2 (fun j h => H.out j h (by omega))))
              clear hlt
              go_wp2
              go_ret
              exact ⟨retb HR'.out, HB1.out⟩
end Go.Proofs.Ytiikdphilbibnaa
