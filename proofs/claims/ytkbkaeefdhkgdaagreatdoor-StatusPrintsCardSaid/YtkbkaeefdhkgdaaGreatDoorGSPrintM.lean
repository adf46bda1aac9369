import Derived.Test.YtkbkaeefdhkgdaaGreatDoorGSWords
import Derived.Test.YtkbkaeefdhkgdaaGreatDoorGVPA
set_option maxRecDepth 100000
set_option maxHeartbeats 32000000
namespace Go.Proofs.YtkbkaeefdhkgdaaGreatDoor
section
open Go.RowKit
def lineAt (k : Nat) (p : Bs) : Bool := !(decide (k = 0) && decide (p.head? = some 32)) && endB p && !(decide (0 < k) && decide (p = []))
theorem linesB_at : ∀ (ls : List Bs), ls ≠ [] → (linesB ls = true ↔ ∀ (j : Nat) (h : j < ls.length), lineAt j ls[j] = true)
 | [], h => absurd rfl h
 | p :: ps, _ => by
  simp only [linesB, Bool.and_eq_true, Bool.not_eq_true', decide_eq_false_iff_not, List.all_eq_true, decide_eq_true_eq]
  constructor
  ·
   rintro ⟨⟨h1, h2⟩, h3⟩ j hj
   cases j with
   | zero => simp [lineAt, h1, h2]
   | succ j =>
    have hj' : j < ps.length := by simpa using hj
    have := h3 ps[j] (List.getElem_mem hj')
    simp [lineAt, this.1]
    exact this.2
  ·
   intro h
   have h0 := h 0 (by simp)
   simp [lineAt] at h0
   refine ⟨⟨h0.1, h0.2⟩, fun q hq => ?_⟩
   obtain ⟨j, hj, rfl⟩ := List.mem_iff_getElem.1 hq
   have := h (j + 1) (by simp; omega)
   simp [lineAt] at this
   exact ⟨this.1, this.2⟩
theorem linesB_no {ls : List Bs} (hne : ls ≠ []) {j : Nat} (h : j < ls.length) (g : lineAt j ls[j] = false) : linesB ls = false := by
 cases e : linesB ls
 ·
  rfl
 ·
  have := (linesB_at ls hne).1 e j h
  rw [g] at this; cases this
theorem lastB (x : ByteArray) (h2 : x.size - 1 < x.size) : x.data.toList.getLast? = some x[x.size - 1] := by
 have e := sizeOf x
 rw [List.getLast?_eq_getElem?, ← e, List.getElem?_eq_getElem (by rw [← e]; omega)]
 rfl
theorem headB0 (x : ByteArray) (h : 0 < x.size) : x.data.toList.head? = some x[0] := by
 have := dropC x 0 h
 rw [List.drop_zero] at this
 rw [this]; rfl
theorem field_is (n t : Bs) : fieldB (n, t) = (decide (1 ≤ n.length) && decide (n.length ≤ 60) && decide (t.length ≤ 65536) && headUp n && n.all nmB && t.all txB && linesB (spl 10 t)) := rfl
theorem not32 {x : UInt8} (h : ¬ x = 32) : ((x.toNat : Int) == 32) = false := by rw [beq_eq_false_iff_ne]; intro g; exact h (UInt8.toNat_inj.1 (by show x.toNat = 32; omega))
theorem yes32 {x : UInt8} (h : x = 32) : ((x.toNat : Int) == 32) = true := by rw [h]; rfl
theorem field_ref (n t : ByteArray) (hn : n.size ≤ 100000) (ht : t.size ≤ 100000) (w : World) :
  Calls Tryz.prog 51 #[.string n, .string t] w fun e w' => e = .returned (.bool (fieldB (n.data.toList, t.data.toList))) ∧ Below w.heap.size w w' := by
 obtain ⟨R, HR⟩ : ∃ R, Hid (fieldB (n.data.toList, t.data.toList) = R) := ⟨_, rfl⟩
 rw [HR.out]
 have HF := Lib.hid (field_is n.data.toList t.data.toList)
 have hln := sizeOf n
 have hlt := sizeOf t
 have bad : ∀ b : Bool, (b = false → (decide (1 ≤ n.data.toList.length) && decide (n.data.toList.length ≤ 60) && decide (t.data.toList.length ≤ 65536) && headUp n.data.toList && n.data.toList.all nmB && t.data.toList.all txB && linesB (spl 10 t.data.toList)) = false) → b = false → Hid (false = R) := fun b h hb => Lib.hid (by rw [← HR.out, HF.out, h hb])
 have B1 := Lib.hid (bad (decide (1 ≤ n.data.toList.length)) (fun h => by rw [h]; simp only [Bool.false_and]))
 have B2 := Lib.hid (bad (decide (n.data.toList.length ≤ 60)) (fun h => by rw [h]; simp only [Bool.false_and, Bool.and_false]))
 have B3 := Lib.hid (bad (decide (t.data.toList.length ≤ 65536)) (fun h => by rw [h]; simp only [Bool.false_and, Bool.and_false]))
 have B4 := Lib.hid (bad (headUp n.data.toList) (fun h => by rw [h]; simp only [Bool.false_and, Bool.and_false]))
 have B5 := Lib.hid (bad (n.data.toList.all nmB) (fun h => by rw [h]; simp only [Bool.false_and, Bool.and_false]))
 have B6 := Lib.hid (bad (t.data.toList.all txB) (fun h => by rw [h]; simp only [Bool.false_and, Bool.and_false]))
 have B7 := Lib.hid (bad (linesB (spl 10 t.data.toList)) (fun h => by rw [h]; simp only [Bool.and_false]))
 clear bad
 by_cases h1 : n.size < 1
 ·
  have G := B1.out (decide_eq_false (by omega))
  clear HF B1 B2 B3 B4 B5 B6 B7 HR hln hlt
  go_enter Tryz.func51, Tryz.ntmps51
  go_wp2
  go_ret
  exact ⟨retb G.out, Below.refl _ _⟩
 by_cases h2 : 60 < n.size
 ·
  have G := B2.out (decide_eq_false (by omega))
  clear HF B1 B2 B3 B4 B5 B6 B7 HR hln hlt
  go_enter Tryz.func51, Tryz.ntmps51
  go_wp2
  go_ret
  exact ⟨retb G.out, Below.refl _ _⟩
 by_cases h3 : 65536 < t.size
 ·
  have G := B3.out (decide_eq_false (by omega))
  clear HF B1 B2 B3 B4 B5 B6 B7 HR hln hlt
  go_enter Tryz.func51, Tryz.ntmps51
  go_wp2
  go_ret
  exact ⟨retb G.out, Below.refl _ _⟩
 have hn0 : 0 < n.size := by omega
 have hhd : headUp n.data.toList = upB (n[0]'hn0) := by
  have := dropC n 0 hn0
  rw [List.drop_zero] at this
  rw [this]; rfl
 have hx := (n[0]'hn0).toNat_lt
 by_cases h4 : (n[0]'hn0).toNat < 65
 ·
  have G := B4.out (by rw [hhd]; unfold upB; rw [decide_eq_false (by omega)]; rfl)
  clear HF B1 B2 B3 B4 B5 B6 B7 HR hln hlt hhd
  go_enter Tryz.func51, Tryz.ntmps51
  go_wp2
  go_ret
  exact ⟨retb G.out, Below.refl _ _⟩
 by_cases h5 : 90 < (n[0]'hn0).toNat
 ·
  have G := B4.out (by rw [hhd]; unfold upB; rw [decide_eq_false (p := (n[0]'hn0).toNat ≤ 90) (by omega)]; simp)
  clear HF B1 B2 B3 B4 B5 B6 B7 HR hln hlt hhd
  go_enter Tryz.func51, Tryz.ntmps51
  go_wp2
  go_ret
  exact ⟨retb G.out, Below.refl _ _⟩
 have HG : Hid (n.data.toList.all nmB = true → t.data.toList.all txB = true → linesB (spl 10 t.data.toList) = true → true = R) := Lib.hid (fun g1 g2 g3 => by
  rw [← HR.out, HF.out, g1, g2, g3, hhd]
  have : upB (n[0]'hn0) = true := by unfold upB; rw [decide_eq_true (by omega), decide_eq_true (by omega)]; rfl
  rw [this, decide_eq_true (by omega), decide_eq_true (by omega), decide_eq_true (by omega)]; rfl)
 have C1 := fun c w => letter_ref c w
 have C2 := fun c w => digit_ref c w
 have C3 := fun w => split_ref6 t (by omega) 10 w
 clear HF B1 B2 B3 B4 HR hln hlt hhd
 go_enter Tryz.func51, Tryz.ntmps51
 go_wp2
 go_loop [5] (fun i => ∃ k : Nat, k ≤ n.size ∧ i = .int .i64 k ∧ Hid ((n.data.toList.take k).all nmB = true)) (fun i => n.size - (intOf i).toNat)
 case atStart => exact ⟨0, by omega, rfl, Lib.hid (by simp)⟩
 case round =>
  obtain ⟨k, hk, rfl, H⟩ := hrel
  by_cases hlt : k < n.size
  ·
   have D1 := C1 n[k]
   have D2 := C2 n[k]
   have hxk := n[k].toNat_lt
   cases hd1 : ltB n[k]
   ·
    cases hd2 : dgB n[k]
    ·
     by_cases he : n[k].toNat = 45
     ·
      have HN : Hid ((n.data.toList.take (k + 1)).all nmB = true) := Lib.hid (allNx hlt H.out (by unfold nmB; rw [decide_eq_true he]; simp))
      have e1 : ((n[k].toNat : Int) != 45) = false := by rw [he]; rfl
      rw [hd1] at D1
      rw [hd2] at D2
      clear hd1 hd2 he C3 HG B5 B6 B7 C1 C2
      go_wp2_with (first | (go_at_call 97; refine (D1 _).mono ?_; rintro e w1 ⟨rfl, rfl⟩) | (go_at_call 98; refine (D2 _).mono ?_; rintro e w1 ⟨rfl, rfl⟩))
      go_round
      case rel => exact ⟨k + 1, by omega, by go_num, HN⟩
      case measure => simp [intOf]; omega
     ·
      have G := B5.out (allSt hlt (by unfold nmB; rw [hd1, hd2, decide_eq_false he]; rfl))
      have e1 : ((n[k].toNat : Int) != 45) = true := by rw [bne_iff_ne]; omega
      rw [hd1] at D1
      rw [hd2] at D2
      clear hd1 hd2 he C3 HG B5 B6 B7 C1 C2
      go_wp2_with (first | (go_at_call 97; refine (D1 _).mono ?_; rintro e w1 ⟨rfl, rfl⟩) | (go_at_call 98; refine (D2 _).mono ?_; rintro e w1 ⟨rfl, rfl⟩))
      go_ret
      exact ⟨retb G.out, Below.refl _ _⟩
    ·
     have HN : Hid ((n.data.toList.take (k + 1)).all nmB = true) := Lib.hid (allNx hlt H.out (by unfold nmB; rw [hd2]; simp))
     rw [hd1] at D1
     rw [hd2] at D2
     clear hd1 hd2 C3 HG B5 B6 B7 C1 C2
     go_wp2_with (first | (go_at_call 97; refine (D1 _).mono ?_; rintro e w1 ⟨rfl, rfl⟩) | (go_at_call 98; refine (D2 _).mono ?_; rintro e w1 ⟨rfl, rfl⟩))
     go_round
     case rel => exact ⟨k + 1, by omega, by go_num, HN⟩
     case measure => simp [intOf]; omega
   ·
    have HN : Hid ((n.data.toList.take (k + 1)).all nmB = true) := Lib.hid (allNx hlt H.out (by unfold nmB; rw [hd1]; simp))
    rw [hd1] at D1
    clear hd1 D2 C3 HG B5 B6 B7 C1 C2
    go_wp2_with (first | (go_at_call 97; refine (D1 _).mono ?_; rintro e w1 ⟨rfl, rfl⟩))
    go_round
    case rel => exact ⟨k + 1, by omega, by go_num, HN⟩
    case measure => simp [intOf]; omega
  ·
   obtain rfl : k = n.size := by omega
   have HA := Lib.hid (allDn H.out)
   clear hlt C1 C2 H B5
   go_wp2
   go_loop [6] (fun i => ∃ k : Nat, k ≤ t.size ∧ i = .int .i64 k ∧ Hid ((t.data.toList.take k).all txB = true)) (fun i => t.size - (intOf i).toNat)
   case atStart => exact ⟨0, by omega, rfl, Lib.hid (by simp)⟩
   case round =>
    obtain ⟨k, hk, rfl, H⟩ := hrel
    by_cases hlt : k < t.size
    ·
     have hxk := t[k].toNat_lt
     by_cases he : t[k].toNat = 10
     ·
      have HN : Hid ((t.data.toList.take (k + 1)).all txB = true) := Lib.hid (allNx hlt H.out (by unfold txB; rw [decide_eq_true he]; rfl))
      have e1 : ((t[k].toNat : Int) != 10) = false := by rw [he]; rfl
      clear he C3 HG B6 B7
      go_wp2
      go_round
      case rel => exact ⟨k + 1, by omega, by go_num, HN⟩
      case measure => simp [intOf]; omega
     ·
      have e1 : ((t[k].toNat : Int) != 10) = true := by rw [bne_iff_ne]; omega
      by_cases h32 : t[k].toNat < 32
      ·
       have G := B6.out (allSt hlt (by unfold txB; rw [decide_eq_false he, decide_eq_false (p := 32 ≤ t[k].toNat) (by omega)]; rfl))
       clear he C3 HG B6 B7
       go_wp2
       go_ret
       exact ⟨retb G.out, Below.refl _ _⟩
      ·
       by_cases h126 : 126 < t[k].toNat
       ·
        have G := B6.out (allSt hlt (by unfold txB; rw [decide_eq_false he, decide_eq_false (p := t[k].toNat ≤ 126) (by omega)]; simp))
        clear he C3 HG B6 B7
        go_wp2
        go_ret
        exact ⟨retb G.out, Below.refl _ _⟩
       ·
        have HN : Hid ((t.data.toList.take (k + 1)).all txB = true) := Lib.hid (allNx hlt H.out (by unfold txB; rw [decide_eq_true (p := 32 ≤ t[k].toNat) (by omega), decide_eq_true (p := t[k].toNat ≤ 126) (by omega)]; simp))
        clear he C3 HG B6 B7
        go_wp2
        go_round
        case rel => exact ⟨k + 1, by omega, by go_num, HN⟩
        case measure => simp [intOf]; omega
    ·
     obtain rfl : k = t.size := by omega
     have HT := Lib.hid (HG.out HA.out (allDn H.out))
     clear hlt H HG HA B6
     have hne := spl_ne 10 t.data.toList
     have hlen := spl_len 10 t.data.toList
     rw [← sizeOf] at hlen
     have hsz : ∀ (x : ByteArray), x.data.toList ∈ spl 10 t.data.toList → x.size ≤ 100000 := fun x hx => by have := spl_piece 10 _ _ hx; rw [← sizeOf, ← sizeOf] at this; omega
     have HSZ := Lib.hid hsz
     have HNE := Lib.hid hne
     clear hsz hne
     generalize spl 10 t.data.toList = ls at *
     go_wp2_with (first | (go_at_call 36; refine (C3 _).mono ?_; rintro e w1 ⟨v1, rfl, ho, hb⟩; obtain ⟨a, c, b, o, rfl, hc, ha, hcell⟩ := ho.holds; have HB1 := Lib.hid hb; have HL := Lib.hid hcell; clear ho hb hcell C3; refine Hid.out ?_))
     refine Lib.hid ?_
     generalize hN : ls.length = m at *
     go_wp2
     go_loop [8] (fun i => ∃ k : Nat, k ≤ m ∧ i = .int .i64 k ∧ Hid (∀ (j : Nat) (h : j < ls.length), j < k → lineAt j ls[j] = true)) (fun i => m - (intOf i).toNat)
     case atStart => exact ⟨0, by omega, rfl, Lib.hid (fun j h g => by omega)⟩
     case round =>
      obtain ⟨k, hk, rfl, H⟩ := hrel
      by_cases hlt : k < m
      ·
       obtain ⟨rfl, hbw⟩ := ha (by omega)
       obtain ⟨x, hx, hcx⟩ : ∃ x : ByteArray, x.data.toList = ls[k] ∧ w1.cell? ⟨b, o + k, none⟩ = some (.string x) := ⟨⟨(ls[k]).toArray⟩, by simp, HL.out k _ (List.getElem?_eq_getElem (by omega))⟩
       have hxs : x.size ≤ 100000 := HSZ.out x (by rw [hx]; exact List.getElem_mem _)
       have hxe := sizeOf x
       have good : lineAt k ls[k] = true → Hid (∀ (j : Nat) (h : j < ls.length), j < k + 1 → lineAt j ls[j] = true) := fun g => Lib.hid (fun j h hj => by
        by_cases e : j = k
        ·
         subst e; exact g
        ·
         exact H.out j h (by omega))
       have bad : lineAt k ls[k] = false → Hid (false = R) := fun g => B7.out (linesB_no HNE.out (by omega) g)
       rw [← hx] at good bad
       clear hx H
       by_cases h0 : x.size = 0
       ·
        have hnil : x.data.toList = [] := List.eq_nil_of_length_eq_zero (by rw [← hxe]; exact h0)
        rw [hnil] at good bad
        have e3 : ((x.size : Int) == 0) = true := by simp [h0]
        by_cases hk0 : k = 0
        ·
         subst hk0
         simp only [Nat.add_zero] at hcx
         have HN := good (by decide)
         clear good bad hnil hxe
         go_wp2
         go_round
         case rel => exact ⟨1, by omega, rfl, HN⟩
         case measure => simp [intOf]; omega
        ·
         have G := bad (by unfold lineAt; simp; exact fun _ => by omega)
         have e4 : ((k : Int) == 0) = false := by rw [beq_eq_false_iff_ne]; omega
         have e5 : 0 < k := by omega
         clear good bad hnil hxe
         go_wp2
         go_ret
         exact ⟨retb G.out, HB1.out⟩
       ·
        have e0 : 0 < x.size := by omega
        have e1 : x.size - 1 < x.size := by omega
        have hl := lastB x e1
        have hh := headB0 x e0
        have hnn : x.data.toList ≠ [] := fun e => h0 (by rw [hxe, e]; rfl)
        have e3 : ((x.size : Int) == 0) = false := by rw [beq_eq_false_iff_ne]; omega
        have hb0 := (x[0]'e0).toNat_lt
        have hb1 := (x[x.size - 1]'e1).toNat_lt
        by_cases hk0 : k = 0
        ·
         subst hk0
         simp only [Nat.add_zero] at hcx
         by_cases g0 : (x[0]'e0) = 32
         ·
          have G := bad (by unfold lineAt; rw [hh, g0]; simp)
          have e6 := yes32 g0
          clear good bad hl hh hnn hxe g0
          go_wp2
          go_ret
          exact ⟨retb G.out, HB1.out⟩
         ·
          have e6 := not32 g0
          by_cases g1 : (x[x.size - 1]'e1) = 32
          ·
           have G := bad (by unfold lineAt endB; rw [hl, g1]; simp)
           have e7 := yes32 g1
           clear good bad hl hh hnn hxe g0 g1
           go_wp2
           go_ret
           exact ⟨retb G.out, HB1.out⟩
          ·
           have HN := good (by unfold lineAt endB; rw [hl, hh]; simp [g0, g1])
           have e7 := not32 g1
           clear good bad hl hh hnn hxe g0 g1
           go_wp2
           go_round
           case rel => exact ⟨1, by omega, rfl, HN⟩
           case measure => simp [intOf]; omega
        ·
         have e4 : ((k : Int) == 0) = false := by rw [beq_eq_false_iff_ne]; omega
         have e5 : 0 < k := by omega
         by_cases g1 : (x[x.size - 1]'e1) = 32
         ·
          have G := bad (by unfold lineAt endB; rw [hl, g1]; simp)
          have e7 := yes32 g1
          clear good bad hl hh hnn hxe g1
          go_wp2
          go_ret
          exact ⟨retb G.out, HB1.out⟩
         ·
          have HN := good (by unfold lineAt endB; rw [hl]; simp [g1, hk0, hnn])
          have e7 := not32 g1
          clear good bad hl hh hnn hxe g1
          go_wp2
          go_round
          case rel => exact ⟨k + 1, by omega, by go_num, HN⟩
          case measure => simp [intOf]; omega
      ·
       obtain rfl : k = m := by omega
       have HR' : Hid (true = R) := Lib.hid (HT.out ((linesB_at ls HNE.out).2 (fun j h => H.out j h (by omega))))
       clear hlt
       go_wp2
       go_ret
       exact ⟨retb HR'.out, HB1.out⟩
end
section
open Go.RowKit
theorem enc_low : ∀ d : Fin 26, Utf8.encode ((97 + d.val : Nat) : Int) = ⟨#[UInt8.ofNat (97 + d.val)]⟩ := by decide +kernel
theorem low_up {c : UInt8} (h1 : 65 ≤ c.toNat) (h2 : c.toNat ≤ 90) : lowC c = UInt8.ofNat (c.toNat + 32) := by
 unfold lowC upB
 rw [decide_eq_true h1, decide_eq_true h2]
 simp only [Bool.and_self, if_true]
 apply UInt8.toNat_inj.1
 rw [UInt8.toNat_add, UInt8.toNat_ofNat']
 rfl
theorem low_no {c : UInt8} (h : ¬ (65 ≤ c.toNat ∧ c.toNat ≤ 90)) : lowC c = c := by
 unfold lowC upB
 rw [if_neg]
 simp only [Bool.and_eq_true, decide_eq_true_eq]; exact h
theorem rune_low (c : UInt8) (h1 : 65 ≤ c.toNat) (h2 : c.toNat ≤ 90) (w : World) : (convert 21 9 (.int .i32 ((c.toNat : Int) + 32))).run Tryz.prog w = .ok (.string ⟨#[lowC c]⟩) w := by
 have e := enc_low ⟨c.toNat - 65, by omega⟩
 simp only [] at e
 have e2 : 97 + (c.toNat - 65) = c.toNat + 32 := by omega
 rw [e2] at e
 rw [run_convert_int_string w 21 9 .i32 _ (by kernel_rfl) Tryz.underlying9, show ((c.toNat : Int) + 32) = ((c.toNat + 32 : Nat) : Int) by omega, e, low_up h1 h2]
theorem lower_ref (s : ByteArray) (hs : s.size ≤ 100000) (w : World) :
  Calls Tryz.prog 96 #[.string s] w fun e w' => e = .returned (.string ⟨(lower s.data.toList).toArray⟩) ∧ w = w' := by
 have h1s : ∀ x, (ByteArray.mk #[x]).size = 1 := fun _ => rfl
 go_enter Tryz.func96, Tryz.ntmps96
 go_wp2
 go_loop [3, 4] (fun o i => ∃ (k : Nat) (S : ByteArray), k ≤ s.size ∧ i = .int .i64 k ∧ o = .string S ∧ S.size ≤ k ∧ Hid (S.data.toList = lower (s.data.toList.take k))) (fun _ i => s.size - (intOf i).toNat)
 case atStart => exact ⟨0, ⟨#[]⟩, by omega, rfl, rfl, Nat.le_refl _, Lib.hid (by simp [lower])⟩
 case round =>
  obtain ⟨k, S, hk, rfl, rfl, hS, H⟩ := hrel
  by_cases hlt : k < s.size
  ·
   have hx := s[k].toNat_lt
   have hsn := takeSn s k hlt
   obtain ⟨x1, x2⟩ := extOne s k hlt
   by_cases h1 : 65 ≤ s[k].toNat
   ·
    by_cases h2 : s[k].toNat ≤ 90
    ·
     have hr := rune_low s[k] h1 h2
     have HN : Hid ((S ++ ⟨#[lowC s[k]]⟩).data.toList = lower (s.data.toList.take (k + 1))) := Lib.hid (by rw [hsn, ByteArray.data_append, Array.toList_append, H.out]; simp [lower])
     clear hsn x1 x2
     go_wp2
     go_round
     case rel => exact ⟨k + 1, _, by omega, by go_num, rfl, by rw [ByteArray.size_append, h1s]; omega, HN⟩
     case measure => simp [intOf]; omega
    ·
     have HN : Hid ((S ++ s.extract k (k + 1)).data.toList = lower (s.data.toList.take (k + 1))) := Lib.hid (by rw [hsn, ByteArray.data_append, Array.toList_append, H.out, x1]; simp [lower, low_no (c := s[k]) (fun g => h2 g.2)])
     have hsx : (s.extract k (k + 1)).size ≤ 1 := by omega
     clear hsn x1 x2
     go_wp2
     go_round
     case rel => exact ⟨k + 1, _, by omega, by go_num, rfl, by rw [ByteArray.size_append]; omega, HN⟩
     case measure => simp [intOf]; omega
   ·
    have HN : Hid ((S ++ s.extract k (k + 1)).data.toList = lower (s.data.toList.take (k + 1))) := Lib.hid (by rw [hsn, ByteArray.data_append, Array.toList_append, H.out, x1]; simp [lower, low_no (c := s[k]) (fun g => h1 g.1)])
    have hsx : (s.extract k (k + 1)).size ≤ 1 := by omega
    clear hsn x1 x2
    go_wp2
    go_round
    case rel => exact ⟨k + 1, _, by omega, by go_num, rfl, by rw [ByteArray.size_append]; omega, HN⟩
    case measure => simp [intOf]; omega
  ·
   obtain rfl : k = s.size := by omega
   have HN : Hid (S = ⟨(lower s.data.toList).toArray⟩) := Lib.hid (strOf (by rw [H.out, takeAll]))
   clear hlt
   go_wp2
   go_ret
   exact ⟨congrArg (fun x => Ending.returned (Value.string x)) HN.out, rfl⟩
def rowF (f : Fld) : List Bs := [f.1, f.2]
def getF (l : List Fld) (n : Bs) : Bs × Bool := match l.find? (fun f => decide (lower f.1 = lower n)) with
 | some f => (f.2, true)
 | none => ([], false)
theorem getF_snd (l : List Fld) (n : Bs) : (getF l n).2 = decide (lower n ∈ l.map fun f => lower f.1) := by
 unfold getF
 cases h : l.find? (fun f => decide (lower f.1 = lower n)) with
 | some f =>
  have h1 := List.find?_some h
  have h2 := List.mem_of_find?_eq_some h
  simp only [decide_eq_true_eq] at h1
  exact (decide_eq_true (List.mem_map.2 ⟨f, h2, h1⟩)).symm
 | none =>
  rw [List.find?_eq_none] at h
  refine (decide_eq_false fun hm => ?_).symm
  obtain ⟨f, hf, e⟩ := List.mem_map.1 hm
  exact h f hf (by simp [e])
theorem getF_no {l : List Fld} {n : Bs} {k : Nat} (h : ∀ (j : Nat) (hj : j < l.length), j < k → lower l[j].1 ≠ lower n) (hk : k = l.length) : getF l n = ([], false) := by
 unfold getF
 rw [List.find?_eq_none.2]
 intro f hf g
 obtain ⟨j, hj, rfl⟩ := List.mem_iff_getElem.1 hf
 exact h j hj (by omega) (by simpa using g)
theorem getF_at {l : List Fld} {n : Bs} {k : Nat} (hk : k < l.length) (h : ∀ (j : Nat) (hj : j < l.length), j < k → lower l[j].1 ≠ lower n) (g : lower l[k].1 = lower n) : getF l n = (l[k].2, true) := by
 have e : l.find? (fun f => decide (lower f.1 = lower n)) = some l[k] := by
  rw [List.find?_eq_some_iff_getElem]
  exact ⟨by simp [g], k, hk, rfl, fun j hj => by simp; exact h j (by omega) hj⟩
 unfold getF; rw [e]
def GetPost (l : List Fld) (n : Bs) (w : World) (e : Ending) (w' : World) : Prop := e = .returned (.tuple #[.string ⟨(getF l n).1.toArray⟩, .bool (getF l n).2]) ∧ w' = w
theorem get_ref (v : Value) (l : List Fld) (hn : l.length ≤ 20000) (hs : ∀ f ∈ l, f.1.length ≤ 100000) (n : ByteArray) (hns : n.size ≤ 100000) (w : World) (h : HoldR 2 w v (l.map rowF)) :
  Calls Tryz.prog 50 #[v, .string n] w (GetPost l n.data.toList w) := by
 obtain ⟨a, c, b, o, rfl, hc, ha, hcell⟩ := h
 rw [List.length_map] at hc ha
 rw [List.length_map]
 have HC := Lib.hid (fun (k : Nat) (hk : k < l.length) => And.intro (hcell k (rowF l[k]) (by simp [hk]) 0 l[k].1 (by omega) rfl) (hcell k (rowF l[k]) (by simp [hk]) 1 l[k].2 (by omega) rfl))
 have HS := Lib.hid hs
 have L1 := fun (x : ByteArray) (hx : x.size ≤ 100000) w => lower_ref x hx w
 have L2 := fun w => lower_ref n hns w
 have HP : Hid (∀ e x b, getF l n.data.toList = (x, b) → e = .returned (.tuple #[.string ⟨x.toArray⟩, .bool b]) → GetPost l n.data.toList w e w) := Lib.hid (fun e x b h g => ⟨by rw [h]; exact g, rfl⟩)
 obtain ⟨m, hN⟩ : ∃ m, l.length = m := ⟨_, rfl⟩
 rw [hN] at hc ha hn ⊢
 clear hcell hs
 have HN := Lib.hid hN
 clear hN
 go_enter Tryz.func50, Tryz.ntmps50
 go_wp2
 go_loop [6] (fun i => ∃ k : Nat, k ≤ m ∧ i = .int .i64 k ∧ Hid (∀ (j : Nat) (hj : j < l.length), j < k → lower l[j].1 ≠ lower n.data.toList)) (fun i => m - (intOf i).toNat)
 case atStart => exact ⟨0, by omega, rfl, Lib.hid (fun j hj g => by omega)⟩
 case round =>
  obtain ⟨k, hk, rfl, H⟩ := hrel
  by_cases hlt : k < m
  ·
   obtain ⟨rfl, hbw⟩ := ha (by omega)
   have hkl : k < l.length := by rw [HN.out]; exact hlt
   obtain ⟨x, hx⟩ : ∃ x : ByteArray, x.data.toList = l[k].1 := ⟨⟨(l[k].1).toArray⟩, by simp⟩
   obtain ⟨y, hy⟩ : ∃ y : ByteArray, y.data.toList = l[k].2 := ⟨⟨(l[k].2).toArray⟩, by simp⟩
   obtain ⟨c0, c1⟩ := HC.out k hkl
   rw [← strOf hx] at c0
   rw [← strOf hy] at c1
   have D1 := L1 x (by rw [sizeOf, hx]; exact HS.out _ (List.getElem_mem _))
   obtain ⟨X, hX⟩ : ∃ X : ByteArray, X = ⟨(lower x.data.toList).toArray⟩ := ⟨_, rfl⟩
   obtain ⟨N, hNN⟩ : ∃ N : ByteArray, N = ⟨(lower n.data.toList).toArray⟩ := ⟨_, rfl⟩
   rw [← hX] at D1
   have D2 := L2
   rw [← hNN] at D2
   have hq := eqT X N
   have hXl : X.data.toList = lower l[k].1 := by rw [hX, bytesOf, hx]
   have hNl : N.data.toList = lower n.data.toList := by rw [hNN, bytesOf]
   rw [hXl, hNl] at hq
   simp only [Nat.add_zero] at c0
   clear hX hNN hXl hNl L2
   by_cases he : lower l[k].1 = lower n.data.toList
   ·
    rw [decide_eq_true he] at hq
    have HR : Hid (getF l n.data.toList = (y.data.toList, true)) := Lib.hid (by rw [getF_at hkl H.out he, hy])
    clear he hx hy H L1
    go_wp2_with (first | (go_at_call 96; first | ((with_reducible refine (D1 _).mono ?_); rintro e w1 ⟨rfl, rfl⟩) | ((with_reducible refine (D2 _).mono ?_); rintro e w1 ⟨rfl, rfl⟩)))
    go_ret2
    refine HP.out _ _ _ HR.out ?_
    rw [← strOf (x := y) rfl]
    rfl
   ·
    rw [decide_eq_false he] at hq
    have HK : Hid (∀ (j : Nat) (hj : j < l.length), j < k + 1 → lower l[j].1 ≠ lower n.data.toList) := Lib.hid (fun j hj g => by
     by_cases e : j = k
     ·
      subst e; exact he
     ·
      exact H.out j hj (by omega))
    clear he hx hy H L1
    go_wp2_with (first | (go_at_call 96; first | ((with_reducible refine (D1 _).mono ?_); rintro e w1 ⟨rfl, rfl⟩) | ((with_reducible refine (D2 _).mono ?_); rintro e w1 ⟨rfl, rfl⟩)))
    go_round
    case rel => exact ⟨k + 1, by omega, by go_num, HK⟩
    case measure => simp [intOf]; omega
  ·
   obtain rfl : k = m := by omega
   have HR : Hid (getF l n.data.toList = ([], false)) := Lib.hid (getF_no H.out HN.out.symm)
   clear hlt ha H
   go_wp2
   go_ret2
   exact HP.out _ _ _ HR.out rfl
end
section
open Go.RowKit
def HoldRR (k : Nat) (w : World) (v : Value) (rss : List (List (List Bs))) : Prop :=
 ∃ (a : Option Addr) (c b o : Nat), v = .slice a rss.length c ∧ rss.length ≤ c ∧ (0 < rss.length → a = some ⟨b, o, none⟩ ∧ b < w.heap.size) ∧
  ∀ (j : Nat) rs, rss[j]? = some rs → ∃ u, w.cell? ⟨b, o + j, none⟩ = some u ∧ HoldR k w u rs
theorem HoldRR.on {k : Nat} {w w' : World} {v : Value} {rss : List (List (List Bs))} (h : HoldRR k w v rss) (hb : Below w.heap.size w w') : HoldRR k w' v rss := by
 obtain ⟨a, c, b, o, rfl, hc, ha, hcell⟩ := h
 refine ⟨a, c, b, o, rfl, hc, fun h0 => ⟨(ha h0).1, Nat.lt_of_lt_of_le (ha h0).2 hb.size⟩, fun j rs hj => ?_⟩
 have h0 : 0 < rss.length := by have := (List.getElem?_eq_some_iff.1 hj).1; omega
 obtain ⟨u, hu, hr⟩ := hcell j rs hj
 exact ⟨u, by rw [hb.cell (ha h0).2]; exact hu, hr.on hb⟩
theorem HoldR.row {k : Nat} {w : World} {b o n c : Nat} {rs : List (List Bs)} (h : HoldR k w (.slice (some ⟨b, o, none⟩) n c) rs) {j : Nat} {r : List Bs} (hj : rs[j]? = some r) {i : Nat} {x : Bs} (hi : i < k) (hx : r[i]? = some x) : w.cell? ⟨b, o + j * k + i, none⟩ = some (.string ⟨x.toArray⟩) := by
 obtain ⟨a', c', b', o', e, _, ha, hcell⟩ := h
 have h0 : 0 < rs.length := by have := (List.getElem?_eq_some_iff.1 hj).1; omega
 simp only [Value.slice.injEq] at e
 have e2 := e.1.trans (ha h0).1
 simp only [Option.some.injEq, Addr.mk.injEq] at e2
 obtain ⟨rfl, rfl, _⟩ := e2
 exact hcell j r hj i x hi hx
theorem rowF_cells {w : World} {b o n c : Nat} {st : List Fld} (h : HoldR 2 w (.slice (some ⟨b, o, none⟩) n c) (st.map rowF)) {t : Nat} {f : Fld} (hf : st[t]? = some f) {x y : ByteArray} (hx : x.data.toList = f.1) (hy : y.data.toList = f.2) : w.cell? ⟨b, o + t * 2, none⟩ = some (.string x) ∧ w.cell? ⟨b, o + t * 2 + 1, none⟩ = some (.string y) := by
 rw [strOf hx, strOf hy]
 have hr : (st.map rowF)[t]? = some (rowF f) := by rw [List.getElem?_map, hf]; rfl
 exact ⟨h.row hr (i := 0) (by omega) rfl, h.row hr (i := 1) (by omega) rfl⟩
theorem stB_at : ∀ (st : List Fld) (seen : List Bs), stB seen st = true ↔ ∀ (k : Nat) (h : k < st.length), lower st[k].1 ∉ seen ++ (st.take k).map (fun f => lower f.1) ∧ fieldB st[k] = true
 | [], seen => by simp [stB]
 | f :: st, seen => by
  simp only [stB, Bool.and_eq_true, Bool.not_eq_true', decide_eq_false_iff_not]
  rw [stB_at st]
  constructor
  ·
   rintro ⟨⟨h1, h2⟩, h3⟩ k hk
   cases k with
   | zero => simpa using ⟨h1, h2⟩
   | succ k =>
    have := h3 k (by simpa using hk)
    simpa using this
  ·
   intro h
   have h0 := h 0 (by simp)
   simp only [List.getElem_cons_zero, List.take_zero, List.map_nil, List.append_nil] at h0
   refine ⟨h0, fun k hk => ?_⟩
   have := h (k + 1) (by simpa using hk)
   simpa using this
theorem stanza_empty {l : List (List Fld)} {i : Nat} (h : i < l.length) (he : l[i] = []) : l.all stanzaB = false := by
 rw [List.all_eq_false]; exact ⟨l[i], List.getElem_mem h, by simp [stanzaB, he]⟩
theorem stanza_bad {l : List (List Fld)} {i : Nat} (h : i < l.length) {k : Nat} (hk : k < l[i].length) (g : lower l[i][k].1 ∈ (l[i].take k).map (fun f => lower f.1) ∨ fieldB l[i][k] = false) : l.all stanzaB = false := by
 rw [List.all_eq_false]
 refine ⟨l[i], List.getElem_mem h, fun hs => ?_⟩
 simp only [stanzaB, Bool.and_eq_true] at hs
 have := (stB_at l[i] []).1 hs.2 k hk
 simp only [List.nil_append] at this
 rcases g with g | g
 ·
  exact this.1 g
 ·
  rw [g] at this; exact absurd this.2 (by simp)
theorem stanza_all {l : List (List Fld)} (h : ∀ (i : Nat) (hi : i < l.length), l[i] ≠ [] ∧ ∀ (k : Nat) (hk : k < l[i].length), lower l[i][k].1 ∉ (l[i].take k).map (fun f => lower f.1) ∧ fieldB l[i][k] = true) : l.all stanzaB = true := by
 rw [List.all_eq_true]
 intro st hst
 obtain ⟨i, hi, rfl⟩ := List.mem_iff_getElem.1 hst
 simp only [stanzaB, Bool.and_eq_true, decide_eq_true_eq]
 exact ⟨(h i hi).1, (stB_at _ []).2 (fun k hk => by simpa using (h i hi).2 k hk)⟩
-- What is left
def leftSs (l : List (List Fld)) (i : Nat) : Bs := if i = 0 then printSs l else if i < l.length then 10 :: printSs (l.drop i) else []
def tailSs (l : List (List Fld)) (i : Nat) : Bs := if i < l.length then 10 :: printSs (l.drop i) else []
theorem printSs_cons (st : List Fld) (l : List (List Fld)) : printSs (st :: l) = printS st ++ (if l = [] then [] else 10 :: printSs l) := by
 cases l <;> simp [printSs]
theorem drop_at {α : Type} {l : List α} {i : Nat} (h : i < l.length) : l.drop i = l[i] :: l.drop (i + 1) := List.drop_eq_getElem_cons h
theorem left_first {l : List (List Fld)} (h : 0 < l.length) : leftSs l 0 = printS l[0] ++ tailSs l 1 := by
 unfold leftSs tailSs
 rw [if_pos rfl]
 have e := drop_at h
 rw [List.drop_zero] at e
 conv => lhs; rw [e]
 rw [printSs_cons]
 by_cases g : 1 < l.length
 ·
  rw [if_pos g, if_neg (fun x => by have := congrArg List.length x; simp at this; omega)]
 ·
  rw [if_neg g, if_pos (List.drop_of_length_le (by omega))]
theorem left_next {l : List (List Fld)} {i : Nat} (h0 : ¬ i = 0) (h : i < l.length) : leftSs l i = 10 :: (printS l[i] ++ tailSs l (i + 1)) := by
 unfold leftSs tailSs
 rw [if_neg h0, if_pos h, drop_at h, printSs_cons]
 by_cases g : i + 1 < l.length
 ·
  rw [if_pos g, if_neg (fun x => by have := congrArg List.length x; simp at this; omega)]
 ·
  rw [if_neg g, if_pos (List.drop_of_length_le (by omega))]
theorem left_tail {l : List (List Fld)} {i : Nat} : tailSs l (i + 1) = leftSs l (i + 1) := by unfold leftSs; rw [if_neg (by omega)]; rfl
theorem left_end (l : List (List Fld)) : leftSs l l.length = [] := by
 unfold leftSs
 by_cases h : l.length = 0
 ·
  rw [if_pos h, List.eq_nil_of_length_eq_zero h]; rfl
 ·
  rw [if_neg h, if_neg (by omega)]
theorem printS_drop {st : List Fld} {k : Nat} (h : k < st.length) : printS (st.drop k) = st[k].1 ++ 58 :: (printT (spl 10 st[k].2) ++ printS (st.drop (k + 1))) := by
 unfold printS
 rw [drop_at h, List.flatMap_cons]
 unfold printF
 simp only [List.append_assoc, List.cons_append]
theorem printS_end (st : List Fld) : printS (st.drop st.length) = [] := by rw [List.drop_length]; rfl
def leftT (ls : List Bs) (j : Nat) : Bs := if j = 0 then printT ls else (ls.drop j).flatMap tailLine
theorem leftT_head {ls : List Bs} (h : 0 < ls.length) : leftT ls 0 = (if ls[0] ≠ [] then (32 : UInt8) :: ls[0] else ls[0]) ++ 10 :: leftT ls 1 := by
 match ls, h with
 | p :: ps, _ =>
  show printT (p :: ps) = _
  have e : leftT (p :: ps) 1 = ps.flatMap tailLine := by unfold leftT; rw [if_neg (by omega)]; rfl
  rw [e]
  unfold printT headLine
  simp only [List.getElem_cons_zero, List.append_assoc, List.cons_append, List.nil_append]
theorem leftT_next {ls : List Bs} {j : Nat} (h0 : ¬ j = 0) (h : j < ls.length) : leftT ls j = 32 :: (ls[j] ++ 10 :: leftT ls (j + 1)) := by
 unfold leftT
 rw [if_neg h0, if_neg (by omega), drop_at h, List.flatMap_cons]
 unfold tailLine
 simp only [List.append_assoc, List.cons_append, List.nil_append]
theorem leftT_end {ls : List Bs} (h : ls ≠ []) : leftT ls ls.length = [] := by
 unfold leftT
 have := List.length_pos_iff.2 h
 rw [if_neg (by omega), List.drop_length]; rfl
end
end Go.Proofs.YtkbkaeefdhkgdaaGreatDoor
