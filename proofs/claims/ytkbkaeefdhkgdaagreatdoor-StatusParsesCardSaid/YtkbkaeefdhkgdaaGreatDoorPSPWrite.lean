import Derived.Test.YtkbkaeefdhkgdaaGreatDoorPSPRead
set_option maxRecDepth 100000
set_option maxHeartbeats 32000000
namespace Go.Proofs.YtkbkaeefdhkgdaaGreatDoor
section
open Go.RowKit
theorem full2_any (a : Option Addr) (n c : Nat) (hn : n ≤ 90000) (w : World) : Calls Tryz.prog 90 #[.slice a n c] w fun e w' => e = .returned (.bool (decide (64 < n))) ∧ w = w' := by
 by_cases h : 64 < n
 ·
  rw [decide_eq_true h]
  go_enter Tryz.func90, Tryz.ntmps90
  go_wp2
  go_ret
  exact ⟨retb (by simp; omega), rfl⟩
 ·
  rw [decide_eq_false h]
  go_enter Tryz.func90, Tryz.ntmps90
  go_wp2
  go_ret
  exact ⟨retb (by simp; omega), rfl⟩
theorem full1_any (a : Option Addr) (n c : Nat) (hn : n ≤ 90000) (w : World) : Calls Tryz.prog 92 #[.slice a n c] w fun e w' => e = .returned (.bool (decide (64 < n))) ∧ w = w' := by
 by_cases h : 64 < n
 ·
  rw [decide_eq_true h]
  go_enter Tryz.func92, Tryz.ntmps92
  go_wp2
  go_ret
  exact ⟨retb (by simp; omega), rfl⟩
 ·
  rw [decide_eq_false h]
  go_enter Tryz.func92, Tryz.ntmps92
  go_wp2
  go_ret
  exact ⟨retb (by simp; omega), rfl⟩
def longB (st : List Fld) : Bool := decide (64 < st.length)
def IdxPost (l : List (List Fld)) (w : World) (e : Ending) (w' : World) : Prop := ∃ z : Int, e = .returned (.int .i64 z) ∧ decide (0 ≤ z) = l.any longB ∧ w = w'
theorem any_take {l : List (List Fld)} {k : Nat} {st : List Fld} (h : l[k]? = some st) : (l.take (k + 1)).any longB = ((l.take k).any longB || longB st) := by
 rw [List.take_add_one, h, List.any_append]; simp
theorem any_sub {l : List (List Fld)} {k : Nat} (h : (l.take k).any longB = true) : l.any longB = true := by
 rw [List.any_eq_true] at h ⊢
 obtain ⟨y, hy, hy2⟩ := h
 exact ⟨y, List.mem_of_mem_take hy, hy2⟩
theorem idx_any (v : Value) (l : List (List Fld)) (hl : l.length ≤ 90000) (hll : ∀ st ∈ l, st.length ≤ 90000) (w : World) (h : HoldRR 2 w v (l.map (·.map rowF))) :
  Calls Tryz.prog 129 #[v, .func (.func 92) #[] #[]] w (IdxPost l w) := by
 obtain ⟨a, c, b, o, rfl, hc, ha, hcell⟩ := h
 rw [List.length_map] at hc ha
 rw [List.length_map]
 have HC := Lib.hid (fun (i : Nat) (st : List Fld) (hi : l[i]? = some st) => hcell i (st.map rowF) (by simp [hi]))
 have HS := Lib.hid hll
 have HP : Hid (∀ z : Int, decide (0 ≤ z) = l.any longB → IdxPost l w (.returned (.int .i64 z)) w) := Lib.hid (fun z h => ⟨z, rfl, h, rfl⟩)
 obtain ⟨n, hN⟩ : ∃ n, l.length = n := ⟨_, rfl⟩
 rw [hN] at hc ha hl ⊢
 have HN := Lib.hid hN
 clear hcell hll hN
 have FA := fun (a : Option Addr) (m c : Nat) (hm : m ≤ 90000) w => full1_any a m c hm w
 go_enter Tryz.func129, Tryz.ntmps129
 go_wp2
 go_loop [8] (fun i => ∃ k : Nat, k ≤ n ∧ i = .int .i64 k ∧ Hid ((l.take k).any longB = false)) (fun i => n - (intOf i).toNat)
 case atStart => exact ⟨0, by omega, rfl, Lib.hid rfl⟩
 case round =>
  obtain ⟨k, hk, rfl, H⟩ := hrel
  by_cases hlt : k < n
  ·
   obtain ⟨rfl, hbw⟩ := ha (by omega)
   obtain ⟨st, hst⟩ : ∃ st, l[k]? = some st := ⟨_, List.getElem?_eq_getElem (by rw [HN.out]; exact hlt)⟩
   obtain ⟨u, hu, hr⟩ := HC.out k st hst
   obtain ⟨ai, ci, bi, oi, rfl, hci, hai, hcelli⟩ := hr
   rw [List.length_map] at hu
   have hm1 := HS.out _ (List.mem_of_getElem? hst)
   have htk := any_take hst
   rw [H.out, Bool.false_or] at htk
   unfold longB at htk
   have F := FA ai st.length ci hm1
   obtain ⟨m, hm⟩ : ∃ m, st.length = m := ⟨_, rfl⟩
   rw [hm] at hu hm1 htk F
   clear hst hcelli hai hci hm H FA
   by_cases h64 : 64 < m
   ·
    rw [decide_eq_true h64] at htk F
    have HF : Hid (decide ((0 : Int) ≤ (k : Nat)) = l.any longB) := Lib.hid (by rw [any_sub htk, decide_eq_true (by omega)])
    clear htk h64
    go_wp2_with (go_at_call 92; refine (F _).mono ?_; rintro e w1 ⟨rfl, rfl⟩)
    go_ret
    exact HP.out _ HF.out
   ·
    rw [decide_eq_false h64] at htk F
    have HK := Lib.hid htk
    clear htk h64
    go_wp2_with (go_at_call 92; refine (F _).mono ?_; rintro e w1 ⟨rfl, rfl⟩)
    go_round
    case rel => exact ⟨k + 1, by omega, by go_num, HK⟩
    case measure => simp [intOf]; omega
  ·
   obtain rfl : k = n := by omega
   have HF : Hid (decide ((0 : Int) ≤ -1) = l.any longB) := Lib.hid (by have := H.out; rw [List.take_of_length_le (by rw [HN.out]; omega)] at this; rw [this]; rfl)
   clear hlt H FA
   go_wp2
   go_ret
   exact HP.out _ HF.out
theorem contains_any (v : Value) (l : List (List Fld)) (hl : l.length ≤ 90000) (hll : ∀ st ∈ l, st.length ≤ 90000) (w : World) (h : HoldRR 2 w v (l.map (·.map rowF))) :
  Calls Tryz.prog 91 #[v, .func (.func 92) #[] #[]] w fun e w' => e = .returned (.bool (l.any longB)) ∧ w = w' := by
 have C := idx_any v l hl hll w h
 unfold IdxPost at C
 obtain ⟨R, HR⟩ : ∃ R, Hid (l.any longB = R) := ⟨_, rfl⟩
 rw [HR.out] at C ⊢
 clear h hl hll
 go_enter Tryz.func91, Tryz.ntmps91
 go_wp2_with (go_at_call 129; refine C.mono ?_; rintro e w1 ⟨z, rfl, hz, rfl⟩; have HZ := Lib.hid hz; clear hz)
 go_ret
 exact ⟨retb HZ.out, rfl⟩
theorem HoldR.take2 {w : World} {b o m c t : Nat} {st : List Fld} (h : HoldR 2 w (.slice (some ⟨b, o, none⟩) m c) (st.map rowF)) (ht : t ≤ st.length) : HoldR 2 w (.slice (some ⟨b, o, none⟩) t c) ((st.take t).map rowF) := by
 obtain ⟨a', c', b', o', e, hc, ha, hcell⟩ := h
 rw [List.length_map] at e hc ha
 have hlen : ((st.take t).map rowF).length = t := by rw [List.length_map, List.length_take]; omega
 by_cases h0 : 0 < st.length
 ·
  have e2 := (ha h0)
  simp only [Value.slice.injEq] at e
  obtain ⟨rfl, rfl, rfl⟩ := e
  refine ⟨_, _, b', o', by rw [hlen], by rw [hlen]; omega, fun _ => e2, fun j r hj i x hi hx => ?_⟩
  refine hcell j r ?_ i x hi hx
  rw [List.getElem?_map] at hj ⊢
  by_cases hjt : j < t
  ·
   rwa [List.getElem?_take_of_lt hjt] at hj
  ·
   rw [List.getElem?_eq_none (by rw [List.length_take]; omega)] at hj; cases hj
 ·
  have : t = 0 := by omega
  subst this
  simp only [Value.slice.injEq] at e
  obtain ⟨rfl, rfl, rfl⟩ := e
  exact ⟨some ⟨b, o, none⟩, c, b', o', by simp, by simp, (fun g => absurd g (by simp)), (fun j r hj => by simp at hj)⟩
theorem FOn {b : Nat} {x y : ByteArray} {w W W1 : World} (h : W.cell? ⟨b, 0, none⟩ = some (.string x) ∧ W.cell? ⟨b, 1, none⟩ = some (.string y) ∧ Below w.heap.size w W) (hb : Below W.heap.size W W1) :
  W1.cell? ⟨b, 0, none⟩ = some (.string x) ∧ W1.cell? ⟨b, 1, none⟩ = some (.string y) ∧ Below w.heap.size w W1 := by
 have l := World.block_lt_of_cell? W _ h.1
 exact ⟨by rw [hb.cell (p := ⟨b, 0, none⟩) l]; exact h.1, by rw [hb.cell (p := ⟨b, 1, none⟩) l]; exact h.2.1, h.2.2.trans (hb.mono h.2.2.size)⟩
theorem FDr {b : Nat} {x y : ByteArray} {w W : World} (h : W.cell? ⟨b, 0, none⟩ = some (.string x) ∧ W.cell? ⟨b, 1, none⟩ = some (.string y) ∧ Below w.heap.size w W) :
  W.drew.cell? ⟨b, 0, none⟩ = some (.string x) ∧ W.drew.cell? ⟨b, 1, none⟩ = some (.string y) ∧ Below w.heap.size w W.drew := FOn h (Below.refl _ _).drew
theorem FBe {b : Nat} {x y : ByteArray} {w W : World} (h : W.cell? ⟨b, 0, none⟩ = some (.string x) ∧ W.cell? ⟨b, 1, none⟩ = some (.string y) ∧ Below w.heap.size w W) : Below w.heap.size w W := h.2.2
def CheckPost (l : List (List Fld)) (w : World) (e : Ending) (w' : World) : Prop := e = .returned (.int .i64 (printE l).2) ∧ Below w.heap.size w w'
theorem check_any (v : Value) (l : List (List Fld)) (hl : l.length ≤ 90000) (hll : ∀ st ∈ l, st.length ≤ 90000) (hs : ∀ st ∈ l, ∀ f ∈ st, f.1.length ≤ 90000 ∧ f.2.length ≤ 90000) (w : World) (h : HoldRR 2 w v (l.map (·.map rowF))) :
  Calls Tryz.prog 45 #[v] w (CheckPost l w) := by
 have CA := contains_any v l hl hll w h
 obtain ⟨a, c, b, o, rfl, hc, ha, hcell⟩ := h
 rw [List.length_map] at hc ha CA
 rw [List.length_map]
 have F2 := fun w => full2_any a l.length c hl w
 have HC := Lib.hid (fun (i : Nat) (st : List Fld) (hi : l[i]? = some st) => hcell i (st.map rowF) (by simp [hi]))
 have HS := Lib.hid (And.intro hll hs)
 have G22 : Hid ((64 < l.length ∨ l.any longB = true) → ∀ w', Below w.heap.size w w' → CheckPost l w (.returned (.int .i64 22)) w') := Lib.hid (fun g w' h2 => ⟨by unfold printE; rw [if_pos (by simpa [longB] using g)], h2⟩)
 have G1 : Hid (¬ (64 < l.length ∨ l.any longB = true) → l.all stanzaB = false → ∀ w', Below w.heap.size w w' → CheckPost l w (.returned (.int .i64 1)) w') := Lib.hid (fun g g2 w' h2 => ⟨by unfold printE; rw [if_neg (by simpa [longB] using g), if_neg (by rw [g2]; simp)], h2⟩)
 have G0 : Hid (¬ (64 < l.length ∨ l.any longB = true) → l.all stanzaB = true → ∀ w', Below w.heap.size w w' → CheckPost l w (.returned (.int .i64 0)) w') := Lib.hid (fun g g2 w' h2 => ⟨by unfold printE; rw [if_neg (by simpa [longB] using g), if_pos g2], h2⟩)
 obtain ⟨n, hN⟩ : ∃ n, l.length = n := ⟨_, rfl⟩
 rw [hN] at hc ha hl F2 CA ⊢
 have HN := Lib.hid hN
 clear hcell hll hs
 by_cases h64 : 64 < n
 ·
  have G := Lib.hid (G22.out (.inl (by rw [hN]; exact h64)))
  rw [decide_eq_true h64] at F2
  clear hN h64 CA G22 G1 G0
  go_enter Tryz.func45, Tryz.ntmps45
  go_wp2_with (go_at_call 90; refine (F2 _).mono ?_; rintro e w1 ⟨rfl, rfl⟩)
  go_ret
  exact G.out _ (Below.refl _ _)
 rw [decide_eq_false h64] at F2
 cases hany : l.any longB
 case true =>
  have G := Lib.hid (G22.out (.inr hany))
  rw [hany] at CA
  clear hN h64 hany G22 G1 G0
  go_enter Tryz.func45, Tryz.ntmps45
  go_wp2_with (first | (go_at_call 90; refine (F2 _).mono ?_; rintro e w1 ⟨rfl, rfl⟩) | (go_at_call 91; refine CA.mono ?_; rintro e w1 ⟨rfl, rfl⟩))
  go_ret
  exact G.out _ (Below.refl _ _)
 have HNF : Hid (¬ (64 < l.length ∨ l.any longB = true)) := Lib.hid (by rw [hany, hN]; simp; omega)
 rw [hany] at CA
 have HB1 : Hid (l.all stanzaB = false → ∀ w', Below w.heap.size w w' → CheckPost l w (.returned (.int .i64 1)) w') := Lib.hid (G1.out HNF.out)
 have HB0 : Hid (l.all stanzaB = true → ∀ w', Below w.heap.size w w' → CheckPost l w (.returned (.int .i64 0)) w') := Lib.hid (G0.out HNF.out)
 have FA := fun (x y : ByteArray) (hx : x.size ≤ 90000) (hy : y.size ≤ 90000) w => field_any x y hx hy w
 clear hN h64 hany G22 G1 G0 HNF
 go_enter Tryz.func45, Tryz.ntmps45
 go_wp2_with (first | (go_at_call 90; refine (F2 _).mono ?_; rintro e w1 ⟨rfl, rfl⟩) | (go_at_call 91; refine CA.mono ?_; rintro e w1 ⟨rfl, rfl⟩))
 clear CA F2
 go_loopw [17] (fun i wr => ∃ k : Nat, k ≤ n ∧ i = .int .i64 k ∧ Hid (∀ (i : Nat) (hi : i < l.length), i < k → l[i] ≠ [] ∧ ∀ (k : Nat) (hk : k < l[i].length), lower l[i][k].1 ∉ (l[i].take k).map (fun f => lower f.1) ∧ fieldB l[i][k] = true) ∧ Hid (Below w.heap.size w wr)) (fun i _ => n - (intOf i).toNat)
 case atStart => exact ⟨0, by omega, rfl, Lib.hid (fun i hi g => by omega), Lib.hid (Below.refl _ _)⟩
 case round =>
  obtain ⟨k, hk, rfl, H, HB⟩ := hrel
  by_cases hlt : k < n
  ·
   obtain ⟨rfl, hbw⟩ := ha (by omega)
   have hkl : k < l.length := by rw [HN.out]; exact hlt
   obtain ⟨st, hst⟩ : ∃ st, st = l[k] := ⟨_, rfl⟩
   have hst' : l[k]? = some st := by rw [hst]; exact List.getElem?_eq_getElem hkl
   obtain ⟨u, hu0, hr⟩ := HC.out k st hst'
   have hu := (HB.out.cell (p := ⟨b, o + k, none⟩) hbw).trans hu0
   have hr' := hr
   obtain ⟨ai, ci, bi, oi, rfl, hci, hai, hcelli⟩ := hr
   rw [List.length_map] at hu hci hai hr'
   have hm1 := HS.out.1 _ (List.mem_of_getElem? hst')
   have hfs := HS.out.2 _ (List.mem_of_getElem? hst')
   obtain ⟨m, hm⟩ : ∃ m, st.length = m := ⟨_, rfl⟩
   rw [hm] at hu hm1 hci hai hr'
   have HM := Lib.hid hm
   have HFS := Lib.hid hfs
   have HST := Lib.hid hst
   clear hu0 hcelli hfs hst hst'
   by_cases hm0 : m = 0
   ·
    have HE := Lib.hid (HB1.out (stanza_empty hkl (by rw [← HST.out]; exact List.eq_nil_of_length_eq_zero (by rw [HM.out]; exact hm0))))
    subst hm0
    clear hm hr' H HB1 HB0 FA
    go_wp2
    go_ret
    exact HE.out _ HB.out
   ·
    have hmz : ((m : Int) == 0) = false := by rw [beq_eq_false_iff_ne]; omega
    obtain ⟨rfl, hbi⟩ := hai (by omega)
    have HR := Lib.hid hr'
    have hm9 : ¬ m = 0 := hm0
    clear hm hr' hai hm0
    have HM9 := Lib.hid hm9
    clear hm9
    go_wp2
    go_loopw [26] (fun i wx => ∃ t : Nat, t ≤ m ∧ i = .int .i64 t ∧ Hid (∀ (j : Nat) (hj : j < st.length), j < t → lower st[j].1 ∉ (st.take j).map (fun f => lower f.1) ∧ fieldB st[j] = true) ∧ Hid (Below w.heap.size w wx)) (fun i _ => m - (intOf i).toNat)
    case atStart => exact ⟨0, by omega, rfl, Lib.hid (fun j hj g => by omega), HB⟩
    case round =>
     obtain ⟨t, ht, rfl, HI, HBX⟩ := hrel
     by_cases htm : t < m
     ·
      have htl : t < st.length := by rw [HM.out]; exact htm
      obtain ⟨f, hf⟩ : ∃ f, f = st[t] := ⟨_, rfl⟩
      have hf' : st[t]? = some f := by rw [hf]; exact List.getElem?_eq_getElem htl
      have hfz := HFS.out f (List.mem_of_getElem? hf')
      obtain ⟨X, hX⟩ : ∃ X : ByteArray, X.data.toList = f.1 := ⟨⟨f.1.toArray⟩, by simp⟩
      obtain ⟨Y, hY⟩ : ∃ Y : ByteArray, Y.data.toList = f.2 := ⟨⟨f.2.toArray⟩, by simp⟩
      obtain ⟨d0, d1⟩ := rowF_cells (HR.out.on HBX.out) hf' hX hY
      have hXs : X.size ≤ 90000 := by rw [sizeOf, hX]; omega
      have hYs : Y.size ≤ 90000 := by rw [sizeOf, hY]; omega
      have F := FA X Y hXs hYs
      have hfe : (X.data.toList, Y.data.toList) = f := by rw [hX, hY]
      have hsz := HBX.out.size
      have hn0 := (boxNew wr X Y 79 0)
      have HA1 : Hid (Below w.heap.size w (wr.alloc (.cells #[.string X, .string Y] 79))) := Lib.hid (HBX.out.alloc hsz _)
      have HBXC := Lib.hid hn0
      rw [hfe] at F
      cases hfb : fieldB f
      ·
       have HE := Lib.hid (HB1.out (stanza_bad hkl (k := t) (by rw [← HST.out]; exact htl) (.inr (by simp only [← HST.out]; rw [← hf]; exact hfb))))
       rw [hfb] at F
       clear hfb hf hf' hfz hX hY hfe hn0 HI H HB1 HB0 FA
       go_wp2_with (go_at_call 93; refine (F _).mono ?_; rintro e w2 ⟨rfl, hb⟩; have HF2 : Hid (Below w.heap.size w w2) := Lib.hid (HA1.out.trans (hb.mono HA1.out.size)); clear hb)
       go_ret
       exact HE.out _ HF2.out
      ·
       rw [hfb] at F
       have HRT : Hid (HoldR 2 w (.slice (some ⟨bi, oi, none⟩) t ci) ((st.take t).map rowF)) := Lib.hid (HR.out.take2 (by omega))
       have GA := fun w' (hw : HoldR 2 w' (.slice (some ⟨bi, oi, none⟩) t ci) ((st.take t).map rowF)) => get_any (.slice (some ⟨bi, oi, none⟩) t ci) (st.take t) X (by rw [List.length_take]; omega) (fun g hg => HFS.out g (List.mem_of_mem_take hg)) hXs w' hw
       unfold PGetPost at GA
       have HM1 := Lib.hid (hasN_mem X.data.toList (st.take t))
       have HYES : Hid (hasN X.data.toList (st.take t) = true → l.all stanzaB = false) := Lib.hid (fun g => stanza_bad hkl (k := t) (by rw [← HST.out]; exact htl) (.inl (by
        have := HM1.out.1 g
        rw [hX] at this
        simp only [← HST.out]; rw [← hf]; exact this)))
       have HNO : Hid (hasN X.data.toList (st.take t) = false → ∀ (j : Nat) (hj : j < st.length), j < t + 1 → lower st[j].1 ∉ (st.take j).map (fun f => lower f.1) ∧ fieldB st[j] = true) := Lib.hid (fun g j hj hjt => by
        by_cases e : j = t
        ·
         subst e
         rw [← hf]
         exact ⟨(fun g2 => by rw [← hX] at g2; rw [HM1.out.2 g2] at g; cases g), hfb⟩
        ·
         exact HI.out j hj (by omega))
       generalize hasN X.data.toList (st.take t) = q at *
       clear hfb hf hf' hfz hX hY hfe hn0 HI FA HM1
       go_wp2_with (go_at_call 93; refine (F _).mono ?_; rintro e w2 ⟨rfl, hb⟩; have HF2 : Hid (Below w.heap.size w w2) := Lib.hid (HA1.out.trans (hb.mono HA1.out.size)); obtain ⟨c0, c1⟩ := box2 HBXC.out hb; clear hb)
       have hti : t ≤ ci := by omega
       have hti0 : (0 : Int) ≤ (t : Int) := by omega
       have hti1 : (t : Int) ≤ (ci : Int) := by omega
       have hf2 := HF2.out
       obtain ⟨b0, hb0⟩ : ∃ b0, b0 = wr.heap.size := ⟨_, rfl⟩
       rw [← hb0] at c0 c1 ⊢
       clear hb0 F HR d0 d1
       go_region_held3 (fun W => W.cell? ⟨b0, 0, none⟩ = some (.string X) ∧ W.cell? ⟨b0, 1, none⟩ = some (.string Y) ∧ Below w.heap.size w W)
        (first | assumption | exact ⟨c0, c1, hf2⟩ | exact FDr ⟨c0, c1, hf2⟩ | exact FOn (by assumption) (by assumption))
        ((go_at_call 68; refine (GA _ (HRT.out.on (FBe (b := b0) (x := X) (y := Y) (by assumption)))).mono ?_; rintro e w3 ⟨T, rfl, hb⟩))
       all_goals
        rename_i hHeld
        have HW3 := Lib.hid hHeld.2.2
        clear hHeld
        cases q
        ·
         have HK := Lib.hid (HNO.out rfl)
         clear HYES HNO
         go_wp2
         go_roundw
         case rel => exact ⟨t + 1, by omega, by go_num, HK, HW3⟩
         case measure => simp [intOf]; omega
        ·
         have HE := Lib.hid (HB1.out (HYES.out rfl))
         clear HYES HNO
         go_wp2
         go_ret
         exact HE.out _ HW3.out
     ·
      obtain rfl : t = m := by omega
      have HK : Hid (∀ (i : Nat) (hi : i < l.length), i < k + 1 → l[i] ≠ [] ∧ ∀ (k : Nat) (hk : k < l[i].length), lower l[i][k].1 ∉ (l[i].take k).map (fun f => lower f.1) ∧ fieldB l[i][k] = true) := Lib.hid (fun i hi g => by
       by_cases e : i = k
       ·
        subst e
        rw [← HST.out]
        exact ⟨(fun g2 => HM9.out (by rw [← HM.out, g2]; rfl)), fun j hj => HI.out j hj (by rw [HM.out] at hj; exact hj)⟩
       ·
        exact H.out i hi (by omega))
      clear htm HI H HB1 HB0 FA
      go_wp2
      go_roundw
      case rel => exact ⟨k + 1, by omega, by go_num, HK, HBX⟩
      case measure => simp [intOf]; omega
  ·
   obtain rfl : k = n := by omega
   have HE := Lib.hid (HB0.out (stanza_all (fun i hi => H.out i hi (by rw [HN.out] at hi; exact hi))))
   clear hlt H HB1 HB0 FA
   go_wp2
   go_ret
   exact HE.out _ HB.out
end
section
open Go.RowKit Go.Shelf
attribute [local go_sem] Oper.semAt_some
abbrev tB : TypeId := 88
abbrev tU : TypeId := 5
abbrev Bld (B b : Nat) (l : Bs) (w : World) : Prop := Lib.IsBuilderF tB tU B b (Lib.byteCells l) w
abbrev Oth (b : Nat) (w w' : World) : Prop := Lib.OthersKept tU (some b) w w'
def WrPost (B b : Nat) (l : Bs) (w : World) (e : Ending) (w' : World) : Prop := (∃ v, e = .returned v) ∧ Bld B b l w' ∧ Below B w w'
theorem wstr_any (B b : Nat) (l : Bs) (s : ByteArray) (w : World) (h : Bld B b l w) (hl : l.length ≤ 100000000000) (hs : s.size ≤ 1000000) (hB : B ≤ w.heap.size) :
  Calls Tryz.prog 46 #[.pointer (some ⟨b, 0, none⟩), .string s] w fun e w' => ∃ v, e = .returned v ∧ Bld B b (l ++ s.data.toList) w' ∧ Below B w w' ∧ Oth b w w' := by
 have := Any.Builder_WriteString_k (ρ := Tryz.lays156_ren) { Tryz.lays156 with } Tryz.Builder_Extra_156 B b (Lib.byteCells l) s w h (by rw [Lib.byteCells_length]; omega) hB
 refine Calls.mono this fun e w' hp => ⟨_, hp.1, .inr ?_, hp.2.2.1, hp.2.2.2⟩
 rw [Lib.byteCells_append]; exact hp.2.1
def lineOut (x : LineX) : Bs := (if 0 < x.1.1 ∨ lnOf x ≠ [] then [32] else []) ++ (lnOf x ++ [10])
theorem out_len (x : LineX) : (lineOut x).length ≤ 100002 := by
 have hx := x.2.2
 have : (lnOf x).length = x.1.2.size := (sizeOf _).symm
 unfold lineOut
 simp only [List.length_append, List.length_cons, List.length_nil]
 split <;> simp <;> omega
theorem outs_len (ys : List LineX) : (ys.flatMap lineOut).length ≤ 100002 * ys.length := by
 induction ys with
 | nil => simp
 | cons x ys ih =>
  have := out_len x
  rw [List.flatMap_cons, List.length_append, List.length_cons]; omega
theorem outs_all {s : Bs} {ys : List LineX} (h : AllLn s ys) : ys.flatMap lineOut = printT (spl 10 s) := by
 have hne := spl_ne 10 s
 rw [← h.1] at hne ⊢
 cases ys with
 | nil => exact absurd rfl hne
 | cons x ys =>
  have h0 : x.1.1 = 0 := h.2 0 x rfl
  have hr : ∀ y ∈ ys, 0 < y.1.1 := fun y hy => by
   obtain ⟨j, hj, rfl⟩ := List.mem_iff_getElem.1 hy
   have := h.2 (j + 1) ys[j] (by simp)
   omega
  have e1 : lineOut x = headLine (lnOf x) := by
   unfold lineOut headLine
   by_cases e : lnOf x = []
   ·
    rw [if_neg (by rw [h0]; simp [e]), if_neg (by simp [e])]; simp
   ·
    rw [if_pos (.inr e), if_pos e]; simp
  have e2 : ys.flatMap lineOut = (ys.map lnOf).flatMap tailLine := by
   rw [List.flatMap_map]
   clear e1 h hne h0
   induction ys with
   | nil => rfl
   | cons y ys ih =>
    rw [List.flatMap_cons, List.flatMap_cons, ih (fun z hz => hr z (List.mem_cons_of_mem _ hz))]
    congr 1
    unfold lineOut tailLine
    rw [if_pos (.inl (hr y (by simp)))]; simp
  rw [List.flatMap_cons, List.map_cons, printT, e1, e2]
-- What stays
theorem bld_kept {B b : Nat} {l : Bs} {W W' : World} {row : Option Nat} (h : Bld B b l W) (hg : W.grownBy W' row) (hr : ∀ r, row = some r → ∃ o : Obj, W.heap[r]? = some o ∧ o.isCells = false) : Bld B b l W' := by
 have key : ∀ p, Lib.BuilderAtF tB tU B b p (Lib.byteCells l) W → Lib.BuilderAtF tB tU B b p (Lib.byteCells l) W' := by
  rintro p ⟨hB, v, hb, hown, hne⟩
  refine ⟨hB, v, ?_, hown.kept hg ?_, hne⟩
  ·
   refine (hg.block b (Array.getElem?_eq_some_iff.1 hb).1 fun e => ?_).trans hb
   obtain ⟨o, ho, hc⟩ := hr b e.symm
   rw [hb] at ho; cases ho; cases hc
  ·
   cases hv : v.ownBlock with
   | none => exact .inl rfl
   | some g =>
    right
    intro e
    obtain ⟨c, fz, hk⟩ := Lib.ownsRowF_kind hown g hv
    obtain ⟨o, ho, hc⟩ := hr g e.symm
    rw [hk] at ho; cases ho; cases hc
 exact h.elim (fun x => .inl (key _ x)) (fun x => .inr (key _ x))
theorem heap_kept {W W' : World} {row : Option Nat} {k : Nat} {cs : Array Value} {t : TypeId} {fz : Nat × Nat} (h : W.heap[k]? = some (.cells cs t fz)) (hg : W.grownBy W' row) (hr : ∀ r, row = some r → ∃ o : Obj, W.heap[r]? = some o ∧ o.isCells = false) : W'.heap[k]? = some (.cells cs t fz) := by
 refine (hg.block k (Array.getElem?_eq_some_iff.1 h).1 fun e => ?_).trans h
 obtain ⟨o, ho, hc⟩ := hr k e.symm
 rw [h] at ho; cases ho; cases hc
theorem oth_keeps {B0 b : Nat} {W W' : World} (h : Oth b W W') (hs : W.heap.size ≤ W'.heap.size) (hb : b < B0) : KeepsFrom B0 W W' :=
 ⟨hs, fun i o hB hi ho => h i o hi (fun e => by cases e; omega) (fun c fz e => by rw [e] at ho; cases ho)⟩
theorem heap_oth {W W' : World} {b k : Nat} {cs : Array Value} {t : TypeId} {fz : Nat × Nat} (h : W.heap[k]? = some (.cells cs t fz)) (ho : Oth b W W') (hk : k ≠ b) (ht : t ≠ tU) : W'.heap[k]? = some (.cells cs t fz) :=
 ho k _ h (fun e => hk (Option.some.inj e)) (fun c fz' e => by cases e; exact ht rfl)
theorem cell_heap {W : World} {k i : Nat} {cs : Array Value} {t : TypeId} {fz : Nat × Nat} {v : Value} (h : W.heap[k]? = some (.cells cs t fz)) (hv : cs[i]? = some v) : W.cell? ⟨k, i, none⟩ = some v := by rw [cellRow W k i cs t fz h, hv]
theorem write_any (B b : Nat) (l : Bs) (X Y : ByteArray) (hX : X.size ≤ 90000) (hY : Y.size ≤ 90000) (hl : l.length ≤ 10000000) (w : World) (h : Bld B b l w) (hB : B ≤ w.heap.size) (hbw : b < w.heap.size) :
  Calls Tryz.prog 47 #[.pointer (some ⟨b, 0, none⟩), .agg #[.string X, .string Y]] w (WrPost B b (l ++ printF (X.data.toList, Y.data.toList)) w) := by
 obtain ⟨W0, hW0⟩ : ∃ W0 : World, W0 = (w.alloc (.cells #[.pointer (some ⟨b, 0, none⟩)] 85)).alloc (.cells #[.string X, .string Y] 79) := ⟨_, rfl⟩
 have HS0 : Hid (W0.heap.size = w.heap.size + 2) := Lib.hid (by rw [hW0]; simp)
 have hk0 : W0.heap[w.heap.size]? = some (.cells #[.pointer (some ⟨b, 0, none⟩)] 85 (0, 0)) := by
  rw [hW0]
  exact Below.heap_alloc _ _ _ (by simp) |>.trans (heap_alloc_new w _)
 have hk1 : W0.heap[w.heap.size + 1]? = some (.cells #[.string X, .string Y] 79 (0, 0)) := by
  rw [hW0]
  have := heap_alloc_new (w.alloc (.cells #[.pointer (some ⟨b, 0, none⟩)] 85)) (.cells #[.string X, .string Y] 79)
  simpa using this
 have hb0 : Bld B b l W0 := by rw [hW0]; exact (h.alloc _).alloc _
 have hB0 : Below B w W0 := by rw [hW0]; exact ((Below.refl B w).alloc hB _).alloc (by simp; omega) _
 have hbne : b ≠ w.heap.size := by omega
 have hbne' : b ≠ w.heap.size + 1 := by omega
 have ht1 : 85 ≠ tU := by decide
 have ht2 : 79 ≠ tU := by decide
 have A1 := wstr_any B b l X W0 hb0 (by omega) (by omega) (by have := HS0.out; omega)
 have HK0 := Lib.hid (And.intro hk0 hk1)
 have HBB := Lib.hid hB0
 clear hk0 hk1 hb0 hB0 h
 subst hW0
 refine (callsIn_wide (n := 5)).1 ?_
 refine callsIn_of_wp_marks Tryz.func47 rfl trivial ?_ rfl
 simp only [Tryz.ntmps47, List.size_toArray, List.length_cons, List.length_nil, Nat.reduceAdd, Nat.reduceSub, Array.replicate_succ, Array.replicate_zero, List.push_toArray, List.append_toArray, List.nil_append, List.cons_append]
 gi_wp2_with (refine ⟨trivial, ?_⟩; gi_at_call 46; refine (callsIn_wide.2 A1).mono ?_; rintro e w1 ⟨v1, rfl, hb1, hbe1, ho1⟩; refine Hid.out ?_)
 have hk0 := heap_oth HK0.out.1 ho1 hbne.symm ht1
 have hk1 := heap_oth HK0.out.2 ho1 hbne'.symm ht2
 have d0 := cell_heap (i := 0) hk0 rfl
 have d1 := cell_heap (i := 1) hk1 rfl
 have hs1 := hbe1.size
 have hsz1 := HS0.out
 have A2 := wstr_any B b (l ++ X.data.toList) ⟨#[58]⟩ w1 hb1 (by rw [List.length_append, ← sizeOf]; omega) (by decide) (by omega)
 have HK1 := Lib.hid (And.intro hk0 hk1)
 have HB1 := Lib.hid (HBB.out.trans hbe1)
 clear hk0 hk1 hb1 hbe1 ho1 A1 hs1 hsz1
 refine Lib.hid ?_
 gi_wp2_with (refine ⟨trivial, ?_⟩; gi_at_call 46; refine (callsIn_wide.2 A2).mono ?_; rintro e w2 ⟨v2, rfl, hb2, hbe2, ho2⟩; refine Hid.out ?_)
 have hk0 := heap_oth HK1.out.1 ho2 hbne.symm ht1
 have hk1 := heap_oth HK1.out.2 ho2 hbne'.symm ht2
 have e0 := cell_heap (i := 0) hk0 rfl
 have e1 := cell_heap (i := 1) hk1 rfl
 have HK2 := Lib.hid hk0
 have HB2 := Lib.hid (HB1.out.trans hbe2)
 have HBD := Lib.hid hb2
 clear hk0 hk1 hb2 hbe2 ho2 A2 d0 d1 HK1 HB1
 refine Lib.hid ?_
 gi_wp2_with (refine ⟨trivial, ?_⟩; gi_at_call 95; refine (lines_in _ _ _).mono ?_; rintro e w3 ⟨rfl, rfl⟩)
 have hsz2 : w.heap.size + 2 ≤ w2.heap.size := by
  have h1 := HB2.out.size
  have h2 := (World.block_lt_of_cell? w2 _ e1)
  simp at h2; omega
 have bN : (w2.alloc (.cells #[.string Y] 9)).cell? ⟨w2.heap.size, 0, none⟩ = some (.string Y) := by simp
 obtain ⟨l1, hl1⟩ : ∃ l1, l1 = l ++ X.data.toList ++ (ByteArray.mk #[58]).data.toList := ⟨_, rfl⟩
 have hl1n : l1.length ≤ 10100000 := by
  rw [hl1]; simp only [List.length_append]; rw [← sizeOf X]
  show l.length + X.size + 1 ≤ _; omega
 have hend : ∀ ys, AllLn Y.data.toList ys → l1 ++ ys.flatMap lineOut = l ++ printF (X.data.toList, Y.data.toList) := fun ys hy => by
  rw [outs_all hy, hl1]; unfold printF; simp
 rw [← hl1] at HBD
 have HEND := Lib.hid hend
 clear hl1 hend
 have hBl : B ≤ (w2.alloc (.cells #[.string Y] 9)).heap.size := by simp; omega
 have hBb : b < (w2.alloc (.cells #[.string Y] 9)).heap.size := by simp; omega
 refine wpIn_rangeFunc_ownG rfl (by omega) (gf := 133) (lb := #[.pointer (some ⟨w2.heap.size, 0, none⟩)]) rfl trivial (enters_of Tryz.func133 (by kernel_rfl) rfl)
  (lines_stops _ (by omega) (fun _ _ => True) Y (by omega) w2.heap.size _ (by simp) bN) (fun _ _ => trivial) (fun _ _ _ _ _ _ _ _ => trivial) (Below.refl _ _) (fun _ => rfl)
  (fun pre W => Bld B b (l1 ++ pre.flatMap lineOut) W ∧ W.heap[w.heap.size]? = some (.cells #[.pointer (some ⟨b, 0, none⟩)] 85 (0, 0)) ∧ Below B w W)
  (fun _ _ _ => False)
  (fun s A B' row hs hg hr => ⟨bld_kept hs.1 hg (fun r e => (hr r e).2), heap_kept hs.2.1 hg (fun r e => (hr r e).2), ownFrom_below (β := Unit) hB hBl () A B' row hs.2.2 hg hr⟩)
  (fun _ _ _ _ _ hs _ _ => hs)
  ⟨by rw [List.flatMap_nil, List.append_nil]; exact HBD.out.alloc _, by rw [Below.heap_alloc _ _ _ (by omega)]; exact HK2.out, HB2.out.alloc (by omega) _⟩
  (fun x => { tmps := #[.pointer (some ⟨b, 0, none⟩), .agg #[.string X, .string Y], .pointer (some ⟨w.heap.size, 0, none⟩), .pointer (some ⟨w.heap.size + 1, 0, none⟩), .int .i64 x.1.1, .string x.1.2, .pointer (some ⟨b, 0, none⟩), .pointer (some ⟨w.heap.size + 1, 0, none⟩), .string X, v1, .pointer (some ⟨b, 0, none⟩), v2, .pointer (some ⟨w.heap.size + 1, 1, none⟩), .string Y, .func (.func 133) #[] #[.pointer (some ⟨w2.heap.size, 0, none⟩)], .int .i64 x.1.1, .string x.1.2, undef, undef, undef, undef, undef, undef, undef, undef, undef, undef, undef, undef, undef], defers := [] }) ?assign ?body ?done ?stop
 case assign =>
  intro l x W K hK
  dsimp only [encLn]
  gi_wp2
  exact hK
 case body =>
  have hB9 := hB
  rintro l0 pre ⟨⟨i, L⟩, hi, hL⟩ W ⟨hb, hp, hB⟩ hlt
  have hi' : i ≤ 100000 := hi
  have hL' : L.size ≤ 100000 := hL
  have hLl : L.data.toList.length ≤ 100000 := by rw [← sizeOf]; exact hL'
  have hout := outs_len pre
  have hpl : pre.length ≤ 90000 := by omega
  have hc := cell_heap (i := 0) hp rfl
  have HBC := Lib.hid hb
  have HPC := Lib.hid hp
  have HBE := Lib.hid (Below.refl B W)
  have HOC := Lib.hid (Lib.OthersKept.refl tU (some b) W)
  have HSZ := Lib.hid (Nat.le_refl W.heap.size)
  have hBz := hB.size
  have e0 := emptyT L
  have h10 : (ByteArray.mk #[10]).data.toList.length = 1 := rfl
  have h32 : (ByteArray.mk #[32]).data.toList.length = 1 := rfl
  have HX : Hid (lineOut ⟨(i, L), hi, hL⟩ = (if 0 < i ∨ L.data.toList ≠ [] then [32] else []) ++ (L.data.toList ++ [10])) := Lib.hid rfl
  dsimp only []
  clear hb hp hlt HBD HK2 HB2 HEND bN e1
  by_cases h0 : i = 0
  ·
   by_cases hL0 : L.size = 0
   ·
    have HEQ : Hid (l1 ++ (pre ++ [(⟨(i, L), hi, hL⟩ : LineX)]).flatMap lineOut = l1 ++ pre.flatMap lineOut ++ L.data.toList ++ (ByteArray.mk #[10]).data.toList) := Lib.hid (by
     rw [List.flatMap_append, List.flatMap_cons, List.flatMap_nil, HX.out, if_neg (by
      have : L.data.toList = [] := List.eq_nil_of_length_eq_zero (by rw [← sizeOf]; exact hL0)
      rw [h0, this]; simp)]
     simp)
    rw [decide_eq_true hL0] at e0
    subst h0
    clear hL0 HX
    gi_wp2_with (refine ⟨trivial, ?_⟩; gi_at_call 46; refine (CallsIn.inRound l0 (callsIn_wide.2 (wstr_any B b _ _ _ HBC.out (by simp only [List.length_append]; omega) (by first | decide | omega) (Nat.le_trans hB9 (Nat.le_trans hBz HSZ.out))))).mono ?_; rintro e w3 ⟨v3, rfl, hb3, hbe3, ho3⟩; replace HBC := Lib.hid hb3; have hp3 := heap_oth HPC.out ho3 hbne.symm ht1; have hc := cell_heap (i := 0) hp3 rfl; replace HPC := Lib.hid hp3; replace HBE := Lib.hid (HBE.out.trans hbe3); replace HOC := Lib.hid (HOC.out.trans ho3); replace HSZ := Lib.hid (Nat.le_trans HSZ.out hbe3.size); clear hb3 hbe3 ho3 hp3)
    exact ⟨oth_keeps HOC.out HSZ.out hBb, trivial, by rw [HEQ.out]; exact HBC.out, HPC.out, hB.trans HBE.out⟩
   ·
    have HEQ : Hid (l1 ++ (pre ++ [(⟨(i, L), hi, hL⟩ : LineX)]).flatMap lineOut = l1 ++ pre.flatMap lineOut ++ (ByteArray.mk #[32]).data.toList ++ L.data.toList ++ (ByteArray.mk #[10]).data.toList) := Lib.hid (by
     rw [List.flatMap_append, List.flatMap_cons, List.flatMap_nil, HX.out, if_pos (.inr (fun g => hL0 (by rw [sizeOf, g]; rfl)))]
     simp)
    rw [decide_eq_false hL0] at e0
    subst h0
    clear hL0 HX
    gi_wp2_with (refine ⟨trivial, ?_⟩; gi_at_call 46; refine (CallsIn.inRound l0 (callsIn_wide.2 (wstr_any B b _ _ _ HBC.out (by simp only [List.length_append]; omega) (by first | decide | omega) (Nat.le_trans hB9 (Nat.le_trans hBz HSZ.out))))).mono ?_; rintro e w3 ⟨v3, rfl, hb3, hbe3, ho3⟩; replace HBC := Lib.hid hb3; have hp3 := heap_oth HPC.out ho3 hbne.symm ht1; have hc := cell_heap (i := 0) hp3 rfl; replace HPC := Lib.hid hp3; replace HBE := Lib.hid (HBE.out.trans hbe3); replace HOC := Lib.hid (HOC.out.trans ho3); replace HSZ := Lib.hid (Nat.le_trans HSZ.out hbe3.size); clear hb3 hbe3 ho3 hp3)
    exact ⟨oth_keeps HOC.out HSZ.out hBb, trivial, by rw [HEQ.out]; exact HBC.out, HPC.out, hB.trans HBE.out⟩
  ·
   have hi0 : (0 : Int) < (i : Int) := by omega
   have HEQ : Hid (l1 ++ (pre ++ [(⟨(i, L), hi, hL⟩ : LineX)]).flatMap lineOut = l1 ++ pre.flatMap lineOut ++ (ByteArray.mk #[32]).data.toList ++ L.data.toList ++ (ByteArray.mk #[10]).data.toList) := Lib.hid (by
    rw [List.flatMap_append, List.flatMap_cons, List.flatMap_nil, HX.out, if_pos (.inl (by omega))]
    simp)
   clear h0 HX e0
   gi_wp2_with (refine ⟨trivial, ?_⟩; gi_at_call 46; refine (CallsIn.inRound l0 (callsIn_wide.2 (wstr_any B b _ _ _ HBC.out (by simp only [List.length_append]; omega) (by first | decide | omega) (Nat.le_trans hB9 (Nat.le_trans hBz HSZ.out))))).mono ?_; rintro e w3 ⟨v3, rfl, hb3, hbe3, ho3⟩; replace HBC := Lib.hid hb3; have hp3 := heap_oth HPC.out ho3 hbne.symm ht1; have hc := cell_heap (i := 0) hp3 rfl; replace HPC := Lib.hid hp3; replace HBE := Lib.hid (HBE.out.trans hbe3); replace HOC := Lib.hid (HOC.out.trans ho3); replace HSZ := Lib.hid (Nat.le_trans HSZ.out hbe3.size); clear hb3 hbe3 ho3 hp3)
   exact ⟨oth_keeps HOC.out HSZ.out hBb, trivial, by rw [HEQ.out]; exact HBC.out, HPC.out, hB.trans HBE.out⟩
 case done =>
  rintro D ys W hD hall ⟨hb, hp, hB⟩ hK
  have HF := Lib.hid (HEND.out ys hall)
  clear hall HEND HBD HK2 HB2
  gi_wp2
  refine ⟨by simp, .inl ⟨_, _, rfl, run_takeDeferred hK, ?_⟩⟩
  exact ⟨_, results_none rfl _ _ _, ⟨_, rfl⟩, by rw [← HF.out]; exact bld_kept hb (grownBy_putObj' W D _) (fun r e => by cases e; exact ⟨_, hK, rfl⟩), hB.trans (belowK_b (w := w2) (n₀ := B) (by omega) W D _ _ (by simp at hD; omega) hK rfl rfl)⟩
 case stop =>
  rintro D c pre W _ _ h _
  exact h.elim
end
end Go.Proofs.YtkbkaeefdhkgdaaGreatDoor
