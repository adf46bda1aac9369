/-
  The program's full, slices.ContainsFunc with it, and check: what each returns; nothing old turns.
-/
import Derived.Test.YtomplnncbfdldaaDoorSPGet
import Derived.Deep.RegionHeld3
namespace Go.Proofs.YtomplnncbfdldaaDoor
open Go.RowKit
theorem full2_any (a : Option Addr) (n c : Nat) (hn : n ≤ 90000) (w : World) : Calls Tryd.prog 31 #[.slice a n c] w fun e w' => e = .returned (.bool (decide (64 < n))) ∧ w = w' := by
  by_cases h : 64 < n
  · rw [decide_eq_true h]
    go_enter Tryd.func31, Tryd.ntmps31
    go_wp2
    go_ret
    exact ⟨retb (by simp; omega), rfl⟩
  · rw [decide_eq_false h]
    go_enter Tryd.func31, Tryd.ntmps31
    go_wp2
    go_ret
    exact ⟨retb (by simp; omega), rfl⟩
theorem full1_any (a : Option Addr) (n c : Nat) (hn : n ≤ 90000) (w : World) : Calls Tryd.prog 33 #[.slice a n c] w fun e w' => e = .returned (.bool (decide (64 < n))) ∧ w = w' := by
  by_cases h : 64 < n
  · rw [decide_eq_true h]
    go_enter Tryd.func33, Tryd.ntmps33
    go_wp2
    go_ret
    exact ⟨retb (by simp; omega), rfl⟩
  · rw [decide_eq_false h]
    go_enter Tryd.func33, Tryd.ntmps33
    go_wp2
    go_ret
    exact ⟨retb (by simp; omega), rfl⟩
def longB (st : List Fld) : Bool := decide (64 < st.length)
def IdxPost (l : List (List Fld)) (w : World) (e : Ending) (w' : World) : Prop := ∃ z : Int, e = .returned (.int .i64 z) ∧ decide (0 ≤ z) = l.any longB ∧ w = w'
theorem any_take {l : List (List Fld)} {k : Nat} {st : List Fld} (h : l[k]? = some st) : (l.take (k + 1)).any longB = ((l.take k).any longB || longB st) := by
  rw [List.take_add_one, h, List.any_append]; simp
theorem any_sub {l : List (List Fld)} {k : Nat} (h : (l.take k).any longB = true) : l.any longB = true := by
  rw [List.any_eq_true] at h ⊢
  obtain ⟨y, hy, hy2⟩ := h
  exact ⟨y, List.mem_of_mem_take hy, hy2⟩
set_option maxRecDepth 100000 in
set_option maxHeartbeats 4000000 in
theorem idx_any (v : Value) (l : List (List Fld)) (hl : l.length ≤ 90000) (hll : ∀ st ∈ l, st.length ≤ 90000) (w : World) (h : HoldRR 2 w v (l.map (·.map rowF))) :
    Calls Tryd.prog 48 #[v, .func (.func 33) #[] #[]] w (IdxPost l w) := by
  obtain ⟨a, c, b, o, rfl, hc, ha, hcell⟩ := h
  rw [List.length_map] at hc ha
  rw [List.length_map]
  have HC := Lib.hid (fun (i : Nat) (st : List Fld) (hi : l[i]? = some st) => hcell i (st.map rowF) (by simp [hi]))
  have HS := Lib.hid hll
  have HP : Hid (∀ z : Int, decide (0 ≤ z) = l.any longB → IdxPost l w (.returned (.int .i64 z)) w) := Lib.hid (fun z h => ⟨z, rfl, h, rfl⟩)
  obtain ⟨n, hN⟩ : ∃ n, l.length = n := ⟨_, rfl⟩
  rw [hN] at hc ha hl ⊢
  have HN := Lib.hid hN
  clear hcell hll hN
  have FA := fun (a : Option Addr) (m c : Nat) (hm : m ≤ 90000) w => full1_any a m c hm w
  go_enter Tryd.func48, Tryd.ntmps48
  go_wp2
  go_loop [8] (fun i => ∃ k : Nat, k ≤ n ∧ i = .int .i64 k ∧ Hid ((l.take k).any longB = false)) (fun i => n - (intOf i).toNat)
  case atStart => exact ⟨0, by omega, rfl, Lib.hid rfl⟩
  case round =>
    obtain ⟨k, hk, rfl, H⟩ := hrel
    by_cases hlt : k < n
    · obtain ⟨rfl, hbw⟩ := ha (by omega)
      obtain ⟨st, hst⟩ : ∃ st, l[k]? = some st := ⟨_, List.getElem?_eq_getElem (by rw [HN.out]; exact hlt)⟩
      obtain ⟨u, hu, hr⟩ := HC.out k st hst
      obtain ⟨ai, ci, bi, oi, rfl, hci, hai, hcelli⟩ := hr
      rw [List.length_map] at hu
      have hm1 := HS.out _ (List.mem_of_getElem? hst)
      have htk := any_take hst
      rw [H.out, Bool.false_or] at htk
      unfold longB at htk
      have F := FA ai st.length ci hm1
      obtain ⟨m, hm⟩ : ∃ m, st.length = m := ⟨_, rfl⟩
      rw [hm] at hu hm1 htk F
      clear hst hcelli hai hci hm H FA
      by_cases h64 : 64 < m
      · rw [decide_eq_true h64] at htk F
        have HF : Hid (decide ((0 : Int) ≤ (k : Nat)) = l.any longB) := Lib.hid (by rw [any_sub htk, decide_eq_true (by omega)])
        clear htk h64
        go_wp2_with (go_at_call 33; refine (F _).mono ?_; rintro e w1 ⟨rfl, rfl⟩)
        go_ret
        exact HP.out _ HF.out
      · rw [decide_eq_false h64] at htk F
        have HK := Lib.hid htk
        clear htk h64
        go_wp2_with (go_at_call 33; refine (F _).mono ?_; rintro e w1 ⟨rfl, rfl⟩)
        go_round
        case rel => exact ⟨k + 1, by omega, by go_num, HK⟩
        case measure => simp [intOf]; omega
    · obtain rfl : k = n := by omega
      have HF : Hid (decide ((0 : Int) ≤ -1) = l.any longB) := Lib.hid (by have := H.out; rw [List.take_of_length_le (by rw [HN.out]; omega)] at this; rw [this]; rfl)
      clear hlt H FA
      go_wp2
      go_ret
      exact HP.out _ HF.out
theorem contains_any (v : Value) (l : List (List Fld)) (hl : l.length ≤ 90000) (hll : ∀ st ∈ l, st.length ≤ 90000) (w : World) (h : HoldRR 2 w v (l.map (·.map rowF))) :
    Calls Tryd.prog 32 #[v, .func (.func 33) #[] #[]] w fun e w' => e = .returned (.bool (l.any longB)) ∧ w = w' := by
  have C := idx_any v l hl hll w h
  unfold IdxPost at C
  obtain ⟨R, HR⟩ : ∃ R, Hid (l.any longB = R) := ⟨_, rfl⟩
  rw [HR.out] at C ⊢
  clear h hl hll
  go_enter Tryd.func32, Tryd.ntmps32
  go_wp2_with (go_at_call 48; refine C.mono ?_; rintro e w1 ⟨z, rfl, hz, rfl⟩; have HZ := Lib.hid hz; clear hz)
  go_ret
  exact ⟨retb HZ.out, rfl⟩
theorem HoldR.take2 {w : World} {b o m c t : Nat} {st : List Fld} (h : HoldR 2 w (.slice (some ⟨b, o, none⟩) m c) (st.map rowF)) (ht : t ≤ st.length) : HoldR 2 w (.slice (some ⟨b, o, none⟩) t c) ((st.take t).map rowF) := by
  obtain ⟨a', c', b', o', e, hc, ha, hcell⟩ := h
  rw [List.length_map] at e hc ha
  have hlen : ((st.take t).map rowF).length = t := by rw [List.length_map, List.length_take]; omega
  by_cases h0 : 0 < st.length
  · have e2 := (ha h0)
    simp only [Value.slice.injEq] at e
    obtain ⟨rfl, rfl, rfl⟩ := e
    refine ⟨_, _, b', o', by rw [hlen], by rw [hlen]; omega, fun _ => e2, fun j r hj i x hi hx => ?_⟩
    refine hcell j r ?_ i x hi hx
    rw [List.getElem?_map] at hj ⊢
    by_cases hjt : j < t
    · rwa [List.getElem?_take_of_lt hjt] at hj
    · rw [List.getElem?_eq_none (by rw [List.length_take]; omega)] at hj; cases hj
  · have : t = 0 := by omega
    subst this
    simp only [Value.slice.injEq] at e
    obtain ⟨rfl, rfl, rfl⟩ := e
    exact ⟨some ⟨b, o, none⟩, c, b', o', by simp, by simp, (fun g => absurd g (by simp)), (fun j r hj => by simp at hj)⟩
/-- A field's row in memory, and the rest as it was. -/
theorem FOn {b : Nat} {x y : ByteArray} {w W W1 : World} (h : W.cell? ⟨b, 0, none⟩ = some (.string x) ∧ W.cell? ⟨b, 1, none⟩ = some (.string y) ∧ Below w.heap.size w W) (hb : Below W.heap.size W W1) :
    W1.cell? ⟨b, 0, none⟩ = some (.string x) ∧ W1.cell? ⟨b, 1, none⟩ = some (.string y) ∧ Below w.heap.size w W1 := by
  have l := World.block_lt_of_cell? W _ h.1
  exact ⟨by rw [hb.cell (p := ⟨b, 0, none⟩) l]; exact h.1, by rw [hb.cell (p := ⟨b, 1, none⟩) l]; exact h.2.1, h.2.2.trans (hb.mono h.2.2.size)⟩
theorem FDr {b : Nat} {x y : ByteArray} {w W : World} (h : W.cell? ⟨b, 0, none⟩ = some (.string x) ∧ W.cell? ⟨b, 1, none⟩ = some (.string y) ∧ Below w.heap.size w W) :
    W.drew.cell? ⟨b, 0, none⟩ = some (.string x) ∧ W.drew.cell? ⟨b, 1, none⟩ = some (.string y) ∧ Below w.heap.size w W.drew := FOn h (Below.refl _ _).drew
theorem FBe {b : Nat} {x y : ByteArray} {w W : World} (h : W.cell? ⟨b, 0, none⟩ = some (.string x) ∧ W.cell? ⟨b, 1, none⟩ = some (.string y) ∧ Below w.heap.size w W) : Below w.heap.size w W := h.2.2
def CheckPost (l : List (List Fld)) (w : World) (e : Ending) (w' : World) : Prop := e = .returned (.int .i64 (printE l).2) ∧ Below w.heap.size w w'
set_option maxRecDepth 100000 in
set_option maxHeartbeats 16000000 in
theorem check_any (v : Value) (l : List (List Fld)) (hl : l.length ≤ 90000) (hll : ∀ st ∈ l, st.length ≤ 90000) (hs : ∀ st ∈ l, ∀ f ∈ st, f.1.length ≤ 90000 ∧ f.2.length ≤ 90000) (w : World) (h : HoldRR 2 w v (l.map (·.map rowF))) :
    Calls Tryd.prog 19 #[v] w (CheckPost l w) := by
  have CA := contains_any v l hl hll w h
  obtain ⟨a, c, b, o, rfl, hc, ha, hcell⟩ := h
  rw [List.length_map] at hc ha CA
  rw [List.length_map]
  have F2 := fun w => full2_any a l.length c hl w
  have HC := Lib.hid (fun (i : Nat) (st : List Fld) (hi : l[i]? = some st) => hcell i (st.map rowF) (by simp [hi]))
  have HS := Lib.hid (And.intro hll hs)
  have G22 : Hid ((64 < l.length ∨ l.any longB = true) → ∀ w', Below w.heap.size w w' → CheckPost l w (.returned (.int .i64 22)) w') := Lib.hid (fun g w' h2 => ⟨by unfold printE; rw [if_pos (by simpa [longB] using g)], h2⟩)
  have G1 : Hid (¬ (64 < l.length ∨ l.any longB = true) → l.all stanzaB = false → ∀ w', Below w.heap.size w w' → CheckPost l w (.returned (.int .i64 1)) w') := Lib.hid (fun g g2 w' h2 => ⟨by unfold printE; rw [if_neg (by simpa [longB] using g), if_neg (by rw [g2]; simp)], h2⟩)
  have G0 : Hid (¬ (64 < l.length ∨ l.any longB = true) → l.all stanzaB = true → ∀ w', Below w.heap.size w w' → CheckPost l w (.returned (.int .i64 0)) w') := Lib.hid (fun g g2 w' h2 => ⟨by unfold printE; rw [if_neg (by simpa [longB] using g), if_pos g2], h2⟩)
  obtain ⟨n, hN⟩ : ∃ n, l.length = n := ⟨_, rfl⟩
  rw [hN] at hc ha hl F2 CA ⊢
  have HN := Lib.hid hN
  clear hcell hll hs
  by_cases h64 : 64 < n
  · have G := Lib.hid (G22.out (.inl (by rw [hN]; exact h64)))
    rw [decide_eq_true h64] at F2
    clear hN h64 CA G22 G1 G0
    go_enter Tryd.func19, Tryd.ntmps19
    go_wp2_with (go_at_call 31; refine (F2 _).mono ?_; rintro e w1 ⟨rfl, rfl⟩)
    go_ret
    exact G.out _ (Below.refl _ _)
  rw [decide_eq_false h64] at F2
  cases hany : l.any longB
  case true =>
    have G := Lib.hid (G22.out (.inr hany))
    rw [hany] at CA
    clear hN h64 hany G22 G1 G0
    go_enter Tryd.func19, Tryd.ntmps19
    go_wp2_with (first | (go_at_call 31; refine (F2 _).mono ?_; rintro e w1 ⟨rfl, rfl⟩) | (go_at_call 32; refine CA.mono ?_; rintro e w1 ⟨rfl, rfl⟩))
    go_ret
    exact G.out _ (Below.refl _ _)
  have HNF : Hid (¬ (64 < l.length ∨ l.any longB = true)) := Lib.hid (by rw [hany, hN]; simp; omega)
  rw [hany] at CA
  have HB1 : Hid (l.all stanzaB = false → ∀ w', Below w.heap.size w w' → CheckPost l w (.returned (.int .i64 1)) w') := Lib.hid (G1.out HNF.out)
  have HB0 : Hid (l.all stanzaB = true → ∀ w', Below w.heap.size w w' → CheckPost l w (.returned (.int .i64 0)) w') := Lib.hid (G0.out HNF.out)
  have FA := fun (x y : ByteArray) (hx : x.size ≤ 90000) (hy : y.size ≤ 90000) w => field_any x y hx hy w
  clear hN h64 hany G22 G1 G0 HNF
  go_enter Tryd.func19, Tryd.ntmps19
  go_wp2_with (first | (go_at_call 31; refine (F2 _).mono ?_; rintro e w1 ⟨rfl, rfl⟩) | (go_at_call 32; refine CA.mono ?_; rintro e w1 ⟨rfl, rfl⟩))
  clear CA F2
  go_loopw [17] (fun i wr => ∃ k : Nat, k ≤ n ∧ i = .int .i64 k ∧ Hid (∀ (i : Nat) (hi : i < l.length), i < k → l[i] ≠ [] ∧ ∀ (k : Nat) (hk : k < l[i].length), lower l[i][k].1 ∉ (l[i].take k).map (fun f => lower f.1) ∧ fieldB l[i][k] = true) ∧ Hid (Below w.heap.size w wr)) (fun i _ => n - (intOf i).toNat)
  case atStart => exact ⟨0, by omega, rfl, Lib.hid (fun i hi g => by omega), Lib.hid (Below.refl _ _)⟩
  case round =>
    obtain ⟨k, hk, rfl, H, HB⟩ := hrel
    by_cases hlt : k < n
    · obtain ⟨rfl, hbw⟩ := ha (by omega)
      have hkl : k < l.length := by rw [HN.out]; exact hlt
      obtain ⟨st, hst⟩ : ∃ st, st = l[k] := ⟨_, rfl⟩
      have hst' : l[k]? = some st := by rw [hst]; exact List.getElem?_eq_getElem hkl
      obtain ⟨u, hu0, hr⟩ := HC.out k st hst'
      have hu := (HB.out.cell (p := ⟨b, o + k, none⟩) hbw).trans hu0
      have hr' := hr
      obtain ⟨ai, ci, bi, oi, rfl, hci, hai, hcelli⟩ := hr
      rw [List.length_map] at hu hci hai hr'
      have hm1 := HS.out.1 _ (List.mem_of_getElem? hst')
      have hfs := HS.out.2 _ (List.mem_of_getElem? hst')
      obtain ⟨m, hm⟩ : ∃ m, st.length = m := ⟨_, rfl⟩
      rw [hm] at hu hm1 hci hai hr'
      have HM := Lib.hid hm
      have HFS := Lib.hid hfs
      have HST := Lib.hid hst
      clear hu0 hcelli hfs hst hst'
      by_cases hm0 : m = 0
      · have HE := Lib.hid (HB1.out (stanza_empty hkl (by rw [← HST.out]; exact List.eq_nil_of_length_eq_zero (by rw [HM.out]; exact hm0))))
        subst hm0
        clear hm hr' H HB1 HB0 FA
        go_wp2
        go_ret
        exact HE.out _ HB.out
      · have hmz : ((m : Int) == 0) = false := by rw [beq_eq_false_iff_ne]; omega
        obtain ⟨rfl, hbi⟩ := hai (by omega)
        have HR := Lib.hid hr'
        have hm9 : ¬ m = 0 := hm0
        clear hm hr' hai hm0
        have HM9 := Lib.hid hm9
        clear hm9
        go_wp2
        go_loopw [26] (fun i wx => ∃ t : Nat, t ≤ m ∧ i = .int .i64 t ∧ Hid (∀ (j : Nat) (hj : j < st.length), j < t → lower st[j].1 ∉ (st.take j).map (fun f => lower f.1) ∧ fieldB st[j] = true) ∧ Hid (Below w.heap.size w wx)) (fun i _ => m - (intOf i).toNat)
        case atStart => exact ⟨0, by omega, rfl, Lib.hid (fun j hj g => by omega), HB⟩
        case round =>
          obtain ⟨t, ht, rfl, HI, HBX⟩ := hrel
          by_cases htm : t < m
          · have htl : t < st.length := by rw [HM.out]; exact htm
            obtain ⟨f, hf⟩ : ∃ f, f = st[t] := ⟨_, rfl⟩
            have hf' : st[t]? = some f := by rw [hf]; exact List.getElem?_eq_getElem htl
            have hfz := HFS.out f (List.mem_of_getElem? hf')
            obtain ⟨X, hX⟩ : ∃ X : ByteArray, X.data.toList = f.1 := ⟨⟨f.1.toArray⟩, by simp⟩
            obtain ⟨Y, hY⟩ : ∃ Y : ByteArray, Y.data.toList = f.2 := ⟨⟨f.2.toArray⟩, by simp⟩
            obtain ⟨d0, d1⟩ := rowF_cells (HR.out.on HBX.out) hf' hX hY
            have hXs : X.size ≤ 90000 := by rw [sizeOf, hX]; omega
            have hYs : Y.size ≤ 90000 := by rw [sizeOf, hY]; omega
            have F := FA X Y hXs hYs
            have hfe : (X.data.toList, Y.data.toList) = f := by rw [hX, hY]
            have hsz := HBX.out.size
            have hn0 := (boxNew wr X Y 39 0)
            have HA1 : Hid (Below w.heap.size w (wr.alloc (.cells #[.string X, .string Y] 39))) := Lib.hid (HBX.out.alloc hsz _)
            have HBXC := Lib.hid hn0
            rw [hfe] at F
            cases hfb : fieldB f
            · have HE := Lib.hid (HB1.out (stanza_bad hkl (k := t) (by rw [← HST.out]; exact htl) (.inr (by simp only [← HST.out]; rw [← hf]; exact hfb))))
              rw [hfb] at F
              clear hfb hf hf' hfz hX hY hfe hn0 HI H HB1 HB0 FA
              go_wp2_with (go_at_call 12; refine (F _).mono ?_; rintro e w2 ⟨rfl, hb⟩; have HF2 : Hid (Below w.heap.size w w2) := Lib.hid (HA1.out.trans (hb.mono HA1.out.size)); clear hb)
              go_ret
              exact HE.out _ HF2.out
            · rw [hfb] at F
              have HRT : Hid (HoldR 2 w (.slice (some ⟨bi, oi, none⟩) t ci) ((st.take t).map rowF)) := Lib.hid (HR.out.take2 (by omega))
              have GA := fun w' (hw : HoldR 2 w' (.slice (some ⟨bi, oi, none⟩) t ci) ((st.take t).map rowF)) => get_any (.slice (some ⟨bi, oi, none⟩) t ci) (st.take t) X (by rw [List.length_take]; omega) (fun g hg => HFS.out g (List.mem_of_mem_take hg)) hXs w' hw
              unfold PGetPost at GA
              have HM1 := Lib.hid (hasN_mem X.data.toList (st.take t))
              have HYES : Hid (hasN X.data.toList (st.take t) = true → l.all stanzaB = false) := Lib.hid (fun g => stanza_bad hkl (k := t) (by rw [← HST.out]; exact htl) (.inl (by
                have := HM1.out.1 g
                rw [hX] at this
                simp only [← HST.out]; rw [← hf]; exact this)))
              have HNO : Hid (hasN X.data.toList (st.take t) = false → ∀ (j : Nat) (hj : j < st.length), j < t + 1 → lower st[j].1 ∉ (st.take j).map (fun f => lower f.1) ∧ fieldB st[j] = true) := Lib.hid (fun g j hj hjt => by
                by_cases e : j = t
                · subst e
                  rw [← hf]
                  exact ⟨(fun g2 => by rw [← hX] at g2; rw [HM1.out.2 g2] at g; cases g), hfb⟩
                · exact HI.out j hj (by omega))
              generalize hasN X.data.toList (st.take t) = q at *
              clear hfb hf hf' hfz hX hY hfe hn0 HI FA HM1
              go_wp2_with (go_at_call 12; refine (F _).mono ?_; rintro e w2 ⟨rfl, hb⟩; have HF2 : Hid (Below w.heap.size w w2) := Lib.hid (HA1.out.trans (hb.mono HA1.out.size)); obtain ⟨c0, c1⟩ := box2 HBXC.out hb; clear hb)
              have hti : t ≤ ci := by omega
              have hti0 : (0 : Int) ≤ (t : Int) := by omega
              have hti1 : (t : Int) ≤ (ci : Int) := by omega
              have hf2 := HF2.out
              obtain ⟨b0, hb0⟩ : ∃ b0, b0 = wr.heap.size := ⟨_, rfl⟩
              rw [← hb0] at c0 c1 ⊢
              clear hb0 F HR d0 d1
              go_region_held3 (fun W => W.cell? ⟨b0, 0, none⟩ = some (.string X) ∧ W.cell? ⟨b0, 1, none⟩ = some (.string Y) ∧ Below w.heap.size w W)
                (first | assumption | exact ⟨c0, c1, hf2⟩ | exact FDr ⟨c0, c1, hf2⟩ | exact FOn (by assumption) (by assumption))
                ((go_at_call 34; refine (GA _ (HRT.out.on (FBe (b := b0) (x := X) (y := Y) (by assumption)))).mono ?_; rintro e w3 ⟨T, rfl, hb⟩))
              all_goals
                rename_i hHeld
                have HW3 := Lib.hid hHeld.2.2
                clear hHeld
                cases q
                · have HK := Lib.hid (HNO.out rfl)
                  clear HYES HNO
                  go_wp2
                  go_roundw
                  case rel => exact ⟨t + 1, by omega, by go_num, HK, HW3⟩
                  case measure => simp [intOf]; omega
                · have HE := Lib.hid (HB1.out (HYES.out rfl))
                  clear HYES HNO
                  go_wp2
                  go_ret
                  exact HE.out _ HW3.out
          · obtain rfl : t = m := by omega
            have HK : Hid (∀ (i : Nat) (hi : i < l.length), i < k + 1 → l[i] ≠ [] ∧ ∀ (k : Nat) (hk : k < l[i].length), lower l[i][k].1 ∉ (l[i].take k).map (fun f => lower f.1) ∧ fieldB l[i][k] = true) := Lib.hid (fun i hi g => by
              by_cases e : i = k
              · subst e
                rw [← HST.out]
                exact ⟨(fun g2 => HM9.out (by rw [← HM.out, g2]; rfl)), fun j hj => HI.out j hj (by rw [HM.out] at hj; exact hj)⟩
              · exact H.out i hi (by omega))
            clear htm HI H HB1 HB0 FA
            go_wp2
            go_roundw
            case rel => exact ⟨k + 1, by omega, by go_num, HK, HBX⟩
            case measure => simp [intOf]; omega
    · obtain rfl : k = n := by omega
      have HE := Lib.hid (HB0.out (stanza_all (fun i hi => H.out i hi (by rw [HN.out] at hi; exact hi))))
      clear hlt H HB1 HB0 FA
      go_wp2
      go_ret
      exact HE.out _ HB.out
end Go.Proofs.YtomplnncbfdldaaDoor
