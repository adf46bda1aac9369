import Derived.Test.YtkbkaeefdhkgdaaGreatDoorGSPrintM
set_option maxRecDepth 100000
set_option maxHeartbeats 32000000
namespace Go.Proofs.YtkbkaeefdhkgdaaGreatDoor
open Go.RowKit
def PrintPost (l : List (List Fld)) (w : World) (e : Ending) (w' : World) : Prop := e = .returned (.tuple #[.string ⟨(printE l).1.toArray⟩, .int .i64 (printE l).2]) ∧ Below w.heap.size w w'
theorem box2 {A B : World} {b : Nat} {x y : ByteArray} (h : A.cell? ⟨b, 0, none⟩ = some (.string x) ∧ A.cell? ⟨b, 1, none⟩ = some (.string y)) (hb : Below A.heap.size A B) : B.cell? ⟨b, 0, none⟩ = some (.string x) ∧ B.cell? ⟨b, 1, none⟩ = some (.string y) := by
 have hlt := World.block_lt_of_cell? A _ h.1
 have k := fun o => hb.cell (p := ⟨b, o, none⟩) hlt
 exact ⟨by rw [k]; exact h.1, by rw [k]; exact h.2⟩
theorem boxNew (A : World) (x y : ByteArray) (t : TypeId) (q : Nat) : ((A.alloc (.cells #[.string x, .string y] t)).drewN q).cell? ⟨A.heap.size, 0, none⟩ = some (.string x) ∧ ((A.alloc (.cells #[.string x, .string y] t)).drewN q).cell? ⟨A.heap.size, 1, none⟩ = some (.string y) := by
 rw [World.cell?_drewN, World.cell?_drewN]; simp [World.cell?_alloc_new]
theorem len_of {a b c : Bs} (h : a ++ b = c) : a.length + b.length = c.length := by rw [← h, List.length_append]
theorem print_ref (v : Value) (l : List (List Fld)) (hl : l.length ≤ 20000) (hll : ∀ st ∈ l, st.length ≤ 20000) (hs : ∀ st ∈ l, ∀ f ∈ st, f.1.length ≤ 100000 ∧ f.2.length ≤ 100000) (hb : (printSs l).length ≤ 1000000) (w : World) (h : HoldRR 2 w v (l.map (·.map rowF))) :
  Calls Tryz.prog 22 #[v] w (PrintPost l w) := by
 obtain ⟨a, c, b, o, rfl, hc, ha, hcell⟩ := h
 rw [List.length_map] at hc ha
 rw [List.length_map]
 have HC := Lib.hid (fun (i : Nat) (st : List Fld) (hi : l[i]? = some st) => hcell i (st.map rowF) (by simp [hi]))
 have HS := Lib.hid (And.intro hll hs)
 have HBD := Lib.hid hb
 have G22 : (64 < l.length ∨ l.any (fun st => decide (64 < st.length)) = true) → Hid (∀ e w', e = .returned (.tuple #[.string ⟨#[]⟩, .int .i64 22]) → Below w.heap.size w w' → PrintPost l w e w') := fun g => Lib.hid (fun e w' h1 h2 => ⟨by unfold printE; rw [if_pos g]; exact h1, h2⟩)
 have G1 : ¬ (64 < l.length ∨ l.any (fun st => decide (64 < st.length)) = true) → l.all stanzaB = false → Hid (∀ e w', e = .returned (.tuple #[.string ⟨#[]⟩, .int .i64 1]) → Below w.heap.size w w' → PrintPost l w e w') := fun g g2 => Lib.hid (fun e w' h1 h2 => ⟨by unfold printE; rw [if_neg g, if_neg (by rw [g2]; simp)]; exact h1, h2⟩)
 have G0 : ¬ (64 < l.length ∨ l.any (fun st => decide (64 < st.length)) = true) → l.all stanzaB = true → Hid (∀ (S : ByteArray) e w', S.data.toList = printSs l → e = .returned (.tuple #[.string S, .int .i64 0]) → Below w.heap.size w w' → PrintPost l w e w') := fun g g2 => Lib.hid (fun S e w' hS h1 h2 => ⟨by unfold printE; rw [if_neg g, if_pos g2, ← strOf hS]; exact h1, h2⟩)
 have H22 := Lib.hid G22
 have H1 := Lib.hid G1
 have H0 := Lib.hid G0
 obtain ⟨n, hN⟩ : ∃ n, l.length = n := ⟨_, rfl⟩
 rw [hN] at hc ha hl ⊢
 have HN := Lib.hid hN
 clear hcell hll hs hb G22 G1 G0
 by_cases h64 : 64 < n
 ·
  have G := H22.out (.inl (by rw [hN]; exact h64))
  clear hN
  go_enter Tryz.func22, Tryz.ntmps22
  go_wp2
  go_ret2
  exact G.out _ _ rfl (Below.refl _ _)
 clear hN
 go_enter Tryz.func22, Tryz.ntmps22
 go_wp2
 go_loop [4] (fun i => ∃ k : Nat, k ≤ n ∧ i = .int .i64 k ∧ Hid (∀ (j : Nat) (hj : j < l.length), j < k → l[j].length ≤ 64)) (fun i => n - (intOf i).toNat)
 case atStart => exact ⟨0, by omega, rfl, Lib.hid (fun j hj g => by omega)⟩
 case round =>
  obtain ⟨k, hk, rfl, H⟩ := hrel
  by_cases hlt : k < n
  ·
   obtain ⟨rfl, hbw⟩ := ha (by omega)
   obtain ⟨st, hst⟩ : ∃ st, l[k]? = some st := ⟨_, List.getElem?_eq_getElem (by rw [HN.out]; exact hlt)⟩
   obtain ⟨u, hu, hr⟩ := HC.out k st hst
   obtain ⟨ai, ci, bi, oi, rfl, hci, hai, hcelli⟩ := hr
   rw [List.length_map] at hu hci hai
   have hm1 := HS.out.1 _ (List.mem_of_getElem? hst)
   have HST := Lib.hid hst
   obtain ⟨m, hm⟩ : ∃ m, st.length = m := ⟨_, rfl⟩
   rw [hm] at hu hci hai hm1
   have HM := Lib.hid hm
   clear hcelli hm hai hst
   by_cases hm64 : 64 < m
   ·
    have G := H22.out (.inr (by rw [List.any_eq_true]; exact ⟨st, List.mem_of_getElem? HST.out, by rw [HM.out]; exact decide_eq_true hm64⟩))
    go_wp2
    go_ret2
    exact G.out _ _ rfl (Below.refl _ _)
   ·
    have HK : Hid (∀ (j : Nat) (hj : j < l.length), j < k + 1 → l[j].length ≤ 64) := Lib.hid (fun j hj g => by
     by_cases e : j = k
     ·
      subst e; rw [(List.getElem?_eq_some_iff.1 HST.out).2, HM.out]; omega
     ·
      exact H.out j hj (by omega))
    go_wp2
    go_round
    case rel => exact ⟨k + 1, by omega, by go_num, HK⟩
    case measure => simp [intOf]; omega
  ·
   obtain rfl : k = n := by omega
   have hno : ¬ (64 < l.length ∨ l.any (fun st => decide (64 < st.length)) = true) := by
    rintro (g | g)
    ·
     rw [HN.out] at g; omega
    ·
     rw [List.any_eq_true] at g
     obtain ⟨st, hst, g⟩ := g
     obtain ⟨j, hj, rfl⟩ := List.mem_iff_getElem.1 hst
     have := H.out j hj (by rw [← HN.out]; exact hj)
     simp at g; omega
   have K1 := Lib.hid (H1.out hno)
   have K0 := Lib.hid (H0.out hno)
   clear hno H hlt H22 H1 H0
   go_wp2
   go_loopw [5, 6] (fun s i wr => ∃ (k' : Nat) (S : ByteArray), k' ≤ k ∧ i = .int .i64 k' ∧ s = .string S ∧ Hid (S.data.toList ++ leftSs l k' = printSs l) ∧ Hid (∀ (j : Nat) (hj : j < l.length), j < k' → l[j] ≠ [] ∧ ∀ (t : Nat) (ht : t < l[j].length), lower l[j][t].1 ∉ (l[j].take t).map (fun f => lower f.1) ∧ fieldB l[j][t] = true) ∧ Hid (Below w.heap.size w wr)) (fun _ i _ => k - (intOf i).toNat)
   case atStart => exact ⟨0, ⟨#[]⟩, by omega, rfl, rfl, Lib.hid (by unfold leftSs; rw [if_pos rfl]; rfl), Lib.hid (fun j hj g => by omega), Lib.hid (Below.refl _ _)⟩
   case round =>
    obtain ⟨i, S, hi, rfl, rfl, HL, HK, HB⟩ := hrel
    obtain ⟨wo, rfl⟩ : ∃ wo : World, wo = wr := ⟨_, rfl⟩
    have hSz : S.size ≤ 1000000 := by rw [sizeOf]; have := len_of HL.out; have := HBD.out; omega
    by_cases hlt : i < k
    ·
     obtain ⟨rfl, hbw⟩ := ha (by omega)
     obtain ⟨st, hst⟩ : ∃ st, l[i]? = some st := ⟨_, List.getElem?_eq_getElem (by rw [HN.out]; exact hlt)⟩
     obtain ⟨u, hu0, hr0⟩ := HC.out i st hst
     have hu : wo.cell? ⟨b, o + i, none⟩ = some u := (HB.out.cell (p := ⟨b, o + i, none⟩) hbw).trans hu0
     have HRR := Lib.hid (hr0.on HB.out)
     have hr := HRR.out
     obtain ⟨ai, ci, bi, oi, rfl, hci, hai, hcelli⟩ := hr
     rw [List.length_map] at hu hci hai
     have hm1 := HS.out.1 _ (List.mem_of_getElem? hst)
     have HST := Lib.hid (List.getElem?_eq_some_iff.1 hst)
     obtain ⟨m, hm⟩ : ∃ m, st.length = m := ⟨_, rfl⟩
     rw [List.length_map, hm] at HRR hr0 hu0
     rw [hm] at hu hci hai hm1
     have HM := Lib.hid hm
     have HU0 := Lib.hid hu0
     have HR0 := Lib.hid hr0
     clear hcelli hm hu0 hr0 hst
     by_cases hm0 : m = 0
     ·
      have G := K1.out (by obtain ⟨h1, h2⟩ := HST.out; exact stanza_empty h1 (List.eq_nil_of_length_eq_zero (by rw [h2, HM.out]; exact hm0)))
      have e0 : ((m : Int) == 0) = true := by simp [hm0]
      go_wp2
      go_ret2
      exact G.out _ _ rfl HB.out
     ·
      have e0 : ((m : Int) == 0) = false := by rw [beq_eq_false_iff_ne]; omega
      have HLF : Hid ((i = 0 → S.data.toList ++ (printS st ++ tailSs l (i + 1)) = printSs l) ∧ (¬ i = 0 → (S ++ ⟨#[10]⟩).data.toList ++ (printS st ++ tailSs l (i + 1)) = printSs l)) := Lib.hid (by
       obtain ⟨h1, h2⟩ := HST.out
       constructor
       ·
        intro g; subst g; rw [← HL.out, left_first h1, h2]
       ·
        intro g; rw [← HL.out, left_next g h1, ByteArray.data_append, h2]; simp)
      clear HL
      go_upto_if 41 with fail
      go_cut [5] from 28 to 112 (fun s wx => ∃ S' : ByteArray, s = .string S' ∧ wx = wo ∧ Hid (S'.data.toList ++ (printS st ++ tailSs l (i + 1)) = printSs l))
      case first =>
       by_cases hi0 : i = 0
       ·
        have HX := Lib.hid (HLF.out.1 hi0)
        subst hi0
        clear HLF
        go_wp2
        go_meet
        case rel => exact ⟨S, rfl, rfl, HX⟩
       ·
        have HX := Lib.hid (HLF.out.2 hi0)
        have hi1 : 0 < i := by omega
        have h1s : ∀ x, (ByteArray.mk #[x]).size = 1 := fun _ => rfl
        clear HLF hi0
        go_wp2
        go_meet
        case rel => exact ⟨_, rfl, rfl, HX⟩
      case rest =>
       obtain ⟨S1, rfl, rfl, HX⟩ := hcut
       clear HLF
       go_wp2
       go_loopw [5, 7] (fun s i' wr => ∃ (t : Nat) (S : ByteArray), t ≤ m ∧ i' = .int .i64 t ∧ s = .string S ∧ Hid (S.data.toList ++ (printS (st.drop t) ++ tailSs l (i + 1)) = printSs l) ∧ Hid (∀ (t' : Nat) (ht : t' < st.length), t' < t → lower st[t'].1 ∉ (st.take t').map (fun f => lower f.1) ∧ fieldB st[t'] = true) ∧ Hid (Below w.heap.size w wr)) (fun _ i' _ => m - (intOf i').toNat)
       case atStart => exact ⟨0, S1, by omega, rfl, rfl, HX, Lib.hid (fun t ht g => by omega), HB⟩
       case round =>
        obtain ⟨t, S, ht, rfl, rfl, HL3, HK3, HB3⟩ := hrel
        obtain ⟨w3, rfl⟩ : ∃ w3 : World, w3 = wr := ⟨_, rfl⟩
        have hS3 : S.size ≤ 1000000 := by rw [sizeOf]; have := len_of HL3.out; have := HBD.out; omega
        have hu3 : w3.cell? ⟨b, o + i, none⟩ = some (.slice ai m ci) := (HB3.out.cell (p := ⟨b, o + i, none⟩) hbw).trans HU0.out
        by_cases htm : t < m
        ·
         obtain ⟨rfl, hbi⟩ := hai (by omega)
         have HR3 := Lib.hid (HR0.out.on HB3.out)
         obtain ⟨f, hf⟩ : ∃ f, st[t]? = some f := ⟨_, List.getElem?_eq_getElem (by rw [HM.out]; exact htm)⟩
         have HF := Lib.hid (List.getElem?_eq_some_iff.1 hf)
         obtain ⟨x, hx⟩ : ∃ x : ByteArray, x.data.toList = f.1 := ⟨⟨(f.1).toArray⟩, by simp⟩
         obtain ⟨y, hy⟩ : ∃ y : ByteArray, y.data.toList = f.2 := ⟨⟨(f.2).toArray⟩, by simp⟩
         obtain ⟨c0, c1⟩ := rowF_cells HR3.out hf hx hy
         have hsf := HS.out.2 st (List.mem_of_getElem? (List.getElem?_eq_some_iff.2 HST.out)) f (List.mem_of_getElem? hf)
         rw [← hx, ← hy, ← sizeOf, ← sizeOf] at hsf
         obtain ⟨hxs, hys⟩ := hsf
         go_upto_region 20 with fail
         have hb4 : Below w3.heap.size w3 (w3.alloc (.cells #[.string x, .string y] 79)) := (Below.refl _ _).alloc (Nat.le_refl _) _
         have hu4 : (w3.alloc (.cells #[.string x, .string y] 79)).cell? ⟨b, o + i, none⟩ = some (.slice (some ⟨bi, oi, none⟩) m ci) := (hb4.cell (p := ⟨b, o + i, none⟩) (World.block_lt_of_cell? _ _ hu3)).trans hu3
         have hbx := boxNew w3 x y 79 0
         simp only [World.cell?_drewN] at hbx
         have HR4 := Lib.hid ((HR3.out.on hb4).cut t (by omega))
         have HBW := Lib.hid ((HB3.out).trans (hb4.mono HB3.out.size))
         have hlt3 : w3.heap.size < (w3.alloc (.cells #[.string x, .string y] 79)).heap.size := by simp
         generalize (w3.alloc (.cells #[.string x, .string y] 79)) = W4 at *
         obtain ⟨hb0, hb1⟩ := hbx
         have HX4 := Lib.hid (And.intro hb0 hb1)
         have GG := fun q => get_ref (.slice (some ⟨bi, oi, none⟩) t ci) (st.take t) (by rw [List.length_take]; omega) (fun g hg => (HS.out.2 st (List.mem_of_getElem? (List.getElem?_eq_some_iff.2 HST.out)) g (List.mem_of_mem_take hg)).1) x hxs (W4.drewN q) (by rw [List.map_take]; exact HR4.out.on (belowQ (Below.refl _ _) _))
         unfold GetPost at GG
         have hgs := getF_snd (st.take t) x.data.toList
         obtain ⟨gs, hg1⟩ : ∃ gs : ByteArray, gs = ⟨(getF (st.take t) x.data.toList).1.toArray⟩ := ⟨_, rfl⟩
         simp only [← hg1] at GG
         obtain ⟨gb, hgb⟩ : ∃ gb, gb = (getF (st.take t) x.data.toList).2 := ⟨_, rfl⟩
         simp only [← hgb] at GG
         rw [← hgb, hx] at hgs
         have HGS := Lib.hid hgs
         clear hg1 hgb c0 c1 hu3 hf hb4 hgs
         have htci : t ≤ ci := by omega
         go_quiet ((go_at_call 50; exact Calls.quiet_of_same (GG _)))
         cases gb with
         | true =>
          have G := K1.out (by
           obtain ⟨h1, h2⟩ := HST.out
           obtain ⟨h3, h4⟩ := HF.out
           subst h2
           exact stanza_bad h1 h3 (.inl (by rw [h4]; exact of_decide_eq_true HGS.out.symm)))
          clear HGS GG HK3 HL3
          go_wp2
          go_ret2
          exact G.out _ _ rfl (belowQ HBW.out _)
         | false =>
          have hni := of_decide_eq_false HGS.out.symm
          have F := fun w => field_ref x y hxs hys w
          obtain ⟨fb, hfb⟩ : ∃ fb, fieldB (x.data.toList, y.data.toList) = fb := ⟨_, rfl⟩
          simp only [hfb] at F
          rw [hx, hy] at hfb
          have HIN := Lib.hid (And.intro hni hfb)
          have SP : ∀ w, Calls Tryz.prog 36 #[.string y, .int .u8 10] w fun e w' => ∃ v, e = .returned v ∧ OwnT w' w.heap.size v (spl 10 y.data.toList) ∧ Below w.heap.size w w' := fun w => split_ref6 y hys 10 w
          have hln := spl_len 10 y.data.toList
          have hpc := spl_piece 10 y.data.toList
          have hne := spl_ne 10 y.data.toList
          rw [← sizeOf] at hln
          have HST4 : Hid (((S ++ x) ++ ⟨#[58]⟩).data.toList ++ (leftT (spl 10 y.data.toList) 0 ++ (printS (st.drop (t + 1)) ++ tailSs l (i + 1))) = printSs l) := Lib.hid (by
           obtain ⟨h3, h4⟩ := HF.out
           have hd := printS_drop h3
           rw [h4, ← hx, ← hy] at hd
           rw [← HL3.out, hd]
           unfold leftT
           simp)
          clear HGS GG hni hfb HL3
          obtain ⟨ls, hls⟩ : ∃ ls, spl 10 y.data.toList = ls := ⟨_, rfl⟩
          simp only [hls] at SP hln hpc hne HST4
          have HLZ := Lib.hid (fun (z : Bs) (hz : z ∈ ls) => Nat.le_trans (hpc z hz) (by rw [← sizeOf]; exact hys))
          have HLN := Lib.hid hne
          obtain ⟨p, hp⟩ : ∃ p, ls.length = p := ⟨_, rfl⟩
          rw [hp] at hln
          have HPL := Lib.hid hp
          have hpb : p ≤ 100001 := by omega
          clear hls hpc hne hp hx hy
          have h1s : ∀ x, (ByteArray.mk #[x]).size = 1 := fun _ => rfl
          cases fb with
          | false =>
           have G := K1.out (by
            obtain ⟨h1, h2⟩ := HST.out
            obtain ⟨h3, h4⟩ := HF.out
            subst h2
            exact stanza_bad h1 h3 (.inr (by rw [h4]; exact HIN.out.2)))
           clear SP HST4 HK3
           go_wp2_with (go_at_call 51; (with_reducible refine (F _).mono ?_); rintro e w5 ⟨rfl, hb5⟩)
           go_ret2
           exact G.out _ _ rfl ((belowQ HBW.out _).trans (hb5.mono (belowQ HBW.out _).size))
          | true =>
           have HK3' : Hid (∀ (t' : Nat) (ht : t' < st.length), t' < t + 1 → lower st[t'].1 ∉ (st.take t').map (fun f => lower f.1) ∧ fieldB st[t'] = true) := Lib.hid (fun t' ht' g => by
            by_cases e : t' = t
            ·
             subst e
             obtain ⟨h3, h4⟩ := HF.out
             rw [h4]
             exact HIN.out
            ·
             exact HK3.out t' ht' (by omega))
           clear HK3
           go_wp2_with (first
            | (go_at_call 51; (with_reducible refine (F _).mono ?_); rintro e w5 ⟨rfl, hb5⟩; have hx5 := box2 (b := w3.heap.size) (x := x) (y := y) (by simpa only [World.cell?_drewN] using HX4.out) hb5; obtain ⟨q0, q1⟩ := hx5; have HX5 := Lib.hid (And.intro q0 q1); have HB5 := Lib.hid ((belowQ HBW.out _).trans (hb5.mono (belowQ HBW.out _).size)); clear hb5 hb0 hb1)
            | (go_at_call 36; (with_reducible refine (SP _).mono ?_); rintro e w6 ⟨v6, rfl, ho, hb6⟩; obtain ⟨al, cl, bl, ol, rfl, hcl, hal, hlc⟩ := ho.holds; have hx6 := box2 HX5.out hb6; obtain ⟨r0, r1⟩ := hx6; have HLC := Lib.hid hlc; have HB6 := Lib.hid (HB5.out.trans (hb6.mono HB5.out.size)); rw [HPL.out]; rw [HPL.out] at hcl hal; clear ho hb6 hlc q0 q1; refine Hid.out ?_))
           refine Lib.hid ?_
           go_wp2
           go_loop [5, 12] (fun s i' => ∃ (j : Nat) (S' : ByteArray), j ≤ p ∧ i' = .int .i64 j ∧ s = .string S' ∧ Hid (S'.data.toList ++ (leftT ls j ++ (printS (st.drop (t + 1)) ++ tailSs l (i + 1))) = printSs l)) (fun _ i' => p - (intOf i').toNat)
           case atStart => exact ⟨0, _, by omega, rfl, rfl, HST4⟩
           case round =>
            obtain ⟨j, S', hj, rfl, rfl, HL4⟩ := hrel
            have hS4 : S'.size ≤ 1000000 := by rw [sizeOf]; have := len_of HL4.out; have := HBD.out; omega
            by_cases hjp : j < p
            ·
             obtain ⟨rfl, hbl⟩ := hal (by omega)
             obtain ⟨z, hz, hcz⟩ : ∃ z : ByteArray, z.data.toList = ls[j]'(by rw [HPL.out]; exact hjp) ∧ w6.cell? ⟨bl, ol + j, none⟩ = some (.string z) := ⟨⟨(ls[j]'(by rw [HPL.out]; exact hjp)).toArray⟩, by simp, HLC.out j _ (List.getElem?_eq_getElem _)⟩
             have hzs : z.size ≤ 100000 := by
              have := HLZ.out _ (List.getElem_mem (l := ls) (n := j) (by rw [HPL.out]; exact hjp))
              rw [← hz, ← sizeOf] at this; exact this
             have hez := emptyT z
             by_cases hj0 : j = 0
             ·
              subst hj0
              have hlh := leftT_head (ls := ls) (by rw [HPL.out]; exact hjp)
              rw [← hz] at hlh
              simp only [Nat.add_zero] at hcz
              by_cases hz0 : z.size = 0
              ·
               rw [decide_eq_true hz0] at hez
               have HNX : Hid (((S' ++ z) ++ ⟨#[10]⟩).data.toList ++ (leftT ls 1 ++ (printS (st.drop (t + 1)) ++ tailSs l (i + 1))) = printSs l) := Lib.hid (by
                have hzn : z.data.toList = [] := List.eq_nil_of_length_eq_zero (by rw [← sizeOf]; exact hz0)
                rw [← HL4.out, hlh, if_neg (by rw [hzn]; simp)]; simp)
               clear hlh hz hz0 HL4
               go_wp2
               go_round
               case rel => exact ⟨1, _, by omega, rfl, rfl, HNX⟩
               case measure => simp [intOf]; omega
              ·
               rw [decide_eq_false hz0] at hez
               have HNX : Hid ((((S' ++ ⟨#[32]⟩) ++ z) ++ ⟨#[10]⟩).data.toList ++ (leftT ls 1 ++ (printS (st.drop (t + 1)) ++ tailSs l (i + 1))) = printSs l) := Lib.hid (by
                have hzn : z.data.toList ≠ [] := fun e => hz0 (by rw [sizeOf, e]; rfl)
                rw [← HL4.out, hlh, if_pos hzn]; simp)
               clear hlh hz hz0 HL4
               go_wp2
               go_round
               case rel => exact ⟨1, _, by omega, rfl, rfl, HNX⟩
               case measure => simp [intOf]; omega
             ·
              have hln := leftT_next hj0 (ls := ls) (by rw [HPL.out]; exact hjp)
              rw [← hz] at hln
              have HNX : Hid ((((S' ++ ⟨#[32]⟩) ++ z) ++ ⟨#[10]⟩).data.toList ++ (leftT ls (j + 1) ++ (printS (st.drop (t + 1)) ++ tailSs l (i + 1))) = printSs l) := Lib.hid (by rw [← HL4.out, hln]; simp)
              have hj1 : 0 < j := by omega
              clear hln hz hj0 HL4 hez
              go_wp2
              go_round
              case rel => exact ⟨j + 1, _, by omega, by go_num, rfl, HNX⟩
              case measure => simp [intOf]; omega
            ·
             obtain rfl : j = p := by omega
             have HEND : Hid (S'.data.toList ++ (printS (st.drop (t + 1)) ++ tailSs l (i + 1)) = printSs l) := Lib.hid (by have h1 := HL4.out; rwa [← HPL.out, leftT_end HLN.out, List.nil_append] at h1)
             clear hjp HL4
             go_wp2
             go_roundw
             case rel => exact ⟨t + 1, S', by omega, by go_num, rfl, HEND, HK3', HB6⟩
             case measure => simp [intOf]; omega
        ·
         obtain rfl : t = m := by omega
         have HEND : Hid (S.data.toList ++ leftSs l (i + 1) = printSs l) := Lib.hid (by have h1 := HL3.out; rwa [← HM.out, printS_end, List.nil_append, left_tail] at h1)
         have HK' : Hid (∀ (j : Nat) (hj : j < l.length), j < i + 1 → l[j] ≠ [] ∧ ∀ (t : Nat) (ht : t < l[j].length), lower l[j][t].1 ∉ (l[j].take t).map (fun f => lower f.1) ∧ fieldB l[j][t] = true) := Lib.hid (fun j hj g => by
          by_cases e : j = i
          ·
           subst e
           rw [HST.out.2]
           exact ⟨fun e2 => hm0 (by rw [← HM.out, e2]; rfl), fun t' ht' => HK3.out t' ht' (by rw [← HM.out]; exact ht')⟩
          ·
           exact HK.out j hj (by omega))
         clear htm HL3
         go_wp2
         go_roundw
         case rel => exact ⟨i + 1, S, by omega, by go_num, rfl, HEND, HK', HB3⟩
         case measure => simp [intOf]; omega
    ·
     obtain rfl : i = k := by omega
     have HF : Hid (S.data.toList = printSs l) := Lib.hid (by have h1 := HL.out; rwa [← HN.out, left_end, List.append_nil] at h1)
     have G := K0.out (stanza_all (fun j hj => HK.out j hj (by rw [← HN.out]; exact hj)))
     clear hlt HL
     go_wp2
     go_ret2
     exact G.out S _ _ HF.out rfl HB.out
end Go.Proofs.YtkbkaeefdhkgdaaGreatDoor
