/-
  The program's readFired of a line, and ParseFired: what each returns; nothing old turns. Condition of ParseFired: LaidP. The program's ParseFired: what it returns; nothing old turns. Condition: LaidP.
-/
import Derived.Test.YtceohgjfjndcmaaGreatDoorGPrintF
import Derived.Test.YtceohgjfjndcmaaGreatDoorGParse
import Derived.Test.YtceohgjfjndcmaaGreatDoorGOwnF
import Derived.Test.YtceohgjfjndcmaaGreatDoorSPWords2
namespace Go.Proofs.YtceohgjfjndcmaaGreatDoor
open Go.RowKit
def ReadFP (s : Bs) (w : World) (e : Ending) (w' : World) : Prop := ∃ u, e = .returned (.agg #[.string (bsT (readF s).1), u]) ∧ OwnT w' 0 u (readF s).2 ∧ Below w.heap.size w w'
theorem OwnT.set {w : World} {base : Nat} {v : Value} {l : List Bs} (h : OwnT w base v l) {b : Nat} (hb : v.ownBlock ≠ some b) (i : Nat) (u : Value) : OwnT (w.setCell ⟨b, i, none⟩ u) base v l :=
  World.ownsRow.kept h (row := some b) ⟨rfl, rfl, rfl, (KeepsWalks.setCell w ⟨b, i, none⟩ u).size, fun k _ hk => Below.heap_setCell _ _ _ k (fun e => hk (by rw [e]))⟩ (.inr hb)
theorem OwnT.below {w : World} {base : Nat} {v : Value} {l : List Bs} (h : OwnT w base v l) {b : Nat} (hb : b < base) : v.ownBlock ≠ some b := fun e => by
  have := (World.ownsRow.lt h b e).1
  omega
set_option maxRecDepth 100000 in
set_option maxHeartbeats 4000000 in
theorem readF_any (s : ByteArray) (hs : s.size ≤ 90000) (w : World) : Calls Tryz.prog 50 #[.string s] w (ReadFP s.data.toList w) := by
  have C1 := fun W => cut2_any s (by omega) 32 W
  have HB0 := Lib.hid ((Below.refl w.heap.size w).alloc (Nat.le_refl _) (.cells #[.string ⟨#[]⟩, .slice none 0 0] 74))
  have HX0 := Lib.hid (Box2.new w (.string ⟨#[]⟩) (.slice none 0 0) 74)
  have HP : Hid (∀ (X Y Y' : ByteArray) ok u w', CutIs s 32 X Y ok → Y'.data.toList = (if Y.data.toList = [45] then [] else Y.data.toList) → OwnT w' 0 u (wordsL Y'.data.toList) → Below w.heap.size w w' → ReadFP s.data.toList w (.returned (.agg #[.string X, u])) w') := Lib.hid (fun X Y Y' ok u w' h hy ho hb => by
    obtain ⟨h1, h2⟩ := cut_head h
    refine ⟨u, ?_, ?_, hb⟩
    · unfold readF; rw [strOf h1]
    · unfold readF; rw [hy, h2] at ho; exact ho)
  have HLEN : Hid (∀ (X Y : ByteArray) ok, CutIs s 32 X Y ok → Y.size ≤ 90000) := Lib.hid (fun X Y ok h => by
    have := (headC_len 32 s.data.toList).2
    rw [sizeOf, (cut_head h).2]; rw [sizeOf] at hs; omega)
  go_enter Tryz.func50, Tryz.ntmps50
  go_wp2_with (go_at_call 75; (with_reducible refine (C1 _).mono ?_); rintro e w1 ⟨X, Y, ok, rfl, hcut, q, rfl⟩; refine Hid.out ?_)
  refine Lib.hid ?_
  have hyl := HLEN.out _ _ _ hcut.out
  have hq := eqTL Y [45]
  have HX1 := Lib.hid (HX0.out.on (belowQ (Below.refl _ _) q))
  have HB1 := Lib.hid (belowQ HB0.out q)
  have hz1 : w.heap.size < ((w.alloc (.cells #[.string ⟨#[]⟩, .slice none 0 0] 74)).drewN q).heap.size := by show _ < (w.alloc _).heap.size; rw [World.size_alloc]; omega
  have HZ1 := Lib.hid hz1
  clear hz1 C1
  obtain ⟨W1, hW1⟩ : ∃ W1, W1 = (w.alloc (.cells #[.string ⟨#[]⟩, .slice none 0 0] 74)).drewN q := ⟨_, rfl⟩
  rw [← hW1] at HX1 HB1 HZ1 ⊢
  clear hW1
  by_cases h45 : Y.data.toList = [45]
  · rw [decide_eq_true h45] at hq
    have HY : Hid ((⟨#[]⟩ : ByteArray).data.toList = (if Y.data.toList = [45] then [] else Y.data.toList)) := Lib.hid (by rw [if_pos h45])
    have PW := pwords_any ⟨#[]⟩ (by decide) W1
    unfold PWordsPost at PW
    clear h45
    go_wp2_with (go_at_call 80; (with_reducible refine PW.mono ?_); rintro e w2 ⟨u, rfl, ho, hb⟩; have HO := Lib.hid ho; have HX2 := Lib.hid (HX1.out.on hb); have HB2 := Lib.hid (HB1.out.trans (hb.mono HB1.out.size)); obtain ⟨r0, r1, rf⟩ := HX2.out; have rf0 := rf 0; have rf1 := rf 1; obtain ⟨ua, un, uc, rfl⟩ := OwnT.form ho; clear rf hb ho PW)
    obtain ⟨k0, k1⟩ := HX2.out.put (.string X) (.slice ua un uc)
    have HO2 := ((OwnT.set HO.out (OwnT.below HO.out HZ1.out) 0 (.string X)).set (OwnT.below HO.out HZ1.out) 1 (.slice ua un uc)).mono (Nat.zero_le _)
    exact bodyPost_ret (v := .agg #[.string X, .slice ua un uc]) (by simp [results, Tryz.results50, go_sem, k0, k1]) rfl (HP.out _ _ ⟨#[]⟩ _ _ _ hcut.out HY.out HO2 (put2_below HB2.out (Nat.le_refl _) _ _))
  · rw [decide_eq_false h45] at hq
    have HY : Hid (Y.data.toList = (if Y.data.toList = [45] then [] else Y.data.toList)) := Lib.hid (by rw [if_neg h45])
    have PW := pwords_any Y hyl W1
    unfold PWordsPost at PW
    clear h45
    go_wp2_with (go_at_call 80; (with_reducible refine PW.mono ?_); rintro e w2 ⟨u, rfl, ho, hb⟩; have HO := Lib.hid ho; have HX2 := Lib.hid (HX1.out.on hb); have HB2 := Lib.hid (HB1.out.trans (hb.mono HB1.out.size)); obtain ⟨r0, r1, rf⟩ := HX2.out; have rf0 := rf 0; have rf1 := rf 1; obtain ⟨ua, un, uc, rfl⟩ := OwnT.form ho; clear rf hb ho PW)
    obtain ⟨k0, k1⟩ := HX2.out.put (.string X) (.slice ua un uc)
    have HO2 := ((OwnT.set HO.out (OwnT.below HO.out HZ1.out) 0 (.string X)).set (OwnT.below HO.out HZ1.out) 1 (.slice ua un uc)).mono (Nat.zero_le _)
    exact bodyPost_ret (v := .agg #[.string X, .slice ua un uc]) (by simp [results, Tryz.results50, go_sem, k0, k1]) rfl (HP.out _ _ _ _ _ _ hcut.out HY.out HO2 (put2_below HB2.out (Nat.le_refl _) _ _))
end Go.Proofs.YtceohgjfjndcmaaGreatDoor
namespace Go.Proofs.YtceohgjfjndcmaaGreatDoor
open Go.RowKit
def PaPostF (s : Bs) (w : World) (e : Ending) (w' : World) : Prop := ∃ v z, e = .returned (.tuple #[v, .int .i64 z]) ∧ (∀ l, parseF s = some l → z = 0 ∧ ∃ L : List Fp, L.map (·.1) = l ∧ HoldF w' v L) ∧ (parseF s = none → z = 2 ∧ v = .slice none 0 0) ∧ Below w.heap.size w w'
theorem words_len (s : Bs) : (wordsL s).length ≤ s.length + 1 ∧ ∀ p ∈ wordsL s, p.length ≤ s.length := by
  unfold wordsL
  refine ⟨Nat.le_trans (List.length_filter_le _ _) (spl_len 32 s), fun p hp => spl_piece 32 s p (List.mem_filter.1 hp).1⟩
theorem readF_len (s : Bs) : (readF s).1.length ≤ s.length ∧ (readF s).2.length ≤ s.length + 1 ∧ ∀ p ∈ (readF s).2, p.length ≤ s.length := by
  have h1 := headC_len 32 s
  unfold readF
  by_cases g : tailC 32 s = [45]
  · rw [if_pos g]
    have h2 := words_len []
    exact ⟨h1.1, Nat.le_trans h2.1 (by simp), fun p hp => Nat.le_trans (h2.2 p hp) (by simp)⟩
  · rw [if_neg g]
    have h2 := words_len (tailC 32 s)
    exact ⟨h1.1, Nat.le_trans h2.1 (by omega), fun p hp => Nat.le_trans (h2.2 p hp) h1.2⟩
theorem readF_small {ls : List Bs} {L : List Fp} (hL : L.map (·.1) = ls.map readF) (h : ∀ p ∈ ls, p.length ≤ 4000) : SmallF L := fun x hx => by
  have : x.1 ∈ ls.map readF := by rw [← hL]; exact List.mem_map.2 ⟨x, hx, rfl⟩
  obtain ⟨p, hp, he⟩ := List.mem_map.1 this
  have h1 := readF_len p
  have h2 := h p hp
  rw [← he]
  exact ⟨by omega, by omega, fun q hq => Nat.le_trans (h1.2.2 q hq) h2⟩
set_option maxRecDepth 100000 in
set_option maxHeartbeats 16000000 in
theorem parseFr_any (s : ByteArray) (hs : s.size ≤ 90000) (hp : ∀ p ∈ spl 10 s.data.toList, p.length ≤ 4000) (w : World) (hL : LaidP w) : Calls Tryz.prog 20 #[.string s] w (PaPostF s.data.toList w) := by
  have L := fun w => slines_any s hs w
  unfold PLinesPost at L
  have HBAD : Hid (∀ w', parseF s.data.toList = none → Below w.heap.size w w' → PaPostF s.data.toList w (.returned (.tuple #[.slice none 0 0, .int .i64 2])) w') := Lib.hid (fun w' h hb => ⟨_, 2, rfl, fun l hl => (by rw [h] at hl; cases hl), fun _ => ⟨rfl, rfl⟩, hb⟩)
  have HOK : Hid (∀ (L : List Fp) v w', parseF s.data.toList = some (L.map (·.1)) → HoldF w' v L → Below w.heap.size w w' → PaPostF s.data.toList w (.returned (.tuple #[v, .int .i64 0])) w') := Lib.hid (fun L v w' h h1 hb => ⟨v, 0, rfl, fun l' hl => (by rw [h] at hl; cases hl; exact ⟨rfl, L, rfl, h1⟩), fun hn => (by rw [h] at hn; cases hn), hb⟩)
  have HL := Lib.hid hL
  cases hlo : linesO s.data.toList with
  | none =>
    have L2 : ∀ w, Calls Tryz.prog 40 #[.string s] w fun e w' => e = .returned (.tuple #[.slice none 0 0, .int .i64 2]) ∧ Below w.heap.size w w' := fun w => (L w).mono fun e w' ⟨v, z, he, _, h2, hb⟩ => ⟨by rw [he, (h2 hlo).1, (h2 hlo).2], hb⟩
    have HN := Lib.hid (parseF_none hlo)
    clear L hlo hp
    go_enter Tryz.func20, Tryz.ntmps20
    go_wp2_with (go_at_call 40; refine (L2 _).mono ?_; rintro e w1 ⟨rfl, hb⟩; have HB := Lib.hid hb; clear hb)
    go_ret2
    exact HBAD.out _ HN.out HB.out
  | some ls =>
    have L2 : ∀ w, Calls Tryz.prog 40 #[.string s] w fun e w' => ∃ v, e = .returned (.tuple #[v, .int .i64 0]) ∧ HoldT w' v ls ∧ Below w.heap.size w w' := fun w => (L w).mono fun e w' ⟨v, z, he, h1, _, hb⟩ => ⟨v, by rw [he, (h1 ls hlo).1], (h1 ls hlo).2.holds, hb⟩
    have HPS := Lib.hid (parseF_some hlo)
    obtain ⟨hl1, hl2⟩ := lines_len hlo
    rw [← sizeOf] at hl1
    have HSM : Hid (∀ L : List Fp, L.map (·.1) = ls.map readF → SmallF L) := Lib.hid (fun L hL => readF_small hL (fun p h => hp p (hl2 p h)))
    have HSL : Hid (∀ p ∈ ls, p.length ≤ 90000) := Lib.hid (fun p h => Nat.le_trans (hp p (hl2 p h)) (by omega))
    obtain ⟨i0, hi, hz0, hz1, hz2'⟩ := info_parts infoF
    obtain ⟨n, hN⟩ : ∃ n, ls.length = n := ⟨_, rfl⟩
    rw [hN] at hl1
    have HN := Lib.hid hN
    clear L hlo hp hl2 hN hL
    go_enter Tryz.func20, Tryz.ntmps20
    go_wp2_with (go_at_call 40; refine (L2 _).mono ?_; rintro e w1 ⟨v, rfl, hh, hb⟩; obtain ⟨a, c, b, o, rfl, hc, ha, hcell⟩ := hh; rw [HN.out] at hc ha ⊢; have HC := Lib.hid hcell; have HB1 := Lib.hid hb; clear hcell hb L2)
    have hsz1 := HB1.out.size
    go_loopw [6, 21] (fun u i wr => ∃ k : Nat, k ≤ n ∧ i = .int .i64 k ∧ Hid (OwnG wr w1.heap.size u ((ls.take k).map readF)) ∧ Hid (Below w1.heap.size w1 wr)) (fun _ i _ => n - (intOf i).toNat)
    case atStart => exact ⟨0, by omega, rfl, Lib.hid (OwnG.nil _ _), Lib.hid (Below.refl _ _)⟩
    case round =>
      obtain ⟨k, hk, rfl, HO, HB⟩ := hrel
      have hsz := HB.out.size
      by_cases hlt : k < n
      · obtain ⟨rfl, hbw⟩ := ha (by omega)
        obtain ⟨p, hp⟩ : ∃ p, ls[k]? = some p := ⟨_, List.getElem?_eq_getElem (by rw [HN.out]; exact hlt)⟩
        have c0 := HC.out k p hp
        rw [← HB.out.cell (p := ⟨b, o + k, none⟩) hbw] at c0
        have RD := fun W => readF_any ⟨p.toArray⟩ (by rw [sizeOf, bytesOf]; exact HSL.out p (List.mem_of_getElem? hp)) W
        unfold ReadFP at RD
        rw [bytesOf] at RD
        have HSN := Lib.hid (map_snoc readF hp)
        have hlen : ((ls.take k).map readF).length = k := by rw [List.length_map, List.length_take, HN.out]; omega
        obtain ⟨X, hX⟩ : ∃ X, bsT (readF p).1 = X := ⟨_, rfl⟩
        have HX : Hid (X.data.toList = (readF p).1) := Lib.hid (by rw [← hX, bytesOf])
        rw [hX] at RD
        have HLEN := Lib.hid hlen
        generalize (⟨p.toArray⟩ : ByteArray) = P at *
        clear hX hp hlen
        go_wp2_with (first
          | (go_at_call 50; (with_reducible refine (RD _).mono ?_); rintro e w2 ⟨u, rfl, hu, hb⟩; have HU := Lib.hid hu; obtain ⟨ua, un, uc, rfl⟩ := OwnT.form hu; have HB2 := Lib.hid (HB.out.trans (hb.mono HB.out.size)); have hz2 := HB2.out.size; obtain ⟨L, hL1, hL2, hL3⟩ := HO.out.on hb; have HL1 := Lib.hid hL1; have HL2 := Lib.hid hL2; have HO2 := Lib.hid hL3; have HLL : Hid (L.length = k) := Lib.hid (by rw [← HLEN.out, ← hL1, List.length_map]); clear hb RD hu hL1 hL2 hL3)
          | (at_builtin; refine wpList_append_own _ rfl _ _ 35 rfl w1.heap.size 74 i0 _ 2 40 Tryz.underlying35 hi hz0 hz1 hz2' rfl (by decide) _ _ _ rfl (World.ownsRow.alloc HO2.out.2 _) ⟨w2.heap.size, 0, none⟩ 1 1 [.string X, .slice ua un uc] rfl rfl ?c1 ?c2 ?c3 ?c4 ?c5 ?_))
        case c1 =>
          intro j u hj
          match j, hj with
          | 0, hj => simp at hj; subst hj; simp [Addr.add]
          | 1, hj => simp at hj; subst hj; simp [Addr.add]
        case c2 => intro u hu; simp at hu; rcases hu with rfl | rfl <;> rfl
        case c3 => rw [List.length_map, HLL.out]; unfold maxLen; omega
        case c4 => rw [List.length_map, HLL.out]; omega
        case c5 => simp; omega
        · intro v' w3 hown' hgrow _
          have HO3 : Hid (OwnG w3 w1.heap.size v' ((ls.take (k + 1)).map readF)) := Lib.hid (by rw [HSN.out, ← HL1.out]; exact OwnG.app HL2.out HO2.out HU.out HX.out (by simpa using hown') hgrow)
          have HB3 : Hid (Below w1.heap.size w1 w3) := Lib.hid (OwnV.below HB2.out HO2.out hgrow (Nat.le_refl _) hz2)
          clear hown' hgrow
          go_wp2
          go_roundw
          case rel => exact ⟨k + 1, by omega, by go_num, HO3, HB3⟩
          case measure => simp [intOf]; omega
      · obtain rfl : k = n := by omega
        have HR : Hid ((ls.take k).map readF = ls.map readF) := Lib.hid (by rw [List.take_of_length_le (by rw [HN.out]; omega)])
        rw [HR.out] at HO
        have HBW := Lib.hid (HB1.out.trans (HB.out.mono hsz1))
        obtain ⟨L, hL1, hH⟩ := HO.out.holds
        have HH := Lib.hid hH
        have HL1 := Lib.hid hL1
        have PR := printF_any _ L (by rw [show L.length = (ls.map readF).length by rw [← hL1, List.length_map], List.length_map, HN.out]; omega) (HSM.out L hL1) wr (HL.out.on HBW.out) HH.out
        rw [hL1] at PR
        unfold PrPostF at PR
        obtain ⟨T, hT⟩ : ∃ T, T = bsT (printFr (ls.map readF)).1 := ⟨_, rfl⟩
        obtain ⟨z, hz⟩ : ∃ z, z = (printFr (ls.map readF)).2 := ⟨_, rfl⟩
        rw [← hT, ← hz] at PR
        have HTZ : Hid (printFr (ls.map readF) = (T.data.toList, z)) := Lib.hid (by rw [hT, bytesOf, hz])
        have hq := eqT T s
        clear hT hz HR HO hlt hH hL1
        by_cases hz0 : z = 0
        · subst hz0
          by_cases hts : T.data.toList = s.data.toList
          · rw [decide_eq_true hts] at hq
            have HX : Hid (parseF s.data.toList = some (ls.map readF)) := Lib.hid (by rw [HPS.out, if_pos (by rw [HTZ.out, hts])])
            clear hts
            go_wp2_with (go_at_call 16; (with_reducible refine PR.mono ?_); rintro e w4 ⟨rfl, hb⟩; have HB4 := Lib.hid (HBW.out.trans (hb.mono HBW.out.size)); have HH4 := Lib.hid (HoldF.on HH.out hb); clear hb PR)
            go_ret2
            exact HOK.out L _ _ (by rw [HL1.out]; exact HX.out) HH4.out HB4.out
          · rw [decide_eq_false hts] at hq
            have HX : Hid (parseF s.data.toList = none) := Lib.hid (by rw [HPS.out, if_neg (by rw [HTZ.out]; exact fun g => hts (Prod.mk.inj g).1)])
            clear hts
            go_wp2_with (go_at_call 16; (with_reducible refine PR.mono ?_); rintro e w4 ⟨rfl, hb⟩; have HB4 := Lib.hid (HBW.out.trans (hb.mono HBW.out.size)); clear hb PR)
            go_ret2
            exact HBAD.out _ HX.out HB4.out
        · have hzb : (z == 0) = false := by rw [beq_eq_false_iff_ne]; exact hz0
          have hzn : (z != 0) = true := by rw [bne, hzb]; rfl
          have HX : Hid (parseF s.data.toList = none) := Lib.hid (by rw [HPS.out, if_neg (by rw [HTZ.out]; exact fun g => hz0 (Prod.mk.inj g).2)])
          clear hz0 hq
          go_wp2_with (go_at_call 16; (with_reducible refine PR.mono ?_); rintro e w4 ⟨rfl, hb⟩; have HB4 := Lib.hid (HBW.out.trans (hb.mono HBW.out.size)); clear hb PR)
          go_ret2
          exact HBAD.out _ HX.out HB4.out
end Go.Proofs.YtceohgjfjndcmaaGreatDoor
