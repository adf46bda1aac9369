import Derived.Test.YtnnagboeimeiiaaGreatDoorWSPSmall
import Derived.Test.YtnnagboeimeiiaaGreatDoorWSPPrint
import Derived.Test.YtnnagboeimeiiaaGreatDoorWURec
namespace Go.Proofs.YtnnagboeimeiiaaGreatDoor
open Go.RowKit
theorem Built.with {w w2 : World} {base B : Nat} {vo v0 va : Value} {out : List (List Fld)} {at' st : List Fld} (h : Built w base B vo v0 out at') (hb : Below w.heap.size w w2) (hs : OwnF w2 w.heap.size va st) : Built w2 base w.heap.size vo va out st := by
 have hsz := hb.size
 obtain ⟨us, h1, _, h3, h4, h5⟩ := h.on hb
 have h6 := h
 obtain ⟨us0, _, _, _, h4', _⟩ := h6
 exact ⟨us, h1, hs, by omega, hsz, fun j u s hj hs' => ⟨(h5 j u s hj hs').1, fun g hg => by have := (h5 j u s hj hs').2 g hg; omega⟩⟩
def SParsePost (s : Bs) (w : World) (e : Ending) (w' : World) : Prop := ∃ v z, e = .returned (.tuple #[v, .int .i64 z]) ∧ (∀ l, parseS s = some l → z = 0 ∧ HoldRR 2 w' v (l.map (·.map rowF))) ∧ (parseS s = none → z = 2 ∧ HoldRR 2 w' v []) ∧ Below w.heap.size w w'
theorem HoldRR.nil (w : World) : HoldRR 2 w (.slice none 0 0) [] := ⟨none, 0, 0, 0, rfl, Nat.le_refl _, fun h => absurd h (by simp), fun j l hj => by simp at hj⟩
theorem drop_step (ls : List Bs) (k j : Nat) : ((ls.drop k).drop j).drop 1 = ls.drop (k + j + 1) := by rw [List.drop_drop, List.drop_drop]; congr 1
set_option maxRecDepth 100000 in
set_option maxHeartbeats 16000000 in
theorem sparse_post (s : ByteArray) (hs : s.size ≤ 20000) (w : World) : Calls Tryz.prog 37 #[.string s] w (SParsePost s.data.toList w) := by
 have L := fun w => slines_any s (by omega) w
 unfold PLinesPost at L
 have HBAD : Hid (∀ w', parseS s.data.toList = none → Below w.heap.size w w' → SParsePost s.data.toList w (.returned (.tuple #[.slice none 0 0, .int .i64 2])) w') := Lib.hid (fun w' h hb => ⟨_, 2, rfl, fun l hl => (by rw [h] at hl; cases hl), fun _ => ⟨rfl, HoldRR.nil _⟩, hb⟩)
 have HOK : Hid (∀ l v w', parseS s.data.toList = some l → HoldRR 2 w' v (l.map (·.map rowF)) → Below w.heap.size w w' → SParsePost s.data.toList w (.returned (.tuple #[v, .int .i64 0])) w') := Lib.hid (fun l v w' h h1 hb => ⟨v, 0, rfl, fun l' hl => (by rw [h] at hl; cases hl; exact ⟨rfl, h1⟩), fun hn => (by rw [h] at hn; cases hn), hb⟩)
 have hpr := parse_by_read s.data.toList
 cases hlo : linesO s.data.toList with
 | none =>
   rw [hlo] at hpr
   have HP := Lib.hid (fun w' => HBAD.out w' hpr)
   have L2 : ∀ w, Calls Tryz.prog 79 #[.string s] w fun e w' => ∃ v, e = .returned (.tuple #[v, .int .i64 2]) ∧ Below w.heap.size w w' := fun w => (L w).mono fun e w' ⟨v, z, he, _, h2, hb⟩ => ⟨v, by rw [he, (h2 hlo).1], hb⟩
   clear hpr L HBAD HOK hlo
   go_enter Tryz.func37, Tryz.ntmps37
   go_wp2_with (go_at_call 79; (with_reducible refine (L2 _).mono ?_); rintro e w1 ⟨v1, rfl, hb⟩)
   go_ret2
   exact HP.out _ hb
 | some ls =>
   rw [hlo] at hpr
   have HPR := Lib.hid hpr
   have hsm := readSs_small hlo
   have hls : ls = (spl 10 s.data.toList).dropLast := by
     unfold linesO at hlo
     split at hlo
     · cases hlo; rfl
     · cases hlo
   have hpc : ∀ p ∈ ls, p.length ≤ 90000 := fun p hp => by
     rw [hls] at hp
     have := spl_piece 10 s.data.toList p ((List.dropLast_sublist _).subset hp)
     rw [← sizeOf] at this; omega
   have hll : ls.length ≤ 90000 := by
     have := spl_len 10 s.data.toList
     rw [← sizeOf] at this
     rw [hls, List.length_dropLast]; omega
   have HSM : Hid (Small (readSs ls) 90000) := Lib.hid (by
     rw [← sizeOf] at hsm
     exact ⟨by have := hsm.n; omega, fun st hst => by have := hsm.ns st hst; omega, fun st hst f hf => by have := hsm.fs st hst f hf; omega, by have := hsm.pr; omega⟩)
   have HPC := Lib.hid hpc
   have L2 : ∀ w, Calls Tryz.prog 79 #[.string s] w fun e w' => ∃ v, e = .returned (.tuple #[v, .int .i64 0]) ∧ OwnT w' w.heap.size v ls ∧ Below w.heap.size w w' := fun w => (L w).mono fun e w' ⟨v, z, he, h1, _, hb⟩ => ⟨v, by rw [he, (h1 ls hlo).1], (h1 ls hlo).2, hb⟩
   obtain ⟨i1, hi', hy0, hy1, hy2⟩ := info_parts infoSF
   obtain ⟨m, hN⟩ : ∃ m, ls.length = m := ⟨_, rfl⟩
   rw [hN] at hll
   have HN := Lib.hid hN
   clear hpr L hsm hls hpc hN hlo
   go_enter Tryz.func37, Tryz.ntmps37
   go_wp2_with (go_at_call 79; (with_reducible refine (L2 _).mono ?_); clear L2; rintro e w1 ⟨v1, rfl, hh, hb⟩; obtain ⟨a, c, b, o, rfl, hc, ha, hcell⟩ := hh.holds; have HC := Lib.hid hcell; have HB1 := Lib.hid hb; rw [HN.out]; rw [HN.out] at hc ha; clear hb hcell hh; refine Hid.out ?_)
   refine Lib.hid ?_
   go_wp2
   go_loopw [4, 6, 7] (fun r vo _ wr => ∃ (k B : Nat) (a : Option Addr) (out : List (List Fld)), k ≤ m ∧ r = .slice a (m - k) (c - k) ∧ (k < m → a = some ⟨b, o + k, none⟩ ∧ b < w1.heap.size) ∧ out.length ≤ k ∧ Hid (readSs ls = out ++ readSs (ls.drop k)) ∧ Hid (Built wr w1.heap.size B vo (.slice none 0 0) out []) ∧ Hid (Below w1.heap.size w1 wr)) (fun r _ _ _ => match r with | .slice _ n _ => n | _ => 0)
   case atStart => exact ⟨0, _, a, [], by omega, rfl, ha, Nat.le_refl _, Lib.hid rfl, Lib.hid (Built.start w1 _ (Nat.le_refl _)), Lib.hid (Below.refl _ _)⟩
   case round =>
     obtain ⟨k, B, a, out, hk, rfl, ha, hol, HF, HBU, HB⟩ := hrel
     have hbz : w1.heap.size ≤ wr.heap.size := HB.out.size
     obtain ⟨us, h1, -, h3, h4, h5⟩ := id HBU.out
     have H1 := Lib.hid h1
     have H5 := Lib.hid h5
     clear h1 h5
     obtain ⟨ol, hol2⟩ : ∃ ol, out.length = ol := ⟨_, rfl⟩
     have HOL := Lib.hid hol2
     rw [hol2] at hol
     clear hol2
     have hwz := HB1.out.size
     by_cases hlt : k < m
     · obtain ⟨rfl, hbw⟩ := ha hlt
       obtain ⟨n, hn⟩ : ∃ n, m - k = n := ⟨_, rfl⟩
       obtain ⟨cc, hcc⟩ : ∃ cc, c - k = cc := ⟨_, rfl⟩
       rw [hn, hcc]
       have hkn : k + n = m := by omega
       have hck : c = k + cc := by omega
       have hnc : n ≤ cc := by omega
       have hg : 0 < n := by omega
       have hcell : ∀ (W : World), Below w1.heap.size w1 W → ∀ (j : Nat) (l : Bs), ls[j]? = some l → W.cell? ⟨b, o + j, none⟩ = some (.string ⟨l.toArray⟩) := fun W hW j l hj => (hW.cell (p := ⟨b, o + j, none⟩) hbw).trans (HC.out j l hj)
       have hdl : (ls.drop k).length = n := by rw [List.length_drop, HN.out]; omega
       have HD := Lib.hid hdl
       have hR0 : ls.drop k ≠ [] := fun g => by rw [g] at hdl; simp at hdl; omega
       have hpart : ∀ (j : Nat), j ≤ n → HoldT wr (.slice (some ⟨b, o + k, none⟩) j cc) ((ls.drop k).take j) := fun j hj => HoldT.part (hcell wr HB.out) (by omega) k j cc (by omega) (by rw [HN.out]; omega) (fun _ => rfl)
       have IX0 := index_any (.slice (some ⟨b, o + k, none⟩) n cc) (ls.drop k) (by rw [hdl]; omega) wr (by have := hpart n (Nat.le_refl _); rwa [List.take_of_length_le (by rw [hdl]; exact Nat.le_refl _)] at this)
       have IX : Calls Tryz.prog 80 #[.slice (some ⟨b, o + k, none⟩) n cc, .string ⟨#[]⟩] wr fun e w' => ((∃ j : Nat, e = .returned (.int .i64 j) ∧ j < n ∧ j ≤ cc ∧ ¬ ((j : Int) < 0) ∧ Hid (readSs (ls.drop k) = readFlds ((ls.drop k).take j) :: readSs (ls.drop (k + j + 1)))) ∨ (e = .returned (.int .i64 (-1)) ∧ Hid (readSs (ls.drop k) = [readFlds ((ls.drop k).take n)]))) ∧ wr = w' := IX0.mono fun e w' ⟨hx, hw⟩ => ⟨by
         rcases hx with ⟨j, rfl, hj, hall, ht, hd⟩ | ⟨rfl, hall⟩
         · rw [hdl] at hj
           exact .inl ⟨j, rfl, hj, by omega, by omega, Lib.hid (by rw [readSs_cut hall, ht, hd, drop_step])⟩
         · exact .inr ⟨rfl, Lib.hid (by rw [readSs_last hR0 hall, List.take_of_length_le (by rw [hdl]; exact Nat.le_refl _)])⟩, hw⟩
       have RF : ∀ (j : Nat), j ≤ n → Calls Tryz.prog 81 #[.slice (some ⟨b, o + k, none⟩) j cc] wr fun e w' => ∃ a q c, e = .returned (.slice a q c) ∧ OwnF w' wr.heap.size (.slice a q c) (readFlds ((ls.drop k).take j)) ∧ Below wr.heap.size wr w' := fun j hj => (readFields_any _ _ (by rw [List.length_take, hdl]; omega) (fun p hp => HPC.out p (List.mem_of_mem_drop (List.mem_of_mem_take hp))) wr (hpart j hj)).mono fun e w' ⟨v, he, ho, hb⟩ => by
         obtain ⟨a', c', rfl, _⟩ := ho.shape
         exact ⟨a', _, c', he, ho, hb⟩
       have HRF := Lib.hid RF
       clear hcell hdl hpart RF ha IX0 hR0
       go_wp2_with (first
         | (go_at_call 80; (with_reducible refine IX.mono ?_); clear IX; rintro e w2 ⟨hix, rfl⟩; rcases hix with ⟨j, rfl, hj, hjc, hj0, HST⟩ | ⟨rfl, HST⟩)
         | (go_at_call 81; (with_reducible refine (HRF.out _ (by omega)).mono ?_); rintro e w3 ⟨a3, q3, c3, rfl, ho3, hb3⟩; obtain ⟨us3, k1, k2, k3, k4, k5⟩ := Built.with HBU.out hb3 ho3; have K1 := Lib.hid k1; have K2 := Lib.hid k2; have K5 := Lib.hid k5; have HB3 := Lib.hid hb3; have hsz3 := hb3.size; clear k1 k2 k5 hb3 ho3)
         | (at_builtin; refine wpList_append_own _ rfl _ _ 56 rfl w1.heap.size 57 i1 (.slice none 0 0) 1 24 Tryz.underlying56 hi' hy0 hy1 hy2 rfl (by decide) _ _ _ rfl (World.ownsRow.alloc K1.out _) ⟨w3.heap.size, 0, none⟩ 1 1 [.slice a3 q3 c3] rfl rfl (news1 _ _ rfl) (one1 _ _ _) (by rw [HOL.out]; unfold maxLen; omega) (by rw [HOL.out]; omega) (by simp; omega) ?_))
       · intro v' w4 hown' hgrow _
         have HNF : Hid (readSs ls = (out ++ [readFlds ((ls.drop k).take j)]) ++ readSs (ls.drop (k + j + 1))) := Lib.hid (by rw [HF.out, HST.out]; simp)
         have HB' : Hid (Built w4 w1.heap.size w4.heap.size v' (.slice none 0 0) (out ++ [readFlds ((ls.drop k).take j)]) []) := Lib.hid (Built.cut K1.out K2.out k3 K5.out hown' hgrow (by have := hgrow.size; simp at this; omega))
         have HBL : Hid (Below w1.heap.size w1 w4) := Lib.hid (below_row (HB.out.trans (HB3.out.mono hbz)) K1.out hgrow (Nat.le_refl _) (by omega))
         have hlo : (out ++ [readFlds ((ls.drop k).take j)]).length ≤ k + j + 1 := by rw [List.length_append, HOL.out]; show ol + 1 ≤ k + j + 1; omega
         have hj1 : j + 1 ≤ n := by omega
         have hj2 : j + 1 ≤ cc := by omega
         clear hown' hgrow
         go_wp2
         all_goals
           go_roundw
           case' rel =>
             refine ⟨k + j + 1, by omega, _, _, ⟨rfl, by omega, by omega⟩, ?_, out ++ [readFlds ((ls.drop k).take j)], hlo, HNF, HB'⟩
             intro h
             first | (exfalso; omega) | (rw [show o + k + (j + 1) = o + (k + j + 1) by omega])
           case' measure => omega
       · intro v' w4 hown' hgrow _
         have HE : Hid (readSs ls = out ++ [readFlds ((ls.drop k).take n)]) := Lib.hid (by rw [HF.out, HST.out])
         have HRR : Hid (HoldRR 2 w4 v' ((readSs ls).map (·.map rowF))) := Lib.hid (by rw [HE.out]; exact (Built.cut K1.out K2.out k3 K5.out hown' hgrow (by have := hgrow.size; simp at this; omega)).rows)
         have HBL : Hid (Below w.heap.size w w4) := Lib.hid (HB1.out.trans ((below_row (HB.out.trans (HB3.out.mono hbz)) K1.out hgrow (Nat.le_refl _) (by omega)).mono hwz))
         clear hown' hgrow HE HF HST HB HB3
         have P := fun w => print_any v' (readSs ls) HSM.out w
         have P2 := P _ HRR.out
         clear P
         unfold PrintPost at P2
         obtain ⟨T, hT⟩ : ∃ T : ByteArray, T = ⟨(printE (readSs ls)).1.toArray⟩ := ⟨_, rfl⟩
         obtain ⟨z, hz⟩ : ∃ z : Int, z = (printE (readSs ls)).2 := ⟨_, rfl⟩
         have hTl : T.data.toList = (printE (readSs ls)).1 := by rw [hT]
         have HTZ : Hid (printE (readSs ls) = (T.data.toList, z)) := Lib.hid (by rw [hTl, hz])
         simp only [← hT, ← hz] at P2
         have hq := eqT T s
         clear hT hz hTl
         by_cases hz0 : z = 0
         · subst hz0
           by_cases hts : T.data.toList = s.data.toList
           · rw [decide_eq_true hts] at hq
             have HX : Hid (parseS s.data.toList = some (readSs ls)) := Lib.hid (by rw [HPR.out]; exact if_pos (by rw [HTZ.out, hts]))
             clear hts
             go_wp2_with (go_at_call 29; (with_reducible refine P2.mono ?_); rintro e w5 ⟨rfl, hb5⟩)
             go_ret2
             exact HOK.out _ _ _ HX.out (HRR.out.on hb5) (HBL.out.trans (hb5.mono HBL.out.size))
           · rw [decide_eq_false hts] at hq
             have HX : Hid (parseS s.data.toList = none) := Lib.hid (by rw [HPR.out]; exact if_neg (by rw [HTZ.out]; simpa using hts))
             clear hts
             go_wp2_with (go_at_call 29; (with_reducible refine P2.mono ?_); rintro e w5 ⟨rfl, hb5⟩)
             go_ret2
             exact HBAD.out _ HX.out (HBL.out.trans (hb5.mono HBL.out.size))
         · have hzb : (z == 0) = false := by rw [beq_eq_false_iff_ne]; exact hz0
           have hzn : (z != 0) = true := by rw [bne, hzb]; rfl
           have HX : Hid (parseS s.data.toList = none) := Lib.hid (by rw [HPR.out]; exact if_neg (by rw [HTZ.out]; simp [hz0]))
           go_wp2_with (go_at_call 29; (with_reducible refine P2.mono ?_); rintro e w5 ⟨rfl, hb5⟩)
           go_ret2
           exact HBAD.out _ HX.out (HBL.out.trans (hb5.mono HBL.out.size))
     · obtain rfl : k = m := by omega
       have HE : Hid (readSs ls = out) := Lib.hid (by rw [HF.out, List.drop_eq_nil_of_le (by rw [HN.out]; omega), readSs_nil, List.append_nil])
       have HRR : Hid (HoldRR 2 wr u6 ((readSs ls).map (·.map rowF))) := Lib.hid (by rw [HE.out]; exact HBU.out.rows)
       have HBL : Hid (Below w.heap.size w wr) := Lib.hid (HB1.out.trans (HB.out.mono hwz))
       rw [Nat.sub_self]
       clear HF HE HB
       have P := fun w => print_any u6 (readSs ls) HSM.out w
       have P2 := P _ HRR.out
       clear P
       unfold PrintPost at P2
       obtain ⟨T, hT⟩ : ∃ T : ByteArray, T = ⟨(printE (readSs ls)).1.toArray⟩ := ⟨_, rfl⟩
       obtain ⟨z, hz⟩ : ∃ z : Int, z = (printE (readSs ls)).2 := ⟨_, rfl⟩
       have hTl : T.data.toList = (printE (readSs ls)).1 := by rw [hT]
       have HTZ : Hid (printE (readSs ls) = (T.data.toList, z)) := Lib.hid (by rw [hTl, hz])
       simp only [← hT, ← hz] at P2
       have hq := eqT T s
       clear hT hz hTl
       by_cases hz0 : z = 0
       · subst hz0
         by_cases hts : T.data.toList = s.data.toList
         · rw [decide_eq_true hts] at hq
           have HX : Hid (parseS s.data.toList = some (readSs ls)) := Lib.hid (by rw [HPR.out]; exact if_pos (by rw [HTZ.out, hts]))
           clear hts
           go_wp2_with (go_at_call 29; (with_reducible refine P2.mono ?_); rintro e w5 ⟨rfl, hb5⟩)
           go_ret2
           exact HOK.out _ _ _ HX.out (HRR.out.on hb5) (HBL.out.trans (hb5.mono HBL.out.size))
         · rw [decide_eq_false hts] at hq
           have HX : Hid (parseS s.data.toList = none) := Lib.hid (by rw [HPR.out]; exact if_neg (by rw [HTZ.out]; simpa using hts))
           clear hts
           go_wp2_with (go_at_call 29; (with_reducible refine P2.mono ?_); rintro e w5 ⟨rfl, hb5⟩)
           go_ret2
           exact HBAD.out _ HX.out (HBL.out.trans (hb5.mono HBL.out.size))
       · have hzb : (z == 0) = false := by rw [beq_eq_false_iff_ne]; exact hz0
         have hzn : (z != 0) = true := by rw [bne, hzb]; rfl
         have HX : Hid (parseS s.data.toList = none) := Lib.hid (by rw [HPR.out]; exact if_neg (by rw [HTZ.out]; simp [hz0]))
         go_wp2_with (go_at_call 29; (with_reducible refine P2.mono ?_); rintro e w5 ⟨rfl, hb5⟩)
         go_ret2
         exact HBAD.out _ HX.out (HBL.out.trans (hb5.mono HBL.out.size))
end Go.Proofs.YtnnagboeimeiiaaGreatDoor
namespace Go.Proofs.YtnnagboeimeiiaaGreatDoor
open Go.RowKit Go.Shelf
theorem infoU : (Tryz.prog.info? 43).map (fun i => (i.zero, i.size, i.bytes)) = some (some (.agg #[.string ⟨#[]⟩, .string ⟨#[]⟩, .int .i64 0, .slice none 0 0, .slice none 0 0, .slice none 0 0, .slice none 0 0, .slice none 0 0, .slice none 0 0]), 9, 184) := by kernel_rfl
theorem hold_exU {w : World} {b c : Nat} {a3 a4 a5 a7 a8 : Option Addr} {m3 m4 m5 m7 m8 : Nat} (hb : b < w.heap.size) (hc : 1 ≤ c) (h : ∀ (i : Nat) y, (cellsU (exU a3 a4 a5 none a7 a8 m3 m4 m5 0 m7 m8))[i]? = some y → w.cell? ⟨b, i, none⟩ = some y) : HoldU w (.slice (some ⟨b, 0, none⟩) 1 c) [exU a3 a4 a5 none a7 a8 m3 m4 m5 0 m7 m8] := by
 refine ⟨⟨some ⟨b, 0, none⟩, c, b, 0, rfl, hc, fun _ => ⟨rfl, hb⟩, fun j r hj i y hi hy => ?_⟩, fun x hx => ?_⟩
 · match j, hj with
   | 0, hj =>
     have e : r = cellsU (exU a3 a4 a5 none a7 a8 m3 m4 m5 0 m7 m8) := by cases hj; rfl
     rw [e] at hy
     rw [show 0 + 0 * 9 + i = i from by omega]
     exact h i y hy
   | j + 1, hj => simp at hj
 · simp at hx
   subst hx
   exact ⟨⟨⟨_, _, 0, 0, rfl, Nat.zero_le _, fun h => absurd h (by simp), fun j l hj => by simp at hj⟩, fun x hx => by simp at hx⟩,
     ⟨_, _, 0, 0, rfl, Nat.zero_le _, fun h => absurd h (by simp), fun j l hj => by simp at hj⟩,
     ⟨_, _, 0, 0, rfl, Nat.zero_le _, fun h => absurd h (by simp), fun j l hj => by simp at hj⟩,
     ⟨_, _, 0, 0, rfl, Nat.zero_le _, fun h => absurd h (by simp), fun j l hj => by simp at hj⟩,
     ⟨_, _, 0, 0, rfl, Nat.zero_le _, fun h => absurd h (by simp), fun j l hj => by simp at hj⟩,
     ⟨_, _, 0, 0, rfl, Nat.zero_le _, fun h => absurd h (by simp), fun j l hj => by simp at hj⟩⟩
theorem uu_one {w : World} {base : Nat} {v : Value} {a3 a4 a5 a7 a8 : Option Addr} {m3 m4 m5 m7 m8 : Nat} (h : w.ownsRow base 43 9 v 1 (cellsU (exU a3 a4 a5 none a7 a8 m3 m4 m5 0 m7 m8))) : ∃ b c, v = .slice (some ⟨b, 0, none⟩) 1 c ∧ HoldU w (.slice (some ⟨b, 0, none⟩) 1 c) [exU a3 a4 a5 none a7 a8 m3 m4 m5 0 m7 m8] := by
 rcases h.2 with ⟨rfl, h0⟩ | ⟨g, cap, cur, rfl, hb, hg, hn, hm, hs, ht⟩
 · cases h0
 · refine ⟨g, cap, rfl, hold_exU (Array.getElem?_eq_some_iff.1 hg).1 hn (fun i y hy => ?_)⟩
   have hi : i < 9 := (List.getElem?_eq_some_iff.1 hy).1
   rw [cellRow w g i cur 43 (0, 0) hg, ← Array.getElem?_toList]
   have : (cur.toList.take (1 * 9))[i]? = some y := by rw [ht]; exact hy
   rw [List.getElem?_take, if_pos (by omega)] at this
   exact this
set_option maxRecDepth 100000 in
set_option maxHeartbeats 16000000 in
theorem parse1 (w : World) (hL : LaidU w) : Calls Tryz.prog 13 #[.string textU1] w fun e w' => ∃ b c a3 a4 a5 a7 a8 m3 m4 m5 m7 m8, e = .returned (.tuple #[.slice (some ⟨b, 0, none⟩) 1 c, .int .i64 0]) ∧ HoldU w' (.slice (some ⟨b, 0, none⟩) 1 c) [exU a3 a4 a5 none a7 a8 m3 m4 m5 0 m7 m8] ∧ Below w.heap.size w w' := by
 have SP : Calls Tryz.prog 37 #[.string textU1] w fun e w' => ∃ b o c, e = .returned (.tuple #[.slice (some ⟨b, o, none⟩) 1 c, .int .i64 0]) ∧ 1 ≤ c ∧ b < w'.heap.size ∧ (∃ a n k, w'.cell? ⟨b, o, none⟩ = some (.slice a n k) ∧ HoldR 2 w' (.slice a n k) (rowsU.map rowF)) ∧ Below w.heap.size w w' := by
   refine (sparse_post textU1 (by decide) w).mono fun e w' h => ?_
   obtain ⟨v, z, he, h1, -, hb⟩ := h
   obtain ⟨hz, a, c, b, o, hv, hc, ha, hcell⟩ := h1 [rowsU] (by decide +kernel)
   obtain ⟨rfl, hbw⟩ := ha (by simp)
   obtain ⟨u, hu, hr⟩ := hcell 0 _ rfl
   have hr' := hr
   obtain ⟨ua, uc, ub, uo, e', _⟩ := hr'
   subst e'
   exact ⟨b, o, c, by rw [he, hz, hv]; rfl, hc, hbw, ⟨_, _, _, hu, hr⟩, hb⟩
 have RE := fun (u : Value) W (hb : Below w.heap.size w W) (h : HoldR 2 W u (rowsU.map rowF)) => record1 u W (hL.on hb) h
 have PR := fun (b c : Nat) (a3 a4 a5 a7 a8 : Option Addr) (m3 m4 m5 m7 m8 : Nat) W (hb : Below w.heap.size w W) (h : HoldU W (.slice (some ⟨b, 0, none⟩) 1 c) [exU a3 a4 a5 none a7 a8 m3 m4 m5 0 m7 m8]) => print1 a3 a4 a5 none a7 a8 m3 m4 m5 0 m7 m8 _ W (hL.on hb) h
 have hT : (textU1.toList == textU1.toList) = true := by simp
 generalize textU1 = TX at *
 obtain ⟨i0, hi, hz0, hz1, hz2'⟩ := info_parts infoU
 clear hL
 go_enter Tryz.func13, Tryz.ntmps13
 go_wp2_with (go_at_call 37; (with_reducible refine SP.mono ?_); rintro e w1 ⟨sb, so, sc, rfl, hc1, hb1, ⟨ra, rn, rk, hcl, hrr⟩, hb⟩; have HB1 := Lib.hid hb; have HCL := Lib.hid hcl; have HRR := Lib.hid hrr; clear hcl hrr hb)
 clear SP
 go_loopw [6, 21, 8] (fun u i _ wr => ∃ k : Nat, k ≤ 1 ∧ i = .int .i64 k ∧ Hid (Below w1.heap.size w1 wr) ∧ Hid ((k = 0 ∧ u = .slice none 0 0) ∨ (k = 1 ∧ ∃ b c a3 a4 a5 a7 a8 m3 m4 m5 m7 m8, u = .slice (some ⟨b, 0, none⟩) 1 c ∧ HoldU wr (.slice (some ⟨b, 0, none⟩) 1 c) [exU a3 a4 a5 none a7 a8 m3 m4 m5 0 m7 m8]))) (fun _ i _ _ => 1 - (intOf i).toNat)
 case atStart => exact ⟨0, by omega, rfl, Lib.hid (Below.refl _ _), Lib.hid (.inl ⟨rfl, rfl⟩)⟩
 case round =>
   obtain ⟨k, hk, rfl, HB, HU⟩ := hrel
   rcases HU.out with ⟨rfl, rfl⟩ | ⟨rfl, ub, uc, a3, a4, a5, a7, a8, m3, m4, m5, m7, m8, rfl, hu⟩
   · have q0 := (HB.out.cell (p := ⟨sb, so, none⟩) hb1).trans HCL.out
     have HBW : Hid (Below w.heap.size w wr) := Lib.hid (HB1.out.trans (HB.out.mono HB1.out.size))
     have R1 := RE _ _ HBW.out (HRR.out.on HB.out)
     clear HU
     go_wp2_with (first
       | (go_at_call 38; (with_reducible refine R1.mono ?_); rintro e w3 ⟨a3, a4, a5, a7, a8, m3, m4, m5, m7, m8, rfl, hb⟩; have HB3 := Lib.hid (HB.out.trans (hb.mono HB.out.size)); clear hb)
       | (at_builtin; refine wpList_append_own _ rfl _ _ 22 rfl w3.heap.size 43 i0 _ 9 184 Tryz.underlying22 hi hz0 hz1 hz2' rfl (by decide) _ 0 [] rfl (World.ownsRow_nil _ _ _ _) ⟨w3.heap.size, 0, none⟩ 1 1 [.string ⟨#[97]⟩, .string ⟨#[49]⟩, .int .i64 7, .slice a3 0 m3, .slice a4 0 m4, .slice a5 0 m5, .slice none 0 0, .slice a7 0 m7, .slice a8 0 m8] rfl rfl (by intro j u hj; match j, hj with | 0, hj => simp at hj; subst hj; simp [Addr.add] | 1, hj => simp at hj; subst hj; simp [Addr.add] | 2, hj => simp at hj; subst hj; simp [Addr.add] | 3, hj => simp at hj; subst hj; simp [Addr.add] | 4, hj => simp at hj; subst hj; simp [Addr.add] | 5, hj => simp at hj; subst hj; simp [Addr.add] | 6, hj => simp at hj; subst hj; simp [Addr.add] | 7, hj => simp at hj; subst hj; simp [Addr.add] | 8, hj => simp at hj; subst hj; simp [Addr.add] | j + 9, hj => simp at hj) (by intro u hu; simp at hu; rcases hu with rfl | rfl | rfl | rfl | rfl | rfl | rfl | rfl | rfl <;> rfl) (by unfold maxLen; omega) (by omega) (by simp) ?_))
     intro v' w4 hown' hgrow _
     have hb4 : Below w3.heap.size w3 w4 := ((Below.refl w3.heap.size w3).alloc (Nat.le_refl _) _).grown hgrow (by simp) (fun k hk => by simp [Value.ownBlock] at hk)
     obtain ⟨ub, uc, hv', hu⟩ := uu_one (a3 := a3) (a4 := a4) (a5 := a5) (a7 := a7) (a8 := a8) (m3 := m3) (m4 := m4) (m5 := m5) (m7 := m7) (m8 := m8) hown'
     subst hv'
     have HB4 : Hid (Below w1.heap.size w1 w4) := Lib.hid (HB3.out.trans (hb4.mono HB3.out.size))
     have HUU := Lib.hid hu
     clear hown' hgrow hb4 hu
     go_wp2
     go_roundw
     case rel => exact ⟨1, by omega, rfl, HB4, Lib.hid (.inr ⟨rfl, ub, uc, a3, a4, a5, a7, a8, m3, m4, m5, m7, m8, rfl, HUU.out⟩)⟩
     case measure => simp [intOf]
   · have HBW : Hid (Below w.heap.size w wr) := Lib.hid (HB1.out.trans (HB.out.mono HB1.out.size))
     have P1 := PR _ _ _ _ _ _ _ _ _ _ _ _ wr HBW.out hu
     have HUU := Lib.hid hu
     clear PR hu HU
     go_wp2_with (go_at_call 9; (with_reducible refine P1.mono ?_); rintro e w3 ⟨rfl, hb⟩; have HB3 := Lib.hid (HBW.out.trans (hb.mono HBW.out.size)); have HU3 := Lib.hid (HoldU.on HUU.out hb); clear hb)
     go_ret2
     exact ⟨_, _, _, _, _, _, _, _, _, _, _, _, rfl, HU3.out, HB3.out⟩
set_option maxRecDepth 100000 in
set_option maxHeartbeats 16000000 in
theorem awake8 (w : World) (hL : LaidU w) : Calls Tryz.prog 8 #[] w fun e w' => e = .returned (.bool true) ∧ Below w.heap.size w w' := by
 have B0 := (Below.refl w.heap.size w).alloc (Nat.le_refl _) (.cells #[.string ⟨#[97]⟩, .string ⟨#[49]⟩, .int .i64 7, .slice none 0 0, .slice none 0 0, .slice none 0 0, .slice none 0 0, .slice none 0 0, .slice none 0 0] 43)
 have HH : HoldU (w.alloc (.cells #[.string ⟨#[97]⟩, .string ⟨#[49]⟩, .int .i64 7, .slice none 0 0, .slice none 0 0, .slice none 0 0, .slice none 0 0, .slice none 0 0, .slice none 0 0] 43)) (.slice (some ⟨w.heap.size, 0, none⟩) 1 1) [exU none none none none none none 0 0 0 0 0 0] := hold_exU (by simp) (Nat.le_refl _) (fun i y hy => by
   rw [World.cell?_alloc_new]
   rw [← hy]
   match i with
   | 0 | 1 | 2 | 3 | 4 | 5 | 6 | 7 | 8 => rfl
   | i + 9 => rfl)
 have P1 := print1 none none none none none none 0 0 0 0 0 0 _ _ (hL.on B0) HH
 have PA := fun W (hb : Below w.heap.size w W) => parse1 W (hL.on hb)
 have ST := fun (a3 a4 a5 a7 a8 : Option Addr) (m3 m4 m5 m7 m8 : Nat) W => settled_any ⟨#[97]⟩ ⟨#[49]⟩ 7 a3 a4 a5 none a7 a8 0 0 0 0 0 0 m3 m4 m5 0 m7 m8 W
 simp only [Nat.lt_irrefl, if_false] at ST
 have HB0 := Lib.hid B0
 clear B0 HH hL
 go_enter Tryz.func8, Tryz.ntmps8
 go_wp2_with (first
   | (go_at_call 9; (with_reducible refine P1.mono ?_); rintro e w1 ⟨rfl, hb⟩; have HB1 := Lib.hid (HB0.out.trans (hb.mono HB0.out.size)); clear hb)
   | (go_at_call 13; (with_reducible refine (PA _ HB1.out).mono ?_); rintro e w2 ⟨ub, uc, a3, a4, a5, a7, a8, m3, m4, m5, m7, m8, rfl, hu, hb⟩; have HB2 := Lib.hid (HB1.out.trans (hb.mono HB1.out.size)); obtain ⟨va, vc, b, o, e', hc, ha, hcell⟩ := hu.parts; simp only [Value.slice.injEq] at e'; obtain ⟨rfl, -, rfl⟩ := e'; obtain ⟨hab, hbw⟩ := ha (by simp); simp only [Option.some.injEq, Addr.mk.injEq] at hab; obtain ⟨rfl, rfl, -⟩ := hab; obtain ⟨x0, x1, x2, x3, x4, x5, x6, x7, x8⟩ := hcell 0 _ rfl; simp only [Nat.zero_mul, Nat.add_zero, Nat.zero_add] at x0 x1 x2 x3 x4 x5 x6 x7 x8; have hc1 : 1 ≤ uc := hc; clear hb hu hcell ha hc)
   | (go_at_call 18; (with_reducible refine (ST _ _ _ _ _ _ _ _ _ _ _).mono ?_); rintro e w3 ⟨rfl, hb⟩; have HB3 := Lib.hid (HB2.out.trans (hb.mono HB2.out.size)); clear hb))
 go_ret
 exact ⟨rfl, HB3.out⟩
end Go.Proofs.YtnnagboeimeiiaaGreatDoor
