import Derived.Test.YtkbkaeefdhkgdaaGreatDoorGSPSmall
set_option maxRecDepth 100000
set_option maxHeartbeats 32000000
namespace Go.Proofs.YtkbkaeefdhkgdaaGreatDoor
open Go.RowKit
theorem Built.with {w w2 : World} {base B : Nat} {vo v0 va : Value} {out : List (List Fld)} {at' st : List Fld} (h : Built w base B vo v0 out at') (hb : Below w.heap.size w w2) (hs : OwnF w2 w.heap.size va st) : Built w2 base w.heap.size vo va out st := by
 have hsz := hb.size
 obtain ⟨us, h1, _, h3, h4, h5⟩ := h.on hb
 have h6 := h
 obtain ⟨us0, _, _, _, h4', _⟩ := h6
 exact ⟨us, h1, hs, by omega, hsz, fun j u s hj hs' => ⟨(h5 j u s hj hs').1, fun g hg => by have := (h5 j u s hj hs').2 g hg; omega⟩⟩
def SParsePost (s : Bs) (w : World) (e : Ending) (w' : World) : Prop := ∃ v z, e = .returned (.tuple #[v, .int .i64 z]) ∧ (∀ l, parseS s = some l → z = 0 ∧ HoldRR 2 w' v (l.map (·.map rowF))) ∧ (parseS s = none → z = 2 ∧ HoldRR 2 w' v []) ∧ Below w.heap.size w w'
theorem HoldRR.nil (w : World) : HoldRR 2 w (.slice none 0 0) [] := ⟨none, 0, 0, 0, rfl, Nat.le_refl _, fun h => absurd h (by simp), fun j l hj => by simp at hj⟩
theorem drop_step (ls : List Bs) (k j : Nat) : ((ls.drop k).drop j).drop 1 = ls.drop (k + j + 1) := by rw [List.drop_drop, List.drop_drop]; congr 1
theorem sparse_post (s : ByteArray) (hs : s.size ≤ 20000) (w : World) : Calls Tryz.prog 27 #[.string s] w (SParsePost s.data.toList w) := by
 have L := fun w => slines_any s (by omega) w
 unfold PLinesPost at L
 have HBAD : Hid (∀ w', parseS s.data.toList = none → Below w.heap.size w w' → SParsePost s.data.toList w (.returned (.tuple #[.slice none 0 0, .int .i64 2])) w') := Lib.hid (fun w' h hb => ⟨_, 2, rfl, fun l hl => (by rw [h] at hl; cases hl), fun _ => ⟨rfl, HoldRR.nil _⟩, hb⟩)
 have HOK : Hid (∀ l v w', parseS s.data.toList = some l → HoldRR 2 w' v (l.map (·.map rowF)) → Below w.heap.size w w' → SParsePost s.data.toList w (.returned (.tuple #[v, .int .i64 0])) w') := Lib.hid (fun l v w' h h1 hb => ⟨v, 0, rfl, fun l' hl => (by rw [h] at hl; cases hl; exact ⟨rfl, h1⟩), fun hn => (by rw [h] at hn; cases hn), hb⟩)
 have hpr := parse_by_read s.data.toList
 cases hlo : linesO s.data.toList with
 | none =>
  rw [hlo] at hpr
  have HP := Lib.hid (fun w' => HBAD.out w' hpr)
  have L2 : ∀ w, Calls Tryz.prog 64 #[.string s] w fun e w' => ∃ v, e = .returned (.tuple #[v, .int .i64 2]) ∧ Below w.heap.size w w' := fun w => (L w).mono fun e w' ⟨v, z, he, _, h2, hb⟩ => ⟨v, by rw [he, (h2 hlo).1], hb⟩
  clear hpr L HBAD HOK hlo
  go_enter Tryz.func27, Tryz.ntmps27
  go_wp2_with (go_at_call 64; (with_reducible refine (L2 _).mono ?_); rintro e w1 ⟨v1, rfl, hb⟩)
  go_ret2
  exact HP.out _ hb
 | some ls =>
  rw [hlo] at hpr
  have HPR := Lib.hid hpr
  have hsm := readSs_small hlo
  have hls : ls = (spl 10 s.data.toList).dropLast := by
   unfold linesO at hlo
   split at hlo
   ·
    cases hlo; rfl
   ·
    cases hlo
  have hpc : ∀ p ∈ ls, p.length ≤ 90000 := fun p hp => by
   rw [hls] at hp
   have := spl_piece 10 s.data.toList p ((List.dropLast_sublist _).subset hp)
   rw [← sizeOf] at this; omega
  have hll : ls.length ≤ 90000 := by
   have := spl_len 10 s.data.toList
   rw [← sizeOf] at this
   rw [hls, List.length_dropLast]; omega
  have HSM : Hid (Small (readSs ls) 90000) := Lib.hid (by
   rw [← sizeOf] at hsm
   exact ⟨by have := hsm.n; omega, fun st hst => by have := hsm.ns st hst; omega, fun st hst f hf => by have := hsm.fs st hst f hf; omega, by have := hsm.pr; omega⟩)
  have HPC := Lib.hid hpc
  have L2 : ∀ w, Calls Tryz.prog 64 #[.string s] w fun e w' => ∃ v, e = .returned (.tuple #[v, .int .i64 0]) ∧ OwnT w' w.heap.size v ls ∧ Below w.heap.size w w' := fun w => (L w).mono fun e w' ⟨v, z, he, h1, _, hb⟩ => ⟨v, by rw [he, (h1 ls hlo).1], (h1 ls hlo).2, hb⟩
  obtain ⟨i1, hi', hy0, hy1, hy2⟩ := info_parts infoSF
  obtain ⟨m, hN⟩ : ∃ m, ls.length = m := ⟨_, rfl⟩
  rw [hN] at hll
  have HN := Lib.hid hN
  clear hpr L hsm hls hpc hN hlo
  go_enter Tryz.func27, Tryz.ntmps27
  go_wp2_with (go_at_call 64; (with_reducible refine (L2 _).mono ?_); clear L2; rintro e w1 ⟨v1, rfl, hh, hb⟩; obtain ⟨a, c, b, o, rfl, hc, ha, hcell⟩ := hh.holds; have HC := Lib.hid hcell; have HB1 := Lib.hid hb; rw [HN.out]; rw [HN.out] at hc ha; clear hb hcell hh; refine Hid.out ?_)
  refine Lib.hid ?_
  go_wp2
  go_loopw [4, 6, 7] (fun r vo _ wr => ∃ (k B : Nat) (a : Option Addr) (out : List (List Fld)), k ≤ m ∧ r = .slice a (m - k) (c - k) ∧ (k < m → a = some ⟨b, o + k, none⟩ ∧ b < w1.heap.size) ∧ out.length ≤ k ∧ Hid (readSs ls = out ++ readSs (ls.drop k)) ∧ Hid (Built wr w1.heap.size B vo (.slice none 0 0) out []) ∧ Hid (Below w1.heap.size w1 wr)) (fun r _ _ _ => match r with | .slice _ n _ => n | _ => 0)
  case atStart => exact ⟨0, _, a, [], by omega, rfl, ha, Nat.le_refl _, Lib.hid rfl, Lib.hid (Built.start w1 _ (Nat.le_refl _)), Lib.hid (Below.refl _ _)⟩
  case round =>
   obtain ⟨k, B, a, out, hk, rfl, ha, hol, HF, HBU, HB⟩ := hrel
   have hbz : w1.heap.size ≤ wr.heap.size := HB.out.size
   obtain ⟨us, h1, -, h3, h4, h5⟩ := id HBU.out
   have H1 := Lib.hid h1
   have H5 := Lib.hid h5
   clear h1 h5
   obtain ⟨ol, hol2⟩ : ∃ ol, out.length = ol := ⟨_, rfl⟩
   have HOL := Lib.hid hol2
   rw [hol2] at hol
   clear hol2
   have hwz := HB1.out.size
   by_cases hlt : k < m
   ·
    obtain ⟨rfl, hbw⟩ := ha hlt
    obtain ⟨n, hn⟩ : ∃ n, m - k = n := ⟨_, rfl⟩
    obtain ⟨cc, hcc⟩ : ∃ cc, c - k = cc := ⟨_, rfl⟩
    rw [hn, hcc]
    have hkn : k + n = m := by omega
    have hck : c = k + cc := by omega
    have hnc : n ≤ cc := by omega
    have hg : 0 < n := by omega
    have hcell : ∀ (W : World), Below w1.heap.size w1 W → ∀ (j : Nat) (l : Bs), ls[j]? = some l → W.cell? ⟨b, o + j, none⟩ = some (.string ⟨l.toArray⟩) := fun W hW j l hj => (hW.cell (p := ⟨b, o + j, none⟩) hbw).trans (HC.out j l hj)
    have hdl : (ls.drop k).length = n := by rw [List.length_drop, HN.out]; omega
    have HD := Lib.hid hdl
    have hR0 : ls.drop k ≠ [] := fun g => by rw [g] at hdl; simp at hdl; omega
    have hpart : ∀ (j : Nat), j ≤ n → HoldT wr (.slice (some ⟨b, o + k, none⟩) j cc) ((ls.drop k).take j) := fun j hj => HoldT.part (hcell wr HB.out) (by omega) k j cc (by omega) (by rw [HN.out]; omega) (fun _ => rfl)
    have IX0 := index_any (.slice (some ⟨b, o + k, none⟩) n cc) (ls.drop k) (by rw [hdl]; omega) wr (by have := hpart n (Nat.le_refl _); rwa [List.take_of_length_le (by rw [hdl]; exact Nat.le_refl _)] at this)
    have IX : Calls Tryz.prog 65 #[.slice (some ⟨b, o + k, none⟩) n cc, .string ⟨#[]⟩] wr fun e w' => ((∃ j : Nat, e = .returned (.int .i64 j) ∧ j < n ∧ j ≤ cc ∧ ¬ ((j : Int) < 0) ∧ Hid (readSs (ls.drop k) = readFlds ((ls.drop k).take j) :: readSs (ls.drop (k + j + 1)))) ∨ (e = .returned (.int .i64 (-1)) ∧ Hid (readSs (ls.drop k) = [readFlds ((ls.drop k).take n)]))) ∧ wr = w' := IX0.mono fun e w' ⟨hx, hw⟩ => ⟨by
     rcases hx with ⟨j, rfl, hj, hall, ht, hd⟩ | ⟨rfl, hall⟩
     ·
      rw [hdl] at hj
      exact .inl ⟨j, rfl, hj, by omega, by omega, Lib.hid (by rw [readSs_cut hall, ht, hd, drop_step])⟩
     ·
      exact .inr ⟨rfl, Lib.hid (by rw [readSs_last hR0 hall, List.take_of_length_le (by rw [hdl]; exact Nat.le_refl _)])⟩, hw⟩
    have RF : ∀ (j : Nat), j ≤ n → Calls Tryz.prog 66 #[.slice (some ⟨b, o + k, none⟩) j cc] wr fun e w' => ∃ a q c, e = .returned (.slice a q c) ∧ OwnF w' wr.heap.size (.slice a q c) (readFlds ((ls.drop k).take j)) ∧ Below wr.heap.size wr w' := fun j hj => (readFields_any _ _ (by rw [List.length_take, hdl]; omega) (fun p hp => HPC.out p (List.mem_of_mem_drop (List.mem_of_mem_take hp))) wr (hpart j hj)).mono fun e w' ⟨v, he, ho, hb⟩ => by
     obtain ⟨a', c', rfl, _⟩ := ho.shape
     exact ⟨a', _, c', he, ho, hb⟩
    have HRF := Lib.hid RF
    clear hcell hdl hpart RF ha IX0 hR0
    go_wp2_with (first
     | (go_at_call 65; (with_reducible refine IX.mono ?_); clear IX; rintro e w2 ⟨hix, rfl⟩; rcases hix with ⟨j, rfl, hj, hjc, hj0, HST⟩ | ⟨rfl, HST⟩)
     | (go_at_call 66; (with_reducible refine (HRF.out _ (by omega)).mono ?_); rintro e w3 ⟨a3, q3, c3, rfl, ho3, hb3⟩; obtain ⟨us3, k1, k2, k3, k4, k5⟩ := Built.with HBU.out hb3 ho3; have K1 := Lib.hid k1; have K2 := Lib.hid k2; have K5 := Lib.hid k5; have HB3 := Lib.hid hb3; have hsz3 := hb3.size; clear k1 k2 k5 hb3 ho3)
     | (at_builtin; refine wpList_append_own _ rfl _ _ 50 rfl w1.heap.size 51 i1 (.slice none 0 0) 1 24 Tryz.underlying50 hi' hy0 hy1 hy2 rfl (by decide) _ _ _ rfl (World.ownsRow.alloc K1.out _) ⟨w3.heap.size, 0, none⟩ 1 1 [.slice a3 q3 c3] rfl rfl (news1 _ _ rfl) (one1 _ _ _) (by rw [HOL.out]; unfold maxLen; omega) (by rw [HOL.out]; omega) (by simp; omega) ?_))
    ·
     intro v' w4 hown' hgrow _
     have HNF : Hid (readSs ls = (out ++ [readFlds ((ls.drop k).take j)]) ++ readSs (ls.drop (k + j + 1))) := Lib.hid (by rw [HF.out, HST.out]; simp)
     have HB' : Hid (Built w4 w1.heap.size w4.heap.size v' (.slice none 0 0) (out ++ [readFlds ((ls.drop k).take j)]) []) := Lib.hid (Built.cut K1.out K2.out k3 K5.out hown' hgrow (by have := hgrow.size; simp at this; omega))
     have HBL : Hid (Below w1.heap.size w1 w4) := Lib.hid (below_row (HB.out.trans (HB3.out.mono hbz)) K1.out hgrow (Nat.le_refl _) (by omega))
     have hlo : (out ++ [readFlds ((ls.drop k).take j)]).length ≤ k + j + 1 := by rw [List.length_append, HOL.out]; show ol + 1 ≤ k + j + 1; omega
     have hj1 : j + 1 ≤ n := by omega
     have hj2 : j + 1 ≤ cc := by omega
     clear hown' hgrow
     go_wp2
     all_goals
      go_roundw
      case' rel =>
       refine ⟨k + j + 1, by omega, _, _, ⟨rfl, by omega, by omega⟩, ?_, out ++ [readFlds ((ls.drop k).take j)], hlo, HNF, HB'⟩
       intro h
       first | (exfalso; omega) | (rw [show o + k + (j + 1) = o + (k + j + 1) by omega])
      case' measure => omega
    ·
     intro v' w4 hown' hgrow _
     have HE : Hid (readSs ls = out ++ [readFlds ((ls.drop k).take n)]) := Lib.hid (by rw [HF.out, HST.out])
     have HRR : Hid (HoldRR 2 w4 v' ((readSs ls).map (·.map rowF))) := Lib.hid (by rw [HE.out]; exact (Built.cut K1.out K2.out k3 K5.out hown' hgrow (by have := hgrow.size; simp at this; omega)).rows)
     have HBL : Hid (Below w.heap.size w w4) := Lib.hid (HB1.out.trans ((below_row (HB.out.trans (HB3.out.mono hbz)) K1.out hgrow (Nat.le_refl _) (by omega)).mono hwz))
     clear hown' hgrow HE HF HST HB HB3
     have P := fun w => print_any v' (readSs ls) HSM.out w
     have P2 := P _ HRR.out
     clear P
     unfold PrintPost at P2
     obtain ⟨T, hT⟩ : ∃ T : ByteArray, T = ⟨(printE (readSs ls)).1.toArray⟩ := ⟨_, rfl⟩
     obtain ⟨z, hz⟩ : ∃ z : Int, z = (printE (readSs ls)).2 := ⟨_, rfl⟩
     have hTl : T.data.toList = (printE (readSs ls)).1 := by rw [hT]
     have HTZ : Hid (printE (readSs ls) = (T.data.toList, z)) := Lib.hid (by rw [hTl, hz])
     simp only [← hT, ← hz] at P2
     have hq := eqT T s
     clear hT hz hTl
     by_cases hz0 : z = 0
     ·
      subst hz0
      by_cases hts : T.data.toList = s.data.toList
      ·
       rw [decide_eq_true hts] at hq
       have HX : Hid (parseS s.data.toList = some (readSs ls)) := Lib.hid (by rw [HPR.out]; exact if_pos (by rw [HTZ.out, hts]))
       clear hts
       go_wp2_with (go_at_call 17; (with_reducible refine P2.mono ?_); rintro e w5 ⟨rfl, hb5⟩)
       go_ret2
       exact HOK.out _ _ _ HX.out (HRR.out.on hb5) (HBL.out.trans (hb5.mono HBL.out.size))
      ·
       rw [decide_eq_false hts] at hq
       have HX : Hid (parseS s.data.toList = none) := Lib.hid (by rw [HPR.out]; exact if_neg (by rw [HTZ.out]; simpa using hts))
       clear hts
       go_wp2_with (go_at_call 17; (with_reducible refine P2.mono ?_); rintro e w5 ⟨rfl, hb5⟩)
       go_ret2
       exact HBAD.out _ HX.out (HBL.out.trans (hb5.mono HBL.out.size))
     ·
      have hzb : (z == 0) = false := by rw [beq_eq_false_iff_ne]; exact hz0
      have hzn : (z != 0) = true := by rw [bne, hzb]; rfl
      have HX : Hid (parseS s.data.toList = none) := Lib.hid (by rw [HPR.out]; exact if_neg (by rw [HTZ.out]; simp [hz0]))
      go_wp2_with (go_at_call 17; (with_reducible refine P2.mono ?_); rintro e w5 ⟨rfl, hb5⟩)
      go_ret2
      exact HBAD.out _ HX.out (HBL.out.trans (hb5.mono HBL.out.size))
   ·
    obtain rfl : k = m := by omega
    have HE : Hid (readSs ls = out) := Lib.hid (by rw [HF.out, List.drop_eq_nil_of_le (by rw [HN.out]; omega), readSs_nil, List.append_nil])
    have HRR : Hid (HoldRR 2 wr u6 ((readSs ls).map (·.map rowF))) := Lib.hid (by rw [HE.out]; exact HBU.out.rows)
    have HBL : Hid (Below w.heap.size w wr) := Lib.hid (HB1.out.trans (HB.out.mono hwz))
    rw [Nat.sub_self]
    clear HF HE HB
    have P := fun w => print_any u6 (readSs ls) HSM.out w
    have P2 := P _ HRR.out
    clear P
    unfold PrintPost at P2
    obtain ⟨T, hT⟩ : ∃ T : ByteArray, T = ⟨(printE (readSs ls)).1.toArray⟩ := ⟨_, rfl⟩
    obtain ⟨z, hz⟩ : ∃ z : Int, z = (printE (readSs ls)).2 := ⟨_, rfl⟩
    have hTl : T.data.toList = (printE (readSs ls)).1 := by rw [hT]
    have HTZ : Hid (printE (readSs ls) = (T.data.toList, z)) := Lib.hid (by rw [hTl, hz])
    simp only [← hT, ← hz] at P2
    have hq := eqT T s
    clear hT hz hTl
    by_cases hz0 : z = 0
    ·
     subst hz0
     by_cases hts : T.data.toList = s.data.toList
     ·
      rw [decide_eq_true hts] at hq
      have HX : Hid (parseS s.data.toList = some (readSs ls)) := Lib.hid (by rw [HPR.out]; exact if_pos (by rw [HTZ.out, hts]))
      clear hts
      go_wp2_with (go_at_call 17; (with_reducible refine P2.mono ?_); rintro e w5 ⟨rfl, hb5⟩)
      go_ret2
      exact HOK.out _ _ _ HX.out (HRR.out.on hb5) (HBL.out.trans (hb5.mono HBL.out.size))
     ·
      rw [decide_eq_false hts] at hq
      have HX : Hid (parseS s.data.toList = none) := Lib.hid (by rw [HPR.out]; exact if_neg (by rw [HTZ.out]; simpa using hts))
      clear hts
      go_wp2_with (go_at_call 17; (with_reducible refine P2.mono ?_); rintro e w5 ⟨rfl, hb5⟩)
      go_ret2
      exact HBAD.out _ HX.out (HBL.out.trans (hb5.mono HBL.out.size))
    ·
     have hzb : (z == 0) = false := by rw [beq_eq_false_iff_ne]; exact hz0
     have hzn : (z != 0) = true := by rw [bne, hzb]; rfl
     have HX : Hid (parseS s.data.toList = none) := Lib.hid (by rw [HPR.out]; exact if_neg (by rw [HTZ.out]; simp [hz0]))
     go_wp2_with (go_at_call 17; (with_reducible refine P2.mono ?_); rintro e w5 ⟨rfl, hb5⟩)
     go_ret2
     exact HBAD.out _ HX.out (HBL.out.trans (hb5.mono HBL.out.size))
end Go.Proofs.YtkbkaeefdhkgdaaGreatDoor
