import Derived.Test.YtkbkaeefdhkgdaaGreatDoorPSPSmall
import Derived.Test.YtkbkaeefdhkgdaaGreatDoorPSPWords2
import Derived.Test.YtkbkaeefdhkgdaaGreatDoorPUPrintA
set_option maxRecDepth 100000
set_option maxHeartbeats 32000000
namespace Go.Proofs.YtkbkaeefdhkgdaaGreatDoor
section
open Go.RowKit
theorem Built.with {w w2 : World} {base B : Nat} {vo v0 va : Value} {out : List (List Fld)} {at' st : List Fld} (h : Built w base B vo v0 out at') (hb : Below w.heap.size w w2) (hs : OwnF w2 w.heap.size va st) : Built w2 base w.heap.size vo va out st := by
 have hsz := hb.size
 obtain ⟨us, h1, _, h3, h4, h5⟩ := h.on hb
 have h6 := h
 obtain ⟨us0, _, _, _, h4', _⟩ := h6
 exact ⟨us, h1, hs, by omega, hsz, fun j u s hj hs' => ⟨(h5 j u s hj hs').1, fun g hg => by have := (h5 j u s hj hs').2 g hg; omega⟩⟩
def SParsePost (s : Bs) (w : World) (e : Ending) (w' : World) : Prop := ∃ v z, e = .returned (.tuple #[v, .int .i64 z]) ∧ (∀ l, parseS s = some l → z = 0 ∧ HoldRR 2 w' v (l.map (·.map rowF))) ∧ (parseS s = none → z = 2 ∧ HoldRR 2 w' v []) ∧ Below w.heap.size w w'
theorem HoldRR.nil (w : World) : HoldRR 2 w (.slice none 0 0) [] := ⟨none, 0, 0, 0, rfl, Nat.le_refl _, fun h => absurd h (by simp), fun j l hj => by simp at hj⟩
theorem drop_step (ls : List Bs) (k j : Nat) : ((ls.drop k).drop j).drop 1 = ls.drop (k + j + 1) := by rw [List.drop_drop, List.drop_drop]; congr 1
theorem sparse_post (s : ByteArray) (hs : s.size ≤ 20000) (w : World) : Calls Tryz.prog 27 #[.string s] w (SParsePost s.data.toList w) := by
 have L := fun w => slines_any s (by omega) w
 unfold PLinesPost at L
 have HBAD : Hid (∀ w', parseS s.data.toList = none → Below w.heap.size w w' → SParsePost s.data.toList w (.returned (.tuple #[.slice none 0 0, .int .i64 2])) w') := Lib.hid (fun w' h hb => ⟨_, 2, rfl, fun l hl => (by rw [h] at hl; cases hl), fun _ => ⟨rfl, HoldRR.nil _⟩, hb⟩)
 have HOK : Hid (∀ l v w', parseS s.data.toList = some l → HoldRR 2 w' v (l.map (·.map rowF)) → Below w.heap.size w w' → SParsePost s.data.toList w (.returned (.tuple #[v, .int .i64 0])) w') := Lib.hid (fun l v w' h h1 hb => ⟨v, 0, rfl, fun l' hl => (by rw [h] at hl; cases hl; exact ⟨rfl, h1⟩), fun hn => (by rw [h] at hn; cases hn), hb⟩)
 have hpr := parse_by_read s.data.toList
 cases hlo : linesO s.data.toList with
 | none =>
  rw [hlo] at hpr
  have HP := Lib.hid (fun w' => HBAD.out w' hpr)
  have L2 : ∀ w, Calls Tryz.prog 64 #[.string s] w fun e w' => ∃ v, e = .returned (.tuple #[v, .int .i64 2]) ∧ Below w.heap.size w w' := fun w => (L w).mono fun e w' ⟨v, z, he, _, h2, hb⟩ => ⟨v, by rw [he, (h2 hlo).1], hb⟩
  clear hpr L HBAD HOK hlo
  go_enter Tryz.func27, Tryz.ntmps27
  go_wp2_with (go_at_call 64; (with_reducible refine (L2 _).mono ?_); rintro e w1 ⟨v1, rfl, hb⟩)
  go_ret2
  exact HP.out _ hb
 | some ls =>
  rw [hlo] at hpr
  have HPR := Lib.hid hpr
  have hsm := readSs_small hlo
  have hls : ls = (spl 10 s.data.toList).dropLast := by
   unfold linesO at hlo
   split at hlo
   ·
    cases hlo; rfl
   ·
    cases hlo
  have hpc : ∀ p ∈ ls, p.length ≤ 90000 := fun p hp => by
   rw [hls] at hp
   have := spl_piece 10 s.data.toList p ((List.dropLast_sublist _).subset hp)
   rw [← sizeOf] at this; omega
  have hll : ls.length ≤ 90000 := by
   have := spl_len 10 s.data.toList
   rw [← sizeOf] at this
   rw [hls, List.length_dropLast]; omega
  have HSM : Hid (Small (readSs ls) 90000) := Lib.hid (by
   rw [← sizeOf] at hsm
   exact ⟨by have := hsm.n; omega, fun st hst => by have := hsm.ns st hst; omega, fun st hst f hf => by have := hsm.fs st hst f hf; omega, by have := hsm.pr; omega⟩)
  have HPC := Lib.hid hpc
  have L2 : ∀ w, Calls Tryz.prog 64 #[.string s] w fun e w' => ∃ v, e = .returned (.tuple #[v, .int .i64 0]) ∧ OwnT w' w.heap.size v ls ∧ Below w.heap.size w w' := fun w => (L w).mono fun e w' ⟨v, z, he, h1, _, hb⟩ => ⟨v, by rw [he, (h1 ls hlo).1], (h1 ls hlo).2, hb⟩
  obtain ⟨i1, hi', hy0, hy1, hy2⟩ := info_parts infoSF
  obtain ⟨m, hN⟩ : ∃ m, ls.length = m := ⟨_, rfl⟩
  rw [hN] at hll
  have HN := Lib.hid hN
  clear hpr L hsm hls hpc hN hlo
  go_enter Tryz.func27, Tryz.ntmps27
  go_wp2_with (go_at_call 64; (with_reducible refine (L2 _).mono ?_); clear L2; rintro e w1 ⟨v1, rfl, hh, hb⟩; obtain ⟨a, c, b, o, rfl, hc, ha, hcell⟩ := hh.holds; have HC := Lib.hid hcell; have HB1 := Lib.hid hb; rw [HN.out]; rw [HN.out] at hc ha; clear hb hcell hh; refine Hid.out ?_)
  refine Lib.hid ?_
  go_wp2
  go_loopw [4, 6, 7] (fun r vo _ wr => ∃ (k B : Nat) (a : Option Addr) (out : List (List Fld)), k ≤ m ∧ r = .slice a (m - k) (c - k) ∧ (k < m → a = some ⟨b, o + k, none⟩ ∧ b < w1.heap.size) ∧ out.length ≤ k ∧ Hid (readSs ls = out ++ readSs (ls.drop k)) ∧ Hid (Built wr w1.heap.size B vo (.slice none 0 0) out []) ∧ Hid (Below w1.heap.size w1 wr)) (fun r _ _ _ => match r with | .slice _ n _ => n | _ => 0)
  case atStart => exact ⟨0, _, a, [], by omega, rfl, ha, Nat.le_refl _, Lib.hid rfl, Lib.hid (Built.start w1 _ (Nat.le_refl _)), Lib.hid (Below.refl _ _)⟩
  case round =>
   obtain ⟨k, B, a, out, hk, rfl, ha, hol, HF, HBU, HB⟩ := hrel
   have hbz : w1.heap.size ≤ wr.heap.size := HB.out.size
   obtain ⟨us, h1, -, h3, h4, h5⟩ := id HBU.out
   have H1 := Lib.hid h1
   have H5 := Lib.hid h5
   clear h1 h5
   obtain ⟨ol, hol2⟩ : ∃ ol, out.length = ol := ⟨_, rfl⟩
   have HOL := Lib.hid hol2
   rw [hol2] at hol
   clear hol2
   have hwz := HB1.out.size
   by_cases hlt : k < m
   ·
    obtain ⟨rfl, hbw⟩ := ha hlt
    obtain ⟨n, hn⟩ : ∃ n, m - k = n := ⟨_, rfl⟩
    obtain ⟨cc, hcc⟩ : ∃ cc, c - k = cc := ⟨_, rfl⟩
    rw [hn, hcc]
    have hkn : k + n = m := by omega
    have hck : c = k + cc := by omega
    have hnc : n ≤ cc := by omega
    have hg : 0 < n := by omega
    have hcell : ∀ (W : World), Below w1.heap.size w1 W → ∀ (j : Nat) (l : Bs), ls[j]? = some l → W.cell? ⟨b, o + j, none⟩ = some (.string ⟨l.toArray⟩) := fun W hW j l hj => (hW.cell (p := ⟨b, o + j, none⟩) hbw).trans (HC.out j l hj)
    have hdl : (ls.drop k).length = n := by rw [List.length_drop, HN.out]; omega
    have HD := Lib.hid hdl
    have hR0 : ls.drop k ≠ [] := fun g => by rw [g] at hdl; simp at hdl; omega
    have hpart : ∀ (j : Nat), j ≤ n → HoldT wr (.slice (some ⟨b, o + k, none⟩) j cc) ((ls.drop k).take j) := fun j hj => HoldT.part (hcell wr HB.out) (by omega) k j cc (by omega) (by rw [HN.out]; omega) (fun _ => rfl)
    have IX0 := index_any (.slice (some ⟨b, o + k, none⟩) n cc) (ls.drop k) (by rw [hdl]; omega) wr (by have := hpart n (Nat.le_refl _); rwa [List.take_of_length_le (by rw [hdl]; exact Nat.le_refl _)] at this)
    have IX : Calls Tryz.prog 65 #[.slice (some ⟨b, o + k, none⟩) n cc, .string ⟨#[]⟩] wr fun e w' => ((∃ j : Nat, e = .returned (.int .i64 j) ∧ j < n ∧ j ≤ cc ∧ ¬ ((j : Int) < 0) ∧ Hid (readSs (ls.drop k) = readFlds ((ls.drop k).take j) :: readSs (ls.drop (k + j + 1)))) ∨ (e = .returned (.int .i64 (-1)) ∧ Hid (readSs (ls.drop k) = [readFlds ((ls.drop k).take n)]))) ∧ wr = w' := IX0.mono fun e w' ⟨hx, hw⟩ => ⟨by
     rcases hx with ⟨j, rfl, hj, hall, ht, hd⟩ | ⟨rfl, hall⟩
     ·
      rw [hdl] at hj
      exact .inl ⟨j, rfl, hj, by omega, by omega, Lib.hid (by rw [readSs_cut hall, ht, hd, drop_step])⟩
     ·
      exact .inr ⟨rfl, Lib.hid (by rw [readSs_last hR0 hall, List.take_of_length_le (by rw [hdl]; exact Nat.le_refl _)])⟩, hw⟩
    have RF : ∀ (j : Nat), j ≤ n → Calls Tryz.prog 66 #[.slice (some ⟨b, o + k, none⟩) j cc] wr fun e w' => ∃ a q c, e = .returned (.slice a q c) ∧ OwnF w' wr.heap.size (.slice a q c) (readFlds ((ls.drop k).take j)) ∧ Below wr.heap.size wr w' := fun j hj => (readFields_any _ _ (by rw [List.length_take, hdl]; omega) (fun p hp => HPC.out p (List.mem_of_mem_drop (List.mem_of_mem_take hp))) wr (hpart j hj)).mono fun e w' ⟨v, he, ho, hb⟩ => by
     obtain ⟨a', c', rfl, _⟩ := ho.shape
     exact ⟨a', _, c', he, ho, hb⟩
    have HRF := Lib.hid RF
    clear hcell hdl hpart RF ha IX0 hR0
    go_wp2_with (first
     | (go_at_call 65; (with_reducible refine IX.mono ?_); clear IX; rintro e w2 ⟨hix, rfl⟩; rcases hix with ⟨j, rfl, hj, hjc, hj0, HST⟩ | ⟨rfl, HST⟩)
     | (go_at_call 66; (with_reducible refine (HRF.out _ (by omega)).mono ?_); rintro e w3 ⟨a3, q3, c3, rfl, ho3, hb3⟩; obtain ⟨us3, k1, k2, k3, k4, k5⟩ := Built.with HBU.out hb3 ho3; have K1 := Lib.hid k1; have K2 := Lib.hid k2; have K5 := Lib.hid k5; have HB3 := Lib.hid hb3; have hsz3 := hb3.size; clear k1 k2 k5 hb3 ho3)
     | (at_builtin; refine wpList_append_own _ rfl _ _ 50 rfl w1.heap.size 51 i1 (.slice none 0 0) 1 24 Tryz.underlying50 hi' hy0 hy1 hy2 rfl (by decide) _ _ _ rfl (World.ownsRow.alloc K1.out _) ⟨w3.heap.size, 0, none⟩ 1 1 [.slice a3 q3 c3] rfl rfl (news1 _ _ rfl) (one1 _ _ _) (by rw [HOL.out]; unfold maxLen; omega) (by rw [HOL.out]; omega) (by simp; omega) ?_))
    ·
     intro v' w4 hown' hgrow _
     have HNF : Hid (readSs ls = (out ++ [readFlds ((ls.drop k).take j)]) ++ readSs (ls.drop (k + j + 1))) := Lib.hid (by rw [HF.out, HST.out]; simp)
     have HB' : Hid (Built w4 w1.heap.size w4.heap.size v' (.slice none 0 0) (out ++ [readFlds ((ls.drop k).take j)]) []) := Lib.hid (Built.cut K1.out K2.out k3 K5.out hown' hgrow (by have := hgrow.size; simp at this; omega))
     have HBL : Hid (Below w1.heap.size w1 w4) := Lib.hid (below_row (HB.out.trans (HB3.out.mono hbz)) K1.out hgrow (Nat.le_refl _) (by omega))
     have hlo : (out ++ [readFlds ((ls.drop k).take j)]).length ≤ k + j + 1 := by rw [List.length_append, HOL.out]; show ol + 1 ≤ k + j + 1; omega
     have hj1 : j + 1 ≤ n := by omega
     have hj2 : j + 1 ≤ cc := by omega
     clear hown' hgrow
     go_wp2
     all_goals
      go_roundw
      case' rel =>
       refine ⟨k + j + 1, by omega, _, _, ⟨rfl, by omega, by omega⟩, ?_, out ++ [readFlds ((ls.drop k).take j)], hlo, HNF, HB'⟩
       intro h
       first | (exfalso; omega) | (rw [show o + k + (j + 1) = o + (k + j + 1) by omega])
      case' measure => omega
    ·
     intro v' w4 hown' hgrow _
     have HE : Hid (readSs ls = out ++ [readFlds ((ls.drop k).take n)]) := Lib.hid (by rw [HF.out, HST.out])
     have HRR : Hid (HoldRR 2 w4 v' ((readSs ls).map (·.map rowF))) := Lib.hid (by rw [HE.out]; exact (Built.cut K1.out K2.out k3 K5.out hown' hgrow (by have := hgrow.size; simp at this; omega)).rows)
     have HBL : Hid (Below w.heap.size w w4) := Lib.hid (HB1.out.trans ((below_row (HB.out.trans (HB3.out.mono hbz)) K1.out hgrow (Nat.le_refl _) (by omega)).mono hwz))
     clear hown' hgrow HE HF HST HB HB3
     have P := fun w => print_any v' (readSs ls) HSM.out w
     have P2 := P _ HRR.out
     clear P
     unfold PrintPost at P2
     obtain ⟨T, hT⟩ : ∃ T : ByteArray, T = ⟨(printE (readSs ls)).1.toArray⟩ := ⟨_, rfl⟩
     obtain ⟨z, hz⟩ : ∃ z : Int, z = (printE (readSs ls)).2 := ⟨_, rfl⟩
     have hTl : T.data.toList = (printE (readSs ls)).1 := by rw [hT]
     have HTZ : Hid (printE (readSs ls) = (T.data.toList, z)) := Lib.hid (by rw [hTl, hz])
     simp only [← hT, ← hz] at P2
     have hq := eqT T s
     clear hT hz hTl
     by_cases hz0 : z = 0
     ·
      subst hz0
      by_cases hts : T.data.toList = s.data.toList
      ·
       rw [decide_eq_true hts] at hq
       have HX : Hid (parseS s.data.toList = some (readSs ls)) := Lib.hid (by rw [HPR.out]; exact if_pos (by rw [HTZ.out, hts]))
       clear hts
       go_wp2_with (go_at_call 17; (with_reducible refine P2.mono ?_); rintro e w5 ⟨rfl, hb5⟩)
       go_ret2
       exact HOK.out _ _ _ HX.out (HRR.out.on hb5) (HBL.out.trans (hb5.mono HBL.out.size))
      ·
       rw [decide_eq_false hts] at hq
       have HX : Hid (parseS s.data.toList = none) := Lib.hid (by rw [HPR.out]; exact if_neg (by rw [HTZ.out]; simpa using hts))
       clear hts
       go_wp2_with (go_at_call 17; (with_reducible refine P2.mono ?_); rintro e w5 ⟨rfl, hb5⟩)
       go_ret2
       exact HBAD.out _ HX.out (HBL.out.trans (hb5.mono HBL.out.size))
     ·
      have hzb : (z == 0) = false := by rw [beq_eq_false_iff_ne]; exact hz0
      have hzn : (z != 0) = true := by rw [bne, hzb]; rfl
      have HX : Hid (parseS s.data.toList = none) := Lib.hid (by rw [HPR.out]; exact if_neg (by rw [HTZ.out]; simp [hz0]))
      go_wp2_with (go_at_call 17; (with_reducible refine P2.mono ?_); rintro e w5 ⟨rfl, hb5⟩)
      go_ret2
      exact HBAD.out _ HX.out (HBL.out.trans (hb5.mono HBL.out.size))
   ·
    obtain rfl : k = m := by omega
    have HE : Hid (readSs ls = out) := Lib.hid (by rw [HF.out, List.drop_eq_nil_of_le (by rw [HN.out]; omega), readSs_nil, List.append_nil])
    have HRR : Hid (HoldRR 2 wr u6 ((readSs ls).map (·.map rowF))) := Lib.hid (by rw [HE.out]; exact HBU.out.rows)
    have HBL : Hid (Below w.heap.size w wr) := Lib.hid (HB1.out.trans (HB.out.mono hwz))
    rw [Nat.sub_self]
    clear HF HE HB
    have P := fun w => print_any u6 (readSs ls) HSM.out w
    have P2 := P _ HRR.out
    clear P
    unfold PrintPost at P2
    obtain ⟨T, hT⟩ : ∃ T : ByteArray, T = ⟨(printE (readSs ls)).1.toArray⟩ := ⟨_, rfl⟩
    obtain ⟨z, hz⟩ : ∃ z : Int, z = (printE (readSs ls)).2 := ⟨_, rfl⟩
    have hTl : T.data.toList = (printE (readSs ls)).1 := by rw [hT]
    have HTZ : Hid (printE (readSs ls) = (T.data.toList, z)) := Lib.hid (by rw [hTl, hz])
    simp only [← hT, ← hz] at P2
    have hq := eqT T s
    clear hT hz hTl
    by_cases hz0 : z = 0
    ·
     subst hz0
     by_cases hts : T.data.toList = s.data.toList
     ·
      rw [decide_eq_true hts] at hq
      have HX : Hid (parseS s.data.toList = some (readSs ls)) := Lib.hid (by rw [HPR.out]; exact if_pos (by rw [HTZ.out, hts]))
      clear hts
      go_wp2_with (go_at_call 17; (with_reducible refine P2.mono ?_); rintro e w5 ⟨rfl, hb5⟩)
      go_ret2
      exact HOK.out _ _ _ HX.out (HRR.out.on hb5) (HBL.out.trans (hb5.mono HBL.out.size))
     ·
      rw [decide_eq_false hts] at hq
      have HX : Hid (parseS s.data.toList = none) := Lib.hid (by rw [HPR.out]; exact if_neg (by rw [HTZ.out]; simpa using hts))
      clear hts
      go_wp2_with (go_at_call 17; (with_reducible refine P2.mono ?_); rintro e w5 ⟨rfl, hb5⟩)
      go_ret2
      exact HBAD.out _ HX.out (HBL.out.trans (hb5.mono HBL.out.size))
    ·
     have hzb : (z == 0) = false := by rw [beq_eq_false_iff_ne]; exact hz0
     have hzn : (z != 0) = true := by rw [bne, hzb]; rfl
     have HX : Hid (parseS s.data.toList = none) := Lib.hid (by rw [HPR.out]; exact if_neg (by rw [HTZ.out]; simp [hz0]))
     go_wp2_with (go_at_call 17; (with_reducible refine P2.mono ?_); rintro e w5 ⟨rfl, hb5⟩)
     go_ret2
     exact HBAD.out _ HX.out (HBL.out.trans (hb5.mono HBL.out.size))
end
section
open Go.RowKit Go.Shelf
theorem getF_hit {fs : List Fld} {x : Bs} {k : Nat} {f : Fld} (H : hasN x (fs.take k) = false) (hfk : fs[k]? = some f) (hq : sameB f.1 x = true) : getF fs x = (f.2, true) := by
 obtain ⟨hk, e⟩ := List.getElem?_eq_some_iff.1 hfk
 have h1 : fs.find? (fun f => decide (lower f.1 = lower x)) = some f := by
  rw [List.find?_eq_some_iff_getElem]
  refine ⟨hq, k, hk, e, fun j hj => ?_⟩
  have h2 : hasN x (fs.take k) = false := H
  unfold hasN at h2
  rw [List.any_eq_false] at h2
  have := h2 fs[j] (List.mem_of_getElem? (i := j) (by rw [List.getElem?_take, if_pos hj]; exact List.getElem?_eq_getElem (by omega)))
  simpa [sameB] using this
 unfold getF
 rw [h1]
theorem getF_miss {fs : List Fld} {x : Bs} (H : hasN x fs = false) : getF fs x = ([], false) := by
 have h1 : fs.find? (fun f => decide (lower f.1 = lower x)) = none := by
  rw [List.find?_eq_none]
  intro f hf
  unfold hasN at H
  rw [List.any_eq_false] at H
  simpa [sameB] using H f hf
 unfold getF
 rw [h1]
def GetVPost (x : Bs) (fs : List Fld) (w : World) (e : Ending) (w' : World) : Prop := e = .returned (.tuple #[.string ⟨(getF fs x).1.toArray⟩, .bool (getF fs x).2]) ∧ Below w.heap.size w w'
theorem getV_any (v : Value) (fs : List Fld) (x : ByteArray) (hf : fs.length ≤ 90000) (hfs : ∀ f ∈ fs, f.1.length ≤ 90000 ∧ f.2.length ≤ 90000) (hx : x.size ≤ 90000) (w : World) (h : HoldR 2 w v (fs.map rowF)) :
  Calls Tryz.prog 68 #[v, .string x] w (GetVPost x.data.toList fs w) := by
 have HH := Lib.hid h
 have HS := Lib.hid hfs
 obtain ⟨a, c, b, o, rfl, hc, ha, hcell⟩ := h
 obtain ⟨n, hn⟩ : ∃ n, fs.length = n := ⟨_, rfl⟩
 have HN := Lib.hid hn
 rw [List.length_map, hn] at hc ha ⊢
 rw [List.length_map] at HH
 rw [hn] at hf HH
 clear hcell hfs hn
 have HP : Hid (∀ (T : ByteArray) w' b, getF fs x.data.toList = (T.data.toList, b) → Below w.heap.size w w' → GetVPost x.data.toList fs w (.returned (.tuple #[.string T, .bool b])) w') := Lib.hid (fun T w' b h1 h2 => ⟨by rw [h1, ← strOf (x := T) rfl], h2⟩)
 have SN := fun (y : ByteArray) (hy : y.size ≤ 100000) w => sameName_any y x hy (by omega) w
 go_enter Tryz.func68, Tryz.ntmps68
 go_wp2
 go_loopw [10] (fun i wr => ∃ k : Nat, k ≤ n ∧ i = .int .i64 k ∧ Hid (hasN x.data.toList (fs.take k) = false) ∧ Hid (Below w.heap.size w wr)) (fun i _ => n - (intOf i).toNat)
 case atStart => exact ⟨0, by omega, rfl, Lib.hid rfl, Lib.hid (Below.refl _ _)⟩
 case round =>
  obtain ⟨k, hk, rfl, H, HB⟩ := hrel
  by_cases hlt : k < n
  ·
   obtain ⟨rfl, hbw⟩ := ha (by omega)
   obtain ⟨f, hfk⟩ : ∃ f, fs[k]? = some f := ⟨_, List.getElem?_eq_getElem (by rw [HN.out]; exact hlt)⟩
   have hfm := HS.out f (List.mem_of_getElem? hfk)
   obtain ⟨X, hX⟩ : ∃ X : ByteArray, X.data.toList = f.1 := ⟨⟨f.1.toArray⟩, by simp⟩
   obtain ⟨Y, hY⟩ : ∃ Y : ByteArray, Y.data.toList = f.2 := ⟨⟨f.2.toArray⟩, by simp⟩
   obtain ⟨d0, d1⟩ := rowF_cells (HH.out.on HB.out) hfk hX hY
   have hXs : X.size ≤ 100000 := by rw [sizeOf, hX]; omega
   have S := SN X hXs
   have hst := hasN_take (x := x.data.toList) hfk
   rw [H.out, Bool.false_or, ← hX] at hst
   have hsz := HB.out.size
   have HBX : Hid (Below w.heap.size w (wr.alloc (.cells #[.string X, .string Y] 79))) := Lib.hid (HB.out.alloc hsz _)
   have hsub : hasN x.data.toList (fs.take (k + 1)) = true → hasN x.data.toList fs = true := fun g => by
    unfold hasN at g ⊢
    rw [List.any_eq_true] at g ⊢
    obtain ⟨y, hy, hy2⟩ := g
    exact ⟨y, List.mem_of_mem_take hy, hy2⟩
   obtain ⟨q, hq⟩ : ∃ q, sameB X.data.toList x.data.toList = q := ⟨_, rfl⟩
   have HQQ := Lib.hid hq
   rw [hq] at hst S
   clear hq
   cases q
   ·
    have HK := Lib.hid hst
    clear hst hsub hX hY hfm hfk SN H
    go_wp2_with (go_at_call 116; refine (S _).mono ?_; rintro e w1 ⟨rfl, q, rfl⟩)
    go_roundw
    case rel => exact ⟨k + 1, by omega, by go_num, HK, Lib.hid (belowQ HBX.out q)⟩
    case measure => simp [intOf]; omega
   ·
    have HK : Hid (getF fs x.data.toList = (Y.data.toList, true)) := Lib.hid (by rw [hY]; exact getF_hit H.out hfk (by rw [← hX]; exact HQQ.out))
    clear hst hsub hX hY hfm hfk SN H
    go_wp2_with (go_at_call 116; refine (S _).mono ?_; rintro e w1 ⟨rfl, q, rfl⟩)
    go_ret2
    exact HP.out Y _ true HK.out (belowQ HBX.out q)
  ·
   obtain rfl : k = n := by omega
   have HK : Hid (hasN x.data.toList fs = false) := Lib.hid (by have := H.out; rwa [List.take_of_length_le (by rw [HN.out]; omega)] at this)
   clear hlt SN H
   go_wp2
   go_ret2
   exact HP.out ⟨#[]⟩ _ false (getF_miss HK.out) HB.out
structure Rb (w W : World) (v : Value) (cs : Array Value) : Prop where
 h0 : W.heap[w.heap.size]? = some (.cells #[v] 51 (0, 0))
 h1 : W.heap[w.heap.size + 1]? = some (.cells cs 43 (0, 0))
 b : Below w.heap.size w W
theorem Rb.on {w W W' : World} {v : Value} {cs : Array Value} (h : Rb w W v cs) (hb : Below W.heap.size W W') : Rb w W' v cs :=
 ⟨(hb.block _ (lt_heapU h.h0)).trans h.h0, (hb.block _ (lt_heapU h.h1)).trans h.h1, h.b.trans (hb.mono h.b.size)⟩
theorem Rb.new (w : World) (v : Value) (cs : Array Value) : Rb w ((w.alloc (.cells #[v] 51)).alloc (.cells cs 43)) v cs := by
 have a1 := heap_alloc_new w (.cells #[v] 51)
 have b1 := (Below.refl w.heap.size w).alloc (Nat.le_refl _) (.cells #[v] 51)
 have a2 := heap_alloc_new (w.alloc (.cells #[v] 51)) (.cells cs 43)
 have b2 := (Below.refl (w.alloc (.cells #[v] 51)).heap.size (w.alloc (.cells #[v] 51))).alloc (Nat.le_refl _) (.cells cs 43)
 rw [World.size_alloc] at a2
 exact ⟨(b2.block _ (lt_heapU a1)).trans a1, a2, b1.trans (b2.mono b1.size)⟩
abbrev nine (W : World) (b : Nat) (u0 u1 u2 u3 u4 u5 u6 u7 u8 : Value) : World := ((((((((W.setCell ⟨b, 0, none⟩ u0).setCell ⟨b, 1, none⟩ u1).setCell ⟨b, 2, none⟩ u2).setCell ⟨b, 3, none⟩ u3).setCell ⟨b, 4, none⟩ u4).setCell ⟨b, 5, none⟩ u5).setCell ⟨b, 6, none⟩ u6).setCell ⟨b, 7, none⟩ u7).setCell ⟨b, 8, none⟩ u8
theorem nine_cells {W : World} {b : Nat} {a0 a1 a2 a3 a4 a5 a6 a7 a8 : Value} {t : TypeId} (u0 u1 u2 u3 u4 u5 u6 u7 u8 : Value) (h : W.heap[b]? = some (.cells #[a0, a1, a2, a3, a4, a5, a6, a7, a8] t (0, 0))) :
  (nine W b u0 u1 u2 u3 u4 u5 u6 u7 u8).cell? ⟨b, 0, none⟩ = some u0 ∧ (nine W b u0 u1 u2 u3 u4 u5 u6 u7 u8).cell? ⟨b, 1, none⟩ = some u1 ∧ (nine W b u0 u1 u2 u3 u4 u5 u6 u7 u8).cell? ⟨b, 2, none⟩ = some u2 ∧ (nine W b u0 u1 u2 u3 u4 u5 u6 u7 u8).cell? ⟨b, 3, none⟩ = some u3 ∧ (nine W b u0 u1 u2 u3 u4 u5 u6 u7 u8).cell? ⟨b, 4, none⟩ = some u4 ∧ (nine W b u0 u1 u2 u3 u4 u5 u6 u7 u8).cell? ⟨b, 5, none⟩ = some u5 ∧ (nine W b u0 u1 u2 u3 u4 u5 u6 u7 u8).cell? ⟨b, 6, none⟩ = some u6 ∧ (nine W b u0 u1 u2 u3 u4 u5 u6 u7 u8).cell? ⟨b, 7, none⟩ = some u7 ∧ (nine W b u0 u1 u2 u3 u4 u5 u6 u7 u8).cell? ⟨b, 8, none⟩ = some u8 := by
 have h0 : (W.setCell ⟨b, 0, none⟩ u0).heap[b]? = some (.cells #[u0, a1, a2, a3, a4, a5, a6, a7, a8] t (0, 0)) := by have := heap_setU (i := 0) u0 h; simpa using this
 have h1 : ((W.setCell ⟨b, 0, none⟩ u0).setCell ⟨b, 1, none⟩ u1).heap[b]? = some (.cells #[u0, u1, a2, a3, a4, a5, a6, a7, a8] t (0, 0)) := by have := heap_setU (i := 1) u1 h0; simpa using this
 have h2 : (((W.setCell ⟨b, 0, none⟩ u0).setCell ⟨b, 1, none⟩ u1).setCell ⟨b, 2, none⟩ u2).heap[b]? = some (.cells #[u0, u1, u2, a3, a4, a5, a6, a7, a8] t (0, 0)) := by have := heap_setU (i := 2) u2 h1; simpa using this
 have h3 : ((((W.setCell ⟨b, 0, none⟩ u0).setCell ⟨b, 1, none⟩ u1).setCell ⟨b, 2, none⟩ u2).setCell ⟨b, 3, none⟩ u3).heap[b]? = some (.cells #[u0, u1, u2, u3, a4, a5, a6, a7, a8] t (0, 0)) := by have := heap_setU (i := 3) u3 h2; simpa using this
 have h4 : (((((W.setCell ⟨b, 0, none⟩ u0).setCell ⟨b, 1, none⟩ u1).setCell ⟨b, 2, none⟩ u2).setCell ⟨b, 3, none⟩ u3).setCell ⟨b, 4, none⟩ u4).heap[b]? = some (.cells #[u0, u1, u2, u3, u4, a5, a6, a7, a8] t (0, 0)) := by have := heap_setU (i := 4) u4 h3; simpa using this
 have h5 : ((((((W.setCell ⟨b, 0, none⟩ u0).setCell ⟨b, 1, none⟩ u1).setCell ⟨b, 2, none⟩ u2).setCell ⟨b, 3, none⟩ u3).setCell ⟨b, 4, none⟩ u4).setCell ⟨b, 5, none⟩ u5).heap[b]? = some (.cells #[u0, u1, u2, u3, u4, u5, a6, a7, a8] t (0, 0)) := by have := heap_setU (i := 5) u5 h4; simpa using this
 have h6 : (((((((W.setCell ⟨b, 0, none⟩ u0).setCell ⟨b, 1, none⟩ u1).setCell ⟨b, 2, none⟩ u2).setCell ⟨b, 3, none⟩ u3).setCell ⟨b, 4, none⟩ u4).setCell ⟨b, 5, none⟩ u5).setCell ⟨b, 6, none⟩ u6).heap[b]? = some (.cells #[u0, u1, u2, u3, u4, u5, u6, a7, a8] t (0, 0)) := by have := heap_setU (i := 6) u6 h5; simpa using this
 have h7 : ((((((((W.setCell ⟨b, 0, none⟩ u0).setCell ⟨b, 1, none⟩ u1).setCell ⟨b, 2, none⟩ u2).setCell ⟨b, 3, none⟩ u3).setCell ⟨b, 4, none⟩ u4).setCell ⟨b, 5, none⟩ u5).setCell ⟨b, 6, none⟩ u6).setCell ⟨b, 7, none⟩ u7).heap[b]? = some (.cells #[u0, u1, u2, u3, u4, u5, u6, u7, a8] t (0, 0)) := by have := heap_setU (i := 7) u7 h6; simpa using this
 have h8 : (((((((((W.setCell ⟨b, 0, none⟩ u0).setCell ⟨b, 1, none⟩ u1).setCell ⟨b, 2, none⟩ u2).setCell ⟨b, 3, none⟩ u3).setCell ⟨b, 4, none⟩ u4).setCell ⟨b, 5, none⟩ u5).setCell ⟨b, 6, none⟩ u6).setCell ⟨b, 7, none⟩ u7).setCell ⟨b, 8, none⟩ u8).heap[b]? = some (.cells #[u0, u1, u2, u3, u4, u5, u6, u7, u8] t (0, 0)) := by have := heap_setU (i := 8) u8 h7; simpa using this
 exact ⟨cell_heap (i := 0) h8 (by simp), cell_heap (i := 1) h8 (by simp), cell_heap (i := 2) h8 (by simp), cell_heap (i := 3) h8 (by simp), cell_heap (i := 4) h8 (by simp), cell_heap (i := 5) h8 (by simp), cell_heap (i := 6) h8 (by simp), cell_heap (i := 7) h8 (by simp), cell_heap (i := 8) h8 (by simp)⟩
theorem nine_below {B : Nat} {w W : World} (h : Below B w W) {b : Nat} (hb : B ≤ b) (u0 u1 u2 u3 u4 u5 u6 u7 u8 : Value) : Below B w (nine W b u0 u1 u2 u3 u4 u5 u6 u7 u8) :=
 ((((((((h.setCell (p := ⟨b, 0, none⟩) hb u0).setCell (p := ⟨b, 1, none⟩) hb u1).setCell (p := ⟨b, 2, none⟩) hb u2).setCell (p := ⟨b, 3, none⟩) hb u3).setCell (p := ⟨b, 4, none⟩) hb u4).setCell (p := ⟨b, 5, none⟩) hb u5).setCell (p := ⟨b, 6, none⟩) hb u6).setCell (p := ⟨b, 7, none⟩) hb u7).setCell (p := ⟨b, 8, none⟩) hb u8
end
section
open Go.RowKit Go.Shelf
theorem infoU : (Tryz.prog.info? 43).map (fun i => (i.zero, i.size, i.bytes)) = some (some (.agg #[.string ⟨#[]⟩, .string ⟨#[]⟩, .int .i64 0, .slice none 0 0, .slice none 0 0, .slice none 0 0, .slice none 0 0, .slice none 0 0, .slice none 0 0]), 9, 184) := by kernel_rfl
end
section
open Go.RowKit Go.Shelf
def linesU (s : Bs) : List Bs := Lib.splitK [10] 0 (Lib.count s [10]) s
def cfOf (l : Bs) : Bs × Bs := ((Lib.cut l [32]).1, (Lib.cut l [32]).2.1)
def cfRead (s : Bs) : List (Bs × Bs) := ((linesU s).drop 1).map cfOf
theorem linesU_len (s : Bs) : (linesU s).length = Lib.count s [10] + 1 := by
 have h := Lib.splitB_all ⟨#[10]⟩ (by decide) 0 _ ⟨s.toArray⟩ rfl
 have e := congrArg List.length (Lib.splitB_data ⟨#[10]⟩ 0 (Lib.countB ⟨s.toArray⟩ ⟨#[10]⟩) ⟨s.toArray⟩)
 rw [List.length_map, h] at e
 have e2 : Lib.countB ⟨s.toArray⟩ ⟨#[10]⟩ = Lib.count s [10] := rfl
 rw [e2] at e
 exact e.symm
theorem infoCf : (Tryz.prog.info? 48).map (fun i => (i.zero, i.size, i.bytes)) = some (some (.agg #[.string ⟨#[]⟩, .string ⟨#[]⟩]), 2, 32) := by kernel_rfl
abbrev OwnCf (w : World) (B : Nat) (v : Value) (l : List (Bs × Bs)) : Prop := OwnV 48 2 w B v (l.map cellsW2)
theorem confs_any (s : ByteArray) (hs : s.size ≤ 90000) (w : World) (hL : LaidU w) : Calls Tryz.prog 73 #[.string s] w fun e w' => ∃ v, e = .returned v ∧ OwnCf w' w.heap.size v (cfRead s.data.toList) ∧ Below w.heap.size w w' := by
 obtain ⟨m, hm⟩ := hL.p.mx
 have hlt1 := hL.p.lt
 have C1 := Tryz.strings_Split s ⟨#[10]⟩ m w (by omega) hm (by decide)
 have hl := Lib.splitB_all ⟨#[10]⟩ (by decide) 0 _ s rfl
 have hcl := Lib.countB_le ⟨#[10]⟩ (by decide) s.size s (Nat.le_refl _)
 have hmade := (OwnT.made w (Lib.splitB ⟨#[10]⟩ 0 (Lib.countB s ⟨#[10]⟩) s) (by rw [hl]; unfold maxLen; omega)).holds
 have hd : (Lib.splitB ⟨#[10]⟩ 0 (Lib.countB s ⟨#[10]⟩) s).map (·.data.toList) = linesU s.data.toList := Lib.splitB_data _ _ _ _
 rw [hd, hl] at hmade
 have hb1 : Below w.heap.size w (w.alloc (.cells ((Lib.splitB ⟨#[10]⟩ 0 (Lib.countB s ⟨#[10]⟩) s).map Value.string).toArray 9)) := (Below.refl _ _).alloc (Nat.le_refl _) _
 have hsz1 : w.heap.size < (w.alloc (.cells ((Lib.splitB ⟨#[10]⟩ 0 (Lib.countB s ⟨#[10]⟩) s).map Value.string).toArray 9)).heap.size := by simp
 have hle : ∀ x ∈ linesU s.data.toList, x.length ≤ 90000 := fun x hx => by
  have := splitK_piece [10] (Lib.count s.data.toList [10]) s.data.toList x hx
  rw [sizeOf] at hs; omega
 have hlen := linesU_len s.data.toList
 rw [show Lib.count s.data.toList [10] = Lib.countB s ⟨#[10]⟩ from rfl] at hlen
 have hcf : cfRead s.data.toList = ((linesU s.data.toList).drop 1).map cfOf := rfl
 generalize w.alloc (.cells ((Lib.splitB ⟨#[10]⟩ 0 (Lib.countB s ⟨#[10]⟩) s).map Value.string).toArray 9) = w1 at *
 generalize Lib.countB s ⟨#[10]⟩ = n at *
 generalize cfRead s.data.toList = CF at *
 generalize linesU s.data.toList = D at *
 have HCF := Lib.hid hcf
 have HLE := Lib.hid hle
 have HLEN := Lib.hid hlen
 obtain ⟨_, _, b, o, e1, -, hab, hcell⟩ := hmade
 simp only [Value.slice.injEq] at e1
 obtain ⟨rfl, -, rfl⟩ := e1
 obtain ⟨e2, hbw⟩ := hab (by omega)
 simp only [Option.some.injEq, Addr.mk.injEq] at e2
 obtain ⟨rfl, rfl, -⟩ := e2
 have HC := Lib.hid hcell
 have HB1 := Lib.hid hb1
 have hmw : ∀ W, Below w1.heap.size w1 W → W.cell? ⟨1, 0, none⟩ = some (.int .i64 m) := fun W hW => ((hb1.trans (hW.mono hb1.size)).cell (p := ⟨1, 0, none⟩) hlt1).trans hm
 have CT := fun (x : Bs) (hx : x.length ≤ 90000) W (hW : Below w1.heap.size w1 W) => Tryz.strings_Cut ⟨x.toArray⟩ ⟨#[32]⟩ m W (by rw [sizeOf, bytesOf]; omega) (hmw W hW)
 obtain ⟨i0, hi, hz0, hz1, hz2'⟩ := info_parts infoCf
 clear hL hm hb1 hd hl hcell hab hmw hlt1 hcf hle hlen
 rcases Nat.eq_zero_or_pos n with hn0 | hn0
 ·
  subst hn0
  have hnil : CF = [] := by
   rw [HCF.out, List.drop_eq_nil_of_le (by rw [HLEN.out]; omega)]; rfl
  clear HCF HLE HLEN HC CT hi hz0 hz1 hz2' hcl hbw
  go_enter Tryz.func73, Tryz.ntmps73
  go_wp2_with (go_at_call 122; (with_reducible refine C1.mono ?_); rintro e w2 ⟨rfl, hw⟩; replace hw := hw.symm; subst hw)
  clear C1
  go_loop [3, 13] (fun u i => u = .slice none 0 0 ∧ i = .int .i64 0) (fun _ _ => 0)
  case atStart => exact ⟨rfl, rfl⟩
  case round =>
   obtain ⟨rfl, rfl⟩ := hrel
   go_wp2
   go_ret
   refine ⟨_, rfl, ?_, HB1.out⟩
   exact OwnV.nil _ _ _ _
 obtain ⟨N, rfl⟩ : ∃ N, n = N + 1 := ⟨n - 1, by omega⟩
 clear hn0
 go_enter Tryz.func73, Tryz.ntmps73
 go_wp2_with (go_at_call 122; (with_reducible refine C1.mono ?_); rintro e w2 ⟨rfl, hw⟩; replace hw := hw.symm; subst hw)
 clear C1
 go_loopw [3, 13] (fun u i wr => ∃ k : Nat, k ≤ N + 1 ∧ i = .int .i64 k ∧ Hid (OwnCf wr w1.heap.size u (CF.take k)) ∧ Hid (Below w1.heap.size w1 wr)) (fun _ i _ => N + 1 - (intOf i).toNat)
 case atStart => exact ⟨0, by omega, rfl, Lib.hid (OwnV.nil _ _ _ _), Lib.hid (Below.refl _ _)⟩
 case round =>
  obtain ⟨k, hk, rfl, HO, HB⟩ := hrel
  by_cases hlt : k < N + 1
  ·
   obtain ⟨l, hx⟩ : ∃ l, D[k + 1]? = some l := ⟨_, List.getElem?_eq_getElem (by rw [HLEN.out]; omega)⟩
   have x0 := HC.out (k + 1) l hx
   rw [← HB.out.cell (p := ⟨w.heap.size, 0 + (k + 1), none⟩) hbw] at x0
   rw [show 0 + (k + 1) = 1 + k from by omega] at x0
   have C2 := CT l (HLE.out l (List.mem_of_getElem? hx)) wr HB.out
   have hcx : CF[k]? = some (cfOf l) := by rw [HCF.out, List.getElem?_map, List.getElem?_drop, Nat.add_comm 1 k, hx]; rfl
   have hlk : ((CF.take k).map cellsW2).length = k := by
    have := (List.getElem?_eq_some_iff.1 hcx).1
    rw [List.length_map, List.length_take]; omega
   have HAP : Hid (∀ v' w4, w4.ownsRow w1.heap.size 48 2 v' (((CF.take k).map cellsW2).length + 1) (((CF.take k).map cellsW2).flatten ++ [.string ⟨(Lib.cut l [32]).fst.toArray⟩, .string ⟨(Lib.cut l [32]).snd.fst.toArray⟩]) → OwnCf w4 w1.heap.size v' (CF.take (k + 1))) := Lib.hid (fun v' w4 h => by
    have := OwnV.app (fun r hr => HO.out.1 r hr) rfl h
    rw [List.take_add_one, hcx]
    unfold OwnCf
    rw [List.map_append]
    exact this)
   obtain ⟨P, hP⟩ : ∃ q : ByteArray, (⟨(Lib.cut l [32]).fst.toArray⟩ : ByteArray) = q := ⟨_, rfl⟩
   obtain ⟨S, hS⟩ : ∃ q : ByteArray, (⟨(Lib.cut l [32]).snd.fst.toArray⟩ : ByteArray) = q := ⟨_, rfl⟩
   rw [hP, hS] at C2 HAP
   generalize (Lib.cut l [32]).2.2 = ok at *
   have HO2 : Hid (wr.ownsRow w1.heap.size 48 2 _ ((CF.take k).map cellsW2).length ((CF.take k).map cellsW2).flatten) := Lib.hid HO.out.2
   generalize ((CF.take k).map cellsW2).flatten = FL at *
   rw [hlk] at HAP HO2
   clear hx hcx hP hS HO hlk
   go_wp2_with (first
    | (go_at_call 123; (with_reducible refine C2.mono ?_); rintro e w2 ⟨rfl, q, rfl⟩)
    | (at_builtin; refine wpList_append_own _ rfl _ _ 41 rfl w1.heap.size 48 i0 _ 2 32 Tryz.underlying41 hi hz0 hz1 hz2' rfl (by decide) _ _ _ rfl (World.ownsRow.alloc (World.ownsRow.kept HO2.out (grownV (belowQ (Below.refl _ _) _)) (by cases Value.ownBlock _ <;> simp)) _) ⟨wr.heap.size, 0, none⟩ 1 1 [.string P, .string S] rfl rfl (news2 _ _ _ rfl) (one2 _ _) ?c3 ?c4 ?c5 ?_))
   case c3 => unfold maxLen; omega
   case c4 => omega
   case c5 => have := HB.out.size; simp; omega
   intro v' w4 hown' hgrow _
   have HO4 := Lib.hid (HAP.out _ _ hown')
   have hb4 : Below w1.heap.size w1 w4 := ((belowQ HB.out q).alloc HB.out.size _).grown hgrow (by have := HB.out.size; simp; omega) (fun j hj => (World.ownsRow.lt HO2.out j hj).1)
   have HB4 := Lib.hid hb4
   clear hown' hgrow hb4
   go_wp2
   go_roundw
   case rel => exact ⟨k + 1, by omega, by go_num, HO4, HB4⟩
   case measure => simp [intOf]; omega
  ·
   obtain rfl : k = N + 1 := by omega
   have HF : Hid (CF.take (N + 1) = CF) := Lib.hid (List.take_of_length_le (by rw [HCF.out, List.length_map, List.length_drop, HLEN.out]; omega))
   go_wp2
   go_ret
   refine ⟨_, rfl, ?_, HB1.out.trans (HB.out.mono HB1.out.size)⟩
   rw [← HF.out]
   exact OwnV.mono HO.out HB1.out.size
end
end Go.Proofs.YtkbkaeefdhkgdaaGreatDoor
