/-
  The program's Print of stanzas: what it returns; nothing old turns. The reference's Parse of stanzas: what it returns; nothing old turns.
-/
import Derived.Test.YtbeoklihpkfofaaGreatDoorSPWrite
import Derived.Test.YtbeoklihpkfofaaGreatDoorSParseM
import Derived.Deep.DeepCutAuto
import Derived.Deep.CutRange
import Derived.BigRegion
namespace Go.Proofs.YtbeoklihpkfofaaGreatDoor
open Go.RowKit
theorem printE_ways (l : List (List Fld)) : (∃ z, (z = 22 ∨ z = 1) ∧ printE l = ([], z)) ∨ printE l = (printSs l, 0) := by
  unfold printE
  split
  · exact .inl ⟨22, .inl rfl, rfl⟩
  · split
    · exact .inr rfl
    · exact .inl ⟨1, .inr rfl, rfl⟩
theorem bld_new (B : Nat) (w : World) (h : B ≤ w.heap.size) : Bld B w.heap.size [] (w.alloc (.cells #[.pointer none, .slice none 0 0] tB)) :=
  .inl ⟨h, .slice none 0 0, heap_alloc_new w _, World.ownsRowF_nil _ _ _ _, by simp [Value.ownBlock]⟩
theorem bstr_any (B b : Nat) (l : Bs) (w : World) (h : Bld B b l w) (hB : B ≤ w.heap.size) : Calls Tryz.prog 100 #[.pointer (some ⟨b, 0, none⟩)] w fun e w' => e = .returned (.string ⟨l.toArray⟩) ∧ Below B w w' :=
  (Tryz.Builder_String_any_k B b l w h hB).mono fun _ _ hp => ⟨hp.1, hp.2.2.1⟩
set_option maxRecDepth 100000 in
set_option maxHeartbeats 16000000 in
theorem print_any (v : Value) (l : List (List Fld)) (hsm : Small l 90000) (w : World) (h : HoldRR 2 w v (l.map (·.map rowF))) : Calls Tryz.prog 57 #[v] w (PrintPost l w) := by
  have CK := check_any v l hsm.n hsm.ns (fun st hst f hf => by have := hsm.fs st hst f hf; omega) w h
  unfold CheckPost at CK
  rcases printE_ways l with ⟨z, hz, he⟩ | he
  · have HP : Hid (∀ w', Below w.heap.size w w' → PrintPost l w (.returned (.tuple #[.string ⟨#[]⟩, .int .i64 z])) w') := Lib.hid (fun w' hb => ⟨by rw [he], hb⟩)
    rw [he] at CK
    clear he hsm
    obtain ⟨a, c, b, o, rfl, hc, ha, hcell⟩ := h
    rw [List.length_map] at CK ha hc ⊢
    clear hcell ha
    generalize l.length = n at *
    rcases hz with rfl | rfl
    all_goals
      go_enter Tryz.func57, Tryz.ntmps57
      go_wp2_with (go_at_call 97; refine CK.mono ?_; rintro e w1 ⟨rfl, hb⟩; have HB := Lib.hid hb; clear hb)
      go_ret2
      exact HP.out _ HB.out
  · have HP : Hid (∀ (S : ByteArray) w', S.data.toList = printSs l → Below w.heap.size w w' → PrintPost l w (.returned (.tuple #[.string S, .int .i64 0])) w') := Lib.hid (fun S w' hS hb => ⟨by rw [he, ← strOf hS], hb⟩)
    rw [he] at CK
    have HS := Lib.hid hsm
    have hpr := hsm.pr
    obtain ⟨a, c, b, o, rfl, hc, ha, hcell⟩ := h
    rw [List.length_map] at CK ha hc ⊢
    have HC := Lib.hid (fun (i : Nat) (st : List Fld) (hi : l[i]? = some st) => hcell i (st.map rowF) (by simp [hi]))
    obtain ⟨n, hN⟩ : ∃ n, l.length = n := ⟨_, rfl⟩
    have hn2 := hsm.n
    rw [hN] at CK ha hc hn2 ⊢
    have HN := Lib.hid hN
    clear he hsm hcell hN
    go_enter Tryz.func57, Tryz.ntmps57
    go_wp2_with (go_at_call 97; refine CK.mono ?_; rintro e w1 ⟨rfl, hb⟩; have HB1 := Lib.hid hb; have hs1 := hb.size; clear hb)
    clear CK
    have hBW : w.heap.size ≤ w1.heap.size := hs1
    have HB2 : Hid (Below w.heap.size w (w1.alloc (.cells #[.pointer none, .slice none 0 0] tB))) := Lib.hid (HB1.out.alloc hs1 _)
    have HD0 := Lib.hid (bld_new w.heap.size w1 hs1)
    obtain ⟨bb, hbb⟩ : ∃ bb, bb = w1.heap.size := ⟨_, rfl⟩
    rw [← hbb] at HD0 ⊢
    have HEB := Lib.hid hbb
    clear hbb
    go_loopw [17] (fun i wr => ∃ (k : Nat) (out : Bs), k ≤ n ∧ i = .int .i64 k ∧ Hid (out ++ leftSs l k = printSs l) ∧ Hid (Bld w.heap.size bb out wr) ∧ bb < wr.heap.size ∧ Hid (Below w.heap.size w wr)) (fun i _ => n - (intOf i).toNat)
    case atStart => exact ⟨0, [], by omega, rfl, Lib.hid (by unfold leftSs; rw [if_pos rfl]; rfl), HD0, by rw [HEB.out]; simp, HB2⟩
    case round =>
      obtain ⟨k, out, hk, rfl, HO, HD, hbw2, HB⟩ := hrel
      have hsz := HB.out.size
      have hol := len_of HO.out
      by_cases hlt : k < n
      · obtain ⟨rfl, hbw⟩ := ha (by omega)
        have hkl : k < l.length := by rw [HN.out]; exact hlt
        obtain ⟨st, hst⟩ : ∃ st, st = l[k] := ⟨_, rfl⟩
        have hst' : l[k]? = some st := by rw [hst]; exact List.getElem?_eq_getElem hkl
        obtain ⟨u, hu0, hr⟩ := HC.out k st hst'
        have hu := (HB.out.cell (p := ⟨b, o + k, none⟩) hbw).trans hu0
        have hr' := hr
        obtain ⟨ai, ci, bi, oi, rfl, hci, hai, hcelli⟩ := hr
        rw [List.length_map] at hu hci hai hr'
        have hm1 := HS.out.ns _ (List.mem_of_getElem? hst')
        have hfs := HS.out.fs _ (List.mem_of_getElem? hst')
        obtain ⟨m, hm⟩ : ∃ m, st.length = m := ⟨_, rfl⟩
        rw [hm] at hu hm1 hci hai hr'
        have HM := Lib.hid hm
        have HFS := Lib.hid hfs
        have HR := Lib.hid hr'
        have HL0 : k = 0 → Hid (out ++ (printS st ++ tailSs l (k + 1)) = printSs l) := fun h0 => Lib.hid (by
          rw [← HO.out, hst]; subst h0; rw [left_first hkl])
        have HL1 : ¬ k = 0 → Hid (out ++ (ByteArray.mk #[10]).data.toList ++ (printS st ++ tailSs l (k + 1)) = printSs l) := fun h0 => Lib.hid (by
          rw [← HO.out, hst, left_next h0 hkl]; simp)
        clear hu0 hcelli hfs hst hst' hr' hm HO
        go_upto_if 23 with fail
        go_cut [] (fun wx => ∃ out', Hid (out' ++ (printS st ++ tailSs l (k + 1)) = printSs l) ∧ Hid (Bld w.heap.size bb out' wx) ∧ bb < wx.heap.size ∧ Hid (Below w.heap.size w wx))
        case first =>
          by_cases h0 : k = 0
          · have HL := HL0 h0
            subst h0
            clear HL0 HL1
            go_wp2
            go_meet
            case rel => exact ⟨out, HL, HD, hbw2, HB⟩
          · have HL := HL1 h0
            have hk0 : (0 : Int) < (k : Int) := by omega
            have WS := wstr_any w.heap.size bb out ⟨#[10]⟩ wr HD.out (by omega) (by decide) hsz
            clear HL0 HL1 h0
            go_wp2_with (go_at_call 98; refine WS.mono ?_; rintro e w3 ⟨v3, rfl, hd3, hb3, ho3⟩; have HD3 := Lib.hid hd3; have HB3 := Lib.hid (HB.out.trans hb3); have hz3 := hb3.size; clear hd3 hb3 ho3)
            go_meet
            case rel => exact ⟨_, HL, HD3, by omega, HB3⟩
        case rest =>
          obtain ⟨out2, HL, HD2, hbw3, HBX⟩ := hcut
          clear HL0 HL1 HD HB hu
          go_wp2
          go_loopw [27] (fun i wx => ∃ (t : Nat) (out : Bs), t ≤ m ∧ i = .int .i64 t ∧ Hid (out ++ (printS (st.drop t) ++ tailSs l (k + 1)) = printSs l) ∧ Hid (Bld w.heap.size bb out wx) ∧ bb < wx.heap.size ∧ Hid (Below w.heap.size w wx)) (fun i _ => m - (intOf i).toNat)
          case atStart => exact ⟨0, out2, by omega, rfl, HL, HD2, hbw3, HBX⟩
          case round =>
            obtain ⟨t, out3, ht, rfl, HI, HD3, hbw4, HB4⟩ := hrel
            have hsz4 := HB4.out.size
            have hol3 := len_of HI.out
            by_cases htm : t < m
            · obtain ⟨rfl, hbi⟩ := hai (by omega)
              have htl : t < st.length := by rw [HM.out]; exact htm
              obtain ⟨f, hf⟩ : ∃ f, f = st[t] := ⟨_, rfl⟩
              have hf' : st[t]? = some f := by rw [hf]; exact List.getElem?_eq_getElem htl
              have hfz := HFS.out f (List.mem_of_getElem? hf')
              obtain ⟨X, hX⟩ : ∃ X : ByteArray, X.data.toList = f.1 := ⟨⟨f.1.toArray⟩, by simp⟩
              obtain ⟨Y, hY⟩ : ∃ Y : ByteArray, Y.data.toList = f.2 := ⟨⟨f.2.toArray⟩, by simp⟩
              obtain ⟨d0, d1⟩ := rowF_cells (HR.out.on HB4.out) hf' hX hY
              have hXs : X.size ≤ 90000 := by rw [sizeOf, hX]; omega
              have hYs : Y.size ≤ 90000 := by rw [sizeOf, hY]; omega
              have W := write_any w.heap.size bb out3 X Y hXs hYs (by omega) (wr.alloc (.cells #[.string X, .string Y] 119)) (HD3.out.alloc _) (by simp; omega) (by simp; omega)
              unfold WrPost at W
              have HA4 : Hid (Below w.heap.size w (wr.alloc (.cells #[.string X, .string Y] 119))) := Lib.hid (HB4.out.alloc hsz4 _)
              have HN3 : Hid (out3 ++ printF (X.data.toList, Y.data.toList) ++ (printS (st.drop (t + 1)) ++ tailSs l (k + 1)) = printSs l) := Lib.hid (by
                rw [← HI.out, printS_drop htl, ← hf, hX, hY]
                unfold printF
                simp only [List.append_assoc, List.cons_append])
              clear hf hf' hfz hX hY HI
              go_wp2_with (go_at_call 99; refine W.mono ?_; rintro e w5 ⟨⟨v5, rfl⟩, hd5, hb5⟩; have HD5 := Lib.hid hd5; have HB5 := Lib.hid (HA4.out.trans hb5); have hz5 := hb5.size; clear hd5 hb5)
              go_roundw
              case rel => exact ⟨t + 1, _, by omega, by go_num, HN3, HD5, by simp at hz5; omega, HB5⟩
              case measure => simp [intOf]; omega
            · obtain rfl : t = m := by omega
              have HO2 : Hid (out3 ++ leftSs l (k + 1) = printSs l) := Lib.hid (by
                have := HI.out
                rw [← HM.out, printS_end, List.nil_append, left_tail] at this; exact this)
              clear HI htm
              go_wp2
              go_roundw
              case rel => exact ⟨k + 1, out3, by omega, by go_num, HO2, HD3, hbw4, HB4⟩
              case measure => simp [intOf]; omega
      · obtain rfl : k = n := by omega
        have HE : Hid (out = printSs l) := Lib.hid (by have := HO.out; rw [← HN.out, left_end, List.append_nil] at this; exact this)
        have BS := bstr_any w.heap.size bb out wr HD.out hsz
        clear hlt HO
        go_wp2_with (go_at_call 100; refine BS.mono ?_; rintro e w3 ⟨rfl, hb3⟩; have HB3 := Lib.hid (HB.out.trans hb3); clear hb3)
        go_ret2
        exact HP.out _ _ (by rw [HE.out]) HB3.out
end Go.Proofs.YtbeoklihpkfofaaGreatDoor
namespace Go.Proofs.YtbeoklihpkfofaaGreatDoor
open Go.RowKit
def ParsePost6 (s : Bs) (w : World) (e : Ending) (w' : World) : Prop := ∃ v b, e = .returned (.tuple #[v, .bool b]) ∧ (∀ l, parseS s = some l → b = true ∧ HoldRR 2 w' v (l.map (·.map rowF)) ∧ Small l (4 * (s.length + 1) + 1)) ∧ (parseS s = none → b = false) ∧ Below w.heap.size w w'
theorem news2 {w : World} {b : Nat} (X Y : ByteArray) (t : TypeId) (hb : b = w.heap.size) : ∀ j u, [Value.string X, .string Y][j]? = some u → (w.alloc (.cells #[.string X, .string Y] t)).cell? ((⟨b, 0, none⟩ : Addr).add j) = some u := by
  subst hb
  intro j u hj
  match j, hj with
  | 0, hj => simp at hj; subst hj; simp [Addr.add, World.cell?_alloc_new]
  | 1, hj => simp at hj; subst hj; simp [Addr.add, World.cell?_alloc_new]
  | j + 2, hj => simp at hj
theorem one2 (X Y : ByteArray) : ∀ u ∈ [Value.string X, .string Y], u.oneCell' = true := by
  intro u hu
  simp at hu
  rcases hu with rfl | rfl <;> rfl
theorem news1 {w : World} {b : Nat} (v : Value) (t : TypeId) (hb : b = w.heap.size) : ∀ j u, [v][j]? = some u → (w.alloc (.cells #[v] t)).cell? ((⟨b, 0, none⟩ : Addr).add j) = some u := by
  subst hb
  intro j u hj
  match j, hj with
  | 0, hj => simp at hj; subst hj; simp [Addr.add, World.cell?_alloc_new]
  | j + 1, hj => simp at hj
theorem one1 (a : Option Addr) (n c : Nat) : ∀ u ∈ [Value.slice a n c], u.oneCell' = true := by
  intro u hu
  simp at hu
  subst hu; rfl
set_option maxRecDepth 100000 in
set_option maxHeartbeats 16000000 in
theorem parse_ref6 (s : ByteArray) (hs : s.size ≤ 2000) (w : World) : Calls Tryz.prog 63 #[.string s] w (ParsePost6 s.data.toList w) := by
  have C := fun w => lines_ref s (by omega) w
  unfold LinesPost at C
  obtain ⟨i0, hi, hz0, hz1, hz2⟩ := info_parts infoF
  obtain ⟨i1, hi', hy0, hy1, hy2⟩ := info_parts infoSF
  have HBAD : Hid (∀ v w', parseS s.data.toList = none → Below w.heap.size w w' → ParsePost6 s.data.toList w (.returned (.tuple #[v, .bool false])) w') := Lib.hid (fun v w' h hb => ⟨v, false, rfl, fun l hl => (by rw [h] at hl; cases hl), fun _ => rfl, hb⟩)
  have HOK : Hid (∀ l v w', parseS s.data.toList = some l → HoldRR 2 w' v (l.map (·.map rowF)) → Small l (4 * (s.data.toList.length + 1) + 1) → Below w.heap.size w w' → ParsePost6 s.data.toList w (.returned (.tuple #[v, .bool true])) w') := Lib.hid (fun l v w' h h1 h2 hb => ⟨v, true, rfl, fun l' hl => (by rw [h] at hl; cases hl; exact ⟨rfl, h1, h2⟩), fun hn => (by rw [h] at hn; cases hn), hb⟩)
  by_cases hend : (spl 10 s.data.toList).getLast? = some []
  case neg =>
    have G := HBAD.out
    have hn := parse_unended hend
    rw [decide_eq_false hend] at C
    have HG := Lib.hid (fun v w' => G v w' hn)
    clear hend G hn HBAD HOK
    go_enter Tryz.func63, Tryz.ntmps63
    go_wp2_with (go_at_call 112; (with_reducible refine (C _).mono ?_); rintro e w1 ⟨v1, rfl, hh, hb⟩)
    go_ret2
    exact HG.out _ _ hb
  case pos =>
    rw [decide_eq_true hend] at C
    have HEND := Lib.hid hend
    have hpc : ∀ p ∈ (spl 10 s.data.toList).dropLast, p.length ≤ 2000 := fun p hp => by
      have := spl_piece 10 s.data.toList p ((List.dropLast_sublist _).subset hp)
      rw [← sizeOf] at this; omega
    have HPC := Lib.hid hpc
    have hln := spl_len 10 s.data.toList
    rw [← sizeOf] at hln
    obtain ⟨ls, hls⟩ : ∃ ls, (spl 10 s.data.toList).dropLast = ls := ⟨_, rfl⟩
    have hll : ls.length ≤ 2000 := by rw [← hls, List.length_dropLast]; omega
    rw [hls] at C HPC
    have HLS := Lib.hid hls
    obtain ⟨n, hN⟩ : ∃ n, ls.length = n := ⟨_, rfl⟩
    rw [hN] at hll
    have HN := Lib.hid hN
    have hsz0 := sizeOf s
    have HSM : Hid (∀ (k : Nat) out at', (ls.take k).foldl pstep (some ([], [])) = some (out, at') → Small (out ++ [at']) 8005) := Lib.hid (fun k out at' h => by
      have := fold_small' hls.symm h
      rw [← sizeOf] at this
      exact ⟨by have := this.n; omega, fun st hst => by have := this.ns st hst; omega, fun st hst f hf => by have := this.fs st hst f hf; omega, by have := this.pr; omega⟩)
    clear hend hpc hls hln hN hsz0
    go_enter Tryz.func63, Tryz.ntmps63
    go_wp2_with (go_at_call 112; (with_reducible refine (C _).mono ?_); rintro e w1 ⟨v1, rfl, hh, hb⟩; obtain ⟨a, c, b, o, rfl, hc, ha, hcell⟩ := hh; have HC := Lib.hid hcell; have HB1 := Lib.hid hb; rw [HN.out]; rw [HN.out] at hc ha; clear hb hcell C; refine Hid.out ?_)
    refine Lib.hid ?_
    go_wp2
    go_loopw [4, 7, 8] (fun vo va i wr => ∃ (k B : Nat) (out : List (List Fld)) (at' : List Fld), k ≤ n ∧ i = .int .i64 k ∧ Hid ((ls.take k).foldl pstep (some ([], [])) = some (out, at')) ∧ Hid (Built wr w1.heap.size B vo va out at') ∧ Hid (Below w1.heap.size w1 wr)) (fun _ _ i _ => n - (intOf i).toNat)
    case atStart => exact ⟨0, _, [], [], by omega, rfl, Lib.hid rfl, Lib.hid (Built.start w1 _ (Nat.le_refl _)), Lib.hid (Below.refl _ _)⟩
    case round =>
      obtain ⟨k, B, out, at', hk, rfl, HF, HBU, HB⟩ := hrel
      have hsm := HSM.out k out at' HF.out
      have HS := Lib.hid hsm
      have hol := hsm.n
      have hal := hsm.ns at' (by simp)
      rw [List.length_append, List.length_singleton] at hol
      obtain ⟨us, h1, h2, h3, h4, h5⟩ := id HBU.out
      obtain ⟨av, cv, hva, hav⟩ := h2.shape
      obtain ⟨q, hq⟩ : ∃ q, at'.length = q := ⟨_, rfl⟩
      rw [hq] at hva hav hal
      subst hva
      have HQ := Lib.hid hq
      have H1 := Lib.hid h1
      have H2 := Lib.hid h2
      have H5 := Lib.hid h5
      have hbz : w1.heap.size ≤ wr.heap.size := HB.out.size
      clear h1 h2 h5 hsm hq
      by_cases hlt : k < n
      · obtain ⟨rfl, hbw⟩ := ha (by omega)
        obtain ⟨p, hp⟩ : ∃ p, ls[k]? = some p := ⟨_, List.getElem?_eq_getElem (by rw [HN.out]; exact hlt)⟩
        obtain ⟨x, hx⟩ : ∃ x : ByteArray, x.data.toList = p := ⟨⟨p.toArray⟩, by simp⟩
        have hcx : wr.cell? ⟨b, o + k, none⟩ = some (.string x) := by rw [HB.out.cell hbw, strOf hx]; exact HC.out k p hp
        have hxs : x.size ≤ 2000 := by rw [sizeOf, hx]; exact HPC.out p (List.mem_of_getElem? hp)
        have HNX := Lib.hid (fold_next hp)
        rw [HF.out, ← hx] at HNX
        have hez := emptyT x
        clear hp hx
        by_cases hx0 : x.size = 0
        · rw [decide_eq_true hx0] at hez
          have HNN : Hid ((ls.take (k + 1)).foldl pstep (some ([], [])) = some (out ++ [at'], [])) := Lib.hid (by
            rw [HNX.out, List.eq_nil_of_length_eq_zero (l := x.data.toList) (by rw [← sizeOf]; exact hx0), pstep_empty])
          clear hx0 HNX
          go_wp2_with (first | (at_builtin; refine wpList_append_own _ rfl _ _ 77 rfl w1.heap.size 78 i1 (.slice none 0 0) 1 24 Tryz.underlying77 hi' hy0 hy1 hy2 rfl (by decide) _ _ _ rfl (World.ownsRow.alloc H1.out _) ⟨wr.heap.size, 0, none⟩ 1 1 [.slice av q cv] rfl rfl ?c1 ?c2 ?c3 ?c4 ?c5 ?_))
          case c2 => rfl
          case c3 => unfold maxLen; omega
          case c4 => omega
          case c5 => omega
          · intro v' w2 hown' hgrow _
            have HB' : Hid (Built w2 w1.heap.size w2.heap.size v' (.slice none 0 0) (out ++ [at']) []) := Lib.hid (Built.cut H1.out H2.out h3 H5.out hown' hgrow (by have := hgrow.size; simp at this; omega))
            have HBL : Hid (Below w1.heap.size w1 w2) := Lib.hid (below_row HB.out H1.out hgrow (Nat.le_refl _) hbz)
            clear hown' hgrow
            go_wp2
            go_roundw
            case rel => exact ⟨k + 1, _, out ++ [at'], [], by omega, by go_num, HNN, HB', HBL⟩
            case measure => simp [intOf]; omega
        · rw [decide_eq_false hx0] at hez
          have hx0' : 0 < x.size := by omega
          have hd0 := dropC x 0 hx0'
          rw [List.drop_zero] at hd0
          have HD0 := Lib.hid hd0
          have hxb := x[0].toNat_lt
          clear hd0 hx0
          by_cases h32 : x[0] = 32 ∧ at' ≠ []
          · obtain ⟨h32, hne⟩ := h32
            have e32 := yes32 h32
            obtain ⟨st, f, rfl⟩ := last_cases at' hne
            obtain ⟨y, hy⟩ : ∃ y : ByteArray, y.data.toList = f.2 := ⟨⟨(f.2).toArray⟩, by simp⟩
            have hys : y.size ≤ 8005 := by rw [sizeOf, hy]; exact (HS.out.fs (st ++ [f]) (by simp) f (by simp)).2
            obtain ⟨m, hm⟩ : ∃ m, st.length = m := ⟨_, rfl⟩
            obtain rfl : q = m + 1 := by rw [← HQ.out, List.length_append, hm]; rfl
            obtain ⟨g, rfl⟩ := hav (by omega)
            obtain ⟨l1, l2⟩ := H2.out.last hy
            have hbu := HBU.out
            rw [← hm] at hbu
            have HST := Lib.hid (fun (z : ByteArray) (t : Bs) (hz : z.data.toList = t) => hbu.set hz)
            rw [hm] at HST l1 l2
            have HNN : Hid ((ls.take (k + 1)).foldl pstep (some ([], [])) = some (out, st ++ [(f.1, ((y ++ ⟨#[10]⟩) ++ x.extract 1 x.size).data.toList)])) := Lib.hid (by
              rw [HNX.out, HD0.out, h32, pstep_more, ByteArray.data_append, Array.toList_append, ByteArray.data_append, Array.toList_append, sext_end, HD0.out, hy]
              simp)
            have h1s : ∀ x, (ByteArray.mk #[x]).size = 1 := fun _ => rfl
            have hxe : (x.extract 1 x.size).size ≤ 2000 := by rw [ByteArray.size_extract]; omega
            clear h32 hne hy hm hbu HNX HD0
            go_wp2
            go_region
            obtain ⟨hb2, hBg⟩ := HST.out ((y ++ ⟨#[10]⟩) ++ x.extract 1 x.size) _ rfl
            have HB' : Hid (Built (wr.setCell ⟨g, m * 2 + 1, none⟩ (.string ((y ++ ⟨#[10]⟩) ++ x.extract 1 x.size))).drew w1.heap.size B u4 (.slice (some ⟨g, 0, none⟩) (m + 1) cv) out (st ++ [(f.1, ((y ++ ⟨#[10]⟩) ++ x.extract 1 x.size).data.toList)])) := Lib.hid (hb2.on (Below.refl _ _).drew)
            have HBL : Hid (Below w1.heap.size w1 (wr.setCell ⟨g, m * 2 + 1, none⟩ (.string ((y ++ ⟨#[10]⟩) ++ x.extract 1 x.size))).drew) := Lib.hid ((HB.out.setCell (Nat.le_trans h3 hBg) _).drew)
            clear hb2
            go_wp2
            go_roundw
            case rel => exact ⟨k + 1, B, out, _, by omega, by go_num, HNN, HB', HBL⟩
            case measure => simp [intOf]; omega
          · have hkey : (((x[0].toNat : Int) == 32) = false) ∨ (((x[0].toNat : Int) == 32) = true ∧ q = 0) := by
              by_cases h : x[0] = 32
              · refine .inr ⟨yes32 h, ?_⟩
                have : at' = [] := Decidable.byContradiction fun g => h32 ⟨h, g⟩
                rw [← HQ.out, this]; rfl
              · exact .inl (not32 h)
            have HNN : Hid ((ls.take (k + 1)).foldl pstep (some ([], [])) = (headF x.data.toList).map fun f => (out, at' ++ [f])) := Lib.hid (by
              rw [HNX.out, pstep_head (by rw [HD0.out]; simp) (by rw [HD0.out]; simpa using h32)])
            have D := fun w => head_ref x (by omega) w
            unfold HeadPost at D
            clear h32 HNX HD0
            cases hhd : headF x.data.toList with
            | none =>
              have G := Lib.hid (fun v w' => HBAD.out v w' (parse_bad (k := k + 1) (by rw [HLS.out, HNN.out, hhd]; rfl)))
              rw [hhd] at D
              simp only [headV, fldV] at D
              clear hhd HNN HBAD HOK
              rcases hkey with e32 | ⟨e32, rfl⟩
              all_goals
                go_wp2_with (go_at_call 113; (with_reducible refine (D _).mono ?_); rintro e w2 ⟨rfl, hb2⟩)
                go_ret2
                exact G.out _ _ (((HB1.out.trans (HB.out.mono HB1.out.size)).trans (hb2.mono (Nat.le_trans HB1.out.size hbz))).alloc (Nat.le_trans HB1.out.size (Nat.le_trans hbz hb2.size)) _)
            | some f =>
              obtain ⟨X, hX⟩ : ∃ X : ByteArray, X = ⟨(f.1).toArray⟩ := ⟨_, rfl⟩
              obtain ⟨Y, hY⟩ : ∃ Y : ByteArray, Y = ⟨(f.2).toArray⟩ := ⟨_, rfl⟩
              have HXY : Hid (X.data.toList = f.1 ∧ Y.data.toList = f.2) := Lib.hid ⟨by rw [hX], by rw [hY]⟩
              have HNN' : Hid ((ls.take (k + 1)).foldl pstep (some ([], [])) = some (out, at' ++ [f])) := Lib.hid (by rw [HNN.out, hhd]; rfl)
              rw [hhd] at D
              simp only [headV, fldV, ← hX, ← hY] at D
              clear hhd HNN hX hY
              have hh4 := Lib.hid h4
              rcases hkey with e32 | ⟨e32, rfl⟩
              all_goals
                go_wp2_with (first
                  | (go_at_call 113; (with_reducible refine (D _).mono ?_); rintro e w2 ⟨rfl, hb2⟩; have HB2 := Lib.hid hb2; have hsz2 := hb2.size; clear hb2; obtain ⟨us2, k1, k2, k3, k4, k5⟩ := (HBU.out.on HB2.out).on ((Below.refl _ _).alloc (Nat.le_refl _) (.cells #[.string X, .string Y] 119)); have K1 := Lib.hid k1; have K2 := Lib.hid k2; have K4 := Lib.hid k4; have K5 := Lib.hid k5; clear k1 k2 k4 k5)
                  | (at_builtin; refine wpList_append_own _ rfl _ _ 78 rfl B 119 i0 (.agg #[.string ⟨#[]⟩, .string ⟨#[]⟩]) 2 32 Tryz.underlying78 hi hz0 hz1 hz2 rfl (by decide) _ _ _ rfl (World.ownsRow.alloc K2.out _) ⟨w2.heap.size + 1, 0, none⟩ 1 1 [.string X, .string Y] rfl rfl (news2 X Y _ (by simp)) (one2 X Y) (by rw [HQ.out]; unfold maxLen; omega) (by rw [HQ.out]; omega) (by simp; omega) ?_))
                intro v' w3 hown' hgrow _
                have HB' : Hid (Built w3 w1.heap.size B u4 v' out (at' ++ [f])) := Lib.hid (Built.add K1.out K2.out k3 K4.out K5.out HXY.out.1 HXY.out.2 hown' hgrow)
                have HBL : Hid (Below w1.heap.size w1 w3) := Lib.hid (below_row (((HB.out).trans (HB2.out.mono hbz)).alloc (Nat.le_trans hbz hsz2) _) K2.out hgrow k3 (by simp; omega))
                clear hown' hgrow
                go_wp2
                go_roundw
                case rel => exact ⟨k + 1, B, out, at' ++ [f], by omega, by go_num, HNN', HB', HBL⟩
                case measure => simp [intOf]; omega
      · obtain rfl : k = n := by omega
        have HFF : Hid ((spl 10 s.data.toList).dropLast.foldl pstep (some ([], [])) = some (out, at')) := Lib.hid (by
          rw [HLS.out]; have := HF.out; rwa [List.take_of_length_le (by rw [HN.out]; omega)] at this)
        have HNIL : Hid (k = 0 → (spl 10 s.data.toList).dropLast = []) := Lib.hid (fun e => by rw [HLS.out]; exact List.eq_nil_of_length_eq_zero (by rw [HN.out]; exact e))
        have HNE : Hid (0 < k → (spl 10 s.data.toList).dropLast ≠ []) := Lib.hid (fun e h => by rw [HLS.out] at h; rw [← HN.out, h] at e; simp at e)
        have hwz := HB1.out.size
        clear hlt HF ha hav
        go_upto_if 83 with fail
        go_cut [4] (fun vo wx => ∃ l : List (List Fld), Hid (parseS s.data.toList = if printE l = (s.data.toList, 0) then some l else none) ∧ Hid (Small l (4 * (s.data.toList.length + 1) + 1)) ∧ Hid (HoldRR 2 wx vo (l.map (·.map rowF))) ∧ Hid (Below w.heap.size w wx))
        case first =>
          by_cases hk0 : 0 < k
          · have HP := Lib.hid (parse_of HEND.out HFF.out (out ++ [at']) (by rw [if_neg (HNE.out hk0)]))
            have HSS : Hid (Small (out ++ [at']) (4 * (s.data.toList.length + 1) + 1)) := Lib.hid (fold_small' (k := k) rfl (by rw [List.take_of_length_le (by rw [HLS.out, HN.out]; omega)]; exact HFF.out))
            go_wp2_with (first | (at_builtin; refine wpList_append_own _ rfl _ _ 77 rfl w1.heap.size 78 i1 (.slice none 0 0) 1 24 Tryz.underlying77 hi' hy0 hy1 hy2 rfl (by decide) _ _ _ rfl (World.ownsRow.alloc H1.out _) ⟨wr.heap.size, 0, none⟩ 1 1 [.slice av q cv] rfl rfl (news1 _ _ rfl) (one1 _ _ _) (by unfold maxLen; omega) (by omega) (by simp; omega) ?_))
            intro v' w2 hown' hgrow _
            have HB' : Hid (HoldRR 2 w2 v' ((out ++ [at']).map (·.map rowF))) := Lib.hid (Built.cut H1.out H2.out h3 H5.out hown' hgrow (by have := hgrow.size; simp at this; omega)).rows
            have HBL : Hid (Below w.heap.size w w2) := Lib.hid (HB1.out.trans ((below_row HB.out H1.out hgrow (Nat.le_refl _) hbz).mono hwz))
            clear hown' hgrow
            go_wp2
            go_meet
            case rel => exact ⟨out ++ [at'], HP, HSS, HB', HBL⟩
          · obtain rfl : k = 0 := by omega
            have HP := Lib.hid (parse_of HEND.out HFF.out out (by rw [if_pos (HNIL.out rfl)]))
            have HSS : Hid (Small out (4 * (s.data.toList.length + 1) + 1)) := Lib.hid (by
              have := fold_small rfl HFF.out
              exact small_of (by omega))
            have HB' : Hid (HoldRR 2 wr u4 (out.map (·.map rowF))) := Lib.hid HBU.out.rows
            have HBL : Hid (Below w.heap.size w wr) := Lib.hid (HB1.out.trans (HB.out.mono hwz))
            go_wp2
            go_meet
            case rel => exact ⟨out, HP, HSS, HB', HBL⟩
        case rest =>
          obtain ⟨l, HP, HSS, HR, HBL⟩ := hcut
          have hsz := sizeOf s
          have hsm := HSS.out
          have P := print_ref u4 l (by have := hsm.n; omega) (fun st hst => by have := hsm.ns st hst; omega) (fun st hst f hf => by have := hsm.fs st hst f hf; omega) (by have := hsm.pr; omega) wc HR.out
          unfold PrintPost at P
          obtain ⟨T, hT⟩ : ∃ T : ByteArray, T = ⟨(printE l).1.toArray⟩ := ⟨_, rfl⟩
          obtain ⟨z, hz⟩ : ∃ z : Int, z = (printE l).2 := ⟨_, rfl⟩
          have hTl : T.data.toList = (printE l).1 := by rw [hT]
          have HTZ : Hid (printE l = (T.data.toList, z)) := Lib.hid (by rw [hTl, hz])
          simp only [← hT, ← hz] at P
          have hq := eqT T s
          clear hT hz hTl hsm
          by_cases hz0 : z = 0
          · subst hz0
            by_cases hts : T.data.toList = s.data.toList
            · rw [decide_eq_true hts] at hq
              have HX : Hid (parseS s.data.toList = some l) := Lib.hid (by rw [HP.out, if_pos (by rw [HTZ.out, hts])])
              clear hts hsz
              go_wp2_with (go_at_call 60; (with_reducible refine P.mono ?_); rintro e w3 ⟨rfl, hb3⟩)
              go_ret2
              exact HOK.out l _ _ HX.out (HR.out.on hb3) HSS.out (HBL.out.trans (hb3.mono HBL.out.size))
            · rw [decide_eq_false hts] at hq
              have HX : Hid (parseS s.data.toList = none) := Lib.hid (by rw [HP.out, if_neg (by rw [HTZ.out]; simpa using hts)])
              clear hts hsz
              go_wp2_with (go_at_call 60; (with_reducible refine P.mono ?_); rintro e w3 ⟨rfl, hb3⟩)
              go_ret2
              exact HBAD.out _ _ HX.out (HBL.out.trans (hb3.mono HBL.out.size))
          · have hzb : (z == 0) = false := by rw [beq_eq_false_iff_ne]; exact hz0
            have HX : Hid (parseS s.data.toList = none) := Lib.hid (by rw [HP.out, if_neg (by rw [HTZ.out]; simp [hz0])])
            clear hsz
            go_wp2_with (go_at_call 60; (with_reducible refine P.mono ?_); rintro e w3 ⟨rfl, hb3⟩)
            go_ret2
            exact HBAD.out _ _ HX.out (HBL.out.trans (hb3.mono HBL.out.size))
end Go.Proofs.YtbeoklihpkfofaaGreatDoor
