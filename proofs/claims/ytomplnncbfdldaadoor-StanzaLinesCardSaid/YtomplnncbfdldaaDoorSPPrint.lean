/-
  The program's Print of stanzas: what it returns; nothing old turns.
-/
import Derived.Test.YtomplnncbfdldaaDoorSPWrite
import Derived.Test.YtomplnncbfdldaaDoorSParseM
import Derived.Deep.DeepCutAuto
import Derived.Deep.CutRange
namespace Go.Proofs.YtomplnncbfdldaaDoor
open Go.RowKit
theorem printE_ways (l : List (List Fld)) : (∃ z, (z = 22 ∨ z = 1) ∧ printE l = ([], z)) ∨ printE l = (printSs l, 0) := by
  unfold printE
  split
  · exact .inl ⟨22, .inl rfl, rfl⟩
  · split
    · exact .inr rfl
    · exact .inl ⟨1, .inr rfl, rfl⟩
theorem bld_new (B : Nat) (w : World) (h : B ≤ w.heap.size) : Bld B w.heap.size [] (w.alloc (.cells #[.pointer none, .slice none 0 0] tB)) :=
  .inl ⟨h, .slice none 0 0, heap_alloc_new w _, World.ownsRowF_nil _ _ _ _, by simp [Value.ownBlock]⟩
theorem bstr_any (B b : Nat) (l : Bs) (w : World) (h : Bld B b l w) (hB : B ≤ w.heap.size) : Calls Tryd.prog 22 #[.pointer (some ⟨b, 0, none⟩)] w fun e w' => e = .returned (.string ⟨l.toArray⟩) ∧ Below B w w' :=
  (Tryd.Builder_String_any_k B b l w h hB).mono fun _ _ hp => ⟨hp.1, hp.2.2.1⟩
set_option maxRecDepth 100000 in
set_option maxHeartbeats 16000000 in
theorem print_any (v : Value) (l : List (List Fld)) (hsm : Small l 90000) (w : World) (h : HoldRR 2 w v (l.map (·.map rowF))) : Calls Tryd.prog 11 #[v] w (PrintPost l w) := by
  have CK := check_any v l hsm.n hsm.ns (fun st hst f hf => by have := hsm.fs st hst f hf; omega) w h
  unfold CheckPost at CK
  rcases printE_ways l with ⟨z, hz, he⟩ | he
  · have HP : Hid (∀ w', Below w.heap.size w w' → PrintPost l w (.returned (.tuple #[.string ⟨#[]⟩, .int .i64 z])) w') := Lib.hid (fun w' hb => ⟨by rw [he], hb⟩)
    rw [he] at CK
    clear he hsm
    obtain ⟨a, c, b, o, rfl, hc, ha, hcell⟩ := h
    rw [List.length_map] at CK ha hc ⊢
    clear hcell ha
    generalize l.length = n at *
    rcases hz with rfl | rfl
    all_goals
      go_enter Tryd.func11, Tryd.ntmps11
      go_wp2_with (go_at_call 19; refine CK.mono ?_; rintro e w1 ⟨rfl, hb⟩; have HB := Lib.hid hb; clear hb)
      go_ret2
      exact HP.out _ HB.out
  · have HP : Hid (∀ (S : ByteArray) w', S.data.toList = printSs l → Below w.heap.size w w' → PrintPost l w (.returned (.tuple #[.string S, .int .i64 0])) w') := Lib.hid (fun S w' hS hb => ⟨by rw [he, ← strOf hS], hb⟩)
    rw [he] at CK
    have HS := Lib.hid hsm
    have hpr := hsm.pr
    obtain ⟨a, c, b, o, rfl, hc, ha, hcell⟩ := h
    rw [List.length_map] at CK ha hc ⊢
    have HC := Lib.hid (fun (i : Nat) (st : List Fld) (hi : l[i]? = some st) => hcell i (st.map rowF) (by simp [hi]))
    obtain ⟨n, hN⟩ : ∃ n, l.length = n := ⟨_, rfl⟩
    have hn2 := hsm.n
    rw [hN] at CK ha hc hn2 ⊢
    have HN := Lib.hid hN
    clear he hsm hcell hN
    go_enter Tryd.func11, Tryd.ntmps11
    go_wp2_with (go_at_call 19; refine CK.mono ?_; rintro e w1 ⟨rfl, hb⟩; have HB1 := Lib.hid hb; have hs1 := hb.size; clear hb)
    clear CK
    have hBW : w.heap.size ≤ w1.heap.size := hs1
    have HB2 : Hid (Below w.heap.size w (w1.alloc (.cells #[.pointer none, .slice none 0 0] tB))) := Lib.hid (HB1.out.alloc hs1 _)
    have HD0 := Lib.hid (bld_new w.heap.size w1 hs1)
    obtain ⟨bb, hbb⟩ : ∃ bb, bb = w1.heap.size := ⟨_, rfl⟩
    rw [← hbb] at HD0 ⊢
    have HEB := Lib.hid hbb
    clear hbb
    go_loopw [17] (fun i wr => ∃ (k : Nat) (out : Bs), k ≤ n ∧ i = .int .i64 k ∧ Hid (out ++ leftSs l k = printSs l) ∧ Hid (Bld w.heap.size bb out wr) ∧ bb < wr.heap.size ∧ Hid (Below w.heap.size w wr)) (fun i _ => n - (intOf i).toNat)
    case atStart => exact ⟨0, [], by omega, rfl, Lib.hid (by unfold leftSs; rw [if_pos rfl]; rfl), HD0, by rw [HEB.out]; simp, HB2⟩
    case round =>
      obtain ⟨k, out, hk, rfl, HO, HD, hbw2, HB⟩ := hrel
      have hsz := HB.out.size
      have hol := len_of HO.out
      by_cases hlt : k < n
      · obtain ⟨rfl, hbw⟩ := ha (by omega)
        have hkl : k < l.length := by rw [HN.out]; exact hlt
        obtain ⟨st, hst⟩ : ∃ st, st = l[k] := ⟨_, rfl⟩
        have hst' : l[k]? = some st := by rw [hst]; exact List.getElem?_eq_getElem hkl
        obtain ⟨u, hu0, hr⟩ := HC.out k st hst'
        have hu := (HB.out.cell (p := ⟨b, o + k, none⟩) hbw).trans hu0
        have hr' := hr
        obtain ⟨ai, ci, bi, oi, rfl, hci, hai, hcelli⟩ := hr
        rw [List.length_map] at hu hci hai hr'
        have hm1 := HS.out.ns _ (List.mem_of_getElem? hst')
        have hfs := HS.out.fs _ (List.mem_of_getElem? hst')
        obtain ⟨m, hm⟩ : ∃ m, st.length = m := ⟨_, rfl⟩
        rw [hm] at hu hm1 hci hai hr'
        have HM := Lib.hid hm
        have HFS := Lib.hid hfs
        have HR := Lib.hid hr'
        have HL0 : k = 0 → Hid (out ++ (printS st ++ tailSs l (k + 1)) = printSs l) := fun h0 => Lib.hid (by
          rw [← HO.out, hst]; subst h0; rw [left_first hkl])
        have HL1 : ¬ k = 0 → Hid (out ++ (ByteArray.mk #[10]).data.toList ++ (printS st ++ tailSs l (k + 1)) = printSs l) := fun h0 => Lib.hid (by
          rw [← HO.out, hst, left_next h0 hkl]; simp)
        clear hu0 hcelli hfs hst hst' hr' hm HO
        go_upto_if 23 with fail
        go_cut [] (fun wx => ∃ out', Hid (out' ++ (printS st ++ tailSs l (k + 1)) = printSs l) ∧ Hid (Bld w.heap.size bb out' wx) ∧ bb < wx.heap.size ∧ Hid (Below w.heap.size w wx))
        case first =>
          by_cases h0 : k = 0
          · have HL := HL0 h0
            subst h0
            clear HL0 HL1
            go_wp2
            go_meet
            case rel => exact ⟨out, HL, HD, hbw2, HB⟩
          · have HL := HL1 h0
            have hk0 : (0 : Int) < (k : Int) := by omega
            have WS := wstr_any w.heap.size bb out ⟨#[10]⟩ wr HD.out (by omega) (by decide) hsz
            clear HL0 HL1 h0
            go_wp2_with (go_at_call 20; refine WS.mono ?_; rintro e w3 ⟨v3, rfl, hd3, hb3, ho3⟩; have HD3 := Lib.hid hd3; have HB3 := Lib.hid (HB.out.trans hb3); have hz3 := hb3.size; clear hd3 hb3 ho3)
            go_meet
            case rel => exact ⟨_, HL, HD3, by omega, HB3⟩
        case rest =>
          obtain ⟨out2, HL, HD2, hbw3, HBX⟩ := hcut
          clear HL0 HL1 HD HB hu
          go_wp2
          go_loopw [27] (fun i wx => ∃ (t : Nat) (out : Bs), t ≤ m ∧ i = .int .i64 t ∧ Hid (out ++ (printS (st.drop t) ++ tailSs l (k + 1)) = printSs l) ∧ Hid (Bld w.heap.size bb out wx) ∧ bb < wx.heap.size ∧ Hid (Below w.heap.size w wx)) (fun i _ => m - (intOf i).toNat)
          case atStart => exact ⟨0, out2, by omega, rfl, HL, HD2, hbw3, HBX⟩
          case round =>
            obtain ⟨t, out3, ht, rfl, HI, HD3, hbw4, HB4⟩ := hrel
            have hsz4 := HB4.out.size
            have hol3 := len_of HI.out
            by_cases htm : t < m
            · obtain ⟨rfl, hbi⟩ := hai (by omega)
              have htl : t < st.length := by rw [HM.out]; exact htm
              obtain ⟨f, hf⟩ : ∃ f, f = st[t] := ⟨_, rfl⟩
              have hf' : st[t]? = some f := by rw [hf]; exact List.getElem?_eq_getElem htl
              have hfz := HFS.out f (List.mem_of_getElem? hf')
              obtain ⟨X, hX⟩ : ∃ X : ByteArray, X.data.toList = f.1 := ⟨⟨f.1.toArray⟩, by simp⟩
              obtain ⟨Y, hY⟩ : ∃ Y : ByteArray, Y.data.toList = f.2 := ⟨⟨f.2.toArray⟩, by simp⟩
              obtain ⟨d0, d1⟩ := rowF_cells (HR.out.on HB4.out) hf' hX hY
              have hXs : X.size ≤ 90000 := by rw [sizeOf, hX]; omega
              have hYs : Y.size ≤ 90000 := by rw [sizeOf, hY]; omega
              have W := write_any w.heap.size bb out3 X Y hXs hYs (by omega) (wr.alloc (.cells #[.string X, .string Y] 39)) (HD3.out.alloc _) (by simp; omega) (by simp; omega)
              unfold WrPost at W
              have HA4 : Hid (Below w.heap.size w (wr.alloc (.cells #[.string X, .string Y] 39))) := Lib.hid (HB4.out.alloc hsz4 _)
              have HN3 : Hid (out3 ++ printF (X.data.toList, Y.data.toList) ++ (printS (st.drop (t + 1)) ++ tailSs l (k + 1)) = printSs l) := Lib.hid (by
                rw [← HI.out, printS_drop htl, ← hf, hX, hY]
                unfold printF
                simp only [List.append_assoc, List.cons_append])
              clear hf hf' hfz hX hY HI
              go_wp2_with (go_at_call 21; refine W.mono ?_; rintro e w5 ⟨⟨v5, rfl⟩, hd5, hb5⟩; have HD5 := Lib.hid hd5; have HB5 := Lib.hid (HA4.out.trans hb5); have hz5 := hb5.size; clear hd5 hb5)
              go_roundw
              case rel => exact ⟨t + 1, _, by omega, by go_num, HN3, HD5, by simp at hz5; omega, HB5⟩
              case measure => simp [intOf]; omega
            · obtain rfl : t = m := by omega
              have HO2 : Hid (out3 ++ leftSs l (k + 1) = printSs l) := Lib.hid (by
                have := HI.out
                rw [← HM.out, printS_end, List.nil_append, left_tail] at this; exact this)
              clear HI htm
              go_wp2
              go_roundw
              case rel => exact ⟨k + 1, out3, by omega, by go_num, HO2, HD3, hbw4, HB4⟩
              case measure => simp [intOf]; omega
      · obtain rfl : k = n := by omega
        have HE : Hid (out = printSs l) := Lib.hid (by have := HO.out; rw [← HN.out, left_end, List.append_nil] at this; exact this)
        have BS := bstr_any w.heap.size bb out wr HD.out hsz
        clear hlt HO
        go_wp2_with (go_at_call 22; refine BS.mono ?_; rintro e w3 ⟨rfl, hb3⟩; have HB3 := Lib.hid (HB.out.trans hb3); clear hb3)
        go_ret2
        exact HP.out _ _ (by rw [HE.out]) HB3.out
end Go.Proofs.YtomplnncbfdldaaDoor
