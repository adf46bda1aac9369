import Derived.Test.YtkbkaeefdhkgdaaGreatDoorPSPWrite
import Derived.Test.YtkbkaeefdhkgdaaGreatDoorPUWord
import Derived.Test.YtkbkaeefdhkgdaaGreatDoorPUKeyF
import Derived.Test.YtkbkaeefdhkgdaaGreatDoorPBRefAll
import Derived.Test.YtkbkaeefdhkgdaaGreatDoorPUKey
set_option maxRecDepth 100000
set_option maxHeartbeats 32000000
namespace Go.Proofs.YtkbkaeefdhkgdaaGreatDoor
section
open Go.RowKit
def PredT (l : List Bs) (g : Nat) (lb : Array Value) (p : Bs → Bool) (w : World) : Prop :=
 ∀ W x, x ∈ l → Below w.heap.size w W → Calls Tryz.prog g (#[.string (⟨x.toArray⟩ : ByteArray)] ++ lb) W fun e w' => e = .returned (.bool (p x)) ∧ Below W.heap.size W w'
def idxT (l : List (Bs)) (p : Bs → Bool) : Int := match l.findIdx? p with
 | some k => (k : Int)
 | none => -1
theorem idxT_hit {l : List (Bs)} {p : Bs → Bool} {k : Nat} {x : Bs} (hx : l[k]? = some x) (hp : p x = true) (hb : ∀ (j : Nat) y, j < k → l[j]? = some y → p y = false) : l.findIdx? p = some k := by
 rw [List.findIdx?_eq_some_iff_getElem]
 obtain ⟨hk, e⟩ := List.getElem?_eq_some_iff.1 hx
 exact ⟨hk, by rw [e]; exact hp, fun j hj => by rw [hb j _ hj (List.getElem?_eq_getElem (by omega))]; simp⟩
theorem idxT_miss {l : List (Bs)} {p : Bs → Bool} (hb : ∀ (j : Nat) y, l[j]? = some y → p y = false) : l.findIdx? p = none := by
 rw [List.findIdx?_eq_none_iff]
 intro y hy
 obtain ⟨j, hj⟩ := List.mem_iff_getElem?.1 hy
 exact hb j y hj
theorem idxT_any (g : Nat) (lb : Array Value) (eg : ∀ args w, (callFunc g args).run Tryz.prog w = .ok (.enter g args) w) (p : Bs → Bool) (v : Value) (l : List (Bs)) (hl : l.length ≤ 90000) (w : World) (h : HoldT w v l) (hp : PredT l g lb p w) :
  Calls Tryz.prog 169 #[v, .func (.func g) #[] lb] w fun e w' => e = .returned (.int .i64 (idxT l p)) ∧ Below w.heap.size w w' := by
 obtain ⟨a, c, b, o, rfl, hc, ha, hcell⟩ := h
 have HC := Lib.hid hcell
 obtain ⟨Z, HZ⟩ : ∃ Z, Hid (idxT l p = Z) := ⟨_, rfl⟩
 rw [HZ.out]
 have HP := Lib.hid hp
 obtain ⟨n, hN⟩ : ∃ n, l.length = n := ⟨_, rfl⟩
 rw [hN] at hc ha hl ⊢
 have HN := Lib.hid hN
 clear hcell hp hN
 go_enter Tryz.func169, Tryz.ntmps169
 go_wp2
 go_loopw [8] (fun i wr => ∃ k : Nat, k ≤ n ∧ i = .int .i64 k ∧ Hid (∀ (j : Nat) y, j < k → l[j]? = some y → p y = false) ∧ Hid (Below w.heap.size w wr)) (fun i _ => n - (intOf i).toNat)
 case atStart => exact ⟨0, by omega, rfl, Lib.hid (fun j y hj => by omega), Lib.hid (Below.refl _ _)⟩
 case round =>
  obtain ⟨k, hk, rfl, H, HB⟩ := hrel
  by_cases hlt : k < n
  ·
   obtain ⟨rfl, hbw⟩ := ha (by omega)
   obtain ⟨a0, hx⟩ : ∃ x, l[k]? = some x := ⟨_, List.getElem?_eq_getElem (by rw [HN.out]; exact hlt)⟩
   have c0 := HC.out k a0 hx
   rw [← HB.out.cell (p := ⟨b, o + k, none⟩) hbw] at c0
   have hcall := HP.out wr a0 (List.mem_of_getElem? hx) HB.out
   have HX := Lib.hid hx
   clear hx
   cases hq : p a0
   ·
    rw [hq] at hcall
    have HK : Hid (∀ (j : Nat) y, j < k + 1 → l[j]? = some y → p y = false) := Lib.hid (fun j y hj hy => by
     by_cases e : j = k
     ·
      subst e
      rw [HX.out] at hy; cases hy
      exact hq
     ·
      exact H.out j y (by omega) hy)
    clear hq H
    generalize (⟨a0.toArray⟩ : ByteArray) = X0 at *
    go_wp2_with (go_at_fn g; refine hcall.mono ?_; rintro e w1 ⟨rfl, hb1⟩; have HB1 := Lib.hid (HB.out.trans (hb1.mono HB.out.size)); clear hb1)
    go_roundw
    case rel => exact ⟨k + 1, by omega, by go_num, HK, HB1⟩
    case measure => simp [intOf]; omega
   ·
    rw [hq] at hcall
    have HF : Hid ((k : Int) = Z) := Lib.hid (by rw [← HZ.out, idxT, idxT_hit HX.out hq H.out])
    clear hq H
    generalize (⟨a0.toArray⟩ : ByteArray) = X0 at *
    go_wp2_with (go_at_fn g; refine hcall.mono ?_; rintro e w1 ⟨rfl, hb1⟩; have HB1 := Lib.hid (HB.out.trans (hb1.mono HB.out.size)); clear hb1)
    go_ret
    exact ⟨reti HF.out, HB1.out⟩
  ·
   obtain rfl : k = n := by omega
   have HF : Hid ((-1 : Int) = Z) := Lib.hid (by rw [← HZ.out, idxT, idxT_miss (fun j y hy => H.out j y (by have := (List.getElem?_eq_some_iff.1 hy).1; rw [HN.out] at this; exact this) hy)])
   clear hlt H
   go_wp2
   go_ret
   exact ⟨reti HF.out, HB.out⟩
theorem idxT_neg {l : List Bs} {p : Bs → Bool} : (0 ≤ idxT l p) = (l.any p = true) := by
 unfold idxT
 cases h : l.findIdx? p with
 | none =>
  rw [List.findIdx?_eq_none_iff] at h
  have : l.any p = false := by rw [List.any_eq_false]; intro x hx; rw [h x hx]; simp
  rw [this]; simp
 | some k =>
  obtain ⟨hk, hp, _⟩ := List.findIdx?_eq_some_iff_getElem.1 h
  have : l.any p = true := List.any_eq_true.2 ⟨_, List.getElem_mem hk, hp⟩
  rw [this]; simp
theorem contT_any (g : Nat) (lb : Array Value) (eg : ∀ args w, (callFunc g args).run Tryz.prog w = .ok (.enter g args) w) (p : Bs → Bool) (v : Value) (l : List Bs) (hl : l.length ≤ 90000) (w : World) (h : HoldT w v l) (hp : PredT l g lb p w) :
  Calls Tryz.prog 139 #[v, .func (.func g) #[] lb] w fun e w' => e = .returned (.bool (l.any p)) ∧ Below w.heap.size w w' := by
 have C := idxT_any g lb eg p v l hl w h hp
 obtain ⟨a, c, b, o, rfl, -⟩ := h
 have HN := Lib.hid (idxT_neg (l := l) (p := p))
 generalize idxT l p = z at *
 generalize hq : l.any p = q at *
 have hz : decide (0 ≤ z) = q := by
  have := HN.out
  cases q
  ·
   rw [decide_eq_false_iff_not, this]; simp
  ·
   rw [decide_eq_true_iff, this]
 generalize l.length = n at *
 clear hp hl hq
 cases q
 all_goals
  go_enter Tryz.func139, Tryz.ntmps139
  go_wp2_with (go_at_call 169; (with_reducible refine C.mono ?_); rintro e w1 ⟨rfl, hb⟩; have HB := Lib.hid hb; clear hb)
  go_ret
  exact ⟨rfl, HB.out⟩
end
section
open Go.RowKit
theorem printE_ways (l : List (List Fld)) : (∃ z, (z = 22 ∨ z = 1) ∧ printE l = ([], z)) ∨ printE l = (printSs l, 0) := by
 unfold printE
 split
 ·
  exact .inl ⟨22, .inl rfl, rfl⟩
 ·
  split
  ·
   exact .inr rfl
  ·
   exact .inl ⟨1, .inr rfl, rfl⟩
theorem bld_new (B : Nat) (w : World) (h : B ≤ w.heap.size) : Bld B w.heap.size [] (w.alloc (.cells #[.pointer none, .slice none 0 0] tB)) :=
 .inl ⟨h, .slice none 0 0, heap_alloc_new w _, World.ownsRowF_nil _ _ _ _, by simp [Value.ownBlock]⟩
theorem bstr_any (B b : Nat) (l : Bs) (w : World) (h : Bld B b l w) (hB : B ≤ w.heap.size) : Calls Tryz.prog 48 #[.pointer (some ⟨b, 0, none⟩)] w fun e w' => e = .returned (.string ⟨l.toArray⟩) ∧ Below B w w' :=
 (Tryz.Builder_String_any_k B b l w h hB).mono fun _ _ hp => ⟨hp.1, hp.2.2.1⟩
theorem print_any (v : Value) (l : List (List Fld)) (hsm : Small l 90000) (w : World) (h : HoldRR 2 w v (l.map (·.map rowF))) : Calls Tryz.prog 17 #[v] w (PrintPost l w) := by
 have CK := check_any v l hsm.n hsm.ns (fun st hst f hf => by have := hsm.fs st hst f hf; omega) w h
 unfold CheckPost at CK
 rcases printE_ways l with ⟨z, hz, he⟩ | he
 ·
  have HP : Hid (∀ w', Below w.heap.size w w' → PrintPost l w (.returned (.tuple #[.string ⟨#[]⟩, .int .i64 z])) w') := Lib.hid (fun w' hb => ⟨by rw [he], hb⟩)
  rw [he] at CK
  clear he hsm
  obtain ⟨a, c, b, o, rfl, hc, ha, hcell⟩ := h
  rw [List.length_map] at CK ha hc ⊢
  clear hcell ha
  generalize l.length = n at *
  rcases hz with rfl | rfl
  all_goals
   go_enter Tryz.func17, Tryz.ntmps17
   go_wp2_with (go_at_call 45; refine CK.mono ?_; rintro e w1 ⟨rfl, hb⟩; have HB := Lib.hid hb; clear hb)
   go_ret2
   exact HP.out _ HB.out
 ·
  have HP : Hid (∀ (S : ByteArray) w', S.data.toList = printSs l → Below w.heap.size w w' → PrintPost l w (.returned (.tuple #[.string S, .int .i64 0])) w') := Lib.hid (fun S w' hS hb => ⟨by rw [he, ← strOf hS], hb⟩)
  rw [he] at CK
  have HS := Lib.hid hsm
  have hpr := hsm.pr
  obtain ⟨a, c, b, o, rfl, hc, ha, hcell⟩ := h
  rw [List.length_map] at CK ha hc ⊢
  have HC := Lib.hid (fun (i : Nat) (st : List Fld) (hi : l[i]? = some st) => hcell i (st.map rowF) (by simp [hi]))
  obtain ⟨n, hN⟩ : ∃ n, l.length = n := ⟨_, rfl⟩
  have hn2 := hsm.n
  rw [hN] at CK ha hc hn2 ⊢
  have HN := Lib.hid hN
  clear he hsm hcell hN
  go_enter Tryz.func17, Tryz.ntmps17
  go_wp2_with (go_at_call 45; refine CK.mono ?_; rintro e w1 ⟨rfl, hb⟩; have HB1 := Lib.hid hb; have hs1 := hb.size; clear hb)
  clear CK
  have hBW : w.heap.size ≤ w1.heap.size := hs1
  have HB2 : Hid (Below w.heap.size w (w1.alloc (.cells #[.pointer none, .slice none 0 0] tB))) := Lib.hid (HB1.out.alloc hs1 _)
  have HD0 := Lib.hid (bld_new w.heap.size w1 hs1)
  obtain ⟨bb, hbb⟩ : ∃ bb, bb = w1.heap.size := ⟨_, rfl⟩
  rw [← hbb] at HD0 ⊢
  have HEB := Lib.hid hbb
  clear hbb
  go_loopw [17] (fun i wr => ∃ (k : Nat) (out : Bs), k ≤ n ∧ i = .int .i64 k ∧ Hid (out ++ leftSs l k = printSs l) ∧ Hid (Bld w.heap.size bb out wr) ∧ bb < wr.heap.size ∧ Hid (Below w.heap.size w wr)) (fun i _ => n - (intOf i).toNat)
  case atStart => exact ⟨0, [], by omega, rfl, Lib.hid (by unfold leftSs; rw [if_pos rfl]; rfl), HD0, by rw [HEB.out]; simp, HB2⟩
  case round =>
   obtain ⟨k, out, hk, rfl, HO, HD, hbw2, HB⟩ := hrel
   have hsz := HB.out.size
   have hol := len_of HO.out
   by_cases hlt : k < n
   ·
    obtain ⟨rfl, hbw⟩ := ha (by omega)
    have hkl : k < l.length := by rw [HN.out]; exact hlt
    obtain ⟨st, hst⟩ : ∃ st, st = l[k] := ⟨_, rfl⟩
    have hst' : l[k]? = some st := by rw [hst]; exact List.getElem?_eq_getElem hkl
    obtain ⟨u, hu0, hr⟩ := HC.out k st hst'
    have hu := (HB.out.cell (p := ⟨b, o + k, none⟩) hbw).trans hu0
    have hr' := hr
    obtain ⟨ai, ci, bi, oi, rfl, hci, hai, hcelli⟩ := hr
    rw [List.length_map] at hu hci hai hr'
    have hm1 := HS.out.ns _ (List.mem_of_getElem? hst')
    have hfs := HS.out.fs _ (List.mem_of_getElem? hst')
    obtain ⟨m, hm⟩ : ∃ m, st.length = m := ⟨_, rfl⟩
    rw [hm] at hu hm1 hci hai hr'
    have HM := Lib.hid hm
    have HFS := Lib.hid hfs
    have HR := Lib.hid hr'
    have HL0 : k = 0 → Hid (out ++ (printS st ++ tailSs l (k + 1)) = printSs l) := fun h0 => Lib.hid (by
     rw [← HO.out, hst]; subst h0; rw [left_first hkl])
    have HL1 : ¬ k = 0 → Hid (out ++ (ByteArray.mk #[10]).data.toList ++ (printS st ++ tailSs l (k + 1)) = printSs l) := fun h0 => Lib.hid (by
     rw [← HO.out, hst, left_next h0 hkl]; simp)
    clear hu0 hcelli hfs hst hst' hr' hm HO
    go_upto_if 23 with fail
    go_cut [] (fun wx => ∃ out', Hid (out' ++ (printS st ++ tailSs l (k + 1)) = printSs l) ∧ Hid (Bld w.heap.size bb out' wx) ∧ bb < wx.heap.size ∧ Hid (Below w.heap.size w wx))
    case first =>
     by_cases h0 : k = 0
     ·
      have HL := HL0 h0
      subst h0
      clear HL0 HL1
      go_wp2
      go_meet
      case rel => exact ⟨out, HL, HD, hbw2, HB⟩
     ·
      have HL := HL1 h0
      have hk0 : (0 : Int) < (k : Int) := by omega
      have WS := wstr_any w.heap.size bb out ⟨#[10]⟩ wr HD.out (by omega) (by decide) hsz
      clear HL0 HL1 h0
      go_wp2_with (go_at_call 46; refine WS.mono ?_; rintro e w3 ⟨v3, rfl, hd3, hb3, ho3⟩; have HD3 := Lib.hid hd3; have HB3 := Lib.hid (HB.out.trans hb3); have hz3 := hb3.size; clear hd3 hb3 ho3)
      go_meet
      case rel => exact ⟨_, HL, HD3, by omega, HB3⟩
    case rest =>
     obtain ⟨out2, HL, HD2, hbw3, HBX⟩ := hcut
     clear HL0 HL1 HD HB hu
     go_wp2
     go_loopw [27] (fun i wx => ∃ (t : Nat) (out : Bs), t ≤ m ∧ i = .int .i64 t ∧ Hid (out ++ (printS (st.drop t) ++ tailSs l (k + 1)) = printSs l) ∧ Hid (Bld w.heap.size bb out wx) ∧ bb < wx.heap.size ∧ Hid (Below w.heap.size w wx)) (fun i _ => m - (intOf i).toNat)
     case atStart => exact ⟨0, out2, by omega, rfl, HL, HD2, hbw3, HBX⟩
     case round =>
      obtain ⟨t, out3, ht, rfl, HI, HD3, hbw4, HB4⟩ := hrel
      have hsz4 := HB4.out.size
      have hol3 := len_of HI.out
      by_cases htm : t < m
      ·
       obtain ⟨rfl, hbi⟩ := hai (by omega)
       have htl : t < st.length := by rw [HM.out]; exact htm
       obtain ⟨f, hf⟩ : ∃ f, f = st[t] := ⟨_, rfl⟩
       have hf' : st[t]? = some f := by rw [hf]; exact List.getElem?_eq_getElem htl
       have hfz := HFS.out f (List.mem_of_getElem? hf')
       obtain ⟨X, hX⟩ : ∃ X : ByteArray, X.data.toList = f.1 := ⟨⟨f.1.toArray⟩, by simp⟩
       obtain ⟨Y, hY⟩ : ∃ Y : ByteArray, Y.data.toList = f.2 := ⟨⟨f.2.toArray⟩, by simp⟩
       obtain ⟨d0, d1⟩ := rowF_cells (HR.out.on HB4.out) hf' hX hY
       have hXs : X.size ≤ 90000 := by rw [sizeOf, hX]; omega
       have hYs : Y.size ≤ 90000 := by rw [sizeOf, hY]; omega
       have W := write_any w.heap.size bb out3 X Y hXs hYs (by omega) (wr.alloc (.cells #[.string X, .string Y] 79)) (HD3.out.alloc _) (by simp; omega) (by simp; omega)
       unfold WrPost at W
       have HA4 : Hid (Below w.heap.size w (wr.alloc (.cells #[.string X, .string Y] 79))) := Lib.hid (HB4.out.alloc hsz4 _)
       have HN3 : Hid (out3 ++ printF (X.data.toList, Y.data.toList) ++ (printS (st.drop (t + 1)) ++ tailSs l (k + 1)) = printSs l) := Lib.hid (by
        rw [← HI.out, printS_drop htl, ← hf, hX, hY]
        unfold printF
        simp only [List.append_assoc, List.cons_append])
       clear hf hf' hfz hX hY HI
       go_wp2_with (go_at_call 47; refine W.mono ?_; rintro e w5 ⟨⟨v5, rfl⟩, hd5, hb5⟩; have HD5 := Lib.hid hd5; have HB5 := Lib.hid (HA4.out.trans hb5); have hz5 := hb5.size; clear hd5 hb5)
       go_roundw
       case rel => exact ⟨t + 1, _, by omega, by go_num, HN3, HD5, by simp at hz5; omega, HB5⟩
       case measure => simp [intOf]; omega
      ·
       obtain rfl : t = m := by omega
       have HO2 : Hid (out3 ++ leftSs l (k + 1) = printSs l) := Lib.hid (by
        have := HI.out
        rw [← HM.out, printS_end, List.nil_append, left_tail] at this; exact this)
       clear HI htm
       go_wp2
       go_roundw
       case rel => exact ⟨k + 1, out3, by omega, by go_num, HO2, HD3, hbw4, HB4⟩
       case measure => simp [intOf]; omega
   ·
    obtain rfl : k = n := by omega
    have HE : Hid (out = printSs l) := Lib.hid (by have := HO.out; rw [← HN.out, left_end, List.append_nil] at this; exact this)
    have BS := bstr_any w.heap.size bb out wr HD.out hsz
    clear hlt HO
    go_wp2_with (go_at_call 48; refine BS.mono ?_; rintro e w3 ⟨rfl, hb3⟩; have HB3 := Lib.hid (HB.out.trans hb3); clear hb3)
    go_ret2
    exact HP.out _ _ (by rw [HE.out]) HB3.out
end
section
open Go.RowKit Go.Shelf
theorem settled_any (X0 X1 : ByteArray) (z : Int) (a3 a4 a5 a6 a7 a8 : Option Addr) (n3 n4 n5 n6 n7 n8 m3 m4 m5 m6 m7 m8 : Nat) (w : World) : Calls Tryz.prog 15 #[.agg #[.string X0, .string X1, .int .i64 z, .slice a3 n3 m3, .slice a4 n4 m4, .slice a5 n5 m5, .slice a6 n6 m6, .slice a7 n7 m7, .slice a8 n8 m8]] w fun e w' => e = .returned (.int .i64 (if 0 < n8 then 5 else if 0 < n7 then 6 else 7)) ∧ Below w.heap.size w w' := by
 obtain ⟨x0, x1, x2, x3, x4, x5, x6, x7, x8⟩ := boxV9 w (.string X0) (.string X1) (.int .i64 z) (.slice a3 n3 m3) (.slice a4 n4 m4) (.slice a5 n5 m5) (.slice a6 n6 m6) (.slice a7 n7 m7) (.slice a8 n8 m8) 43
 have B0 := (Below.refl w.heap.size w).alloc (Nat.le_refl _) (.cells #[.string X0, .string X1, .int .i64 z, .slice a3 n3 m3, .slice a4 n4 m4, .slice a5 n5 m5, .slice a6 n6 m6, .slice a7 n7 m7, .slice a8 n8 m8] 43)
 by_cases h8 : 0 < n8
 ·
  rw [if_pos h8]
  go_enter Tryz.func15, Tryz.ntmps15
  go_wp2
  go_ret
  exact ⟨rfl, B0⟩
 ·
  rw [if_neg h8]
  by_cases h7 : 0 < n7
  ·
   rw [if_pos h7]
   go_enter Tryz.func15, Tryz.ntmps15
   go_wp2
   go_ret
   exact ⟨rfl, B0⟩
  ·
   rw [if_neg h7]
   go_enter Tryz.func15, Tryz.ntmps15
   go_wp2
   go_ret
   exact ⟨rfl, B0⟩
end
section
open Go.RowKit Go.Shelf
theorem rightVerU_any (v : ByteArray) (hv : v.size ≤ maxLen) (w : World) (h : LaidV w) : Calls Tryz.prog 53 #[.string v] w fun e w' => e = .returned (.bool (decide ((parseE v.data.toList).2 = 0))) ∧ Below w.heap.size w w' := by
 have PV := parseBig_any v hv w h
 unfold ParsePost parseV verV at PV
 obtain ⟨k, hk⟩ : ∃ k : Int, (parseE v.data.toList).2 = k := ⟨_, rfl⟩
 obtain ⟨z, hz⟩ : ∃ z : Int, (parseE v.data.toList).1.1 = z := ⟨_, rfl⟩
 obtain ⟨U, hU⟩ : ∃ U : ByteArray, (⟨((parseE v.data.toList).1.2.1).toArray⟩ : ByteArray) = U := ⟨_, rfl⟩
 obtain ⟨V, hV⟩ : ∃ V : ByteArray, (⟨((parseE v.data.toList).1.2.2).toArray⟩ : ByteArray) = V := ⟨_, rfl⟩
 simp only [hk, hz, hU, hV] at PV ⊢
 have hkd : Hid (decide (k = 0) = (k == 0)) := Lib.hid rfl
 clear hk hz hU hV h
 go_enter Tryz.func53, Tryz.ntmps53
 go_wp2_with (go_at_call 101; (with_reducible refine PV.mono ?_); rintro e w2 ⟨rfl, hb⟩; have HB := Lib.hid (hb.alloc hb.size (.cells #[.int .i64 z, .string U, .string V] 100)); clear hb)
 go_ret
 exact ⟨retb hkd.out.symm, HB.out⟩
def setU (n7 n8 : Nat) : Int := if 0 < n8 then 5 else if 0 < n7 then 6 else 7
def stateOkU (z : Int) (n7 n8 : Nat) : Bool := if z = 5 ∨ z = 6 then decide (setU n7 n8 = z) else decide (wordU z ≠ []) && decide (setU n7 n8 = 7)
theorem rightRelsU_any (X0 X1 : ByteArray) (z : Int) (a3 a4 a5 a6 a7 a8 : Option Addr) (n3 n4 n5 n6 n7 n8 m3 m4 m5 m6 m7 m8 : Nat) (dp : List Gv) (cn : List Rl) (hd : dp.length ≤ 500) (hdb : BigG dp) (hc : cn.length ≤ 90000) (hcb : BigQ cn) (w : World) (hh : HoldGs w (.slice a3 n3 m3) dp) (hq : HoldQ w (.slice a4 n4 m4) cn) (hL : LaidU w) : Calls Tryz.prog 55 #[.agg #[.string X0, .string X1, .int .i64 z, .slice a3 n3 m3, .slice a4 n4 m4, .slice a5 n5 m5, .slice a6 n6 m6, .slice a7 n7 m7, .slice a8 n8 m8]] w fun e w' => e = .returned (.bool (decide ((allE (fsts dp)).2 = 0) && decide ((listE cn).2 = 0))) ∧ Below w.heap.size w w' := by
 have HL := Lib.hid hL
 have C1 := fun W (hb : Below w.heap.size w W) => allBig_any (.slice a3 n3 m3) dp hd hdb W (hh.on hb) (HL.out.on hb).q.v
 have C2 := fun W (hb : Below w.heap.size w W) => listBig_any (.slice a4 n4 m4) cn hc hcb W (HoldV.on hq hb) (HL.out.on hb).q.v
 unfold TwoP at C1 C2
 generalize (allE (fsts dp)).2 = y1 at *
 generalize (listE cn).2 = y2 at *
 generalize bsT (allE (fsts dp)).1 = T1 at *
 generalize bsT (listE cn).1 = T2 at *
 clear hL hh hq hd hdb hc hcb
 obtain ⟨x0, x1, x2, x3, x4, x5, x6, x7, x8⟩ := boxV9 w (.string X0) (.string X1) (.int .i64 z) (.slice a3 n3 m3) (.slice a4 n4 m4) (.slice a5 n5 m5) (.slice a6 n6 m6) (.slice a7 n7 m7) (.slice a8 n8 m8) 43
 have B0 := (Below.refl w.heap.size w).alloc (Nat.le_refl _) (.cells #[.string X0, .string X1, .int .i64 z, .slice a3 n3 m3, .slice a4 n4 m4, .slice a5 n5 m5, .slice a6 n6 m6, .slice a7 n7 m7, .slice a8 n8 m8] 43)
 have HB0 := Lib.hid B0
 have h1 : decide (y1 = 0) = (y1 == 0) := rfl
 have h2 : decide (y2 = 0) = (y2 == 0) := rfl
 rw [h1, h2]
 clear h1 h2
 generalize hq1 : (y1 == 0) = b1
 generalize hq2 : (y2 == 0) = b2
 cases b1 <;> cases b2
 all_goals
  go_enter Tryz.func55, Tryz.ntmps55
  go_wp2_with (first
   | (go_at_call 40; (with_reducible refine (C1 _ HB0.out).mono ?_); rintro e w1 ⟨rfl, hb⟩; have HB1 := Lib.hid (HB0.out.trans (hb.mono HB0.out.size)); rw [← hb.cell (p := ⟨w.heap.size, 4, none⟩) (by simp)] at x4; clear hb)
   | (go_at_call 41; (with_reducible refine (C2 _ HB1.out).mono ?_); rintro e w2 ⟨rfl, hb⟩; have HB2 := Lib.hid (HB1.out.trans (hb.mono HB1.out.size)); clear hb))
  go_ret
  exact ⟨rfl, HB2.out⟩
theorem notName_any (s : ByteArray) (hs : s.size ≤ maxLen) (w : World) : Calls Tryz.prog 140 #[.string s] w fun e w' => e = .returned (.bool (!nameB s.data.toList)) ∧ Below w.heap.size w w' := by
 have N := fun W => nameBig_any s hs W
 generalize nameB s.data.toList = q at *
 go_enter Tryz.func140, Tryz.ntmps140
 go_wp2_with (go_at_call 52; (with_reducible refine (N _).mono ?_); rintro e w1 ⟨rfl, rfl⟩)
 go_ret
 exact ⟨rfl, Below.refl _ _⟩
theorem rightRepU_any (v : Value) (l : List Bs) (hl : l.length ≤ 90000) (hb : ∀ x ∈ l, x.length ≤ maxLen) (w : World) (h : HoldT w v l) : Calls Tryz.prog 102 #[v] w fun e w' => e = .returned (.bool (decide (l.length ≤ 64) && l.all nameB)) ∧ Below w.heap.size w w' := by
 have C := contT_any 140 #[] (enters_of Tryz.func140 (by kernel_rfl) rfl) (fun x => !nameB x) v l hl w h (fun W x hx hW => by
  have := notName_any (bsT x) (by rw [sizeOf, bytesOf]; exact hb x hx) W
  rw [bytesOf] at this
  exact this)
 have HA : l.all nameB = !(l.any fun x => !nameB x) := by rw [List.not_any_eq_all_not]; simp
 rw [HA]
 clear HA
 obtain ⟨a, c, b, o, rfl, -⟩ := h
 generalize (l.any fun x => !nameB x) = q at *
 generalize l.length = n at *
 clear hb
 have e : decide (n ≤ 64) = decide ((n : Int) ≤ 64) := by congr 1; apply propext; omega
 rw [e]
 by_cases h64 : (n : Int) ≤ 64
 ·
  rw [decide_eq_true h64]
  go_enter Tryz.func102, Tryz.ntmps102
  go_wp2_with (go_at_call 139; (with_reducible refine C.mono ?_); rintro e w1 ⟨rfl, hb⟩; have HB := Lib.hid hb; clear hb)
  go_ret
  exact ⟨rfl, HB.out⟩
 ·
  rw [decide_eq_false h64]
  go_enter Tryz.func102, Tryz.ntmps102
  go_wp2
  go_ret
  exact ⟨rfl, Below.refl _ _⟩
end
section
open Go.RowKit Go.Shelf
theorem heap_setU {W : World} {b i : Nat} {cs : Array Value} {t : TypeId} (u : Value) (h : W.heap[b]? = some (.cells cs t (0, 0))) : (W.setCell ⟨b, i, none⟩ u).heap[b]? = some (.cells (cs.setIfInBounds i u) t (0, 0)) := by
 obtain ⟨hlt, hk⟩ := Array.getElem?_eq_some_iff.1 h
 show (W.heap.modify b _)[b]? = _
 rw [Array.getElem?_eq_getElem (by rw [Array.size_modify]; exact hlt), Array.getElem_modify_self, hk]
 rfl
theorem lt_heapU {W : World} {k : Nat} {o : Obj} (h : W.heap[k]? = some o) : k < W.heap.size := (Array.getElem?_eq_some_iff.1 h).1
structure Fb (w W : World) (cs : Array Value) (st : List Fld) : Prop where
 hx : W.heap[w.heap.size]? = some (.cells cs 43 (0, 0))
 ho : ∃ v, W.heap[w.heap.size + 1]? = some (.cells #[v] 51 (0, 0)) ∧ OwnF W (w.heap.size + 2) v st
 b : Below w.heap.size w W
theorem OwnF.onU {w w' : World} {base : Nat} {v : Value} {st : List Fld} (h : OwnF w base v st) (hb : Below w.heap.size w w') : OwnF w' base v st := World.ownsRow.kept h (grown_below hb) (by cases v.ownBlock <;> simp)
theorem Fb.on {w W W' : World} {cs : Array Value} {st : List Fld} (h : Fb w W cs st) (hb : Below W.heap.size W W') : Fb w W' cs st := by
 obtain ⟨v, h1, h2⟩ := h.ho
 exact ⟨(hb.block _ (lt_heapU h.hx)).trans h.hx, ⟨v, (hb.block _ (lt_heapU h1)).trans h1, h2.onU hb⟩, h.b.trans (hb.mono h.b.size)⟩
theorem Fb.new (w : World) (cs : Array Value) : Fb w ((w.alloc (.cells cs 43)).alloc (.cells #[.slice none 0 0] 51)) cs [] := by
 have a1 := heap_alloc_new w (.cells cs 43)
 have b1 := (Below.refl w.heap.size w).alloc (Nat.le_refl _) (.cells cs 43)
 have a2 := heap_alloc_new (w.alloc (.cells cs 43)) (.cells #[.slice none 0 0] 51)
 have b2 := (Below.refl (w.alloc (.cells cs 43)).heap.size (w.alloc (.cells cs 43))).alloc (Nat.le_refl _) (.cells #[.slice none 0 0] 51)
 rw [World.size_alloc] at a2
 exact ⟨(b2.block _ (lt_heapU a1)).trans a1, ⟨_, a2, OwnF.nil _ _⟩, b1.trans (b2.mono b1.size)⟩
theorem add0 (b : Nat) (N : ByteArray) (W : World) : Calls Tryz.prog 39 #[.string N, .string ⟨#[]⟩, .pointer (some ⟨b, 0, none⟩)] W fun e w' => e = .returned (.tuple #[]) ∧ w' = W := by
 go_enter Tryz.func39, Tryz.ntmps39
 go_wp2
 go_end0
 exact ⟨rfl, rfl⟩
theorem add1 (N T : ByteArray) (hT : (T.toList == []) = false) {w W : World} {cs : Array Value} {st : List Fld} (hst : st.length ≤ 20) (h : Fb w W cs st) : Calls Tryz.prog 39 #[.string N, .string T, .pointer (some ⟨w.heap.size + 1, 0, none⟩)] W fun e w' => e = .returned (.tuple #[]) ∧ Fb w w' cs (st ++ [(N.data.toList, T.data.toList)]) := by
 obtain ⟨v, hv, ho⟩ := h.ho
 have HH := Lib.hid h
 obtain ⟨va, vc, rfl, -⟩ := ho.shape
 have HO := Lib.hid ho
 have HV := Lib.hid hv
 have HO3 : Hid (World.ownsRow W (w.heap.size + 2) 79 2 (.slice va st.length vc) st.length (fcells st)) := Lib.hid ho
 obtain ⟨n, hN⟩ : ∃ n, st.length = n := ⟨_, rfl⟩
 have HN := Lib.hid hN
 rw [hN] at hst
 have c0 := cell_heap (i := 0) hv rfl
 rw [hN] at c0
 have hsz := h.b.size
 have hlt := lt_heapU hv
 have HAPP : Hid (∀ v' w3, w3.ownsRow (w.heap.size + 2) 79 2 v' (n + 1) (fcells st ++ [.string N, .string T]) → OwnF w3 (w.heap.size + 2) v' (st ++ [(N.data.toList, T.data.toList)])) := Lib.hid (fun v' w3 h => OwnF.app (f := (N.data.toList, T.data.toList)) rfl rfl (by rw [hN]; exact h))
 rw [hN] at HO3
 generalize fcells st = T0 at *
 obtain ⟨i0, hi, hz0, hz1, hz2'⟩ := info_parts infoF
 clear hv ho hN h
 go_enter Tryz.func39, Tryz.ntmps39
 go_wp2_with (at_builtin; refine wpList_append_own _ rfl _ _ 51 rfl (w.heap.size + 2) 79 i0 _ 2 32 Tryz.underlying51 hi hz0 hz1 hz2' rfl (by decide) _ _ _ rfl (World.ownsRow.alloc HO3.out _) ⟨W.heap.size, 0, none⟩ 1 1 [.string N, .string T] rfl rfl (news2 _ _ _ rfl) (one2 _ _) (by unfold maxLen; omega) (by omega) (by simp; omega) ?_)
 intro v' w4 hown' hgrow _
 have hb4 : Below w.heap.size w w4 := (HH.out.b.alloc hsz _).grown hgrow (by simp; omega) (fun k hk => by have := (World.ownsRow.lt HO3.out k hk).1; omega)
 have hx4 : w4.heap[w.heap.size]? = some (.cells cs 43 (0, 0)) := by
  have e1 := ((Below.refl W.heap.size W).alloc (Nat.le_refl _) (.cells #[.string N, .string T] 79)).block _ (lt_heapU HH.out.hx)
  exact (hgrow.block _ (by simp; have := lt_heapU HH.out.hx; omega) (fun e => by have := (World.ownsRow.lt HO3.out _ e.symm).1; omega)).trans (e1.trans HH.out.hx)
 have hv4 : w4.heap[w.heap.size + 1]? = some (.cells #[.slice va n vc] 51 (0, 0)) := by
  have e1 := ((Below.refl W.heap.size W).alloc (Nat.le_refl _) (.cells #[.string N, .string T] 79)).block _ (lt_heapU HV.out)
  have := HV.out
  rw [HN.out] at this
  exact (hgrow.block _ (by simp; omega) (fun e => by have := (World.ownsRow.lt HO3.out _ e.symm).1; omega)).trans (e1.trans this)
 have HOA := Lib.hid (HAPP.out _ _ hown')
 obtain ⟨va', vc', hv', -⟩ := HOA.out.shape
 rw [List.length_append, HN.out] at hv'
 subst hv'
 have HB4 := Lib.hid hb4
 have HX4 := Lib.hid hx4
 have HV4 := Lib.hid hv4
 have q0 := cell_heap (i := 0) hv4 rfl
 have f0 := frozen_of_row _ _ 0 _ _ hv4
 clear hown' hgrow hb4 hx4 hv4 HO3 HAPP HO HV HH c0
 go_wp2
 go_end0
 refine ⟨rfl, (Below.heap_setCell _ _ _ _ (by simp)).trans HX4.out, ⟨_, by have := heap_setU (i := 0) (.slice va' (n + [(N.data.toList, T.data.toList)].length) vc') HV4.out; simpa using this, ?_⟩, HB4.out.setCell (p := ⟨w.heap.size + 1, 0, none⟩) (by simp) _⟩
 have h1 : w4.ownsRow (w.heap.size + 2) 79 2 (.slice va' (n + [(N.data.toList, T.data.toList)].length) vc') (st ++ [(N.data.toList, T.data.toList)]).length (fcells (st ++ [(N.data.toList, T.data.toList)])) := HOA.out
 refine ⟨h1.1, ?_⟩
 rcases h1.2 with hn | ⟨g, cap, cur, hv, hb', hg, rest⟩
 ·
  exact .inl hn
 ·
  exact .inr ⟨g, cap, cur, hv, hb', (Below.heap_setCell _ _ _ _ (by simp; omega)).trans hg, rest⟩
end
section
open Go.RowKit Go.Shelf
end
end Go.Proofs.YtkbkaeefdhkgdaaGreatDoor
