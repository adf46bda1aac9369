import Derived.Test.YtkbkaeefdhkgdaaGreatDoorPURightA
import Derived.Shelf.Strings.MapGrows
set_option maxRecDepth 100000
set_option maxHeartbeats 32000000
namespace Go.Proofs.YtkbkaeefdhkgdaaGreatDoor
section
open Go.RowKit
theorem checkU_any (v : Value) (l : List Uv) (hl : l.length ≤ 90000) (hs : ∀ x ∈ l, SmallU x) (w : World) (h : HoldU w v l) (hL : LaidU w) (hE : LaidE w) : Calls Tryz.prog 9 #[v] w fun e w' => e = .returned (.int .i64 (kchkK rightU (fun x => x.nm) l)) ∧ Below w.heap.size w w' := by
 have C := kcheckU_any 25 #[] (enters_of Tryz.func25 (by kernel_rfl) rfl) rightU v l hl w h (fun x hx W hW => rightU_any x (hs x hx) W ((h.2 x hx).on hW) (hL.on hW) (hE.on hW))
 unfold keyFU at C
 obtain ⟨a, c, b, o, rfl, -⟩ := h.parts
 generalize kchkK rightU (fun x => x.nm) l = Z at *
 clear h hL hE hs
 go_enter Tryz.func9, Tryz.ntmps9
 go_wp2_with (go_at_call 23; (with_reducible refine C.mono ?_); rintro e w1 ⟨rfl, hb⟩; have HB := Lib.hid hb; clear hb)
 go_ret
 exact ⟨rfl, HB.out⟩
end
section
open Go.RowKit Go.Shelf
def addF (st : List Fld) (f : Fld) : List Fld := if f.2 = [] then st else st ++ [f]
theorem addF_len (st : List Fld) (f : Fld) : (addF st f).length ≤ st.length + 1 := by
 unfold addF; split
 ·
  omega
 ·
  rw [List.length_append]; simp
theorem addT (N T : ByteArray) {w W : World} {cs : Array Value} {st : List Fld} (hst : st.length ≤ 20) (h : Fb w W cs st) : Calls Tryz.prog 39 #[.string N, .string T, .pointer (some ⟨w.heap.size + 1, 0, none⟩)] W fun e w' => e = .returned (.tuple #[]) ∧ Fb w w' cs (addF st (N.data.toList, T.data.toList)) := by
 unfold addF
 by_cases hT : T.data.toList = []
 ·
  have e : T = (⟨#[]⟩ : ByteArray) := strOf hT
  subst e
  exact (add0 _ N W).mono fun e w' ⟨h1, h2⟩ => ⟨h1, by rw [h2, if_pos rfl]; exact h⟩
 ·
  exact (add1 N T (by rw [eqTL]; exact decide_eq_false hT) hst h).mono fun e w' ⟨h1, h2⟩ => ⟨h1, by rw [if_neg hT]; exact h2⟩
def cfText (l : List (Bs × Bs)) : Bs := l.flatMap fun c => 10 :: (c.1 ++ 32 :: c.2)
theorem cfText_take {l : List (Bs × Bs)} {k : Nat} {x : Bs × Bs} (h : l[k]? = some x) : cfText (l.take (k + 1)) = cfText (l.take k) ++ (10 :: (x.1 ++ 32 :: x.2)) := by
 unfold cfText; rw [List.take_add_one, h, List.flatMap_append]; simp
theorem cfText_len (l : List (Bs × Bs)) (hs : ∀ x ∈ l, x.1.length ≤ 4000 ∧ x.2.length ≤ 4000) : (cfText l).length ≤ 8002 * l.length := by
 unfold cfText
 induction l with
 | nil => simp
 | cons x l ih =>
  have := ih (fun y hy => hs y (List.mem_cons_of_mem _ hy))
  have := hs x (by simp)
  rw [List.flatMap_cons, List.length_append, List.length_cons, List.length_append, List.length_cons, List.length_cons]; omega
theorem confsText_any (v : Value) (l : List (Bs × Bs)) (hl : l.length ≤ 90000) (hs : ∀ x ∈ l, x.1.length ≤ 4000 ∧ x.2.length ≤ 4000) (w : World) (h : HoldW2 w v l) : Calls Tryz.prog 44 #[v] w fun e w' => e = .returned (.string (bsT (cfText l))) ∧ Below w.heap.size w w' := by
 obtain ⟨a, c, b, o, rfl, hc, ha, hcell⟩ := h.parts
 have HC := Lib.hid hcell
 have HS := Lib.hid hs
 have HLEN : Hid (∀ k, (cfText (l.take k)).length ≤ 720180000) := Lib.hid (fun k => by
  have h1 := cfText_len (l.take k) (fun x hx => hs x (List.mem_of_mem_take hx))
  have h2 : (l.take k).length ≤ l.length := by rw [List.length_take]; omega
  omega)
 obtain ⟨n, hN⟩ : ∃ n, l.length = n := ⟨_, rfl⟩
 rw [hN] at hc ha hl ⊢
 have HN := Lib.hid hN
 have HD0 := Lib.hid (bld_new w.heap.size w (Nat.le_refl _))
 have B0 := Lib.hid ((Below.refl w.heap.size w).alloc (Nat.le_refl _) (.cells #[.pointer none, .slice none 0 0] tB))
 have hbx0 : w.heap.size < (w.alloc (.cells #[.pointer none, .slice none 0 0] tB)).heap.size := by simp
 clear hcell hN h hs
 go_enter Tryz.func44, Tryz.ntmps44
 go_wp2
 obtain ⟨bb, hbb⟩ : ∃ bb, bb = w.heap.size := ⟨_, rfl⟩
 have HBB := Lib.hid hbb
 have hbw0 : bb < (w.alloc (.cells #[.pointer none, .slice none 0 0] tB)).heap.size := by rw [hbb]; exact hbx0
 have HD1 : Hid (Bld w.heap.size bb (cfText (l.take 0)) (w.alloc (.cells #[.pointer none, .slice none 0 0] tB))) := Lib.hid (by rw [hbb]; exact HD0.out)
 rw [← hbb]
 generalize w.alloc (.cells #[.pointer none, .slice none 0 0] tB) = W2 at *
 clear hbb HD0 hbx0
 go_loopw [8] (fun i wr => ∃ k : Nat, k ≤ n ∧ i = .int .i64 k ∧ Hid (Bld w.heap.size bb (cfText (l.take k)) wr) ∧ bb < wr.heap.size ∧ Hid (Below w.heap.size w wr)) (fun i _ => n - (intOf i).toNat)
 case atStart => exact ⟨0, by omega, rfl, HD1, hbw0, B0⟩
 case round =>
  obtain ⟨k, hk, rfl, HD, hbw, HB⟩ := hrel
  have hsz := HB.out.size
  by_cases hlt : k < n
  ·
   obtain ⟨rfl, hcb⟩ := ha (by omega)
   obtain ⟨⟨x, y⟩, hx⟩ : ∃ x, l[k]? = some x := ⟨_, List.getElem?_eq_getElem (by rw [HN.out]; exact hlt)⟩
   obtain ⟨c0, c1⟩ := HC.out k _ hx
   have hsx := HS.out _ (List.mem_of_getElem? hx)
   dsimp only at c0 c1 hsx
   rw [← HB.out.cell (p := ⟨b, o + k * 2, none⟩) hcb] at c0
   rw [← HB.out.cell (p := ⟨b, o + k * 2 + 1, none⟩) hcb] at c1
   obtain ⟨X, hX⟩ : ∃ q : ByteArray, (⟨x.toArray⟩ : ByteArray) = q := ⟨_, rfl⟩
   obtain ⟨Y, hY⟩ : ∃ q : ByteArray, (⟨y.toArray⟩ : ByteArray) = q := ⟨_, rfl⟩
   have zX : X.size ≤ 4000 := by rw [← hX, sizeOf, bytesOf]; exact hsx.1
   have zY : Y.size ≤ 4000 := by rw [← hY, sizeOf, bytesOf]; exact hsx.2
   have h1s : ∀ x, (ByteArray.mk #[x]).size = 1 := fun _ => rfl
   have HTK : Hid (cfText (l.take k) ++ ((ByteArray.mk #[10]) ++ X ++ (ByteArray.mk #[32]) ++ Y).data.toList = cfText (l.take (k + 1))) := Lib.hid (by
    rw [cfText_take hx]
    simp only [ByteArray.data_append, Array.toList_append]
    rw [← hX, ← hY]; simp)
   rw [hX] at c0
   rw [hY] at c1
   have HL := Lib.hid (HLEN.out k)
   have HB1 : Hid (Below w.heap.size w (wr.alloc (.cells #[.string X, .string Y] 48))) := Lib.hid (HB.out.alloc hsz _)
   have WS := fun S (hS : S.size ≤ 1000000) => wstr_any w.heap.size bb (cfText (l.take k)) S (wr.alloc (.cells #[.string X, .string Y] 48)) (Lib.IsBuilderF.below HD.out ((Below.refl _ _).alloc (Nat.le_refl _) _)) (by have := HL.out; omega) hS (by simp; omega)
   clear hx hX hY hsx HD HB
   go_wp2_with (go_at_call 46; (with_reducible refine (WS _ (by simp only [ByteArray.size_append, h1s]; omega)).mono ?_); rintro e w3 ⟨v3, rfl, hd3, hb3, ho3⟩; have HD3 := Lib.hid hd3; have HB3 := Lib.hid (HB1.out.trans hb3); have hz3 := hb3.size; clear hd3 hb3 ho3)
   have hbw3 : bb < w3.heap.size := by simp at hz3; omega
   go_roundw
   case rel => exact ⟨k + 1, by omega, by go_num, by rw [← HTK.out]; exact HD3, hbw3, HB3⟩
   case measure => simp [intOf]; omega
  ·
   obtain rfl : k = n := by omega
   have HF : Hid (cfText (l.take k) = cfText l) := Lib.hid (by rw [List.take_of_length_le (by rw [HN.out]; omega)])
   clear hlt
   go_wp2_with (go_at_call 48; (with_reducible refine (bstr_any w.heap.size bb _ _ HD.out hsz).mono ?_); rintro e w1 ⟨rfl, hb⟩; have HB9 := Lib.hid (HB.out.trans hb); clear hb)
   go_ret
   exact ⟨by rw [HF.out]; rfl, HB9.out⟩
def fieldsL (nm vr : Bs) (z : Int) (dt ct : Bs) (rp : List Bs) (cf : List (Bs × Bs)) (pd aw : List Bs) : List Fld := addF (addF (addF (addF (addF (addF (addF (addF (addF ([]) ([80, 97, 99, 107, 97, 103, 101], nm)) ([83, 116, 97, 116, 117, 115], wordU z)) ([86, 101, 114, 115, 105, 111, 110], vr)) ([68, 101, 112, 101, 110, 100, 115], dt)) ([67, 111, 110, 102, 108, 105, 99, 116, 115], ct)) ([82, 101, 112, 108, 97, 99, 101, 115], Lib.join rp [32])) ([67, 111, 110, 102, 102, 105, 108, 101, 115], cfText cf)) ([84, 114, 105, 103, 103, 101, 114, 115, 45, 80, 101, 110, 100, 105, 110, 103], Lib.join pd [32])) ([84, 114, 105, 103, 103, 101, 114, 115, 45, 65, 119, 97, 105, 116, 101, 100], Lib.join aw [32])
theorem fieldsAll_any (X0 X1 : ByteArray) (z : Int) (a3 a4 a5 a6 a7 a8 : Option Addr) (n3 n4 n5 n6 n7 n8 m3 m4 m5 m6 m7 m8 : Nat) (dp : List Gv) (cn : List Rl) (rp : List Bs) (cf : List (Bs × Bs)) (pd aw : List Bs) (hx : SmallU ⟨X0.data.toList, X1.data.toList, z, dp, cn, rp, cf, pd, aw, .slice a3 n3 m3, .slice a4 n4 m4, .slice a5 n5 m5, .slice a6 n6 m6, .slice a7 n7 m7, .slice a8 n8 m8⟩) (w : World) (h : InU w ⟨X0.data.toList, X1.data.toList, z, dp, cn, rp, cf, pd, aw, .slice a3 n3 m3, .slice a4 n4 m4, .slice a5 n5 m5, .slice a6 n6 m6, .slice a7 n7 m7, .slice a8 n8 m8⟩) (hL : LaidU w) : Calls Tryz.prog 16 #[.agg #[.string X0, .string X1, .int .i64 z, .slice a3 n3 m3, .slice a4 n4 m4, .slice a5 n5 m5, .slice a6 n6 m6, .slice a7 n7 m7, .slice a8 n8 m8]] w fun e w' => ∃ v, e = .returned v ∧ OwnF w' w.heap.size v (fieldsL X0.data.toList X1.data.toList z (allE (fsts dp)).1 (listE cn).1 rp cf pd aw) ∧ Below w.heap.size w w' := by
 obtain ⟨h3, h4, h5, h6, h7, h8⟩ := h
 obtain ⟨k1, k2, k3, k4, k5, k6, k7, k8, k9, k10, k11, k12, k13, k14⟩ := hx
 dsimp only at h3 h4 h5 h6 h7 h8 k1 k2 k3 k4 k5 k6 k7 k8 k9 k10 k11 k12 k13 k14
 have C1 := fun W (hb : Below w.heap.size w W) => allBig_any (.slice a3 n3 m3) dp (by omega) k4 W (HoldGs.on h3 hb) (hL.on hb).q.v
 have C2 := fun W (hb : Below w.heap.size w W) => listBig_any (.slice a4 n4 m4) cn (by omega) k6 W (HoldV.on h4 hb) (hL.on hb).q.v
 have C3 := fun W (hb : Below w.heap.size w W) => word_any z W (hL.on hb)
 have J5 := fun W (hb : Below w.heap.size w W) => joinM_any ⟨#[32]⟩ (by decide) (.slice a5 n5 m5) rp (by omega) (fun p hp => Nat.le_trans (k8 p hp) (by decide)) W (h5.on hb)
 have C6 := fun W (hb : Below w.heap.size w W) => confsText_any (.slice a6 n6 m6) cf (by omega) k10 W (HoldV.on h6 hb)
 have J7 := fun W (hb : Below w.heap.size w W) => joinM_any ⟨#[32]⟩ (by decide) (.slice a7 n7 m7) pd (by omega) (fun p hp => Nat.le_trans (k12 p hp) (by decide)) W (h7.on hb)
 have J8 := fun W (hb : Below w.heap.size w W) => joinM_any ⟨#[32]⟩ (by decide) (.slice a8 n8 m8) aw (by omega) (fun p hp => Nat.le_trans (k14 p hp) (by decide)) W (h8.on hb)
 unfold TwoP at C1 C2
 rw [show (ByteArray.mk #[32]).data.toList = [32] from rfl] at J5 J7 J8
 obtain ⟨T1, hT1⟩ : ∃ T, bsT (wordU z) = T := ⟨_, rfl⟩
 obtain ⟨T3, hT3⟩ : ∃ T, bsT (allE (fsts dp)).1 = T := ⟨_, rfl⟩
 obtain ⟨T4, hT4⟩ : ∃ T, bsT (listE cn).1 = T := ⟨_, rfl⟩
 obtain ⟨T5, hT5⟩ : ∃ T, bsT (Lib.join rp [32]) = T := ⟨_, rfl⟩
 obtain ⟨T6, hT6⟩ : ∃ T, bsT (cfText cf) = T := ⟨_, rfl⟩
 obtain ⟨T7, hT7⟩ : ∃ T, bsT (Lib.join pd [32]) = T := ⟨_, rfl⟩
 obtain ⟨T8, hT8⟩ : ∃ T, bsT (Lib.join aw [32]) = T := ⟨_, rfl⟩
 generalize (allE (fsts dp)).2 = y3 at *
 generalize (listE cn).2 = y4 at *
 simp only [hT3] at C1
 simp only [hT4] at C2
 simp only [hT1] at C3
 simp only [hT5] at J5
 simp only [hT6] at C6
 simp only [hT7] at J7
 simp only [hT8] at J8
 have HT : Hid (wordU z = T1.data.toList ∧ (allE (fsts dp)).1 = T3.data.toList ∧ (listE cn).1 = T4.data.toList ∧ Lib.join rp [32] = T5.data.toList ∧ cfText cf = T6.data.toList ∧ Lib.join pd [32] = T7.data.toList ∧ Lib.join aw [32] = T8.data.toList) := Lib.hid ⟨by rw [← hT1], by rw [← hT3], by rw [← hT4], by rw [← hT5], by rw [← hT6], by rw [← hT7], by rw [← hT8]⟩
 clear hT1 hT3 hT4 hT5 hT6 hT7 hT8 h3 h4 h5 h6 h7 h8 k1 k2 k3 k4 k5 k6 k7 k8 k9 k10 k11 k12 k13 k14 hL
 have F0 := Fb.new w #[.string X0, .string X1, .int .i64 z, .slice a3 n3 m3, .slice a4 n4 m4, .slice a5 n5 m5, .slice a6 n6 m6, .slice a7 n7 m7, .slice a8 n8 m8]
 have p3 := cell_heap (i := 3) F0.hx rfl
 have HF0 := Lib.hid F0
 clear F0
 go_enter Tryz.func16, Tryz.ntmps16
 go_wp2_with (first
  | (go_at_call 39; (with_reducible refine (addT ⟨#[84, 114, 105, 103, 103, 101, 114, 115, 45, 65, 119, 97, 105, 116, 101, 100]⟩ T8 (by first | (simp; done) | omega) HFg.out).mono ?_); rintro e wh ⟨rfl, hf⟩; obtain ⟨sh, hsh⟩ : ∃ s, addF sf ([84, 114, 105, 103, 103, 101, 114, 115, 45, 65, 119, 97, 105, 116, 101, 100], T8.data.toList) = s := ⟨_, rfl⟩; have lh : sh.length ≤ 9 := (by rw [← hsh]; have := addF_len sf ([84, 114, 105, 103, 103, 101, 114, 115, 45, 65, 119, 97, 105, 116, 101, 100], T8.data.toList); first | omega | (simp at this; omega)); have HFh : Hid (Fb w wh #[.string X0, .string X1, .int .i64 z, .slice a3 n3 m3, .slice a4 n4 m4, .slice a5 n5 m5, .slice a6 n6 m6, .slice a7 n7 m7, .slice a8 n8 m8] sh) := Lib.hid (by rw [← hsh]; exact hf); have HSh := Lib.hid hsh; clear hsh hf; obtain ⟨fv, hfv, hfo⟩ := HFh.out.ho; have HFO := Lib.hid hfo; have pv := cell_heap (i := 0) hfv rfl; clear hfv hfo)
  | (go_at_call 43; (with_reducible refine (J8 _ HFf.out.b).mono ?_); rintro e wg ⟨rfl, hb⟩; have HFg := Lib.hid (HFf.out.on hb); clear hb)
  | (go_at_call 39; (with_reducible refine (addT ⟨#[84, 114, 105, 103, 103, 101, 114, 115, 45, 80, 101, 110, 100, 105, 110, 103]⟩ T7 (by first | (simp; done) | omega) HFd.out).mono ?_); rintro e wf ⟨rfl, hf⟩; obtain ⟨sf, hsf⟩ : ∃ s, addF sc ([84, 114, 105, 103, 103, 101, 114, 115, 45, 80, 101, 110, 100, 105, 110, 103], T7.data.toList) = s := ⟨_, rfl⟩; have lf : sf.length ≤ 8 := (by rw [← hsf]; have := addF_len sc ([84, 114, 105, 103, 103, 101, 114, 115, 45, 80, 101, 110, 100, 105, 110, 103], T7.data.toList); first | omega | (simp at this; omega)); have HFf : Hid (Fb w wf #[.string X0, .string X1, .int .i64 z, .slice a3 n3 m3, .slice a4 n4 m4, .slice a5 n5 m5, .slice a6 n6 m6, .slice a7 n7 m7, .slice a8 n8 m8] sf) := Lib.hid (by rw [← hsf]; exact hf); have HSf := Lib.hid hsf; clear hsf hf; have p8_f := cell_heap (i := 8) HFf.out.hx rfl)
  | (go_at_call 43; (with_reducible refine (J7 _ HFc.out.b).mono ?_); rintro e wd ⟨rfl, hb⟩; have HFd := Lib.hid (HFc.out.on hb); clear hb)
  | (go_at_call 39; (with_reducible refine (addT ⟨#[67, 111, 110, 102, 102, 105, 108, 101, 115]⟩ T6 (by first | (simp; done) | omega) HFb.out).mono ?_); rintro e wc ⟨rfl, hf⟩; obtain ⟨sc, hsc⟩ : ∃ s, addF sa ([67, 111, 110, 102, 102, 105, 108, 101, 115], T6.data.toList) = s := ⟨_, rfl⟩; have lc : sc.length ≤ 7 := (by rw [← hsc]; have := addF_len sa ([67, 111, 110, 102, 102, 105, 108, 101, 115], T6.data.toList); first | omega | (simp at this; omega)); have HFc : Hid (Fb w wc #[.string X0, .string X1, .int .i64 z, .slice a3 n3 m3, .slice a4 n4 m4, .slice a5 n5 m5, .slice a6 n6 m6, .slice a7 n7 m7, .slice a8 n8 m8] sc) := Lib.hid (by rw [← hsc]; exact hf); have HSc := Lib.hid hsc; clear hsc hf; have p7_c := cell_heap (i := 7) HFc.out.hx rfl)
  | (go_at_call 44; (with_reducible refine (C6 _ HFa.out.b).mono ?_); rintro e wb ⟨rfl, hb⟩; have HFb := Lib.hid (HFa.out.on hb); clear hb)
  | (go_at_call 39; (with_reducible refine (addT ⟨#[82, 101, 112, 108, 97, 99, 101, 115]⟩ T5 (by first | (simp; done) | omega) HF9.out).mono ?_); rintro e wa ⟨rfl, hf⟩; obtain ⟨sa, hsa⟩ : ∃ s, addF s8 ([82, 101, 112, 108, 97, 99, 101, 115], T5.data.toList) = s := ⟨_, rfl⟩; have la : sa.length ≤ 6 := (by rw [← hsa]; have := addF_len s8 ([82, 101, 112, 108, 97, 99, 101, 115], T5.data.toList); first | omega | (simp at this; omega)); have HFa : Hid (Fb w wa #[.string X0, .string X1, .int .i64 z, .slice a3 n3 m3, .slice a4 n4 m4, .slice a5 n5 m5, .slice a6 n6 m6, .slice a7 n7 m7, .slice a8 n8 m8] sa) := Lib.hid (by rw [← hsa]; exact hf); have HSa := Lib.hid hsa; clear hsa hf; have p6_a := cell_heap (i := 6) HFa.out.hx rfl)
  | (go_at_call 43; (with_reducible refine (J5 _ HF8.out.b).mono ?_); rintro e w9 ⟨rfl, hb⟩; have HF9 := Lib.hid (HF8.out.on hb); clear hb)
  | (go_at_call 39; (with_reducible refine (addT ⟨#[67, 111, 110, 102, 108, 105, 99, 116, 115]⟩ T4 (by first | (simp; done) | omega) HF7.out).mono ?_); rintro e w8 ⟨rfl, hf⟩; obtain ⟨s8, hs8⟩ : ∃ s, addF s7 ([67, 111, 110, 102, 108, 105, 99, 116, 115], T4.data.toList) = s := ⟨_, rfl⟩; have l8 : s8.length ≤ 5 := (by rw [← hs8]; have := addF_len s7 ([67, 111, 110, 102, 108, 105, 99, 116, 115], T4.data.toList); first | omega | (simp at this; omega)); have HF8 : Hid (Fb w w8 #[.string X0, .string X1, .int .i64 z, .slice a3 n3 m3, .slice a4 n4 m4, .slice a5 n5 m5, .slice a6 n6 m6, .slice a7 n7 m7, .slice a8 n8 m8] s8) := Lib.hid (by rw [← hs8]; exact hf); have HS8 := Lib.hid hs8; clear hs8 hf; have p5_8 := cell_heap (i := 5) HF8.out.hx rfl)
  | (go_at_call 39; (with_reducible refine (addT ⟨#[68, 101, 112, 101, 110, 100, 115]⟩ T3 (by first | (simp; done) | omega) HF6.out).mono ?_); rintro e w7 ⟨rfl, hf⟩; obtain ⟨s7, hs7⟩ : ∃ s, addF s6 ([68, 101, 112, 101, 110, 100, 115], T3.data.toList) = s := ⟨_, rfl⟩; have l7 : s7.length ≤ 4 := (by rw [← hs7]; have := addF_len s6 ([68, 101, 112, 101, 110, 100, 115], T3.data.toList); first | omega | (simp at this; omega)); have HF7 : Hid (Fb w w7 #[.string X0, .string X1, .int .i64 z, .slice a3 n3 m3, .slice a4 n4 m4, .slice a5 n5 m5, .slice a6 n6 m6, .slice a7 n7 m7, .slice a8 n8 m8] s7) := Lib.hid (by rw [← hs7]; exact hf); have HS7 := Lib.hid hs7; clear hs7 hf)
  | (go_at_call 39; (with_reducible refine (addT ⟨#[86, 101, 114, 115, 105, 111, 110]⟩ X1 (by first | (simp; done) | omega) HF5.out).mono ?_); rintro e w6 ⟨rfl, hf⟩; obtain ⟨s6, hs6⟩ : ∃ s, addF s5 ([86, 101, 114, 115, 105, 111, 110], X1.data.toList) = s := ⟨_, rfl⟩; have l6 : s6.length ≤ 3 := (by rw [← hs6]; have := addF_len s5 ([86, 101, 114, 115, 105, 111, 110], X1.data.toList); first | omega | (simp at this; omega)); have HF6 : Hid (Fb w w6 #[.string X0, .string X1, .int .i64 z, .slice a3 n3 m3, .slice a4 n4 m4, .slice a5 n5 m5, .slice a6 n6 m6, .slice a7 n7 m7, .slice a8 n8 m8] s6) := Lib.hid (by rw [← hs6]; exact hf); have HS6 := Lib.hid hs6; clear hs6 hf)
  | (go_at_call 39; (with_reducible refine (addT ⟨#[83, 116, 97, 116, 117, 115]⟩ T1 (by first | (simp; done) | omega) HF4.out).mono ?_); rintro e w5 ⟨rfl, hf⟩; obtain ⟨s5, hs5⟩ : ∃ s, addF s3 ([83, 116, 97, 116, 117, 115], T1.data.toList) = s := ⟨_, rfl⟩; have l5 : s5.length ≤ 2 := (by rw [← hs5]; have := addF_len s3 ([83, 116, 97, 116, 117, 115], T1.data.toList); first | omega | (simp at this; omega)); have HF5 : Hid (Fb w w5 #[.string X0, .string X1, .int .i64 z, .slice a3 n3 m3, .slice a4 n4 m4, .slice a5 n5 m5, .slice a6 n6 m6, .slice a7 n7 m7, .slice a8 n8 m8] s5) := Lib.hid (by rw [← hs5]; exact hf); have HS5 := Lib.hid hs5; clear hs5 hf; have p1_5 := cell_heap (i := 1) HF5.out.hx rfl)
  | (go_at_call 42; (with_reducible refine (C3 _ HF3.out.b).mono ?_); rintro e w4 ⟨rfl, hb⟩; have HF4 := Lib.hid (HF3.out.on hb); clear hb)
  | (go_at_call 39; (with_reducible refine (addT ⟨#[80, 97, 99, 107, 97, 103, 101]⟩ X0 (by first | (simp; done) | omega) HF2.out).mono ?_); rintro e w3 ⟨rfl, hf⟩; obtain ⟨s3, hs3⟩ : ∃ s, addF ([] : List Fld) ([80, 97, 99, 107, 97, 103, 101], X0.data.toList) = s := ⟨_, rfl⟩; have l3 : s3.length ≤ 1 := (by rw [← hs3]; have := addF_len ([] : List Fld) ([80, 97, 99, 107, 97, 103, 101], X0.data.toList); first | omega | (simp at this; omega)); have HF3 : Hid (Fb w w3 #[.string X0, .string X1, .int .i64 z, .slice a3 n3 m3, .slice a4 n4 m4, .slice a5 n5 m5, .slice a6 n6 m6, .slice a7 n7 m7, .slice a8 n8 m8] s3) := Lib.hid (by rw [← hs3]; exact hf); have HS3 := Lib.hid hs3; clear hs3 hf; have p2_3 := cell_heap (i := 2) HF3.out.hx rfl)
  | (go_at_call 41; (with_reducible refine (C2 _ HF1.out.b).mono ?_); rintro e w2 ⟨rfl, hb⟩; have HF2 := Lib.hid (HF1.out.on hb); have p0_2 := cell_heap (i := 0) HF2.out.hx rfl; clear hb)
  | (go_at_call 40; (with_reducible refine (C1 _ HF0.out.b).mono ?_); rintro e w1 ⟨rfl, hb⟩; have HF1 := Lib.hid (HF0.out.on hb); have p4_1 := cell_heap (i := 4) HF1.out.hx rfl; clear hb))
 obtain ⟨a, c, e, -⟩ := HFO.out.shape
 subst e
 go_ret
 refine ⟨_, rfl, ?_, HFh.out.b⟩
 have hfin : fieldsL X0.data.toList X1.data.toList z (allE (fsts dp)).1 (listE cn).1 rp cf pd aw = sh := by
  unfold fieldsL
  obtain ⟨e1, e3, e4, e5, e6, e7, e8⟩ := HT.out
  rw [e1, e3, e4, e5, e6, e7, e8, HS3.out, HS5.out, HS6.out, HS7.out, HS8.out, HSa.out, HSc.out, HSf.out, HSh.out]
 rw [hfin]
 exact OwnF.mono HFO.out (by omega)
end
section
open Go.RowKit Go.Shelf
abbrev Fv := List Fld × Value
def OwnFs (w : World) (B : Nat) (v : Value) (L : List Fv) : Prop := OwnV 51 1 w B v (L.map fun x => [x.2]) ∧ ∀ x ∈ L, OwnF w B x.2 x.1
theorem OwnFs.nil (w : World) (B : Nat) : OwnFs w B (.slice none 0 0) [] := ⟨OwnV.nil _ _ _ _, fun x hx => by simp at hx⟩
theorem OwnFs.on {w w' : World} {B : Nat} {v : Value} {L : List Fv} (h : OwnFs w B v L) (hb : Below w.heap.size w w') : OwnFs w' B v L := ⟨OwnV.on h.1 hb, fun x hx => OwnF.onU (h.2 x hx) hb⟩
theorem OwnFs.app {w w' : World} {o : Obj} {B : Nat} {v v' sv : Value} {L : List Fv} {x : List Fld} (h : OwnFs w B v L) (hx : OwnF w B sv x) (hown : w'.ownsRow B 51 1 v' (L.length + 1) ((L.map fun x => [x.2]).flatten ++ [sv])) (hg : (w.alloc o).grownBy w' v.ownBlock) : OwnFs w' B v' (L ++ [(x, sv)]) := by
 have key : ∀ (s : Value) (y : List Fld), OwnF w B s y → OwnF w' B s y := fun s y hy => World.ownsRow.kept (World.ownsRow.alloc hy o) hg (skinds_apart hy h.1.2 (by decide))
 refine ⟨?_, fun y hy => ?_⟩
 ·
  rw [List.map_append]
  exact OwnV.app h.1.1 rfl (by rw [List.length_map]; exact hown)
 ·
  rcases List.mem_append.1 hy with e | e
  ·
   exact key _ _ (h.2 y e)
  ·
   rw [List.mem_singleton.1 e]; exact key _ _ hx
theorem OwnFs.holds {w : World} {B : Nat} {v : Value} {L : List Fv} (h : OwnFs w B v L) : HoldRR 2 w v (L.map fun x => x.1.map rowF) := by
 obtain ⟨a, c, b, o, e, hc, ha, hcell⟩ := OwnV.holds h.1
 rw [List.length_map] at e hc ha
 refine ⟨a, c, b, o, by rw [List.length_map]; exact e, by rw [List.length_map]; exact hc, by rw [List.length_map]; exact ha, fun j rs hj => ?_⟩
 rw [List.getElem?_map] at hj
 obtain ⟨x, hx, rfl⟩ := Option.map_eq_some_iff.1 hj
 refine ⟨x.2, ?_, (h.2 x (List.mem_of_getElem? hx)).holds⟩
 have := hcell j [x.2] (by rw [List.getElem?_map, hx]; rfl) 0 _ (by omega) rfl
 simpa using this
def fieldsU (x : Uv) : List Fld := fieldsL x.nm x.vr x.st (allE (fsts x.dp)).1 (listE x.cn).1 x.rp x.cf x.pd x.aw
noncomputable def printUE (l : List Uv) : Bs × Int := if kchkK rightU (fun x => x.nm) l = 0 then (if (printE (l.map fieldsU)).2 = 0 then ((printE (l.map fieldsU)).1, 0) else ([], 1)) else ([], kchkK rightU (fun x => x.nm) l)
theorem fieldsU_any (x : Uv) (hx : SmallU x) (w : World) (h : InU w x) (hL : LaidU w) : Calls Tryz.prog 16 #[agZU x] w fun e w' => ∃ v, e = .returned v ∧ OwnF w' w.heap.size v (fieldsU x) ∧ Below w.heap.size w w' := by
 obtain ⟨nm, vr, z, dp, cn, rp, cf, pd, aw, dv, cv, rv, fv, pv, av⟩ := x
 have hh := h
 obtain ⟨h3, h4, h5, h6, h7, h8⟩ := hh
 dsimp only at h3 h4 h5 h6 h7 h8
 obtain ⟨a3, m3, -, -, rfl, -⟩ := h3.parts
 obtain ⟨a4, m4, -, -, rfl, -⟩ := HoldQ.parts h4
 obtain ⟨a5, m5, -, -, rfl, -⟩ := h5
 obtain ⟨a6, m6, -, -, rfl, -⟩ := HoldW2.parts h6
 obtain ⟨a7, m7, -, -, rfl, -⟩ := h7
 obtain ⟨a8, m8, -, -, rfl, -⟩ := h8
 exact fieldsAll_any (bsT nm) (bsT vr) z a3 a4 a5 a6 a7 a8 dp.length cn.length rp.length cf.length pd.length aw.length m3 m4 m5 m6 m7 m8 dp cn rp cf pd aw hx w h hL
theorem printU_any (v : Value) (l : List Uv) (hl : l.length ≤ 90000) (hs : ∀ x ∈ l, SmallU x) (hsm : kchkK rightU (fun x => x.nm) l = 0 → Small (l.map fieldsU) 90000) (w : World) (h : HoldU w v l) (hL : LaidU w) (hE : LaidE w) :
  Calls Tryz.prog 7 #[v] w fun e w' => e = .returned (.tuple #[.string (bsT (printUE l).1), .int .i64 (printUE l).2]) ∧ Below w.heap.size w w' := by
 have CK := checkU_any v l hl hs w h hL hE
 have FL := fun x (hx : x ∈ l) W (hb : Below w.heap.size w W) => fieldsU_any x (hs x hx) W ((h.2 x hx).on hb) (hL.on hb)
 by_cases hz : kchkK rightU (fun x => x.nm) l = 0
 case neg =>
  have HP : Hid (printUE l = ([], kchkK rightU (fun x => x.nm) l)) := Lib.hid (by unfold printUE; rw [if_neg hz])
  rw [HP.out]
  generalize kchkK rightU (fun x => x.nm) l = z at *
  have hz1 : (z != 0) = true := by rw [bne_iff_ne]; exact hz
  obtain ⟨a, c, b, o, rfl, -⟩ := h.parts
  clear hz HP FL hs hsm hL hE h
  go_enter Tryz.func7, Tryz.ntmps7
  go_wp2_with (go_at_call 9; (with_reducible refine CK.mono ?_); rintro e w1 ⟨rfl, hb⟩; have HB1 := Lib.hid hb; clear hb)
  go_ret2
  exact ⟨rfl, HB1.out⟩
 rw [hz] at CK
 have PR := fun u W (hh : HoldRR 2 W u ((l.map fieldsU).map (·.map rowF))) => print_any u (l.map fieldsU) (hsm hz) W hh
 unfold PrintPost at PR
 have HPE : Hid (printUE l = (if (printE (l.map fieldsU)).2 = 0 then ((printE (l.map fieldsU)).1, 0) else ([], 1))) := Lib.hid (by unfold printUE; rw [if_pos hz])
 rw [HPE.out]
 generalize (printE (l.map fieldsU)).2 = pz at *
 obtain ⟨PT, hPT⟩ : ∃ q, bsT (printE (l.map fieldsU)).1 = q := ⟨_, rfl⟩
 have HPT := Lib.hid hPT
 have HRES : Hid (∀ w', Below w.heap.size w w' → (pz = 0 → Ending.returned (.tuple #[.string PT, .int .i64 0]) = Ending.returned (.tuple #[.string (bsT (if pz = 0 then ((printE (l.map fieldsU)).1, (0 : Int)) else ([], 1)).1), .int .i64 (if pz = 0 then ((printE (l.map fieldsU)).1, (0 : Int)) else ([], 1)).2])) ∧ (pz ≠ 0 → Ending.returned (.tuple #[.string ⟨#[]⟩, .int .i64 1]) = Ending.returned (.tuple #[.string (bsT (if pz = 0 then ((printE (l.map fieldsU)).1, (0 : Int)) else ([], 1)).1), .int .i64 (if pz = 0 then ((printE (l.map fieldsU)).1, (0 : Int)) else ([], 1)).2]))) := Lib.hid (fun w' _ => ⟨fun g => by rw [if_pos g, ← HPT.out], fun g => by rw [if_neg g]⟩)
 obtain ⟨RE, hRE⟩ : ∃ q, Ending.returned (.tuple #[.string (bsT (if pz = 0 then ((printE (l.map fieldsU)).1, (0 : Int)) else ([], 1)).1), .int .i64 (if pz = 0 then ((printE (l.map fieldsU)).1, (0 : Int)) else ([], 1)).2]) = q := ⟨_, rfl⟩
 rw [hRE] at HRES ⊢
 simp only [hPT] at PR
 have HIN := Lib.hid h.2
 obtain ⟨a, c, b, o, rfl, hc, ha, hcell⟩ := h.parts
 obtain ⟨i0, hi, hz0, hz1, hz2'⟩ := info_parts infoSF
 have HC := Lib.hid hcell
 have HFL := Lib.hid FL
 obtain ⟨n, hN⟩ : ∃ n, l.length = n := ⟨_, rfl⟩
 rw [hN] at CK hc ha hl ⊢
 have HN := Lib.hid hN
 clear hcell hN h hs hsm hL hE hz HPE HPT hPT hRE FL
 go_enter Tryz.func7, Tryz.ntmps7
 go_wp2_with (go_at_call 9; (with_reducible refine CK.mono ?_); rintro e w1 ⟨rfl, hb⟩; have HB1 := Lib.hid hb; clear hb)
 clear CK
 go_loopw [5, 17] (fun u i wr => ∃ (k : Nat) (L : List Fv), k ≤ n ∧ i = .int .i64 k ∧ L.length = k ∧ Hid (L.map (·.1) = (l.take k).map fieldsU) ∧ Hid (OwnFs wr w.heap.size u L) ∧ Hid (Below w.heap.size w wr)) (fun _ i _ => n - (intOf i).toNat)
 case atStart => exact ⟨0, [], by omega, rfl, rfl, Lib.hid rfl, Lib.hid (OwnFs.nil _ _), HB1⟩
 case round =>
  obtain ⟨k, L, hk, rfl, hLk, HF, HO, HB⟩ := hrel
  have hsz := HB.out.size
  by_cases hlt : k < n
  ·
   obtain ⟨rfl, hbw⟩ := ha (by omega)
   obtain ⟨x, hx⟩ : ∃ x, l[k]? = some x := ⟨_, List.getElem?_eq_getElem (by rw [HN.out]; exact hlt)⟩
   have hm := List.mem_of_getElem? hx
   obtain ⟨x0, x1, x2, x3, x4, x5, x6, x7, x8⟩ := HC.out k _ hx
   rw [← HB.out.cell (p := ⟨b, o + k * 9, none⟩) hbw] at x0
   rw [← HB.out.cell (p := ⟨b, o + k * 9 + 1, none⟩) hbw] at x1
   rw [← HB.out.cell (p := ⟨b, o + k * 9 + 2, none⟩) hbw] at x2
   rw [← HB.out.cell (p := ⟨b, o + k * 9 + 3, none⟩) hbw] at x3
   rw [← HB.out.cell (p := ⟨b, o + k * 9 + 4, none⟩) hbw] at x4
   rw [← HB.out.cell (p := ⟨b, o + k * 9 + 5, none⟩) hbw] at x5
   rw [← HB.out.cell (p := ⟨b, o + k * 9 + 6, none⟩) hbw] at x6
   rw [← HB.out.cell (p := ⟨b, o + k * 9 + 7, none⟩) hbw] at x7
   rw [← HB.out.cell (p := ⟨b, o + k * 9 + 8, none⟩) hbw] at x8
   have B2 := HB.out.alloc hsz (.cells #[.string (⟨x.nm.toArray⟩ : ByteArray), .string (⟨x.vr.toArray⟩ : ByteArray), .int .i64 x.st, x.dv, x.cv, x.rv, x.fv, x.pv, x.av] 43)
   have FX := HFL.out x hm _ B2
   obtain ⟨a3, n3, m3, q3⟩ := formU3 (HIN.out x hm)
   obtain ⟨a4, n4, m4, q4⟩ := formU4 (HIN.out x hm)
   obtain ⟨a5, n5, m5, q5⟩ := formU5 (HIN.out x hm)
   obtain ⟨a6, n6, m6, q6⟩ := formU6 (HIN.out x hm)
   obtain ⟨a7, n7, m7, q7⟩ := formU7 (HIN.out x hm)
   obtain ⟨a8, n8, m8, q8⟩ := formU8 (HIN.out x hm)
   have HF2 : Hid (∀ sv : Value, (L ++ [(fieldsU x, sv)]).map (·.1) = (l.take (k + 1)).map fieldsU) := Lib.hid (fun sv => by
    rw [List.take_add_one, hx, List.map_append, List.map_append, HF.out]; rfl)
   unfold agZU at FX
   simp only [q3, q4, q5, q6, q7, q8] at FX x3 x4 x5 x6 x7 x8 B2
   generalize (⟨x.nm.toArray⟩ : ByteArray) = X0 at *
   generalize (⟨x.vr.toArray⟩ : ByteArray) = X1 at *
   generalize x.st = st at *
   have HB2 := Lib.hid B2
   have b2 := (Below.refl wr.heap.size wr).alloc (Nat.le_refl _) (.cells #[.string X0, .string X1, .int .i64 st, .slice a3 n3 m3, .slice a4 n4 m4, .slice a5 n5 m5, .slice a6 n6 m6, .slice a7 n7 m7, .slice a8 n8 m8] 43)
   have HO2 := Lib.hid (HO.out.on b2)
   obtain ⟨y0, y1, y2, y3, y4, y5, y6, y7, y8⟩ := boxV9 wr (.string X0) (.string X1) (.int .i64 st) (.slice a3 n3 m3) (.slice a4 n4 m4) (.slice a5 n5 m5) (.slice a6 n6 m6) (.slice a7 n7 m7) (.slice a8 n8 m8) 43
   clear hx hm q3 q4 q5 q6 q7 q8 B2 b2 HF HO
   go_wp2_with (first
    | (go_at_call 16; (with_reducible refine FX.mono ?_); rintro e w3 ⟨v3, rfl, ho, hb⟩; have hfm := ho.shape; have HO3 := Lib.hid (OwnF.mono ho HB2.out.size); have HB3 := Lib.hid (HB2.out.trans (hb.mono HB2.out.size)); have HOS := Lib.hid (HO2.out.on hb); clear ho hb; obtain ⟨fa, fc, hfv, -⟩ := hfm; subst hfv)
    | (at_builtin; refine wpList_append_own _ rfl _ _ 50 rfl w.heap.size 51 i0 (.slice none 0 0) 1 24 Tryz.underlying50 hi hz0 hz1 hz2' rfl (by decide) _ _ _ rfl (World.ownsRow.alloc HOS.out.1.2 _) ⟨w3.heap.size, 0, none⟩ 1 1 [.slice fa _ fc] rfl rfl (news1 _ _ rfl) (one1 _ _ _) ?c3 ?c4 ?c5 ?_))
   case c3 => unfold maxLen; simp; omega
   case c4 => simp; omega
   case c5 => have := HB3.out.size; simp; omega
   intro v' w4 hown' hgrow _
   have HO4 : Hid (OwnFs w4 w.heap.size v' (L ++ [(fieldsU x, .slice fa (fieldsU x).length fc)])) := Lib.hid (OwnFs.app HOS.out HO3.out (by rw [hLk]; simpa using hown') hgrow)
   have HB4 : Hid (Below w.heap.size w w4) := Lib.hid (OwnV.below HB3.out HOS.out.1 hgrow (Nat.le_refl _) HB3.out.size)
   have HF3 := Lib.hid (HF2.out (.slice fa (fieldsU x).length fc))
   have HL3 : Hid ((L ++ [(fieldsU x, Value.slice fa (fieldsU x).length fc)]).length = k + 1) := Lib.hid (by rw [List.length_append, hLk]; rfl)
   clear hown' hgrow
   go_wp2
   go_roundw
   case rel => exact ⟨k + 1, _, by omega, by go_num, HL3.out, HF3, HO4, HB4⟩
   case measure => simp [intOf]; omega
  ·
   obtain rfl : k = n := by omega
   have hfe : HoldRR 2 wr u5 ((l.map fieldsU).map (·.map rowF)) := by
    have := HO.out.holds
    rw [show (L.map fun x => x.1.map rowF) = (L.map (·.1)).map (·.map rowF) by rw [List.map_map]; rfl, HF.out, List.take_of_length_le (by rw [HN.out]; omega)] at this
    exact this
   have PP := PR _ wr hfe
   obtain ⟨ua, uc, -, -, hu, -⟩ := HO.out.holds
   rw [List.length_map, hLk] at hu
   subst hu
   clear hlt hfe PR HF HO
   by_cases hp : pz = 0
   ·
    have G := Lib.hid ((HRES.out w (Below.refl _ _)).1 hp)
    subst hp
    clear HRES
    go_wp2_with (go_at_call 17; (with_reducible refine PP.mono ?_); rintro e w5 ⟨rfl, hb⟩; have HB5 := Lib.hid (HB.out.trans (hb.mono HB.out.size)); clear hb)
    go_ret2
    exact ⟨G.out, HB5.out⟩
   ·
    have G := Lib.hid ((HRES.out w (Below.refl _ _)).2 hp)
    have hp1 : (pz != 0) = true := by rw [bne_iff_ne]; exact hp
    clear HRES hp
    go_wp2_with (go_at_call 17; (with_reducible refine PP.mono ?_); rintro e w5 ⟨rfl, hb⟩; have HB5 := Lib.hid (HB.out.trans (hb.mono HB.out.size)); clear hb)
    go_ret2
    exact ⟨G.out, HB5.out⟩
end
end Go.Proofs.YtkbkaeefdhkgdaaGreatDoor
