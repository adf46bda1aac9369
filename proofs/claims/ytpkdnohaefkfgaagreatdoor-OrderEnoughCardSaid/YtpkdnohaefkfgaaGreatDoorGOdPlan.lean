/-
  The plan: what planned returns; nothing old turns. Condition: LaidV.
-/
import Derived.Test.YtpkdnohaefkfgaaGreatDoorGOdState
namespace Go.Proofs.YtpkdnohaefkfgaaGreatDoor
open Go.RowKit Go.Shelf Go.Maps
theorem newsT1 {w : World} {b : Nat} (X : ByteArray) (t : TypeId) (hb : b = w.heap.size) : ∀ j u, [Value.string X][j]? = some u → (w.alloc (.cells #[.string X] t)).cell? ((⟨b, 0, none⟩ : Addr).add j) = some u := by
  intro j u hj
  subst hb
  match j, hj with
  | 0, hj => cases hj; simp [Addr.add, World.cell?_alloc_new]
  | j + 1, hj => simp at hj
def lenV (v : Value) : Nat := match v with
  | .slice _ n _ => n
  | _ => 0
theorem lenT {w : World} {b : Nat} {v : Value} {ls : List Bs} (h : OwnT w b v ls) : lenV v = ls.length := by
  obtain ⟨a, c, -, -, e, -⟩ := h.holds
  rw [e]; rfl
theorem small_nm {x : Uv} (h : rightU x = true) : x.nm.length ≤ 60 ∧ x.vr.length ≤ 80 := by
  unfold rightU at h
  simp only [Bool.and_eq_true, decide_eq_true_eq] at h
  obtain ⟨⟨⟨⟨hn, hv⟩, -⟩, -⟩, -⟩ := h
  constructor
  · unfold nameB at hn
    simp only [Bool.and_eq_true, decide_eq_true_eq] at hn
    omega
  · by_cases h80 : 80 < x.vr.length
    · unfold parseE at hv
      rw [if_pos h80] at hv
      simp at hv
    · omega
theorem plan_mem {l xs : List Uv} (h : PlanTo l xs) : ∀ x ∈ xs, x ∈ l := fun x hx => by
  obtain ⟨i, hi, rfl⟩ := List.mem_iff_getElem.1 hx
  exact (next_some (h i _ (List.getElem?_eq_getElem hi))).1
theorem behind_small {l xs : List Uv} (hr : ∀ x ∈ l, rightU x = true) (h : PlanTo l xs) : SmallQ (behindU l xs) := fun r hr' => by
  have : ∃ x ∈ l, r = relU x := by
    rcases List.mem_append.1 hr' with g | g
    · unfold thereU at g
      obtain ⟨x, hx, rfl⟩ := List.mem_map.1 g
      exact ⟨x, (List.mem_filter.1 hx).1, rfl⟩
    · obtain ⟨x, hx, rfl⟩ := List.mem_map.1 g
      exact ⟨x, plan_mem h x hx, rfl⟩
  obtain ⟨x, hx, rfl⟩ := this
  obtain ⟨h1, h2⟩ := small_nm (hr x hx)
  exact ⟨by show x.nm.length ≤ _; omega, by simp, by show x.vr.length ≤ _; omega⟩
theorem behind_len {l xs : List Uv} (h : PlanTo l xs) : (behindU l xs).length ≤ 2 * l.length := by
  have h1 := there_len l
  have h2 := h.len
  rw [List.length_append, List.length_map]
  omega
theorem behind_snoc (l xs : List Uv) (x : Uv) : behindU l (xs ++ [x]) = behindU l xs ++ [relU x] := by
  unfold behindU; rw [List.map_append, List.append_assoc]; rfl
theorem nms_snoc (xs : List Uv) (x : Uv) : nmsU (xs ++ [x]) = nmsU xs ++ [x.nm] := by unfold nmsU; rw [List.map_append]; rfl
theorem next_forms (v : Value) (l : List Uv) (hl : l.length ≤ 500) (hr : ∀ x ∈ l, rightU x = true) (s : List Bs) (hss : ∀ y ∈ s, y.length ≤ 4000) (B q : Nat) (g : Nat) (t : List Rl) (tv : Value) (ht : t.length ≤ 90000) (hst : SmallQ t) (w : World) (h : HoldU w v l) (hM : w.ownsMap Tryz.prog 9 unitElem B q (setS s)) (hc : w.cell? ⟨g, 0, none⟩ = some tv) (h2 : HoldQ w tv t) (hL : LaidV w) :
    Calls Tryz.prog 32 #[v, .map (some B), enoughF g] w fun e w' => (∃ (m : Bool) (X0 X1 : ByteArray) (z : Int) (a3 a4 a5 a6 a7 a8 : Option Addr) (n3 n4 n5 n6 n7 n8 m3 m4 m5 m6 m7 m8 : Nat), e = .returned (.tuple #[.agg #[.string X0, .string X1, .int .i64 z, .slice a3 n3 m3, .slice a4 n4 m4, .slice a5 n5 m5, .slice a6 n6 m6, .slice a7 n7 m7, .slice a8 n8 m8], .bool m]) ∧ (m = true → ∃ x ∈ l, nextU l s t = some x ∧ X0.data.toList = x.nm ∧ X1.data.toList = x.vr) ∧ (m = false → nextU l s t = none)) ∧ Below w.heap.size w w' := by
  refine (next_any v l hl hr (fun x hx => by have := (small_nm (hr x hx)).1; omega) s hss B q g t tv ht hst w h hM hc h2 hL).mono fun e w' ⟨hp, hb⟩ => ⟨?_, hb⟩
  rcases hp with ⟨x, hx, hm, he⟩ | ⟨hd, he⟩
  · obtain ⟨a3, n3, m3, q3⟩ := formU3 (h.2 x hx)
    obtain ⟨a4, n4, m4, q4⟩ := formU4 (h.2 x hx)
    obtain ⟨a5, n5, m5, q5⟩ := formU5 (h.2 x hx)
    obtain ⟨a6, n6, m6, q6⟩ := formU6 (h.2 x hx)
    obtain ⟨a7, n7, m7, q7⟩ := formU7 (h.2 x hx)
    obtain ⟨a8, n8, m8, q8⟩ := formU8 (h.2 x hx)
    refine ⟨true, (⟨x.nm.toArray⟩ : ByteArray), (⟨x.vr.toArray⟩ : ByteArray), x.st, a3, a4, a5, a6, a7, a8, n3, n4, n5, n6, n7, n8, m3, m4, m5, m6, m7, m8, ?_, fun _ => ⟨x, hx, hm, by simp, by simp⟩, fun e => (by cases e)⟩
    rw [he]
    unfold agZU
    rw [q3, q4, q5, q6, q7, q8]
  · exact ⟨false, ⟨#[]⟩, ⟨#[]⟩, 0, none, none, none, none, none, none, 0, 0, 0, 0, 0, 0, 0, 0, 0, 0, 0, 0, he, fun e => (by cases e), fun _ => hd⟩
def PlannedPost (l : List Uv) (w : World) (e : Ending) (w' : World) : Prop := ∃ xs nv B q, e = .returned (.tuple #[nv, .map (some B)]) ∧ PlanOf l xs ∧ OwnT w' w.heap.size nv (nmsU xs) ∧ w'.ownsMap Tryz.prog 9 unitElem B q (setS (nmsU xs)) ∧ w.heap.size ≤ B ∧ Below w.heap.size w w'
set_option maxRecDepth 100000 in
set_option maxHeartbeats 16000000 in
theorem planned_any (v : Value) (l : List Uv) (hl : l.length ≤ 64) (hr : ∀ x ∈ l, rightU x = true) (w : World) (h : HoldU w v l) (hL : LaidV w) : Calls Tryz.prog 19 #[v] w (PlannedPost l w) := by
  have TH := there_any v l (by omega) w h
  have NX := Lib.hid (fun (xs : List Uv) (hp : PlanTo l xs) (g B q : Nat) (tv : Value) W (hb : Below w.heap.size w W) (hM : W.ownsMap Tryz.prog 9 unitElem B q (setS (nmsU xs))) (hc : W.cell? ⟨g, 0, none⟩ = some tv) (h2 : HoldQ W tv (behindU l xs)) => next_forms v l (by omega) hr (nmsU xs) (fun y hy => by
    obtain ⟨x, hx, rfl⟩ := List.mem_map.1 hy
    have := (small_nm (hr x (plan_mem hp x hx))).1
    omega) B q g (behindU l xs) tv (by have := behind_len hp; omega) (behind_small hr hp) W (h.on hb) hM hc h2 (hL.on hb))
  have HR := Lib.hid hr
  have HLL := Lib.hid hl
  obtain ⟨va, vn, vc, hv⟩ : ∃ a n c, v = .slice a n c := by obtain ⟨a, c, b, o, e, -⟩ := h.parts; exact ⟨_, _, _, e⟩
  subst hv
  have hmm := @run_makeMap Tryz.prog
  clear h hL hr hl
  go_enter Tryz.func19, Tryz.ntmps19
  go_wp2_with (go_at_call 29; (with_reducible refine TH.mono ?_); rintro e w1 ⟨r, rfl, ho, hb⟩; have HO1 := Lib.hid ho; have HB1 := Lib.hid hb; clear ho hb; obtain ⟨ra, rc, -, -, hrv, -⟩ := HO1.out.holds; rw [List.length_map] at hrv; subst hrv)
  clear TH
  have hz1 := HB1.out.size
  have b1 := (Below.refl w1.heap.size w1).alloc (Nat.le_refl _) (.cells #[.slice ra (thereU l).length rc] 27)
  have b2 := b1.alloc (by simp) (.map #[] 0)
  have HB2 := Lib.hid (HB1.out.trans (b2.mono hz1))
  have HP0 : Hid (PSt ((w1.alloc (.cells #[.slice ra (thereU l).length rc] 27)).alloc (.map #[] 0)) w.heap.size w1.heap.size (w1.heap.size + 1) 0 none (nmsU []) (.slice none 0 0) 0 (setS (nmsU [])) (.slice ra (thereU l).length rc) (.slice ra (thereU l).length rc) (behindU l [])) := Lib.hid (by
    have e : behindU l [] = thereU l := by unfold behindU; simp
    have hm : ((w1.alloc (.cells #[.slice ra (thereU l).length rc] 27)).alloc (.map #[] 0)).ownsMap Tryz.prog 9 unitElem (w1.alloc (.cells #[.slice ra (thereU l).length rc] 27)).heap.size 0 (setS (nmsU [])) := World.ownsMap_made _ _ _ _
    rw [World.size_alloc] at hm
    rw [e]
    exact ⟨World.ownsRow_nil _ _ _ _, row_below ((Below.refl _ _).alloc (Nat.le_refl _) _) (w := w1.alloc (.cells #[.slice ra (thereU l).length rc] 27)) Array.getElem?_push_size, OwnV.on HO1.out b2, hm, fun _ e => (by cases e), Nat.lt_succ_self _, hz1⟩)
  obtain ⟨W0, hW0⟩ : ∃ W0, (w1.alloc (.cells #[.slice ra (thereU l).length rc] 27)).alloc (.map #[] 0) = W0 := ⟨_, rfl⟩
  rw [hW0] at HP0 HB2
  have HW0 := Lib.hid hW0
  obtain ⟨g, hg⟩ : ∃ g, w1.heap.size = g := ⟨_, rfl⟩
  rw [hg] at HP0 hz1
  have HG := Lib.hid hg
  clear hW0 b1 b2 HO1 hg hmm
  try simp only [World.size_alloc]
  rw [HW0.out, HG.out]
  clear HW0 HG HB1
  obtain ⟨t0, ht, tz0, tz1, tz2⟩ := info_parts infoT
  obtain ⟨i0, hi, hz0, hzz1, hzz2⟩ := info_parts infoQ
  go_loopw [6] (fun u wr => ∃ xs tv, Hid (PlanTo l xs) ∧ Hid (PSt wr w.heap.size g (g + 1) 0 none (nmsU xs) u xs.length (setS (nmsU xs)) tv tv (behindU l xs)) ∧ Hid (Below w.heap.size w wr)) (fun u _ => 65 - lenV u)
  case atStart => exact ⟨[], _, Lib.hid (PlanTo.nil l), HP0, HB2⟩
  case round =>
    obtain ⟨xs, tv, HPL, HP, HB⟩ := hrel
    have hlen : xs.length ≤ 64 := Nat.le_trans HPL.out.len HLL.out
    have N1 := NX.out xs HPL.out g (g + 1) xs.length tv wr HB.out HP.out.M (cell_heapN (i := 0) HP.out.G rfl) (OwnV.holds HP.out.Q)
    go_wp2_with (go_at_call 32; (with_reducible refine N1.mono ?_); rintro e w3 ⟨⟨m, X0, X1, z, a3, a4, a5, a6, a7, a8, n3, n4, n5, n6, n7, n8, m3, m4, m5, m6, m7, m8, rfl, hy, hn⟩, hb⟩; have HY := Lib.hid hy; have HN := Lib.hid hn; have HP3 := Lib.hid (HP.out.on hb); have HB3 := Lib.hid (HB.out.trans (hb.mono HB.out.size)); clear hb hy hn; refine Hid.out ?_)
    refine Lib.hid ?_
    have b4 := (Below.refl w3.heap.size w3).alloc (Nat.le_refl _) (.cells #[.string X0, .string X1, .int .i64 z, .slice a3 n3 m3, .slice a4 n4 m4, .slice a5 n5 m5, .slice a6 n6 m6, .slice a7 n7 m7, .slice a8 n8 m8] 37)
    have HB4 := Lib.hid (HB3.out.trans (b4.mono HB3.out.size))
    have HP4 := Lib.hid (HP3.out.box #[.string X0, .string X1, .int .i64 z, .slice a3 n3 m3, .slice a4 n4 m4, .slice a5 n5 m5, .slice a6 n6 m6, .slice a7 n7 m7, .slice a8 n8 m8])
    have HZ : Hid (Hid (w.heap.size ≤ w3.heap.size)) := Lib.hid (Lib.hid HB3.out.size)
    clear b4 HP HP3
    cases m
    case false =>
      have HD := Lib.hid (HN.out rfl)
      clear HY HN NX
      go_wp2
      go_ret2
      exact ⟨xs, _, g + 1, xs.length, rfl, ⟨HPL.out, HD.out⟩, OwnT.mono HP4.out.T (by omega), HP4.out.M, by omega, HB4.out⟩
    case true =>
      obtain ⟨x, hx, hm, e0, e1⟩ := HY.out rfl
      have HPL2 := Lib.hid (HPL.out.snoc hm)
      have hlen2 : xs.length + 1 ≤ 64 := by have := Nat.le_trans HPL2.out.len HLL.out; simpa using this
      have HKY : Hid (keyOf Tryz.prog 9 (.string X0) = some (.string X0.data.toList)) := Lib.hid (key_s X0 (by rw [sizeOf, e0]; have := (small_nm (HR.out x hx)).1; unfold maxLen; omega))
      have HBL : Hid ((behindU l xs).length ≤ 128) := Lib.hid (by have := behind_len HPL.out; have := HLL.out; omega)
      have HE : Hid (X0.data.toList = x.nm ∧ X1.data.toList = x.vr) := Lib.hid ⟨e0, e1⟩
      have HNS := Lib.hid (nms_snoc xs x)
      have HBS := Lib.hid (behind_snoc l xs x)
      obtain ⟨NS, hNS⟩ : ∃ NS, nmsU xs = NS := ⟨_, rfl⟩
      obtain ⟨TT, hTT⟩ : ∃ TT, behindU l xs = TT := ⟨_, rfl⟩
      have HNL : Hid (NS.length = xs.length) := Lib.hid (by rw [← hNS, List.length_map])
      rw [hNS] at HP4 HNS
      rw [hTT] at HP4 HBS HBL
      obtain ⟨N, hN⟩ : ∃ N, xs.length = N := ⟨_, rfl⟩
      have HXL : Hid ((xs ++ [x]).length = N + 1) := Lib.hid (by rw [List.length_append, hN]; rfl)
      rw [hN] at HP4 hlen hlen2 HNL
      have y0 := cell_heapN (i := 0) (HP4.out.X _ rfl) rfl
      have y1 := cell_heapN (i := 1) (HP4.out.X _ rfl) rfl
      have hTl := HNL.out
      clear HY HN NX hx hm e0 e1 hNS hTT hN
      go_wp2_with (at_builtin; refine wpList_append_own _ rfl _ _ 29 rfl (g + 1 + 1) 9 t0 (.string ⟨#[]⟩) 1 16 Tryz.underlying29 ht tz0 tz1 tz2 rfl (by decide) _ _ _ rfl (World.ownsRow.alloc HP4.out.T _) ⟨w3.heap.size + 1, 0, none⟩ 1 1 [.string X0] rfl rfl ?c1 ?c2 ?c3 ?c4 ?c5 ?_)
      case c1 => exact newsT1 X0 _ (World.size_alloc _ _).symm
      case c2 => intro u hu; simp at hu; subst hu; rfl
      case c3 => unfold maxLen; omega
      case c4 => omega
      case c5 => have := World.ownsMap.lt HP4.out.M; simp only [World.size_alloc] at this ⊢; omega
      intro v5 w5 hown5 hg5 _
      have HP5 := Lib.hid (HP4.out.names (OwnT.app (l := x.nm) HE.out.1 (by rw [hTl]; exact hown5)) hg5)
      have HB5 : Hid (Below w.heap.size w w5) := Lib.hid ((HB4.out.alloc HB4.out.size _).grown hg5 (HB4.out.alloc HB4.out.size _).size (fun k hk => by have := (World.ownsRow.lt HP4.out.T k hk).1; omega))
      have HBG : Hid (w.heap.size ≤ g) := Lib.hid hz1
      have z0 := cell_heapN (i := 0) (HP5.out.X _ rfl) rfl
      have z1 := cell_heapN (i := 1) (HP5.out.X _ rfl) rfl
      clear hown5 hg5 y0 y1
      go_wp2_with (first
        | (at_mapUpdate; refine wpList_mapUpdate_own _ rfl _ _ _ 50 rfl 9 53 lawS Tryz.underlying50 _ (g + 1) N (setS NS) rfl HP5.out.M (by unfold maxLen; omega) _ _ _ rfl rfl HKY.out _ [] unitElem_mk ?_; intro w6 hm6 hg6; have HP6 := Lib.hid (HP5.out.map hm6 hg6); have HB6 := Lib.hid (HB5.out.grown hg6 HB5.out.size (fun k hk => by cases hk; have := HBG.out; omega)); have u0 := cell_heapN (i := 0) (HP6.out.X _ rfl) rfl; have u1 := cell_heapN (i := 1) (HP6.out.X _ rfl) rfl; have ug := cell_heapN (i := 0) HP6.out.G rfl; have hs6 := HB6.out.size; clear hm6 hg6)
        | (at_builtin; refine wpList_append_own _ rfl _ _ 27 rfl w.heap.size 41 i0 _ 3 48 Tryz.underlying27 hi hz0 hzz1 hzz2 rfl (by decide) _ _ _ rfl (World.ownsRow.alloc HP6.out.Q.2 _) ⟨w6.heap.size, 0, none⟩ 1 1 [.string X0, .string ⟨#[]⟩, .string X1] rfl rfl ?d1 ?d2 ?d3 ?d4 ?d5 ?_))
      case d1 => exact news3Q X0 X1 _
      case d2 => intro u hu; simp at hu; rcases hu with rfl | rfl | rfl <;> rfl
      case d3 => have := HBL.out; rw [List.length_map]; unfold maxLen; omega
      case d4 => have := HBL.out; rw [List.length_map]; omega
      case d5 => rw [World.size_alloc]; omega
      intro v8 w8 hown8 hg8 _
      have HP8 := Lib.hid (HP6.out.there (OwnQ.app (x := (x.nm, [], x.vr)) HE.out.1 rfl HE.out.2 (by simpa using hown8)) hg8)
      have HB8 : Hid (Below w.heap.size w w8) := Lib.hid ((HB6.out.alloc HB6.out.size _).grown hg8 (HB6.out.alloc HB6.out.size _).size (fun k hk => (World.ownsRow.lt HP6.out.Q.2 k hk).1))
      obtain ⟨qa, qc, hq2⟩ : ∃ a c, v8 = .slice a (TT.length + 1) c := by
        obtain ⟨qa, qc, -, -, hq, -⟩ := HP8.out.Q.holds
        exact ⟨qa, qc, by rw [hq, List.length_map, List.length_append]; rfl⟩
      subst hq2
      have c8 := cell_heapN (i := 0) HP8.out.G rfl
      have f8 := frozen_of_row _ _ 0 _ _ HP8.out.G
      have HP9 : Hid (PSt (w8.setCell ⟨g, 0, none⟩ (.slice qa (TT.length + 1) qc)) w.heap.size g (g + 1) 0 none (nmsU (xs ++ [x])) v5 (xs ++ [x]).length (setS (nmsU (xs ++ [x]))) (.slice qa (TT.length + 1) qc) (.slice qa (TT.length + 1) qc) (behindU l (xs ++ [x]))) := Lib.hid (by
        have e9 : relU x = (x.nm, [], x.vr) := rfl
        rw [HNS.out, HBS.out, e9, setS_snoc, HXL.out, ← HE.out.1]
        have h9 := HP8.out.store.nobox
        rw [← HE.out.1] at h9
        exact h9)
      have HB9 : Hid (Below w.heap.size w (w8.setCell ⟨g, 0, none⟩ (.slice qa (TT.length + 1) qc))) := Lib.hid (HB8.out.setCell (p := ⟨g, 0, none⟩) hz1 _)
      have hm5 := (lenT HP5.out.T).trans (by rw [List.length_append, hTl]; rfl : (NS ++ [x.nm]).length = N + 1)
      have hm4 := (lenT HP4.out.T).trans hTl
      have HM := Lib.hid (And.intro hm4 hm5)
      clear hown8 hg8 hm4 hm5 HP4 HP5 HP6 HB4 HB5 HB6 z0 z1 u0 u1 ug
      go_wp2
      go_roundw
      case rel => exact ⟨xs ++ [x], _, HPL2, HP9, HB9⟩
      case measure => rw [HM.out.1, HM.out.2]; omega
end Go.Proofs.YtpkdnohaefkfgaaGreatDoor
