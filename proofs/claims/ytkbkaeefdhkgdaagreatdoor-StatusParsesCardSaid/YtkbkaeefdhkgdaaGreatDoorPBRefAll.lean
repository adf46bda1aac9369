import Derived.Test.YtkbkaeefdhkgdaaGreatDoorPQRefLong
set_option maxRecDepth 100000
set_option maxHeartbeats 32000000
namespace Go.Proofs.YtkbkaeefdhkgdaaGreatDoor
section
open Go.RowKit
theorem nameBig_any (s : ByteArray) (hs : s.size ≤ maxLen) (w : World) : Calls Tryz.prog 52 #[.string s] w fun e w' => e = .returned (.bool (nameB s.data.toList)) ∧ w = w' := by
 by_cases h : s.size ≤ 4000
 ·
  exact name_any s h w
 ·
  have hl := Lib.size_eq s
  have hB : nameB s.data.toList = false := by
   unfold nameB
   rw [show decide (s.data.toList.length ≤ 60) = false by simp; omega]
   simp
  rw [hB]
  clear hB hl
  unfold maxLen at hs
  go_enter Tryz.func52, Tryz.ntmps52
  go_wp2
  go_ret
  exact ⟨rfl, rfl⟩
theorem parseBig_any (s : ByteArray) (hs : s.size ≤ maxLen) (w : World) (h : LaidV w) : Calls Tryz.prog 101 #[.string s] w (ParsePost s.data.toList w) := by
 by_cases h4 : s.size ≤ 4000
 ·
  exact parse_any s h4 w h
 ·
  have hl := sizeOf s
  have HP : Hid (∀ e w', e = .returned (.tuple #[.agg #[.int .i64 0, .string ⟨#[]⟩, .string ⟨#[]⟩], .int .i64 8]) → Below w.heap.size w w' → ParsePost s.data.toList w e w') := Lib.hid (fun e w' h g => ⟨by rw [parseV_long (by omega)]; exact h, g⟩)
  clear hl h
  unfold maxLen at hs
  go_enter Tryz.func101, Tryz.ntmps101
  go_wp2
  exact bodyPost_ret (v := .tuple #[.agg #[.int .i64 0, .string ⟨#[]⟩, .string ⟨#[]⟩], .int .i64 8]) (by simp [results, Tryz.results101, go_sem]) rfl (HP.out _ _ rfl ((Below.refl _ _).alloc (Nat.le_refl _) _))
end
section
open Go.RowKit
theorem isVersionBig_any (v : ByteArray) (hv : v.size ≤ maxLen) (w : World) (h : LaidV w) : Calls Tryz.prog 157 #[.string v] w fun e w' => e = .returned (.bool (decide ((parseE v.data.toList).2 = 0))) ∧ Below w.heap.size w w' := by
 have PV := parseBig_any v hv w h
 unfold ParsePost parseV verV at PV
 obtain ⟨k, hk⟩ : ∃ k : Int, (parseE v.data.toList).2 = k := ⟨_, rfl⟩
 obtain ⟨z, hz⟩ : ∃ z : Int, (parseE v.data.toList).1.1 = z := ⟨_, rfl⟩
 obtain ⟨U, hU⟩ : ∃ U : ByteArray, (⟨((parseE v.data.toList).1.2.1).toArray⟩ : ByteArray) = U := ⟨_, rfl⟩
 obtain ⟨V, hV⟩ : ∃ V : ByteArray, (⟨((parseE v.data.toList).1.2.2).toArray⟩ : ByteArray) = V := ⟨_, rfl⟩
 simp only [hk, hz, hU, hV] at PV ⊢
 have hkd : Hid (decide (k = 0) = (k == 0)) := Lib.hid rfl
 clear hk hz hU hV h
 go_enter Tryz.func157, Tryz.ntmps157
 go_wp2_with (go_at_call 101; (with_reducible refine PV.mono ?_); rintro e w2 ⟨rfl, hb⟩; have HB := Lib.hid (hb.alloc hb.size (.cells #[.int .i64 z, .string U, .string V] 100)); clear hb)
 go_ret
 exact ⟨retb hkd.out.symm, HB.out⟩
theorem rightRBig_any (n o v : ByteArray) (hn : n.size ≤ maxLen) (hv : v.size ≤ maxLen) (w : World) (hL : LaidV w) :
  Calls Tryz.prog 127 #[.agg #[.string n, .string o, .string v]] w fun e w' => e = .returned (.bool (rightR (n.data.toList, o.data.toList, v.data.toList))) ∧ Below w.heap.size w w' := by
 have NM := fun w => nameBig_any n hn w
 have OP := fun w => operator_any o w
 have IV := fun w h => isVersionBig_any v hv w h
 obtain ⟨R, hR⟩ : ∃ R, rightR (n.data.toList, o.data.toList, v.data.toList) = R := ⟨_, rfl⟩
 have hrt := right_to (n.data.toList, o.data.toList, v.data.toList)
 rw [hR] at hrt ⊢
 have hez := emptyT o
 have hev := emptyT v
 have hal : ∀ (o : Obj), Below w.heap.size w (w.alloc o) := fun o => (Below.refl _ _).alloc (Nat.le_refl _) _
 have HAL := Lib.hid hal
 have HLA := Lib.hid (fun o => hL.on (hal o))
 clear hR hal hL
 cases hrt with
 | name h =>
  simp only [] at h
  simp only [h] at NM
  clear hez hev
  go_enter Tryz.func127, Tryz.ntmps127
  go_wp2_with (go_at_call 52; (with_reducible refine (NM _).mono ?_); rintro e w1 ⟨rfl, rfl⟩)
  go_ret
  exact ⟨rfl, HAL.out _⟩
 | bare h h2 =>
  simp only [] at h h2
  simp only [h] at NM
  have ho : o.size = 0 := by rw [sizeOf, h2]; rfl
  rw [decide_eq_true ho] at hez
  have hvv : decide (v.data.toList = []) = decide (v.size = 0) := by
   congr 1
   rw [sizeOf, List.length_eq_zero_iff]
  simp only [hvv]
  rw [h2, show opB [] = false from rfl] at OP
  obtain ⟨q, hq⟩ : ∃ q, decide (v.size = 0) = q := ⟨_, rfl⟩
  rw [hq] at hev ⊢
  clear ho h h2 hvv hq
  cases q
  all_goals
   go_enter Tryz.func127, Tryz.ntmps127
   go_wp2_with (first
    | (go_at_call 52; (with_reducible refine (NM _).mono ?_); rintro e w1 ⟨rfl, rfl⟩)
    | (go_at_call 156; (with_reducible refine (OP _).mono ?_); rintro e w2 ⟨rfl, rfl⟩))
   go_ret
   exact ⟨rfl, HAL.out _⟩
 | op h h2 =>
  simp only [] at h h2
  simp only [h] at NM
  have ho : ¬ o.size = 0 := fun e => h2 (List.eq_nil_of_length_eq_zero (by rw [← sizeOf]; exact e))
  rw [decide_eq_false ho] at hez
  obtain ⟨kb, hkb⟩ : ∃ kb, decide ((parseE v.data.toList).2 = 0) = kb := ⟨_, rfl⟩
  simp only [hkb] at IV ⊢
  obtain ⟨ob, hob⟩ : ∃ ob, opB o.data.toList = ob := ⟨_, rfl⟩
  simp only [hob] at OP ⊢
  clear ho h h2 hev hkb hob
  cases ob
  ·
   go_enter Tryz.func127, Tryz.ntmps127
   go_wp2_with (first
    | (go_at_call 52; (with_reducible refine (NM _).mono ?_); rintro e w1 ⟨rfl, rfl⟩)
    | (go_at_call 156; (with_reducible refine (OP _).mono ?_); rintro e w2 ⟨rfl, rfl⟩))
   go_ret
   exact ⟨rfl, HAL.out _⟩
  ·
   go_enter Tryz.func127, Tryz.ntmps127
   go_wp2_with (first
    | (go_at_call 52; (with_reducible refine (NM _).mono ?_); rintro e w1 ⟨rfl, rfl⟩)
    | (go_at_call 156; (with_reducible refine (OP _).mono ?_); rintro e w2 ⟨rfl, rfl⟩)
    | (go_at_call 157; (with_reducible refine (IV _ (HLA.out _)).mono ?_); rintro e w3 ⟨rfl, hb⟩; have HB := Lib.hid ((HAL.out _).trans (hb.mono (HAL.out _).size)); clear hb))
   go_ret
   exact ⟨rfl, HB.out⟩
end
section
open Go.RowKit
def BigQ (l : List Rl) : Prop := ∀ x ∈ l, x.1.length ≤ maxLen ∧ x.2.1.length ≤ maxLen ∧ x.2.2.length ≤ maxLen
theorem smallR_right {x : Rl} (h : rightR x = true) : x.1.length ≤ 4000 ∧ x.2.1.length ≤ 4000 ∧ x.2.2.length ≤ 4000 := by
 unfold rightR at h
 rw [Bool.and_eq_true] at h
 have h1 : x.1.length ≤ 60 := by
  have := h.1
  unfold nameB at this
  simp only [Bool.and_eq_true, decide_eq_true_eq] at this
  omega
 by_cases h2 : x.2.1 = []
 ·
  rw [if_pos h2, decide_eq_true_eq] at h
  rw [h2, h.2]
  exact ⟨by omega, by simp, by simp⟩
 ·
  rw [if_neg h2, Bool.and_eq_true, decide_eq_true_eq] at h
  have h3 : x.2.1.length ≤ 2 := by
   have := h.2.1
   unfold opB at this
   simp only [Bool.or_eq_true, decide_eq_true_eq] at this
   rcases this with ((((e | e) | e) | e) | e) <;> rw [e] <;> simp
  have h4 : x.2.2.length ≤ 80 := by
   by_cases h80 : 80 < x.2.2.length
   ·
    have := h.2.2
    unfold parseE at this
    rw [if_pos h80] at this
    simp at this
   ·
    omega
  exact ⟨by omega, by omega, by omega⟩
theorem smallQ_right {l : List Rl} (h : l.all rightR = true) : SmallQ l := fun x hx => smallR_right (List.all_eq_true.1 h x hx)
theorem allRight1Big_any (x : Rl) (h1 : x.1.length ≤ maxLen ∧ x.2.1.length ≤ maxLen ∧ x.2.2.length ≤ maxLen) (w : World) (hL : LaidV w) : Calls Tryz.prog 126 #[aggQ x] w fun e w' => e = .returned (.bool (!rightR x)) ∧ Below w.heap.size w w' := by
 have R := fun W h => rightRBig_any (bsT x.1) (bsT x.2.1) (bsT x.2.2) (by rw [sizeOf, bytesOf]; omega) (by rw [sizeOf, bytesOf]; omega) W h
 rw [bytesOf, bytesOf, bytesOf] at R
 obtain ⟨p, q, z⟩ := x
 dsimp only at R ⊢
 unfold aggQ
 dsimp only
 generalize rightR (p, q, z) = r at *
 have HBA : Hid (∀ o, Below w.heap.size w (w.alloc o)) := Lib.hid (fun o => (Below.refl _ _).alloc (Nat.le_refl _) o)
 have HLA := Lib.hid (fun o => hL.on (HBA.out o))
 generalize bsT p = P at *
 generalize bsT q = Q at *
 generalize bsT z = Z at *
 clear hL h1
 go_enter Tryz.func126, Tryz.ntmps126
 go_wp2_with (go_at_call 127; (with_reducible refine (R _ (HLA.out _)).mono ?_); rintro e w1 ⟨rfl, hb⟩; have HB := Lib.hid ((HBA.out _).trans (hb.mono (HBA.out _).size)); clear hb)
 go_ret
 exact ⟨rfl, HB.out⟩
theorem allRightBig_any (v : Value) (l : List Rl) (hl : l.length ≤ 90000) (hs : BigQ l) (w : World) (h : HoldQ w v l) (hL : LaidV w) : Calls Tryz.prog 84 #[v] w fun e w' => e = .returned (.bool (l.all rightR)) ∧ Below w.heap.size w w' := by
 have EN : ∀ args w, (callFunc 126 args).run Tryz.prog w = .ok (.enter 126 args) w := enters_of Tryz.func126 (by kernel_rfl) rfl
 have C := contQ_any 126 #[] EN (fun x => !rightR x) v l hl w h (fun W x hx hb => by
  have := allRight1Big_any x (hs x hx) W (hL.on hb)
  simpa using this)
 have HA : Hid (l.all rightR = !(l.any fun x => !rightR x)) := Lib.hid (by rw [List.not_any_eq_all_not]; simp)
 rw [HA.out]
 obtain ⟨a, c, b, o, rfl, -⟩ := h.parts
 generalize (l.any fun x => !rightR x) = r at *
 generalize l.length = n at *
 clear EN h hs hL hl
 go_enter Tryz.func84, Tryz.ntmps84
 go_wp2_with (go_at_call 125; (with_reducible refine C.mono ?_); rintro e w1 ⟨rfl, hb⟩; have HB := Lib.hid hb; clear hb)
 go_ret
 exact ⟨rfl, HB.out⟩
theorem listBig_any (v : Value) (l : List Rl) (hl : l.length ≤ 90000) (hs : BigQ l) (w : World) (h : HoldQ w v l) (hL : LaidV w) : Calls Tryz.prog 41 #[v] w (TwoP (listE l) w) := by
 have AR := fun W hb => allRightBig_any v l hl hs W (HoldV.on h hb) (hL.on hb)
 have HH := Lib.hid h
 have hvf : ∃ a c, v = .slice a l.length c := by obtain ⟨a, c, b, o, e, -⟩ := h.parts; exact ⟨a, c, e⟩
 obtain ⟨a, c, hve⟩ := hvf
 have JN0 : Hid (l.all rightR = true → ∀ W, Below w.heap.size w W → Calls Tryz.prog 87 #[.slice a l.length c, .string ⟨#[44, 32]⟩, .func (.func 88) #[] #[]] W fun e w' => e = .returned (.string (bsT (Lib.join (l.map textR) (ByteArray.mk #[44, 32]).data.toList))) ∧ Below W.heap.size W w') := Lib.hid (fun hr W hb => by
  have := joinedR_any ⟨#[44, 32]⟩ (by decide) v l hl (smallQ_right hr) W (HoldV.on HH.out hb)
  rw [hve] at this
  exact this)
 subst hve
 clear HH
 have FU := fun W => fullQ_any a l.length c hl W
 by_cases h64 : 64 < l.length
 ·
  rw [decide_eq_true h64] at FU
  have HP : Hid (∀ w', Below w.heap.size w w' → TwoP (listE l) w (.returned (.tuple #[.string ⟨#[]⟩, .int .i64 22])) w') := Lib.hid (fun w' hb => ⟨by unfold listE; rw [if_pos h64], hb⟩)
  generalize l.length = n at *
  clear h h64 AR JN0 hs hL hl
  go_enter Tryz.func41, Tryz.ntmps41
  go_wp2_with (go_at_call 83; (with_reducible refine (FU _).mono ?_); rintro e w1 ⟨rfl, hb⟩; have HB := Lib.hid hb; clear hb)
  go_ret2
  exact HP.out _ HB.out
 rw [decide_eq_false h64] at FU
 cases hr : l.all rightR
 ·
  rw [hr] at AR
  have HP : Hid (∀ w', Below w.heap.size w w' → TwoP (listE l) w (.returned (.tuple #[.string ⟨#[]⟩, .int .i64 1])) w') := Lib.hid (fun w' hb => ⟨by unfold listE; rw [if_neg h64, hr]; rfl, hb⟩)
  generalize l.length = n at *
  clear h h64 JN0 hs hL hl hr
  go_enter Tryz.func41, Tryz.ntmps41
  go_wp2_with (first
   | (go_at_call 83; (with_reducible refine (FU _).mono ?_); rintro e w1 ⟨rfl, hb⟩; have HB := Lib.hid hb; clear hb)
   | (go_at_call 84; (with_reducible refine (AR _ HB.out).mono ?_); rintro e w2 ⟨rfl, hb⟩; have HB2 := Lib.hid (HB.out.trans (hb.mono HB.out.size)); clear hb))
  go_ret2
  exact HP.out _ HB2.out
 ·
  rw [hr] at AR
  have JN := fun W hb => JN0.out hr W hb
  clear JN0
  obtain ⟨R, hR⟩ : ∃ R, bsT (Lib.join (l.map textR) (ByteArray.mk #[44, 32]).data.toList) = R := ⟨_, rfl⟩
  rw [hR] at JN
  have HP : Hid (∀ w', Below w.heap.size w w' → TwoP (listE l) w (.returned (.tuple #[.string R, .int .i64 0])) w') := Lib.hid (fun w' hb => ⟨by unfold listE; rw [if_neg h64, hr, if_pos rfl, ← hR]; rfl, hb⟩)
  generalize l.length = n at *
  clear h h64 hs hL hl hr hR
  go_enter Tryz.func41, Tryz.ntmps41
  go_wp2_with (first
   | (go_at_call 83; (with_reducible refine (FU _).mono ?_); rintro e w1 ⟨rfl, hb⟩; have HB := Lib.hid hb; clear hb)
   | (go_at_call 84; (with_reducible refine (AR _ HB.out).mono ?_); rintro e w2 ⟨rfl, hb⟩; have HB2 := Lib.hid (HB.out.trans (hb.mono HB.out.size)); clear hb)
   | (go_at_call 87; (with_reducible refine (JN _ HB2.out).mono ?_); rintro e w3 ⟨rfl, hb⟩; have HB3 := Lib.hid (HB2.out.trans (hb.mono HB2.out.size)); clear hb))
  go_ret2
  exact HP.out _ HB3.out
end
section
open Go.RowKit
def BigG (l : List Gv) : Prop := ∀ x ∈ l, BigQ x.1 ∧ x.1.length ≤ 500
theorem goodG_right {g : List Rl} (h : ¬ badG g = true) : g.all rightR = true := by
 unfold badG at h
 rw [Bool.or_eq_true, not_or] at h
 simpa using h.2
theorem allBig_any (v : Value) (l : List Gv) (hl : l.length ≤ 500) (hs : BigG l) (w : World) (h : HoldGs w v l) (hL : LaidV w) : Calls Tryz.prog 40 #[v] w (TwoP (allE (fsts l)) w) := by
 have EN : ∀ args w, (callFunc 83 args).run Tryz.prog w = .ok (.enter 83 args) w := enters_of Tryz.func83 (by kernel_rfl) rfl
 have CF := fun W hb => contG_any 83 #[] EN (fun x => longG x.1) v l (by omega) W (h.on hb) (fun W' x hx _ => by
  obtain ⟨a, c, -, -, e, -⟩ := (h.2 x hx).parts
  have hh := hs x hx
  rw [e]
  have := fullQ_any a x.1.length c (by omega) W'
  simpa [longG] using this)
 have HA : Hid (l.any (fun x => longG x.1) = (fsts l).any longG) := Lib.hid (by rw [List.any_map]; rfl)
 rw [HA.out] at CF
 have JN : (fsts l).any badG = false → ∀ W, Below w.heap.size w W → Calls Tryz.prog 85 #[v, .string ⟨#[44, 32]⟩, .func (.func 86) #[] #[]] W fun e w' => e = .returned (.string (bsT (Lib.join (l.map gtx) (ByteArray.mk #[44, 32]).data.toList))) ∧ Below W.heap.size W w' := fun hq W hb =>
  joinedG_any ⟨#[44, 32]⟩ (by decide) v l (by omega) (fun x hx => ⟨smallQ_right (goodG_right (List.any_eq_false.1 hq x.1 (List.mem_map_of_mem hx))), (hs x hx).2⟩) W (h.on hb)
 obtain ⟨a, c, b, o, rfl, hc, ha, hcell⟩ := h.parts
 have FU := fun W => fullG_any a l.length c (by omega) W
 obtain ⟨R, hR⟩ : ∃ R, bsT (Lib.join (l.map gtx) (ByteArray.mk #[44, 32]).data.toList) = R := ⟨_, rfl⟩
 rw [hR] at JN
 have HRA : Hid (R = bsT (textA (fsts l))) := Lib.hid (by rw [← hR]; unfold textA; rw [List.map_map]; rfl)
 have hfl : (fsts l).length = l.length := List.length_map ..
 have HE : Hid (allE (fsts l) = if decide (64 < l.length) || (fsts l).any longG then ([], 22) else if (fsts l).any badG then ([], 1) else (textA (fsts l), 0)) := Lib.hid (by unfold allE; rw [hfl])
 have HC := Lib.hid hcell
 have HG := Lib.hid h
 have HS := Lib.hid hs
 have HL := Lib.hid hL
 obtain ⟨n, hN⟩ : ∃ n, l.length = n := ⟨_, rfl⟩
 rw [hN] at hc ha hl FU HE CF JN ⊢
 have HN := Lib.hid hN
 clear hcell hN h hs hL hR hfl EN
 obtain ⟨f1, hf1⟩ : ∃ f1, decide (64 < n) = f1 := ⟨_, rfl⟩
 obtain ⟨f2, hf2⟩ : ∃ f2, (fsts l).any longG = f2 := ⟨_, rfl⟩
 rw [hf1] at FU HE
 rw [hf2] at CF HE
 clear hf1 hf2
 by_cases hf : f1 = true
 ·
  subst hf
  have HP : Hid (∀ w', Below w.heap.size w w' → TwoP (allE (fsts l)) w (.returned (.tuple #[.string ⟨#[]⟩, .int .i64 22])) w') := Lib.hid (fun w' hb => ⟨by rw [HE.out, if_pos (by simp)], hb⟩)
  clear HE CF JN
  go_enter Tryz.func40, Tryz.ntmps40
  go_wp2_with (go_at_call 81; (with_reducible refine (FU _).mono ?_); rintro e w1 ⟨rfl, hb⟩; have HB := Lib.hid hb; clear hb)
  go_ret2
  exact HP.out _ HB.out
 obtain rfl : f1 = false := by cases f1 <;> simp_all
 clear hf
 cases f2
 case true =>
  have HP : Hid (∀ w', Below w.heap.size w w' → TwoP (allE (fsts l)) w (.returned (.tuple #[.string ⟨#[]⟩, .int .i64 22])) w') := Lib.hid (fun w' hb => ⟨by rw [HE.out, if_pos (by simp)], hb⟩)
  clear HE JN
  go_enter Tryz.func40, Tryz.ntmps40
  go_wp2_with (first
   | (go_at_call 81; (with_reducible refine (FU _).mono ?_); rintro e w1 ⟨rfl, hb⟩; have HB := Lib.hid hb; clear hb)
   | (go_at_call 82; (with_reducible refine (CF _ HB.out).mono ?_); rintro e w2 ⟨rfl, hb⟩; have HB2 := Lib.hid (HB.out.trans (hb.mono HB.out.size)); clear hb))
  go_ret2
  exact HP.out _ HB2.out
 case false =>
  have H1 : Hid ((fsts l).any badG = true → ∀ w', Below w.heap.size w w' → TwoP (allE (fsts l)) w (.returned (.tuple #[.string ⟨#[]⟩, .int .i64 1])) w') := Lib.hid (fun hq w' hb => ⟨by rw [HE.out, if_neg (by simp), if_pos hq], hb⟩)
  have H0 : Hid ((fsts l).any badG = false → ∀ w', Below w.heap.size w w' → TwoP (allE (fsts l)) w (.returned (.tuple #[.string R, .int .i64 0])) w') := Lib.hid (fun hq w' hb => ⟨by rw [HE.out, if_neg (by simp), if_neg (by rw [hq]; simp), HRA.out], hb⟩)
  clear HE HRA
  go_enter Tryz.func40, Tryz.ntmps40
  go_wp2_with (first
   | (go_at_call 81; (with_reducible refine (FU _).mono ?_); rintro e w1 ⟨rfl, hb⟩; have HB := Lib.hid hb; clear hb)
   | (go_at_call 82; (with_reducible refine (CF _ HB.out).mono ?_); rintro e w2 ⟨rfl, hb⟩; have HB2 := Lib.hid (HB.out.trans (hb.mono HB.out.size)); clear hb))
  clear CF FU
  go_loopw [14] (fun i wr => ∃ k : Nat, k ≤ n ∧ i = .int .i64 k ∧ Hid (∀ (j : Nat) y, j < k → l[j]? = some y → badG y.1 = false) ∧ Hid (Below w.heap.size w wr)) (fun i _ => n - (intOf i).toNat)
  case atStart => exact ⟨0, by omega, rfl, Lib.hid (fun j y hj => by omega), HB2⟩
  case round =>
   obtain ⟨k, hk, rfl, H, HB3⟩ := hrel
   have hsz := HB3.out.size
   by_cases hlt : k < n
   ·
    obtain ⟨rfl, hbw⟩ := ha (by omega)
    obtain ⟨⟨g0, sv⟩, hx⟩ : ∃ x, l[k]? = some x := ⟨_, List.getElem?_eq_getElem (by rw [HN.out]; exact hlt)⟩
    have hgx := HG.out.2 _ (List.mem_of_getElem? hx)
    have hsm := HS.out _ (List.mem_of_getElem? hx)
    have c0 := HC.out k _ hx
    dsimp only at c0 hsm hgx
    rw [← HB3.out.cell (p := ⟨b, o + k, none⟩) hbw] at c0
    have AR := allRightBig_any sv g0 (by omega) hsm.1 wr (HoldV.on hgx HB3.out) (HL.out.on HB3.out)
    obtain ⟨sa, sc, -, -, hsv, -⟩ := hgx.parts
    subst hsv
    have HX := Lib.hid hx
    have HNX : Hid (badG g0 = false → ∀ (j : Nat) y, j < k + 1 → l[j]? = some y → badG y.1 = false) := Lib.hid (fun hq j y hj hy => by
     by_cases e : j = k
     ·
      subst e
      rw [HX.out] at hy; cases hy
      exact hq
     ·
      exact H.out j y (by omega) hy)
    have HBD : Hid (badG g0 = true → ∀ w', Below w.heap.size w w' → TwoP (allE (fsts l)) w (.returned (.tuple #[.string ⟨#[]⟩, .int .i64 1])) w') := Lib.hid (fun hq => H1.out (bad_hit HX.out hq))
    clear hx hgx H
    by_cases h0 : g0.length = 0
    ·
     have G := Lib.hid (HBD.out (by unfold badG; rw [decide_eq_true h0]; rfl))
     have e1 : ((g0.length : Int) == 0) = true := by rw [h0]; rfl
     clear AR HNX HBD
     generalize g0.length = gn at *
     clear h0
     go_wp2
     go_ret2
     exact G.out _ HB3.out
    ·
     have e1 : ((g0.length : Int) == 0) = false := by rw [beq_eq_false_iff_ne]; omega
     have hbg : badG g0 = !g0.all rightR := by unfold badG; rw [decide_eq_false h0, Bool.false_or]
     cases hr : g0.all rightR
     ·
      rw [hr] at AR hbg
      have G := Lib.hid (HBD.out hbg)
      clear HNX HBD hbg hr
      generalize g0.length = gn at *
      clear h0
      go_wp2_with (go_at_call 84; (with_reducible refine AR.mono ?_); rintro e w4 ⟨rfl, hb⟩; have HB4 := Lib.hid (HB3.out.trans (hb.mono hsz)); clear hb AR)
      go_ret2
      exact G.out _ HB4.out
     ·
      rw [hr] at AR hbg
      have G := Lib.hid (HNX.out hbg)
      clear HNX HBD hbg hr
      generalize g0.length = gn at *
      clear h0
      go_wp2_with (go_at_call 84; (with_reducible refine AR.mono ?_); rintro e w4 ⟨rfl, hb⟩; have HB4 := Lib.hid (HB3.out.trans (hb.mono hsz)); clear hb AR)
      go_roundw
      case rel => exact ⟨k + 1, by omega, by go_num, G, HB4⟩
      case measure => simp [intOf]; omega
   ·
    obtain rfl : k = n := by omega
    have G := Lib.hid (H0.out (bad_miss (fun j y hy => H.out j y (by have := (List.getElem?_eq_some_iff.1 hy).1; rw [HN.out] at this; exact this) hy)))
    have JQ := JN (bad_miss (fun j y hy => H.out j y (by have := (List.getElem?_eq_some_iff.1 hy).1; rw [HN.out] at this; exact this) hy))
    clear hlt H H0 H1 JN
    go_wp2_with (go_at_call 85; (with_reducible refine (JQ _ HB3.out).mono ?_); rintro e w4 ⟨rfl, hb⟩; have HB4 := Lib.hid (HB3.out.trans (hb.mono hsz)); clear hb)
    go_ret2
    exact G.out _ HB4.out
end
section
open Go.RowKit
theorem allEBig_ref (v : Value) (l : List Gv) (hl : l.length ≤ 500) (hs : BigG l) (w : World) (h : HoldGs w v l) : Calls Tryz.prog 14 #[v] w (TwoP (allE (fsts l)) w) := by
 obtain ⟨i0, hi, hz0, hz1, hz2'⟩ := info_parts infoT
 obtain ⟨a, c, b, o, rfl, hc, ha, hcell⟩ := h.parts
 have hfl : (fsts l).length = l.length := List.length_map ..
 have HE : Hid (allE (fsts l) = if decide (64 < l.length) || (fsts l).any longG then ([], 22) else if (fsts l).any badG then ([], 1) else (textA (fsts l), 0)) := Lib.hid (by unfold allE; rw [hfl])
 have HC := Lib.hid hcell
 have HG := Lib.hid h
 have HS := Lib.hid hs
 obtain ⟨n, hN⟩ : ∃ n, l.length = n := ⟨_, rfl⟩
 rw [hN] at hc ha hl HE ⊢
 have HN := Lib.hid hN
 clear hcell hN h hs hfl
 have H22 : Hid ((decide (64 < n) = true ∨ (fsts l).any longG = true) → ∀ w', Below w.heap.size w w' → TwoP (allE (fsts l)) w (.returned (.tuple #[.string ⟨#[]⟩, .int .i64 22])) w') := Lib.hid (fun hq w' hb => ⟨by rw [HE.out, if_pos (by rcases hq with e | e <;> rw [e] <;> simp)], hb⟩)
 have H1 : Hid (decide (64 < n) = false → (fsts l).any longG = false → (fsts l).any badG = true → ∀ w', Below w.heap.size w w' → TwoP (allE (fsts l)) w (.returned (.tuple #[.string ⟨#[]⟩, .int .i64 1])) w') := Lib.hid (fun q1 q2 q3 w' hb => ⟨by rw [HE.out, if_neg (by rw [q1, q2]; simp), if_pos q3], hb⟩)
 have H0 : Hid (decide (64 < n) = false → (fsts l).any longG = false → (fsts l).any badG = false → ∀ R w', R = bsT (textA (fsts l)) → Below w.heap.size w w' → TwoP (allE (fsts l)) w (.returned (.tuple #[.string R, .int .i64 0])) w') := Lib.hid (fun q1 q2 q3 R w' hR hb => ⟨by rw [HE.out, if_neg (by rw [q1, q2]; simp), if_neg (by rw [q3]; simp), hR], hb⟩)
 clear HE
 go_enter Tryz.func14, Tryz.ntmps14
 go_wp2
 go_loop [4] (fun i => ∃ k : Nat, k ≤ n ∧ i = .int .i64 k ∧ Hid (∀ (j : Nat) y, j < k → l[j]? = some y → longG y.1 = false)) (fun i => n - (intOf i).toNat)
 case atStart => exact ⟨0, by omega, rfl, Lib.hid (fun j y hj => by omega)⟩
 case round =>
  obtain ⟨k, hk, rfl, H⟩ := hrel
  by_cases hlt : k < n
  ·
   obtain ⟨rfl, hbw⟩ := ha (by omega)
   obtain ⟨⟨g0, sv⟩, hx⟩ : ∃ x, l[k]? = some x := ⟨_, List.getElem?_eq_getElem (by rw [HN.out]; exact hlt)⟩
   have hgx := HG.out.2 _ (List.mem_of_getElem? hx)
   have hsm := HS.out _ (List.mem_of_getElem? hx)
   have c0 := HC.out k _ hx
   dsimp only at c0 hgx hsm
   obtain ⟨sa, sc, -, -, hsv, -⟩ := hgx.parts
   subst hsv
   by_cases h64 : 64 < g0.length
   ·
    have G := Lib.hid (H22.out (.inr (long_hit hx (by unfold longG; exact decide_eq_true h64))))
    have hsz := hsm.2
    generalize g0.length = gn at *
    clear hx hgx hsm H H1 H0
    go_wp2
    go_ret2
    exact G.out _ (Below.refl _ _)
   ·
    have HX : Hid (∀ (j : Nat) y, j < k + 1 → l[j]? = some y → longG y.1 = false) := Lib.hid (fun j y hj hy => by
     by_cases e : j = k
     ·
      subst e
      rw [hx] at hy; cases hy
      unfold longG; exact decide_eq_false h64
     ·
      exact H.out j y (by omega) hy)
    have hsz := hsm.2
    generalize g0.length = gn at *
    clear hx hgx hsm H
    go_wp2
    go_round
    case rel => exact ⟨k + 1, by omega, by go_num, HX⟩
    case measure => simp [intOf]; omega
  ·
   obtain rfl : k = n := by omega
   have HLG := Lib.hid (long_miss (fun j y hy => H.out j y (by have := (List.getElem?_eq_some_iff.1 hy).1; rw [HN.out] at this; exact this) hy))
   clear hlt H
   by_cases h64 : 64 < k
   ·
    have G := Lib.hid (H22.out (.inl (decide_eq_true h64)))
    clear H1 H0
    go_wp2
    go_ret2
    exact G.out _ (Below.refl _ _)
   have G1 := Lib.hid (H1.out (decide_eq_false h64) HLG.out)
   have G0 := Lib.hid (H0.out (decide_eq_false h64) HLG.out)
   clear H1 H0 H22 HLG
   go_wp2
   go_loopw [5, 6] (fun u i wr => ∃ k' : Nat, k' ≤ k ∧ i = .int .i64 k' ∧ Hid (OwnT wr w.heap.size u ((fsts (l.take k')).map textG)) ∧ Hid (∀ (j : Nat) y, j < k' → l[j]? = some y → badG y.1 = false) ∧ Hid (Below w.heap.size w wr)) (fun _ i _ => k - (intOf i).toNat)
   case atStart => exact ⟨0, by omega, rfl, Lib.hid (OwnT.nil _ _), Lib.hid (fun j y hj => by omega), Lib.hid (Below.refl _ _)⟩
   case round =>
    obtain ⟨t, ht, rfl, HO, H, HB⟩ := hrel
    have hsz := HB.out.size
    obtain ⟨wo, rfl⟩ : ∃ wo : World, wo = wr := ⟨_, rfl⟩
    by_cases hlt : t < k
    ·
     obtain ⟨rfl, hbw⟩ := ha (by omega)
     obtain ⟨⟨g0, sv⟩, hx⟩ : ∃ x, l[t]? = some x := ⟨_, List.getElem?_eq_getElem (by rw [HN.out]; exact hlt)⟩
     have hgx := HG.out.2 _ (List.mem_of_getElem? hx)
     have hsm := HS.out _ (List.mem_of_getElem? hx)
     have c0 := HC.out t _ hx
     dsimp only at c0 hgx hsm
     have HC0 : Hid (∀ W, Below w.heap.size w W → W.cell? ⟨b, o + t, none⟩ = some sv) := Lib.hid (fun W hW => (hW.cell (p := ⟨b, o + t, none⟩) hbw).trans c0)
     obtain ⟨sa, sc, sb, so, hsv, hsc, hsa, hscell⟩ := hgx.parts
     subst hsv
     have HIC := Lib.hid hscell
     have HSM := Lib.hid hsm
     obtain ⟨m, hM⟩ : ∃ m, g0.length = m := ⟨_, rfl⟩
     have hm500 : m ≤ 500 := by rw [← hM]; exact hsm.2
     rw [hM] at hsc hsa HC0
     have HM := Lib.hid hM
     have HX := Lib.hid hx
     clear hx hgx hsm c0 hscell hM
     go_wp2
     go_loopw [7, 8] (fun own i wr => ∃ q : Nat, q ≤ m ∧ i = .int .i64 q ∧ Hid (OwnT wr wo.heap.size own ((g0.take q).map textR)) ∧ Hid (∀ (j : Nat) y, j < q → g0[j]? = some y → rightR y = true) ∧ Hid (Below wo.heap.size wo wr)) (fun _ i _ => m - (intOf i).toNat)
     case atStart => exact ⟨0, by omega, rfl, Lib.hid (OwnT.nil _ _), Lib.hid (fun j y hj => by omega), Lib.hid (Below.refl _ _)⟩
     case round =>
      obtain ⟨q, hq, rfl, HO2, H2, HB2⟩ := hrel
      have HBW := Lib.hid (HB.out.trans (HB2.out.mono hsz))
      have hszw := HBW.out.size
      have hszo := HB2.out.size
      have c0 := HC0.out _ HBW.out
      by_cases hqm : q < m
      ·
       obtain ⟨rfl, hsbw⟩ := hsa (by omega)
       obtain ⟨⟨p, z, y⟩, hf⟩ : ∃ f, g0[q]? = some f := ⟨_, List.getElem?_eq_getElem (by rw [HM.out]; exact hqm)⟩
       obtain ⟨d0, d1, d2⟩ := HIC.out q _ hf
       have hx3 := HSM.out.1 _ (List.mem_of_getElem? hf)
       dsimp only at d0 d1 d2 hx3
       rw [← HBW.out.cell (p := ⟨sb, so + q * 3, none⟩) hsbw] at d0
       rw [← HBW.out.cell (p := ⟨sb, so + q * 3 + 1, none⟩) hsbw] at d1
       rw [← HBW.out.cell (p := ⟨sb, so + q * 3 + 2, none⟩) hsbw] at d2
       have RR := fun W => rightQBig_ref (bsT p) (bsT z) (bsT y) (by rw [sizeOf, bytesOf]; omega) (by rw [sizeOf, bytesOf]; omega) W
       have TX := fun (hrr : rightR (p, z, y) = true) W => text_ref7 (bsT p) (bsT z) (bsT y) (by rw [sizeOf, bytesOf]; exact Nat.le_trans (smallR_right hrr).1 (by omega)) (by rw [sizeOf, bytesOf]; exact Nat.le_trans (smallR_right hrr).2.1 (by omega)) (by rw [sizeOf, bytesOf]; exact Nat.le_trans (smallR_right hrr).2.2 (by omega)) W
       rw [bytesOf, bytesOf, bytesOf] at RR TX
       obtain ⟨T, hT⟩ : ∃ T : ByteArray, (⟨(textR (p, z, y)).toArray⟩ : ByteArray) = T := ⟨_, rfl⟩
       have HT : Hid (T.data.toList = textR (p, z, y)) := Lib.hid (by rw [← hT])
       rw [hT] at TX
       have HSN := map_snocQ textR hf
       have hlen : ((g0.take q).map textR).length = q := by rw [List.length_map, List.length_take, HM.out]; omega
       obtain ⟨L, hLL⟩ : ∃ L, (g0.take q).map textR = L := ⟨_, rfl⟩
       rw [hLL] at HO2 hlen HSN
       have HSN := Lib.hid HSN
       have HLEN := Lib.hid hlen
       obtain ⟨r, hr⟩ : ∃ r, rightR (p, z, y) = r := ⟨_, rfl⟩
       rw [hr] at RR
       have HF := Lib.hid hf
       generalize bsT p = P at *
       generalize bsT z = Z at *
       generalize bsT y = Y at *
       cases r
       ·
        have HBAD : Hid (badG g0 = true) := Lib.hid (by unfold badG; rw [all_badQ HF.out hr]; simp)
        have G := Lib.hid (G1.out (bad_hit HX.out HBAD.out))
        clear hf hT hlen hx3 hLL hr TX HO2 H2 H
        go_wp2_with (go_at_call 37; (with_reducible refine (RR _).mono ?_); rintro e w4 ⟨rfl, hb⟩; have HB4 := Lib.hid (HBW.out.trans (hb.mono hszw)); clear hb RR)
        go_ret2
        exact G.out _ HB4.out
       ·
        have H3 : Hid (∀ (j : Nat) y, j < q + 1 → g0[j]? = some y → rightR y = true) := Lib.hid (fun j y hj hy => by
         by_cases e : j = q
         ·
          subst e; rw [HF.out] at hy; cases hy; exact hr
         ·
          exact H2.out j y (by omega) hy)
        have TX := TX hr
        clear hf hT hlen hx3 hLL hr H2
        go_wp2_with (first
         | (go_at_call 37; (with_reducible refine (RR _).mono ?_); rintro e w4 ⟨rfl, hb⟩; have hb4 := HB2.out.trans (hb.mono hszo); have HB4 := Lib.hid hb4; have HBW4 := Lib.hid (HB.out.trans (hb4.mono hsz)); have c1 := HC0.out _ HBW4.out; have e0 := (hb.cell (p := ⟨sb, so + q * 3, none⟩) (Nat.lt_of_lt_of_le hsbw hszw)).trans d0; have e1 := (hb.cell (p := ⟨sb, so + q * 3 + 1, none⟩) (Nat.lt_of_lt_of_le hsbw hszw)).trans d1; have e2 := (hb.cell (p := ⟨sb, so + q * 3 + 2, none⟩) (Nat.lt_of_lt_of_le hsbw hszw)).trans d2; have HO4 := Lib.hid (OwnT.onQ HO2.out hb); clear hb hb4 RR d0 d1 d2 c0 HO2)
         | (go_at_call 38; (with_reducible refine (TX _).mono ?_); rintro e w5 ⟨rfl, hb⟩; have HB5 := Lib.hid (HB4.out.trans (hb.mono HB4.out.size)); have HO5 := Lib.hid (OwnT.onQ HO4.out hb); have hz5 := HB5.out.size; clear hb TX)
         | (at_builtin; refine wpList_append_own _ rfl _ _ 40 rfl wo.heap.size 9 i0 _ 1 16 Tryz.underlying40 hi hz0 hz1 hz2' rfl (by decide) _ _ _ rfl (World.ownsRow.alloc HO5.out _) ⟨w5.heap.size, 0, none⟩ 1 1 [.string T] rfl rfl (by intro j u hj; match j, hj with | 0, hj => simp at hj; subst hj; simp [Addr.add]) (by intro u hu; simp at hu; subst hu; rfl) (by rw [HLEN.out]; unfold maxLen; omega) (by rw [HLEN.out]; omega) (by simp; omega) ?_))
        intro v' w6 hown' hgrow _
        have HO6 : Hid (OwnT w6 wo.heap.size v' ((g0.take (q + 1)).map textR)) := Lib.hid (by rw [HSN.out]; exact OwnT.app HT.out hown')
        have HB6 : Hid (Below wo.heap.size wo w6) := Lib.hid (belowG HB5.out HO5.out hgrow (Nat.le_refl _) hz5)
        clear hown' hgrow
        go_wp2
        go_roundw
        case rel => exact ⟨q + 1, by omega, by go_num, HO6, H3, HB6⟩
        case measure => simp [intOf]; omega
      ·
       obtain rfl : q = m := by omega
       have hall : g0.all rightR = true := all_takeQ (fun j y hy => H2.out j y (by have := (List.getElem?_eq_some_iff.1 hy).1; rw [HM.out] at this; exact this) hy)
       have HTK : Hid ((g0.take q).map textR = g0.map textR) := Lib.hid (by rw [List.take_of_length_le (by rw [HM.out]; omega)])
       have hown := HO2.out
       rw [HTK.out] at hown
       obtain ⟨oa, oc, hov⟩ := OwnT.formQ hown
       rw [List.length_map, HM.out] at hov
       subst hov
       by_cases h0 : q = 0
       ·
        have G := Lib.hid (G1.out (bad_hit HX.out (by unfold badG; rw [HM.out, decide_eq_true h0]; rfl)))
        have e1 : ((q : Int) == 0) = true := by rw [h0]; rfl
        clear hown hall H2 H HO2 h0
        go_wp2
        go_ret2
        exact G.out _ HBW.out
       ·
        have HNB : Hid (badG g0 = false) := Lib.hid (by unfold badG; rw [HM.out, decide_eq_false h0, hall]; rfl)
        have e1 : ((q : Int) == 0) = false := by rw [beq_eq_false_iff_ne]; omega
        have J := join6_any ⟨#[32, 124, 32]⟩ (by decide) _ (g0.map textR) (by rw [List.length_map, HM.out]; omega) (fun p hp => by
         obtain ⟨x, hx, rfl⟩ := List.mem_map.1 hp
         have := textR_len (smallR_right (List.all_eq_true.1 hall x hx)); omega) wr hown.holds
        obtain ⟨T, hT⟩ : ∃ T : ByteArray, bsT (Lib.join (g0.map textR) (ByteArray.mk #[32, 124, 32]).data.toList) = T := ⟨_, rfl⟩
        have HT : Hid (T.data.toList = textG g0) := Lib.hid (by rw [← hT]; rfl)
        rw [hT] at J
        have HNX : Hid (∀ (j : Nat) y, j < t + 1 → l[j]? = some y → badG y.1 = false) := Lib.hid (fun j y hj hy => by
         by_cases e : j = t
         ·
          subst e; rw [HX.out] at hy; cases hy; exact HNB.out
         ·
          exact H.out j y (by omega) hy)
        have hsn : (fsts (l.take (t + 1))).map textG = (fsts (l.take t)).map textG ++ [textG g0] := by
         rw [take_snocQ HX.out]; simp [fsts]
        have hlen : ((fsts (l.take t)).map textG).length = t := by rw [List.length_map, List.length_map, List.length_take, HN.out]; omega
        have HOW := Lib.hid (OwnT.onQ HO.out HB2.out)
        obtain ⟨L, hLL⟩ : ∃ L, (fsts (l.take t)).map textG = L := ⟨_, rfl⟩
        rw [hLL] at hsn hlen HOW
        have HSN := Lib.hid hsn
        have HLEN := Lib.hid hlen
        clear hown hall H2 H HO2 h0 hT hsn hlen hLL HO
        go_wp2_with (first
         | (go_at_call 21; (with_reducible refine J.mono ?_); rintro e w4 ⟨rfl, rfl⟩; clear J)
         | (at_builtin; refine wpList_append_own _ rfl _ _ 40 rfl w.heap.size 9 i0 _ 1 16 Tryz.underlying40 hi hz0 hz1 hz2' rfl (by decide) _ _ _ rfl (World.ownsRow.alloc HOW.out _) ⟨wr.heap.size, 0, none⟩ 1 1 [.string T] rfl rfl (by intro j u hj; match j, hj with | 0, hj => simp at hj; subst hj; simp [Addr.add]) (by intro u hu; simp at hu; subst hu; rfl) (by rw [HLEN.out]; unfold maxLen; omega) (by rw [HLEN.out]; omega) (by simp; omega) ?_))
        intro v' w6 hown' hgrow _
        have HO6 : Hid (OwnT w6 w.heap.size v' ((fsts (l.take (t + 1))).map textG)) := Lib.hid (by rw [HSN.out]; exact OwnT.app HT.out hown')
        have HB6 : Hid (Below w.heap.size w w6) := Lib.hid (belowG HBW.out HOW.out hgrow (Nat.le_refl _) hszw)
        clear hown' hgrow
        go_wp2
        go_roundw
        case rel => exact ⟨t + 1, by omega, by go_num, HO6, HNX, HB6⟩
        case measure => simp [intOf]; omega
    ·
     obtain rfl : t = k := by omega
     have HTK : Hid ((fsts (l.take t)).map textG = (fsts l).map textG) := Lib.hid (by rw [List.take_of_length_le (by rw [HN.out]; omega)])
     have G := Lib.hid (G0.out (bad_miss (fun j y hy => H.out j y (by have := (List.getElem?_eq_some_iff.1 hy).1; rw [HN.out] at this; exact this) hy)))
     have hown := HO.out
     rw [HTK.out] at hown
     have J := join6_any ⟨#[44, 32]⟩ (by decide) _ ((fsts l).map textG) (by rw [List.length_map, List.length_map, HN.out]; omega) (fun p hp => by
      obtain ⟨g, hg, rfl⟩ := List.mem_map.1 hp
      obtain ⟨x, hx, rfl⟩ := List.mem_map.1 hg
      have hh := HS.out x hx
      obtain ⟨j, hj⟩ := List.mem_iff_getElem?.1 hx
      have hb := H.out j x (by have := (List.getElem?_eq_some_iff.1 hj).1; rw [HN.out] at this; exact this) hj
      have := textG_len (smallQ_right (goodG_right (by rw [hb]; simp))) hh.2; omega) wo hown.holds
     clear hlt H hown HO
     go_wp2_with (go_at_call 21; (with_reducible refine J.mono ?_); rintro e w4 ⟨rfl, rfl⟩; clear J)
     go_ret2
     exact G.out _ _ (by unfold textA fsts; rw [List.map_map]) HB.out
theorem onesBig {l : List Rl} {L : List Gv} (h : fsts L = onesL l) (hs : BigQ l) : BigG L := fun x hx => by
 have : x.1 ∈ onesL l := by rw [← h]; exact List.mem_map_of_mem hx
 obtain ⟨y, hy, e⟩ := List.mem_map.1 this
 rw [← e]
 exact ⟨fun z hz => by rw [List.mem_singleton.1 hz]; exact hs y hy, by simp⟩
theorem listEBig_ref (v : Value) (l : List Rl) (hl : l.length ≤ 500) (hs : BigQ l) (w : World) (h : HoldQ w v l) : Calls Tryz.prog 20 #[v] w (TwoP (listE l) w) := by
 have O := ones_ref v l (by omega) w h
 have AE : Hid (∀ v' L W, fsts L = onesL l → HoldGs W v' L → Calls Tryz.prog 14 #[v'] W (TwoP (listE l) W)) := Lib.hid (fun v' L W h1 h2 => by
  have hlen : L.length = l.length := by have := congrArg List.length h1; simpa [fsts, onesL] using this
  have := allEBig_ref v' L (by omega) (onesBig h1 hs) W h2
  rw [h1, ones_all] at this
  exact this)
 have HP : Hid (∀ w', Below w.heap.size w w' → TwoP (listE l) w (.returned (.tuple #[.string (bsT (listE l).1), .int .i64 (listE l).2])) w') := Lib.hid (fun w' hb => ⟨rfl, hb⟩)
 unfold TwoP at AE
 obtain ⟨a, c, b, o, rfl, -⟩ := h.parts
 generalize (listE l).2 = k2 at *
 generalize bsT (listE l).1 = S1 at *
 generalize l.length = n at *
 clear h hs hl
 go_enter Tryz.func20, Tryz.ntmps20
 go_wp2_with (first
  | (go_at_call 49; (with_reducible refine O.mono ?_); rintro e w1 ⟨⟨a1, c1, L, rfl, h1, h2⟩, hb⟩; have HB1 := Lib.hid hb; have A1 := AE.out _ L w1 h1 h2.holds; clear hb h1 h2 O)
  | (go_at_call 14; (with_reducible refine A1.mono ?_); rintro e w2 ⟨rfl, hb⟩; have HB2 := Lib.hid (HB1.out.trans (hb.mono HB1.out.size)); clear hb))
 go_ret2
 exact HP.out _ HB2.out
end
end Go.Proofs.YtkbkaeefdhkgdaaGreatDoor
