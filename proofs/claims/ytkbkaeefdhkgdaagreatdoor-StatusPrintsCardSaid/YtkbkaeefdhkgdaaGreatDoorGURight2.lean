import Derived.Test.YtkbkaeefdhkgdaaGreatDoorGQCutG
import Derived.Test.YtkbkaeefdhkgdaaGreatDoorGUWord
import Derived.Test.YtkbkaeefdhkgdaaGreatDoorGUKeyF
set_option maxRecDepth 100000
set_option maxHeartbeats 32000000
namespace Go.Proofs.YtkbkaeefdhkgdaaGreatDoor
section
open Go.RowKit
theorem nameBig_any (s : ByteArray) (hs : s.size ≤ maxLen) (w : World) : Calls Tryz.prog 52 #[.string s] w fun e w' => e = .returned (.bool (nameB s.data.toList)) ∧ w = w' := by
 by_cases h : s.size ≤ 4000
 ·
  exact name_any s h w
 ·
  have hl := Lib.size_eq s
  have hB : nameB s.data.toList = false := by
   unfold nameB
   rw [show decide (s.data.toList.length ≤ 60) = false by simp; omega]
   simp
  rw [hB]
  clear hB hl
  unfold maxLen at hs
  go_enter Tryz.func52, Tryz.ntmps52
  go_wp2
  go_ret
  exact ⟨rfl, rfl⟩
theorem parseBig_any (s : ByteArray) (hs : s.size ≤ maxLen) (w : World) (h : LaidV w) : Calls Tryz.prog 101 #[.string s] w (ParsePost s.data.toList w) := by
 by_cases h4 : s.size ≤ 4000
 ·
  exact parse_any s h4 w h
 ·
  have hl := sizeOf s
  have HP : Hid (∀ e w', e = .returned (.tuple #[.agg #[.int .i64 0, .string ⟨#[]⟩, .string ⟨#[]⟩], .int .i64 8]) → Below w.heap.size w w' → ParsePost s.data.toList w e w') := Lib.hid (fun e w' h g => ⟨by rw [parseV_long (by omega)]; exact h, g⟩)
  clear hl h
  unfold maxLen at hs
  go_enter Tryz.func101, Tryz.ntmps101
  go_wp2
  exact bodyPost_ret (v := .tuple #[.agg #[.int .i64 0, .string ⟨#[]⟩, .string ⟨#[]⟩], .int .i64 8]) (by simp [results, Tryz.results101, go_sem]) rfl (HP.out _ _ rfl ((Below.refl _ _).alloc (Nat.le_refl _) _))
end
section
open Go.RowKit
theorem isVersionBig_any (v : ByteArray) (hv : v.size ≤ maxLen) (w : World) (h : LaidV w) : Calls Tryz.prog 157 #[.string v] w fun e w' => e = .returned (.bool (decide ((parseE v.data.toList).2 = 0))) ∧ Below w.heap.size w w' := by
 have PV := parseBig_any v hv w h
 unfold ParsePost parseV verV at PV
 obtain ⟨k, hk⟩ : ∃ k : Int, (parseE v.data.toList).2 = k := ⟨_, rfl⟩
 obtain ⟨z, hz⟩ : ∃ z : Int, (parseE v.data.toList).1.1 = z := ⟨_, rfl⟩
 obtain ⟨U, hU⟩ : ∃ U : ByteArray, (⟨((parseE v.data.toList).1.2.1).toArray⟩ : ByteArray) = U := ⟨_, rfl⟩
 obtain ⟨V, hV⟩ : ∃ V : ByteArray, (⟨((parseE v.data.toList).1.2.2).toArray⟩ : ByteArray) = V := ⟨_, rfl⟩
 simp only [hk, hz, hU, hV] at PV ⊢
 have hkd : Hid (decide (k = 0) = (k == 0)) := Lib.hid rfl
 clear hk hz hU hV h
 go_enter Tryz.func157, Tryz.ntmps157
 go_wp2_with (go_at_call 101; (with_reducible refine PV.mono ?_); rintro e w2 ⟨rfl, hb⟩; have HB := Lib.hid (hb.alloc hb.size (.cells #[.int .i64 z, .string U, .string V] 100)); clear hb)
 go_ret
 exact ⟨retb hkd.out.symm, HB.out⟩
theorem rightRBig_any (n o v : ByteArray) (hn : n.size ≤ maxLen) (hv : v.size ≤ maxLen) (w : World) (hL : LaidV w) :
  Calls Tryz.prog 127 #[.agg #[.string n, .string o, .string v]] w fun e w' => e = .returned (.bool (rightR (n.data.toList, o.data.toList, v.data.toList))) ∧ Below w.heap.size w w' := by
 have NM := fun w => nameBig_any n hn w
 have OP := fun w => operator_any o w
 have IV := fun w h => isVersionBig_any v hv w h
 obtain ⟨R, hR⟩ : ∃ R, rightR (n.data.toList, o.data.toList, v.data.toList) = R := ⟨_, rfl⟩
 have hrt := right_to (n.data.toList, o.data.toList, v.data.toList)
 rw [hR] at hrt ⊢
 have hez := emptyT o
 have hev := emptyT v
 have hal : ∀ (o : Obj), Below w.heap.size w (w.alloc o) := fun o => (Below.refl _ _).alloc (Nat.le_refl _) _
 have HAL := Lib.hid hal
 have HLA := Lib.hid (fun o => hL.on (hal o))
 clear hR hal hL
 cases hrt with
 | name h =>
  simp only [] at h
  simp only [h] at NM
  clear hez hev
  go_enter Tryz.func127, Tryz.ntmps127
  go_wp2_with (go_at_call 52; (with_reducible refine (NM _).mono ?_); rintro e w1 ⟨rfl, rfl⟩)
  go_ret
  exact ⟨rfl, HAL.out _⟩
 | bare h h2 =>
  simp only [] at h h2
  simp only [h] at NM
  have ho : o.size = 0 := by rw [sizeOf, h2]; rfl
  rw [decide_eq_true ho] at hez
  have hvv : decide (v.data.toList = []) = decide (v.size = 0) := by
   congr 1
   rw [sizeOf, List.length_eq_zero_iff]
  simp only [hvv]
  rw [h2, show opB [] = false from rfl] at OP
  obtain ⟨q, hq⟩ : ∃ q, decide (v.size = 0) = q := ⟨_, rfl⟩
  rw [hq] at hev ⊢
  clear ho h h2 hvv hq
  cases q
  all_goals
   go_enter Tryz.func127, Tryz.ntmps127
   go_wp2_with (first
    | (go_at_call 52; (with_reducible refine (NM _).mono ?_); rintro e w1 ⟨rfl, rfl⟩)
    | (go_at_call 156; (with_reducible refine (OP _).mono ?_); rintro e w2 ⟨rfl, rfl⟩))
   go_ret
   exact ⟨rfl, HAL.out _⟩
 | op h h2 =>
  simp only [] at h h2
  simp only [h] at NM
  have ho : ¬ o.size = 0 := fun e => h2 (List.eq_nil_of_length_eq_zero (by rw [← sizeOf]; exact e))
  rw [decide_eq_false ho] at hez
  obtain ⟨kb, hkb⟩ : ∃ kb, decide ((parseE v.data.toList).2 = 0) = kb := ⟨_, rfl⟩
  simp only [hkb] at IV ⊢
  obtain ⟨ob, hob⟩ : ∃ ob, opB o.data.toList = ob := ⟨_, rfl⟩
  simp only [hob] at OP ⊢
  clear ho h h2 hev hkb hob
  cases ob
  ·
   go_enter Tryz.func127, Tryz.ntmps127
   go_wp2_with (first
    | (go_at_call 52; (with_reducible refine (NM _).mono ?_); rintro e w1 ⟨rfl, rfl⟩)
    | (go_at_call 156; (with_reducible refine (OP _).mono ?_); rintro e w2 ⟨rfl, rfl⟩))
   go_ret
   exact ⟨rfl, HAL.out _⟩
  ·
   go_enter Tryz.func127, Tryz.ntmps127
   go_wp2_with (first
    | (go_at_call 52; (with_reducible refine (NM _).mono ?_); rintro e w1 ⟨rfl, rfl⟩)
    | (go_at_call 156; (with_reducible refine (OP _).mono ?_); rintro e w2 ⟨rfl, rfl⟩)
    | (go_at_call 157; (with_reducible refine (IV _ (HLA.out _)).mono ?_); rintro e w3 ⟨rfl, hb⟩; have HB := Lib.hid ((HAL.out _).trans (hb.mono (HAL.out _).size)); clear hb))
   go_ret
   exact ⟨rfl, HB.out⟩
end
section
open Go.RowKit
def BigQ (l : List Rl) : Prop := ∀ x ∈ l, x.1.length ≤ maxLen ∧ x.2.1.length ≤ maxLen ∧ x.2.2.length ≤ maxLen
theorem smallR_right {x : Rl} (h : rightR x = true) : x.1.length ≤ 4000 ∧ x.2.1.length ≤ 4000 ∧ x.2.2.length ≤ 4000 := by
 unfold rightR at h
 rw [Bool.and_eq_true] at h
 have h1 : x.1.length ≤ 60 := by
  have := h.1
  unfold nameB at this
  simp only [Bool.and_eq_true, decide_eq_true_eq] at this
  omega
 by_cases h2 : x.2.1 = []
 ·
  rw [if_pos h2, decide_eq_true_eq] at h
  rw [h2, h.2]
  exact ⟨by omega, by simp, by simp⟩
 ·
  rw [if_neg h2, Bool.and_eq_true, decide_eq_true_eq] at h
  have h3 : x.2.1.length ≤ 2 := by
   have := h.2.1
   unfold opB at this
   simp only [Bool.or_eq_true, decide_eq_true_eq] at this
   rcases this with ((((e | e) | e) | e) | e) <;> rw [e] <;> simp
  have h4 : x.2.2.length ≤ 80 := by
   by_cases h80 : 80 < x.2.2.length
   ·
    have := h.2.2
    unfold parseE at this
    rw [if_pos h80] at this
    simp at this
   ·
    omega
  exact ⟨by omega, by omega, by omega⟩
theorem smallQ_right {l : List Rl} (h : l.all rightR = true) : SmallQ l := fun x hx => smallR_right (List.all_eq_true.1 h x hx)
theorem allRight1Big_any (x : Rl) (h1 : x.1.length ≤ maxLen ∧ x.2.1.length ≤ maxLen ∧ x.2.2.length ≤ maxLen) (w : World) (hL : LaidV w) : Calls Tryz.prog 126 #[aggQ x] w fun e w' => e = .returned (.bool (!rightR x)) ∧ Below w.heap.size w w' := by
 have R := fun W h => rightRBig_any (bsT x.1) (bsT x.2.1) (bsT x.2.2) (by rw [sizeOf, bytesOf]; omega) (by rw [sizeOf, bytesOf]; omega) W h
 rw [bytesOf, bytesOf, bytesOf] at R
 obtain ⟨p, q, z⟩ := x
 dsimp only at R ⊢
 unfold aggQ
 dsimp only
 generalize rightR (p, q, z) = r at *
 have HBA : Hid (∀ o, Below w.heap.size w (w.alloc o)) := Lib.hid (fun o => (Below.refl _ _).alloc (Nat.le_refl _) o)
 have HLA := Lib.hid (fun o => hL.on (HBA.out o))
 generalize bsT p = P at *
 generalize bsT q = Q at *
 generalize bsT z = Z at *
 clear hL h1
 go_enter Tryz.func126, Tryz.ntmps126
 go_wp2_with (go_at_call 127; (with_reducible refine (R _ (HLA.out _)).mono ?_); rintro e w1 ⟨rfl, hb⟩; have HB := Lib.hid ((HBA.out _).trans (hb.mono (HBA.out _).size)); clear hb)
 go_ret
 exact ⟨rfl, HB.out⟩
theorem allRightBig_any (v : Value) (l : List Rl) (hl : l.length ≤ 90000) (hs : BigQ l) (w : World) (h : HoldQ w v l) (hL : LaidV w) : Calls Tryz.prog 84 #[v] w fun e w' => e = .returned (.bool (l.all rightR)) ∧ Below w.heap.size w w' := by
 have EN : ∀ args w, (callFunc 126 args).run Tryz.prog w = .ok (.enter 126 args) w := enters_of Tryz.func126 (by kernel_rfl) rfl
 have C := contQ_any 126 #[] EN (fun x => !rightR x) v l hl w h (fun W x hx hb => by
  have := allRight1Big_any x (hs x hx) W (hL.on hb)
  simpa using this)
 have HA : Hid (l.all rightR = !(l.any fun x => !rightR x)) := Lib.hid (by rw [List.not_any_eq_all_not]; simp)
 rw [HA.out]
 obtain ⟨a, c, b, o, rfl, -⟩ := h.parts
 generalize (l.any fun x => !rightR x) = r at *
 generalize l.length = n at *
 clear EN h hs hL hl
 go_enter Tryz.func84, Tryz.ntmps84
 go_wp2_with (go_at_call 125; (with_reducible refine C.mono ?_); rintro e w1 ⟨rfl, hb⟩; have HB := Lib.hid hb; clear hb)
 go_ret
 exact ⟨rfl, HB.out⟩
theorem listBig_any (v : Value) (l : List Rl) (hl : l.length ≤ 90000) (hs : BigQ l) (w : World) (h : HoldQ w v l) (hL : LaidV w) : Calls Tryz.prog 41 #[v] w (TwoP (listE l) w) := by
 have AR := fun W hb => allRightBig_any v l hl hs W (HoldV.on h hb) (hL.on hb)
 have HH := Lib.hid h
 have hvf : ∃ a c, v = .slice a l.length c := by obtain ⟨a, c, b, o, e, -⟩ := h.parts; exact ⟨a, c, e⟩
 obtain ⟨a, c, hve⟩ := hvf
 have JN0 : Hid (l.all rightR = true → ∀ W, Below w.heap.size w W → Calls Tryz.prog 87 #[.slice a l.length c, .string ⟨#[44, 32]⟩, .func (.func 88) #[] #[]] W fun e w' => e = .returned (.string (bsT (Lib.join (l.map textR) (ByteArray.mk #[44, 32]).data.toList))) ∧ Below W.heap.size W w') := Lib.hid (fun hr W hb => by
  have := joinedR_any ⟨#[44, 32]⟩ (by decide) v l hl (smallQ_right hr) W (HoldV.on HH.out hb)
  rw [hve] at this
  exact this)
 subst hve
 clear HH
 have FU := fun W => fullQ_any a l.length c hl W
 by_cases h64 : 64 < l.length
 ·
  rw [decide_eq_true h64] at FU
  have HP : Hid (∀ w', Below w.heap.size w w' → TwoP (listE l) w (.returned (.tuple #[.string ⟨#[]⟩, .int .i64 22])) w') := Lib.hid (fun w' hb => ⟨by unfold listE; rw [if_pos h64], hb⟩)
  generalize l.length = n at *
  clear h h64 AR JN0 hs hL hl
  go_enter Tryz.func41, Tryz.ntmps41
  go_wp2_with (go_at_call 83; (with_reducible refine (FU _).mono ?_); rintro e w1 ⟨rfl, hb⟩; have HB := Lib.hid hb; clear hb)
  go_ret2
  exact HP.out _ HB.out
 rw [decide_eq_false h64] at FU
 cases hr : l.all rightR
 ·
  rw [hr] at AR
  have HP : Hid (∀ w', Below w.heap.size w w' → TwoP (listE l) w (.returned (.tuple #[.string ⟨#[]⟩, .int .i64 1])) w') := Lib.hid (fun w' hb => ⟨by unfold listE; rw [if_neg h64, hr]; rfl, hb⟩)
  generalize l.length = n at *
  clear h h64 JN0 hs hL hl hr
  go_enter Tryz.func41, Tryz.ntmps41
  go_wp2_with (first
   | (go_at_call 83; (with_reducible refine (FU _).mono ?_); rintro e w1 ⟨rfl, hb⟩; have HB := Lib.hid hb; clear hb)
   | (go_at_call 84; (with_reducible refine (AR _ HB.out).mono ?_); rintro e w2 ⟨rfl, hb⟩; have HB2 := Lib.hid (HB.out.trans (hb.mono HB.out.size)); clear hb))
  go_ret2
  exact HP.out _ HB2.out
 ·
  rw [hr] at AR
  have JN := fun W hb => JN0.out hr W hb
  clear JN0
  obtain ⟨R, hR⟩ : ∃ R, bsT (Lib.join (l.map textR) (ByteArray.mk #[44, 32]).data.toList) = R := ⟨_, rfl⟩
  rw [hR] at JN
  have HP : Hid (∀ w', Below w.heap.size w w' → TwoP (listE l) w (.returned (.tuple #[.string R, .int .i64 0])) w') := Lib.hid (fun w' hb => ⟨by unfold listE; rw [if_neg h64, hr, if_pos rfl, ← hR]; rfl, hb⟩)
  generalize l.length = n at *
  clear h h64 hs hL hl hr hR
  go_enter Tryz.func41, Tryz.ntmps41
  go_wp2_with (first
   | (go_at_call 83; (with_reducible refine (FU _).mono ?_); rintro e w1 ⟨rfl, hb⟩; have HB := Lib.hid hb; clear hb)
   | (go_at_call 84; (with_reducible refine (AR _ HB.out).mono ?_); rintro e w2 ⟨rfl, hb⟩; have HB2 := Lib.hid (HB.out.trans (hb.mono HB.out.size)); clear hb)
   | (go_at_call 87; (with_reducible refine (JN _ HB2.out).mono ?_); rintro e w3 ⟨rfl, hb⟩; have HB3 := Lib.hid (HB2.out.trans (hb.mono HB2.out.size)); clear hb))
  go_ret2
  exact HP.out _ HB3.out
end
section
open Go.RowKit
def BigG (l : List Gv) : Prop := ∀ x ∈ l, BigQ x.1 ∧ x.1.length ≤ 500
theorem goodG_right {g : List Rl} (h : ¬ badG g = true) : g.all rightR = true := by
 unfold badG at h
 rw [Bool.or_eq_true, not_or] at h
 simpa using h.2
theorem allBig_any (v : Value) (l : List Gv) (hl : l.length ≤ 500) (hs : BigG l) (w : World) (h : HoldGs w v l) (hL : LaidV w) : Calls Tryz.prog 40 #[v] w (TwoP (allE (fsts l)) w) := by
 have EN : ∀ args w, (callFunc 83 args).run Tryz.prog w = .ok (.enter 83 args) w := enters_of Tryz.func83 (by kernel_rfl) rfl
 have CF := fun W hb => contG_any 83 #[] EN (fun x => longG x.1) v l (by omega) W (h.on hb) (fun W' x hx _ => by
  obtain ⟨a, c, -, -, e, -⟩ := (h.2 x hx).parts
  have hh := hs x hx
  rw [e]
  have := fullQ_any a x.1.length c (by omega) W'
  simpa [longG] using this)
 have HA : Hid (l.any (fun x => longG x.1) = (fsts l).any longG) := Lib.hid (by rw [List.any_map]; rfl)
 rw [HA.out] at CF
 have JN : (fsts l).any badG = false → ∀ W, Below w.heap.size w W → Calls Tryz.prog 85 #[v, .string ⟨#[44, 32]⟩, .func (.func 86) #[] #[]] W fun e w' => e = .returned (.string (bsT (Lib.join (l.map gtx) (ByteArray.mk #[44, 32]).data.toList))) ∧ Below W.heap.size W w' := fun hq W hb =>
  joinedG_any ⟨#[44, 32]⟩ (by decide) v l (by omega) (fun x hx => ⟨smallQ_right (goodG_right (List.any_eq_false.1 hq x.1 (List.mem_map_of_mem hx))), (hs x hx).2⟩) W (h.on hb)
 obtain ⟨a, c, b, o, rfl, hc, ha, hcell⟩ := h.parts
 have FU := fun W => fullG_any a l.length c (by omega) W
 obtain ⟨R, hR⟩ : ∃ R, bsT (Lib.join (l.map gtx) (ByteArray.mk #[44, 32]).data.toList) = R := ⟨_, rfl⟩
 rw [hR] at JN
 have HRA : Hid (R = bsT (textA (fsts l))) := Lib.hid (by rw [← hR]; unfold textA; rw [List.map_map]; rfl)
 have hfl : (fsts l).length = l.length := List.length_map ..
 have HE : Hid (allE (fsts l) = if decide (64 < l.length) || (fsts l).any longG then ([], 22) else if (fsts l).any badG then ([], 1) else (textA (fsts l), 0)) := Lib.hid (by unfold allE; rw [hfl])
 have HC := Lib.hid hcell
 have HG := Lib.hid h
 have HS := Lib.hid hs
 have HL := Lib.hid hL
 obtain ⟨n, hN⟩ : ∃ n, l.length = n := ⟨_, rfl⟩
 rw [hN] at hc ha hl FU HE CF JN ⊢
 have HN := Lib.hid hN
 clear hcell hN h hs hL hR hfl EN
 obtain ⟨f1, hf1⟩ : ∃ f1, decide (64 < n) = f1 := ⟨_, rfl⟩
 obtain ⟨f2, hf2⟩ : ∃ f2, (fsts l).any longG = f2 := ⟨_, rfl⟩
 rw [hf1] at FU HE
 rw [hf2] at CF HE
 clear hf1 hf2
 by_cases hf : f1 = true
 ·
  subst hf
  have HP : Hid (∀ w', Below w.heap.size w w' → TwoP (allE (fsts l)) w (.returned (.tuple #[.string ⟨#[]⟩, .int .i64 22])) w') := Lib.hid (fun w' hb => ⟨by rw [HE.out, if_pos (by simp)], hb⟩)
  clear HE CF JN
  go_enter Tryz.func40, Tryz.ntmps40
  go_wp2_with (go_at_call 81; (with_reducible refine (FU _).mono ?_); rintro e w1 ⟨rfl, hb⟩; have HB := Lib.hid hb; clear hb)
  go_ret2
  exact HP.out _ HB.out
 obtain rfl : f1 = false := by cases f1 <;> simp_all
 clear hf
 cases f2
 case true =>
  have HP : Hid (∀ w', Below w.heap.size w w' → TwoP (allE (fsts l)) w (.returned (.tuple #[.string ⟨#[]⟩, .int .i64 22])) w') := Lib.hid (fun w' hb => ⟨by rw [HE.out, if_pos (by simp)], hb⟩)
  clear HE JN
  go_enter Tryz.func40, Tryz.ntmps40
  go_wp2_with (first
   | (go_at_call 81; (with_reducible refine (FU _).mono ?_); rintro e w1 ⟨rfl, hb⟩; have HB := Lib.hid hb; clear hb)
   | (go_at_call 82; (with_reducible refine (CF _ HB.out).mono ?_); rintro e w2 ⟨rfl, hb⟩; have HB2 := Lib.hid (HB.out.trans (hb.mono HB.out.size)); clear hb))
  go_ret2
  exact HP.out _ HB2.out
 case false =>
  have H1 : Hid ((fsts l).any badG = true → ∀ w', Below w.heap.size w w' → TwoP (allE (fsts l)) w (.returned (.tuple #[.string ⟨#[]⟩, .int .i64 1])) w') := Lib.hid (fun hq w' hb => ⟨by rw [HE.out, if_neg (by simp), if_pos hq], hb⟩)
  have H0 : Hid ((fsts l).any badG = false → ∀ w', Below w.heap.size w w' → TwoP (allE (fsts l)) w (.returned (.tuple #[.string R, .int .i64 0])) w') := Lib.hid (fun hq w' hb => ⟨by rw [HE.out, if_neg (by simp), if_neg (by rw [hq]; simp), HRA.out], hb⟩)
  clear HE HRA
  go_enter Tryz.func40, Tryz.ntmps40
  go_wp2_with (first
   | (go_at_call 81; (with_reducible refine (FU _).mono ?_); rintro e w1 ⟨rfl, hb⟩; have HB := Lib.hid hb; clear hb)
   | (go_at_call 82; (with_reducible refine (CF _ HB.out).mono ?_); rintro e w2 ⟨rfl, hb⟩; have HB2 := Lib.hid (HB.out.trans (hb.mono HB.out.size)); clear hb))
  clear CF FU
  go_loopw [14] (fun i wr => ∃ k : Nat, k ≤ n ∧ i = .int .i64 k ∧ Hid (∀ (j : Nat) y, j < k → l[j]? = some y → badG y.1 = false) ∧ Hid (Below w.heap.size w wr)) (fun i _ => n - (intOf i).toNat)
  case atStart => exact ⟨0, by omega, rfl, Lib.hid (fun j y hj => by omega), HB2⟩
  case round =>
   obtain ⟨k, hk, rfl, H, HB3⟩ := hrel
   have hsz := HB3.out.size
   by_cases hlt : k < n
   ·
    obtain ⟨rfl, hbw⟩ := ha (by omega)
    obtain ⟨⟨g0, sv⟩, hx⟩ : ∃ x, l[k]? = some x := ⟨_, List.getElem?_eq_getElem (by rw [HN.out]; exact hlt)⟩
    have hgx := HG.out.2 _ (List.mem_of_getElem? hx)
    have hsm := HS.out _ (List.mem_of_getElem? hx)
    have c0 := HC.out k _ hx
    dsimp only at c0 hsm hgx
    rw [← HB3.out.cell (p := ⟨b, o + k, none⟩) hbw] at c0
    have AR := allRightBig_any sv g0 (by omega) hsm.1 wr (HoldV.on hgx HB3.out) (HL.out.on HB3.out)
    obtain ⟨sa, sc, -, -, hsv, -⟩ := hgx.parts
    subst hsv
    have HX := Lib.hid hx
    have HNX : Hid (badG g0 = false → ∀ (j : Nat) y, j < k + 1 → l[j]? = some y → badG y.1 = false) := Lib.hid (fun hq j y hj hy => by
     by_cases e : j = k
     ·
      subst e
      rw [HX.out] at hy; cases hy
      exact hq
     ·
      exact H.out j y (by omega) hy)
    have HBD : Hid (badG g0 = true → ∀ w', Below w.heap.size w w' → TwoP (allE (fsts l)) w (.returned (.tuple #[.string ⟨#[]⟩, .int .i64 1])) w') := Lib.hid (fun hq => H1.out (bad_hit HX.out hq))
    clear hx hgx H
    by_cases h0 : g0.length = 0
    ·
     have G := Lib.hid (HBD.out (by unfold badG; rw [decide_eq_true h0]; rfl))
     have e1 : ((g0.length : Int) == 0) = true := by rw [h0]; rfl
     clear AR HNX HBD
     generalize g0.length = gn at *
     clear h0
     go_wp2
     go_ret2
     exact G.out _ HB3.out
    ·
     have e1 : ((g0.length : Int) == 0) = false := by rw [beq_eq_false_iff_ne]; omega
     have hbg : badG g0 = !g0.all rightR := by unfold badG; rw [decide_eq_false h0, Bool.false_or]
     cases hr : g0.all rightR
     ·
      rw [hr] at AR hbg
      have G := Lib.hid (HBD.out hbg)
      clear HNX HBD hbg hr
      generalize g0.length = gn at *
      clear h0
      go_wp2_with (go_at_call 84; (with_reducible refine AR.mono ?_); rintro e w4 ⟨rfl, hb⟩; have HB4 := Lib.hid (HB3.out.trans (hb.mono hsz)); clear hb AR)
      go_ret2
      exact G.out _ HB4.out
     ·
      rw [hr] at AR hbg
      have G := Lib.hid (HNX.out hbg)
      clear HNX HBD hbg hr
      generalize g0.length = gn at *
      clear h0
      go_wp2_with (go_at_call 84; (with_reducible refine AR.mono ?_); rintro e w4 ⟨rfl, hb⟩; have HB4 := Lib.hid (HB3.out.trans (hb.mono hsz)); clear hb AR)
      go_roundw
      case rel => exact ⟨k + 1, by omega, by go_num, G, HB4⟩
      case measure => simp [intOf]; omega
   ·
    obtain rfl : k = n := by omega
    have G := Lib.hid (H0.out (bad_miss (fun j y hy => H.out j y (by have := (List.getElem?_eq_some_iff.1 hy).1; rw [HN.out] at this; exact this) hy)))
    have JQ := JN (bad_miss (fun j y hy => H.out j y (by have := (List.getElem?_eq_some_iff.1 hy).1; rw [HN.out] at this; exact this) hy))
    clear hlt H H0 H1 JN
    go_wp2_with (go_at_call 85; (with_reducible refine (JQ _ HB3.out).mono ?_); rintro e w4 ⟨rfl, hb⟩; have HB4 := Lib.hid (HB3.out.trans (hb.mono hsz)); clear hb)
    go_ret2
    exact G.out _ HB4.out
end
section
open Go.RowKit
def PredT (l : List Bs) (g : Nat) (lb : Array Value) (p : Bs → Bool) (w : World) : Prop :=
 ∀ W x, x ∈ l → Below w.heap.size w W → Calls Tryz.prog g (#[.string (⟨x.toArray⟩ : ByteArray)] ++ lb) W fun e w' => e = .returned (.bool (p x)) ∧ Below W.heap.size W w'
def idxT (l : List (Bs)) (p : Bs → Bool) : Int := match l.findIdx? p with
 | some k => (k : Int)
 | none => -1
theorem idxT_hit {l : List (Bs)} {p : Bs → Bool} {k : Nat} {x : Bs} (hx : l[k]? = some x) (hp : p x = true) (hb : ∀ (j : Nat) y, j < k → l[j]? = some y → p y = false) : l.findIdx? p = some k := by
 rw [List.findIdx?_eq_some_iff_getElem]
 obtain ⟨hk, e⟩ := List.getElem?_eq_some_iff.1 hx
 exact ⟨hk, by rw [e]; exact hp, fun j hj => by rw [hb j _ hj (List.getElem?_eq_getElem (by omega))]; simp⟩
theorem idxT_miss {l : List (Bs)} {p : Bs → Bool} (hb : ∀ (j : Nat) y, l[j]? = some y → p y = false) : l.findIdx? p = none := by
 rw [List.findIdx?_eq_none_iff]
 intro y hy
 obtain ⟨j, hj⟩ := List.mem_iff_getElem?.1 hy
 exact hb j y hj
theorem idxT_any (g : Nat) (lb : Array Value) (eg : ∀ args w, (callFunc g args).run Tryz.prog w = .ok (.enter g args) w) (p : Bs → Bool) (v : Value) (l : List (Bs)) (hl : l.length ≤ 90000) (w : World) (h : HoldT w v l) (hp : PredT l g lb p w) :
  Calls Tryz.prog 169 #[v, .func (.func g) #[] lb] w fun e w' => e = .returned (.int .i64 (idxT l p)) ∧ Below w.heap.size w w' := by
 obtain ⟨a, c, b, o, rfl, hc, ha, hcell⟩ := h
 have HC := Lib.hid hcell
 obtain ⟨Z, HZ⟩ : ∃ Z, Hid (idxT l p = Z) := ⟨_, rfl⟩
 rw [HZ.out]
 have HP := Lib.hid hp
 obtain ⟨n, hN⟩ : ∃ n, l.length = n := ⟨_, rfl⟩
 rw [hN] at hc ha hl ⊢
 have HN := Lib.hid hN
 clear hcell hp hN
 go_enter Tryz.func169, Tryz.ntmps169
 go_wp2
 go_loopw [8] (fun i wr => ∃ k : Nat, k ≤ n ∧ i = .int .i64 k ∧ Hid (∀ (j : Nat) y, j < k → l[j]? = some y → p y = false) ∧ Hid (Below w.heap.size w wr)) (fun i _ => n - (intOf i).toNat)
 case atStart => exact ⟨0, by omega, rfl, Lib.hid (fun j y hj => by omega), Lib.hid (Below.refl _ _)⟩
 case round =>
  obtain ⟨k, hk, rfl, H, HB⟩ := hrel
  by_cases hlt : k < n
  ·
   obtain ⟨rfl, hbw⟩ := ha (by omega)
   obtain ⟨a0, hx⟩ : ∃ x, l[k]? = some x := ⟨_, List.getElem?_eq_getElem (by rw [HN.out]; exact hlt)⟩
   have c0 := HC.out k a0 hx
   rw [← HB.out.cell (p := ⟨b, o + k, none⟩) hbw] at c0
   have hcall := HP.out wr a0 (List.mem_of_getElem? hx) HB.out
   have HX := Lib.hid hx
   clear hx
   cases hq : p a0
   ·
    rw [hq] at hcall
    have HK : Hid (∀ (j : Nat) y, j < k + 1 → l[j]? = some y → p y = false) := Lib.hid (fun j y hj hy => by
     by_cases e : j = k
     ·
      subst e
      rw [HX.out] at hy; cases hy
      exact hq
     ·
      exact H.out j y (by omega) hy)
    clear hq H
    generalize (⟨a0.toArray⟩ : ByteArray) = X0 at *
    go_wp2_with (go_at_fn g; refine hcall.mono ?_; rintro e w1 ⟨rfl, hb1⟩; have HB1 := Lib.hid (HB.out.trans (hb1.mono HB.out.size)); clear hb1)
    go_roundw
    case rel => exact ⟨k + 1, by omega, by go_num, HK, HB1⟩
    case measure => simp [intOf]; omega
   ·
    rw [hq] at hcall
    have HF : Hid ((k : Int) = Z) := Lib.hid (by rw [← HZ.out, idxT, idxT_hit HX.out hq H.out])
    clear hq H
    generalize (⟨a0.toArray⟩ : ByteArray) = X0 at *
    go_wp2_with (go_at_fn g; refine hcall.mono ?_; rintro e w1 ⟨rfl, hb1⟩; have HB1 := Lib.hid (HB.out.trans (hb1.mono HB.out.size)); clear hb1)
    go_ret
    exact ⟨reti HF.out, HB1.out⟩
  ·
   obtain rfl : k = n := by omega
   have HF : Hid ((-1 : Int) = Z) := Lib.hid (by rw [← HZ.out, idxT, idxT_miss (fun j y hy => H.out j y (by have := (List.getElem?_eq_some_iff.1 hy).1; rw [HN.out] at this; exact this) hy)])
   clear hlt H
   go_wp2
   go_ret
   exact ⟨reti HF.out, HB.out⟩
theorem idxT_neg {l : List Bs} {p : Bs → Bool} : (0 ≤ idxT l p) = (l.any p = true) := by
 unfold idxT
 cases h : l.findIdx? p with
 | none =>
  rw [List.findIdx?_eq_none_iff] at h
  have : l.any p = false := by rw [List.any_eq_false]; intro x hx; rw [h x hx]; simp
  rw [this]; simp
 | some k =>
  obtain ⟨hk, hp, _⟩ := List.findIdx?_eq_some_iff_getElem.1 h
  have : l.any p = true := List.any_eq_true.2 ⟨_, List.getElem_mem hk, hp⟩
  rw [this]; simp
theorem contT_any (g : Nat) (lb : Array Value) (eg : ∀ args w, (callFunc g args).run Tryz.prog w = .ok (.enter g args) w) (p : Bs → Bool) (v : Value) (l : List Bs) (hl : l.length ≤ 90000) (w : World) (h : HoldT w v l) (hp : PredT l g lb p w) :
  Calls Tryz.prog 139 #[v, .func (.func g) #[] lb] w fun e w' => e = .returned (.bool (l.any p)) ∧ Below w.heap.size w w' := by
 have C := idxT_any g lb eg p v l hl w h hp
 obtain ⟨a, c, b, o, rfl, -⟩ := h
 have HN := Lib.hid (idxT_neg (l := l) (p := p))
 generalize idxT l p = z at *
 generalize hq : l.any p = q at *
 have hz : decide (0 ≤ z) = q := by
  have := HN.out
  cases q
  ·
   rw [decide_eq_false_iff_not, this]; simp
  ·
   rw [decide_eq_true_iff, this]
 generalize l.length = n at *
 clear hp hl hq
 cases q
 all_goals
  go_enter Tryz.func139, Tryz.ntmps139
  go_wp2_with (go_at_call 169; (with_reducible refine C.mono ?_); rintro e w1 ⟨rfl, hb⟩; have HB := Lib.hid hb; clear hb)
  go_ret
  exact ⟨rfl, HB.out⟩
end
section
open Go.RowKit Go.Shelf
theorem settled_any (X0 X1 : ByteArray) (z : Int) (a3 a4 a5 a6 a7 a8 : Option Addr) (n3 n4 n5 n6 n7 n8 m3 m4 m5 m6 m7 m8 : Nat) (w : World) : Calls Tryz.prog 15 #[.agg #[.string X0, .string X1, .int .i64 z, .slice a3 n3 m3, .slice a4 n4 m4, .slice a5 n5 m5, .slice a6 n6 m6, .slice a7 n7 m7, .slice a8 n8 m8]] w fun e w' => e = .returned (.int .i64 (if 0 < n8 then 5 else if 0 < n7 then 6 else 7)) ∧ Below w.heap.size w w' := by
 obtain ⟨x0, x1, x2, x3, x4, x5, x6, x7, x8⟩ := boxV9 w (.string X0) (.string X1) (.int .i64 z) (.slice a3 n3 m3) (.slice a4 n4 m4) (.slice a5 n5 m5) (.slice a6 n6 m6) (.slice a7 n7 m7) (.slice a8 n8 m8) 43
 have B0 := (Below.refl w.heap.size w).alloc (Nat.le_refl _) (.cells #[.string X0, .string X1, .int .i64 z, .slice a3 n3 m3, .slice a4 n4 m4, .slice a5 n5 m5, .slice a6 n6 m6, .slice a7 n7 m7, .slice a8 n8 m8] 43)
 by_cases h8 : 0 < n8
 ·
  rw [if_pos h8]
  go_enter Tryz.func15, Tryz.ntmps15
  go_wp2
  go_ret
  exact ⟨rfl, B0⟩
 ·
  rw [if_neg h8]
  by_cases h7 : 0 < n7
  ·
   rw [if_pos h7]
   go_enter Tryz.func15, Tryz.ntmps15
   go_wp2
   go_ret
   exact ⟨rfl, B0⟩
  ·
   rw [if_neg h7]
   go_enter Tryz.func15, Tryz.ntmps15
   go_wp2
   go_ret
   exact ⟨rfl, B0⟩
end
section
open Go.RowKit Go.Shelf
theorem rightVerU_any (v : ByteArray) (hv : v.size ≤ maxLen) (w : World) (h : LaidV w) : Calls Tryz.prog 53 #[.string v] w fun e w' => e = .returned (.bool (decide ((parseE v.data.toList).2 = 0))) ∧ Below w.heap.size w w' := by
 have PV := parseBig_any v hv w h
 unfold ParsePost parseV verV at PV
 obtain ⟨k, hk⟩ : ∃ k : Int, (parseE v.data.toList).2 = k := ⟨_, rfl⟩
 obtain ⟨z, hz⟩ : ∃ z : Int, (parseE v.data.toList).1.1 = z := ⟨_, rfl⟩
 obtain ⟨U, hU⟩ : ∃ U : ByteArray, (⟨((parseE v.data.toList).1.2.1).toArray⟩ : ByteArray) = U := ⟨_, rfl⟩
 obtain ⟨V, hV⟩ : ∃ V : ByteArray, (⟨((parseE v.data.toList).1.2.2).toArray⟩ : ByteArray) = V := ⟨_, rfl⟩
 simp only [hk, hz, hU, hV] at PV ⊢
 have hkd : Hid (decide (k = 0) = (k == 0)) := Lib.hid rfl
 clear hk hz hU hV h
 go_enter Tryz.func53, Tryz.ntmps53
 go_wp2_with (go_at_call 101; (with_reducible refine PV.mono ?_); rintro e w2 ⟨rfl, hb⟩; have HB := Lib.hid (hb.alloc hb.size (.cells #[.int .i64 z, .string U, .string V] 100)); clear hb)
 go_ret
 exact ⟨retb hkd.out.symm, HB.out⟩
def setU (n7 n8 : Nat) : Int := if 0 < n8 then 5 else if 0 < n7 then 6 else 7
def stateOkU (z : Int) (n7 n8 : Nat) : Bool := if z = 5 ∨ z = 6 then decide (setU n7 n8 = z) else decide (wordU z ≠ []) && decide (setU n7 n8 = 7)
theorem rightRelsU_any (X0 X1 : ByteArray) (z : Int) (a3 a4 a5 a6 a7 a8 : Option Addr) (n3 n4 n5 n6 n7 n8 m3 m4 m5 m6 m7 m8 : Nat) (dp : List Gv) (cn : List Rl) (hd : dp.length ≤ 500) (hdb : BigG dp) (hc : cn.length ≤ 90000) (hcb : BigQ cn) (w : World) (hh : HoldGs w (.slice a3 n3 m3) dp) (hq : HoldQ w (.slice a4 n4 m4) cn) (hL : LaidU w) : Calls Tryz.prog 55 #[.agg #[.string X0, .string X1, .int .i64 z, .slice a3 n3 m3, .slice a4 n4 m4, .slice a5 n5 m5, .slice a6 n6 m6, .slice a7 n7 m7, .slice a8 n8 m8]] w fun e w' => e = .returned (.bool (decide ((allE (fsts dp)).2 = 0) && decide ((listE cn).2 = 0))) ∧ Below w.heap.size w w' := by
 have HL := Lib.hid hL
 have C1 := fun W (hb : Below w.heap.size w W) => allBig_any (.slice a3 n3 m3) dp hd hdb W (hh.on hb) (HL.out.on hb).q.v
 have C2 := fun W (hb : Below w.heap.size w W) => listBig_any (.slice a4 n4 m4) cn hc hcb W (HoldV.on hq hb) (HL.out.on hb).q.v
 unfold TwoP at C1 C2
 generalize (allE (fsts dp)).2 = y1 at *
 generalize (listE cn).2 = y2 at *
 generalize bsT (allE (fsts dp)).1 = T1 at *
 generalize bsT (listE cn).1 = T2 at *
 clear hL hh hq hd hdb hc hcb
 obtain ⟨x0, x1, x2, x3, x4, x5, x6, x7, x8⟩ := boxV9 w (.string X0) (.string X1) (.int .i64 z) (.slice a3 n3 m3) (.slice a4 n4 m4) (.slice a5 n5 m5) (.slice a6 n6 m6) (.slice a7 n7 m7) (.slice a8 n8 m8) 43
 have B0 := (Below.refl w.heap.size w).alloc (Nat.le_refl _) (.cells #[.string X0, .string X1, .int .i64 z, .slice a3 n3 m3, .slice a4 n4 m4, .slice a5 n5 m5, .slice a6 n6 m6, .slice a7 n7 m7, .slice a8 n8 m8] 43)
 have HB0 := Lib.hid B0
 have h1 : decide (y1 = 0) = (y1 == 0) := rfl
 have h2 : decide (y2 = 0) = (y2 == 0) := rfl
 rw [h1, h2]
 clear h1 h2
 generalize hq1 : (y1 == 0) = b1
 generalize hq2 : (y2 == 0) = b2
 cases b1 <;> cases b2
 all_goals
  go_enter Tryz.func55, Tryz.ntmps55
  go_wp2_with (first
   | (go_at_call 40; (with_reducible refine (C1 _ HB0.out).mono ?_); rintro e w1 ⟨rfl, hb⟩; have HB1 := Lib.hid (HB0.out.trans (hb.mono HB0.out.size)); rw [← hb.cell (p := ⟨w.heap.size, 4, none⟩) (by simp)] at x4; clear hb)
   | (go_at_call 41; (with_reducible refine (C2 _ HB1.out).mono ?_); rintro e w2 ⟨rfl, hb⟩; have HB2 := Lib.hid (HB1.out.trans (hb.mono HB1.out.size)); clear hb))
  go_ret
  exact ⟨rfl, HB2.out⟩
theorem notName_any (s : ByteArray) (hs : s.size ≤ maxLen) (w : World) : Calls Tryz.prog 140 #[.string s] w fun e w' => e = .returned (.bool (!nameB s.data.toList)) ∧ Below w.heap.size w w' := by
 have N := fun W => nameBig_any s hs W
 generalize nameB s.data.toList = q at *
 go_enter Tryz.func140, Tryz.ntmps140
 go_wp2_with (go_at_call 52; (with_reducible refine (N _).mono ?_); rintro e w1 ⟨rfl, rfl⟩)
 go_ret
 exact ⟨rfl, Below.refl _ _⟩
theorem rightRepU_any (v : Value) (l : List Bs) (hl : l.length ≤ 90000) (hb : ∀ x ∈ l, x.length ≤ maxLen) (w : World) (h : HoldT w v l) : Calls Tryz.prog 102 #[v] w fun e w' => e = .returned (.bool (decide (l.length ≤ 64) && l.all nameB)) ∧ Below w.heap.size w w' := by
 have C := contT_any 140 #[] (enters_of Tryz.func140 (by kernel_rfl) rfl) (fun x => !nameB x) v l hl w h (fun W x hx hW => by
  have := notName_any (bsT x) (by rw [sizeOf, bytesOf]; exact hb x hx) W
  rw [bytesOf] at this
  exact this)
 have HA : l.all nameB = !(l.any fun x => !nameB x) := by rw [List.not_any_eq_all_not]; simp
 rw [HA]
 clear HA
 obtain ⟨a, c, b, o, rfl, -⟩ := h
 generalize (l.any fun x => !nameB x) = q at *
 generalize l.length = n at *
 clear hb
 have e : decide (n ≤ 64) = decide ((n : Int) ≤ 64) := by congr 1; apply propext; omega
 rw [e]
 by_cases h64 : (n : Int) ≤ 64
 ·
  rw [decide_eq_true h64]
  go_enter Tryz.func102, Tryz.ntmps102
  go_wp2_with (go_at_call 139; (with_reducible refine C.mono ?_); rintro e w1 ⟨rfl, hb⟩; have HB := Lib.hid hb; clear hb)
  go_ret
  exact ⟨rfl, HB.out⟩
 ·
  rw [decide_eq_false h64]
  go_enter Tryz.func102, Tryz.ntmps102
  go_wp2
  go_ret
  exact ⟨rfl, Below.refl _ _⟩
end
end Go.Proofs.YtkbkaeefdhkgdaaGreatDoor
