import Derived.Test.YtkbkaeefdhkgdaaGreatDoorGUBackM
import Derived.Test.YtkbkaeefdhkgdaaGreatDoorGUFew2
namespace Go.Proofs.YtkbkaeefdhkgdaaGreatDoor
open Go.RowKit Go.Shelf Go.Lib
abbrev nl (t : Bs) : Nat := t.count 10
theorem spl_nl (t : Bs) : (spl 10 t).length = nl t + 1 := by
 induction t with
 | nil => rfl
 | cons x s ih =>
  rw [spl_cons]
  by_cases h : x = 10
  ·
   subst h; rw [if_pos rfl, List.length_cons, ih]; simp [nl]
  ·
   have e : (glue [x] (spl 10 s)).length = (spl 10 s).length := by
    have := spl_ne 10 s
    cases hs : spl 10 s with
    | nil => exact absurd hs this
    | cons _ _ => simp [glue]
   rw [if_neg h, e, ih]; simp [nl, h]
theorem nl_no {t : Bs} (h : (10 : UInt8) ∉ t) : nl t = 0 := List.count_eq_zero.2 h
theorem printF_nl (n t : Bs) : (printF (n, t)).length ≤ n.length + t.length + nl t + 3 := by
 have h1 := printT_len (spl 10 t)
 rw [spl_sum, spl_nl] at h1
 unfold printF
 simp only [List.length_append, List.length_cons]
 omega
theorem pr_add (st : List Fld) (n t : Bs) : (printS (addF st (n, t))).length ≤ (printS st).length + (n.length + t.length + nl t + 3) := by
 unfold addF
 split
 ·
  omega
 ·
  have := printF_nl n t
  unfold printS
  simp only [List.flatMap_append, List.flatMap_cons, List.flatMap_nil, List.append_nil, List.length_append]
  omega
theorem pr_fields (nm vr : Bs) (z : Int) (dt ct : Bs) (rp : List Bs) (cf : List (Bs × Bs)) (pd aw : List Bs) (h1 : nl nm = 0) (h2 : nl vr = 0) (h3 : nl (wordU z) = 0) (h4 : nl dt = 0) (h5 : nl ct = 0) (h6 : nl (Lib.join rp [32]) = 0) (h7 : nl (cfText cf) = cf.length) (h8 : nl (Lib.join pd [32]) = 0) (h9 : nl (Lib.join aw [32]) = 0) :
  (printS (fieldsL nm vr z dt ct rp cf pd aw)).length ≤ 128 + (nm.length + vr.length + dt.length + ct.length + (Lib.join rp [32]).length + ((cfText cf).length + cf.length) + (Lib.join pd [32]).length + (Lib.join aw [32]).length) := by
 unfold fieldsL
 have hw := wordU_len z
 have e9 := pr_add (addF (addF (addF (addF (addF (addF (addF (addF ([] : List Fld) ([80, 97, 99, 107, 97, 103, 101], nm)) ([83, 116, 97, 116, 117, 115], (wordU z))) ([86, 101, 114, 115, 105, 111, 110], vr)) ([68, 101, 112, 101, 110, 100, 115], dt)) ([67, 111, 110, 102, 108, 105, 99, 116, 115], ct)) ([82, 101, 112, 108, 97, 99, 101, 115], (Lib.join rp [32]))) ([67, 111, 110, 102, 102, 105, 108, 101, 115], (cfText cf))) ([84, 114, 105, 103, 103, 101, 114, 115, 45, 80, 101, 110, 100, 105, 110, 103], (Lib.join pd [32]))) [84, 114, 105, 103, 103, 101, 114, 115, 45, 65, 119, 97, 105, 116, 101, 100] (Lib.join aw [32])
 have e8 := pr_add (addF (addF (addF (addF (addF (addF (addF ([] : List Fld) ([80, 97, 99, 107, 97, 103, 101], nm)) ([83, 116, 97, 116, 117, 115], (wordU z))) ([86, 101, 114, 115, 105, 111, 110], vr)) ([68, 101, 112, 101, 110, 100, 115], dt)) ([67, 111, 110, 102, 108, 105, 99, 116, 115], ct)) ([82, 101, 112, 108, 97, 99, 101, 115], (Lib.join rp [32]))) ([67, 111, 110, 102, 102, 105, 108, 101, 115], (cfText cf))) [84, 114, 105, 103, 103, 101, 114, 115, 45, 80, 101, 110, 100, 105, 110, 103] (Lib.join pd [32])
 have e7 := pr_add (addF (addF (addF (addF (addF (addF ([] : List Fld) ([80, 97, 99, 107, 97, 103, 101], nm)) ([83, 116, 97, 116, 117, 115], (wordU z))) ([86, 101, 114, 115, 105, 111, 110], vr)) ([68, 101, 112, 101, 110, 100, 115], dt)) ([67, 111, 110, 102, 108, 105, 99, 116, 115], ct)) ([82, 101, 112, 108, 97, 99, 101, 115], (Lib.join rp [32]))) [67, 111, 110, 102, 102, 105, 108, 101, 115] (cfText cf)
 have e6 := pr_add (addF (addF (addF (addF (addF ([] : List Fld) ([80, 97, 99, 107, 97, 103, 101], nm)) ([83, 116, 97, 116, 117, 115], (wordU z))) ([86, 101, 114, 115, 105, 111, 110], vr)) ([68, 101, 112, 101, 110, 100, 115], dt)) ([67, 111, 110, 102, 108, 105, 99, 116, 115], ct)) [82, 101, 112, 108, 97, 99, 101, 115] (Lib.join rp [32])
 have e5 := pr_add (addF (addF (addF (addF ([] : List Fld) ([80, 97, 99, 107, 97, 103, 101], nm)) ([83, 116, 97, 116, 117, 115], (wordU z))) ([86, 101, 114, 115, 105, 111, 110], vr)) ([68, 101, 112, 101, 110, 100, 115], dt)) [67, 111, 110, 102, 108, 105, 99, 116, 115] ct
 have e4 := pr_add (addF (addF (addF ([] : List Fld) ([80, 97, 99, 107, 97, 103, 101], nm)) ([83, 116, 97, 116, 117, 115], (wordU z))) ([86, 101, 114, 115, 105, 111, 110], vr)) [68, 101, 112, 101, 110, 100, 115] dt
 have e3 := pr_add (addF (addF ([] : List Fld) ([80, 97, 99, 107, 97, 103, 101], nm)) ([83, 116, 97, 116, 117, 115], (wordU z))) [86, 101, 114, 115, 105, 111, 110] vr
 have e2 := pr_add (addF ([] : List Fld) ([80, 97, 99, 107, 97, 103, 101], nm)) [83, 116, 97, 116, 117, 115] (wordU z)
 have e1 := pr_add ([] : List Fld) [80, 97, 99, 107, 97, 103, 101] nm
 have h0 : (printS ([] : List Fld)).length = 0 := rfl
 rw [h9] at e9
 rw [h8] at e8
 rw [h7] at e7
 rw [h6] at e6
 rw [h5] at e5
 rw [h4] at e4
 rw [h2] at e3
 rw [h3] at e2
 rw [h1, h0] at e1
 have HS := And.intro e9 (And.intro e8 (And.intro e7 (And.intro e6 (And.intro e5 (And.intro e4 (And.intro e3 (And.intro e2 e1)))))))
 simp only [List.length_cons, List.length_nil] at HS
 omega
theorem join_no {c : UInt8} {sep : Bs} (hs : c ∉ sep) : ∀ l : List Bs, (∀ p ∈ l, c ∉ p) → c ∉ Lib.join l sep
 | [], _ => by simp [Lib.join]
 | [p], h => by rw [join_one]; exact h p (by simp)
 | p :: q :: l, h => by
  have ih := join_no hs (q :: l) (fun x hx => h x (List.mem_cons_of_mem _ hx))
  have e : Lib.join (p :: q :: l) sep = p ++ (sep ++ Lib.join (q :: l) sep) := by
   rw [join_cons, join_cons]; simp [joinTail]
  rw [e]
  simp only [List.mem_append, not_or]
  exact ⟨h p (by simp), hs, ih⟩
theorem joinA_len : ∀ l : List Bs, (Lib.join l sepA).length ≤ (l.map fun p => p.length + 2).sum
 | [] => by simp [Lib.join]
 | [p] => by rw [join_one]; simp
 | p :: q :: l => by
  have ih := joinA_len (q :: l)
  have e : Lib.join (p :: q :: l) sepA = p ++ (sepA ++ Lib.join (q :: l) sepA) := by
   rw [join_cons, join_cons]; simp [joinTail]
  have h2 : sepA.length = 2 := rfl
  rw [e]
  simp only [List.map_cons, List.sum_cons, List.length_append] at *
  omega
theorem sum_le2 {α : Type} (f g : α → Nat) (k : Nat) : ∀ l : List α, (∀ x ∈ l, f x ≤ k * g x) → (l.map f).sum ≤ k * (l.map g).sum
 | [], _ => by simp
 | x :: l, h => by
  have h1 := h x (by simp)
  have h2 := sum_le2 f g k l (fun y hy => h y (List.mem_cons_of_mem _ hy))
  simp only [List.map_cons, List.sum_cons, Nat.mul_add]
  omega
theorem odd10 : OddC 10 := by unfold OddC; decide
theorem right_len {x : Rl} (h : rightR x = true) : (textR x).length ≤ 150 ∧ (textR x).length + 2 ≤ 4 * (1 + x.1.length + x.2.2.length) := by
 unfold rightR at h
 rw [Bool.and_eq_true] at h
 have h0 : 1 ≤ x.1.length ∧ x.1.length ≤ 60 := by
  have := h.1
  unfold nameB at this
  simp only [Bool.and_eq_true, decide_eq_true_eq] at this
  omega
 unfold textR
 by_cases h2 : x.2.1 = []
 ·
  rw [if_pos h2]; omega
 ·
  rw [if_neg h2, Bool.and_eq_true, decide_eq_true_eq] at h
  rw [if_neg h2]
  have h3 : x.2.1.length ≤ 2 := by
   have := h.2.1
   unfold opB at this
   simp only [Bool.or_eq_true, decide_eq_true_eq] at this
   rcases this with ((((e | e) | e) | e) | e) <;> rw [e] <;> simp
  have h4 : x.2.2.length ≤ 80 := by
   by_cases h80 : 80 < x.2.2.length
   ·
    have := h.2.2
    unfold parseE at this
    rw [if_pos h80] at this
    simp at this
   ·
    omega
  have h5 : 1 ≤ x.2.2.length := by
   rcases Nat.eq_zero_or_pos x.2.2.length with g | g
   ·
    have := h.2.2
    rw [List.length_eq_zero_iff.1 g] at this
    exact absurd this (by decide +kernel)
   ·
    exact g
  simp only [List.length_append, List.length_cons, List.length_nil]
  omega
theorem wtT_take (l : List Bs) (k : Nat) : ((l.take (k + 1)).map List.length).sum = ((l.take k).map List.length).sum + wtT l k := by
 rw [List.take_add_one]; unfold wtT; cases l[k]? <;> simp
theorem wtW_take (l : List (Bs × Bs)) (k : Nat) : ((l.take (k + 1)).map fun c => c.1.length + c.2.length).sum = ((l.take k).map fun c => c.1.length + c.2.length).sum + wtW l k := by
 rw [List.take_add_one]; unfold wtW; cases l[k]? <;> simp
theorem wtQ_take (l : List Rl) (k : Nat) : ((l.take (k + 1)).map fun c => c.1.length + c.2.2.length).sum = ((l.take k).map fun c => c.1.length + c.2.2.length).sum + wtQ l k := by
 rw [List.take_add_one]; unfold wtQ; cases l[k]? <;> simp
theorem sumTo_eq (x : Uv) (k : Nat) : sumTo x k = ((x.cn.take k).map fun c => c.1.length + c.2.2.length).sum + ((x.rp.take k).map List.length).sum + ((x.cf.take k).map fun c => c.1.length + c.2.length).sum + ((x.pd.take k).map List.length).sum + ((x.aw.take k).map List.length).sum := by
 induction k with
 | zero => simp [sumTo]
 | succ k ih => rw [sumTo, ih, wtT_take, wtT_take, wtT_take, wtW_take, wtQ_take]; omega
structure PlainU (x : Uv) : Prop where
 nm : nameB x.nm = true
 vr : (parseE x.vr).2 = 0
 dp : (allE (fsts x.dp)).2 = 0
 cn : (listE x.cn).2 = 0
 rp : ∀ p ∈ x.rp, nameB p = true
 cf : ∀ c ∈ x.cf, confB c = true
 pd : ∀ p ∈ x.pd, (10 : UInt8) ∉ p ∧ p ≠ []
 aw : ∀ p ∈ x.aw, nameB p = true
theorem plain_of {x : Uv} (hr : rightU x = true) : PlainU x := by
 have hconf := rightU_confs hr
 unfold rightU at hr
 simp only [Bool.and_eq_true, decide_eq_true_eq] at hr
 obtain ⟨⟨⟨⟨hn, hv⟩, -⟩, hda, hdl⟩, hrl⟩ := hr
 unfold rlB at hrl
 simp only [Bool.and_eq_true, beq_iff_eq, decide_eq_true_eq] at hrl
 obtain ⟨⟨⟨⟨-, h5⟩, -⟩, h7⟩, h8⟩ := hrl
 refine ⟨hn, hv, hda, hdl, fun p hp => List.all_eq_true.1 h5 p hp, hconf, fun p hp => ?_, fun p hp => keyed_all h8 p hp⟩
 have := keyed_all h7 p hp
 unfold trigB at this
 rw [Bool.or_eq_true] at this
 rcases this with g | g
 ·
  exact ⟨name_odd odd10 g, (name_plain g).2⟩
 ·
  exact ⟨(right_plain g).1, (right_plain g).2.2⟩
theorem word_nl (z : Int) : nl (wordU z) = 0 := by
 by_cases h : z < 0 ∨ 8 ≤ z
 ·
  rw [word_out h]; rfl
 ·
  obtain ⟨n, rfl⟩ : ∃ n : Nat, z = n := ⟨z.toNat, by omega⟩
  have hn : n < 8 := by omega
  match n, hn with
  | 0, _ | 1, _ | 2, _ | 3, _ | 4, _ | 5, _ | 6, _ | 7, _ => decide +kernel
theorem textA_no (l : List (List Rl)) : (10 : UInt8) ∉ (allE l).1 := by
 unfold allE
 split
 ·
  simp
 ·
  split
  ·
   simp
  ·
   rename_i hb
   refine join_no (by decide) _ (fun p hp => ?_)
   obtain ⟨g, hg, rfl⟩ := List.mem_map.1 hp
   have hb1 : badG g = false := by
    rw [Bool.not_eq_true, List.any_eq_false] at hb
    simpa using hb g hg
   have hr := goodG_right (g := g) (by rw [hb1]; simp)
   refine join_no (by decide) _ (fun p hp => ?_)
   obtain ⟨r, hr2, rfl⟩ := List.mem_map.1 hp
   exact text_odd odd10 (List.all_eq_true.1 hr r hr2)
theorem listE_text {l : List Rl} (h : (listE l).2 = 0) : (listE l).1 = textQ l ∧ l.length ≤ 64 ∧ ∀ r ∈ l, rightR r = true := by
 unfold listE at h ⊢
 split at h
 ·
  cases h
 ·
  rename_i h64
  split at h
  ·
   rename_i ha
   rw [if_neg h64, if_pos ha]
   exact ⟨rfl, by omega, fun r hr => List.all_eq_true.1 ha r hr⟩
  ·
   cases h
theorem textQ_no {l : List Rl} (h : ∀ r ∈ l, rightR r = true) : (10 : UInt8) ∉ textQ l := by
 refine join_no (by decide) _ (fun p hp => ?_)
 obtain ⟨r, hr2, rfl⟩ := List.mem_map.1 hp
 exact text_odd odd10 (h r hr2)
theorem textQ_len {l : List Rl} (h : ∀ r ∈ l, rightR r = true) : (textQ l).length ≤ 4 * (l.length + (l.map fun c => c.1.length + c.2.2.length).sum) := by
 have h1 := joinA_len (l.map textR)
 rw [List.map_map] at h1
 have h2 := sum_le2 (fun r : Rl => (textR r).length + 2) (fun r => 1 + (r.1.length + r.2.2.length)) 4 l (fun r hr => by have := (right_len (h r hr)).2; omega)
 have h3 : (l.map fun r : Rl => 1 + (r.1.length + r.2.2.length)).sum = l.length + (l.map fun c => c.1.length + c.2.2.length).sum := by
  clear h h1 h2
  induction l with
  | nil => rfl
  | cons x l ih => simp only [List.map_cons, List.sum_cons, List.length_cons, ih]; omega
 rw [h3] at h2
 exact Nat.le_trans h1 h2
theorem joinB_two {l : List Bs} (h : ∀ p ∈ l, p ≠ []) : (Lib.join l [32]).length ≤ 2 * (l.map List.length).sum := by
 have h1 := joinB_len l
 have h2 := sum_le2 (fun p : Bs => p.length + 1) List.length 2 l (fun p hp => by have := List.length_pos_iff.2 (h p hp); omega)
 have h3 : lenS l = (l.map fun p : Bs => p.length + 1).sum := rfl
 omega
theorem cfText_nl : ∀ l : List (Bs × Bs), (∀ c ∈ l, confB c = true) → nl (cfText l) = l.length ∧ (cfText l).length + l.length ≤ 4 * (l.map fun c => c.1.length + c.2.length).sum
 | [], _ => by simp [cfText, nl]
 | c :: l, h => by
  have ih := cfText_nl l (fun x hx => h x (List.mem_cons_of_mem _ hx))
  obtain ⟨a1, a2, a3, a4, a5, a6⟩ := confB_plain (h c (by simp))
  have b1 := List.length_pos_iff.2 a5
  have b2 := List.length_pos_iff.2 a6
  have e : cfText (c :: l) = (10 :: (c.1 ++ 32 :: c.2)) ++ cfText l := rfl
  have c1 := nl_no a1
  have c2 := nl_no a2
  rw [e]
  unfold nl at *
  simp only [List.count_append, List.count_cons, List.length_append, List.length_cons, List.map_cons, List.sum_cons, c1, c2, ih.1]
  refine ⟨by simp; omega, by omega⟩
theorem cont_le {x : Uv} (p : PlainU x) (hf : FewR x) : x.nm.length + x.vr.length + (allE (fsts x.dp)).1.length + (listE x.cn).1.length + (Lib.join x.rp [32]).length + ((cfText x.cf).length + x.cf.length) + (Lib.join x.pd [32]).length + (Lib.join x.aw [32]).length + 80 ≤ 4 * sumR x := by
 obtain ⟨e1, -, e3⟩ := listE_text p.cn
 have h1 := textQ_len e3
 have h2 := joinB_two (fun q hq => (name_plain (p.rp q hq)).2)
 have h3 := (cfText_nl x.cf p.cf).2
 have h4 := joinB_two (fun q hq => (p.pd q hq).2)
 have h5 := joinB_two (fun q hq => (name_plain (p.aw q hq)).2)
 have h6 := sumTo_eq x 70
 rw [List.take_of_length_le hf.cl, List.take_of_length_le hf.rl, List.take_of_length_le hf.fl, List.take_of_length_le hf.pl, List.take_of_length_le hf.al] at h6
 unfold sumR
 rw [e1]
 omega
theorem pr_rec {x : Uv} (p : PlainU x) (hf : FewR x) : (printS (fieldsU x)).length ≤ 48 + 4 * sumR x := by
 have h1 := cont_le p hf
 obtain ⟨e1, -, e3⟩ := listE_text p.cn
 have h2 := pr_fields x.nm x.vr x.st (allE (fsts x.dp)).1 (listE x.cn).1 x.rp x.cf x.pd x.aw (nl_no (name_odd odd10 p.nm)) (nl_no (ver_odd odd10 p.vr)) (word_nl _) (nl_no (textA_no _)) (by rw [e1]; exact nl_no (textQ_no e3)) (nl_no (join_no (by decide) _ (fun q hq => name_odd odd10 (p.rp q hq)))) (cfText_nl x.cf p.cf).1 (nl_no (join_no (by decide) _ (fun q hq => (p.pd q hq).1))) (nl_no (join_no (by decide) _ (fun q hq => name_odd odd10 (p.aw q hq))))
 unfold fieldsU
 omega
theorem wFs_rec {x : Uv} (p : PlainU x) (hf : FewR x) : wFs (fieldsU x) ≤ 160 + 12 * sumR x := by
 have h1 := cont_le p hf
 have h2 := wFs_fields x.nm x.vr x.st (allE (fsts x.dp)).1 (listE x.cn).1 x.rp x.cf x.pd x.aw
 unfold fieldsU
 omega
theorem printSs_le (l : List (List Fld)) : (printSs l).length ≤ (l.map fun st => (printS st).length + 1).sum := by
 induction l with
 | nil => simp [printSs]
 | cons st l ih =>
  rw [printSs_cons]
  split
  ·
   simp only [List.append_nil, List.map_cons, List.sum_cons]; omega
  ·
   simp only [List.length_append, List.length_cons, List.map_cons, List.sum_cons] at *; omega
theorem sum_add {α : Type} (f g : α → Nat) (k c : Nat) : ∀ l : List α, (∀ x ∈ l, f x ≤ c + k * g x) → (l.map f).sum ≤ c * l.length + k * (l.map g).sum
 | [], _ => by simp
 | x :: l, h => by
  have h1 := h x (by simp)
  have h2 := sum_add f g k c l (fun y hy => h y (List.mem_cons_of_mem _ hy))
  simp only [List.map_cons, List.sum_cons, List.length_cons, Nat.mul_add, Nat.mul_one]
  omega
theorem plains {l : List Uv} (h : kchkK rightU (fun x => x.nm) l = 0) : l.length ≤ 64 ∧ ∀ x ∈ l, rightU x = true := by
 refine ⟨?_, keyed_all h⟩
 by_cases g : 64 < l.length
 ·
  rw [kchkK_long g] at h; cases h
 ·
  omega
theorem pr_all {l : List Uv} (h : kchkK rightU (fun x => x.nm) l = 0) (hf : FewU2 l) : (printSs (l.map fieldsU)).length ≤ 20000 ∧ Small (l.map fieldsU) 90000 := by
 obtain ⟨h1, h2⟩ := plains h
 constructor
 ·
  refine Nat.le_trans (printSs_le _) ?_
  rw [List.map_map]
  have h3 := sum_add (fun x : Uv => (printS (fieldsU x)).length + 1) sumR 4 49 l (fun x hx => by have := pr_rec (plain_of (h2 x hx)) (hf.1.2 x hx); omega)
  have h4 := hf.2
  have h5 : (l.map ((fun st => (printS st).length + 1) ∘ fieldsU)).sum = (l.map fun x : Uv => (printS (fieldsU x)).length + 1).sum := rfl
  omega
 ·
  refine small_of ?_
  unfold wS
  rw [List.map_map]
  have h3 := sum_add (fun x : Uv => wFs (fieldsU x) + 1) sumR 12 161 l (fun x hx => by have := wFs_rec (plain_of (h2 x hx)) (hf.1.2 x hx); omega)
  have h4 := hf.2
  have h5 : (l.map ((fun st => wFs st + 1) ∘ fieldsU)).sum = (l.map fun x : Uv => wFs (fieldsU x) + 1).sum := rfl
  omega
theorem small_alike {x y : Uv} (h : AlikeU x y) (s : SmallU y) : SmallU x := by
 have hd : x.dp.length = y.dp.length := by
  have := congrArg List.length h.dp
  simpa using this
 refine ⟨by rw [h.nm]; exact s.nm, by rw [h.vr]; exact s.vr, by rw [hd]; exact s.dn, fun g hg => ?_, by rw [h.cn]; exact s.cl, by rw [h.cn]; exact s.cq, by rw [h.rp]; exact s.rl, by rw [h.rp]; exact s.rp, by rw [h.cf]; exact s.fl, by rw [h.cf]; exact s.cf, by rw [h.pd]; exact s.pl, by rw [h.pd]; exact s.pd, by rw [h.aw]; exact s.al, by rw [h.aw]; exact s.aw⟩
 have hm : g.1 ∈ fsts x.dp := List.mem_map_of_mem hg
 rw [h.dp] at hm
 obtain ⟨g', hg', e⟩ := List.mem_map.1 hm
 have := s.dp g' hg'
 rw [e] at this
 exact this
theorem recs_back {l L : List Uv} (hr : ∀ x ∈ l, rightU x = true) (h : RecsOf (l.map fieldsU) L) : L.length = l.length ∧ ∀ (k : Nat) x y, L[k]? = some x → l[k]? = some y → AlikeU x y := by
 refine ⟨by rw [h.1, List.length_map], fun k x y hx hy => ?_⟩
 exact rec_back (hr y (List.mem_of_getElem? hy)) (h.2 k _ _ (by rw [List.getElem?_map, hy]; rfl) hx)
theorem maps_alike {l L : List Uv} (hl : L.length = l.length) (h : ∀ (k : Nat) x y, L[k]? = some x → l[k]? = some y → AlikeU x y) : L.map fieldsU = l.map fieldsU := by
 refine List.ext_getElem? (fun k => ?_)
 rw [List.getElem?_map, List.getElem?_map]
 by_cases hk : k < l.length
 ·
  have a := List.getElem?_eq_getElem hk
  have b := List.getElem?_eq_getElem (l := L) (i := k) (by omega)
  rw [a, b]
  exact congrArg some (fields_alike (h k _ _ b a))
 ·
  rw [List.getElem?_eq_none (by omega), List.getElem?_eq_none (by omega)]
theorem fields_n (nm vr : Bs) (z : Int) (dt ct : Bs) (rp : List Bs) (cf : List (Bs × Bs)) (pd aw : List Bs) : (fieldsL nm vr z dt ct rp cf pd aw).length ≤ 9 := by
 unfold fieldsL
 refine Nat.le_trans (addF_len _ _) (Nat.succ_le_succ ?_)
 refine Nat.le_trans (addF_len _ _) (Nat.succ_le_succ ?_)
 refine Nat.le_trans (addF_len _ _) (Nat.succ_le_succ ?_)
 refine Nat.le_trans (addF_len _ _) (Nat.succ_le_succ ?_)
 refine Nat.le_trans (addF_len _ _) (Nat.succ_le_succ ?_)
 refine Nat.le_trans (addF_len _ _) (Nat.succ_le_succ ?_)
 refine Nat.le_trans (addF_len _ _) (Nat.succ_le_succ ?_)
 refine Nat.le_trans (addF_len _ _) (Nat.succ_le_succ ?_)
 exact addF_len _ _
theorem sumR_le {l : List Uv} (hf : FewU2 l) : ∀ x ∈ l, sumR x ≤ 4000 := fun x hx => Nat.le_trans (sum_mem sumR l x hx) hf.2
theorem fsFit_prints {l : List Uv} (h : kchkK rightU (fun x => x.nm) l = 0) (hf : FewU2 l) (hs : ∀ x ∈ l, SmallU x) : FsFit (l.map fieldsU) := by
 obtain ⟨h1, h2⟩ := plains h
 have hsm := (pr_all h hf).2
 refine ⟨by rw [List.length_map]; omega, fun f hf' => ?_, fun f hf' x r => ?_, fun L hL _ => ?_⟩
 ·
  obtain ⟨x, hx, rfl⟩ := List.mem_map.1 hf'
  have p := plain_of (h2 x hx)
  have hr := sumR_le hf x hx
  refine ⟨Nat.le_trans (fields_n _ _ _ _ _ _ _ _ _) (by omega), fun q hq => hsm.fs _ hf' q hq, fun q hq => ?_, fun q hq => ?_⟩
  ·
   have e : (fT (fieldsU x) [68, 101, 112, 101, 110, 100, 115]).length ≤ 4000 := by
    unfold fieldsU
    rw [fT_dp]
    unfold sumR at hr
    omega
   have e1 := splitN_piece _ _ q hq
   exact ⟨by omega, fun q2 hq2 => by have := splitN_piece _ _ q2 hq2; omega⟩
  ·
   unfold fieldsU at hq
   rw [fT_cn] at hq
   obtain ⟨e1, -, e3⟩ := listE_text p.cn
   have hb := listE_back p.cn
   rw [e1] at hq hb
   unfold parseQ at hb
   split at hb
   ·
    rename_i e0
    rw [e0] at hq
    have := splitN_piece _ _ q hq
    simp at this
    rw [this]; simp
   ·
    unfold cutP at hb
    split at hb
    ·
     cases hb
    ·
     obtain ⟨m1, -⟩ := mapM_inv (text := textR) (fun p x hp => (text_parseR hp).1) _ _ hb
     rw [← m1] at hq
     obtain ⟨r, hr2, rfl⟩ := List.mem_map.1 hq
     have := (right_len (e3 r hr2)).1
     omega
 ·
  obtain ⟨y, hy, rfl⟩ := List.mem_map.1 hf'
  exact small_alike (rec_back (h2 y hy) r) (hs y hy)
 ·
  obtain ⟨g1, g2⟩ := recs_back h2 hL
  rw [maps_alike g1 g2]
  exact hsm
end Go.Proofs.YtkbkaeefdhkgdaaGreatDoor
