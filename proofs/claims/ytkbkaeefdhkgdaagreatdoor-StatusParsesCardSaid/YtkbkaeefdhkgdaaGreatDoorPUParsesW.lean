import Derived.Test.YtkbkaeefdhkgdaaGreatDoorPUParseR
import Derived.Test.YtkbkaeefdhkgdaaGreatDoorPUSame
set_option maxRecDepth 100000
set_option maxHeartbeats 32000000
namespace Go.Proofs.YtkbkaeefdhkgdaaGreatDoor
section
open Go.RowKit Go.Shelf Go.Lib
theorem pairW_mem {p : Bs} {c : Bs × Bs} (h : c ∈ pairW (wordsL p)) : c.1.length + c.2.length + 1 ≤ p.length + 1 ∧ wordsL p = [c.1, c.2] := by
 unfold pairW at h
 split at h
 ·
  rename_i a b hw
  simp only [List.mem_singleton] at h
  subst h
  have h1 := joinB_len (wordsL p)
  have h2 := lenS_filter (fun x => decide (x ≠ [])) (spl 32 p)
  have h3 := spl_sum 32 p
  have h4 : lenS (wordsL p) = a.length + 1 + (b.length + 1) := by rw [hw]; simp [lenS]
  unfold wordsL at h4
  refine ⟨?_, hw⟩
  show a.length + b.length + 1 ≤ _
  omega
 ·
  cases h
theorem cfReadR_few (t : Bs) : (cfReadR t).length ≤ t.length + 1 ∧ ∀ c ∈ cfReadR t, c.1.length ≤ t.length ∧ c.2.length ≤ t.length := by
 unfold cfReadR
 refine ⟨Nat.le_trans (pairs_len _) (spl_len 10 t), fun c hc => ?_⟩
 obtain ⟨p, hp, hc2⟩ := List.mem_flatMap.1 hc
 have h1 := spl_piece 10 t p hp
 have h2 := (pairW_mem hc2).1
 exact ⟨by omega, by omega⟩
theorem cfText_readR (t : Bs) : (cfText (cfReadR t)).length ≤ 2 * t.length + 2 := by
 have key : ∀ l : List Bs, (cfText (l.flatMap fun p => pairW (wordsL p))).length ≤ lenS l + l.length := by
  intro l
  induction l with
  | nil => simp [cfText]
  | cons p l ih =>
   have h0 : (cfText (pairW (wordsL p))).length ≤ p.length + 2 := by
    cases hp : pairW (wordsL p) with
    | nil => simp [cfText]
    | cons c cs =>
     have h1 := pairW_mem (p := p) (c := c) (by rw [hp]; simp)
     have h2 : cs = [] := by
      rw [h1.2] at hp
      unfold pairW at hp
      simp at hp; exact hp
     subst h2
     simp [cfText]; omega
   have e : cfText ((p :: l).flatMap fun p => pairW (wordsL p)) = cfText (pairW (wordsL p)) ++ cfText (l.flatMap fun p => pairW (wordsL p)) := by
    unfold cfText; rw [List.flatMap_cons, List.flatMap_append]
   rw [e, List.length_append]
   simp only [lenS, List.map_cons, List.sum_cons, List.length_cons] at *
   omega
 unfold cfReadR
 have h1 := key (spl 10 t)
 have h2 := spl_sum 10 t
 have h3 := spl_len 10 t
 omega
theorem fields_ofR {f : List Fld} {x : Uv} (r : RecOfR f x) : wFs (fieldsU x) ≤ 6 * tS f + 200 := by
 have h := wFs_fields x.nm x.vr x.st (allE (fsts x.dp)).1 (listE x.cn).1 x.rp x.cf x.pd x.aw
 have hs := fT_sum [[80, 97, 99, 107, 97, 103, 101], [83, 116, 97, 116, 117, 115], [86, 101, 114, 115, 105, 111, 110], [68, 101, 112, 101, 110, 100, 115], [67, 111, 110, 102, 108, 105, 99, 116, 115], [82, 101, 112, 108, 97, 99, 101, 115], [67, 111, 110, 102, 102, 105, 108, 101, 115], [84, 114, 105, 103, 103, 101, 114, 115, 45, 80, 101, 110, 100, 105, 110, 103], [84, 114, 105, 103, 103, 101, 114, 115, 45, 65, 119, 97, 105, 116, 101, 100]] (by decide +kernel) f
 simp only [List.map_cons, List.map_nil, List.sum_cons, List.sum_nil] at hs
 have a1 := textA_le (t := fT f [68, 101, 112, 101, 110, 100, 115])
 have a2 := textQ_le (t := fT f [67, 111, 110, 102, 108, 105, 99, 116, 115])
 have a3 := words_join (fT f [82, 101, 112, 108, 97, 99, 101, 115])
 have a4 := cfText_readR (fT f [67, 111, 110, 102, 102, 105, 108, 101, 115])
 have a5 := words_join (fT f [84, 114, 105, 103, 103, 101, 114, 115, 45, 80, 101, 110, 100, 105, 110, 103])
 have a6 := words_join (fT f [84, 114, 105, 103, 103, 101, 114, 115, 45, 65, 119, 97, 105, 116, 101, 100])
 unfold fieldsU
 rw [r.dp, r.cn, r.nm, r.vr, r.rp, r.cf, r.pd, r.aw] at h ⊢
 omega
theorem recs_sumR : ∀ (fs : List (List Fld)) (L : List Uv), RecsOfR fs L → wS (L.map fieldsU) ≤ 6 * (fs.map tS).sum + 201 * fs.length
 | [], L, h => by
  have : L = [] := List.eq_nil_of_length_eq_zero h.1
  subst this; simp [wS]
 | f :: fs, [], h => by have := h.1; simp at this
 | f :: fs, x :: L, h => by
  have ih := recs_sumR fs L ⟨by have := h.1; simp at this; exact this, fun k g y h1 h2 => h.2 (k + 1) g y (by simpa using h1) (by simpa using h2)⟩
  have h0 := fields_ofR (h.2 0 f x rfl rfl)
  simp only [wS, List.map_cons, List.sum_cons, List.length_cons] at *
  omega
theorem smallR_of {f : List Fld} {x : Uv} (hf3 : tS f ≤ 3000) (r : RecOfR f x) : SmallU x := by
 have hfT := fun n => Nat.le_trans (fT_tS f n) hf3
 obtain ⟨d1, d2⟩ := big_of r.dp
 obtain ⟨c1, c2⟩ := bigQ_of (fT f [67, 111, 110, 102, 108, 105, 99, 116, 115])
 rw [← r.cn] at c1 c2
 have w1 := words_few (fT f [82, 101, 112, 108, 97, 99, 101, 115])
 have w2 := words_few (fT f [84, 114, 105, 103, 103, 101, 114, 115, 45, 80, 101, 110, 100, 105, 110, 103])
 have w3 := words_few (fT f [84, 114, 105, 103, 103, 101, 114, 115, 45, 65, 119, 97, 105, 116, 101, 100])
 have w4 := cfReadR_few (fT f [67, 111, 110, 102, 102, 105, 108, 101, 115])
 rw [← r.rp] at w1
 rw [← r.pd] at w2
 rw [← r.aw] at w3
 rw [← r.cf] at w4
 have t1 := hfT [80, 97, 99, 107, 97, 103, 101]
 have t2 := hfT [86, 101, 114, 115, 105, 111, 110]
 have t3 := hfT [82, 101, 112, 108, 97, 99, 101, 115]
 have t4 := hfT [84, 114, 105, 103, 103, 101, 114, 115, 45, 80, 101, 110, 100, 105, 110, 103]
 have t5 := hfT [84, 114, 105, 103, 103, 101, 114, 115, 45, 65, 119, 97, 105, 116, 101, 100]
 have t6 := hfT [67, 111, 110, 102, 102, 105, 108, 101, 115]
 exact ⟨by rw [r.nm]; omega, by rw [r.vr]; omega, by omega, d2, by omega, c2, by omega, fun p hp => by have := w1.2 p hp; omega, by omega, fun c hc => by have := w4.2 c hc; omega, by omega, fun p hp => by have := w2.2 p hp; omega, by omega, fun p hp => by have := w3.2 p hp; omega⟩
theorem fitR_of {s : Bs} (hs : s.length ≤ 3000) (fs : List (List Fld)) (L : List Uv) (h : parseS s = some fs) (hL : RecsOfR fs L) : (∀ x ∈ L, SmallU x) ∧ (kchkK rightU (fun x => x.nm) L = 0 → Small (L.map fieldsU) 90000) := by
 obtain ⟨h1, h2, h3⟩ := parse_sizes h
 refine ⟨fun x hx => ?_, fun _ => small_of ?_⟩
 ·
  obtain ⟨k, hk, rfl⟩ := List.mem_iff_getElem.1 hx
  have hk2 : k < fs.length := by rw [← hL.1]; exact hk
  have := sum_mem tS fs _ (List.getElem_mem hk2)
  exact smallR_of (f := fs[k]) (by omega) (hL.2 k _ _ (List.getElem?_eq_getElem hk2) (List.getElem?_eq_getElem hk))
 ·
  have := recs_sumR fs L hL
  omega
theorem right_alike {x y : Uv} (h : AlikeU x y) : rightU x = rightU y := by
 unfold rightU
 rw [h.nm, h.vr, h.st, h.dp, h.cn, h.rp, h.cf, h.pd, h.aw]
theorem fields_alike {x y : Uv} (h : AlikeU x y) : fieldsU x = fieldsU y := by
 unfold fieldsU
 rw [h.nm, h.vr, h.st, h.dp, h.cn, h.rp, h.cf, h.pd, h.aw]
theorem AlikeU.symm {x y : Uv} (h : AlikeU x y) : AlikeU y x := ⟨h.nm.symm, h.vr.symm, h.st.symm, h.dp.symm, h.cn.symm, h.rp.symm, h.cf.symm, h.pd.symm, h.aw.symm⟩
theorem steps_alike {L M : List Uv} (hl : L.length = M.length) (ha : ∀ (k : Nat) x y, L[k]? = some x → M[k]? = some y → AlikeU x y) (h : StepsK rightU (fun x => x.nm) L) : StepsK rightU (fun x => x.nm) M := fun i y hy => by
 have hi := (List.getElem?_eq_some_iff.1 hy).1
 have hx : L[i]? = some L[i] := List.getElem?_eq_getElem (by rw [hl]; exact hi)
 have hxy := ha i _ _ hx hy
 obtain ⟨g1, g2⟩ := h i _ hx
 refine ⟨by rw [← right_alike hxy]; exact g1, fun z h0 hz => ?_⟩
 have hj := (List.getElem?_eq_some_iff.1 hz).1
 have hw : L[i - 1]? = some L[i - 1] := List.getElem?_eq_getElem (by rw [hl]; exact hj)
 have hwz := ha (i - 1) _ _ hw hz
 have := g2 _ h0 hw
 simp only at this ⊢
 rw [← hwz.nm, ← hxy.nm]; exact this
theorem print_alike {L M : List Uv} (hl : L.length = M.length) (ha : ∀ (k : Nat) x y, L[k]? = some x → M[k]? = some y → AlikeU x y) : printUE L = printUE M := by
 have hk : kchkK rightU (fun x => x.nm) L = kchkK rightU (fun x => x.nm) M := by
  by_cases h64 : 64 < L.length
  ·
   rw [kchkK_long h64, kchkK_long (by rw [← hl]; exact h64)]
  ·
   by_cases g : StepsK rightU (fun x => x.nm) L
   ·
    rw [kchkK_ok h64 g, kchkK_ok (by rw [← hl]; exact h64) (steps_alike hl ha g)]
   ·
    rw [kchkK_no h64 g, kchkK_no (by rw [← hl]; exact h64) (fun q => g (steps_alike hl.symm (fun k x y hx hy => (ha k y x hy hx).symm) q))]
 have hm : L.map fieldsU = M.map fieldsU := by
  apply List.ext_getElem?
  intro k
  rw [List.getElem?_map, List.getElem?_map]
  by_cases hk : k < L.length
  ·
   have h1 := List.getElem?_eq_getElem hk
   have h2 := List.getElem?_eq_getElem (l := M) (i := k) (by rw [← hl]; exact hk)
   rw [h1, h2]
   exact congrArg some (fields_alike (ha k _ _ h1 h2))
  ·
   rw [List.getElem?_eq_none (by omega), List.getElem?_eq_none (by omega)]
 unfold printUE
 rw [hk, hm]
theorem printed_back {s : Bs} {fs : List (List Fld)} {L : List Uv} (hp : parseS s = some fs) (h : printUE L = (s, 0)) : L.map fieldsU = fs ∧ ∀ x ∈ L, rightU x = true := by
 unfold printUE at h
 split at h
 ·
  rename_i hk
  split at h
  ·
   rename_i hz
   have h1 := (Prod.mk.inj h).1
   have hpp := print_parse (l := L.map fieldsU) (s := s) (Prod.ext h1 hz)
   rw [hp] at hpp
   refine ⟨(Option.some.inj hpp).symm, fun x hx => ?_⟩
   rcases kchkK_ways rightU (fun x => x.nm) L with g | g
   ·
    obtain ⟨i, hi, rfl⟩ := List.mem_iff_getElem.1 hx
    exact (g.2.2 i _ (List.getElem?_eq_getElem hi)).1
   ·
    rw [hk] at g
    rcases g.1 with g | g <;> cases g
  ·
   cases (Prod.mk.inj h).2
 ·
  rename_i hk
  exact absurd (Prod.mk.inj h).2 hk
theorem both_alike {s : Bs} {fs : List (List Fld)} {L M K : List Uv} (hp : parseS s = some fs) (hL : RecsOf fs L) (hM : RecsOfR fs M) (hK : K = L ∨ K = M) (h : printUE K = (s, 0)) : ∀ (k : Nat) x y, L[k]? = some x → M[k]? = some y → AlikeU x y := fun k x y hx hy => by
 obtain ⟨h1, h2⟩ := printed_back hp h
 have hk : k < fs.length := by rw [← hL.1]; exact (List.getElem?_eq_some_iff.1 hx).1
 have hf := List.getElem?_eq_getElem hk
 have rx := hL.2 k _ _ hf hx
 have ry := hM.2 k _ _ hf hy
 have hc : cfReadR (fT fs[k] [67, 111, 110, 102, 102, 105, 108, 101, 115]) = cfRead (fT fs[k] [67, 111, 110, 102, 102, 105, 108, 101, 115]) := by
  rcases hK with rfl | rfl
  ·
   refine confs_both (x := x) (h2 x (List.mem_of_getElem? hx)) ?_
   have : (K.map fieldsU)[k]? = some (fieldsU x) := by rw [List.getElem?_map, hx]; rfl
   rw [h1, hf] at this
   exact (Option.some.inj this).symm
  ·
   refine confs_both (x := y) (h2 y (List.mem_of_getElem? hy)) ?_
   have : (K.map fieldsU)[k]? = some (fieldsU y) := by rw [List.getElem?_map, hy]; rfl
   rw [h1, hf] at this
   exact (Option.some.inj this).symm
 exact ⟨rx.nm.trans ry.nm.symm, rx.vr.trans ry.vr.symm, rx.st.trans ry.st.symm, rx.dp.trans ry.dp.symm, rx.cn.trans ry.cn.symm, rx.rp.trans ry.rp.symm, by rw [rx.cf, ry.cf, hc], rx.pd.trans ry.pd.symm, rx.aw.trans ry.aw.symm⟩
end
section
open Go.RowKit Go.Shelf
abbrev exG : Uv := ⟨[97], [49], 7, [], [], [], [], [], [], .slice none 0 0, .slice none 0 0, .slice none 0 0, .slice none 0 0, .slice none 0 0, .slice none 0 0⟩
abbrev rowsG : List Fld := [([80, 97, 99, 107, 97, 103, 101], [97]), ([83, 116, 97, 116, 117, 115], [105, 110, 115, 116, 97, 108, 108, 101, 100]), ([86, 101, 114, 115, 105, 111, 110], [49])]
abbrev textG1 : ByteArray := ⟨#[80, 97, 99, 107, 97, 103, 101, 58, 32, 97, 10, 83, 116, 97, 116, 117, 115, 58, 32, 105, 110, 115, 116, 97, 108, 108, 101, 100, 10, 86, 101, 114, 115, 105, 111, 110, 58, 32, 49, 10]⟩
theorem kchk_nil {α : Type} (rt : α → Bool) (key : α → Bs) : kchkK rt key [] = 0 := kchkK_ok (by simp) (fun i x h => by simp at h)
theorem rightG : rightU exG = true := by
 unfold rightU rlB
 simp only [Bool.and_eq_true, decide_eq_true_eq, beq_iff_eq, kchk_nil, and_true]
 refine ⟨⟨⟨⟨by decide +kernel, by decide +kernel⟩, by decide +kernel⟩, by decide +kernel, by decide +kernel⟩, by decide +kernel⟩
theorem printG : printUE [exG] = (textG1.data.toList, 0) := by
 have h1 : kchkK rightU (fun x => x.nm) [exG] = 0 := kchkK_ok (by simp) (fun i x h => by
  match i, h with
  | 0, h => cases h; exact ⟨rightG, fun y h0 => by omega⟩
  | i + 1, h => simp at h)
 have h2 : [exG].map fieldsU = [rowsG] := by
  show [fieldsU exG] = _
  rw [show fieldsU exG = rowsG by decide +kernel]
 have h3 : printE [rowsG] = (textG1.data.toList, 0) := by decide +kernel
 unfold printUE
 rw [if_pos h1, h2, h3, if_pos rfl]
theorem likeG {x : Uv} (r : RecOf rowsG x) : AlikeU x exG := by
 refine ⟨r.nm.trans (by decide +kernel), r.vr.trans (by decide +kernel), r.st.trans (by decide +kernel), r.dp.trans ?_, r.cn.trans ?_, r.rp.trans (by decide +kernel), r.cf.trans (by decide +kernel), r.pd.trans (by decide +kernel), r.aw.trans (by decide +kernel)⟩
 ·
  rw [show fT rowsG [68, 101, 112, 101, 110, 100, 115] = [] by decide +kernel]; rfl
 ·
  rw [show fT rowsG [67, 111, 110, 102, 108, 105, 99, 116, 115] = [] by decide +kernel]; rfl
theorem smallG : SmallU exG := ⟨by decide, by decide, by decide, fun x h => (by cases h), by decide, fun x h => (by cases h), by decide, fun x h => (by cases h), by decide, fun x h => (by cases h), by decide, fun x h => (by cases h), by decide, fun x h => (by cases h)⟩
theorem inG (w : World) : InU w exG := ⟨⟨⟨_, _, 0, 0, rfl, Nat.zero_le _, fun h => absurd h (by simp), fun j l hj => by simp at hj⟩, fun x hx => by simp at hx⟩,
   ⟨_, _, 0, 0, rfl, Nat.zero_le _, fun h => absurd h (by simp), fun j l hj => by simp at hj⟩,
   ⟨_, _, 0, 0, rfl, Nat.zero_le _, fun h => absurd h (by simp), fun j l hj => by simp at hj⟩,
   ⟨_, _, 0, 0, rfl, Nat.zero_le _, fun h => absurd h (by simp), fun j l hj => by simp at hj⟩,
   ⟨_, _, 0, 0, rfl, Nat.zero_le _, fun h => absurd h (by simp), fun j l hj => by simp at hj⟩,
   ⟨_, _, 0, 0, rfl, Nat.zero_le _, fun h => absurd h (by simp), fun j l hj => by simp at hj⟩⟩
theorem parseG1 (w : World) (hL : LaidU w) (hE : LaidE w) : Calls Tryz.prog 11 #[.string textG1] w fun e w' => ∃ (b o c : Nat) (a3 a4 a5 a6 a7 a8 : Option Addr) (n3 n4 n5 n6 m3 m4 m5 m6 m7 m8 : Nat), e = .returned (.tuple #[.slice (some ⟨b, o, none⟩) 1 c, .int .i64 0]) ∧ 1 ≤ c ∧ b < w'.heap.size ∧
  (w'.cell? ⟨b, o, none⟩ = some (.string ⟨#[97]⟩) ∧ w'.cell? ⟨b, o + 1, none⟩ = some (.string ⟨#[49]⟩) ∧ w'.cell? ⟨b, o + 2, none⟩ = some (.int .i64 7) ∧ w'.cell? ⟨b, o + 3, none⟩ = some (.slice a3 n3 m3) ∧ w'.cell? ⟨b, o + 4, none⟩ = some (.slice a4 n4 m4) ∧ w'.cell? ⟨b, o + 5, none⟩ = some (.slice a5 n5 m5) ∧ w'.cell? ⟨b, o + 6, none⟩ = some (.slice a6 n6 m6) ∧ w'.cell? ⟨b, o + 7, none⟩ = some (.slice a7 0 m7) ∧ w'.cell? ⟨b, o + 8, none⟩ = some (.slice a8 0 m8)) ∧ Below w.heap.size w w' := by
 have hp0 : parseS textG1.data.toList = some [rowsG] := by decide +kernel
 refine (parseU_any textG1 (by decide) (fun fs h => fsFit_of (by decide) h) w hL hE).mono fun e w' h => ?_
 obtain ⟨hb, h | ⟨fs, L, hp, hr, h⟩⟩ := h
 ·
  rw [hp0] at h; cases h.1
 ·
  rw [hp0] at hp
  obtain rfl := Option.some.inj hp
  obtain ⟨x, rfl⟩ : ∃ x, L = [x] := by
   have := hr.1
   match L, this with
   | [x], _ => exact ⟨x, rfl⟩
  have hx := likeG (hr.2 0 _ _ rfl rfl)
  have hpr : printUE [x] = (textG1.data.toList, 0) := (print_alike (L := [x]) (M := [exG]) rfl (fun k y z hy hz => by
   match k, hy, hz with
   | 0, hy, hz => cases hy; cases hz; exact hx
   | k + 1, hy, _ => simp at hy)).trans printG
  rcases h with ⟨-, v, he, hh⟩ | ⟨hn, -⟩
  ·
   have hi := hh.2 x (by simp)
   obtain ⟨a, c, b, o, rfl, hc, ha, hcell⟩ := hh.parts
   obtain ⟨rfl, hbw⟩ := ha (by simp)
   obtain ⟨x0, x1, x2, x3, x4, x5, x6, x7, x8⟩ := hcell 0 _ rfl
   obtain ⟨nm, vr, z, dp, cn, rp, cf, pd, aw, dv, cv, rv, fv, pv, av⟩ := x
   obtain ⟨rfl, rfl, rfl, -, -, -, -, h7', h8'⟩ := hx
   obtain ⟨h3, h4, h5, h6, h7, h8⟩ := hi
   dsimp only at h3 h4 h5 h6 h7 h8 h7' h8'
   subst h7' h8'
   obtain ⟨a3, m3, -, -, rfl, -⟩ := h3.parts
   obtain ⟨a4, m4, -, -, rfl, -⟩ := HoldQ.parts h4
   obtain ⟨a5, m5, -, -, rfl, -⟩ := h5
   obtain ⟨a6, m6, -, -, rfl, -⟩ := HoldW2.parts h6
   obtain ⟨a7, m7, -, -, rfl, -⟩ := h7
   obtain ⟨a8, m8, -, -, rfl, -⟩ := h8
   simp only [Nat.zero_mul, Nat.add_zero] at x0 x1 x2 x3 x4 x5 x6 x7 x8
   exact ⟨b, o, c, a3, a4, a5, a6, a7, a8, _, _, _, _, m3, m4, m5, m6, m7, m8, he, hc, hbw, ⟨x0, x1, x2, x3, x4, x5, x6, x7, x8⟩, hb⟩
  ·
   exact absurd hpr hn
theorem awake8G (w : World) (hL : LaidU w) (hE : LaidE w) : Calls Tryz.prog 6 #[] w fun e w' => e = .returned (.bool true) ∧ Below w.heap.size w w' := by
 have B0 := (Below.refl w.heap.size w).alloc (Nat.le_refl _) (.cells #[.string ⟨#[97]⟩, .string ⟨#[49]⟩, .int .i64 7, .slice none 0 0, .slice none 0 0, .slice none 0 0, .slice none 0 0, .slice none 0 0, .slice none 0 0] 43)
 have HH : HoldU (w.alloc (.cells #[.string ⟨#[97]⟩, .string ⟨#[49]⟩, .int .i64 7, .slice none 0 0, .slice none 0 0, .slice none 0 0, .slice none 0 0, .slice none 0 0, .slice none 0 0] 43)) (.slice (some ⟨w.heap.size, 0, none⟩) 1 1) [exG] := by
  refine ⟨⟨some ⟨w.heap.size, 0, none⟩, 1, w.heap.size, 0, rfl, Nat.le_refl _, fun _ => ⟨rfl, by simp⟩, fun j r hj i y hi hy => ?_⟩, fun x hx => ?_⟩
  ·
   match j, hj with
   | 0, hj =>
    have e : r = cellsU exG := by cases hj; rfl
    rw [e] at hy
    rw [show 0 + 0 * 9 + i = i from by omega, World.cell?_alloc_new, ← hy]
    match i with
    | 0 | 1 | 2 | 3 | 4 | 5 | 6 | 7 | 8 => rfl
    | i + 9 => rfl
   | j + 1, hj => simp at hj
  ·
   simp at hx
   subst hx
   exact inG _
 have P1 := printU_any _ [exG] (by decide) (fun x hx => by simp at hx; subst hx; exact smallG) (fun _ => small_of (by decide +kernel)) _ HH (hL.on B0) (hE.on B0)
 rw [printG] at P1
 have PA := fun W (hb : Below w.heap.size w W) => parseG1 W (hL.on hb) (hE.on hb)
 have ST := fun (a3 a4 a5 a6 a7 a8 : Option Addr) (n3 n4 n5 n6 m3 m4 m5 m6 m7 m8 : Nat) W => settled_any ⟨#[97]⟩ ⟨#[49]⟩ 7 a3 a4 a5 a6 a7 a8 n3 n4 n5 n6 0 0 m3 m4 m5 m6 m7 m8 W
 simp only [Nat.lt_irrefl, if_false] at ST
 have HB0 := Lib.hid B0
 clear B0 HH hL hE
 go_enter Tryz.func6, Tryz.ntmps6
 go_wp2_with (first
  | (go_at_call 7; (with_reducible refine P1.mono ?_); rintro e w1 ⟨rfl, hb⟩; have HB1 := Lib.hid (HB0.out.trans (hb.mono HB0.out.size)); clear hb)
  | (go_at_call 11; (with_reducible refine (PA _ HB1.out).mono ?_); rintro e w2 ⟨ub, uo, uc, a3, a4, a5, a6, a7, a8, n3, n4, n5, n6, m3, m4, m5, m6, m7, m8, rfl, hc1, hbw, ⟨x0, x1, x2, x3, x4, x5, x6, x7, x8⟩, hb⟩; have HB2 := Lib.hid (HB1.out.trans (hb.mono HB1.out.size)); clear hb)
  | (go_at_call 15; (with_reducible refine (ST _ _ _ _ _ _ _ _ _ _ _ _ _ _ _ _ _).mono ?_); rintro e w3 ⟨rfl, hb⟩; have HB3 := Lib.hid (HB2.out.trans (hb.mono HB2.out.size)); clear hb))
 go_ret
 exact ⟨rfl, HB3.out⟩
end
section
open Go.RowKit Go.Shelf
theorem recs_alike {fs : List (List Fld)} {L M : List Uv} (hL : RecsOf fs L) (hM : RecsOf fs M) : ∀ (k : Nat) x y, L[k]? = some x → M[k]? = some y → AlikeU x y := fun k x y hx hy => by
 have hk : k < fs.length := by rw [← hL.1]; exact (List.getElem?_eq_some_iff.1 hx).1
 have hf := List.getElem?_eq_getElem hk
 have rx := hL.2 k _ _ hf hx
 have ry := hM.2 k _ _ hf hy
 exact ⟨rx.nm.trans ry.nm.symm, rx.vr.trans ry.vr.symm, rx.st.trans ry.st.symm, rx.dp.trans ry.dp.symm, rx.cn.trans ry.cn.symm, rx.rp.trans ry.rp.symm, rx.cf.trans ry.cf.symm, rx.pd.trans ry.pd.symm, rx.aw.trans ry.aw.symm⟩
theorem recs_of_R {s : Bs} {fs : List (List Fld)} {M : List Uv} (hp : parseS s = some fs) (hM : RecsOfR fs M) (h : printUE M = (s, 0)) : RecsOf fs M := by
 obtain ⟨h1, h2⟩ := printed_back hp h
 refine ⟨hM.1, fun k f y hf hy => ?_⟩
 have ry := hM.2 k f y hf hy
 have : (M.map fieldsU)[k]? = some (fieldsU y) := by rw [List.getElem?_map, hy]; rfl
 rw [h1, hf] at this
 have hc := confs_both (x := y) (h2 y (List.mem_of_getElem? hy)) (Option.some.inj this).symm
 exact ⟨ry.nm, ry.vr, ry.st, ry.dp, ry.cn, ry.rp, by rw [ry.cf, hc], ry.pd, ry.aw⟩
theorem huge_of {x : Uv} (h : SmallU x) : NotHugeU x := ⟨by have := h.dn; omega, fun p hp => by have := (h.dp p hp).2; omega, by have := h.cl; omega, by have := h.rl; omega, by have := h.fl; omega, by have := h.pl; omega, by have := h.al; omega⟩
theorem statusParsesW (s : ByteArray) (w : World) (hL : LaidU w) (hE : LaidE w) : Calls Tryz.prog 4 #[.string s] w fun e w' => e = .returned (.bool true) ∧ Below w.heap.size w w' := by
 have A8 := fun W (hb : Below w.heap.size w W) => awake8G W (hL.on hb) (hE.on hb)
 by_cases hs : 3000 < s.size
 ·
  clear hL hE
  go_enter Tryz.func4, Tryz.ntmps4
  go_wp2_with (go_at_call 6; (with_reducible refine (A8 _ (Below.refl _ _)).mono ?_); rintro e w2 ⟨rfl, hb⟩; have HB9 := Lib.hid hb; clear hb)
  go_ret
  exact ⟨rfl, HB9.out⟩
 have hs3 : s.size ≤ 3000 := by omega
 have hsl : s.data.toList.length ≤ 3000 := by rw [← sizeOf]; exact hs3
 have P := parseU_any s (by omega) (fun fs h => fsFit_of hsl h) w hL hE
 have R := fun W => parse8_ref s hs3 (fun fs L h hL => fitR_of hsl fs L h hL) W
 by_cases hok : ∃ fs L, parseS s.data.toList = some fs ∧ RecsOf fs L ∧ printUE L = (s.data.toList, 0)
 ·
  obtain ⟨fs, L0, hp, hL0, h0⟩ := hok
  have hfit := fsFit_of hsl hp
  have PY : Calls Tryz.prog 11 #[.string s] w fun e w' => (∃ a n c L, e = .returned (.tuple #[.slice a n c, .int .i64 0]) ∧ HoldU w' (.slice a n c) L ∧ RecsOf fs L) ∧ Below w.heap.size w w' := P.mono fun e w' h => by
   obtain ⟨hb, h | ⟨fs', L, hp', hr, h⟩⟩ := h
   ·
    rw [hp] at h; cases h.1
   ·
    rw [hp] at hp'
    obtain rfl := Option.some.inj hp'
    rcases h with ⟨-, v, he, hh⟩ | ⟨hn, -⟩
    ·
     have hh2 := hh
     obtain ⟨a, c, b, o, e', -⟩ := hh.parts
     exact ⟨⟨a, _, c, L, by rw [he, e'], by rw [← e']; exact hh2, hr⟩, hb⟩
    ·
     exact absurd ((print_alike (hr.1.trans hL0.1.symm) (recs_alike hr hL0)).trans h0) hn
  have RY : ∀ W, Calls Tryz.prog 13 #[.string s] W fun e w' => (∃ a n c M, e = .returned (.tuple #[.slice a n c, .bool true]) ∧ HoldU w' (.slice a n c) M ∧ RecsOfR fs M) ∧ Below W.heap.size W w' := fun W => (R W).mono fun e w' h => by
   obtain ⟨hb, h | ⟨fs', M, hp', hr, h⟩⟩ := h
   ·
    rw [hp] at h; cases h.1
   ·
    rw [hp] at hp'
    obtain rfl := Option.some.inj hp'
    rcases h with ⟨-, v, he, hh⟩ | ⟨hn, -⟩
    ·
     have hh2 := hh
     obtain ⟨a, c, b, o, e', -⟩ := hh.parts
     exact ⟨⟨a, _, c, M, by rw [he, e'], by rw [← e']; exact hh2, hr⟩, hb⟩
    ·
     have ha := both_alike hp hL0 hr (K := L0) (.inl rfl) h0
     exact absurd ((print_alike (hL0.1.trans hr.1.symm) ha).symm.trans h0) hn
  have SM := fun (u v : Value) (L M : List Uv) (h1 : RecsOf fs L) (h2 : RecsOfR fs M) W (g1 : HoldU W u L) (g2 : HoldU W v M) => sameU_ref u v L M (h2.1.trans h1.1.symm) (both_alike hp h1 h2 (K := L) (.inl rfl) ((print_alike (h1.1.trans hL0.1.symm) (recs_alike h1 hL0)).trans h0)) (by rw [h1.1]; exact hfit.n) (fun x hx => huge_of (h1.small hfit x hx)) W g1 g2
  have PR : ∀ (u : Value) (L : List Uv) (h1 : RecsOf fs L) W, Below w.heap.size w W → HoldU W u L → Calls Tryz.prog 7 #[u] W fun e w' => e = .returned (.tuple #[.string s, .int .i64 0]) ∧ Below W.heap.size W w' := fun u L h1 W hb g => by
   have := printU_any u L (by rw [h1.1]; exact hfit.n) (h1.small hfit) (hfit.p L h1) W g (hL.on hb) (hE.on hb)
   rw [(print_alike (h1.1.trans hL0.1.symm) (recs_alike h1 hL0)).trans h0] at this
   exact this
  have hTT : (s.toList == s.toList) = true := by simp
  clear P R hp hL0 h0 hfit hL hE hsl
  go_enter Tryz.func4, Tryz.ntmps4
  go_wp2_with (first
   | (go_at_call 11; (with_reducible refine PY.mono ?_); rintro e w1 ⟨⟨a1, n1, d1, L, rfl, hh, hr⟩, hb⟩; have HU1 := Lib.hid hh; have HR1 := Lib.hid hr; have HB1 := Lib.hid hb; clear hh hr hb)
   | (go_at_call 13; (with_reducible refine (RY _).mono ?_); rintro e w2 ⟨⟨a2, n2, d2, M, rfl, hh, hr⟩, hb⟩; have HV2 := Lib.hid hh; have HR2 := Lib.hid hr; have HU2 := Lib.hid (HoldU.on HU1.out hb); have HB2 := Lib.hid (HB1.out.trans (hb.mono HB1.out.size)); clear hh hr hb)
   | (go_at_call 12; (with_reducible refine (SM _ _ L M HR1.out HR2.out _ HU2.out HV2.out).mono ?_); rintro e w3 ⟨rfl, hb⟩; have HU3 := Lib.hid (HoldU.on HU2.out hb); have HB3 := Lib.hid (HB2.out.trans (hb.mono HB2.out.size)); clear hb)
   | (go_at_call 7; (with_reducible refine (PR _ L HR1.out _ HB3.out HU3.out).mono ?_); rintro e w4 ⟨rfl, hb⟩; have HB4 := Lib.hid (HB3.out.trans (hb.mono HB3.out.size)); clear hb)
   | (go_at_call 6; (with_reducible refine (A8 _ HB4.out).mono ?_); rintro e w5 ⟨rfl, hb⟩; have HB5 := Lib.hid (HB4.out.trans (hb.mono HB4.out.size)); clear hb))
  go_ret
  exact ⟨rfl, HB5.out⟩
 ·
  have PN : Calls Tryz.prog 11 #[.string s] w fun e w' => e = .returned (.tuple #[.slice none 0 0, .int .i64 2]) ∧ Below w.heap.size w w' := P.mono fun e w' h => by
   obtain ⟨hb, h | ⟨fs, L, hp, hr, h⟩⟩ := h
   ·
    exact ⟨h.2, hb⟩
   ·
    rcases h with ⟨h0, -⟩ | ⟨-, he⟩
    ·
     exact absurd ⟨fs, L, hp, hr, h0⟩ hok
    ·
     exact ⟨he, hb⟩
  have RN : ∀ W, Calls Tryz.prog 13 #[.string s] W fun e w' => e = .returned (.tuple #[.slice none 0 0, .bool false]) ∧ Below W.heap.size W w' := fun W => (R W).mono fun e w' h => by
   obtain ⟨hb, h | ⟨fs, M, hp, hr, h⟩⟩ := h
   ·
    exact ⟨h.2, hb⟩
   ·
    rcases h with ⟨h0, -⟩ | ⟨-, he⟩
    ·
     exact absurd ⟨fs, M, hp, recs_of_R hp hr h0, h0⟩ hok
    ·
     exact ⟨he, hb⟩
  clear P R hok hL hE hsl
  go_enter Tryz.func4, Tryz.ntmps4
  go_wp2_with (first
   | (go_at_call 11; (with_reducible refine PN.mono ?_); rintro e w1 ⟨rfl, hb⟩; have HB1 := Lib.hid hb; clear hb)
   | (go_at_call 13; (with_reducible refine (RN _).mono ?_); rintro e w2 ⟨rfl, hb⟩; have HB2 := Lib.hid (HB1.out.trans (hb.mono HB1.out.size)); clear hb)
   | (go_at_call 6; (with_reducible refine (A8 _ HB2.out).mono ?_); rintro e w5 ⟨rfl, hb⟩; have HB5 := Lib.hid (HB2.out.trans (hb.mono HB2.out.size)); clear hb))
  go_ret
  exact ⟨rfl, HB5.out⟩
end
end Go.Proofs.YtkbkaeefdhkgdaaGreatDoor
