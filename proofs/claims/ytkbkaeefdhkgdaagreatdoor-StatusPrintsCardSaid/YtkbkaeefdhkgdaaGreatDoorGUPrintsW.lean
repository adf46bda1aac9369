import Derived.Test.YtkbkaeefdhkgdaaGreatDoorGUPrM
set_option maxRecDepth 100000
set_option maxHeartbeats 32000000
namespace Go.Proofs.YtkbkaeefdhkgdaaGreatDoor
section
open Go.RowKit Go.Shelf
abbrev exG : Uv := ⟨[97], [49], 7, [], [], [], [], [], [], .slice none 0 0, .slice none 0 0, .slice none 0 0, .slice none 0 0, .slice none 0 0, .slice none 0 0⟩
abbrev rowsG : List Fld := [([80, 97, 99, 107, 97, 103, 101], [97]), ([83, 116, 97, 116, 117, 115], [105, 110, 115, 116, 97, 108, 108, 101, 100]), ([86, 101, 114, 115, 105, 111, 110], [49])]
abbrev textG1 : ByteArray := ⟨#[80, 97, 99, 107, 97, 103, 101, 58, 32, 97, 10, 83, 116, 97, 116, 117, 115, 58, 32, 105, 110, 115, 116, 97, 108, 108, 101, 100, 10, 86, 101, 114, 115, 105, 111, 110, 58, 32, 49, 10]⟩
theorem kchk_nil {α : Type} (rt : α → Bool) (key : α → Bs) : kchkK rt key [] = 0 := kchkK_ok (by simp) (fun i x h => by simp at h)
theorem rightG : rightU exG = true := by
 unfold rightU rlB
 simp only [Bool.and_eq_true, decide_eq_true_eq, beq_iff_eq, kchk_nil, and_true]
 refine ⟨⟨⟨⟨by decide +kernel, by decide +kernel⟩, by decide +kernel⟩, by decide +kernel, by decide +kernel⟩, by decide +kernel⟩
theorem printG : printUE [exG] = (textG1.data.toList, 0) := by
 have h1 : kchkK rightU (fun x => x.nm) [exG] = 0 := kchkK_ok (by simp) (fun i x h => by
  match i, h with
  | 0, h => cases h; exact ⟨rightG, fun y h0 => by omega⟩
  | i + 1, h => simp at h)
 have h2 : [exG].map fieldsU = [rowsG] := by
  show [fieldsU exG] = _
  rw [show fieldsU exG = rowsG by decide +kernel]
 have h3 : printE [rowsG] = (textG1.data.toList, 0) := by decide +kernel
 unfold printUE
 rw [if_pos h1, h2, h3, if_pos rfl]
theorem likeG {x : Uv} (r : RecOf rowsG x) : AlikeU x exG := by
 refine ⟨r.nm.trans (by decide +kernel), r.vr.trans (by decide +kernel), r.st.trans (by decide +kernel), r.dp.trans ?_, r.cn.trans ?_, r.rp.trans (by decide +kernel), r.cf.trans (by decide +kernel), r.pd.trans (by decide +kernel), r.aw.trans (by decide +kernel)⟩
 ·
  rw [show fT rowsG [68, 101, 112, 101, 110, 100, 115] = [] by decide +kernel]; rfl
 ·
  rw [show fT rowsG [67, 111, 110, 102, 108, 105, 99, 116, 115] = [] by decide +kernel]; rfl
theorem smallG : SmallU exG := ⟨by decide, by decide, by decide, fun x h => (by cases h), by decide, fun x h => (by cases h), by decide, fun x h => (by cases h), by decide, fun x h => (by cases h), by decide, fun x h => (by cases h), by decide, fun x h => (by cases h)⟩
theorem inG (w : World) : InU w exG := ⟨⟨⟨_, _, 0, 0, rfl, Nat.zero_le _, fun h => absurd h (by simp), fun j l hj => by simp at hj⟩, fun x hx => by simp at hx⟩,
   ⟨_, _, 0, 0, rfl, Nat.zero_le _, fun h => absurd h (by simp), fun j l hj => by simp at hj⟩,
   ⟨_, _, 0, 0, rfl, Nat.zero_le _, fun h => absurd h (by simp), fun j l hj => by simp at hj⟩,
   ⟨_, _, 0, 0, rfl, Nat.zero_le _, fun h => absurd h (by simp), fun j l hj => by simp at hj⟩,
   ⟨_, _, 0, 0, rfl, Nat.zero_le _, fun h => absurd h (by simp), fun j l hj => by simp at hj⟩,
   ⟨_, _, 0, 0, rfl, Nat.zero_le _, fun h => absurd h (by simp), fun j l hj => by simp at hj⟩⟩
theorem parseG1 (w : World) (hL : LaidU w) (hE : LaidE w) : Calls Tryz.prog 11 #[.string textG1] w fun e w' => ∃ (b o c : Nat) (a3 a4 a5 a6 a7 a8 : Option Addr) (n3 n4 n5 n6 m3 m4 m5 m6 m7 m8 : Nat), e = .returned (.tuple #[.slice (some ⟨b, o, none⟩) 1 c, .int .i64 0]) ∧ 1 ≤ c ∧ b < w'.heap.size ∧
  (w'.cell? ⟨b, o, none⟩ = some (.string ⟨#[97]⟩) ∧ w'.cell? ⟨b, o + 1, none⟩ = some (.string ⟨#[49]⟩) ∧ w'.cell? ⟨b, o + 2, none⟩ = some (.int .i64 7) ∧ w'.cell? ⟨b, o + 3, none⟩ = some (.slice a3 n3 m3) ∧ w'.cell? ⟨b, o + 4, none⟩ = some (.slice a4 n4 m4) ∧ w'.cell? ⟨b, o + 5, none⟩ = some (.slice a5 n5 m5) ∧ w'.cell? ⟨b, o + 6, none⟩ = some (.slice a6 n6 m6) ∧ w'.cell? ⟨b, o + 7, none⟩ = some (.slice a7 0 m7) ∧ w'.cell? ⟨b, o + 8, none⟩ = some (.slice a8 0 m8)) ∧ Below w.heap.size w w' := by
 have hp0 : parseS textG1.data.toList = some [rowsG] := by decide +kernel
 refine (parseU_any textG1 (by decide) (fun fs h => fsFit_of (by decide) h) w hL hE).mono fun e w' h => ?_
 obtain ⟨hb, h | ⟨fs, L, hp, hr, h⟩⟩ := h
 ·
  rw [hp0] at h; cases h.1
 ·
  rw [hp0] at hp
  obtain rfl := Option.some.inj hp
  obtain ⟨x, rfl⟩ : ∃ x, L = [x] := by
   have := hr.1
   match L, this with
   | [x], _ => exact ⟨x, rfl⟩
  have hx := likeG (hr.2 0 _ _ rfl rfl)
  have hpr : printUE [x] = (textG1.data.toList, 0) := (print_alike (L := [x]) (M := [exG]) rfl (fun k y z hy hz => by
   match k, hy, hz with
   | 0, hy, hz => cases hy; cases hz; exact hx
   | k + 1, hy, _ => simp at hy)).trans printG
  rcases h with ⟨-, v, he, hh⟩ | ⟨hn, -⟩
  ·
   have hi := hh.2 x (by simp)
   obtain ⟨a, c, b, o, rfl, hc, ha, hcell⟩ := hh.parts
   obtain ⟨rfl, hbw⟩ := ha (by simp)
   obtain ⟨x0, x1, x2, x3, x4, x5, x6, x7, x8⟩ := hcell 0 _ rfl
   obtain ⟨nm, vr, z, dp, cn, rp, cf, pd, aw, dv, cv, rv, fv, pv, av⟩ := x
   obtain ⟨rfl, rfl, rfl, -, -, -, -, h7', h8'⟩ := hx
   obtain ⟨h3, h4, h5, h6, h7, h8⟩ := hi
   dsimp only at h3 h4 h5 h6 h7 h8 h7' h8'
   subst h7' h8'
   obtain ⟨a3, m3, -, -, rfl, -⟩ := h3.parts
   obtain ⟨a4, m4, -, -, rfl, -⟩ := HoldQ.parts h4
   obtain ⟨a5, m5, -, -, rfl, -⟩ := h5
   obtain ⟨a6, m6, -, -, rfl, -⟩ := HoldW2.parts h6
   obtain ⟨a7, m7, -, -, rfl, -⟩ := h7
   obtain ⟨a8, m8, -, -, rfl, -⟩ := h8
   simp only [Nat.zero_mul, Nat.add_zero] at x0 x1 x2 x3 x4 x5 x6 x7 x8
   exact ⟨b, o, c, a3, a4, a5, a6, a7, a8, _, _, _, _, m3, m4, m5, m6, m7, m8, he, hc, hbw, ⟨x0, x1, x2, x3, x4, x5, x6, x7, x8⟩, hb⟩
  ·
   exact absurd hpr hn
theorem awake8G (w : World) (hL : LaidU w) (hE : LaidE w) : Calls Tryz.prog 6 #[] w fun e w' => e = .returned (.bool true) ∧ Below w.heap.size w w' := by
 have B0 := (Below.refl w.heap.size w).alloc (Nat.le_refl _) (.cells #[.string ⟨#[97]⟩, .string ⟨#[49]⟩, .int .i64 7, .slice none 0 0, .slice none 0 0, .slice none 0 0, .slice none 0 0, .slice none 0 0, .slice none 0 0] 43)
 have HH : HoldU (w.alloc (.cells #[.string ⟨#[97]⟩, .string ⟨#[49]⟩, .int .i64 7, .slice none 0 0, .slice none 0 0, .slice none 0 0, .slice none 0 0, .slice none 0 0, .slice none 0 0] 43)) (.slice (some ⟨w.heap.size, 0, none⟩) 1 1) [exG] := by
  refine ⟨⟨some ⟨w.heap.size, 0, none⟩, 1, w.heap.size, 0, rfl, Nat.le_refl _, fun _ => ⟨rfl, by simp⟩, fun j r hj i y hi hy => ?_⟩, fun x hx => ?_⟩
  ·
   match j, hj with
   | 0, hj =>
    have e : r = cellsU exG := by cases hj; rfl
    rw [e] at hy
    rw [show 0 + 0 * 9 + i = i from by omega, World.cell?_alloc_new, ← hy]
    match i with
    | 0 | 1 | 2 | 3 | 4 | 5 | 6 | 7 | 8 => rfl
    | i + 9 => rfl
   | j + 1, hj => simp at hj
  ·
   simp at hx
   subst hx
   exact inG _
 have P1 := printU_any _ [exG] (by decide) (fun x hx => by simp at hx; subst hx; exact smallG) (fun _ => small_of (by decide +kernel)) _ HH (hL.on B0) (hE.on B0)
 rw [printG] at P1
 have PA := fun W (hb : Below w.heap.size w W) => parseG1 W (hL.on hb) (hE.on hb)
 have ST := fun (a3 a4 a5 a6 a7 a8 : Option Addr) (n3 n4 n5 n6 m3 m4 m5 m6 m7 m8 : Nat) W => settled_any ⟨#[97]⟩ ⟨#[49]⟩ 7 a3 a4 a5 a6 a7 a8 n3 n4 n5 n6 0 0 m3 m4 m5 m6 m7 m8 W
 simp only [Nat.lt_irrefl, if_false] at ST
 have HB0 := Lib.hid B0
 clear B0 HH hL hE
 go_enter Tryz.func6, Tryz.ntmps6
 go_wp2_with (first
  | (go_at_call 7; (with_reducible refine P1.mono ?_); rintro e w1 ⟨rfl, hb⟩; have HB1 := Lib.hid (HB0.out.trans (hb.mono HB0.out.size)); clear hb)
  | (go_at_call 11; (with_reducible refine (PA _ HB1.out).mono ?_); rintro e w2 ⟨ub, uo, uc, a3, a4, a5, a6, a7, a8, n3, n4, n5, n6, m3, m4, m5, m6, m7, m8, rfl, hc1, hbw, ⟨x0, x1, x2, x3, x4, x5, x6, x7, x8⟩, hb⟩; have HB2 := Lib.hid (HB1.out.trans (hb.mono HB1.out.size)); clear hb)
  | (go_at_call 15; (with_reducible refine (ST _ _ _ _ _ _ _ _ _ _ _ _ _ _ _ _ _).mono ?_); rintro e w3 ⟨rfl, hb⟩; have HB3 := Lib.hid (HB2.out.trans (hb.mono HB2.out.size)); clear hb))
 go_ret
 exact ⟨rfl, HB3.out⟩
end
section
open Go.RowKit Go.Shelf
theorem huge_of2 {x : Uv} (h : SmallU x) : NotHugeU x := ⟨by have := h.dn; omega, fun p hp => by have := (h.dp p hp).2; omega, by have := h.cl; omega, by have := h.rl; omega, by have := h.fl; omega, by have := h.pl; omega, by have := h.al; omega⟩
theorem statusPrintsW (v : Value) (l : List Uv) (hl : l.length ≤ maxLen) (hf : ∀ x ∈ l, FitU x) (w : World) (hL : LaidU w) (hE : LaidE w) (h : HoldU w v l) : Calls Tryz.prog 3 #[v] w fun e w' => e = .returned (.bool true) ∧ Below w.heap.size w w' := by
 have A8 := fun W (hb : Below w.heap.size w W) => awake8G W (hL.on hb) (hE.on hb)
 have FW := fewU2_any v l hl hf w h
 have hh := h
 obtain ⟨a0, c0, -, -, hv, -⟩ := hh.parts
 subst hv
 by_cases hfew : FewU2 l
 case neg =>
  have FN : Calls Tryz.prog 5 #[.slice a0 l.length c0] w fun e w' => e = .returned (.bool false) ∧ Below w.heap.size w w' := FW.mono fun e w' ⟨fb, he, hi, hb⟩ => by
   cases fb
   ·
    exact ⟨he, hb⟩
   ·
    exact absurd (hi rfl) hfew
  clear FW hfew hL hE h hh hf hl
  go_enter Tryz.func3, Tryz.ntmps3
  go_wp2_with (first
   | (go_at_call 5; (with_reducible refine FN.mono ?_); rintro e w1 ⟨rfl, hb⟩; have HB1 := Lib.hid hb; clear hb)
   | (go_at_call 6; (with_reducible refine (A8 _ HB1.out).mono ?_); rintro e w5 ⟨rfl, hb⟩; have HB5 := Lib.hid (HB1.out.trans (hb.mono HB1.out.size)); clear hb))
  go_ret
  exact ⟨rfl, HB5.out⟩
 have hs : ∀ x ∈ l, SmallU x := fun x hx => (hfew.1.2 x hx).small (hf x hx)
 have hn : l.length ≤ 90000 := by have := hfew.1.1; omega
 have hsm := fun g => (pr_all (l := l) g hfew).2
 have PU := fun W (hb : Below w.heap.size w W) => printU_any _ l hn hs hsm W (h.on hb) (hL.on hb) (hE.on hb)
 have PR := fun W (hb : Below w.heap.size w W) => print8_ref _ l hn hs hsm W (h.on hb)
 have CU := fun W (hb : Below w.heap.size w W) => checkU_any _ l hn hs W (h.on hb) (hL.on hb) (hE.on hb)
 have CR := fun W (hb : Below w.heap.size w W) => check8_ref _ l hn hs W (h.on hb)
 have PY : (printUE l).2 = 0 → ∀ W, Below w.heap.size w W → Calls Tryz.prog 11 #[.string (bsT (printUE l).1)] W fun e w' => (∃ a n c L, e = .returned (.tuple #[.slice a n c, .int .i64 0]) ∧ HoldU w' (.slice a n c) L ∧ L.length = l.length ∧ ∀ (k : Nat) x y, L[k]? = some x → l[k]? = some y → AlikeU x y) ∧ Below W.heap.size W w' := fun hz W hb => by
  have hk : kchkK rightU (fun x => x.nm) l = 0 := by
   unfold printUE at hz
   split at hz
   ·
    assumption
   ·
    exact hz
  have hp : printE (l.map fieldsU) = ((printUE l).1, 0) := by
   unfold printUE at hz ⊢
   rw [if_pos hk] at hz ⊢
   split at hz
   ·
    rename_i g; rw [if_pos g]; exact Prod.ext rfl g
   ·
    cases hz
  have hps := print_parse hp
  have hpl : (printUE l).1.length ≤ 20000 := by
   obtain ⟨e, -⟩ := print_ok hp
   rw [e]; exact (pr_all hk hfew).1
  have ht : (bsT (printUE l).1).data.toList = (printUE l).1 := bytesOf _
  have P := parseU_any (bsT (printUE l).1) (by rw [sizeOf, ht]; exact hpl) (fun fs g => by rw [ht, hps] at g; cases g; exact fsFit_prints hk hfew hs) W (hL.on hb) (hE.on hb)
  rw [ht] at P
  refine P.mono fun e w' hq => ?_
  obtain ⟨hb2, hq | ⟨fs, L, hp', hr, hq⟩⟩ := hq
  ·
   rw [hps] at hq; cases hq.1
  ·
   rw [hps] at hp'
   obtain rfl := Option.some.inj hp'
   obtain ⟨g1, g2⟩ := recs_back (plains hk).2 hr
   rcases hq with ⟨-, v, he, hh⟩ | ⟨hn, -⟩
   ·
    have hh2 := hh
    obtain ⟨a, c, b, o, e', -⟩ := hh.parts
    exact ⟨⟨a, _, c, L, by rw [he, e'], by rw [← e']; exact hh2, g1, g2⟩, hb2⟩
   ·
    exact absurd ((print_alike g1 g2).trans (show printUE l = ((printUE l).1, 0) from Prod.ext rfl hz)) hn
 have SM : ∀ (u : Value) (L : List Uv) (g1 : L.length = l.length) (g2 : ∀ (k : Nat) x y, L[k]? = some x → l[k]? = some y → AlikeU x y) W, Below w.heap.size w W → HoldU W u L → Calls Tryz.prog 12 #[u, .slice a0 l.length c0] W fun e w' => e = .returned (.bool true) ∧ Below W.heap.size W w' := fun u L g1 g2 W hb g => by
  refine sameU_ref u _ L l g1.symm g2 (by omega) (fun x hx => ?_) W g (h.on hb)
  obtain ⟨k, hk, rfl⟩ := List.mem_iff_getElem.1 hx
  have hk2 : k < l.length := by omega
  exact huge_of2 (small_alike (g2 k _ _ (List.getElem?_eq_getElem hk) (List.getElem?_eq_getElem hk2)) (hs _ (List.getElem_mem hk2)))
 obtain ⟨T, hT⟩ : ∃ T, bsT (printUE l).1 = T := ⟨_, rfl⟩
 obtain ⟨z, hz⟩ : ∃ z, (printUE l).2 = z := ⟨_, rfl⟩
 obtain ⟨k, hk⟩ : ∃ k, kchkK rightU (fun x => x.nm) l = k := ⟨_, rfl⟩
 simp only [hT, hz] at PU PR PY
 simp only [hk] at CU CR
 have t1 : (T.toList == T.toList) = true := by simp
 have e1 : (z != z) = false := by simp
 have e2 : (k != k) = false := by simp
 by_cases hz0 : z = 0
 ·
  have PZ := PY hz0
  clear PY
  subst hz0
  clear hz hT hk hsm hs hn hfew hL hE h hh hf hl
  go_enter Tryz.func3, Tryz.ntmps3
  go_wp2_with (go_at_call 5; (with_reducible refine FW.mono ?_); rintro e w1 ⟨fb, rfl, -, hb⟩; have HB1 := Lib.hid hb; clear hb FW; refine Hid.out ?_)
  refine Lib.hid ?_
  cases fb
  ·
   go_wp2_with (go_at_call 6; (with_reducible refine (A8 _ HB1.out).mono ?_); rintro e w5 ⟨rfl, hb⟩; have HB5 := Lib.hid (HB1.out.trans (hb.mono HB1.out.size)); clear hb)
   go_ret
   exact ⟨rfl, HB5.out⟩
  ·
   go_wp2_with (first
    | (go_at_call 10; (with_reducible refine (CR _ HB4.out).mono ?_); rintro e w5 ⟨rfl, hb⟩; have HB5 := Lib.hid (HB4.out.trans (hb.mono HB4.out.size)); clear hb)
    | (go_at_call 9; (with_reducible refine (CU _ HB3.out).mono ?_); rintro e w4 ⟨rfl, hb⟩; have HB4 := Lib.hid (HB3.out.trans (hb.mono HB3.out.size)); clear hb)
    | (go_at_call 8; (with_reducible refine (PR _ HB2.out).mono ?_); rintro e w3 ⟨rfl, hb⟩; have HB3 := Lib.hid (HB2.out.trans (hb.mono HB2.out.size)); clear hb)
    | (go_at_call 7; (with_reducible refine (PU _ HB1.out).mono ?_); rintro e w2 ⟨rfl, hb⟩; have HB2 := Lib.hid (HB1.out.trans (hb.mono HB1.out.size)); clear hb)
    | (go_at_call 11; (with_reducible refine (PZ _ HB5.out).mono ?_); rintro e w6 ⟨⟨a1, n1, d1, L, rfl, hh, g1, g2⟩, hb⟩; have HU6 := Lib.hid hh; have HG1 := Lib.hid g1; have HG2 := Lib.hid g2; have HB6 := Lib.hid (HB5.out.trans (hb.mono HB5.out.size)); clear hh g1 g2 hb)
    | (go_at_call 12; (with_reducible refine (SM _ L HG1.out HG2.out _ HB6.out HU6.out).mono ?_); rintro e w7 ⟨rfl, hb⟩; have HB7 := Lib.hid (HB6.out.trans (hb.mono HB6.out.size)); clear hb)
    | (go_at_call 6; (with_reducible refine (A8 _ HB7.out).mono ?_); rintro e w8 ⟨rfl, hb⟩; have HB8 := Lib.hid (HB7.out.trans (hb.mono HB7.out.size)); clear hb))
   go_ret
   exact ⟨rfl, HB8.out⟩
 ·
  have e3 : (z != 0) = true := by simpa using hz0
  clear PY SM hz hT hk hsm hs hn hfew hL hE h hh hf hl
  go_enter Tryz.func3, Tryz.ntmps3
  go_wp2_with (go_at_call 5; (with_reducible refine FW.mono ?_); rintro e w1 ⟨fb, rfl, -, hb⟩; have HB1 := Lib.hid hb; clear hb FW; refine Hid.out ?_)
  refine Lib.hid ?_
  cases fb
  ·
   go_wp2_with (go_at_call 6; (with_reducible refine (A8 _ HB1.out).mono ?_); rintro e w5 ⟨rfl, hb⟩; have HB5 := Lib.hid (HB1.out.trans (hb.mono HB1.out.size)); clear hb)
   go_ret
   exact ⟨rfl, HB5.out⟩
  ·
   go_wp2_with (first
    | (go_at_call 10; (with_reducible refine (CR _ HB4.out).mono ?_); rintro e w5 ⟨rfl, hb⟩; have HB5 := Lib.hid (HB4.out.trans (hb.mono HB4.out.size)); clear hb)
    | (go_at_call 9; (with_reducible refine (CU _ HB3.out).mono ?_); rintro e w4 ⟨rfl, hb⟩; have HB4 := Lib.hid (HB3.out.trans (hb.mono HB3.out.size)); clear hb)
    | (go_at_call 8; (with_reducible refine (PR _ HB2.out).mono ?_); rintro e w3 ⟨rfl, hb⟩; have HB3 := Lib.hid (HB2.out.trans (hb.mono HB2.out.size)); clear hb)
    | (go_at_call 7; (with_reducible refine (PU _ HB1.out).mono ?_); rintro e w2 ⟨rfl, hb⟩; have HB2 := Lib.hid (HB1.out.trans (hb.mono HB1.out.size)); clear hb)
    | (go_at_call 6; (with_reducible refine (A8 _ HB5.out).mono ?_); rintro e w8 ⟨rfl, hb⟩; have HB8 := Lib.hid (HB5.out.trans (hb.mono HB5.out.size)); clear hb))
   go_ret
   exact ⟨rfl, HB8.out⟩
end
end Go.Proofs.YtkbkaeefdhkgdaaGreatDoor
