import Derived.Test.YtkbkaeefdhkgdaaGreatDoorPUParseR0
set_option maxRecDepth 100000
set_option maxHeartbeats 32000000
namespace Go.Proofs.YtkbkaeefdhkgdaaGreatDoor
open Go.RowKit Go.Shelf
structure RecOfR (f : List Fld) (x : Uv) : Prop where
  nm : x.nm = fT f [80, 97, 99, 107, 97, 103, 101]
  vr : x.vr = fT f [86, 101, 114, 115, 105, 111, 110]
  st : x.st = stateU (fT f [83, 116, 97, 116, 117, 115])
  dp : fsts x.dp = (parseA (fT f [68, 101, 112, 101, 110, 100, 115])).getD []
  cn : x.cn = (parseQ (fT f [67, 111, 110, 102, 108, 105, 99, 116, 115])).getD []
  rp : x.rp = wordsL (fT f [82, 101, 112, 108, 97, 99, 101, 115])
  cf : x.cf = cfReadR (fT f [67, 111, 110, 102, 102, 105, 108, 101, 115])
  pd : x.pd = wordsL (fT f [84, 114, 105, 103, 103, 101, 114, 115, 45, 80, 101, 110, 100, 105, 110, 103])
  aw : x.aw = wordsL (fT f [84, 114, 105, 103, 103, 101, 114, 115, 45, 65, 119, 97, 105, 116, 101, 100])
def RecsOfR (fs : List (List Fld)) (L : List Uv) : Prop := L.length = fs.length ∧ ∀ (k : Nat) f x, fs[k]? = some f → L[k]? = some x → RecOfR f x
theorem RecsOfR.nil : RecsOfR [] [] := ⟨rfl, fun k f x h => by simp at h⟩
theorem RecsOfR.app {fs : List (List Fld)} {L : List Uv} {f : List Fld} {x : Uv} (h : RecsOfR fs L) (hx : RecOfR f x) : RecsOfR (fs ++ [f]) (L ++ [x]) := by
  refine ⟨by simp [h.1], fun k g y h1 h2 => ?_⟩
  by_cases hk : k < fs.length
  · rw [List.getElem?_append_left hk] at h1
    rw [List.getElem?_append_left (by rw [h.1]; exact hk)] at h2
    exact h.2 k g y h1 h2
  · rw [List.getElem?_append_right (by omega)] at h1
    rw [List.getElem?_append_right (by rw [h.1]; omega), h.1] at h2
    match hj : k - fs.length with
    | 0 => rw [hj] at h1 h2; simp at h1 h2; subst h1; subst h2; exact hx
    | j + 1 => rw [hj] at h1; simp at h1
theorem cell_alU {W : World} {a : Addr} {v : Value} (h : W.cell? a = some v) (o : Obj) : (W.alloc o).cell? a = some v :=
  (((Below.refl W.heap.size W).alloc (Nat.le_refl _) o).cell (p := a) (World.block_lt_of_cell? W _ h)).trans h
theorem pairs_len : ∀ l : List Bs, (l.flatMap fun p => pairW (wordsL p)).length ≤ l.length
  | [] => Nat.le_refl _
  | p :: l => by
    have ih := pairs_len l
    have : (pairW (wordsL p)).length ≤ 1 := by unfold pairW; split <;> simp
    rw [List.flatMap_cons, List.length_append, List.length_cons]; omega
theorem news9 {w : World} {b : Nat} (x0 x1 x2 x3 x4 x5 x6 x7 x8 : Value) (t : TypeId) (hb : b = w.heap.size) : ∀ j u, [x0, x1, x2, x3, x4, x5, x6, x7, x8][j]? = some u → (w.alloc (.cells #[x0, x1, x2, x3, x4, x5, x6, x7, x8] t)).cell? ((⟨b, 0, none⟩ : Addr).add j) = some u := by
  subst hb
  intro j u hj
  match j, hj with
  | 0, hj | 1, hj | 2, hj | 3, hj | 4, hj | 5, hj | 6, hj | 7, hj | 8, hj => simp at hj; subst hj; simp [Addr.add, World.cell?_alloc_new]
  | j + 9, hj => simp at hj
theorem own_past {w : World} {base b o n c : Nat} {l : List Bs} (h : OwnT w (base + 1) (.slice (some ⟨b, o, none⟩) n c) l) : base < b := by
  have := (World.ownsRow.lt h b rfl).1
  omega
theorem parseAR (s : ByteArray) (hs : s.size ≤ 3000) (w : World) : Calls Tryz.prog 33 #[.string s] w fun e w' => ∃ a n c z L, e = .returned (.tuple #[.slice a n c, .bool z]) ∧ fsts L = (parseA s.data.toList).getD [] ∧ OwnGs w' w.heap.size (.slice a n c) L ∧ Below w.heap.size w w' := by
  refine (parseAll_ref s hs w).mono fun e w' h => ?_
  unfold PostPA at h
  cases hpa : parseA s.data.toList with
  | none =>
    rw [hpa] at h
    exact ⟨none, 0, 0, false, [], h.1, rfl, OwnGs.nil _ _, h.2⟩
  | some l =>
    rw [hpa] at h
    obtain ⟨⟨v, L, he, hl, ho⟩, hb⟩ := h
    obtain ⟨a, c, e'⟩ := OwnV.form ho.1
    exact ⟨a, _, c, true, L, by rw [he, e'], hl, by rw [← e']; exact ho, hb⟩
theorem parseQR (s : ByteArray) (hs : s.size ≤ 3000) (w : World) : Calls Tryz.prog 34 #[.string s] w fun e w' => ∃ a n c z, e = .returned (.tuple #[.slice a n c, .bool z]) ∧ OwnQ w' w.heap.size (.slice a n c) ((parseQ s.data.toList).getD []) ∧ Below w.heap.size w w' := by
  refine (parseList_ref s hs w).mono fun e w' h => ?_
  cases hpa : parseQ s.data.toList with
  | none =>
    rw [hpa] at h
    obtain ⟨hh, hb⟩ := h
    obtain ⟨v, he, ho⟩ := hh
    obtain ⟨a, c, e'⟩ := OwnV.form ho
    exact ⟨a, _, c, _, by rw [he, e'], by rw [← e']; exact ho, hb⟩
  | some l =>
    rw [hpa] at h
    obtain ⟨hh, hb⟩ := h
    obtain ⟨v, he, ho⟩ := hh
    obtain ⟨a, c, e'⟩ := OwnV.form ho
    exact ⟨a, _, c, _, by rw [he, e'], by rw [← e']; exact ho, hb⟩
theorem wordsR (s : ByteArray) (hs : s.size ≤ 3000) (w : World) : Calls Tryz.prog 35 #[.string s] w fun e w' => ∃ a n c, e = .returned (.slice a n c) ∧ n = (wordsL s.data.toList).length ∧ OwnT w' w.heap.size (.slice a n c) (wordsL s.data.toList) ∧ Below w.heap.size w w' := by
  refine (words_refO s (by omega) w).mono fun e w' h => ?_
  obtain ⟨v, he, ho, hb⟩ := h
  obtain ⟨a, c, b, o, e', _⟩ := ho.holds
  exact ⟨a, _, c, by rw [he, e'], rfl, by rw [← e']; exact ho, hb⟩
theorem splitR (s : ByteArray) (hs : s.size ≤ 3000) (w : World) : Calls Tryz.prog 36 #[.string s, .int .u8 10] w fun e w' => ∃ a n c, e = .returned (.slice a n c) ∧ n = (spl 10 s.data.toList).length ∧ OwnT w' w.heap.size (.slice a n c) (spl 10 s.data.toList) ∧ Below w.heap.size w w' := by
  refine (show Calls Tryz.prog 36 #[.string s, .int .u8 10] w _ from split_ref6 s (by omega) 10 w).mono fun e w' h => ?_
  obtain ⟨v, he, ho, hb⟩ := h
  obtain ⟨a, c, b, o, e', _⟩ := ho.holds
  exact ⟨a, _, c, by rw [he, e'], rfl, by rw [← e']; exact ho, hb⟩
def ParseRPost (s : Bs) (w : World) (e : Ending) (w' : World) : Prop := Below w.heap.size w w' ∧
  ((parseS s = none ∧ e = .returned (.tuple #[.slice none 0 0, .bool false])) ∨
   ∃ fs L, parseS s = some fs ∧ RecsOfR fs L ∧ ((printUE L = (s, 0) ∧ ∃ v, e = .returned (.tuple #[v, .bool true]) ∧ HoldU w' v L) ∨ (printUE L ≠ (s, 0) ∧ e = .returned (.tuple #[.slice none 0 0, .bool false]))))
theorem parse8_ref (s : ByteArray) (hs : s.size ≤ 3000) (hfit : ∀ fs L, parseS s.data.toList = some fs → RecsOfR fs L → (∀ x ∈ L, SmallU x) ∧ (kchkK rightU (fun x => x.nm) L = 0 → Small (L.map fieldsU) 90000)) (w : World) : Calls Tryz.prog 13 #[.string s] w (ParseRPost s.data.toList w) := by
  have SP := parse_ref6 s hs w
  unfold ParsePost6 at SP
  cases hps : parseS s.data.toList with
  | none =>
    have SP2 : Calls Tryz.prog 30 #[.string s] w fun e w' => (∃ v, e = .returned (.tuple #[v, .bool false])) ∧ Below w.heap.size w w' := SP.mono fun e w' h => by
      obtain ⟨v, z, he, -, h2, hb⟩ := h
      exact ⟨⟨v, by rw [he, h2 hps]⟩, hb⟩
    have HP : Hid (∀ w', Below w.heap.size w w' → ParseRPost s.data.toList w (.returned (.tuple #[.slice none 0 0, .bool false])) w') := Lib.hid (fun w' hb => ⟨hb, .inl ⟨hps, rfl⟩⟩)
    clear SP hps hfit
    go_enter Tryz.func13, Tryz.ntmps13
    go_wp2_with (go_at_call 30; (with_reducible refine SP2.mono ?_); rintro e w1 ⟨⟨v, rfl⟩, hb⟩; have HB1 := Lib.hid hb; clear hb)
    go_ret2
    exact HP.out _ HB1.out
  | some fs =>
    obtain ⟨z1, z2, z3⟩ := parse_sizes hps
    have hs3 : s.data.toList.length ≤ 3000 := by rw [← sizeOf]; exact hs
    have HF : Hid (∀ f ∈ fs, f.length ≤ 64 ∧ (∀ x ∈ f, x.1.length ≤ 60) ∧ ∀ n, (fT f n).length ≤ 3000) := Lib.hid (fun f hf => ⟨(z2 f hf).1, (z2 f hf).2, fun n => by have e1 := fT_tS f n; have e2 := sum_mem tS fs f hf; omega⟩)
    have SP2 : Calls Tryz.prog 30 #[.string s] w fun e w' => (∃ a n c, e = .returned (.tuple #[.slice a n c, .bool true]) ∧ HoldRR 2 w' (.slice a n c) (fs.map (·.map rowF))) ∧ Below w.heap.size w w' := SP.mono fun e w' h => by
      obtain ⟨v, z, he, h1, -, hb⟩ := h
      obtain ⟨hz, hh, -⟩ := h1 fs hps
      have hh2 := hh
      obtain ⟨a, c, b, o, e', _⟩ := hh
      exact ⟨⟨a, _, c, by rw [he, hz, e'], by rw [← e']; exact hh2⟩, hb⟩
    have HYES : Hid (∀ L w' v, RecsOfR fs L → printUE L = (s.data.toList, 0) → Below w.heap.size w w' → HoldU w' v L → ParseRPost s.data.toList w (.returned (.tuple #[v, .bool true])) w') := Lib.hid (fun L w' v h1 h2 hb h3 => ⟨hb, .inr ⟨fs, L, hps, h1, .inl ⟨h2, v, rfl, h3⟩⟩⟩)
    have HNO : Hid (∀ L w', RecsOfR fs L → printUE L ≠ (s.data.toList, 0) → Below w.heap.size w w' → ParseRPost s.data.toList w (.returned (.tuple #[.slice none 0 0, .bool false])) w') := Lib.hid (fun L w' h1 h2 hb => ⟨hb, .inr ⟨fs, L, hps, h1, .inr ⟨h2, rfl⟩⟩⟩)
    have PR := fun (L : List Uv) (u : Value) (h1 : RecsOfR fs L) W (h : HoldU W u L) => print8_ref u L (by rw [h1.1]; omega) (hfit fs L hps h1).1 (hfit fs L hps h1).2 W h
    obtain ⟨n, hN⟩ : ∃ n, fs.length = n := ⟨_, rfl⟩
    have HN := Lib.hid hN
    rw [hN] at z1
    obtain ⟨i0, hi, hz0, hz1, hz2'⟩ := info_parts infoU
    obtain ⟨i1, hi', hy0, hy1, hy2⟩ := info_parts infoCf
    clear SP hps hfit hN z2 z3 hs3
    go_enter Tryz.func13, Tryz.ntmps13
    go_wp2_with (go_at_call 30; (with_reducible refine SP2.mono ?_); rintro e w1 ⟨⟨sa, sn, sc, rfl, hh⟩, hb⟩; have HB1 := Lib.hid hb; have HH := Lib.hid hh; obtain ⟨_, _, b, o, e', hc, ha, hcell⟩ := hh; simp only [Value.slice.injEq] at e'; obtain ⟨rfl, hsn, rfl⟩ := e'; rw [List.length_map, HN.out] at hsn hc ha; rw [hsn] at HH ⊢; clear hsn; have HC := Lib.hid hcell; clear hcell hb)
    clear SP2
    go_loopw [4, 7] (fun u i wr => ∃ (k : Nat) (L : List Uv), k ≤ n ∧ i = .int .i64 k ∧ L.length = k ∧ Hid (RecsOfR (fs.take k) L) ∧ Hid (OwnRecs wr w1.heap.size u L) ∧ Hid (Below w1.heap.size w1 wr)) (fun _ i _ => n - (intOf i).toNat)
    case atStart => exact ⟨0, [], by omega, rfl, rfl, Lib.hid RecsOfR.nil, Lib.hid (OwnRecs.nil _ _), Lib.hid (Below.refl _ _)⟩
    case round =>
      obtain ⟨k, L, hk, rfl, hLk, HR, HO, HB⟩ := hrel
      have HBW : Hid (Below w.heap.size w wr) := Lib.hid (HB1.out.trans (HB.out.mono HB1.out.size))
      by_cases hlt : k < n
      · obtain ⟨rfl, hbw⟩ := ha (by omega)
        obtain ⟨f, hf⟩ : ∃ f, fs[k]? = some f := ⟨_, List.getElem?_eq_getElem (by rw [HN.out]; exact hlt)⟩
        obtain ⟨fv, x0, hfh⟩ := HC.out k _ (by rw [List.getElem?_map, hf]; rfl)
        rw [← HB.out.cell (p := ⟨b, o + k, none⟩) hbw] at x0
        have hform := hfh
        obtain ⟨fa, fc, _, _, rfl, _⟩ := hform
        obtain ⟨f1, f2, f3⟩ := HF.out f (List.mem_of_getElem? hf)
        have hfh2 := hfh.on HB.out
        have HRA : Hid (∀ x, RecOfR f x → RecsOfR (fs.take (k + 1)) (L ++ [x])) := Lib.hid (fun x hx => by
          rw [List.take_add_one, hf]
          exact RecsOfR.app HR.out hx)
        have TXd := fun (W : World) (hb : Below wr.heap.size wr W) => text_ref8 (.slice fa (f.map rowF).length fc) f (by omega) (fun x hx => by have := f2 x hx; omega) ⟨#[68, 101, 112, 101, 110, 100, 115]⟩ (by decide) W (hfh2.on hb)
        rw [show (ByteArray.mk #[68, 101, 112, 101, 110, 100, 115]).data.toList = [68, 101, 112, 101, 110, 100, 115] from rfl] at TXd
        obtain ⟨Td, hTd⟩ : ∃ T : ByteArray, (⟨(fT f [68, 101, 112, 101, 110, 100, 115]).toArray⟩ : ByteArray) = T := ⟨_, rfl⟩
        have ld : fT f [68, 101, 112, 101, 110, 100, 115] = Td.data.toList := by rw [← hTd]
        have zd : Td.size ≤ 3000 := by rw [sizeOf, ← ld]; exact f3 _
        rw [hTd] at TXd
        have TXc := fun (W : World) (hb : Below wr.heap.size wr W) => text_ref8 (.slice fa (f.map rowF).length fc) f (by omega) (fun x hx => by have := f2 x hx; omega) ⟨#[67, 111, 110, 102, 108, 105, 99, 116, 115]⟩ (by decide) W (hfh2.on hb)
        rw [show (ByteArray.mk #[67, 111, 110, 102, 108, 105, 99, 116, 115]).data.toList = [67, 111, 110, 102, 108, 105, 99, 116, 115] from rfl] at TXc
        obtain ⟨Tc, hTc⟩ : ∃ T : ByteArray, (⟨(fT f [67, 111, 110, 102, 108, 105, 99, 116, 115]).toArray⟩ : ByteArray) = T := ⟨_, rfl⟩
        have lc : fT f [67, 111, 110, 102, 108, 105, 99, 116, 115] = Tc.data.toList := by rw [← hTc]
        have zc : Tc.size ≤ 3000 := by rw [sizeOf, ← lc]; exact f3 _
        rw [hTc] at TXc
        have TXn := fun (W : World) (hb : Below wr.heap.size wr W) => text_ref8 (.slice fa (f.map rowF).length fc) f (by omega) (fun x hx => by have := f2 x hx; omega) ⟨#[80, 97, 99, 107, 97, 103, 101]⟩ (by decide) W (hfh2.on hb)
        rw [show (ByteArray.mk #[80, 97, 99, 107, 97, 103, 101]).data.toList = [80, 97, 99, 107, 97, 103, 101] from rfl] at TXn
        obtain ⟨YN, ln⟩ : ∃ l : Bs, fT f [80, 97, 99, 107, 97, 103, 101] = l := ⟨_, rfl⟩
        rw [ln] at TXn
        have TXv := fun (W : World) (hb : Below wr.heap.size wr W) => text_ref8 (.slice fa (f.map rowF).length fc) f (by omega) (fun x hx => by have := f2 x hx; omega) ⟨#[86, 101, 114, 115, 105, 111, 110]⟩ (by decide) W (hfh2.on hb)
        rw [show (ByteArray.mk #[86, 101, 114, 115, 105, 111, 110]).data.toList = [86, 101, 114, 115, 105, 111, 110] from rfl] at TXv
        obtain ⟨YV, lv⟩ : ∃ l : Bs, fT f [86, 101, 114, 115, 105, 111, 110] = l := ⟨_, rfl⟩
        rw [lv] at TXv
        have TXs := fun (W : World) (hb : Below wr.heap.size wr W) => text_ref8 (.slice fa (f.map rowF).length fc) f (by omega) (fun x hx => by have := f2 x hx; omega) ⟨#[83, 116, 97, 116, 117, 115]⟩ (by decide) W (hfh2.on hb)
        rw [show (ByteArray.mk #[83, 116, 97, 116, 117, 115]).data.toList = [83, 116, 97, 116, 117, 115] from rfl] at TXs
        obtain ⟨Ts, hTs⟩ : ∃ T : ByteArray, (⟨(fT f [83, 116, 97, 116, 117, 115]).toArray⟩ : ByteArray) = T := ⟨_, rfl⟩
        have ls : fT f [83, 116, 97, 116, 117, 115] = Ts.data.toList := by rw [← hTs]
        have zs : Ts.size ≤ 3000 := by rw [sizeOf, ← ls]; exact f3 _
        rw [hTs] at TXs
        have TXr := fun (W : World) (hb : Below wr.heap.size wr W) => text_ref8 (.slice fa (f.map rowF).length fc) f (by omega) (fun x hx => by have := f2 x hx; omega) ⟨#[82, 101, 112, 108, 97, 99, 101, 115]⟩ (by decide) W (hfh2.on hb)
        rw [show (ByteArray.mk #[82, 101, 112, 108, 97, 99, 101, 115]).data.toList = [82, 101, 112, 108, 97, 99, 101, 115] from rfl] at TXr
        obtain ⟨Tr, hTr⟩ : ∃ T : ByteArray, (⟨(fT f [82, 101, 112, 108, 97, 99, 101, 115]).toArray⟩ : ByteArray) = T := ⟨_, rfl⟩
        have lr : fT f [82, 101, 112, 108, 97, 99, 101, 115] = Tr.data.toList := by rw [← hTr]
        have zr : Tr.size ≤ 3000 := by rw [sizeOf, ← lr]; exact f3 _
        rw [hTr] at TXr
        have TXf := fun (W : World) (hb : Below wr.heap.size wr W) => text_ref8 (.slice fa (f.map rowF).length fc) f (by omega) (fun x hx => by have := f2 x hx; omega) ⟨#[67, 111, 110, 102, 102, 105, 108, 101, 115]⟩ (by decide) W (hfh2.on hb)
        rw [show (ByteArray.mk #[67, 111, 110, 102, 102, 105, 108, 101, 115]).data.toList = [67, 111, 110, 102, 102, 105, 108, 101, 115] from rfl] at TXf
        obtain ⟨Tf, hTf⟩ : ∃ T : ByteArray, (⟨(fT f [67, 111, 110, 102, 102, 105, 108, 101, 115]).toArray⟩ : ByteArray) = T := ⟨_, rfl⟩
        have lf : fT f [67, 111, 110, 102, 102, 105, 108, 101, 115] = Tf.data.toList := by rw [← hTf]
        have zf : Tf.size ≤ 3000 := by rw [sizeOf, ← lf]; exact f3 _
        rw [hTf] at TXf
        have TXp := fun (W : World) (hb : Below wr.heap.size wr W) => text_ref8 (.slice fa (f.map rowF).length fc) f (by omega) (fun x hx => by have := f2 x hx; omega) ⟨#[84, 114, 105, 103, 103, 101, 114, 115, 45, 80, 101, 110, 100, 105, 110, 103]⟩ (by decide) W (hfh2.on hb)
        rw [show (ByteArray.mk #[84, 114, 105, 103, 103, 101, 114, 115, 45, 80, 101, 110, 100, 105, 110, 103]).data.toList = [84, 114, 105, 103, 103, 101, 114, 115, 45, 80, 101, 110, 100, 105, 110, 103] from rfl] at TXp
        obtain ⟨Tp, hTp⟩ : ∃ T : ByteArray, (⟨(fT f [84, 114, 105, 103, 103, 101, 114, 115, 45, 80, 101, 110, 100, 105, 110, 103]).toArray⟩ : ByteArray) = T := ⟨_, rfl⟩
        have lp : fT f [84, 114, 105, 103, 103, 101, 114, 115, 45, 80, 101, 110, 100, 105, 110, 103] = Tp.data.toList := by rw [← hTp]
        have zp : Tp.size ≤ 3000 := by rw [sizeOf, ← lp]; exact f3 _
        rw [hTp] at TXp
        have TXa := fun (W : World) (hb : Below wr.heap.size wr W) => text_ref8 (.slice fa (f.map rowF).length fc) f (by omega) (fun x hx => by have := f2 x hx; omega) ⟨#[84, 114, 105, 103, 103, 101, 114, 115, 45, 65, 119, 97, 105, 116, 101, 100]⟩ (by decide) W (hfh2.on hb)
        rw [show (ByteArray.mk #[84, 114, 105, 103, 103, 101, 114, 115, 45, 65, 119, 97, 105, 116, 101, 100]).data.toList = [84, 114, 105, 103, 103, 101, 114, 115, 45, 65, 119, 97, 105, 116, 101, 100] from rfl] at TXa
        obtain ⟨Ta, hTa⟩ : ∃ T : ByteArray, (⟨(fT f [84, 114, 105, 103, 103, 101, 114, 115, 45, 65, 119, 97, 105, 116, 101, 100]).toArray⟩ : ByteArray) = T := ⟨_, rfl⟩
        have la : fT f [84, 114, 105, 103, 103, 101, 114, 115, 45, 65, 119, 97, 105, 116, 101, 100] = Ta.data.toList := by rw [← hTa]
        have za : Ta.size ≤ 3000 := by rw [sizeOf, ← la]; exact f3 _
        rw [hTa] at TXa
        have ST := fun W => state_ref Ts W
        have PA := fun W => parseAR Td zd W
        have PL := fun W => parseQR Tc zc W
        have WR := fun W => wordsR Tr zr W
        have WP := fun W => wordsR Tp zp W
        have WA := fun W => wordsR Ta za W
        have SF := fun W => splitR Tf zf W
        have HRES : Hid (∀ (D : List Gv) (v3 v4 v5 v6 v7 v8 : Value), fsts D = (parseA Td.data.toList).getD [] → RecOfR f ⟨YN, YV, stateU Ts.data.toList, D, (parseQ Tc.data.toList).getD [], wordsL Tr.data.toList, cfReadR Tf.data.toList, wordsL Tp.data.toList, wordsL Ta.data.toList, v3, v4, v5, v6, v7, v8⟩) := Lib.hid (fun D v3 v4 v5 v6 v7 v8 h => ⟨ln.symm, lv.symm, by rw [ls], by rw [ld]; exact h, by rw [lc], by rw [lr], by rw [lf], by rw [lp], by rw [la]⟩)
        have HCF : Hid (cfReadR Tf.data.toList = (spl 10 Tf.data.toList).flatMap fun p => pairW (wordsL p)) := Lib.hid rfl
        have HPL : Hid (∀ p ∈ spl 10 Tf.data.toList, p.length ≤ 3000) := Lib.hid (fun p hp => by have := spl_piece 10 _ p hp; rw [← sizeOf] at this; omega)
        have hls : (spl 10 Tf.data.toList).length ≤ 3001 := by have := spl_len 10 Tf.data.toList; rw [← sizeOf] at this; omega
        generalize (parseQ Tc.data.toList).getD [] = CN at *
        generalize stateU Ts.data.toList = zst at *
        generalize wordsL Tr.data.toList = RP at *
        generalize wordsL Tp.data.toList = PD at *
        generalize wordsL Ta.data.toList = AW at *
        generalize cfReadR Tf.data.toList = CFL at *
        generalize spl 10 Tf.data.toList = LN at *
        generalize (parseA Td.data.toList).getD [] = DD at *
        have HP0 := Lib.hid (PS.new wr YN YV zst)
        have HBR := Lib.hid (Below.refl wr.heap.size wr)
        generalize (f.map rowF).length = fn at *
        clear hf hfh hfh2 HR f1 f2 f3 hTd ld zd hTc lc zc ln lv hTs ls zs hTr lr zr hTf lf zf hTp lp zp hTa la za
        go_wp2_with (first
          | (go_at_call 36; (with_reducible refine (SF _).mono ?_); rintro e wg4 ⟨la, ln, lc, rfl, hln, ho, hb⟩; have HP4 := Lib.hid (HP3s.out.on hb); have HL4 := Lib.hid (OwnT.mono ho HP3s.out.lt); have HLN := Lib.hid hln; clear ho hb hln)
          | (go_at_call 31; (with_reducible refine (TXf _ HP3s.out.b).mono ?_); rintro e wq ⟨rfl, hw⟩; replace hw := hw.symm; subst hw)
          | (go_at_call 35; (with_reducible refine (WR _).mono ?_); rintro e wg3 ⟨a5, n5, m5, rfl, -, ho, hb⟩; have HP3 := Lib.hid (HPs.out.on hb); have HT3 := Lib.hid (OwnT.mono ho HPs.out.lt); have HP3s := Lib.hid (HP3.out.s5 HT3.out); have r5 := cell_heap (i := 5) HP3.out.hx rfl; have g5 := frozen_of_row _ _ 5 _ _ HP3.out.hx; clear ho hb)
          | (go_at_call 31; (with_reducible refine (TXr _ HPs.out.b).mono ?_); rintro e wq ⟨rfl, hw⟩; replace hw := hw.symm; subst hw)
          | (go_at_call 34; (with_reducible refine (PL _).mono ?_); rintro e wg2 ⟨a4, n4, m4, z4, rfl, ho, hb⟩; have HP2 := Lib.hid (HP1.out.on hb); have HG2 := Lib.hid (OwnGs.on HG1.out hb); have HQ2 := Lib.hid (OwnV.mono ho HP1.out.lt); have HPs := Lib.hid ((HP2.out.s3 HG2.out).s4 (OwnV.setU HQ2.out (grownSetU wg2 ⟨wr.heap.size, 3, none⟩ (.slice a3 n3 m3)) (Nat.lt_succ_self _))); have r3 := cell_heap (i := 3) HP2.out.hx rfl; have g3 := frozen_of_row _ _ 3 _ _ HP2.out.hx; have r4 := cell_heap (i := 4) HP2.out.hx rfl; have g4 := frozen_of_row _ _ 4 _ _ HP2.out.hx; clear ho hb)
          | (go_at_call 31; (with_reducible refine (TXc _ HP1.out.b).mono ?_); rintro e wq ⟨rfl, hw⟩; replace hw := hw.symm; subst hw)
          | (go_at_call 33; (with_reducible refine (PA _).mono ?_); rintro e wg1 ⟨a3, n3, m3, z3, D, rfl, hD, ho, hb⟩; have HD := Lib.hid hD; have HP1 := Lib.hid (HP0.out.on hb); have HG1 := Lib.hid (OwnGs.mono ho HP0.out.lt); clear hD ho hb)
          | (go_at_call 31; (with_reducible refine (TXd _ HP0.out.b).mono ?_); rintro e wq ⟨rfl, hw⟩; replace hw := hw.symm; subst hw)
          | (go_at_call 32; (with_reducible refine (ST _).mono ?_); rintro e wq ⟨rfl, hw⟩; replace hw := hw.symm; subst hw)
          | (go_at_call 31; (with_reducible refine (TXs _ HBR.out).mono ?_); rintro e wq ⟨rfl, hw⟩; replace hw := hw.symm; subst hw)
          | (go_at_call 31; (with_reducible refine (TXv _ HBR.out).mono ?_); rintro e wq ⟨rfl, hw⟩; replace hw := hw.symm; subst hw)
          | (go_at_call 31; (with_reducible refine (TXn _ HBR.out).mono ?_); rintro e wq ⟨rfl, hw⟩; replace hw := hw.symm; subst hw))
        obtain ⟨ww, hww⟩ : ∃ ww, ww = wr := ⟨_, rfl⟩
        subst hww
        have hlnb : ln ≤ 3001 := by have := HLN.out; omega
        have hI0 : Hid (([] : List (Bs × Bs)) = (LN.take 0).flatMap fun p => pairW (wordsL p)) := Lib.hid (by simp)
        go_loopw [15] (fun j wi => ∃ (jj : Nat) (CF : List (Bs × Bs)) (a6 : Option Addr) (n6 m6 : Nat), jj ≤ ln ∧ j = .int .i64 jj ∧ Hid (CF = (LN.take jj).flatMap fun p => pairW (wordsL p)) ∧ Hid (PS ww wi ⟨YN, YV, zst, D, CN, RP, CF, [], [], .slice a3 n3 m3, .slice a4 n4 m4, .slice a5 n5 m5, .slice a6 n6 m6, .slice none 0 0, .slice none 0 0⟩) ∧ Hid (OwnT wi (ww.heap.size + 1) (.slice la ln lc) LN)) (fun j _ => ln - (intOf j).toNat)
        case atStart => exact ⟨0, [], none, 0, 0, by omega, rfl, hI0, HP4, HL4⟩
        case round =>
          obtain ⟨jj, CF, a6, n6, m6, hjj, rfl, HCFj, HPj, HLj⟩ := hrel
          by_cases hjn : jj < ln
          · obtain ⟨p, hpj⟩ : ∃ p, LN[jj]? = some p := ⟨_, List.getElem?_eq_getElem (by have := HLN.out; omega)⟩
            obtain ⟨la', lc', lb, lo, le, _, lab, lcell⟩ := HLj.out.holds
            simp only [Value.slice.injEq] at le
            obtain ⟨rfl, -, rfl⟩ := le
            obtain ⟨rfl, lbw⟩ := lab (by have := HLN.out; omega)
            have y0 := lcell jj p hpj
            have zp : p.length ≤ 3000 := HPL.out p (List.mem_of_getElem? hpj)
            have WX := fun W => wordsR ⟨p.toArray⟩ (by rw [sizeOf, bytesOf]; exact zp) W
            have hnx : (LN.take (jj + 1)).flatMap (fun p => pairW (wordsL p)) = CF ++ pairW (wordsL p) := by
              rw [List.take_add_one, hpj, List.flatMap_append, ← HCFj.out]; simp
            rw [show (ByteArray.mk p.toArray).data.toList = p from by simp] at WX
            generalize (⟨p.toArray⟩ : ByteArray) = PB at *
            by_cases h2 : (wordsL p).length = 2
            · obtain ⟨P, S, hPS⟩ : ∃ P S, wordsL p = [P, S] := by
                match hw : wordsL p, h2 with
                | [P, S], _ => exact ⟨P, S, rfl⟩
              rw [hPS] at WX hnx
              have hnx2 : (LN.take (jj + 1)).flatMap (fun p => pairW (wordsL p)) = CF ++ [(P, S)] := hnx
              have HNX := Lib.hid hnx2
              clear hnx hnx2 hPS h2 zp lcell lab hpj
              go_wp2_with (go_at_call 35; (with_reducible refine (WX _).mono ?_); rintro e wg5 ⟨wa, wn, wc, rfl, hwn, ho, hb⟩; have HP5 := Lib.hid (HPj.out.on hb); have HL5 := Lib.hid (OwnT.onQ HLj.out hb); have HW5 := Lib.hid (OwnT.mono ho HPj.out.lt); simp only [List.length_cons, List.length_nil] at hwn; subst hwn; obtain ⟨xa, xc, xb, xo, xe, _, xab, xcell⟩ := HW5.out.holds; simp only [Value.slice.injEq] at xe; obtain ⟨rfl, -, rfl⟩ := xe; obtain ⟨rfl, xbw⟩ := xab (by simp); have y1 := xcell 0 P rfl; have y2 := xcell 1 S rfl; rw [Nat.add_zero] at y1; have y6 := HP5.out.cell.2.2.2.2.2.2.1; have HXB : Hid (ww.heap.size < xb) := Lib.hid (own_past HW5.out); have HNE : Hid (some (⟨xb, xo, none⟩ : Addr).block ≠ (Value.slice a6 n6 m6).ownBlock) := Lib.hid ((kinds_apart HW5.out HP5.out.o.cf.2 (by decide)).elim (fun e => (by cases e)) id); clear xcell xab ho hb)
              have S5 : wg5.drew.cell? ⟨xb, xo, none⟩ = some (.string ⟨P.toArray⟩) ∧ wg5.drew.cell? ⟨xb, xo + 1, none⟩ = some (.string ⟨S.toArray⟩) := ⟨y1, y2⟩
              have z6 : wg5.drew.cell? ⟨ww.heap.size, 6, none⟩ = some (.slice a6 n6 m6) := y6
              have HP6 := Lib.hid (HP5.out.on (Below.refl _ _).drew)
              have HL6 := Lib.hid (OwnT.onQ HL5.out (Below.refl _ _).drew)
              have hxlt : ww.heap.size < xb := HXB.out
              clear y1 y2 y6
              refine wp_region_held_drew (S := (fun V => V.cell? ⟨xb, xo, none⟩ = some (.string ⟨P.toArray⟩) ∧ V.cell? ⟨xb, xo + 1, none⟩ = some (.string ⟨S.toArray⟩))) (by kernel_rfl) S5 (fun hHeld => ?_)
              clear S5
              generalize wg5.drew = W6 at *
              refine heldY 2 84 ?_ _ rfl rfl (by kernel_rfl) (by kernel_rfl) (by kernel_rfl) (fun _ _ _ h => h) rfl hHeld ?_ ?_
              rotate_left
              · (intro w hSw; obtain ⟨q1, q2⟩ := hSw; go_simp; (try with_reducible rfl))
              try simp only [SL]
              refine heldY 3 85 ?_ _ rfl rfl (by kernel_rfl) (by kernel_rfl) (by kernel_rfl) (fun _ _ _ h => h) rfl hHeld ?_ ?_
              rotate_left
              · (intro w hSw; obtain ⟨q1, q2⟩ := hSw; go_simp; (try with_reducible rfl))
              try simp only [SL]
              refine heldY 4 86 ?_ _ rfl rfl (by kernel_rfl) (by kernel_rfl) (by kernel_rfl) (fun _ _ _ h => h) rfl hHeld ?_ ?_
              rotate_left
              · (intro w hSw; obtain ⟨q1, q2⟩ := hSw; go_simp; (try with_reducible rfl))
              try simp only [SL]
              refine heldY 5 87 ?_ _ rfl rfl (by kernel_rfl) (by kernel_rfl) (by kernel_rfl) (fun _ _ _ h => h) rfl hHeld ?_ ?_
              rotate_left
              · (intro w hSw; obtain ⟨q1, q2⟩ := hSw; go_simp; (try with_reducible rfl))
              try simp only [SL]
              refine heldY 6 88 ?_ _ rfl rfl (by kernel_rfl) (by kernel_rfl) (by kernel_rfl) (fun _ _ _ h => h) rfl hHeld ?_ ?_
              rotate_left
              · (intro w hSw; obtain ⟨q1, q2⟩ := hSw; go_simp; (try with_reducible rfl))
              try simp only [SL]
              refine heldY 7 89 ?_ _ rfl rfl (by kernel_rfl) (by kernel_rfl) (by kernel_rfl) (fun _ _ _ h => h) rfl hHeld ?_ ?_
              rotate_left
              · (intro w hSw; obtain ⟨q1, q2⟩ := hSw; go_simp; (try with_reducible rfl))
              try simp only [SL]
              refine heldY 8 90 ?_ _ rfl rfl (by kernel_rfl) (by kernel_rfl) (by kernel_rfl) (fun _ _ _ h => h) rfl hHeld ?_ ?_
              rotate_left
              · (intro w hSw; obtain ⟨q1, q2⟩ := hSw; go_simp; (try with_reducible rfl))
              try simp only [SL]
              refine heldY 0 82 ?_ _ rfl rfl (by kernel_rfl) (by kernel_rfl) (by kernel_rfl) (fun _ _ _ h => h) rfl hHeld ?_ ?_
              rotate_left
              · (intro w hSw; obtain ⟨q1, q2⟩ := hSw; go_simp; (try with_reducible rfl))
              try simp only [SL]
              have HCF6 : Hid (OwnCf W6 (ww.heap.size + 1) (.slice a6 n6 m6) CF) := Lib.hid HP6.out.o.cf
              have hcl : CF.length ≤ 3001 := by
                have e1 := pairs_len (LN.take jj)
                rw [← HCFj.out] at e1
                have e2 : (LN.take jj).length ≤ LN.length := by rw [List.length_take]; omega
                have e3 := HLN.out
                omega
              have HNW : Hid (some (⟨xb, xo, none⟩ : Addr).block ≠ some (⟨ww.heap.size, 6, none⟩ : Addr).block) := Lib.hid (fun e => by have h2 : xb = ww.heap.size := Option.some.inj e; have := HXB.out; omega)
              refine wpAnyH_ready (rs := [1, 9]) (by kernel_rfl) (by simp) ?_
              refine AllReadyH.cons rfl (fun K hK => ?_) (AllReadyH.cons rfl (fun K hK => ?_) AllReadyH.nil)
              · go_simp
                refine hK.out _ _ hHeld (fun hHeld => ?_)
                clear hK K
                try simp only [Act.put, List.setIfInBounds_toArray, List.set_cons_zero, List.set_cons_succ]
                refine wpAnyH_ready (rs := [9]) (by kernel_rfl) (by simp) ?_
                refine AllReadyH.cons rfl (fun K hK => ?_) AllReadyH.nil
                go_simp
                refine hK.out _ _ ⟨cell_alU hHeld.1 _, cell_alU hHeld.2 _⟩ (fun hHeld => ?_)
                clear hK K
                try simp only [Act.put, List.setIfInBounds_toArray, List.set_cons_zero, List.set_cons_succ]
                refine wpAnyH_ready (rs := [10]) (by kernel_rfl) (by simp) ?_
                refine AllReadyH.cons rfl (fun K hK => ?_) AllReadyH.nil
                refine step_append_lies _ rfl _ _ 41 rfl (ww.heap.size + 1) 48 i1 _ 2 32 Tryz.underlying41 hi' hy0 hy1 hy2 rfl (by decide) _ _ _ rfl (World.ownsRow.alloc HCF6.out.2 _) ⟨W6.heap.size, 0, none⟩ 1 1 [.string ⟨P.toArray⟩, .string ⟨S.toArray⟩] rfl rfl (news2 _ _ _ rfl) (one2 _ _) (by decide) (by rw [List.length_map]; unfold maxLen; omega) (by rw [List.length_map]; omega) (by have := HP6.out.lt; simp; omega) _ rfl ?_
                intro g cap w7 hown' hgrow _ _
                have hx7 := PS.at7 HP6.out hgrow
                have r6 := cell_heap (i := 6) hx7 rfl
                have g6 := frozen_of_row _ _ 6 _ _ hx7
                have HP7 := Lib.hid (PS.app (c := (P, S)) HP6.out hown' hgrow)
                have HL7 : Hid (OwnT (w7.setCell ⟨ww.heap.size, 6, none⟩ (.slice (some ⟨g, 0, none⟩) ((CF.map cellsW2).length + 1) cap)) (ww.heap.size + 1) _ LN) := Lib.hid (PS.keepT HP6.out HL6.out hgrow)
                rw [List.length_map] at HP7 HL7
                refine hK.out _ _ ⟨hgrow.cell hHeld.1 HNE.out, hgrow.cell hHeld.2 HNE.out⟩ (fun hHeld => ?_)
                clear hK K hown' hgrow hx7
                try simp only [Act.put, List.setIfInBounds_toArray]
                try simp only [List.set_cons_succ]
                try simp only [List.set_cons_zero]
                refine heldY 11 93 ?_ _ rfl rfl (by kernel_rfl) (by kernel_rfl) (by kernel_rfl) (fun _ _ _ h => h) rfl hHeld ?_ ?_
                rotate_left
                · (intro w hSw; obtain ⟨q1, q2⟩ := hSw; go_simp; (try with_reducible rfl))
                try simp only [SL]
                refine wpAnyH_ready (rs := [12]) (by kernel_rfl) (by simp) ?_
                refine AllReadyH.cons rfl (fun K hK => ?_) AllReadyH.nil
                go_simp
                refine hK.out _ _ ⟨(grownSetU w7 ⟨ww.heap.size, 6, none⟩ _).cell hHeld.1 HNW.out, (grownSetU w7 ⟨ww.heap.size, 6, none⟩ _).cell hHeld.2 HNW.out⟩ (fun hHeld => ?_)
                clear hK K
                try simp only [Act.put, List.setIfInBounds_toArray, List.set_cons_zero, List.set_cons_succ]
                refine wpAnyH_done (by kernel_rfl) ?_ _
                clear hHeld r6 g6
                go_wp2
                go_roundw
                case rel => exact ⟨jj + 1, CF ++ [(P, S)], some ⟨g, 0, none⟩, _, cap, by omega, by go_num, Lib.hid HNX.out.symm, HP7, HL7⟩
                case measure => simp [intOf]; omega
              · have z6b := fun o => cell_alU z6 o
                go_simp
                refine hK.out _ _ ⟨cell_alU hHeld.1 _, cell_alU hHeld.2 _⟩ (fun hHeld => ?_)
                clear hK K
                try simp only [Act.put, List.setIfInBounds_toArray, List.set_cons_zero, List.set_cons_succ]
                refine wpAnyH_ready (rs := [1]) (by kernel_rfl) (by simp) ?_
                refine AllReadyH.cons rfl (fun K hK => ?_) AllReadyH.nil
                go_simp
                refine hK.out _ _ hHeld (fun hHeld => ?_)
                clear hK K
                try simp only [Act.put, List.setIfInBounds_toArray, List.set_cons_zero, List.set_cons_succ]
                refine wpAnyH_ready (rs := [10]) (by kernel_rfl) (by simp) ?_
                refine AllReadyH.cons rfl (fun K hK => ?_) AllReadyH.nil
                refine step_append_lies _ rfl _ _ 41 rfl (ww.heap.size + 1) 48 i1 _ 2 32 Tryz.underlying41 hi' hy0 hy1 hy2 rfl (by decide) _ _ _ rfl (World.ownsRow.alloc HCF6.out.2 _) ⟨W6.heap.size, 0, none⟩ 1 1 [.string ⟨P.toArray⟩, .string ⟨S.toArray⟩] rfl rfl (news2 _ _ _ rfl) (one2 _ _) (by decide) (by rw [List.length_map]; unfold maxLen; omega) (by rw [List.length_map]; omega) (by have := HP6.out.lt; simp; omega) _ rfl ?_
                intro g cap w7 hown' hgrow _ _
                have hx7 := PS.at7 HP6.out hgrow
                have r6 := cell_heap (i := 6) hx7 rfl
                have g6 := frozen_of_row _ _ 6 _ _ hx7
                have HP7 := Lib.hid (PS.app (c := (P, S)) HP6.out hown' hgrow)
                have HL7 : Hid (OwnT (w7.setCell ⟨ww.heap.size, 6, none⟩ (.slice (some ⟨g, 0, none⟩) ((CF.map cellsW2).length + 1) cap)) (ww.heap.size + 1) _ LN) := Lib.hid (PS.keepT HP6.out HL6.out hgrow)
                rw [List.length_map] at HP7 HL7
                refine hK.out _ _ ⟨hgrow.cell hHeld.1 HNE.out, hgrow.cell hHeld.2 HNE.out⟩ (fun hHeld => ?_)
                clear hK K hown' hgrow hx7
                try simp only [Act.put, List.setIfInBounds_toArray]
                try simp only [List.set_cons_succ]
                try simp only [List.set_cons_zero]
                refine heldY 11 93 ?_ _ rfl rfl (by kernel_rfl) (by kernel_rfl) (by kernel_rfl) (fun _ _ _ h => h) rfl hHeld ?_ ?_
                rotate_left
                · (intro w hSw; obtain ⟨q1, q2⟩ := hSw; go_simp; (try with_reducible rfl))
                try simp only [SL]
                refine wpAnyH_ready (rs := [12]) (by kernel_rfl) (by simp) ?_
                refine AllReadyH.cons rfl (fun K hK => ?_) AllReadyH.nil
                go_simp
                refine hK.out _ _ ⟨(grownSetU w7 ⟨ww.heap.size, 6, none⟩ _).cell hHeld.1 HNW.out, (grownSetU w7 ⟨ww.heap.size, 6, none⟩ _).cell hHeld.2 HNW.out⟩ (fun hHeld => ?_)
                clear hK K
                try simp only [Act.put, List.setIfInBounds_toArray, List.set_cons_zero, List.set_cons_succ]
                refine wpAnyH_done (by kernel_rfl) ?_ _
                clear hHeld r6 g6
                go_wp2
                go_roundw
                case rel => exact ⟨jj + 1, CF ++ [(P, S)], some ⟨g, 0, none⟩, _, cap, by omega, by go_num, Lib.hid HNX.out.symm, HP7, HL7⟩
                case measure => simp [intOf]; omega
            · have hpw : pairW (wordsL p) = [] := by
                match hw : wordsL p, h2 with
                | [], _ => rfl
                | [_], _ => rfl
                | [_, _], h => simp at h
                | _ :: _ :: _ :: _, _ => rfl
              rw [hpw, List.append_nil] at hnx
              have HNX := Lib.hid hnx.symm
              clear hnx hpw lcell lab hpj zp
              generalize wordsL p = WL at *
              go_wp2_with (go_at_call 35; (with_reducible refine (WX _).mono ?_); rintro e wg5 ⟨wa, wn, wc, rfl, hwn, ho, hb⟩; have HP5 := Lib.hid (HPj.out.on hb); have HL5 := Lib.hid (OwnT.onQ HLj.out hb); have hw2 : ¬ ((wn : Int) = 2) := (by omega); clear ho hb hwn)
              go_roundw
              case rel => exact ⟨jj + 1, CF, a6, n6, m6, by omega, by go_num, HNX, HP5, HL5⟩
              case measure => simp [intOf]; omega
          · obtain rfl : jj = ln := by omega
            have HCFF : Hid (CFL = CF) := Lib.hid (by rw [HCF.out, HCFj.out, List.take_of_length_le (by have := HLN.out; omega)])
            clear HCFj HLj hjn hjj
            have hlk : (L.map cellsU).length = k := by rw [List.length_map, hLk]
            go_wp2_with (first
              | (at_builtin; refine wpList_append_own _ rfl _ _ 22 rfl w1.heap.size 43 i0 _ 9 184 Tryz.underlying22 hi hz0 hz1 hz2' rfl (by decide) _ _ _ rfl (World.ownsRow.alloc HOZ.out.1.2 _) ⟨wg9.heap.size, 0, none⟩ 1 1 [.string ⟨YN.toArray⟩, .string ⟨YV.toArray⟩, .int .i64 zst, .slice a3 n3 m3, .slice a4 n4 m4, .slice a5 n5 m5, .slice a6 n6 m6, .slice a7 n7 m7, .slice a8 n8 m8] rfl rfl ?c1 ?c2 ?c3 ?c4 ?c5 ?_)
              | (go_at_call 35; (with_reducible refine (WA _).mono ?_); rintro e wg9 ⟨a8, n8, m8, rfl, -, ho, hb⟩; have HP9 := Lib.hid (HP8s.out.on hb); have HT9 := Lib.hid (OwnT.mono ho HP8s.out.lt); have HP9s := Lib.hid (HP9.out.s8 HT9.out); have r8 := cell_heap (i := 8) HP9.out.hx rfl; have g8 := frozen_of_row _ _ 8 _ _ HP9.out.hx; have HOZ := Lib.hid (HO.out.on HP9s.out.b); have HBZ := Lib.hid (HB.out.trans (HP9s.out.b.mono HB.out.size)); have k0 := HP9s.out.cell.1; have k1 := HP9s.out.cell.2.1; have k2 := HP9s.out.cell.2.2.1; have k3 := HP9s.out.cell.2.2.2.1; have k4 := HP9s.out.cell.2.2.2.2.1; have k5 := HP9s.out.cell.2.2.2.2.2.1; have k6 := HP9s.out.cell.2.2.2.2.2.2.1; have k7 := HP9s.out.cell.2.2.2.2.2.2.2.1; have k8 := HP9s.out.cell.2.2.2.2.2.2.2.2; dsimp only at k0 k1 k2 k3 k4 k5 k6 k7 k8; clear ho hb)
              | (go_at_call 31; (with_reducible refine (TXa _ HP8s.out.b).mono ?_); rintro e wq ⟨rfl, hw⟩; replace hw := hw.symm; subst hw)
              | (go_at_call 35; (with_reducible refine (WP _).mono ?_); rintro e wg8 ⟨a7, n7, m7, rfl, -, ho, hb⟩; have HP8 := Lib.hid (HPj.out.on hb); have HT8 := Lib.hid (OwnT.mono ho HPj.out.lt); have HP8s := Lib.hid (HP8.out.s7 HT8.out); have r7 := cell_heap (i := 7) HP8.out.hx rfl; have g7 := frozen_of_row _ _ 7 _ _ HP8.out.hx; clear ho hb)
              | (go_at_call 31; (with_reducible refine (TXp _ HPj.out.b).mono ?_); rintro e wq ⟨rfl, hw⟩; replace hw := hw.symm; subst hw))
            case c1 => exact news9 _ _ _ _ _ _ _ _ _ _ (by simp)
            case c2 =>
              intro u hu
              simp at hu
              rcases hu with rfl | rfl | rfl | rfl | rfl | rfl | rfl | rfl | rfl <;> rfl
            case c3 => rw [hlk]; unfold maxLen; omega
            case c4 => omega
            case c5 => have := HBZ.out.size; simp at this; simp; omega
            intro v' w4 hown' hgrow _
            have HO4 : Hid (OwnRecs w4 w1.heap.size v' (L ++ [⟨YN, YV, zst, D, CN, RP, CF, PD, AW, .slice a3 n3 m3, .slice a4 n4 m4, .slice a5 n5 m5, .slice a6 n6 m6, .slice a7 n7 m7, .slice a8 n8 m8⟩])) := Lib.hid (OwnRecs.app HOZ.out (OwnRec.mono HP9s.out.o (by have := HB.out.size; omega)) (by rw [hlk]; exact hown') hgrow)
            have HB4 : Hid (Below w1.heap.size w1 w4) := Lib.hid (OwnV.below HBZ.out HOZ.out.1 hgrow (Nat.le_refl _) HBZ.out.size)
            have HX := Lib.hid (HRA.out _ (by have h := HRES.out D (.slice a3 n3 m3) (.slice a4 n4 m4) (.slice a5 n5 m5) (.slice a6 n6 m6) (.slice a7 n7 m7) (.slice a8 n8 m8) HD.out; rw [HCFF.out] at h; exact h))
            clear hown' hgrow
            go_wp2
            go_roundw
            case rel => exact ⟨k + 1, _, by omega, by go_num, by rw [List.length_append, hLk]; rfl, HX, HO4, HB4⟩
            case measure => simp [intOf]; omega
      · obtain rfl : k = n := by omega
        have HR2 : Hid (RecsOfR fs L) := Lib.hid (by have := HR.out; rwa [List.take_of_length_le (by rw [HN.out]; omega)] at this)
        have P1 := PR L u4 HR2.out wr HO.out.holds
        obtain ⟨ua, uc, hu⟩ := OwnV.form HO.out.1
        rw [List.length_map, hLk] at hu
        subst hu
        have HU := Lib.hid HO.out.holds
        have HY2 := Lib.hid (fun w' v => HYES.out L w' v HR2.out)
        have HN2 := Lib.hid (fun w' => HNO.out L w' HR2.out)
        have hsb : ∀ T : ByteArray, T.data.toList = s.data.toList → T = s := fun T h => (strOf (x := T) h).trans (strOf (x := s) rfl).symm
        obtain ⟨⟨PL, PZ⟩, hpe⟩ : ∃ q, printUE L = q := ⟨_, rfl⟩
        simp only [hpe] at P1 HY2 HN2
        obtain ⟨PT, hPT⟩ : ∃ q, bsT PL = q := ⟨_, rfl⟩
        have hPL : PL = PT.data.toList := by rw [← hPT]
        rw [hPT] at P1
        subst hPL
        clear hpe PR HYES HNO HR HO hlt hPT
        by_cases hz : PZ = 0
        · subst hz
          by_cases hps : PT = s
          · subst hps
            have hTT : (PT.toList == PT.toList) = true := by simp
            go_wp2_with (go_at_call 8; (with_reducible refine P1.mono ?_); rintro e w5 ⟨rfl, hb⟩; have HB5 := Lib.hid (HBW.out.trans (hb.mono HBW.out.size)); have HU5 := Lib.hid (HU.out.on hb); clear hb)
            go_ret2
            exact HY2.out _ _ (by trivial) HB5.out HU5.out
          · have hTT : (PT.toList == s.toList) = false := by
              rw [beq_eq_false_iff_ne]
              intro e
              rw [ByteArray.toList_eq, ByteArray.toList_eq] at e
              exact hps (hsb _ e)
            have HTN : Hid ((PT.data.toList, (0 : Int)) ≠ (s.data.toList, 0)) := Lib.hid (fun e => hps (hsb _ (Prod.mk.inj e).1))
            clear hps hsb
            go_wp2_with (go_at_call 8; (with_reducible refine P1.mono ?_); rintro e w5 ⟨rfl, hb⟩; have HB5 := Lib.hid (HBW.out.trans (hb.mono HBW.out.size)); clear hb)
            go_ret2
            exact HN2.out _ HTN.out HB5.out
        · have hz1 : ¬ (PZ = 0) := hz
          have HTN : Hid ((PT.data.toList, PZ) ≠ (s.data.toList, 0)) := Lib.hid (fun e => hz (Prod.mk.inj e).2)
          clear hz hsb
          go_wp2_with (go_at_call 8; (with_reducible refine P1.mono ?_); rintro e w5 ⟨rfl, hb⟩; have HB5 := Lib.hid (HBW.out.trans (hb.mono HBW.out.size)); clear hb)
          go_ret2
          exact HN2.out _ HTN.out HB5.out
end Go.Proofs.YtkbkaeefdhkgdaaGreatDoor
