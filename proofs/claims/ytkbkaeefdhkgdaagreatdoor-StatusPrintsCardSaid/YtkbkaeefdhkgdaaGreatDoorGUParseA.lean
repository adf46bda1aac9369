import Derived.Test.YtkbkaeefdhkgdaaGreatDoorGURecA
set_option maxRecDepth 100000
set_option maxHeartbeats 32000000
namespace Go.Proofs.YtkbkaeefdhkgdaaGreatDoor
open Go.RowKit Go.Shelf
def RecsOf (fs : List (List Fld)) (L : List Uv) : Prop := L.length = fs.length ∧ ∀ (k : Nat) f x, fs[k]? = some f → L[k]? = some x → RecOf f x
theorem RecsOf.nil : RecsOf [] [] := ⟨rfl, fun k f x h => by simp at h⟩
theorem RecsOf.app {fs : List (List Fld)} {L : List Uv} {f : List Fld} {x : Uv} (h : RecsOf fs L) (hx : RecOf f x) : RecsOf (fs ++ [f]) (L ++ [x]) := by
  refine ⟨by simp [h.1], fun k g y h1 h2 => ?_⟩
  by_cases hk : k < fs.length
  · rw [List.getElem?_append_left hk] at h1
    rw [List.getElem?_append_left (by rw [h.1]; exact hk)] at h2
    exact h.2 k g y h1 h2
  · rw [List.getElem?_append_right (by omega)] at h1
    rw [List.getElem?_append_right (by rw [h.1]; omega), h.1] at h2
    match hj : k - fs.length with
    | 0 => rw [hj] at h1 h2; simp at h1 h2; subst h1; subst h2; exact hx
    | j + 1 => rw [hj] at h1; simp at h1
def OwnRecs (w : World) (B : Nat) (v : Value) (L : List Uv) : Prop := OwnV 43 9 w B v (L.map cellsU) ∧ ∀ x ∈ L, OwnRec w B x
theorem OwnRecs.nil (w : World) (B : Nat) : OwnRecs w B (.slice none 0 0) [] := ⟨OwnV.nil _ _ _ _, fun x hx => by simp at hx⟩
theorem OwnRecs.on {w w' : World} {B : Nat} {v : Value} {L : List Uv} (h : OwnRecs w B v L) (hb : Below w.heap.size w w') : OwnRecs w' B v L := ⟨OwnV.on h.1 hb, fun x hx => (h.2 x hx).on hb⟩
theorem OwnRecs.holds {w : World} {B : Nat} {v : Value} {L : List Uv} (h : OwnRecs w B v L) : HoldU w v L := ⟨OwnV.holds h.1, fun x hx => (h.2 x hx).ins⟩
theorem OwnRecs.app {w w' : World} {o : Obj} {B : Nat} {v v' : Value} {L : List Uv} {x : Uv} (h : OwnRecs w B v L) (hx : OwnRec w B x) (hown : w'.ownsRow B 43 9 v' ((L.map cellsU).length + 1) ((L.map cellsU).flatten ++ cellsU x)) (hg : (w.alloc o).grownBy w' v.ownBlock) : OwnRecs w' B v' (L ++ [x]) := by
  refine ⟨?_, fun y hy => ?_⟩
  · rw [List.map_append]
    exact OwnV.app h.1.1 rfl hown
  · rcases List.mem_append.1 hy with e | e
    · exact (h.2 y e).grow h.1.2 hg
    · rw [List.mem_singleton.1 e]; exact hx.grow h.1.2 hg
def ParseUPost (s : Bs) (w : World) (e : Ending) (w' : World) : Prop := Below w.heap.size w w' ∧
  ((parseS s = none ∧ e = .returned (.tuple #[.slice none 0 0, .int .i64 2])) ∨
   ∃ fs L, parseS s = some fs ∧ RecsOf fs L ∧ ((printUE L = (s, 0) ∧ ∃ v, e = .returned (.tuple #[v, .int .i64 0]) ∧ HoldU w' v L) ∨ (printUE L ≠ (s, 0) ∧ e = .returned (.tuple #[.slice none 0 0, .int .i64 2]))))
structure FsFit (fs : List (List Fld)) : Prop where
  n : fs.length ≤ 90000
  f : ∀ f ∈ fs, FldFit f
  s : ∀ f ∈ fs, ∀ x, RecOf f x → SmallU x
  p : ∀ L, RecsOf fs L → kchkK rightU (fun x => x.nm) L = 0 → Small (L.map fieldsU) 90000
theorem RecsOf.small {fs : List (List Fld)} {L : List Uv} (h : RecsOf fs L) (hf : FsFit fs) : ∀ x ∈ L, SmallU x := fun x hx => by
  obtain ⟨k, hk, rfl⟩ := List.mem_iff_getElem.1 hx
  have hk2 : k < fs.length := by rw [← h.1]; exact hk
  exact hf.s _ (List.getElem_mem hk2) _ (h.2 k _ _ (List.getElem?_eq_getElem hk2) (List.getElem?_eq_getElem hk))
theorem parseU_any (s : ByteArray) (hs : s.size ≤ 20000) (hfit : ∀ fs, parseS s.data.toList = some fs → FsFit fs) (w : World) (hL : LaidU w) (hE : LaidE w) : Calls Tryz.prog 11 #[.string s] w (ParseUPost s.data.toList w) := by
  have SP := sparse_post s hs w
  unfold SParsePost at SP
  cases hps : parseS s.data.toList with
  | none =>
    have SP2 : Calls Tryz.prog 27 #[.string s] w fun e w' => (∃ a n c, e = .returned (.tuple #[.slice a n c, .int .i64 2])) ∧ Below w.heap.size w w' := SP.mono fun e w' h => by
      obtain ⟨v, z, he, -, h2, hb⟩ := h
      obtain ⟨hz, hh⟩ := h2 hps
      obtain ⟨a, c, b, o, e', _⟩ := hh
      exact ⟨⟨a, _, c, by rw [he, hz, e']⟩, hb⟩
    have HP : Hid (∀ w', Below w.heap.size w w' → ParseUPost s.data.toList w (.returned (.tuple #[.slice none 0 0, .int .i64 2])) w') := Lib.hid (fun w' hb => ⟨hb, .inl ⟨hps, rfl⟩⟩)
    clear SP hps hfit hL hE
    go_enter Tryz.func11, Tryz.ntmps11
    go_wp2_with (go_at_call 27; (with_reducible refine SP2.mono ?_); rintro e w1 ⟨⟨a, n, c, rfl⟩, hb⟩; have HB1 := Lib.hid hb; clear hb)
    go_ret2
    exact HP.out _ HB1.out
  | some fs =>
    have HF := Lib.hid (hfit fs hps)
    have SP2 : Calls Tryz.prog 27 #[.string s] w fun e w' => (∃ a n c, e = .returned (.tuple #[.slice a n c, .int .i64 0]) ∧ HoldRR 2 w' (.slice a n c) (fs.map (·.map rowF))) ∧ Below w.heap.size w w' := SP.mono fun e w' h => by
      obtain ⟨v, z, he, h1, -, hb⟩ := h
      obtain ⟨hz, hh⟩ := h1 fs hps
      have hh2 := hh
      obtain ⟨a, c, b, o, e', _⟩ := hh
      exact ⟨⟨a, _, c, by rw [he, hz, e'], by rw [← e']; exact hh2⟩, hb⟩
    have HYES : Hid (∀ L w' v, RecsOf fs L → printUE L = (s.data.toList, 0) → Below w.heap.size w w' → HoldU w' v L → ParseUPost s.data.toList w (.returned (.tuple #[v, .int .i64 0])) w') := Lib.hid (fun L w' v h1 h2 hb h3 => ⟨hb, .inr ⟨fs, L, hps, h1, .inl ⟨h2, v, rfl, h3⟩⟩⟩)
    have HNO : Hid (∀ L w', RecsOf fs L → printUE L ≠ (s.data.toList, 0) → Below w.heap.size w w' → ParseUPost s.data.toList w (.returned (.tuple #[.slice none 0 0, .int .i64 2])) w') := Lib.hid (fun L w' h1 h2 hb => ⟨hb, .inr ⟨fs, L, hps, h1, .inr ⟨h2, rfl⟩⟩⟩)
    have RE := fun (u : Value) (f : List Fld) (hf : f ∈ fs) W (hb : Below w.heap.size w W) (h : HoldR 2 W u (f.map rowF)) => record_any u f (HF.out.f f hf) W (hL.on hb) h
    have PR := fun (L : List Uv) (u : Value) (h1 : RecsOf fs L) W (hb : Below w.heap.size w W) (h : HoldU W u L) => printU_any u L (by rw [h1.1]; exact HF.out.n) (h1.small HF.out) (HF.out.p L h1) W h (hL.on hb) (hE.on hb)
    obtain ⟨n, hN⟩ : ∃ n, fs.length = n := ⟨_, rfl⟩
    have HN := Lib.hid hN
    have hn9 := HF.out.n
    rw [hN] at hn9
    obtain ⟨i0, hi, hz0, hz1, hz2'⟩ := info_parts infoU
    have HSS : Hid (∀ T : ByteArray, T = s → (bsT T.data.toList = T)) := Lib.hid (fun T _ => rfl)
    clear SP hps hfit hL hE hN
    go_enter Tryz.func11, Tryz.ntmps11
    go_wp2_with (go_at_call 27; (with_reducible refine SP2.mono ?_); rintro e w1 ⟨⟨sa, sn, sc, rfl, hh⟩, hb⟩; have HB1 := Lib.hid hb; have HH := Lib.hid hh; obtain ⟨_, _, b, o, e', hc, ha, hcell⟩ := hh; simp only [Value.slice.injEq] at e'; obtain ⟨rfl, hsn, rfl⟩ := e'; rw [List.length_map, HN.out] at hsn hc ha; rw [hsn] at HH ⊢; clear hsn; have HC := Lib.hid hcell; clear hcell hb)
    clear SP2
    go_loopw [6, 21, 8] (fun u i _ wr => ∃ (k : Nat) (L : List Uv), k ≤ n ∧ i = .int .i64 k ∧ L.length = k ∧ Hid (RecsOf (fs.take k) L) ∧ Hid (OwnRecs wr w1.heap.size u L) ∧ Hid (Below w1.heap.size w1 wr)) (fun _ i _ _ => n - (intOf i).toNat)
    case atStart => exact ⟨0, [], by omega, rfl, rfl, Lib.hid RecsOf.nil, Lib.hid (OwnRecs.nil _ _), Lib.hid (Below.refl _ _)⟩
    case round =>
      obtain ⟨k, L, hk, rfl, hLk, HR, HO, HB⟩ := hrel
      have HBW : Hid (Below w.heap.size w wr) := Lib.hid (HB1.out.trans (HB.out.mono HB1.out.size))
      by_cases hlt : k < n
      · obtain ⟨rfl, hbw⟩ := ha (by omega)
        obtain ⟨f, hf⟩ : ∃ f, fs[k]? = some f := ⟨_, List.getElem?_eq_getElem (by rw [HN.out]; exact hlt)⟩
        obtain ⟨fv, x0, hfh⟩ := HC.out k _ (by rw [List.getElem?_map, hf]; rfl)
        rw [← HB.out.cell (p := ⟨b, o + k, none⟩) hbw] at x0
        have hform := hfh
        obtain ⟨fa, fc, _, _, rfl, _⟩ := hform
        have R1 := RE _ f (List.mem_of_getElem? hf) wr HBW.out (hfh.on HB.out)
        have HRA : Hid (∀ x, RecOf f x → RecsOf (fs.take (k + 1)) (L ++ [x])) := Lib.hid (fun x hx => by
          rw [List.take_add_one, hf]
          exact RecsOf.app HR.out hx)
        generalize (f.map rowF).length = fn at *
        have hlk : (L.map cellsU).length = k := by rw [List.length_map, hLk]
        clear hf hfh HR
        go_wp2_with (first
          | (go_at_call 28; (with_reducible refine R1.mono ?_); rintro e w3 ⟨x, rfl, hrx, hor, hb⟩; have HX := Lib.hid (HRA.out x hrx); have HB3 := Lib.hid (HB.out.trans (hb.mono HB.out.size)); have HO3 := Lib.hid (OwnRecs.on HO.out hb); have HOR := Lib.hid (OwnRec.mono hor HB.out.size); clear hrx hor hb)
          | (at_builtin; refine wpList_append_own _ rfl _ _ 22 rfl w1.heap.size 43 i0 _ 9 184 Tryz.underlying22 hi hz0 hz1 hz2' rfl (by decide) _ _ _ rfl (World.ownsRow.alloc HO3.out.1.2 _) ⟨w3.heap.size, 0, none⟩ 1 1 (cellsU x) rfl rfl ?c1 ?c2 ?c3 ?c4 ?c5 ?_))
        case c1 =>
          intro j u hj
          match j, hj with
          | 0, hj | 1, hj | 2, hj | 3, hj | 4, hj | 5, hj | 6, hj | 7, hj | 8, hj => simp at hj; subst hj; simp [Addr.add]
          | j + 9, hj => simp at hj
        case c2 =>
          have HIN := HOR.out.ins
          obtain ⟨_, _, _, q3⟩ := formU3 HIN
          obtain ⟨_, _, _, q4⟩ := formU4 HIN
          obtain ⟨_, _, _, q5⟩ := formU5 HIN
          obtain ⟨_, _, _, q6⟩ := formU6 HIN
          obtain ⟨_, _, _, q7⟩ := formU7 HIN
          obtain ⟨_, _, _, q8⟩ := formU8 HIN
          intro u hu
          simp at hu
          rw [q3, q4, q5, q6, q7, q8] at hu
          rcases hu with rfl | rfl | rfl | rfl | rfl | rfl | rfl | rfl | rfl <;> rfl
        case c3 => rw [hlk]; unfold maxLen; omega
        case c4 => omega
        case c5 => have := HB3.out.size; simp; omega
        intro v' w4 hown' hgrow _
        have HO4 : Hid (OwnRecs w4 w1.heap.size v' (L ++ [x])) := Lib.hid (OwnRecs.app HO3.out HOR.out (by rw [hlk]; exact hown') hgrow)
        have HB4 : Hid (Below w1.heap.size w1 w4) := Lib.hid (OwnV.below HB3.out HO3.out.1 hgrow (Nat.le_refl _) HB3.out.size)
        clear hown' hgrow
        go_wp2
        go_roundw
        case rel => exact ⟨k + 1, L ++ [x], by omega, by go_num, by rw [List.length_append, hLk]; rfl, HX, HO4, HB4⟩
        case measure => simp [intOf]; omega
      · obtain rfl : k = n := by omega
        have HR2 : Hid (RecsOf fs L) := Lib.hid (by have := HR.out; rwa [List.take_of_length_le (by rw [HN.out]; omega)] at this)
        have P1 := PR L u6 HR2.out wr HBW.out HO.out.holds
        obtain ⟨ua, uc, hu⟩ := OwnV.form HO.out.1
        rw [List.length_map, hLk] at hu
        subst hu
        have HU := Lib.hid HO.out.holds
        have HY2 := Lib.hid (fun w' v => HYES.out L w' v HR2.out)
        have HN2 := Lib.hid (fun w' => HNO.out L w' HR2.out)
        have hsb : ∀ T : ByteArray, T.data.toList = s.data.toList → T = s := fun T h => (strOf (x := T) h).trans (strOf (x := s) rfl).symm
        obtain ⟨⟨PL, PZ⟩, hpe⟩ : ∃ q, printUE L = q := ⟨_, rfl⟩
        simp only [hpe] at P1 HY2 HN2
        obtain ⟨PT, hPT⟩ : ∃ q, bsT PL = q := ⟨_, rfl⟩
        have hPL : PL = PT.data.toList := by rw [← hPT]
        rw [hPT] at P1
        subst hPL
        clear hpe PR RE HYES HNO HR HO hlt hPT
        by_cases hz : PZ = 0
        · subst hz
          by_cases hps : PT = s
          · subst hps
            have hTT : (PT.toList == PT.toList) = true := by simp
            go_wp2_with (go_at_call 7; (with_reducible refine P1.mono ?_); rintro e w5 ⟨rfl, hb⟩; have HB5 := Lib.hid (HBW.out.trans (hb.mono HBW.out.size)); have HU5 := Lib.hid (HU.out.on hb); clear hb)
            go_ret2
            exact HY2.out _ _ (by trivial) HB5.out HU5.out
          · have hTT : (PT.toList == s.toList) = false := by
              rw [beq_eq_false_iff_ne]
              intro e
              rw [ByteArray.toList_eq, ByteArray.toList_eq] at e
              exact hps (hsb _ e)
            have hTN : (PT.data.toList, (0 : Int)) ≠ (s.data.toList, 0) := fun e => hps (hsb _ (Prod.mk.inj e).1)
            have HTN := Lib.hid hTN
            clear hTN hps hsb
            go_wp2_with (go_at_call 7; (with_reducible refine P1.mono ?_); rintro e w5 ⟨rfl, hb⟩; have HB5 := Lib.hid (HBW.out.trans (hb.mono HBW.out.size)); clear hb)
            go_ret2
            exact HN2.out _ HTN.out HB5.out
        · have hz1 : (PZ != 0) = true := by rw [bne_iff_ne]; exact hz
          have HTN : Hid ((PT.data.toList, PZ) ≠ (s.data.toList, 0)) := Lib.hid (fun e => hz (Prod.mk.inj e).2)
          clear hz hsb
          go_wp2_with (go_at_call 7; (with_reducible refine P1.mono ?_); rintro e w5 ⟨rfl, hb⟩; have HB5 := Lib.hid (HBW.out.trans (hb.mono HBW.out.size)); clear hb)
          go_ret2
          exact HN2.out _ HTN.out HB5.out
end Go.Proofs.YtkbkaeefdhkgdaaGreatDoor
