/-
  The program's Parse of a list of paths, and the reference's: what each returns; nothing old turns. Condition of the program's: LaidP.
-/
import Derived.Test.YtogkickaebmeoaaDoorTPrint
import Derived.Test.YtogkickaebmeoaaDoorSPLines2
import Derived.Test.YtogkickaebmeoaaDoorSWords
namespace Go.Proofs.YtogkickaebmeoaaDoor
open Go.RowKit
/-- A box of two that may be written. -/
structure Box2 (w : World) (b : Nat) (x y : Value) : Prop where
  c0 : w.cell? ⟨b, 0, none⟩ = some x
  c1 : w.cell? ⟨b, 1, none⟩ = some y
  f : ∀ i, w.frozen? ⟨b, i, none⟩ = false
theorem Box2.new (A : World) (x y : Value) (t : TypeId) : Box2 (A.alloc (.cells #[x, y] t)) A.heap.size x y :=
  ⟨(box2 A x y t).1, (box2 A x y t).2, fun i => frozen_of_row _ A.heap.size i _ t (heap_alloc_new A _)⟩
theorem Box2.on {A B : World} {b : Nat} {x y : Value} (h : Box2 A b x y) (hb : Below A.heap.size A B) : Box2 B b x y := by
  have hlt := World.block_lt_of_cell? A _ h.c0
  have k := fun o => hb.cell (p := ⟨b, o, none⟩) hlt
  exact ⟨by rw [k]; exact h.c0, by rw [k]; exact h.c1, fun i => by rw [hb.frozen (p := ⟨b, i, none⟩) hlt]; exact h.f i⟩
abbrev put2 (w : World) (b : Nat) (x y : Value) : World := (w.setCell ⟨b, 0, none⟩ x).setCell ⟨b, 1, none⟩ y
theorem Box2.put {w : World} {b : Nat} {x y : Value} (h : Box2 w b x y) (x' y' : Value) : (put2 w b x' y').cell? ⟨b, 0, none⟩ = some x' ∧ (put2 w b x' y').cell? ⟨b, 1, none⟩ = some y' := by
  have o : ∀ (A : World) (i j : Nat) (u v : Value), i ≠ j → A.cell? ⟨b, j, none⟩ = some v → (A.setCell ⟨b, i, none⟩ u).cell? ⟨b, j, none⟩ = some v := fun A i j u v hij hv => (World.cell?_setCell_other _ _ _ _ (fun e => hij (congrArg Addr.off e))).trans hv
  have s0 : ∀ (A : World) (i : Nat) (u v : Value), A.cell? ⟨b, i, none⟩ = some v → (A.setCell ⟨b, i, none⟩ u).cell? ⟨b, i, none⟩ = some u := fun A i u v hv => World.cell?_setCell_same _ _ _ hv
  exact ⟨o _ 1 0 _ _ (by omega) (s0 _ 0 _ _ h.c0), s0 _ 1 _ _ (o _ 0 1 _ _ (by omega) h.c1)⟩
theorem put2_below {B : Nat} {w0 w : World} {b : Nat} (h : Below B w0 w) (hb : B ≤ b) (x y : Value) : Below B w0 (put2 w b x y) := (h.setCell (p := ⟨b, 0, none⟩) hb _).setCell (p := ⟨b, 1, none⟩) hb _
theorem HoldT.set {w : World} {v : Value} {l : List Bs} (h : HoldT w v l) {b : Nat} (hn : ∀ a n c, v = .slice (some a) n c → a.block ≠ b) (i : Nat) (u : Value) : HoldT (w.setCell ⟨b, i, none⟩ u) v l := by
  obtain ⟨a, c, b', o, rfl, hc, ha, hcell⟩ := h
  refine ⟨a, c, b', o, rfl, hc, fun h0 => ⟨(ha h0).1, by rw [World.size_setCell]; exact (ha h0).2⟩, fun j l hj => ?_⟩
  have h0 : 0 < _ := Nat.lt_of_le_of_lt (Nat.zero_le _) (List.getElem?_eq_some_iff.1 hj).1
  have hbb := hn _ _ _ (by rw [(ha h0).1])
  exact (World.cell?_setCell_other _ _ _ _ (fun e => hbb (by rw [Addr.mk.injEq] at e; exact e.1.symm))).trans (hcell j l hj)
theorem OwnT.apart {w : World} {base : Nat} {v : Value} {l : List Bs} (h : OwnT w base v l) {b : Nat} (hb : b < base) : ∀ a n c, v = .slice (some a) n c → a.block ≠ b := fun a n c e e2 => by
  subst e
  have := (World.ownsRow.lt h a.block rfl).1
  omega
theorem OwnT.form {w : World} {base : Nat} {v : Value} {l : List Bs} (h : OwnT w base v l) : ∃ a n c, v = .slice a n c := by
  obtain ⟨a, c, b, o, rfl, _⟩ := h.holds
  exact ⟨_, _, _, rfl⟩
def Pa13 (n s : Bs) (w : World) (e : Ending) (w' : World) : Prop := ∃ N v z, e = .returned (.tuple #[.agg #[.string N, v], .int .i64 z]) ∧ (∀ x, parse13 n s = some x → z = 0 ∧ N.data.toList = x.1 ∧ HoldT w' v x.2) ∧ (parse13 n s = none → z = 2 ∧ N = ⟨#[]⟩ ∧ v = .slice none 0 0) ∧ Below w.heap.size w w'
set_option maxRecDepth 100000 in
set_option maxHeartbeats 16000000 in
theorem parse13_any (N : ByteArray) (hN : N.size ≤ 4000) (s : ByteArray) (hs : s.size ≤ 90000) (hp : ∀ p ∈ spl 10 s.data.toList, p.length ≤ 4000) (w : World) (hL : LaidP w) : Calls Tryd.prog 16 #[.string N, .string s] w (Pa13 N.data.toList s.data.toList w) := by
  have L := fun w => slines_any s hs w
  unfold PLinesPost at L
  have HB0 := Lib.hid ((Below.refl w.heap.size w).alloc (Nat.le_refl _) (.cells #[.string ⟨#[]⟩, .slice none 0 0] 24))
  have HX0 := Lib.hid (Box2.new w (.string ⟨#[]⟩) (.slice none 0 0) 24)
  have HBAD : Hid (∀ w', parse13 N.data.toList s.data.toList = none → Below w.heap.size w w' → Pa13 N.data.toList s.data.toList w (.returned (.tuple #[.agg #[.string ⟨#[]⟩, .slice none 0 0], .int .i64 2])) w') := Lib.hid (fun w' h hb => ⟨_, _, 2, rfl, fun l hl => (by rw [h] at hl; cases hl), fun _ => ⟨rfl, rfl, rfl⟩, hb⟩)
  have HOK : Hid (∀ l v w', parse13 N.data.toList s.data.toList = some (N.data.toList, l) → HoldT w' v l → Below w.heap.size w w' → Pa13 N.data.toList s.data.toList w (.returned (.tuple #[.agg #[.string N, v], .int .i64 0])) w') := Lib.hid (fun l v w' h h1 hb => ⟨N, v, 0, rfl, fun l' hl => (by rw [h] at hl; cases hl; exact ⟨rfl, rfl, h1⟩), fun hn => (by rw [h] at hn; cases hn), hb⟩)
  have HL := Lib.hid hL
  cases hlo : linesO s.data.toList with
  | none =>
    have L2 : ∀ w, Calls Tryd.prog 53 #[.string s] w fun e w' => e = .returned (.tuple #[.slice none 0 0, .int .i64 2]) ∧ Below w.heap.size w w' := fun w => (L w).mono fun e w' ⟨v, z, he, _, h2, hb⟩ => ⟨by rw [he, (h2 hlo).1, (h2 hlo).2], hb⟩
    have HNN := Lib.hid (parse13_none (n := N.data.toList) hlo)
    clear L hlo hp hL
    go_enter Tryd.func16, Tryd.ntmps16
    go_wp2_with (go_at_call 53; refine (L2 _).mono ?_; rintro e w1 ⟨rfl, hb⟩; have HB := Lib.hid (HB0.out.trans (hb.mono HB0.out.size)); have HX := Lib.hid (HX0.out.on hb); obtain ⟨r0, r1, rf⟩ := HX.out; have rf0 := rf 0; have rf1 := rf 1; clear hb rf)
    obtain ⟨k0, k1⟩ := HX.out.put (.string ⟨#[]⟩) (.slice none 0 0)
    exact bodyPost_ret (v := .tuple #[.agg #[.string ⟨#[]⟩, .slice none 0 0], .int .i64 2]) (by simp [results, Tryd.results16, go_sem, k0, k1]) rfl (HBAD.out _ HNN.out (put2_below HB.out (Nat.le_refl _) _ _))
  | some ls =>
    have L2 : ∀ w, Calls Tryd.prog 53 #[.string s] w fun e w' => ∃ v, e = .returned (.tuple #[v, .int .i64 0]) ∧ OwnT w' w.heap.size v ls ∧ Below w.heap.size w w' := fun w => (L w).mono fun e w' ⟨v, z, he, h1, _, hb⟩ => ⟨v, by rw [he, (h1 ls hlo).1], (h1 ls hlo).2, hb⟩
    have HPS := Lib.hid (parse13_some (n := N.data.toList) hlo)
    obtain ⟨hl1, hl2⟩ := lines_len hlo
    rw [← sizeOf] at hl1
    have HSM : Hid (SmallP ls) := Lib.hid (fun p h => hp p (hl2 p h))
    have PR0 := fun v W h1 h2 => print13_any N hN v ls (by omega) HSM.out W h1 h2
    unfold Pr13 at PR0
    obtain ⟨T, hT⟩ : ∃ T, T = bsT (print13 (N.data.toList, ls)).1 := ⟨_, rfl⟩
    obtain ⟨z, hz⟩ : ∃ z, z = (print13 (N.data.toList, ls)).2 := ⟨_, rfl⟩
    rw [← hT, ← hz] at PR0
    have HTZ : Hid (print13 (N.data.toList, ls) = (T.data.toList, z)) := Lib.hid (by rw [hT, bytesOf, hz])
    have hq := eqT T s
    clear L hlo hp hl2 hL hT hz
    have LN := L2 (w.alloc (.cells #[.string ⟨#[]⟩, .slice none 0 0] 24))
    clear L2
    by_cases hz0 : z = 0
    · subst hz0
      by_cases hts : T.data.toList = s.data.toList
      · rw [decide_eq_true hts] at hq
        have HXX : Hid (parse13 N.data.toList s.data.toList = some (N.data.toList, ls)) := Lib.hid (by rw [HPS.out, if_pos (by rw [HTZ.out, hts])])
        clear hts
        go_enter Tryd.func16, Tryd.ntmps16
        go_wp2_with (first
          | (go_at_call 53; (with_reducible refine LN.mono ?_); rintro e w1 ⟨v, rfl, hh, hb⟩; obtain ⟨va, vn, vc, rfl⟩ := OwnT.form hh; have HAP := Lib.hid (OwnT.apart hh (b := w.heap.size) (by simp)); have HH2 := Lib.hid (hh.holds.on ((Below.refl w1.heap.size w1).alloc (Nat.le_refl _) (.cells #[.string N, .slice va vn vc] 24))); have HB := Lib.hid (HB0.out.trans (hb.mono HB0.out.size)); have HB2 := Lib.hid (HB.out.alloc HB.out.size (.cells #[.string N, .slice va vn vc] 24)); have HR1 := Lib.hid ((HX0.out.on hb).on ((Below.refl w1.heap.size w1).alloc (Nat.le_refl _) (.cells #[.string N, .slice va vn vc] 24))); have HN8 := Lib.hid (Box2.new w1 (.string N) (.slice va vn vc) 24); have PR := PR0 _ _ (HL.out.on HB2.out) HH2.out; clear hb hh LN)
          | (go_at_call 10; (with_reducible refine PR.mono ?_); rintro e w4 ⟨rfl, hb⟩; have HB4 := Lib.hid (HB2.out.trans (hb.mono HB2.out.size)); have HR4 := Lib.hid (HR1.out.on hb); obtain ⟨n0, n1, -⟩ := HN8.out.on hb; obtain ⟨r0, r1, rf⟩ := HR4.out; have rf0 := rf 0; have rf1 := rf 1; have HH4 := Lib.hid (HH2.out.on hb); clear hb rf PR))
        obtain ⟨k0, k1⟩ := HR4.out.put (.string N) (.slice va vn vc)
        have HH5 := Lib.hid ((HH4.out.set HAP.out 0 (.string N)).set HAP.out 1 (.slice va vn vc))
        exact bodyPost_ret (v := .tuple #[.agg #[.string N, .slice va vn vc], .int .i64 0]) (by simp [results, Tryd.results16, go_sem, k0, k1]) rfl (HOK.out _ _ _ HXX.out HH5.out (put2_below HB4.out (Nat.le_refl _) _ _))
      · rw [decide_eq_false hts] at hq
        have HXX : Hid (parse13 N.data.toList s.data.toList = none) := Lib.hid (by rw [HPS.out, if_neg (by rw [HTZ.out]; exact fun g => hts (Prod.mk.inj g).1)])
        clear hts
        go_enter Tryd.func16, Tryd.ntmps16
        go_wp2_with (first
          | (go_at_call 53; (with_reducible refine LN.mono ?_); rintro e w1 ⟨v, rfl, hh, hb⟩; obtain ⟨va, vn, vc, rfl⟩ := OwnT.form hh; have HAP := Lib.hid (OwnT.apart hh (b := w.heap.size) (by simp)); have HH2 := Lib.hid (hh.holds.on ((Below.refl w1.heap.size w1).alloc (Nat.le_refl _) (.cells #[.string N, .slice va vn vc] 24))); have HB := Lib.hid (HB0.out.trans (hb.mono HB0.out.size)); have HB2 := Lib.hid (HB.out.alloc HB.out.size (.cells #[.string N, .slice va vn vc] 24)); have HR1 := Lib.hid ((HX0.out.on hb).on ((Below.refl w1.heap.size w1).alloc (Nat.le_refl _) (.cells #[.string N, .slice va vn vc] 24))); have HN8 := Lib.hid (Box2.new w1 (.string N) (.slice va vn vc) 24); have PR := PR0 _ _ (HL.out.on HB2.out) HH2.out; clear hb hh LN)
          | (go_at_call 10; (with_reducible refine PR.mono ?_); rintro e w4 ⟨rfl, hb⟩; have HB4 := Lib.hid (HB2.out.trans (hb.mono HB2.out.size)); have HR4 := Lib.hid (HR1.out.on hb); obtain ⟨n0, n1, -⟩ := HN8.out.on hb; obtain ⟨r0, r1, rf⟩ := HR4.out; have rf0 := rf 0; have rf1 := rf 1; have HH4 := Lib.hid (HH2.out.on hb); clear hb rf PR))
        obtain ⟨k0, k1⟩ := HR4.out.put (.string ⟨#[]⟩) (.slice none 0 0)
        exact bodyPost_ret (v := .tuple #[.agg #[.string ⟨#[]⟩, .slice none 0 0], .int .i64 2]) (by simp [results, Tryd.results16, go_sem, k0, k1]) rfl (HBAD.out _ HXX.out (put2_below HB4.out (Nat.le_refl _) _ _))
    · have hzb : (z == 0) = false := by rw [beq_eq_false_iff_ne]; exact hz0
      have hzn : (z != 0) = true := by rw [bne, hzb]; rfl
      have HXX : Hid (parse13 N.data.toList s.data.toList = none) := Lib.hid (by rw [HPS.out, if_neg (by rw [HTZ.out]; exact fun g => hz0 (Prod.mk.inj g).2)])
      clear hz0 hq
      go_enter Tryd.func16, Tryd.ntmps16
      go_wp2_with (first
        | (go_at_call 53; (with_reducible refine LN.mono ?_); rintro e w1 ⟨v, rfl, hh, hb⟩; obtain ⟨va, vn, vc, rfl⟩ := OwnT.form hh; have HAP := Lib.hid (OwnT.apart hh (b := w.heap.size) (by simp)); have HH2 := Lib.hid (hh.holds.on ((Below.refl w1.heap.size w1).alloc (Nat.le_refl _) (.cells #[.string N, .slice va vn vc] 24))); have HB := Lib.hid (HB0.out.trans (hb.mono HB0.out.size)); have HB2 := Lib.hid (HB.out.alloc HB.out.size (.cells #[.string N, .slice va vn vc] 24)); have HR1 := Lib.hid ((HX0.out.on hb).on ((Below.refl w1.heap.size w1).alloc (Nat.le_refl _) (.cells #[.string N, .slice va vn vc] 24))); have HN8 := Lib.hid (Box2.new w1 (.string N) (.slice va vn vc) 24); have PR := PR0 _ _ (HL.out.on HB2.out) HH2.out; clear hb hh LN)
        | (go_at_call 10; (with_reducible refine PR.mono ?_); rintro e w4 ⟨rfl, hb⟩; have HB4 := Lib.hid (HB2.out.trans (hb.mono HB2.out.size)); have HR4 := Lib.hid (HR1.out.on hb); obtain ⟨n0, n1, -⟩ := HN8.out.on hb; obtain ⟨r0, r1, rf⟩ := HR4.out; have rf0 := rf 0; have rf1 := rf 1; have HH4 := Lib.hid (HH2.out.on hb); clear hb rf PR))
      obtain ⟨k0, k1⟩ := HR4.out.put (.string ⟨#[]⟩) (.slice none 0 0)
      exact bodyPost_ret (v := .tuple #[.agg #[.string ⟨#[]⟩, .slice none 0 0], .int .i64 2]) (by simp [results, Tryd.results16, go_sem, k0, k1]) rfl (HBAD.out _ HXX.out (put2_below HB4.out (Nat.le_refl _) _ _))
end Go.Proofs.YtogkickaebmeoaaDoor
