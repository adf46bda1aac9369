/-
  The reference's Parse of a list of paths: what it returns; nothing old turns.
-/
import Derived.Test.YtogkickaebmeoaaDoorTSame
namespace Go.Proofs.YtogkickaebmeoaaDoor
open Go.RowKit
theorem HoldT.form {w : World} {v : Value} {l : List Bs} (h : HoldT w v l) : ∃ a n c, v = .slice a n c := by
  obtain ⟨a, c, b, o, rfl, _⟩ := h
  exact ⟨_, _, _, rfl⟩
def LinesPost2 (s : Bs) (w : World) (e : Ending) (w' : World) : Prop := ∃ v, e = .returned (.tuple #[v, .bool (decide ((spl 10 s).getLast? = some []))]) ∧ HoldT w' v (spl 10 s).dropLast ∧ (∀ A n c, v = .slice (some A) n c → w.heap.size ≤ A.block) ∧ Below w.heap.size w w'
set_option maxRecDepth 100000 in
set_option maxHeartbeats 4000000 in
theorem lines_ref2 (s : ByteArray) (hs : s.size ≤ 100000) (w : World) : Calls Tryd.prog 54 #[.string s] w (LinesPost2 s.data.toList w) := by
  have C := fun w => split_ref6 s hs 10 w
  have hne := spl_ne 10 s.data.toList
  have hln := spl_len 10 s.data.toList
  rw [← sizeOf] at hln
  have HP : Hid (∀ e w' v x, (spl 10 s.data.toList).getLast? = some x → e = .returned (.tuple #[v, .bool (decide (x = []))]) → HoldT w' v (spl 10 s.data.toList).dropLast → (∀ A n c, v = .slice (some A) n c → w.heap.size ≤ A.block) → Below w.heap.size w w' → LinesPost2 s.data.toList w e w') := Lib.hid (fun e w' v x hx he h1 h0 h2 => ⟨v, by rw [hx, he]; simp, h1, h0, h2⟩)
  generalize spl 10 s.data.toList = ls at *
  obtain ⟨n, hn⟩ : ∃ n, ls.length = n + 1 := ⟨ls.length - 1, by have := List.length_pos_iff.2 hne; omega⟩
  have hnb : n ≤ 100000 := by omega
  clear hne
  go_enter Tryd.func54, Tryd.ntmps54
  go_wp2_with (first | (go_at_call 80; refine (C _).mono ?_; rintro e w1 ⟨v1, rfl, ho, hb⟩; obtain ⟨a, c, b, o, rfl, hc, ha, hcell⟩ := ho.holds; have HBL : Hid (∀ A, a = some A → w.heap.size ≤ A.block) := Lib.hid (fun A e => by subst e; exact (World.ownsRow.lt ho A.block rfl).1); have HB1 := Lib.hid hb; have HH := Lib.hid ho.holds; clear ho hb; refine Hid.out ?_))
  refine Lib.hid ?_
  obtain ⟨rfl, hbw⟩ := ha (by omega)
  rw [hn] at hc HH
  have hcx := hcell n _ (List.getElem?_eq_getElem (by omega))
  have HX : Hid (ls.getLast? = some ls[n]) := Lib.hid (getLastAt hn)
  have HC : Hid (HoldT w1 (.slice (some ⟨b, o, none⟩) n c) ls.dropLast) := Lib.hid (by rw [List.dropLast_eq_take, hn]; exact HH.out.cut n (by omega))
  obtain ⟨x, hx⟩ : ∃ x : ByteArray, x.data.toList = ls[n] := ⟨⟨(ls[n]).toArray⟩, by simp⟩
  rw [← strOf hx] at hcx
  rw [← hx] at HX
  have he := emptyT x
  have HS := Lib.hid (sizeOf x)
  clear hcell ha HH hx C hn
  by_cases h0 : x.size = 0
  · rw [decide_eq_true h0] at he
    go_wp2
    go_quiet (fail)
    go_wp2
    go_ret2
    exact HP.out _ _ (.slice (some ⟨b, o, none⟩) n c) _ HX.out (by rw [decide_eq_true (List.eq_nil_of_length_eq_zero (by rw [← HS.out]; exact h0))]; rfl) (HC.out.on (belowQ (Below.refl _ _) _)) (fun A n c e => by cases e; exact HBL.out _ rfl) (belowQ HB1.out _)
  · rw [decide_eq_false h0] at he
    go_wp2
    go_quiet (fail)
    go_wp2
    go_ret2
    exact HP.out _ _ (.slice (some ⟨b, o, none⟩) n c) _ HX.out (by rw [decide_eq_false (fun e => h0 (by rw [HS.out, e]; rfl))]; rfl) (HC.out.on (belowQ (Below.refl _ _) _)) (fun A n c e => by cases e; exact HBL.out _ rfl) (belowQ HB1.out _)
def Rp13 (n s : Bs) (w : World) (e : Ending) (w' : World) : Prop := ∃ N v ok, e = .returned (.tuple #[.agg #[.string N, v], .bool ok]) ∧ (∀ x, parse13 n s = some x → ok = true ∧ N.data.toList = x.1 ∧ HoldT w' v x.2) ∧ (parse13 n s = none → ok = false ∧ N = ⟨#[]⟩ ∧ v = .slice none 0 0) ∧ Below w.heap.size w w'
theorem linesO_cut (s : Bs) : linesO s = if (spl 10 s).getLast? = some [] then some (spl 10 s).dropLast else none := rfl
set_option maxRecDepth 100000 in
set_option maxHeartbeats 16000000 in
theorem parse13_ref (N : ByteArray) (hN : N.size ≤ 4000) (s : ByteArray) (hs : s.size ≤ 80000) (hp : ∀ p ∈ spl 10 s.data.toList, p.length ≤ 4000) (w : World) : Calls Tryd.prog 18 #[.string N, .string s] w (Rp13 N.data.toList s.data.toList w) := by
  have LN := lines_ref2 s (by omega) (w.alloc (.cells #[.string ⟨#[]⟩, .slice none 0 0] 24))
  unfold LinesPost2 at LN
  have HB0 := Lib.hid ((Below.refl w.heap.size w).alloc (Nat.le_refl _) (.cells #[.string ⟨#[]⟩, .slice none 0 0] 24))
  have HX0 := Lib.hid (Box2.new w (.string ⟨#[]⟩) (.slice none 0 0) 24)
  have HBAD : Hid (∀ w', parse13 N.data.toList s.data.toList = none → Below w.heap.size w w' → Rp13 N.data.toList s.data.toList w (.returned (.tuple #[.agg #[.string ⟨#[]⟩, .slice none 0 0], .bool false])) w') := Lib.hid (fun w' h hb => ⟨_, _, false, rfl, fun l hl => (by rw [h] at hl; cases hl), fun _ => ⟨rfl, rfl, rfl⟩, hb⟩)
  have HOK : Hid (∀ l v w', parse13 N.data.toList s.data.toList = some (N.data.toList, l) → HoldT w' v l → Below w.heap.size w w' → Rp13 N.data.toList s.data.toList w (.returned (.tuple #[.agg #[.string N, v], .bool true])) w') := Lib.hid (fun l v w' h h1 hb => ⟨N, v, true, rfl, fun l' hl => (by rw [h] at hl; cases hl; exact ⟨rfl, rfl, h1⟩), fun hn => (by rw [h] at hn; cases hn), hb⟩)
  have hlc := linesO_cut s.data.toList
  have hll := spl_len 10 s.data.toList
  rw [← sizeOf] at hll
  obtain ⟨ls, hls⟩ : ∃ ls, (spl 10 s.data.toList).dropLast = ls := ⟨_, rfl⟩
  have hl1 : ls.length ≤ 90000 := by rw [← hls, List.length_dropLast]; omega
  have HSM : Hid (SmallP ls) := Lib.hid (fun p h => hp p ((List.dropLast_sublist _).subset (by rw [hls]; exact h)))
  have PR0 := fun v W h1 => print13_ref N hN v ls hl1 HSM.out W h1
  unfold Pr13 at PR0
  obtain ⟨T, hT⟩ : ∃ T, T = bsT (print13 (N.data.toList, ls)).1 := ⟨_, rfl⟩
  obtain ⟨z, hz⟩ : ∃ z, z = (print13 (N.data.toList, ls)).2 := ⟨_, rfl⟩
  rw [← hT, ← hz] at PR0
  have HTZ : Hid (print13 (N.data.toList, ls) = (T.data.toList, z)) := Lib.hid (by rw [hT, bytesOf, hz])
  have hq := eqT T s
  rw [hls] at LN hlc
  clear hp hll hls hT hz
  by_cases hok : (spl 10 s.data.toList).getLast? = some []
  case neg =>
    rw [decide_eq_false hok] at LN
    rw [if_neg hok] at hlc
    have HXX := Lib.hid (parse13_none (n := N.data.toList) hlc)
    clear hlc hok
    go_enter Tryd.func18, Tryd.ntmps18
    go_wp2_with (first
      | (go_at_call 54; (with_reducible refine LN.mono ?_); rintro e w1 ⟨v, rfl, hh, hbl, hb⟩; obtain ⟨va, vn, vc, rfl⟩ := HoldT.form hh; have HAP := Lib.hid (fun a n c (e : Value.slice va vn vc = .slice (some a) n c) => (show a.block ≠ w.heap.size by have := hbl a n c e; simp at this; omega)); have HH2 := Lib.hid (hh.on ((Below.refl w1.heap.size w1).alloc (Nat.le_refl _) (.cells #[.string N, .slice va vn vc] 24))); have HB := Lib.hid (HB0.out.trans (hb.mono HB0.out.size)); have HB2 := Lib.hid (HB.out.alloc HB.out.size (.cells #[.string N, .slice va vn vc] 24)); have HR1 := Lib.hid ((HX0.out.on hb).on ((Below.refl w1.heap.size w1).alloc (Nat.le_refl _) (.cells #[.string N, .slice va vn vc] 24))); have HN8 := Lib.hid (Box2.new w1 (.string N) (.slice va vn vc) 24); have PR := PR0 _ _ HH2.out; clear hb hh LN hbl)
      | (go_at_call 11; (with_reducible refine PR.mono ?_); rintro e w4 ⟨rfl, hb⟩; have HB4 := Lib.hid (HB2.out.trans (hb.mono HB2.out.size)); have HR4 := Lib.hid (HR1.out.on hb); obtain ⟨n0, n1, -⟩ := HN8.out.on hb; obtain ⟨r0, r1, rf⟩ := HR4.out; have rf0 := rf 0; have rf1 := rf 1; have HH4 := Lib.hid (HH2.out.on hb); clear hb rf PR))
    obtain ⟨k0, k1⟩ := HR4.out.put (.string ⟨#[]⟩) (.slice none 0 0)
    exact bodyPost_ret (v := .tuple #[.agg #[.string ⟨#[]⟩, .slice none 0 0], .bool false]) (by simp [results, Tryd.results18, go_sem, k0, k1]) rfl (HBAD.out _ HXX.out (put2_below HB4.out (Nat.le_refl _) _ _))
  rw [decide_eq_true hok] at LN
  rw [if_pos hok] at hlc
  have HPS := Lib.hid (parse13_some (n := N.data.toList) hlc)
  clear hlc hok
  by_cases hz0 : z = 0
  · subst hz0
    by_cases hts : T.data.toList = s.data.toList
    · rw [decide_eq_true hts] at hq
      have HXX : Hid (parse13 N.data.toList s.data.toList = some (N.data.toList, ls)) := Lib.hid (by rw [HPS.out, if_pos (by rw [HTZ.out, hts])])
      clear hts
      go_enter Tryd.func18, Tryd.ntmps18
      go_wp2_with (first
        | (go_at_call 54; (with_reducible refine LN.mono ?_); rintro e w1 ⟨v, rfl, hh, hbl, hb⟩; obtain ⟨va, vn, vc, rfl⟩ := HoldT.form hh; have HAP := Lib.hid (fun a n c (e : Value.slice va vn vc = .slice (some a) n c) => (show a.block ≠ w.heap.size by have := hbl a n c e; simp at this; omega)); have HH2 := Lib.hid (hh.on ((Below.refl w1.heap.size w1).alloc (Nat.le_refl _) (.cells #[.string N, .slice va vn vc] 24))); have HB := Lib.hid (HB0.out.trans (hb.mono HB0.out.size)); have HB2 := Lib.hid (HB.out.alloc HB.out.size (.cells #[.string N, .slice va vn vc] 24)); have HR1 := Lib.hid ((HX0.out.on hb).on ((Below.refl w1.heap.size w1).alloc (Nat.le_refl _) (.cells #[.string N, .slice va vn vc] 24))); have HN8 := Lib.hid (Box2.new w1 (.string N) (.slice va vn vc) 24); have PR := PR0 _ _ HH2.out; clear hb hh LN hbl)
        | (go_at_call 11; (with_reducible refine PR.mono ?_); rintro e w4 ⟨rfl, hb⟩; have HB4 := Lib.hid (HB2.out.trans (hb.mono HB2.out.size)); have HR4 := Lib.hid (HR1.out.on hb); obtain ⟨n0, n1, -⟩ := HN8.out.on hb; obtain ⟨r0, r1, rf⟩ := HR4.out; have rf0 := rf 0; have rf1 := rf 1; have HH4 := Lib.hid (HH2.out.on hb); clear hb rf PR))
      obtain ⟨k0, k1⟩ := HR4.out.put (.string N) (.slice va vn vc)
      have HH5 := Lib.hid ((HH4.out.set HAP.out 0 (.string N)).set HAP.out 1 (.slice va vn vc))
      exact bodyPost_ret (v := .tuple #[.agg #[.string N, .slice va vn vc], .bool true]) (by simp [results, Tryd.results18, go_sem, k0, k1]) rfl (HOK.out _ _ _ HXX.out HH5.out (put2_below HB4.out (Nat.le_refl _) _ _))
    · rw [decide_eq_false hts] at hq
      have HXX : Hid (parse13 N.data.toList s.data.toList = none) := Lib.hid (by rw [HPS.out, if_neg (by rw [HTZ.out]; exact fun g => hts (Prod.mk.inj g).1)])
      clear hts
      go_enter Tryd.func18, Tryd.ntmps18
      go_wp2_with (first
        | (go_at_call 54; (with_reducible refine LN.mono ?_); rintro e w1 ⟨v, rfl, hh, hbl, hb⟩; obtain ⟨va, vn, vc, rfl⟩ := HoldT.form hh; have HAP := Lib.hid (fun a n c (e : Value.slice va vn vc = .slice (some a) n c) => (show a.block ≠ w.heap.size by have := hbl a n c e; simp at this; omega)); have HH2 := Lib.hid (hh.on ((Below.refl w1.heap.size w1).alloc (Nat.le_refl _) (.cells #[.string N, .slice va vn vc] 24))); have HB := Lib.hid (HB0.out.trans (hb.mono HB0.out.size)); have HB2 := Lib.hid (HB.out.alloc HB.out.size (.cells #[.string N, .slice va vn vc] 24)); have HR1 := Lib.hid ((HX0.out.on hb).on ((Below.refl w1.heap.size w1).alloc (Nat.le_refl _) (.cells #[.string N, .slice va vn vc] 24))); have HN8 := Lib.hid (Box2.new w1 (.string N) (.slice va vn vc) 24); have PR := PR0 _ _ HH2.out; clear hb hh LN hbl)
        | (go_at_call 11; (with_reducible refine PR.mono ?_); rintro e w4 ⟨rfl, hb⟩; have HB4 := Lib.hid (HB2.out.trans (hb.mono HB2.out.size)); have HR4 := Lib.hid (HR1.out.on hb); obtain ⟨n0, n1, -⟩ := HN8.out.on hb; obtain ⟨r0, r1, rf⟩ := HR4.out; have rf0 := rf 0; have rf1 := rf 1; have HH4 := Lib.hid (HH2.out.on hb); clear hb rf PR))
      obtain ⟨k0, k1⟩ := HR4.out.put (.string ⟨#[]⟩) (.slice none 0 0)
      exact bodyPost_ret (v := .tuple #[.agg #[.string ⟨#[]⟩, .slice none 0 0], .bool false]) (by simp [results, Tryd.results18, go_sem, k0, k1]) rfl (HBAD.out _ HXX.out (put2_below HB4.out (Nat.le_refl _) _ _))
  · have hzb : (z == 0) = false := by rw [beq_eq_false_iff_ne]; exact hz0
    have hzn : (z != 0) = true := by rw [bne, hzb]; rfl
    have HXX : Hid (parse13 N.data.toList s.data.toList = none) := Lib.hid (by rw [HPS.out, if_neg (by rw [HTZ.out]; exact fun g => hz0 (Prod.mk.inj g).2)])
    clear hz0 hq
    go_enter Tryd.func18, Tryd.ntmps18
    go_wp2_with (first
      | (go_at_call 54; (with_reducible refine LN.mono ?_); rintro e w1 ⟨v, rfl, hh, hbl, hb⟩; obtain ⟨va, vn, vc, rfl⟩ := HoldT.form hh; have HAP := Lib.hid (fun a n c (e : Value.slice va vn vc = .slice (some a) n c) => (show a.block ≠ w.heap.size by have := hbl a n c e; simp at this; omega)); have HH2 := Lib.hid (hh.on ((Below.refl w1.heap.size w1).alloc (Nat.le_refl _) (.cells #[.string N, .slice va vn vc] 24))); have HB := Lib.hid (HB0.out.trans (hb.mono HB0.out.size)); have HB2 := Lib.hid (HB.out.alloc HB.out.size (.cells #[.string N, .slice va vn vc] 24)); have HR1 := Lib.hid ((HX0.out.on hb).on ((Below.refl w1.heap.size w1).alloc (Nat.le_refl _) (.cells #[.string N, .slice va vn vc] 24))); have HN8 := Lib.hid (Box2.new w1 (.string N) (.slice va vn vc) 24); have PR := PR0 _ _ HH2.out; clear hb hh LN hbl)
      | (go_at_call 11; (with_reducible refine PR.mono ?_); rintro e w4 ⟨rfl, hb⟩; have HB4 := Lib.hid (HB2.out.trans (hb.mono HB2.out.size)); have HR4 := Lib.hid (HR1.out.on hb); obtain ⟨n0, n1, -⟩ := HN8.out.on hb; obtain ⟨r0, r1, rf⟩ := HR4.out; have rf0 := rf 0; have rf1 := rf 1; have HH4 := Lib.hid (HH2.out.on hb); clear hb rf PR))
    obtain ⟨k0, k1⟩ := HR4.out.put (.string ⟨#[]⟩) (.slice none 0 0)
    exact bodyPost_ret (v := .tuple #[.agg #[.string ⟨#[]⟩, .slice none 0 0], .bool false]) (by simp [results, Tryd.results18, go_sem, k0, k1]) rfl (HBAD.out _ HXX.out (put2_below HB4.out (Nat.le_refl _) _ _))
end Go.Proofs.YtogkickaebmeoaaDoor
